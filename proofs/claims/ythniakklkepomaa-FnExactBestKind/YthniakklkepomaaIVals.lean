/- The contracts of impl's LessVal, SameVals, NumsOf, TextsOf. -/
import Derived.Test.YthniakklkepomaaVOk
import Derived.BigQuiet
namespace Go.Proofs.Ythniakklkepomaa
open Go.RowKit

theorem made_one (x : Value) (n : Nat) : (madeCells #[x] n).toList = List.replicate n x := by
  apply List.ext_getElem?
  intro i
  unfold madeCells
  by_cases hi : i < n
  · simp [hi, Nat.mod_one]
  · simp [hi]

theorem iLessVal (a b : V) (w : World) : Calls Try.prog 89 #[a.agg, b.agg] w fun e w' => e = .returned (.bool (lessV a b)) ∧ Below w.heap.size w w' := by
  obtain ⟨t1, n1, s1⟩ := a
  obtain ⟨t2, n2, s2⟩ := b
  have HE := Lib.hid (show lessV ⟨t1, n1, s1⟩ ⟨t2, n2, s2⟩ = if (t1 != t2) = true then decide (t1 < t2) else if (n1 != n2) = true then decide (n1 < n2) else Op.bytesLess s1.toList s2.toList from rfl)
  cases h1 : (t1 != t2) with
  | true =>
    rw [if_pos h1] at HE
    go_enter Try.func89, Try.ntmps89
    go_wp2
    go_ret
    exact ⟨ret_bool HE.out.symm, below_alloc2 _ _ _⟩
  | false =>
    rw [if_neg (by rw [h1]; simp)] at HE
    cases h2 : (n1 != n2) with
    | true =>
      rw [if_pos h2] at HE
      go_enter Try.func89, Try.ntmps89
      go_wp2
      go_ret
      exact ⟨ret_bool HE.out.symm, below_alloc2 _ _ _⟩
    | false =>
      rw [if_neg (by rw [h2]; simp)] at HE
      go_enter Try.func89, Try.ntmps89
      go_wp2
      go_ret
      exact ⟨ret_bool HE.out.symm, below_alloc2 _ _ _⟩

/-- A list of zeros, filled up to k. -/
def halfNumsOf (l : List V) (k : Nat) : List Value := ints .i64 ((l.map V.n).take k) ++ List.replicate (l.length - k) (.int .i64 0)
theorem halfNumsOf_set {l : List V} {k : Nat} (h : k < l.length) : (halfNumsOf l k).set k (.int .i64 (l.getD k V.zero).n) = halfNumsOf l (k + 1) := by
  have hl : (ints .i64 ((l.map V.n).take k)).length = k := by simp [ints]; omega
  unfold halfNumsOf
  rw [List.set_append_right _ _ (by omega), hl, Nat.sub_self, show l.length - k = (l.length - (k + 1)) + 1 by omega, List.replicate_succ, List.set_cons_zero, List.take_succ_eq_append_getElem (by simpa using h)]
  simp [ints, h]
theorem halfNumsOf_all (l : List V) : halfNumsOf l l.length = ints .i64 (l.map V.n) := by
  unfold halfNumsOf
  rw [List.take_of_length_le (by simp), Nat.sub_self, List.replicate_zero, List.append_nil]

/-- A list of zeros, filled up to k. -/
def halfTextsOf (l : List V) (k : Nat) : List Value := strs ((l.map V.s).take k) ++ List.replicate (l.length - k) (.string ⟨#[]⟩)
theorem halfTextsOf_set {l : List V} {k : Nat} (h : k < l.length) : (halfTextsOf l k).set k (.string (l.getD k V.zero).s) = halfTextsOf l (k + 1) := by
  have hl : (strs ((l.map V.s).take k)).length = k := by simp [strs]; omega
  unfold halfTextsOf
  rw [List.set_append_right _ _ (by omega), hl, Nat.sub_self, show l.length - k = (l.length - (k + 1)) + 1 by omega, List.replicate_succ, List.set_cons_zero, List.take_succ_eq_append_getElem (by simpa using h)]
  simp [strs, h]
theorem halfTextsOf_all (l : List V) : halfTextsOf l l.length = strs (l.map V.s) := by
  unfold halfTextsOf
  rw [List.take_of_length_le (by simp), Nat.sub_self, List.replicate_zero, List.append_nil]

end Go.Proofs.Ythniakklkepomaa
