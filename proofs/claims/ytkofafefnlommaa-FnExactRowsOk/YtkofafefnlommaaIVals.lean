/- The contracts of impl's LessVal, SameVals, NumsOf, TextsOf. -/
import Derived.Test.YtkofafefnlommaaVOk
import Derived.BigQuiet
namespace Go.Proofs.Ytkofafefnlommaa
open Go.RowKit

theorem made_one (x : Value) (n : Nat) : (madeCells #[x] n).toList = List.replicate n x := by
  apply List.ext_getElem?
  intro i
  unfold madeCells
  by_cases hi : i < n
  · simp [hi, Nat.mod_one]
  · simp [hi]

/-- A list of zeros, filled up to k. -/
def halfNumsOf (l : List V) (k : Nat) : List Value := ints .i64 ((l.map V.n).take k) ++ List.replicate (l.length - k) (.int .i64 0)
theorem halfNumsOf_set {l : List V} {k : Nat} (h : k < l.length) : (halfNumsOf l k).set k (.int .i64 (l.getD k V.zero).n) = halfNumsOf l (k + 1) := by
  have hl : (ints .i64 ((l.map V.n).take k)).length = k := by simp [ints]; omega
  unfold halfNumsOf
  rw [List.set_append_right _ _ (by omega), hl, Nat.sub_self, show l.length - k = (l.length - (k + 1)) + 1 by omega, List.replicate_succ, List.set_cons_zero, List.take_succ_eq_append_getElem (by simpa using h)]
  simp [ints, h]
theorem halfNumsOf_all (l : List V) : halfNumsOf l l.length = ints .i64 (l.map V.n) := by
  unfold halfNumsOf
  rw [List.take_of_length_le (by simp), Nat.sub_self, List.replicate_zero, List.append_nil]

/-- A list of zeros, filled up to k. -/
def halfTextsOf (l : List V) (k : Nat) : List Value := strs ((l.map V.s).take k) ++ List.replicate (l.length - k) (.string ⟨#[]⟩)
theorem halfTextsOf_set {l : List V} {k : Nat} (h : k < l.length) : (halfTextsOf l k).set k (.string (l.getD k V.zero).s) = halfTextsOf l (k + 1) := by
  have hl : (strs ((l.map V.s).take k)).length = k := by simp [strs]; omega
  unfold halfTextsOf
  rw [List.set_append_right _ _ (by omega), hl, Nat.sub_self, show l.length - k = (l.length - (k + 1)) + 1 by omega, List.replicate_succ, List.set_cons_zero, List.take_succ_eq_append_getElem (by simpa using h)]
  simp [strs, h]
theorem halfTextsOf_all (l : List V) : halfTextsOf l l.length = strs (l.map V.s) := by
  unfold halfTextsOf
  rw [List.take_of_length_le (by simp), Nat.sub_self, List.replicate_zero, List.append_nil]

end Go.Proofs.Ytkofafefnlommaa
