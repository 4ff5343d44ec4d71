/- The contracts of the model's chapter 3 that do no text: LessVal, SameVals, NumsOf, TextsOf, ValOk. -/
import Derived.Test.YtdclbpbjdaefhaaVText
import Derived.Test.YtdclbpbjdaefhaaNumOk
import Derived.Laws.StructEq
import Derived.ChangeKeysEq
namespace Go.Proofs.Ytdclbpbjdaefhaa
open Go.RowKit

/-- LessVal. -/
def lessV (a b : V) : Bool := if (a.ty != b.ty) = true then decide (a.ty < b.ty) else if (a.n != b.n) = true then decide (a.n < b.n) else Op.bytesLess a.s.toList b.s.toList
theorem list3 {α : Type} {l : List α} (h : l.length = 3) : ∃ a b c, l = [a, b, c] := by
  match l, h with
  | [a, b, c], _ => exact ⟨a, b, c, rfl⟩
/-- a == b. -/
def V.eqB (a b : V) : Bool := (a.ty == b.ty) && ((a.n == b.n) && (a.s.toList == b.s.toList))
theorem run_eq_val (a b : V) (w : World) : (Op.equalIn 10000 58 a.agg b.agg).run Try.prog w = .ok (a.eqB b) w := by
  obtain ⟨t1, n1, s1⟩ := a
  obtain ⟨t2, n2, s2⟩ := b
  rw [show V.agg ⟨t1, n1, s1⟩ = .agg #[.int .i64 t1, .int .i64 n1, .string s1] from rfl, show V.agg ⟨t2, n2, s2⟩ = .agg #[.int .i64 t2, .int .i64 n2, .string s2] from rfl]
  rw [run_equalIn_struct w 9999 58 _ _ (by kernel_rfl) (by kernel_rfl)]
  have hf : ((Try.prog.fieldsOf 58).toList.map fun f => (f.name, f.type, f.offset)) = [("Ty", 3, 0), ("N", 3, 1), ("S", 9, 2)] := by kernel_rfl
  generalize (Try.prog.fieldsOf 58).toList = fs at hf ⊢
  obtain ⟨f0, f1, f2, rfl⟩ := list3 (by simpa using congrArg List.length hf)
  simp only [List.map_cons, List.map_nil, List.cons.injEq, Prod.mk.injEq, and_true] at hf
  obtain ⟨⟨a0, a1, a2⟩, ⟨b0, b1, b2⟩, c0, c1, c2⟩ := hf
  have hp3 : Try.prog.plainKey 3 = true := by kernel_rfl
  have hp9 : Try.prog.plainKey 9 = true := by kernel_rfl
  have P0 := fun (W : World) (x y z : Value) => run_part_plain (P := Try.prog) W hp3 (xs := #[x, y, z]) (off := 0) (v := x) rfl
  have P1 := fun (W : World) (x y z : Value) => run_part_plain (P := Try.prog) W hp3 (xs := #[x, y, z]) (off := 1) (v := y) rfl
  have P2 := fun (W : World) (x y z : Value) => run_part_plain (P := Try.prog) W hp9 (xs := #[x, y, z]) (off := 2) (v := z) rfl
  have E0 := fun (W : World) (x y : Int) => run_equalIn_int (P := Try.prog) W 9998 3 .i64 .i64 x y Try.underlying3
  have E2 := fun (W : World) (x y : ByteArray) => run_equalIn_string (P := Try.prog) W 9998 9 x y Try.underlying9
  simp only [Nat.reduceAdd] at E0 E2
  simp only [Op.eqFields, a0, a1, a2, b0, b1, b2, c0, c1, c2, ne_eq, show ¬ "Ty" = "_" by decide, show ¬ "N" = "_" by decide, show ¬ "S" = "_" by decide, not_false_eq_true, if_true, Sem.run_bind, P0, P1, P2, E0, E2, Result.andThen_ok, Sem.run_ite, Sem.run_pure]
  unfold V.eqB
  simp only
  cases (t1 == t2) <;> cases (n1 == n2) <;> cases (s1.toList == s2.toList) <;> rfl
theorem run_neq_val (a b : V) (w : World) : (binOp .neq 58 a.agg b.agg).run Try.prog w = .ok (.bool (!(a.eqB b))) w := by
  rw [run_neq_struct, run_eq_val]
  rfl
theorem run_eql_val (a b : V) (w : World) : (binOp .eql 58 a.agg b.agg).run Try.prog w = .ok (.bool (a.eqB b)) w := by
  rw [run_eql_struct, run_eq_val]
  rfl

/-- SameVals. -/
def sameV : List V → List V → Bool
  | [], [] => true
  | a :: l, b :: r => a.eqB b && sameV l r
  | _, _ => false
theorem sameV_len {l r : List V} (h : l.length ≠ r.length) : sameV l r = false := by
  induction l generalizing r with
  | nil => cases r with
    | nil => simp at h
    | cons => rfl
  | cons a l ih => cases r with
    | nil => rfl
    | cons b r => rw [sameV, ih (by simpa using h), Bool.and_false]
theorem sameV_all {l r : List V} (hn : l.length = r.length) (h : ∀ k, k < l.length → (l.getD k V.zero).eqB (r.getD k V.zero) = true) : sameV l r = true := by
  induction l generalizing r with
  | nil => cases r with
    | nil => rfl
    | cons => simp at hn
  | cons a l ih => cases r with
    | nil => simp at hn
    | cons b r =>
      rw [sameV, ih (by simpa using hn) (fun k hk => by simpa using h (k + 1) (by simpa using hk)), Bool.and_true]
      simpa using h 0 (by simp)
theorem sameV_no {l r : List V} {k : Nat} (hk : k < l.length) (hn : l.length = r.length) (h : (l.getD k V.zero).eqB (r.getD k V.zero) = false) : sameV l r = false := by
  induction l generalizing r k with
  | nil => simp at hk
  | cons a l ih => cases r with
    | nil => simp at hn
    | cons b r =>
      cases k with
      | zero =>
        simp only [List.getD_cons_zero] at h
        rw [sameV, h, Bool.false_and]
      | succ k => rw [sameV, ih (k := k) (by simpa using hk) (by simpa using hn) (by simpa using h), Bool.and_false]

set_option maxHeartbeats 400000 in
theorem sSameValsR (u v : Value) (n m : Nat) (l r : List V) (w : World) (hl : l.length = n) (hr : r.length = m) (h : Rd 3 w u n (vals l)) (k : Rd 3 w v m (vals r)) :
    Calls Try.prog 42 #[u, v] w fun e w' => e = .returned (.bool (sameV l r)) ∧ Below w.heap.size w w' := by
  obtain ⟨a1, c1, rfl, hm1, HC1⟩ := h.vals hl
  obtain ⟨a2, c2, rfl, hm2, HC2⟩ := k.vals hr
  unfold maxLen at hm1 hm2
  clear h k
  by_cases hnm : n = m
  · subst hnm
    have hne : ((n : Int) != (n : Int)) = false := by simp
    have HL := Lib.hid hl
    have HR := Lib.hid hr
    clear hl hr
    go_enter Try.func42, Try.ntmps42
    go_wp2
    go_loopw [5] (fun i wr => ∃ k : Nat, k ≤ n ∧ i = .int .i64 k ∧ (∀ j, j < k → (l.getD j V.zero).eqB (r.getD j V.zero) = true) ∧ ∃ d, wr = w.drewN d) (fun i _ => n - (intOf i).toNat)
    case atStart => exact ⟨0, Nat.zero_le _, rfl, fun j hj => by omega, 0, rfl⟩
    case round =>
      obtain ⟨k, hk, rfl, hok, d, rfl⟩ := hrel
      have HOK := Lib.hid hok
      clear hok
      by_cases hlt : k < n
      · obtain ⟨b1, o1, rfl, p0, p1, p2⟩ := HC1.out k hlt
        obtain ⟨b2, o2, rfl, q0, q1, q2⟩ := HC2.out k hlt
        have HS : Hid ((l.getD k V.zero).eqB (r.getD k V.zero) = true → ∀ j, j < k + 1 → (l.getD j V.zero).eqB (r.getD j V.zero) = true) := fun h j hj => by
          by_cases e : j = k
          · subst e; exact h
          · exact HOK.out j (by omega)
        have HN : Hid ((l.getD k V.zero).eqB (r.getD k V.zero) = false → sameV l r = false) := sameV_no (by rw [HL.out]; exact hlt) (by rw [HL.out, HR.out])
        have HQ := Lib.hid (fun W => run_neq_val (l.getD k V.zero) (r.getD k V.zero) W)
        generalize l.getD k V.zero = x at p0 p1 p2 HS HN HQ
        generalize r.getD k V.zero = y at q0 q1 q2 HS HN HQ
        cases he : x.eqB y with
        | true =>
          have HS2 := Lib.hid (HS.out he)
          rw [he] at HQ
          obtain ⟨t1, n1, s1⟩ := x
          obtain ⟨t2, n2, s2⟩ := y
          have hq := HQ.out
          clear he HS HN
          go_wp2
          go_quiet (fail)
          go_wp2
          go_roundw
          case rel => exact ⟨k + 1, by omega, by go_num, HS2.out, _, rfl⟩
          case measure => simp [intOf]; omega
        | false =>
          have HN2 := Lib.hid (HN.out he)
          rw [he] at HQ
          obtain ⟨t1, n1, s1⟩ := x
          obtain ⟨t2, n2, s2⟩ := y
          have hq := HQ.out
          clear he HS HN
          go_wp2
          go_quiet (fail)
          go_wp2
          go_ret
          exact ⟨ret_bool HN2.out.symm, (below_drewN _ _ _).trans (below_drewN _ _ _)⟩
      · obtain rfl : k = n := by omega
        have HA : Hid (sameV l r = true) := sameV_all (by rw [HL.out, HR.out]) (fun j hj => HOK.out j (by rw [← HL.out]; exact hj))
        go_wp2
        go_ret
        exact ⟨ret_bool HA.out.symm, below_drewN _ _ _⟩
  · have hne : ((n : Int) != (m : Int)) = true := by simp; omega
    have HA : Hid (sameV l r = false) := sameV_len (by omega)
    clear hl hr
    go_enter Try.func42, Try.ntmps42
    go_wp2
    go_ret
    exact ⟨ret_bool HA.out.symm, Below.refl _ _⟩

theorem sSameVals (u v : Value) (n m : Nat) (l r : List V) (w : World) (hl : l.length = n) (hr : r.length = m) (h : At 3 w u n (vals l)) (k : At 3 w v m (vals r)) :
    Calls Try.prog 42 #[u, v] w fun e w' => e = .returned (.bool (sameV l r)) ∧ Below w.heap.size w w' := sSameValsR u v n m l r w hl hr h.rd k.rd

end Go.Proofs.Ytdclbpbjdaefhaa
