/- The contracts of impl's LessVal, SameVals, NumsOf, TextsOf. -/
import Derived.Test.YtdclbpbjdaefhaaVOk
import Derived.BigQuiet
namespace Go.Proofs.Ytdclbpbjdaefhaa
open Go.RowKit

theorem made_one (x : Value) (n : Nat) : (madeCells #[x] n).toList = List.replicate n x := by
  apply List.ext_getElem?
  intro i
  unfold madeCells
  by_cases hi : i < n
  · simp [hi, Nat.mod_one]
  · simp [hi]

set_option maxHeartbeats 400000 in
theorem iSameValsR (u v : Value) (n m : Nat) (l r : List V) (w : World) (hl : l.length = n) (hr : r.length = m) (h : Rd 3 w u n (vals l)) (k : Rd 3 w v m (vals r)) :
    Calls Try.prog 43 #[u, v] w fun e w' => e = .returned (.bool (sameV l r)) ∧ Below w.heap.size w w' := by
  obtain ⟨a1, c1, rfl, hm1, HC1⟩ := h.vals hl
  obtain ⟨a2, c2, rfl, hm2, HC2⟩ := k.vals hr
  unfold maxLen at hm1 hm2
  clear h k
  by_cases hnm : n = m
  · subst hnm
    have hne : ((n : Int) != (n : Int)) = false := by simp
    have HL := Lib.hid hl
    have HR := Lib.hid hr
    clear hl hr
    go_enter Try.func43, Try.ntmps43
    go_wp2
    go_loopw [14] (fun i wr => ∃ k : Nat, k ≤ n ∧ i = .int .i64 k ∧ (∀ j, j < k → (l.getD j V.zero).eqB (r.getD j V.zero) = true) ∧ Below w.heap.size w wr) (fun i _ => n - (intOf i).toNat)
    case atStart => exact ⟨0, Nat.zero_le _, rfl, fun j hj => by omega, Below.refl _ _⟩
    case round =>
      obtain ⟨k, hk, rfl, hok, hbr⟩ := hrel
      have HOK := Lib.hid hok
      clear hok
      by_cases hlt : k < n
      · obtain ⟨b1, o1, rfl, p0, p1, p2⟩ := HC1.out k hlt
        obtain ⟨b2, o2, rfl, q0, q1, q2⟩ := HC2.out k hlt
        have HS : Hid ((l.getD k V.zero).eqB (r.getD k V.zero) = true → ∀ j, j < k + 1 → (l.getD j V.zero).eqB (r.getD j V.zero) = true) := fun h j hj => by
          by_cases e : j = k
          · subst e; exact h
          · exact HOK.out j (by omega)
        have HN : Hid ((l.getD k V.zero).eqB (r.getD k V.zero) = false → sameV l r = false) := sameV_no (by rw [HL.out]; exact hlt) (by rw [HL.out, HR.out])
        have HQ := Lib.hid (fun W => run_neq_val (l.getD k V.zero) (r.getD k V.zero) W)
        generalize l.getD k V.zero = x at p0 p1 p2 HS HN HQ
        generalize r.getD k V.zero = y at q0 q1 q2 HS HN HQ
        replace p0 := (hbr.cell (p := ⟨b1, o1 + k * 3, none⟩) (lt_of_cell p0)).trans p0
        replace p1 := (hbr.cell (p := ⟨b1, o1 + k * 3 + 1, none⟩) (lt_of_cell p1)).trans p1
        replace p2 := (hbr.cell (p := ⟨b1, o1 + k * 3 + 2, none⟩) (lt_of_cell p2)).trans p2
        replace q0 := (hbr.cell (p := ⟨b2, o2 + k * 3, none⟩) (lt_of_cell q0)).trans q0
        replace q1 := (hbr.cell (p := ⟨b2, o2 + k * 3 + 1, none⟩) (lt_of_cell q1)).trans q1
        replace q2 := (hbr.cell (p := ⟨b2, o2 + k * 3 + 2, none⟩) (lt_of_cell q2)).trans q2
        have ba := below_alloc wr (.cells #[.int .i64 x.ty, .int .i64 x.n, .string x.s] 58)
        replace q0 := (ba.cell (p := ⟨b2, o2 + k * 3, none⟩) (lt_of_cell q0)).trans q0
        replace q1 := (ba.cell (p := ⟨b2, o2 + k * 3 + 1, none⟩) (lt_of_cell q1)).trans q1
        replace q2 := (ba.cell (p := ⟨b2, o2 + k * 3 + 2, none⟩) (lt_of_cell q2)).trans q2
        cases he : x.eqB y with
        | true =>
          have HS2 := Lib.hid (HS.out he)
          rw [he] at HQ
          obtain ⟨t1, n1, s1⟩ := x
          obtain ⟨t2, n2, s2⟩ := y
          have hq := HQ.out
          clear he HS HN
          go_wp2
          have r0 : (wr.alloc (.cells #[.int .i64 t1, .int .i64 n1, .string s1] 58)).cell? ⟨wr.heap.size, 0, none⟩ = some (.int .i64 t1) := by simp
          have r1 : (wr.alloc (.cells #[.int .i64 t1, .int .i64 n1, .string s1] 58)).cell? ⟨wr.heap.size, 1, none⟩ = some (.int .i64 n1) := by simp
          have r2 : (wr.alloc (.cells #[.int .i64 t1, .int .i64 n1, .string s1] 58)).cell? ⟨wr.heap.size, 2, none⟩ = some (.string s1) := by simp
          have bt := below_then hbr ba hbr.size
          clear p0 p1 p2 ba
          generalize wr.alloc (.cells #[.int .i64 t1, .int .i64 n1, .string s1] 58) = w2 at r0 r1 r2 q0 q1 q2 bt ⊢
          go_quiet (fail)
          go_wp2
          go_roundw
          case rel => exact ⟨k + 1, by omega, by go_num, HS2.out, bt.trans (below_drewN _ _ _)⟩
          case measure => simp [intOf]; omega
        | false =>
          have HN2 := Lib.hid (HN.out he)
          rw [he] at HQ
          obtain ⟨t1, n1, s1⟩ := x
          obtain ⟨t2, n2, s2⟩ := y
          have hq := HQ.out
          clear he HS HN
          go_wp2
          have r0 : (wr.alloc (.cells #[.int .i64 t1, .int .i64 n1, .string s1] 58)).cell? ⟨wr.heap.size, 0, none⟩ = some (.int .i64 t1) := by simp
          have r1 : (wr.alloc (.cells #[.int .i64 t1, .int .i64 n1, .string s1] 58)).cell? ⟨wr.heap.size, 1, none⟩ = some (.int .i64 n1) := by simp
          have r2 : (wr.alloc (.cells #[.int .i64 t1, .int .i64 n1, .string s1] 58)).cell? ⟨wr.heap.size, 2, none⟩ = some (.string s1) := by simp
          have bt := below_then hbr ba hbr.size
          clear p0 p1 p2 ba
          generalize wr.alloc (.cells #[.int .i64 t1, .int .i64 n1, .string s1] 58) = w2 at r0 r1 r2 q0 q1 q2 bt ⊢
          go_quiet (fail)
          go_wp2
          go_ret
          exact ⟨ret_bool HN2.out.symm, bt.trans (below_drewN _ _ _)⟩
      · obtain rfl : k = n := by omega
        have HA : Hid (sameV l r = true) := sameV_all (by rw [HL.out, HR.out]) (fun j hj => HOK.out j (by rw [← HL.out]; exact hj))
        go_wp2
        go_ret
        exact ⟨ret_bool HA.out.symm, hbr⟩
  · have hne : ((n : Int) != (m : Int)) = true := by simp; omega
    have HA : Hid (sameV l r = false) := sameV_len (by omega)
    clear hl hr
    go_enter Try.func43, Try.ntmps43
    go_wp2
    go_ret
    exact ⟨ret_bool HA.out.symm, Below.refl _ _⟩

theorem iSameVals (u v : Value) (n m : Nat) (l r : List V) (w : World) (hl : l.length = n) (hr : r.length = m) (_ : n ≤ 1048576) (_ : m ≤ 1048576) (h : At 3 w u n (vals l)) (k : At 3 w v m (vals r)) :
    Calls Try.prog 43 #[u, v] w fun e w' => e = .returned (.bool (sameV l r)) ∧ Below w.heap.size w w' := iSameValsR u v n m l r w hl hr h.rd k.rd

/-- A list of zeros, filled up to k. -/
def halfNumsOf (l : List V) (k : Nat) : List Value := ints .i64 ((l.map V.n).take k) ++ List.replicate (l.length - k) (.int .i64 0)
theorem halfNumsOf_set {l : List V} {k : Nat} (h : k < l.length) : (halfNumsOf l k).set k (.int .i64 (l.getD k V.zero).n) = halfNumsOf l (k + 1) := by
  have hl : (ints .i64 ((l.map V.n).take k)).length = k := by simp [ints]; omega
  unfold halfNumsOf
  rw [List.set_append_right _ _ (by omega), hl, Nat.sub_self, show l.length - k = (l.length - (k + 1)) + 1 by omega, List.replicate_succ, List.set_cons_zero, List.take_succ_eq_append_getElem (by simpa using h)]
  simp [ints, h]
theorem halfNumsOf_all (l : List V) : halfNumsOf l l.length = ints .i64 (l.map V.n) := by
  unfold halfNumsOf
  rw [List.take_of_length_le (by simp), Nat.sub_self, List.replicate_zero, List.append_nil]

/-- A list of zeros, filled up to k. -/
def halfTextsOf (l : List V) (k : Nat) : List Value := strs ((l.map V.s).take k) ++ List.replicate (l.length - k) (.string ⟨#[]⟩)
theorem halfTextsOf_set {l : List V} {k : Nat} (h : k < l.length) : (halfTextsOf l k).set k (.string (l.getD k V.zero).s) = halfTextsOf l (k + 1) := by
  have hl : (strs ((l.map V.s).take k)).length = k := by simp [strs]; omega
  unfold halfTextsOf
  rw [List.set_append_right _ _ (by omega), hl, Nat.sub_self, show l.length - k = (l.length - (k + 1)) + 1 by omega, List.replicate_succ, List.set_cons_zero, List.take_succ_eq_append_getElem (by simpa using h)]
  simp [strs, h]
theorem halfTextsOf_all (l : List V) : halfTextsOf l l.length = strs (l.map V.s) := by
  unfold halfTextsOf
  rw [List.take_of_length_le (by simp), Nat.sub_self, List.replicate_zero, List.append_nil]

end Go.Proofs.Ytdclbpbjdaefhaa
