/- The contracts of impl's LessVal, SameVals, NumsOf, TextsOf. -/
import Derived.Test.YtfkmbcjhkfecfaaVOk
import Derived.BigQuiet
namespace Go.Proofs.Ytfkmbcjhkfecfaa
open Go.RowKit

theorem made_one (x : Value) (n : Nat) : (madeCells #[x] n).toList = List.replicate n x := by
  apply List.ext_getElem?
  intro i
  unfold madeCells
  by_cases hi : i < n
  · simp [hi, Nat.mod_one]
  · simp [hi]

theorem iLessVal (a b : V) (w : World) : Calls Try.prog 13 #[a.agg, b.agg] w fun e w' => e = .returned (.bool (lessV a b)) ∧ Below w.heap.size w w' := by
  obtain ⟨t1, n1, s1⟩ := a
  obtain ⟨t2, n2, s2⟩ := b
  have HE := Lib.hid (show lessV ⟨t1, n1, s1⟩ ⟨t2, n2, s2⟩ = if (t1 != t2) = true then decide (t1 < t2) else if (n1 != n2) = true then decide (n1 < n2) else Op.bytesLess s1.toList s2.toList from rfl)
  cases h1 : (t1 != t2) with
  | true =>
    rw [if_pos h1] at HE
    go_enter Try.func13, Try.ntmps13
    go_wp2
    go_ret
    exact ⟨ret_bool HE.out.symm, below_alloc2 _ _ _⟩
  | false =>
    rw [if_neg (by rw [h1]; simp)] at HE
    cases h2 : (n1 != n2) with
    | true =>
      rw [if_pos h2] at HE
      go_enter Try.func13, Try.ntmps13
      go_wp2
      go_ret
      exact ⟨ret_bool HE.out.symm, below_alloc2 _ _ _⟩
    | false =>
      rw [if_neg (by rw [h2]; simp)] at HE
      go_enter Try.func13, Try.ntmps13
      go_wp2
      go_ret
      exact ⟨ret_bool HE.out.symm, below_alloc2 _ _ _⟩

set_option maxHeartbeats 400000 in
theorem iSameVals (u v : Value) (n m : Nat) (l r : List V) (w : World) (hl : l.length = n) (hr : r.length = m) (_ : n ≤ 1048576) (_ : m ≤ 1048576) (h : At 3 w u n (vals l)) (k : At 3 w v m (vals r)) :
    Calls Try.prog 17 #[u, v] w fun e w' => e = .returned (.bool (sameV l r)) ∧ Below w.heap.size w w' := by
  obtain ⟨b1, o1, c1, rfl, hn1, hm1, hl1, hc1⟩ := h
  obtain ⟨b2, o2, c2, rfl, hn2, hm2, hl2, hc2⟩ := k
  unfold maxLen at hm1 hm2
  clear hl1 hl2
  by_cases hnm : n = m
  · subst hnm
    have hne : ((n : Int) != (n : Int)) = false := by simp
    have HL := Lib.hid hl
    have HR := Lib.hid hr
    have HC1 := Lib.hid hc1
    have HC2 := Lib.hid hc2
    clear hl hr hc1 hc2
    go_enter Try.func17, Try.ntmps17
    go_wp2
    go_loopw [14] (fun i wr => ∃ k : Nat, k ≤ n ∧ i = .int .i64 k ∧ (∀ j, j < k → (l.getD j V.zero).eqB (r.getD j V.zero) = true) ∧ Below w.heap.size w wr) (fun i _ => n - (intOf i).toNat)
    case atStart => exact ⟨0, Nat.zero_le _, rfl, fun j hj => by omega, Below.refl _ _⟩
    case round =>
      obtain ⟨k, hk, rfl, hok, hbr⟩ := hrel
      have HOK := Lib.hid hok
      clear hok
      by_cases hlt : k < n
      · obtain ⟨p0, p1, p2⟩ := At.cells3 HC1.out HL.out hlt
        obtain ⟨q0, q1, q2⟩ := At.cells3 HC2.out HR.out hlt
        have HS : Hid ((l.getD k V.zero).eqB (r.getD k V.zero) = true → ∀ j, j < k + 1 → (l.getD j V.zero).eqB (r.getD j V.zero) = true) := fun h j hj => by
          by_cases e : j = k
          · subst e; exact h
          · exact HOK.out j (by omega)
        have HN : Hid ((l.getD k V.zero).eqB (r.getD k V.zero) = false → sameV l r = false) := sameV_no (by rw [HL.out]; exact hlt) (by rw [HL.out, HR.out])
        have HQ := Lib.hid (fun W => run_neq_val (l.getD k V.zero) (r.getD k V.zero) W)
        generalize l.getD k V.zero = x at p0 p1 p2 HS HN HQ
        generalize r.getD k V.zero = y at q0 q1 q2 HS HN HQ
        replace p0 := (hbr.cell (p := ⟨b1, o1 + k * 3, none⟩) (lt_of_cell p0)).trans p0
        replace p1 := (hbr.cell (p := ⟨b1, o1 + k * 3 + 1, none⟩) (lt_of_cell p1)).trans p1
        replace p2 := (hbr.cell (p := ⟨b1, o1 + k * 3 + 2, none⟩) (lt_of_cell p2)).trans p2
        replace q0 := (hbr.cell (p := ⟨b2, o2 + k * 3, none⟩) (lt_of_cell q0)).trans q0
        replace q1 := (hbr.cell (p := ⟨b2, o2 + k * 3 + 1, none⟩) (lt_of_cell q1)).trans q1
        replace q2 := (hbr.cell (p := ⟨b2, o2 + k * 3 + 2, none⟩) (lt_of_cell q2)).trans q2
        have ba := below_alloc wr (.cells #[.int .i64 x.ty, .int .i64 x.n, .string x.s] 26)
        replace q0 := (ba.cell (p := ⟨b2, o2 + k * 3, none⟩) (lt_of_cell q0)).trans q0
        replace q1 := (ba.cell (p := ⟨b2, o2 + k * 3 + 1, none⟩) (lt_of_cell q1)).trans q1
        replace q2 := (ba.cell (p := ⟨b2, o2 + k * 3 + 2, none⟩) (lt_of_cell q2)).trans q2
        cases he : x.eqB y with
        | true =>
          have HS2 := Lib.hid (HS.out he)
          rw [he] at HQ
          obtain ⟨t1, n1, s1⟩ := x
          obtain ⟨t2, n2, s2⟩ := y
          have hq := HQ.out
          clear he HS HN
          go_wp2
          have r0 : (wr.alloc (.cells #[.int .i64 t1, .int .i64 n1, .string s1] 26)).cell? ⟨wr.heap.size, 0, none⟩ = some (.int .i64 t1) := by simp
          have r1 : (wr.alloc (.cells #[.int .i64 t1, .int .i64 n1, .string s1] 26)).cell? ⟨wr.heap.size, 1, none⟩ = some (.int .i64 n1) := by simp
          have r2 : (wr.alloc (.cells #[.int .i64 t1, .int .i64 n1, .string s1] 26)).cell? ⟨wr.heap.size, 2, none⟩ = some (.string s1) := by simp
          have bt := below_then hbr ba hbr.size
          clear p0 p1 p2 ba
          generalize wr.alloc (.cells #[.int .i64 t1, .int .i64 n1, .string s1] 26) = w2 at r0 r1 r2 q0 q1 q2 bt ⊢
          go_quiet (fail)
          go_wp2
          go_roundw
          case rel => exact ⟨k + 1, by omega, by go_num, HS2.out, bt.trans (below_drewN _ _ _)⟩
          case measure => simp [intOf]; omega
        | false =>
          have HN2 := Lib.hid (HN.out he)
          rw [he] at HQ
          obtain ⟨t1, n1, s1⟩ := x
          obtain ⟨t2, n2, s2⟩ := y
          have hq := HQ.out
          clear he HS HN
          go_wp2
          have r0 : (wr.alloc (.cells #[.int .i64 t1, .int .i64 n1, .string s1] 26)).cell? ⟨wr.heap.size, 0, none⟩ = some (.int .i64 t1) := by simp
          have r1 : (wr.alloc (.cells #[.int .i64 t1, .int .i64 n1, .string s1] 26)).cell? ⟨wr.heap.size, 1, none⟩ = some (.int .i64 n1) := by simp
          have r2 : (wr.alloc (.cells #[.int .i64 t1, .int .i64 n1, .string s1] 26)).cell? ⟨wr.heap.size, 2, none⟩ = some (.string s1) := by simp
          have bt := below_then hbr ba hbr.size
          clear p0 p1 p2 ba
          generalize wr.alloc (.cells #[.int .i64 t1, .int .i64 n1, .string s1] 26) = w2 at r0 r1 r2 q0 q1 q2 bt ⊢
          go_quiet (fail)
          go_wp2
          go_ret
          exact ⟨ret_bool HN2.out.symm, bt.trans (below_drewN _ _ _)⟩
      · obtain rfl : k = n := by omega
        have HA : Hid (sameV l r = true) := sameV_all (by rw [HL.out, HR.out]) (fun j hj => HOK.out j (by rw [← HL.out]; exact hj))
        go_wp2
        go_ret
        exact ⟨ret_bool HA.out.symm, hbr⟩
  · have hne : ((n : Int) != (m : Int)) = true := by simp; omega
    have HA : Hid (sameV l r = false) := sameV_len (by omega)
    clear hl hr hc1 hc2
    go_enter Try.func17, Try.ntmps17
    go_wp2
    go_ret
    exact ⟨ret_bool HA.out.symm, Below.refl _ _⟩

/-- A list of zeros, filled up to k. -/
def halfNumsOf (l : List V) (k : Nat) : List Value := ints .i64 ((l.map V.n).take k) ++ List.replicate (l.length - k) (.int .i64 0)
theorem halfNumsOf_set {l : List V} {k : Nat} (h : k < l.length) : (halfNumsOf l k).set k (.int .i64 (l.getD k V.zero).n) = halfNumsOf l (k + 1) := by
  have hl : (ints .i64 ((l.map V.n).take k)).length = k := by simp [ints]; omega
  unfold halfNumsOf
  rw [List.set_append_right _ _ (by omega), hl, Nat.sub_self, show l.length - k = (l.length - (k + 1)) + 1 by omega, List.replicate_succ, List.set_cons_zero, List.take_succ_eq_append_getElem (by simpa using h)]
  simp [ints, h]
theorem halfNumsOf_all (l : List V) : halfNumsOf l l.length = ints .i64 (l.map V.n) := by
  unfold halfNumsOf
  rw [List.take_of_length_le (by simp), Nat.sub_self, List.replicate_zero, List.append_nil]

set_option maxHeartbeats 400000 in
theorem iNumsOf (u : Value) (n : Nat) (l : List V) (w : World) (hn : n ≤ 1048576) (hl : l.length = n) (h : AtN 3 w u n (vals l)) :
    Calls Try.prog 20 #[u] w fun e w' => ∃ v', e = .returned v' ∧ Own 3 1 w.heap.size w'.heap.size w' v' n (ints .i64 (l.map V.n)) ∧ Below w.heap.size w w' := by
  have HL := Lib.hid hl
  obtain ⟨a, cap, rfl, HC⟩ : ∃ a cap, u = .slice a n cap ∧ Hid (∀ k, k < n → ∃ b off, a = some ⟨b, off, none⟩ ∧ w.cell? ⟨b, off + k * 3, none⟩ = some (.int .i64 (l.getD k V.zero).ty) ∧ w.cell? ⟨b, off + k * 3 + 1, none⟩ = some (.int .i64 (l.getD k V.zero).n) ∧ w.cell? ⟨b, off + k * 3 + 2, none⟩ = some (.string (l.getD k V.zero).s)) := by
    rcases h with ⟨rfl, rfl, _⟩ | ⟨b, off, cap, rfl, _, _, _, hc⟩
    · exact ⟨_, _, rfl, fun k hk => by omega⟩
    · exact ⟨_, _, rfl, fun k hk => ⟨b, off, rfl, At.cells3 hc hl hk⟩⟩
  clear hl h
  go_enter Try.func20, Try.ntmps20
  go_wp2_with (at_make; refine make_law Try.elemInts rfl _ _ rfl .i64 .i64 _ _ n rfl rfl rfl rfl (by omega) (by unfold maxLen; omega) ?_)
  intro w1 hown1 hb1
  have hown0 : Own 3 1 w.heap.size w1.heap.size w1 (.slice (some ⟨w.heap.size, 0, none⟩) n n) n (halfNumsOf l 0) := by
    have e : halfNumsOf l 0 = (madeCells #[.int .i64 0] n).toList := by
      unfold halfNumsOf
      rw [HL.out, List.take_zero, made_one]
      simp [ints]
    rw [e]
    exact hown1
  clear hown1
  go_wp2
  go_loopw [11] (fun i wr => ∃ k : Nat, k ≤ n ∧ i = .int .i64 k ∧ wr.ownsRow w.heap.size 3 1 (.slice (some ⟨w.heap.size, 0, none⟩) n n) n (halfNumsOf l k) ∧ Below w.heap.size w wr) (fun i _ => n - (intOf i).toNat)
  case atStart => exact ⟨0, Nat.zero_le _, rfl, hown0.row, hb1⟩
  case round =>
    obtain ⟨k, hk, rfl, hownr, hbr⟩ := hrel
    by_cases hlt : k < n
    · obtain ⟨b, off, rfl, p0, p1, p2⟩ := HC.out k hlt
      have HT := Lib.hid (halfNumsOf_set (l := l) (k := k) (by rw [HL.out]; exact hlt))
      generalize l.getD k V.zero = x at p0 p1 p2 HT
      obtain ⟨t1, n1, s1⟩ := x
      simp only at p0 p1 p2 HT
      replace p0 := (hbr.cell (p := ⟨b, off + k * 3, none⟩) (lt_of_cell p0)).trans p0
      replace p1 := (hbr.cell (p := ⟨b, off + k * 3 + 1, none⟩) (lt_of_cell p1)).trans p1
      replace p2 := (hbr.cell (p := ⟨b, off + k * 3 + 2, none⟩) (lt_of_cell p2)).trans p2
      have ba := below_alloc wr (.cells #[.int .i64 t1, .int .i64 n1, .string s1] 26)
      have bt := below_then hbr ba hbr.size
      have O2 := (own_of_row hownr (Nat.le_refl _)).below ba (Nat.le_refl _)
      have r2 := O2.row
      have R := Lib.hid (r2.stored k (.int .i64 n1))
      rw [HT.out] at R
      obtain ⟨x0, s0⟩ := cellAt_some r2 k (by omega)
      have f0 := r2.frozenAt k
      have HR := Lib.hid hownr
      clear hownr O2 r2 ba HT
      go_wp2
      go_roundw
      case rel => exact ⟨k + 1, by omega, by go_num, R.out.1, bt.trans ⟨R.out.2.os, R.out.2.tape, R.out.2.output, R.out.2.size, fun j hj => R.out.2.block j (by have := bt.size; omega) (by simp; omega)⟩⟩
      case measure => simp [intOf]; omega
    · obtain rfl : k = n := by omega
      rw [← HL.out, halfNumsOf_all, HL.out] at hownr
      go_wp2
      go_ret
      exact ⟨_, rfl, ⟨_, _, rfl, Nat.le_refl _, (hownr.lt _ rfl).2, hownr⟩, hbr⟩

/-- A list of zeros, filled up to k. -/
def halfTextsOf (l : List V) (k : Nat) : List Value := strs ((l.map V.s).take k) ++ List.replicate (l.length - k) (.string ⟨#[]⟩)
theorem halfTextsOf_set {l : List V} {k : Nat} (h : k < l.length) : (halfTextsOf l k).set k (.string (l.getD k V.zero).s) = halfTextsOf l (k + 1) := by
  have hl : (strs ((l.map V.s).take k)).length = k := by simp [strs]; omega
  unfold halfTextsOf
  rw [List.set_append_right _ _ (by omega), hl, Nat.sub_self, show l.length - k = (l.length - (k + 1)) + 1 by omega, List.replicate_succ, List.set_cons_zero, List.take_succ_eq_append_getElem (by simpa using h)]
  simp [strs, h]
theorem halfTextsOf_all (l : List V) : halfTextsOf l l.length = strs (l.map V.s) := by
  unfold halfTextsOf
  rw [List.take_of_length_le (by simp), Nat.sub_self, List.replicate_zero, List.append_nil]

set_option maxHeartbeats 400000 in
theorem iTextsOf (u : Value) (n : Nat) (l : List V) (w : World) (hn : n ≤ 1048576) (hl : l.length = n) (h : AtN 3 w u n (vals l)) :
    Calls Try.prog 26 #[u] w fun e w' => ∃ v', e = .returned v' ∧ Own 9 1 w.heap.size w'.heap.size w' v' n (strs (l.map V.s)) ∧ Below w.heap.size w w' := by
  have HL := Lib.hid hl
  obtain ⟨a, cap, rfl, HC⟩ : ∃ a cap, u = .slice a n cap ∧ Hid (∀ k, k < n → ∃ b off, a = some ⟨b, off, none⟩ ∧ w.cell? ⟨b, off + k * 3, none⟩ = some (.int .i64 (l.getD k V.zero).ty) ∧ w.cell? ⟨b, off + k * 3 + 1, none⟩ = some (.int .i64 (l.getD k V.zero).n) ∧ w.cell? ⟨b, off + k * 3 + 2, none⟩ = some (.string (l.getD k V.zero).s)) := by
    rcases h with ⟨rfl, rfl, _⟩ | ⟨b, off, cap, rfl, _, _, _, hc⟩
    · exact ⟨_, _, rfl, fun k hk => by omega⟩
    · exact ⟨_, _, rfl, fun k hk => ⟨b, off, rfl, At.cells3 hc hl hk⟩⟩
  clear hl h
  go_enter Try.func26, Try.ntmps26
  go_wp2_with (at_make; refine make_law Try.elemStrs rfl _ _ rfl .i64 .i64 _ _ n rfl rfl rfl rfl (by omega) (by unfold maxLen; omega) ?_)
  intro w1 hown1 hb1
  have hown0 : Own 9 1 w.heap.size w1.heap.size w1 (.slice (some ⟨w.heap.size, 0, none⟩) n n) n (halfTextsOf l 0) := by
    have e : halfTextsOf l 0 = (madeCells #[.string ⟨#[]⟩] n).toList := by
      unfold halfTextsOf
      rw [HL.out, List.take_zero, made_one]
      simp [strs]
    rw [e]
    exact hown1
  clear hown1
  go_wp2
  go_loopw [11] (fun i wr => ∃ k : Nat, k ≤ n ∧ i = .int .i64 k ∧ wr.ownsRow w.heap.size 9 1 (.slice (some ⟨w.heap.size, 0, none⟩) n n) n (halfTextsOf l k) ∧ Below w.heap.size w wr) (fun i _ => n - (intOf i).toNat)
  case atStart => exact ⟨0, Nat.zero_le _, rfl, hown0.row, hb1⟩
  case round =>
    obtain ⟨k, hk, rfl, hownr, hbr⟩ := hrel
    by_cases hlt : k < n
    · obtain ⟨b, off, rfl, p0, p1, p2⟩ := HC.out k hlt
      have HT := Lib.hid (halfTextsOf_set (l := l) (k := k) (by rw [HL.out]; exact hlt))
      generalize l.getD k V.zero = x at p0 p1 p2 HT
      obtain ⟨t1, n1, s1⟩ := x
      simp only at p0 p1 p2 HT
      replace p0 := (hbr.cell (p := ⟨b, off + k * 3, none⟩) (lt_of_cell p0)).trans p0
      replace p1 := (hbr.cell (p := ⟨b, off + k * 3 + 1, none⟩) (lt_of_cell p1)).trans p1
      replace p2 := (hbr.cell (p := ⟨b, off + k * 3 + 2, none⟩) (lt_of_cell p2)).trans p2
      have ba := below_alloc wr (.cells #[.int .i64 t1, .int .i64 n1, .string s1] 26)
      have bt := below_then hbr ba hbr.size
      have O2 := (own_of_row hownr (Nat.le_refl _)).below ba (Nat.le_refl _)
      have r2 := O2.row
      have R := Lib.hid (r2.stored k (.string s1))
      rw [HT.out] at R
      obtain ⟨x0, s0⟩ := cellAt_some r2 k (by omega)
      have f0 := r2.frozenAt k
      have HR := Lib.hid hownr
      clear hownr O2 r2 ba HT
      go_wp2
      go_roundw
      case rel => exact ⟨k + 1, by omega, by go_num, R.out.1, bt.trans ⟨R.out.2.os, R.out.2.tape, R.out.2.output, R.out.2.size, fun j hj => R.out.2.block j (by have := bt.size; omega) (by simp; omega)⟩⟩
      case measure => simp [intOf]; omega
    · obtain rfl : k = n := by omega
      rw [← HL.out, halfTextsOf_all, HL.out] at hownr
      go_wp2
      go_ret
      exact ⟨_, rfl, ⟨_, _, rfl, Nat.le_refl _, (hownr.lt _ rfl).2, hownr⟩, hbr⟩

end Go.Proofs.Ytfkmbcjhkfecfaa
