/- The contracts of the model's chapter 4 that do no text: ColsOk, FitsCols, RowOk, SameRow, SameRows, Column. -/
import Derived.Test.YtkofafefnlommaaR4S
import Derived.Test.YtkofafefnlommaaVOk
import Derived.Test.YtkofafefnlommaaTake
namespace Go.Proofs.Ytkofafefnlommaa
open Go.RowKit

/-- ColsOk. -/
def colsB (zs : List Int) : Bool := zs.all (fun z => Num.inB z 1 2) && Num.inB zs.length 1 3
theorem colsB_no {zs : List Int} {k : Nat} (hk : k < zs.length) (h : Num.inB (zs.getD k 0) 1 2 = false) : colsB zs = false := by
  have e : zs.getD k 0 = zs[k] := by simp [hk]
  rw [e] at h
  unfold colsB
  rw [Bool.and_eq_false_iff]
  left
  rw [List.all_eq_false]
  exact ⟨_, List.getElem_mem hk, by rw [h]; simp⟩
theorem colsB_all {zs : List Int} (h : ∀ k, k < zs.length → Num.inB (zs.getD k 0) 1 2 = true) : colsB zs = Num.inB zs.length 1 3 := by
  unfold colsB
  rw [List.all_eq_true.2, Bool.true_and]
  intro z hz
  obtain ⟨k, hk, rfl⟩ := List.getElem_of_mem hz
  have := h k hk
  simpa [hk] using this

set_option maxHeartbeats 400000 in
theorem sColsOk (u : Value) (zs : List Int) (w : World) (h : Rd 1 w u zs.length (ints .i64 zs)) :
    Calls Try.prog 53 #[u] w fun e w' => e = .returned (.bool (colsB zs)) ∧ w = w' := by
  generalize hl : zs.length = n at h
  obtain ⟨a, cap, rfl, hm, HC⟩ := h.ints hl
  unfold maxLen at hm
  have HL := Lib.hid hl
  clear h hl
  go_enter Try.func53, Try.ntmps53
  go_wp2
  go_loop [3] (fun i => ∃ k : Nat, k ≤ n ∧ i = .int .i64 k ∧ ∀ j, j < k → Num.inB (zs.getD j 0) 1 2 = true) (fun i => n - (intOf i).toNat)
  case atStart => exact ⟨0, Nat.zero_le _, rfl, fun j hj => by omega⟩
  case round =>
    obtain ⟨k, hk, rfl, hok⟩ := hrel
    have HOK := Lib.hid hok
    clear hok
    by_cases hlt : k < n
    · obtain ⟨b, off, rfl, hc⟩ := HC.out k hlt
      have HS : Hid (Num.inB (zs.getD k 0) 1 2 = true → ∀ j, j < k + 1 → Num.inB (zs.getD j 0) 1 2 = true) := fun h j hj => by
        by_cases e : j = k
        · subst e; exact h
        · exact HOK.out j (by omega)
      have HN : Hid (Num.inB (zs.getD k 0) 1 2 = false → colsB zs = false) := colsB_no (by rw [HL.out]; exact hlt)
      generalize zs.getD k 0 = z at hc HS HN
      have HI := Lib.hid (fun W => l1In z 1 2 W)
      cases hz : Num.inB z 1 2 with
      | true =>
        have HS2 := Lib.hid (HS.out hz)
        rw [hz] at HI
        clear hz HS HN
        go_wp2_with (go_at_call 71; refine (HI.out _).mono ?_; rintro e w' ⟨rfl, rfl⟩)
        go_round
        case rel => exact ⟨k + 1, by omega, by go_num, HS2.out⟩
        case measure => simp [intOf]; omega
      | false =>
        have HN2 := Lib.hid (HN.out hz)
        rw [hz] at HI
        clear hz HS HN
        go_wp2_with (go_at_call 71; refine (HI.out _).mono ?_; rintro e w' ⟨rfl, rfl⟩)
        go_ret
        exact ⟨ret_bool HN2.out.symm, rfl⟩
    · obtain rfl : k = n := by omega
      have HA : Hid (colsB zs = Num.inB k 1 3) := by
        show colsB zs = _
        rw [colsB_all (fun j hj => HOK.out j (by rw [← HL.out]; exact hj)), HL.out]
      have HI := Lib.hid (fun W => l1In k 1 3 W)
      go_wp2_with (go_at_call 71; refine (HI.out _).mono ?_; rintro e w' ⟨rfl, rfl⟩)
      go_ret
      exact ⟨ret_bool HA.out.symm, rfl⟩

-- FITSCOLS
/-- A value that fits its column. -/
def fitB (z : Int) (v : V) : Bool := okV v && v.ty == z
/-- FitsCols. -/
def fitsB (zs : List Int) (l : List V) : Bool := all2 fitB zs l

set_option maxHeartbeats 1000000 in
theorem sFitsCols (u v : Value) (zs : List Int) (l : List V) (w : World) (hss : ∀ v ∈ l, v.s.size ≤ maxLen) (h : Rd 1 w u zs.length (ints .i64 zs)) (h2 : Rd 3 w v l.length (vals l)) :
    Calls Try.prog 70 #[u, v] w fun e w' => e = .returned (.bool (fitsB zs l)) ∧ Below w.heap.size w w' := by
  generalize hl : zs.length = n at h
  generalize hr : l.length = m at h2
  obtain ⟨a1, c1, rfl, hm1, HC1⟩ := h.ints hl
  obtain ⟨a2, c2, rfl, hm2, HC2⟩ := h2.vals hr
  unfold maxLen at hm1 hm2
  have HSS : Hid (∀ k, k < m → (l.getD k V.zero).s.size ≤ maxLen) := by
    intro k hk
    have hk' : k < l.length := by omega
    have e : l.getD k V.zero = l[k] := by simp [hk']
    rw [e]
    exact hss _ (List.getElem_mem hk')
  clear h h2 hss
  by_cases hnm : n = m
  · subst hnm
    have hne : ((n : Int) != (n : Int)) = false := by simp
    have HL := Lib.hid hl
    have HR := Lib.hid hr
    clear hl hr
    go_enter Try.func70, Try.ntmps70
    go_wp2
    go_loopw [5] (fun i wr => ∃ k : Nat, k ≤ n ∧ i = .int .i64 k ∧ (∀ j, j < k → fitB (zs.getD j 0) (l.getD j V.zero) = true) ∧ Below w.heap.size w wr) (fun i _ => n - (intOf i).toNat)
    case atStart => exact ⟨0, Nat.zero_le _, rfl, fun j hj => by omega, Below.refl _ _⟩
    case round =>
      obtain ⟨k, hk, rfl, hok, hbr⟩ := hrel
      have HOK := Lib.hid hok
      clear hok
      by_cases hlt : k < n
      · obtain ⟨b1, o1, rfl, p0⟩ := HC1.out k hlt
        obtain ⟨b2, o2, rfl, q0, q1, q2⟩ := HC2.out k hlt
        have HS : Hid (fitB (zs.getD k 0) (l.getD k V.zero) = true → ∀ j, j < k + 1 → fitB (zs.getD j 0) (l.getD j V.zero) = true) := fun h j hj => by
          by_cases e : j = k
          · subst e; exact h
          · exact HOK.out j (by omega)
        have HN : Hid (fitB (zs.getD k 0) (l.getD k V.zero) = false → fitsB zs l = false) := all2_no 0 V.zero (by rw [HL.out]; exact hlt) (by rw [HL.out, HR.out])
        have HO := Lib.hid (fun W => sValOk (l.getD k V.zero) W (HSS.out k hlt))
        generalize zs.getD k 0 = z at p0 HS HN
        generalize l.getD k V.zero = x at q0 q1 q2 HS HN HO
        have HF : Hid (fitB z x = (okV x && x.ty == z)) := rfl
        obtain ⟨t2, n2, s2⟩ := x
        simp only at q0 q1 q2
        replace p0 := (hbr.cell (p := ⟨b1, o1 + k, none⟩) (lt_of_cell p0)).trans p0
        replace q0 := (hbr.cell (p := ⟨b2, o2 + k * 3, none⟩) (lt_of_cell q0)).trans q0
        replace q1 := (hbr.cell (p := ⟨b2, o2 + k * 3 + 1, none⟩) (lt_of_cell q1)).trans q1
        replace q2 := (hbr.cell (p := ⟨b2, o2 + k * 3 + 2, none⟩) (lt_of_cell q2)).trans q2
        have HKV : Hid (∀ W, Below wr.heap.size wr W → W.cell? ⟨b2, o2 + k * 3, none⟩ = some (.int .i64 t2) ∧ W.cell? ⟨b2, o2 + k * 3 + 1, none⟩ = some (.int .i64 n2) ∧ W.cell? ⟨b2, o2 + k * 3 + 2, none⟩ = some (.string s2)) := fun W h =>
          ⟨(h.cell (p := ⟨b2, o2 + k * 3, none⟩) (lt_of_cell q0)).trans q0, (h.cell (p := ⟨b2, o2 + k * 3 + 1, none⟩) (lt_of_cell q1)).trans q1, (h.cell (p := ⟨b2, o2 + k * 3 + 2, none⟩) (lt_of_cell q2)).trans q2⟩
        have HK : Hid (∀ W, Below wr.heap.size wr W → W.cell? ⟨b2, o2 + k * 3, none⟩ = some (.int .i64 t2) ∧ W.cell? ⟨b2, o2 + k * 3 + 1, none⟩ = some (.int .i64 n2) ∧ W.cell? ⟨b2, o2 + k * 3 + 2, none⟩ = some (.string s2) ∧ W.cell? ⟨b1, o1 + k, none⟩ = some (.int .i64 z)) := fun W h =>
          ⟨(HKV.out W h).1, (HKV.out W h).2.1, (HKV.out W h).2.2, (h.cell (p := ⟨b1, o1 + k, none⟩) (lt_of_cell p0)).trans p0⟩
        have hB' := (Below.refl wr.heap.size wr).drew
        clear p0 q0 q1 q2
        cases hv : okV ⟨t2, n2, s2⟩ with
        | false =>
          have HN2 : Hid (fitsB zs l = false) := HN.out (by rw [HF.out, hv, Bool.false_and])
          rw [hv] at HO
          clear hv HS HN HF
          go_wp2
          refine wp_region_held_drew (S := fun W => W.cell? ⟨b2, o2 + k * 3, none⟩ = some (.int .i64 t2) ∧ W.cell? ⟨b2, o2 + k * 3 + 1, none⟩ = some (.int .i64 n2) ∧ W.cell? ⟨b2, o2 + k * 3 + 2, none⟩ = some (.string s2)) (by kernel_rfl) (HKV.out _ hB') (fun hHeld => ?_)
          refine takeH (i := 0) (d := some 17) (v := .slice (some ⟨b2, o2, none⟩) n c2) rfl rfl (by kernel_rfl) (by kernel_rfl) (by kernel_rfl) (fun _ _ _ h => h) (Or.inl ⟨by rfl, fun W hSw => by obtain ⟨d0, d1, d2⟩ := hSw; go_simp⟩) hHeld ?_
          simp only [put_some, List.set_cons_zero, List.set_cons_succ]
          refine takeH (i := 1) (d := some 18) (v := .int .i64 k) rfl rfl (by kernel_rfl) (by kernel_rfl) (by kernel_rfl) (fun _ _ _ h => h) (Or.inl ⟨by rfl, fun W hSw => by obtain ⟨d0, d1, d2⟩ := hSw; go_simp⟩) hHeld ?_
          simp only [put_some, List.set_cons_zero, List.set_cons_succ]
          refine takeH (i := 2) (d := some 19) (v := .pointer (some ⟨b2, o2 + k * 3, none⟩)) rfl rfl (by kernel_rfl) (by kernel_rfl) (by kernel_rfl) (fun _ _ _ h => h) (Or.inl ⟨by rfl, fun W hSw => by obtain ⟨d0, d1, d2⟩ := hSw; go_simp⟩) hHeld ?_
          simp only [put_some, List.set_cons_zero, List.set_cons_succ]
          refine takeH (i := 3) (d := some 20) (v := .agg #[.int .i64 t2, .int .i64 n2, .string s2]) rfl rfl (by kernel_rfl) (by kernel_rfl) (by kernel_rfl) (fun _ _ _ h => h) (Or.inl ⟨by rfl, fun W hSw => by obtain ⟨d0, d1, d2⟩ := hSw; go_simp⟩) hHeld ?_
          simp only [put_some, List.set_cons_zero, List.set_cons_succ]
          refine wpAnyH_ready (rs := [4]) (by kernel_rfl) (by simp) ?_
          refine AllReadyH.cons rfl (fun K hK => ?_) AllReadyH.nil
          go_simp
          go_at_call 81
          refine (HO.out _).mono ?_
          rintro e w2 ⟨rfl, hb2⟩
          replace hB' := below_then hB' hb2 hB'.size
          go_wp2_with fail
          refine hK.out _ _ (HKV.out _ hB') (fun hHeld => ?_)
          clear hK K
          refine takeH (i := 5) (d := some 22) (v := .bool true) rfl rfl (by kernel_rfl) (by kernel_rfl) (by kernel_rfl) (fun _ _ _ h => h) (Or.inl ⟨by rfl, fun W hSw => by obtain ⟨d0, d1, d2⟩ := hSw; go_simp⟩) hHeld ?_
          simp only [put_some, List.set_cons_zero, List.set_cons_succ]
          refine takeH (i := 6) (d := some 23) (v := .bool true) rfl rfl (by kernel_rfl) (by kernel_rfl) (by kernel_rfl) (fun _ _ _ h => h) (Or.inl ⟨by rfl, fun W hSw => by obtain ⟨d0, d1, d2⟩ := hSw; go_simp⟩) hHeld ?_
          simp only [put_some, List.set_cons_zero, List.set_cons_succ]
          refine takeH (i := 7) (d := some 24) (v := undef) rfl rfl (by kernel_rfl) (by kernel_rfl) (by kernel_rfl) (fun _ _ _ h => h) (Or.inr ⟨by rfl, rfl⟩) hHeld ?_
          simp only [put_some, List.set_cons_zero, List.set_cons_succ]
          refine takeH (i := 8) (d := some 25) (v := undef) rfl rfl (by kernel_rfl) (by kernel_rfl) (by kernel_rfl) (fun _ _ _ h => h) (Or.inr ⟨by rfl, rfl⟩) hHeld ?_
          simp only [put_some, List.set_cons_zero, List.set_cons_succ]
          refine takeH (i := 9) (d := some 26) (v := undef) rfl rfl (by kernel_rfl) (by kernel_rfl) (by kernel_rfl) (fun _ _ _ h => h) (Or.inr ⟨by rfl, rfl⟩) hHeld ?_
          simp only [put_some, List.set_cons_zero, List.set_cons_succ]
          refine takeH (i := 10) (d := some 27) (v := undef) rfl rfl (by kernel_rfl) (by kernel_rfl) (by kernel_rfl) (fun _ _ _ h => h) (Or.inr ⟨by rfl, rfl⟩) hHeld ?_
          simp only [put_some, List.set_cons_zero, List.set_cons_succ]
          refine takeH (i := 11) (d := some 28) (v := undef) rfl rfl (by kernel_rfl) (by kernel_rfl) (by kernel_rfl) (fun _ _ _ h => h) (Or.inr ⟨by rfl, rfl⟩) hHeld ?_
          simp only [put_some, List.set_cons_zero, List.set_cons_succ]
          refine takeH (i := 12) (d := some 29) (v := undef) rfl rfl (by kernel_rfl) (by kernel_rfl) (by kernel_rfl) (fun _ _ _ h => h) (Or.inr ⟨by rfl, rfl⟩) hHeld ?_
          simp only [put_some, List.set_cons_zero, List.set_cons_succ]
          refine takeH (i := 13) (d := some 30) (v := undef) rfl rfl (by kernel_rfl) (by kernel_rfl) (by kernel_rfl) (fun _ _ _ h => h) (Or.inr ⟨by rfl, rfl⟩) hHeld ?_
          simp only [put_some, List.set_cons_zero, List.set_cons_succ]
          refine takeH (i := 14) (d := some 31) (v := undef) rfl rfl (by kernel_rfl) (by kernel_rfl) (by kernel_rfl) (fun _ _ _ h => h) (Or.inr ⟨by rfl, rfl⟩) hHeld ?_
          simp only [put_some, List.set_cons_zero, List.set_cons_succ]
          refine takeH (i := 15) (d := some 32) (v := undef) rfl rfl (by kernel_rfl) (by kernel_rfl) (by kernel_rfl) (fun _ _ _ h => h) (Or.inr ⟨by rfl, rfl⟩) hHeld ?_
          simp only [put_some, List.set_cons_zero, List.set_cons_succ]
          refine takeH (i := 16) (d := some 33) (v := undef) rfl rfl (by kernel_rfl) (by kernel_rfl) (by kernel_rfl) (fun _ _ _ h => h) (Or.inr ⟨by rfl, rfl⟩) hHeld ?_
          simp only [put_some, List.set_cons_zero, List.set_cons_succ]
          refine takeH (i := 17) (d := some 34) (v := .bool true) rfl rfl (by kernel_rfl) (by kernel_rfl) (by kernel_rfl) (fun _ _ _ h => h) (Or.inl ⟨by rfl, fun W hSw => by obtain ⟨d0, d1, d2⟩ := hSw; go_simp⟩) hHeld ?_
          simp only [put_some, List.set_cons_zero, List.set_cons_succ]
          refine wpAnyH_done (by kernel_rfl) ?_ _
          go_wp2
          go_ret
          exact ⟨ret_bool HN2.out.symm, below_then hbr hB' hbr.size⟩
        | true =>
          rw [hv] at HO
          rw [hv, Bool.true_and] at HF
          simp only at HF
          cases ht : (t2 == z) with
          | true =>
            have HS2 := Lib.hid (HS.out (by rw [HF.out, ht]))
            have hzz : (t2 != z) = false := by simpa using ht
            clear hv HS HN HF ht
            go_wp2
            go_region_held3 (fun W => W.cell? ⟨b2, o2 + k * 3, none⟩ = some (.int .i64 t2) ∧ W.cell? ⟨b2, o2 + k * 3 + 1, none⟩ = some (.int .i64 n2) ∧ W.cell? ⟨b2, o2 + k * 3 + 2, none⟩ = some (.string s2) ∧ W.cell? ⟨b1, o1 + k, none⟩ = some (.int .i64 z)) (exact HK.out _ hB') ((go_at_call 81; (with_reducible refine (HO.out _).mono ?_); rintro e w2 ⟨rfl, hb2⟩; replace hB' := below_then hB' hb2 hB'.size))
            go_wp2
            go_roundw
            case rel => exact ⟨k + 1, by omega, by go_num, HS2.out, below_then hbr hB' hbr.size⟩
            case measure => simp [intOf]; omega
          | false =>
            have HN2 := Lib.hid (HN.out (by rw [HF.out, ht]))
            have hzz : (t2 != z) = true := by simpa using ht
            clear hv HS HN HF ht
            go_wp2
            go_region_held3 (fun W => W.cell? ⟨b2, o2 + k * 3, none⟩ = some (.int .i64 t2) ∧ W.cell? ⟨b2, o2 + k * 3 + 1, none⟩ = some (.int .i64 n2) ∧ W.cell? ⟨b2, o2 + k * 3 + 2, none⟩ = some (.string s2) ∧ W.cell? ⟨b1, o1 + k, none⟩ = some (.int .i64 z)) (exact HK.out _ hB') ((go_at_call 81; (with_reducible refine (HO.out _).mono ?_); rintro e w2 ⟨rfl, hb2⟩; replace hB' := below_then hB' hb2 hB'.size))
            go_wp2
            go_ret
            exact ⟨ret_bool HN2.out.symm, below_then hbr hB' hbr.size⟩
      · obtain rfl : k = n := by omega
        have HA : Hid (fitsB zs l = true) := all2_all 0 V.zero (by rw [HL.out, HR.out]) (fun j hj => HOK.out j (by rw [← HL.out]; exact hj))
        go_wp2
        go_ret
        exact ⟨ret_bool HA.out.symm, hbr⟩
  · have hne : ((n : Int) != (m : Int)) = true := by simp; omega
    have HA : Hid (fitsB zs l = false) := all2_len (by omega)
    clear hl hr
    go_enter Try.func70, Try.ntmps70
    go_wp2
    go_ret
    exact ⟨ret_bool HA.out.symm, Below.refl _ _⟩
-- FITSCOLS

end Go.Proofs.Ytkofafefnlommaa
