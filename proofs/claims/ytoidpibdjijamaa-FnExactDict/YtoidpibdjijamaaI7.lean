/- The contracts of impl's InDict (with slices.Index) and Picked. -/
import Derived.Test.YtoidpibdjijamaaLaw7
import Derived.Test.YtoidpibdjijamaaI5d
namespace Go.Proofs.Ytoidpibdjijamaa
open Go.RowKit

theorem eqB_comm (x y : V) : x.eqB y = y.eqB x := by
  cases h : y.eqB x with
  | true => exact eqB_true.2 (eqB_true.1 h).symm
  | false => exact eqB_false.2 (fun e => eqB_false.1 h e.symm)

set_option maxHeartbeats 1000000 in
theorem iIndex (u : Value) (d : List V) (x : V) (w : World) (h : Rd 3 w u d.length (vals d)) :
    Calls Try.prog 65 #[u, x.agg] w fun e w' => e = .returned (.int .i64 (inI d x)) ∧ Below w.heap.size w w' := by
  generalize hl : d.length = n at h
  obtain ⟨a, cap, rfl, hm, HC⟩ := h.vals hl
  unfold maxLen at hm
  have HL := Lib.hid hl
  have HE : Hid (∀ i, i < n → (d.getD i V.zero).eqB x = true → (∀ j, j < i → (d.getD j V.zero).eqB x = false) → inI d x = i) := fun i hi h1 h2 => inI_some (inD_first (by omega) h1 h2)
  have HN : Hid ((∀ j, j < n → (d.getD j V.zero).eqB x = false) → inI d x = -1) := fun h1 => inI_none (inD_none.2 (fun j hj => h1 j (by omega)))
  have hx0 := held_new w x 37
  have hb0 := below_alloc w (.cells #[.int .i64 x.ty, .int .i64 x.n, .string x.s] 37)
  generalize inI d x = r at HE HN
  obtain ⟨xt, xn, xs⟩ := x
  clear h hl
  go_enter Try.func65, Try.ntmps65
  go_wp2
  generalize hW : w.alloc (.cells #[.int .i64 xt, .int .i64 xn, .string xs] 37) = W at hx0 hb0 ⊢
  have HW := Lib.hid hW
  clear hW
  go_loopw [8] (fun i wr => ∃ k : Nat, k ≤ n ∧ i = .int .i64 k ∧ (∀ j, j < k → (d.getD j V.zero).eqB ⟨xt, xn, xs⟩ = false) ∧ Below W.heap.size W wr) (fun i _ => n - (intOf i).toNat)
  case atStart => exact ⟨0, Nat.zero_le _, rfl, fun j hj => by omega, Below.refl _ _⟩
  case round =>
    obtain ⟨k, hk, rfl, hno, hbr⟩ := hrel
    have HNO := Lib.hid hno
    clear hno
    by_cases hlt : k < n
    · obtain ⟨b, off, rfl, p0, p1, p2⟩ := HC.out k hlt
      have hbr2 := hb0.trans (hbr.mono hb0.size)
      replace p0 := (hbr2.cell (p := ⟨b, off + k * 3, none⟩) (lt_of_cell p0)).trans p0
      replace p1 := (hbr2.cell (p := ⟨b, off + k * 3 + 1, none⟩) (lt_of_cell p1)).trans p1
      replace p2 := (hbr2.cell (p := ⟨b, off + k * 3 + 2, none⟩) (lt_of_cell p2)).trans p2
      obtain ⟨⟨q0, q1, q2⟩, _⟩ := hx0.below hbr
      have HEK := Lib.hid (HE.out k hlt)
      have HNK : Hid ((d.getD k V.zero).eqB ⟨xt, xn, xs⟩ = false → ∀ j, j < k + 1 → (d.getD j V.zero).eqB ⟨xt, xn, xs⟩ = false) := fun h1 j hj => by
        by_cases e : j = k
        · subst e; exact h1
        · exact HNO.out j (by omega)
      have hq := fun W => run_eql_val ⟨xt, xn, xs⟩ (d.getD k V.zero) W
      rw [eqB_comm] at hq
      generalize d.getD k V.zero = y at p0 p1 p2 HEK HNK hq
      cases he : y.eqB ⟨xt, xn, xs⟩ with
      | true =>
        have HR := Lib.hid (HEK.out he HNO.out)
        rw [he] at hq
        obtain ⟨t1, n1, s1⟩ := y
        have HB := Lib.hid hbr2
        clear he HEK HNK hx0 hb0 hbr hbr2
        simp only at q0 q1 q2
        go_wp2
        go_quiet (fail)
        go_wp2
        go_ret
        exact ⟨ret_int HR.out.symm, HB.out.trans (below_drewN _ _ _)⟩
      | false =>
        have HS := Lib.hid (HNK.out he)
        rw [he] at hq
        obtain ⟨t1, n1, s1⟩ := y
        clear he HEK HNK hx0 hb0
        simp only at q0 q1 q2
        go_wp2
        go_quiet (fail)
        go_wp2
        go_roundw
        case rel => exact ⟨k + 1, by omega, by go_num, HS.out, hbr.trans (below_drewN _ _ _)⟩
        case measure => simp [intOf]; omega
    · obtain rfl : k = n := by omega
      have HR := Lib.hid (HN.out HNO.out)
      have hbr2 := hb0.trans (hbr.mono hb0.size)
      go_wp2
      go_ret
      exact ⟨ret_int HR.out.symm, hbr2⟩


theorem iInDict : CInDict := by
  intro u d x w hn h
  have hx0 := held_new w x 37
  have hb0 := below_alloc w (.cells #[.int .i64 x.ty, .int .i64 x.n, .string x.s] 37)
  have HI := Lib.hid (iIndex u d x _ (h.below hb0))
  generalize inI d x = r at HI
  obtain ⟨xt, xn, xs⟩ := x
  go_enter Try.func31, Try.ntmps31
  go_wp2_with fail
  refine HI.out.mono ?_
  rintro e w2 ⟨rfl, hb2⟩
  have B2 := below_then hb0 hb2 hb0.size
  go_wp2
  go_ret
  exact ⟨rfl, B2⟩

set_option maxHeartbeats 2000000 in
theorem iPicked : CPicked := by
  intro u v d l w hdn hn hd h
  generalize hdl : d.length = m at hd hdn
  obtain ⟨da, dcap, rfl, hdm, HDC⟩ := hd.vals hdl
  generalize hl : l.length = K at h hn
  obtain ⟨a, cap, rfl, hm, HC⟩ := h.ints hl
  unfold maxLen at hm hdm
  have HL := Lib.hid hl
  have HPB : Hid (∀ x : Int, 0 ≤ x → x < m → pickB d x = true) := fun x h0 h1 => decide_eq_true ⟨h0, by omega⟩
  have HPN : Hid (∀ x : Int, (x < 0 ∨ (m : Int) ≤ x) → pickB d x = false) := fun x h1 => decide_eq_false (fun h2 => by omega)
  have HNO : Hid (∀ k, k < K → pickB d (l.getD k 0) = false → pickedL d l = ([], false)) := fun k hk h1 => picked_no (by omega) h1
  have HYES : Hid ((∀ k, k < K → pickB d (l.getD k 0) = true) → pickedL d l = (l.map (fun x => d.getD x.toNat V.zero), true)) := fun h1 => picked_yes (fun k hk => h1 k (by omega))
  have HS : Hid (∀ k, k < K → pkK d l (k + 1) = pkK d l k ++ [d.getD (l.getD k 0).toNat V.zero]) := fun k hk => by
    unfold pkK
    exact map_snoc _ _ 0 _ (by omega)
  have HKL : Hid (∀ k, k ≤ K → (pkK d l k).length = k) := fun k hk => by simp [pkK]; omega
  have HPK0 : Hid (pkK d l 0 = []) := by show _ = _; simp [pkK]
  have HPKE : Hid (pkK d l K = l.map (fun x => d.getD x.toNat V.zero)) := by show _ = _; unfold pkK; rw [← hl, List.take_length]
  generalize pickedL d l = R at HNO HYES
  clear h hl hd hdl
  go_enter Try.func15, Try.ntmps15
  go_wp2_with (at_make; refine make_law Try.elemVals rfl _ _ rfl .i64 .i64 _ _ K rfl rfl rfl rfl (by omega) (by unfold maxLen; omega) ?_)
  intro w1 hown1 hb1
  have hown0 : Own 37 3 w.heap.size w1.heap.size w1 (.slice (some ⟨w.heap.size, 0, none⟩) K K) K (vals (fillV (pkK d l 0) K)) := by
    have e : vals (fillV (pkK d l 0) K) = (madeCells V.zero.cs.toArray (K * 3)).toList := by
      rw [made_flat V.cs V.zero 3 K (by omega) (fun _ => rfl), HPK0.out]
      simp [fillV, vals]
    rw [e]
    exact hown1
  clear hown1
  go_wp2
  go_loopw [14] (fun i wr => ∃ j : Nat, j ≤ K ∧ i = .int .i64 j ∧ (∀ i, i < j → pickB d (l.getD i 0) = true) ∧ wr.ownsRow w.heap.size 37 3 (.slice (some ⟨w.heap.size, 0, none⟩) K K) K (vals (fillV (pkK d l j) K)) ∧ Below w.heap.size w wr) (fun i _ => K - (intOf i).toNat)
  case atStart => exact ⟨0, Nat.zero_le _, rfl, fun i hi => by omega, hown0.row, hb1⟩
  case round =>
    obtain ⟨j, hj, rfl, hno, hown, hbr⟩ := hrel
    have HK := Lib.hid hno
    clear hown0 hb1 hno
    by_cases hlt : j < K
    · obtain ⟨b, off, rfl, p0⟩ := HC.out j hlt
      replace p0 := (hbr.cell (p := ⟨b, off + j, none⟩) (lt_of_cell p0)).trans p0
      have HSJ := Lib.hid (HS.out j hlt)
      have HKJ := Lib.hid (HKL.out j hj)
      have HSET := Lib.hid (fun x => fillV_set (pre := pkK d l j) (K := K) x (by rw [HKJ.out]; exact hlt))
      rw [HKJ.out] at HSET
      have HFL := Lib.hid (fillV_len (pre := pkK d l j) (K := K) (by rw [HKJ.out]; exact hj))
      have HNK := Lib.hid (HNO.out j hlt)
      have HKK : Hid (pickB d (l.getD j 0) = true → ∀ i, i < j + 1 → pickB d (l.getD i 0) = true) := fun h1 i hi => by
        by_cases e : i = j
        · subst e; exact h1
        · exact HK.out i (by omega)
      have HPZ := Lib.hid (HPB.out (l.getD j 0))
      have HPM := Lib.hid (HPN.out (l.getD j 0))
      generalize l.getD j 0 = z at p0 HSJ HNK HKK HPZ HPM
      by_cases hz : z < 0 ∨ (m : Int) ≤ z
      · have HR := Lib.hid (HNK.out (HPM.out hz))
        have OL := own_lit (e := 37) (size := 3) wr #[] 0 (Nat.zero_le _) rfl
        have BL := hbr.alloc hbr.size (.cells #[] 37)
        have hzz := hbr.size
        clear hown
        by_cases hz0 : z < 0
        · go_wp2
          go_ret2
          rw [HR.out]
          exact ⟨_, rfl, OL.lower hzz, BL⟩
        · have hz1 : (m : Int) ≤ z := by omega
          clear hz
          go_wp2
          go_ret2
          rw [HR.out]
          exact ⟨_, rfl, OL.lower hzz, BL⟩
      · have HK2 := Lib.hid (HKK.out (HPZ.out (by omega) (by omega)))
        obtain ⟨A, rfl⟩ := Int.eq_ofNat_of_zero_le (show 0 ≤ z by omega)
        have hAm : A < m := by omega
        obtain ⟨db, doff, rfl, d0, d1, d2⟩ := HDC.out A hAm
        replace d0 := (hbr.cell (p := ⟨db, doff + A * 3, none⟩) (lt_of_cell d0)).trans d0
        replace d1 := (hbr.cell (p := ⟨db, doff + A * 3 + 1, none⟩) (lt_of_cell d1)).trans d1
        replace d2 := (hbr.cell (p := ⟨db, doff + A * 3 + 2, none⟩) (lt_of_cell d2)).trans d2
        rw [Int.toNat_natCast] at HSJ
        generalize d.getD A V.zero = y at d0 d1 d2 HSJ
        obtain ⟨t1, n1, s1⟩ := y
        simp only at d0 d1 d2
        have R := Lib.hid (stored3 hown j ⟨t1, n1, s1⟩ (by rw [HFL.out]; exact hlt))
        rw [HSET.out, ← HSJ.out] at R
        obtain ⟨x0, s0⟩ := cellAt_some hown (j * 3) (by omega)
        obtain ⟨x1, s1'⟩ := cellAt_some hown (j * 3 + 1) (by omega)
        obtain ⟨x2, s2⟩ := cellAt_some hown (j * 3 + 2) (by omega)
        have f0 := hown.frozenAt (j * 3)
        have f1 := hown.frozenAt (j * 3 + 1)
        have f2 := hown.frozenAt (j * 3 + 2)
        have b3 := Lib.hid (((hbr.setCell (p := ⟨w.heap.size, j * 3, none⟩) (Nat.le_refl _) (.int .i64 t1)).setCell (p := ⟨w.heap.size, j * 3 + 1, none⟩) (Nat.le_refl _) (.int .i64 n1)).setCell (p := ⟨w.heap.size, j * 3 + 2, none⟩) (Nat.le_refl _) (.string s1))
        clear hown hbr hz
        go_wp2
        go_roundw
        case rel => exact ⟨j + 1, by omega, by go_num, HK2.out, R.out.1, b3.out⟩
        case measure => simp [intOf]; omega
    · obtain rfl : j = K := by omega
      have HR := Lib.hid (HYES.out HK.out)
      have OO := Lib.hid (own_of_row hown (Nat.le_refl _))
      have HKJ := Lib.hid (HKL.out j hj)
      clear hown
      go_wp2
      go_ret2
      rw [HR.out]
      refine ⟨_, rfl, ?_, hbr⟩
      have := OO.out
      rw [fillV_all HKJ.out, HPKE.out] at this
      show Own _ _ _ _ _ _ (l.map _).length _
      rw [List.length_map, HL.out]
      exact this

end Go.Proofs.Ytoidpibdjijamaa
