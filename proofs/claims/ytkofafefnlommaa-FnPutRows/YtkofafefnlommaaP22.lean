/- Texts of this claim, one behind the other: I13b, Ch13. -/
import Derived.Test.YtkofafefnlommaaP16
import Derived.Test.YtkofafefnlommaaP21
import Derived.Test.YtkofafefnlommaaP17

/- The program's RowsOk, FindRow (written by mk_S13b.py). -/
namespace Go.Proofs.Ytkofafefnlommaa
open Go.RowKit

set_option maxRecDepth 100000 in
set_option maxHeartbeats 4000000 in
theorem iRowsOk : CRowsOk 25 := by
  intro u v zs ps ls w hz hu hss hn hli h hls
  subst hls
  generalize hl : ps.length = n at hn
  obtain ⟨a, cap, rfl, _, HC⟩ := h.walk hl
  have HRK := Lib.hid (fun (r : R) (x : Value) W (hW : Below w.heap.size w W) (hn : r.l.length ≤ 1048576) (hs : ∀ v ∈ r.l, v.s.size ≤ maxLen) (hr : r.rd W x) => iRowOk u x zs r W hz hn hs (hu.below hW) hr)
  have HCO := Lib.hid (fun W (hW : Below w.heap.size w W) => iColsOk u zs W hz (hu.below hW))
  obtain ⟨a1, c1, rfl, _⟩ := hu
  have HSS : Hid (∀ k, k < n → (ps.getD k P.zero).1.l.length ≤ 1048576 ∧ ∀ v ∈ (ps.getD k P.zero).1.l, v.s.size ≤ maxLen) := fun k hk => by
    have hk' : k < ps.length := by omega
    have e : ps.getD k P.zero = ps[k] := by simp [hk']
    rw [e]
    exact ⟨hli _ (List.getElem_mem hk'), hss _ (List.getElem_mem hk')⟩
  have HG : Hid (∀ k, (ps.map (·.1)).getD k R.zero = (ps.getD k P.zero).1) := fun k => (getD_fst ps k).symm
  have HL := Lib.hid hl
  generalize hzn : zs.length = zn at HRK HCO ⊢
  clear hss hl h hli hz hzn
  have HCL := Lib.hid (fun h => rowsOk_cols (zs := zs) (l := ps.map (·.1)) h)
  have HLONG : Hid (¬ n ≤ 12 → rowsOkL zs (ps.map (·.1)) = false) := fun h => rowsOk_long (by rw [List.length_map, HL.out]; exact h)
  obtain ⟨q, hq⟩ : ∃ q, colsB zs = q := ⟨_, rfl⟩
  have HQ := Lib.hid hq
  rw [hq] at HCO HCL
  clear hq
  cases q with
  | false =>
    have HNO := Lib.hid (HCL.out rfl)
    clear HCL HLONG
    go_enter Try.func25, Try.ntmps25
    go_wp2_with fail
    refine (HCO.out _ (Below.refl _ _)).mono ?_
    rintro e w1 ⟨rfl, b1⟩
    go_wp2
    go_ret
    exact ⟨ret_bool HNO.out.symm, b1⟩
  | true =>
    by_cases h12 : n ≤ 12
    rotate_left
    · have HNO := Lib.hid (HLONG.out h12)
      have h12' : (12 : Int) < (n : Int) := by omega
      clear HCL HLONG
      go_enter Try.func25, Try.ntmps25
      go_wp2_with fail
      refine (HCO.out _ (Below.refl _ _)).mono ?_
      rintro e w1 ⟨rfl, b1⟩
      go_wp2
      go_ret
      exact ⟨ret_bool HNO.out.symm, b1⟩
    have h12' : ¬ ((12 : Int) < (n : Int)) := by omega
    clear HCL HLONG
    go_enter Try.func25, Try.ntmps25
    go_wp2_with fail
    refine (HCO.out _ (Below.refl _ _)).mono ?_
    rintro e w1 ⟨rfl, b1⟩
    go_wp2
    go_loopw [5, 18] (fun z i wr => ∃ (k : Nat) (last : Int), k ≤ n ∧ i = .int .i64 k ∧ z = .int .i64 last ∧ (if k = 0 then (-1 : Int) else (ps.getD (k - 1) P.zero).1.id) = last ∧ (∀ j, j < k → goodB zs (ps.map (·.1)) j = true) ∧ Below w.heap.size w wr) (fun _ i _ => n - (intOf i).toNat)
    case atStart => exact ⟨0, -1, Nat.zero_le _, rfl, rfl, rfl, fun j hj => by omega, b1⟩
    case round =>
      obtain ⟨k, last, hk, rfl, rfl, hlast, hok, hbr⟩ := hrel
      have HLAST := Lib.hid hlast
      clear hlast
      have HOK := Lib.hid hok
      clear hok b1
      by_cases hlt : k < n
      · obtain ⟨b, off, rfl, c0, c1', hrd⟩ := HC.out k hlt wr hbr
        have HGD : Hid (goodB zs (ps.map (·.1)) k = (rowB zs (ps.getD k P.zero).1 && (decide ((ps.getD k P.zero).1.id ≤ 1000000000) && (decide (k = 0) || decide ((ps.getD (k - 1) P.zero).1.id < (ps.getD k P.zero).1.id))))) := by
          show goodB _ _ _ = _
          unfold goodB
          rw [HG.out k, HG.out (k - 1)]
        have HSY : Hid (goodB zs (ps.map (·.1)) k = true → ∀ j, j < k + 1 → goodB zs (ps.map (·.1)) j = true) := fun h j hj => by
          by_cases e : j = k
          · subst e; exact h
          · exact HOK.out j (by omega)
        have HNN : Hid (goodB zs (ps.map (·.1)) k = false → rowsOkL zs (ps.map (·.1)) = false) := rowsOk_no (by rw [List.length_map, HL.out]; exact hlt)
        have HRO := Lib.hid (fun W (hW : Below wr.heap.size wr W) => HRK.out (ps.getD k P.zero).1 (ps.getD k P.zero).2 W (below_then hbr hW hbr.size) (HSS.out k hlt).1 (HSS.out k hlt).2 (hrd.below hW))
        have HNX : Hid ((if k + 1 = 0 then (-1 : Int) else (ps.getD (k + 1 - 1) P.zero).1.id) = (ps.getD k P.zero).1.id) := by
          show _ = _
          rw [if_neg (by omega), Nat.add_sub_cancel]
        have HLA : Hid (rowB zs (ps.getD k P.zero).1 = true → (decide (k = 0) || decide ((ps.getD (k - 1) P.zero).1.id < (ps.getD k P.zero).1.id)) = decide (last < (ps.getD k P.zero).1.id)) := fun hr => by
          rw [← HLAST.out]
          by_cases hk0 : k = 0
          · have h0 : 0 ≤ (ps.getD k P.zero).1.id := by
              unfold rowB at hr
              rw [Bool.and_eq_true, decide_eq_true_eq] at hr
              exact hr.1
            rw [if_pos hk0, decide_eq_true hk0, Bool.true_or]
            exact (decide_eq_true (by omega)).symm
          · rw [if_neg hk0, decide_eq_false hk0, Bool.false_or]
        have HL0 : Hid (last ≥ (ps.getD k P.zero).1.id → rowB zs (ps.getD k P.zero).1 = true → (decide (k = 0) || decide ((ps.getD (k - 1) P.zero).1.id < (ps.getD k P.zero).1.id)) = false) := fun h1 h2 => by
          rw [HLA.out h2]
          exact decide_eq_false (by omega)
        clear HLAST
        obtain ⟨q, hq⟩ : ∃ q, rowB zs (ps.getD k P.zero).1 = q := ⟨_, rfl⟩
        obtain ⟨d, hd⟩ : ∃ d, (decide (k = 0) || decide ((ps.getD (k - 1) P.zero).1.id < (ps.getD k P.zero).1.id)) = d := ⟨_, rfl⟩
        rw [hq] at HRO HGD HLA HL0
        rw [hd] at HGD HLA HL0
        clear hq hd
        generalize ps.getD k P.zero = pk at c0 c1' hrd HRO HGD HLA HL0 HNX
        obtain ⟨⟨ri, rl⟩, x⟩ := pk
        obtain ⟨xa, xc, hx, _⟩ := hrd
        simp only at hx c0 c1' HRO HGD HLA HL0 HNX
        generalize rl.length = xn at hx
        subst hx
        have BW := below_alloc wr (.cells #[.int .i64 ri, .slice xa xn xc] 27)
        have T2 := two_new wr (.int .i64 ri) (.slice xa xn xc) 27
        generalize hwa : wr.alloc (.cells #[.int .i64 ri, .slice xa xn xc] 27) = wa at BW T2
        have HWA := Lib.hid hwa
        have HR2 := Lib.hid (HRO.out _ BW)
        have B2 := below_then hbr BW hbr.size
        obtain ⟨⟨t0, t1⟩, t2, t3⟩ := id T2
        clear hwa HRO
        by_cases hle : ri ≤ last
        · have HNO := Lib.hid (HNN.out (by
            rw [HGD.out]
            cases q with
            | false => rfl
            | true => rw [HL0.out hle rfl, Bool.and_false, Bool.and_false]))
          clear HGD HSY HNN HLA HL0 HNX HR2
          go_wp2
          go_ret
          exact ⟨ret_bool HNO.out.symm, by rw [HWA.out]; exact B2⟩
        · by_cases hg : 1000000000 < ri
          · have HNO := Lib.hid (HNN.out (by rw [HGD.out, decide_eq_false (show ¬ ri ≤ 1000000000 by omega), Bool.false_and, Bool.and_false]))
            clear HGD HSY HNN HLA HL0 HNX HR2
            go_wp2
            go_ret
            exact ⟨ret_bool HNO.out.symm, by rw [HWA.out]; exact B2⟩
          · cases q with
            | false =>
              have HNO := Lib.hid (HNN.out (by rw [HGD.out, Bool.false_and]))
              clear HGD HSY HNN HLA HL0 HNX
              go_wp2_with fail
              rw [HWA.out]
              refine HR2.out.mono ?_
              rintro e w3 ⟨rfl, b3⟩
              have B3 := below_then B2 b3 B2.size
              clear t0 t1 t2 t3 HR2
              go_wp2
              go_ret
              exact ⟨ret_bool HNO.out.symm, B3⟩
            | true =>
              have HS2 := Lib.hid (HSY.out (by rw [HGD.out, decide_eq_true (show ri ≤ 1000000000 by omega), HLA.out rfl, decide_eq_true (by omega)]; rfl))
              clear HGD HSY HNN HLA HL0
              go_wp2_with fail
              rw [HWA.out]
              refine HR2.out.mono ?_
              rintro e w3 ⟨rfl, b3⟩
              have B3 := below_then B2 b3 B2.size
              obtain ⟨⟨y0, y1⟩, _⟩ := T2.below b3
              clear t0 t1 t2 t3 HR2 T2
              go_wp2
              go_roundw
              case rel => exact ⟨k + 1, _, by omega, by go_num, rfl, HNX.out, HS2.out, B3⟩
              case measure => simp [intOf]; omega
      · obtain rfl : k = n := by omega
        have HA : Hid (rowsOkL zs (ps.map (·.1)) = true) := by
          show _ = _
          have e := rowsOk_end (zs := zs) (l := ps.map (·.1)) (fun j hj => HOK.out j (by rw [List.length_map, HL.out] at hj; exact hj))
          rw [List.length_map, HL.out, HQ.out, decide_eq_true h12] at e
          exact e
        go_wp2
        go_ret
        exact ⟨ret_bool HA.out.symm, hbr⟩

end Go.Proofs.Ytkofafefnlommaa

/- Chapter 13's exact laws over slices, both sides at hand. -/
namespace Go.Proofs.Ytkofafefnlommaa
open Go.RowKit

end Go.Proofs.Ytkofafefnlommaa
