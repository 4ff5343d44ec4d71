/- The contracts of impl's GetVal and DecPlain. -/
import Derived.Test.YteddpefboeikhaaI5b
import Derived.Test.YteddpefboeikhaaI5c
namespace Go.Proofs.Yteddpefboeikhaa
open Go.RowKit

set_option maxHeartbeats 1000000 in
theorem iGetVal : CGetVal := by
  intro u n zs i ty w hn hz hby h
  have HG := Lib.hid (fun W hW => iGetNum u n zs i W (by omega) hz hby (h.below hW))
  have HT := Lib.hid (fun W hW => getText u n zs i W (by omega) hz hby (h.below hW))
  obtain ⟨b, off, cap, rfl, _, _, _, _⟩ := h
  have HZ := Lib.hid hz
  clear hz hby
  have Z0 := held_new w V.zero 35
  have bt := below_alloc w (.cells #[.int .i64 0, .int .i64 0, .string ⟨#[]⟩] 35)
  simp only [V.zero] at Z0
  obtain ⟨⟨p0, p1, p2⟩, p3, p4, p5⟩ := id Z0
  simp only at p0 p1 p2
  by_cases ht : ty = 1
  · subst ht
    have HE := Lib.hid (getV_int (zs := zs) (i := i))
    generalize Num.get zs i = r at HG HE
    obtain ⟨x, nx, ok⟩ := r
    unfold getRes at HG
    simp only at HG HE
    cases ok with
    | true =>
      rw [if_pos rfl] at HE
      rw [HE.out]
      go_enter Try.func24, Try.ntmps24
      go_wp2_with (first | (go_at_call 43; refine (HG.out _ bt).mono ?_; rintro e w' ⟨rfl, rfl⟩) | (go_at_call 44; refine (iIntVal _ _).mono ?_; rintro e w1 ⟨rfl, hb⟩; replace bt := below_then bt hb bt.size; obtain ⟨⟨q0, q1, q2⟩, q3, q4, q5⟩ := Z0.below hb; simp only at q0 q1 q2; clear p0 p1 p2 p3 p4 p5 hb Z0))
      exact bodyPost_ret (v := .tuple #[.agg #[.int .i64 1, .int .i64 x, .string ⟨#[]⟩], .int .i64 nx, .bool true]) (by simp [results, Try.results24, go_sem, *]) rfl ⟨rfl, ((bt.setCell (by simp) _).setCell (by simp) _).setCell (by simp) _⟩
    | false =>
      rw [if_neg (by simp)] at HE
      rw [HE.out]
      go_enter Try.func24, Try.ntmps24
      go_wp2_with (go_at_call 43; refine (HG.out _ bt).mono ?_; rintro e w' ⟨rfl, rfl⟩)
      exact bodyPost_ret (v := .tuple #[.agg #[.int .i64 0, .int .i64 0, .string ⟨#[]⟩], .int .i64 0, .bool false]) (by simp [results, Try.results24, go_sem, *]) rfl ⟨rfl, bt⟩
  by_cases h2 : ty = 2
  · subst h2
    have HE := Lib.hid (getV_text (zs := zs) (i := i))
    generalize getS zs i = r at HT HE
    obtain ⟨x, nx, ok⟩ := r
    simp only at HT HE
    cases ok with
    | true =>
      rw [if_pos rfl] at HE
      rw [HE.out]
      go_enter Try.func24, Try.ntmps24
      go_wp2_with (first | (go_at_call 45; refine (HT.out _ bt).mono ?_; rintro e w' ⟨rfl, rfl⟩) | (go_at_call 46; refine (iTextVal _ _).mono ?_; rintro e w1 ⟨rfl, hb⟩; replace bt := below_then bt hb bt.size; obtain ⟨⟨q0, q1, q2⟩, q3, q4, q5⟩ := Z0.below hb; simp only at q0 q1 q2; clear p0 p1 p2 p3 p4 p5 hb Z0))
      exact bodyPost_ret (v := .tuple #[.agg #[.int .i64 2, .int .i64 0, .string x], .int .i64 nx, .bool true]) (by simp [results, Try.results24, go_sem, *]) rfl ⟨rfl, ((bt.setCell (by simp) _).setCell (by simp) _).setCell (by simp) _⟩
    | false =>
      rw [if_neg (by simp)] at HE
      rw [HE.out]
      go_enter Try.func24, Try.ntmps24
      go_wp2_with (go_at_call 45; refine (HT.out _ bt).mono ?_; rintro e w' ⟨rfl, rfl⟩)
      exact bodyPost_ret (v := .tuple #[.agg #[.int .i64 0, .int .i64 0, .string ⟨#[]⟩], .int .i64 0, .bool false]) (by simp [results, Try.results24, go_sem, *]) rfl ⟨rfl, bt⟩
  · have HE := Lib.hid (getV_none (zs := zs) (i := i) ht h2)
    have h1b : (ty == 1) = false := by simpa using ht
    have h2b : (ty == 2) = false := by simpa using h2
    rw [HE.out]
    go_enter Try.func24, Try.ntmps24
    go_wp2
    exact bodyPost_ret (v := .tuple #[.agg #[.int .i64 0, .int .i64 0, .string ⟨#[]⟩], .int .i64 0, .bool false]) (by simp [results, Try.results24, go_sem, *]) rfl ⟨rfl, bt⟩

/-- A list that is filled from its start on. -/
def fillV (pre : List V) (K : Nat) : List V := pre ++ List.replicate (K - pre.length) V.zero
theorem fillV_len {pre : List V} {K : Nat} (h : pre.length ≤ K) : (fillV pre K).length = K := by
  simp [fillV]
  omega
theorem fillV_set {pre : List V} {K : Nat} (x : V) (h : pre.length < K) : (fillV pre K).set pre.length x = fillV (pre ++ [x]) K := by
  unfold fillV
  rw [List.set_append_right _ _ (Nat.le_refl _), Nat.sub_self, show K - pre.length = (K - (pre ++ [x]).length) + 1 by simp; omega, List.replicate_succ, List.set_cons_zero]
  simp
theorem fillV_all {pre : List V} {K : Nat} (h : pre.length = K) : fillV pre K = pre := by simp [fillV, h]

set_option maxHeartbeats 2000000 in
theorem iDecPlain : CDecPlain := by
  intro u n zs ty k w hn hz hby h
  have HG := Lib.hid (fun i W (hW : Below w.heap.size w W) => iGetVal u n zs i ty W hn hz hby (h.below hW))
  obtain ⟨b, off, cap, rfl, _, _, _, _⟩ := h
  cases hin : Num.inB k 1 64 with
  | false =>
    have HE : Hid (decP zs ty k = ([], false)) := if_neg (by rw [hin]; simp)
    have OL := own_lit (e := 35) (size := 3) w #[] 0 (Nat.zero_le _) rfl
    have BL := below_alloc w (.cells #[] 35)
    have hk : k < 1 ∨ 64 < k := by
      by_cases h1 : k < 1
      · exact Or.inl h1
      · by_cases h2 : 64 < k
        · exact Or.inr h2
        · exfalso
          rw [Num.inB_true.2 ⟨by omega, by omega⟩] at hin
          cases hin
    clear hin hz hby HG
    rcases hk with hk | hk
    · go_enter Try.func30, Try.ntmps30
      go_wp2
      go_ret2
      rw [HE.out]
      exact ⟨_, rfl, OL, BL⟩
    · go_enter Try.func30, Try.ntmps30
      go_wp2
      go_ret2
      rw [HE.out]
      exact ⟨_, rfl, OL, BL⟩
  | true =>
    obtain ⟨k0, k1⟩ := Num.inB_true.1 hin
    obtain ⟨K, rfl⟩ := Int.eq_ofNat_of_zero_le (show 0 ≤ k by omega)
    have HE : Hid (decP zs ty K = match decL zs ty K 0 with | some r => if r.2 = (n : Int) then (r.1, true) else ([], false) | none => ([], false)) := by
      show _ = _
      unfold decP
      rw [if_pos hin, hz, Int.toNat_natCast]
      cases decL zs ty K 0 <;> rfl
    have HD0 : Hid (decL zs ty K 0 = (decL zs ty (K - 0) 0).map fun r => ([] ++ r.1, r.2)) := by
      show _ = _
      simp
    have HST : Hid (∀ (j : Nat) (i : Int) (pre : List V), j < K → decL zs ty K 0 = (decL zs ty (K - j) i).map (fun r => (pre ++ r.1, r.2)) → if (getV zs i ty).2.2 = true then decL zs ty K 0 = (decL zs ty (K - (j + 1)) (getV zs i ty).2.1).map (fun r => ((pre ++ [(getV zs i ty).1]) ++ r.1, r.2)) else decL zs ty K 0 = none) := fun j i pre hj hd => by
      rw [show K - j = (K - (j + 1)) + 1 by omega, decL] at hd
      split
      · rename_i hg
        rw [if_pos hg] at hd
        rw [hd, Option.map_map]
        congr 1
        funext r
        simp
      · rename_i hg
        rw [if_neg hg] at hd
        rw [hd]
        rfl
    have HFN : Hid (∀ (i : Int) (pre : List V), decL zs ty K 0 = (decL zs ty (K - K) i).map (fun r => (pre ++ r.1, r.2)) → decL zs ty K 0 = some (pre, i)) := fun i pre hd => by
      rw [hd, Nat.sub_self]
      simp [decL]
    clear hin hz hby
    go_enter Try.func30, Try.ntmps30
    go_wp2_with (at_make; refine make_law Try.elemVals rfl _ _ rfl .i64 .i64 _ _ K rfl rfl rfl rfl (by omega) (by unfold maxLen; omega) ?_)
    intro w1 hown1 hb1
    have hown0 : Own 35 3 w.heap.size w1.heap.size w1 (.slice (some ⟨w.heap.size, 0, none⟩) K K) K (vals (fillV [] K)) := by
      have e : vals (fillV [] K) = (madeCells V.zero.cs.toArray (K * 3)).toList := by
        rw [made_flat V.cs V.zero 3 K (by omega) (fun _ => rfl)]
        simp [fillV, vals]
      rw [e]
      exact hown1
    clear hown1
    go_wp2
    go_loopw [9, 23] (fun p i wr => ∃ (j : Nat) (q : Int) (pre : List V), j ≤ K ∧ i = .int .i64 j ∧ p = .int .i64 q ∧ pre.length = j ∧ decL zs ty K 0 = (decL zs ty (K - j) q).map (fun r => (pre ++ r.1, r.2)) ∧ wr.ownsRow w.heap.size 35 3 (.slice (some ⟨w.heap.size, 0, none⟩) K K) K (vals (fillV pre K)) ∧ Below w.heap.size w wr) (fun _ i _ => K - (intOf i).toNat)
    case atStart => exact ⟨0, 0, [], Nat.zero_le _, rfl, rfl, rfl, HD0.out, hown0.row, hb1⟩
    case round =>
      obtain ⟨j, q, pre, hj, rfl, rfl, hpl, hd, hown, hbr⟩ := hrel
      clear hown0 hb1
      by_cases hlt : j < K
      · have HSJ := Lib.hid (HST.out j q pre hlt hd)
        have HV := Lib.hid (HG.out q wr hbr)
        have HPL := Lib.hid hpl
        have HSET := Lib.hid (fun x => fillV_set (pre := pre) (K := K) x (by omega))
        have HFL := Lib.hid (fillV_len (pre := pre) (K := K) (by omega))
        rw [HPL.out] at HSET
        clear hd hpl
        generalize getV zs q ty = r at HSJ HV
        obtain ⟨⟨xt, xn, xs⟩, nx, ok⟩ := r
        unfold rGet at HV
        simp only at HSJ HV
        go_wp2_with fail
        refine HV.out.mono ?_
        rintro e w2 ⟨rfl, hb2⟩
        have own2 := ((own_of_row hown (Nat.le_refl _)).below hb2 (Nat.le_refl _)).row
        have b2 := below_then hbr hb2 hbr.size
        have R := Lib.hid (stored3 own2 j ⟨xt, xn, xs⟩ (by rw [HFL.out]; exact hlt))
        rw [HSET.out] at R
        obtain ⟨x0, s0⟩ := cellAt_some own2 (j * 3) (by omega)
        obtain ⟨x1, s1⟩ := cellAt_some own2 (j * 3 + 1) (by omega)
        obtain ⟨x2, s2⟩ := cellAt_some own2 (j * 3 + 2) (by omega)
        have f0 := own2.frozenAt (j * 3)
        have f1 := own2.frozenAt (j * 3 + 1)
        have f2 := own2.frozenAt (j * 3 + 2)
        have b3 : Below w.heap.size w (((w2.setCell ⟨w.heap.size, j * 3, none⟩ (.int .i64 xt)).setCell ⟨w.heap.size, j * 3 + 1, none⟩ (.int .i64 xn)).setCell ⟨w.heap.size, j * 3 + 2, none⟩ (.string xs)) :=
          ((b2.setCell (p := ⟨w.heap.size, j * 3, none⟩) (Nat.le_refl _) _).setCell (p := ⟨w.heap.size, j * 3 + 1, none⟩) (Nat.le_refl _) _).setCell (p := ⟨w.heap.size, j * 3 + 2, none⟩) (Nat.le_refl _) _
        clear hown hb2 HV own2 b2 hbr
        cases ok with
        | false =>
          have HF : Hid (decP zs ty K = ([], false)) := by
            show _ = _
            have hd := HSJ.out
            rw [if_neg (by simp)] at hd
            rw [HE.out, hd]
          have OL := own_lit (e := 35) (size := 3) (((w2.setCell ⟨w.heap.size, j * 3, none⟩ (.int .i64 xt)).setCell ⟨w.heap.size, j * 3 + 1, none⟩ (.int .i64 xn)).setCell ⟨w.heap.size, j * 3 + 2, none⟩ (.string xs)) #[] 0 (Nat.zero_le _) rfl
          have O3 := Lib.hid (OL.lower (lo' := w.heap.size) b3.size)
          rw [show (((w2.setCell ⟨w.heap.size, j * 3, none⟩ (.int .i64 xt)).setCell ⟨w.heap.size, j * 3 + 1, none⟩ (.int .i64 xn)).setCell ⟨w.heap.size, j * 3 + 2, none⟩ (.string xs)).heap.size = w2.heap.size from by simp [World.setCell]] at O3
          have B3 := Lib.hid (b3.alloc b3.size (.cells #[] 35))
          clear OL b3 R
          go_wp2
          go_ret2
          rw [HF.out]
          exact ⟨_, rfl, O3.out, B3.out⟩
        | true =>
          have HS2 : Hid (decL zs ty K 0 = (decL zs ty (K - (j + 1)) nx).map (fun r => ((pre ++ [(⟨xt, xn, xs⟩ : V)]) ++ r.1, r.2))) := by
            have hd := HSJ.out
            rw [if_pos rfl] at hd
            exact hd
          have HLN : Hid ((pre ++ [(⟨xt, xn, xs⟩ : V)]).length = j + 1) := by
            show _ = _
            simp [HPL.out]
          clear HSJ
          go_wp2
          go_roundw
          case rel => exact ⟨j + 1, nx, pre ++ [⟨xt, xn, xs⟩], by omega, by go_num, rfl, HLN.out, HS2.out, R.out.1, b3⟩
          case measure => simp [intOf]; omega
      · obtain rfl : j = K := by omega
        have HF := Lib.hid (HFN.out q pre hd)
        rw [HF.out] at HE
        rw [fillV_all hpl] at hown
        have O1 := own_of_row hown (Nat.le_refl _)
        have HPL := Lib.hid hpl
        clear hd hown
        by_cases hq : q = (n : Int)
        · have HF2 : Hid (decP zs ty j = (pre, true)) := by
            show _ = _
            rw [HE.out]
            exact if_pos hq
          have hqb : (q != (n : Int)) = false := by simpa using hq
          rw [← HPL.out] at O1
          have O2 := Lib.hid O1
          clear HE hq O1 hpl
          go_wp2
          go_ret2
          rw [HF2.out]
          exact ⟨_, rfl, by have := O2.out; rw [HPL.out] at this; rw [HPL.out]; exact this, hbr⟩
        · have HF2 : Hid (decP zs ty j = ([], false)) := by
            show _ = _
            rw [HE.out]
            exact if_neg hq
          have hqb : (q != (n : Int)) = true := by simpa using hq
          have OL := own_lit (e := 35) (size := 3) wr #[] 0 (Nat.zero_le _) rfl
          have BL := hbr.alloc hbr.size (.cells #[] 35)
          have hzz := hbr.size
          clear HE hq O1 hpl
          go_wp2
          go_ret2
          rw [HF2.out]
          exact ⟨_, rfl, OL.lower hzz, BL⟩

end Go.Proofs.Yteddpefboeikhaa
