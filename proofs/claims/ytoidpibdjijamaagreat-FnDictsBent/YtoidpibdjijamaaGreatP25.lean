/- Texts of this claim, one behind the other: I7h, Law7c. -/
import Derived.Test.YtoidpibdjijamaaGreatP24
import Derived.Test.YtoidpibdjijamaaGreatP15
import Derived.Test.YtoidpibdjijamaaGreatP19
import Derived.Test.YtoidpibdjijamaaGreatP14
import Derived.Test.YtoidpibdjijamaaGreatP4
import Derived.Test.YtoidpibdjijamaaGreatP8

/- The contracts of impl's getDict and DecDict. -/
namespace Go.Proofs.YtoidpibdjijamaaGreat
open Go.RowKit

/-- getDict. -/
def getD7 (zs : List Int) (ty k : Int) : Option (List V × Int) :=
  if (Num.get zs 0).2.2 = true ∧ Num.inB (Num.get zs 0).1 1 k = true then decL zs ty (Num.get zs 0).1.toNat (Num.get zs 0).2.1 else none
def RGet (w w' : World) (e : Ending) (r : Option (List V × Int)) : Prop :=
  (r = none → e = .returned (.tuple #[.slice none 0 0, .int .i64 0, .bool false])) ∧ (∀ d i, r = some (d, i) → ∃ v', e = .returned (.tuple #[v', .int .i64 i, .bool true]) ∧ Own 30 3 w.heap.size w'.heap.size w' v' d.length (vals d)) ∧ Below w.heap.size w w'
theorem rget_none {w w' : World} (h : Below w.heap.size w w') : RGet w w' (.returned (.tuple #[.slice none 0 0, .int .i64 0, .bool false])) none := ⟨fun _ => rfl, fun _ _ h => (by cases h), h⟩
theorem decL_n {zs : List Int} {ty : Int} {k : Nat} {i : Int} {r : List V × Int} (h : decL zs ty k i = some r) : r.1.length = k := decL_len h
theorem decL_bound {zs : List Int} (hb : Num.Bytes zs) {ty : Int} : ∀ {n : Nat} {i : Int} {r : List V × Int}, decL zs ty n i = some r → 0 < n → 0 ≤ r.2 ∧ r.2 ≤ zs.length := by
  intro n
  induction n with
  | zero => intro i r _ h; omega
  | succ n ih =>
    intro i r h _
    rw [decL] at h
    split at h
    · rename_i hg
      obtain ⟨q, hq, rfl⟩ := Option.map_eq_some_iff.1 h
      cases n with
      | zero =>
        simp only [decL, Option.some.injEq] at hq
        subst hq
        exact getV_bound hb hg
      | succ n =>
        have := ih hq (by omega)
        exact this
    · cases h

set_option maxHeartbeats 4000000 in
theorem getDict (u : Value) (n : Nat) (zs : List Int) (ty k : Int) (w : World) (hk : k ≤ 64) (hn : n ≤ 1048576) (hz : zs.length = n) (hby : Num.Bytes zs) (h : At 1 w u n (ints .u8 zs)) :
    Calls Tryz.prog 27 #[u, .int .i64 ty, .int .i64 k] w fun e w' => RGet w w' e (getD7 zs ty k) := by
  have HN := Lib.hid (iGetNum u n zs 0 w (by omega) hz hby h)
  have HG := Lib.hid (fun i W (hW : Below w.heap.size w W) => iGetVal u n zs i ty W hn hz hby (h.below hW))
  have HE : Hid (getD7 zs ty k = if (Num.get zs 0).2.2 = true ∧ Num.inB (Num.get zs 0).1 1 k = true then decL zs ty (Num.get zs 0).1.toNat (Num.get zs 0).2.1 else none) := rfl
  have HNONE := Lib.hid (fun W (hW : Below w.heap.size w W) => rget_none hW)
  have HFIN : Hid (∀ e w', RGet w w' e none → getD7 zs ty k = none → RGet w w' e (getD7 zs ty k)) := fun e w' h1 h2 => by rw [h2]; exact h1
  obtain ⟨b, off, cap, rfl, _, _, _, _⟩ := h
  generalize Num.get zs 0 = g0 at HN HE
  obtain ⟨x0, nx0, ok0⟩ := g0
  unfold getRes at HN
  simp only at HN HE
  clear hz hby
  cases ok0 with
  | false =>
    have HF : Hid (getD7 zs ty k = none) := by
      show _ = _
      rw [HE.out]
      exact if_neg (fun h => by cases h.1)
    go_enter Tryz.func27, Tryz.ntmps27
    go_wp2_with (go_at_call 56; refine HN.out.mono ?_; rintro e w' ⟨rfl, rfl⟩)
    go_ret3
    exact HFIN.out _ _ (HNONE.out _ (Below.refl _ _)) HF.out
  | true =>
    by_cases hin : 1 ≤ x0 ∧ x0 ≤ k
    · obtain ⟨N, rfl⟩ := Int.eq_ofNat_of_zero_le (show 0 ≤ x0 by omega)
      rw [if_pos ⟨rfl, Num.inB_true.2 hin⟩, Int.toNat_natCast] at HE
      obtain ⟨n0, n1⟩ := hin
      have hN64 : N ≤ 64 := by omega
      have HD0 : Hid (decL zs ty N nx0 = (decL zs ty (N - 0) nx0).map fun r => ([] ++ r.1, r.2)) := by
        show _ = _
        simp
      have HST : Hid (∀ (j : Nat) (i : Int) (pre : List V), j < N → decL zs ty N nx0 = (decL zs ty (N - j) i).map (fun r => (pre ++ r.1, r.2)) → if (getV zs i ty).2.2 = true then decL zs ty N nx0 = (decL zs ty (N - (j + 1)) (getV zs i ty).2.1).map (fun r => ((pre ++ [(getV zs i ty).1]) ++ r.1, r.2)) else decL zs ty N nx0 = none) := fun j i pre hj hd => by
        rw [show N - j = (N - (j + 1)) + 1 by omega, decL] at hd
        split
        · rename_i hg
          rw [if_pos hg] at hd
          rw [hd, Option.map_map]
          congr 1
          funext r
          simp
        · rename_i hg
          rw [if_neg hg] at hd
          rw [hd]
          rfl
      have HFN : Hid (∀ (i : Int) (pre : List V), decL zs ty N nx0 = (decL zs ty (N - N) i).map (fun r => (pre ++ r.1, r.2)) → decL zs ty N nx0 = some (pre, i)) := fun i pre hd => by
        rw [hd, Nat.sub_self]
        simp [decL]
      go_enter Tryz.func27, Tryz.ntmps27
      go_wp2_with (first | (go_at_call 56; refine HN.out.mono ?_; rintro e w' ⟨rfl, rfl⟩) | (at_make; refine make_law Tryz.elemVals rfl _ _ rfl .i64 .i64 _ _ N rfl rfl rfl rfl (by omega) (by unfold maxLen; omega) ?_))
      intro w1 hown1 hb1
      have hown0 : Own 30 3 w.heap.size w1.heap.size w1 (.slice (some ⟨w.heap.size, 0, none⟩) N N) N (vals (fillV [] N)) := by
        have e : vals (fillV [] N) = (madeCells V.zero.cs.toArray (N * 3)).toList := by
          rw [made_flat V.cs V.zero 3 N (by omega) (fun _ => rfl)]
          simp [fillV, vals]
        rw [e]
        exact hown1
      clear hown1
      go_wp2
      go_loopw [10, 35] (fun p i wr => ∃ (j : Nat) (q : Int) (pre : List V), j ≤ N ∧ i = .int .i64 j ∧ p = .int .i64 q ∧ pre.length = j ∧ decL zs ty N nx0 = (decL zs ty (N - j) q).map (fun r => (pre ++ r.1, r.2)) ∧ wr.ownsRow w.heap.size 30 3 (.slice (some ⟨w.heap.size, 0, none⟩) N N) N (vals (fillV pre N)) ∧ Below w.heap.size w wr) (fun _ i _ => N - (intOf i).toNat)
      case atStart => exact ⟨0, nx0, [], Nat.zero_le _, rfl, rfl, rfl, HD0.out, hown0.row, hb1⟩
      case round =>
        obtain ⟨j, q, pre, hj, rfl, rfl, hpl, hd, hown, hbr⟩ := hrel
        clear hown0 hb1
        by_cases hlt : j < N
        · have HSJ := Lib.hid (HST.out j q pre hlt hd)
          have HV := Lib.hid (HG.out q wr hbr)
          have HPL := Lib.hid hpl
          have HSET := Lib.hid (fun x => fillV_set (pre := pre) (K := N) x (by omega))
          have HFL := Lib.hid (fillV_len (pre := pre) (K := N) (by omega))
          rw [HPL.out] at HSET
          clear hd hpl
          generalize getV zs q ty = r at HSJ HV
          obtain ⟨⟨xt, xn, xs⟩, nx, ok⟩ := r
          unfold rGet at HV
          simp only at HSJ HV
          go_wp2_with fail
          refine HV.out.mono ?_
          rintro e w2 ⟨rfl, hb2⟩
          have own2 := ((own_of_row hown (Nat.le_refl _)).below hb2 (Nat.le_refl _)).row
          have b2 := below_then hbr hb2 hbr.size
          have R := Lib.hid (stored3 own2 j ⟨xt, xn, xs⟩ (by rw [HFL.out]; exact hlt))
          rw [HSET.out] at R
          obtain ⟨x0, s0⟩ := cellAt_some own2 (j * 3) (by omega)
          obtain ⟨x1, s1⟩ := cellAt_some own2 (j * 3 + 1) (by omega)
          obtain ⟨x2, s2⟩ := cellAt_some own2 (j * 3 + 2) (by omega)
          have f0 := own2.frozenAt (j * 3)
          have f1 := own2.frozenAt (j * 3 + 1)
          have f2 := own2.frozenAt (j * 3 + 2)
          have b3 := Lib.hid (((b2.setCell (p := ⟨w.heap.size, j * 3, none⟩) (Nat.le_refl _) (.int .i64 xt)).setCell (p := ⟨w.heap.size, j * 3 + 1, none⟩) (Nat.le_refl _) (.int .i64 xn)).setCell (p := ⟨w.heap.size, j * 3 + 2, none⟩) (Nat.le_refl _) (.string xs))
          clear hown hb2 HV own2 b2 hbr
          cases ok with
          | false =>
            have HF : Hid (getD7 zs ty k = none) := by
              show _ = _
              have hd := HSJ.out
              rw [if_neg (by simp)] at hd
              rw [HE.out, hd]
            clear R
            go_wp2
            go_ret3
            exact HFIN.out _ _ (HNONE.out _ b3.out) HF.out
          | true =>
            have HS2 : Hid (decL zs ty N nx0 = (decL zs ty (N - (j + 1)) nx).map (fun r => ((pre ++ [(⟨xt, xn, xs⟩ : V)]) ++ r.1, r.2))) := by
              have hd := HSJ.out
              rw [if_pos rfl] at hd
              exact hd
            have HLN : Hid ((pre ++ [(⟨xt, xn, xs⟩ : V)]).length = j + 1) := by
              show _ = _
              simp [HPL.out]
            clear HSJ
            go_wp2
            go_roundw
            case rel => exact ⟨j + 1, nx, pre ++ [⟨xt, xn, xs⟩], by omega, by go_num, rfl, HLN.out, HS2.out, R.out.1, b3.out⟩
            case measure => simp [intOf]; omega
        · obtain rfl : j = N := by omega
          have HF := Lib.hid (HFN.out q pre hd)
          rw [HF.out] at HE
          rw [fillV_all hpl] at hown
          have O1 := own_of_row hown (Nat.le_refl _)
          have HPL := Lib.hid hpl
          have O2 := Lib.hid O1
          clear hd hown O1 hpl
          go_wp2
          go_ret3
          rw [HE.out]
          refine ⟨fun h => (by cases h), fun d i h => ?_, hbr⟩
          cases h
          exact ⟨_, rfl, by rw [HPL.out]; exact O2.out⟩
    · have HF : Hid (getD7 zs ty k = none) := by
        show _ = _
        rw [HE.out]
        exact if_neg (fun h => hin (Num.inB_true.1 h.2))
      by_cases h1 : x0 < 1
      · go_enter Tryz.func27, Tryz.ntmps27
        go_wp2_with (go_at_call 56; refine HN.out.mono ?_; rintro e w' ⟨rfl, rfl⟩)
        go_ret3
        exact HFIN.out _ _ (HNONE.out _ (Below.refl _ _)) HF.out
      · have h2 : k < x0 := by omega
        clear hin
        go_enter Tryz.func27, Tryz.ntmps27
        go_wp2_with (go_at_call 56; refine HN.out.mono ?_; rintro e w' ⟨rfl, rfl⟩)
        go_ret3
        exact HFIN.out _ _ (HNONE.out _ (Below.refl _ _)) HF.out

theorem decD_none {zs : List Int} {ty k : Int} (hk : Num.inB k 1 64 = false) : decD zs ty k = ([], false) := if_neg (fun h => by rw [hk] at h; cases h.2.1)
theorem decD_get {zs : List Int} {ty k : Int} (hk : Num.inB k 1 64 = true) : decD zs ty k = match getD7 zs ty k with
    | some r => decT zs k r.1 r.2
    | none => ([], false) := by
  unfold decD getD7
  by_cases hc : (Num.get zs 0).2.2 = true ∧ Num.inB (Num.get zs 0).1 1 k = true
  · rw [if_pos ⟨hc.1, hk, hc.2⟩, if_pos hc]
    cases decL zs ty (Num.get zs 0).1.toNat (Num.get zs 0).2.1 <;> rfl
  · rw [if_neg (fun h => hc ⟨h.1, h.2.2⟩), if_neg hc]

set_option maxRecDepth 100000 in
set_option maxHeartbeats 4000000 in
theorem iDecDict : CDecDict := by
  intro u n zs ty k w hn hz hby h
  have HNO : Hid (∀ w1, Below w.heap.size w w1 → RDs w (w1.alloc (.cells #[] 30)) (.returned (.tuple #[.slice (some ⟨w1.heap.size, 0, none⟩) 0 0, .bool false])) ([], false)) := fun w1 b1 =>
    ⟨_, rfl, (own_lit (e := 30) (size := 3) w1 #[] 0 (Nat.zero_le _) rfl).lower b1.size, b1.alloc b1.size _⟩
  cases hk : Num.inB k 1 64 with
  | false =>
    rw [decD_none hk]
    have hk2 : k < 1 ∨ 64 < k := by
      by_cases h1 : k < 1
      · exact .inl h1
      · by_cases h2 : 64 < k
        · exact .inr h2
        · exfalso
          rw [Num.inB_true.2 ⟨by omega, by omega⟩] at hk
          cases hk
    have HF1 := Lib.hid (HNO.out w (Below.refl _ _))
    obtain ⟨b, off, cap, rfl, _, _, _, _⟩ := h
    clear hz hby hk
    rcases hk2 with hk | hk
    · go_enter Tryz.func6, Tryz.ntmps6
      go_wp2
      go_ret2
      exact HF1.out
    · go_enter Tryz.func6, Tryz.ntmps6
      go_wp2
      go_ret2
      exact HF1.out
  | true =>
    rw [decD_get hk]
    obtain ⟨k0, k1⟩ := Num.inB_true.1 hk
    have HG := Lib.hid (getDict u n zs ty k w k1 hn hz hby h)
    have HSZ : Hid (∀ d i, getD7 zs ty k = some (d, i) → (1 ≤ d.length ∧ d.length ≤ 64) ∧ (0 ≤ i ∧ i ≤ n) ∧ ∀ v ∈ d, v.s.size ≤ maxLen) := fun d i hr => by
      unfold getD7 at hr
      split at hr
      · rename_i hc
        have h1 := decL_n hr
        have h2 := Num.inB_true.1 hc.2
        have h3 := decL_bound hby hr (by omega)
        simp only at h1 h3
        rw [hz] at h3
        exact ⟨by omega, h3, decL_size hr⟩
      · cases hr
    generalize getD7 zs ty k = G at HG HSZ
    cases G with
    | none =>
      obtain ⟨b, off, cap, rfl, _, _, _, _⟩ := h
      clear hz hby hk HSZ
      go_enter Tryz.func6, Tryz.ntmps6
      go_wp2_with fail
      refine HG.out.mono ?_
      rintro e w1 ⟨h1, _, b1⟩
      obtain rfl := h1 rfl
      have HF1 := Lib.hid (HNO.out w1 b1)
      clear h1 HG HNO
      go_wp2
      go_ret2
      exact HF1.out
    | some r =>
      obtain ⟨d, i⟩ := r
      obtain ⟨⟨hd1, hd2⟩, ⟨q0, q1⟩, hds⟩ := HSZ.out d i rfl
      obtain ⟨A, rfl⟩ := Int.eq_ofNat_of_zero_le q0
      have hAn : A ≤ n := by omega
      have HA := Lib.hid h
      have HZ := Lib.hid hz
      have HBY := Lib.hid hby
      have HDS := Lib.hid hds
      obtain ⟨b, off, cap, rfl, hcn, hcm, _, _⟩ := id h
      simp only
      generalize hres : decT zs k d (A : Int) = res
      have HRES : Hid (res = decT zs k d (A : Int)) := hres.symm
      unfold decT at HRES
      rw [Int.toNat_natCast] at HRES
      clear hz hby hk HSZ hds hres h q0 q1
      go_enter Tryz.func6, Tryz.ntmps6
      go_wp2_with fail
      refine HG.out.mono ?_
      rintro e w1 ⟨_, h1, b1⟩
      obtain ⟨v1, rfl, o1⟩ := h1 d A rfl
      clear h1 HG
      generalize hm : d.length = m at o1 hd1 hd2 HRES
      have HM := Lib.hid hm
      clear hm
      obtain ⟨g1, c1, rfl, hg1, hg2, hrow⟩ := o1
      have O1 : Hid (Own 30 3 w.heap.size w1.heap.size w1 (.slice (some ⟨g1, 0, none⟩) m c1) m (vals d)) := ⟨g1, c1, rfl, hg1, hg2, hrow⟩
      clear hg1 hg2 hrow
      obtain ⟨tl, htl, HTL⟩ := tail_at cap A b off
      have hatr := HA.out.below b1
      have HWD := Lib.hid (fun W => placeWidth (some ⟨g1, 0, none⟩) m c1 W (by omega))
      generalize Bit.widthI ((m : Int) - 1) = wd at HWD HRES
      have HUN := Lib.hid (fun W (hW : Below w1.heap.size w1 W) => iUnpackBits _ (n - A) (zs.drop A) (wd : Int) k W (by omega) (by rw [List.length_drop, HZ.out]) (fun x hx => HBY.out x (List.mem_of_mem_drop hx)) (.inr (At.from HZ.out (hatr.below hW) hAn HTL.out)))
      have hun64 := Bit.unpack_le (zs.drop A) wd k
      generalize Bit.unpack (zs.drop A) (wd : Int) k = up at HUN HRES hun64
      obtain ⟨p, may⟩ := up
      simp only at HRES hun64
      unfold Unpacked at HUN
      simp only at HUN
      have hB' := (Below.refl w1.heap.size w1).drew
      have B1 := Lib.hid b1
      clear hatr b1
      go_wp2
      refine wp_region_held_drew (S := fun _ => True) (by kernel_rfl) trivial (fun hH => ?_)
      refine takeH (i := 0) (d := some 32) (v := .slice (some ⟨b, off, none⟩) n cap) rfl rfl (by kernel_rfl) (by kernel_rfl) (by kernel_rfl) (fun _ _ _ h => h) (Or.inl ⟨by rfl, fun W hSw => by go_simp⟩) hH ?_
      try simp only [put_some, List.set_cons_zero, List.set_cons_succ]
      refine takeH (i := 1) (d := some 33) (v := .int .i64 (A : Int)) rfl rfl (by kernel_rfl) (by kernel_rfl) (by kernel_rfl) (fun _ _ _ h => h) (Or.inl ⟨by rfl, fun W hSw => by go_simp⟩) hH ?_
      try simp only [put_some, List.set_cons_zero, List.set_cons_succ]
      refine takeH (i := 2) (d := some 34) (v := .slice (some ⟨b, tl, none⟩) (n - A) (cap - A)) rfl rfl (by kernel_rfl) (by kernel_rfl) (by kernel_rfl) (fun _ _ _ h => h) (Or.inl ⟨by rfl, fun W hSw => by go_simp⟩) hH ?_
      try simp only [put_some, List.set_cons_zero, List.set_cons_succ]
      refine takeH (i := 3) (d := some 35) (v := .slice (some ⟨g1, 0, none⟩) m c1) rfl rfl (by kernel_rfl) (by kernel_rfl) (by kernel_rfl) (fun _ _ _ h => h) (Or.inl ⟨by rfl, fun W hSw => by go_simp⟩) hH ?_
      try simp only [put_some, List.set_cons_zero, List.set_cons_succ]
      refine takeH (i := 5) (d := some 37) (v := .int .i64 k) rfl rfl (by kernel_rfl) (by kernel_rfl) (by kernel_rfl) (fun _ _ _ h => h) (Or.inl ⟨by rfl, fun W hSw => by go_simp⟩) hH ?_
      try simp only [put_some, List.set_cons_zero, List.set_cons_succ]
      refine wpAnyH_ready (rs := [4]) (by kernel_rfl) (by simp) ?_
      refine AllReadyH.cons rfl (fun K hK => ?_) AllReadyH.nil
      go_simp
      go_at_call 29
      refine (HWD.out _).mono ?_
      rintro e w' ⟨rfl, rfl⟩
      go_wp2_with fail
      refine hK.out _ _ trivial (fun hH => ?_)
      clear hK K
      refine wpAnyH_ready (rs := [6]) (by kernel_rfl) (by simp) ?_
      refine AllReadyH.cons rfl (fun K hK => ?_) AllReadyH.nil
      go_simp
      go_at_call 28
      refine (HUN.out _ hB').mono ?_
      rintro e w2 ⟨v2, rfl, o2, hb2⟩
      have b2 := below_then hB' hb2 hB'.size
      clear hb2 hB' htl HWD
      go_wp2_with fail
      refine hK.out _ _ trivial (fun hH => ?_)
      clear hK K
      refine takeH (i := 7) (d := some 31) (v := .tuple #[v2, .bool may]) rfl rfl (by kernel_rfl) (by kernel_rfl) (by kernel_rfl) (fun _ _ _ h => h) (Or.inl ⟨by rfl, fun W hSw => by go_simp⟩) hH ?_
      try simp only [put_some, List.set_cons_zero, List.set_cons_succ]
      refine takeH (i := 8) (d := some 39) (v := v2) rfl rfl (by kernel_rfl) (by kernel_rfl) (by kernel_rfl) (fun _ _ _ h => h) (Or.inl ⟨by rfl, fun W hSw => by go_simp⟩) hH ?_
      try simp only [put_some, List.set_cons_zero, List.set_cons_succ]
      refine takeH (i := 9) (d := some 40) (v := .bool may) rfl rfl (by kernel_rfl) (by kernel_rfl) (by kernel_rfl) (fun _ _ _ h => h) (Or.inl ⟨by rfl, fun W hSw => by go_simp⟩) hH ?_
      try simp only [put_some, List.set_cons_zero, List.set_cons_succ]
      refine takeH (i := 10) (d := some 11) (v := v2) rfl rfl (by kernel_rfl) (by kernel_rfl) (by kernel_rfl) (fun _ _ _ h => h) (Or.inl ⟨by rfl, fun W hSw => by go_simp⟩) hH ?_
      try simp only [put_some, List.set_cons_zero, List.set_cons_succ]
      refine takeH (i := 11) (d := some 10) (v := .bool may) rfl rfl (by kernel_rfl) (by kernel_rfl) (by kernel_rfl) (fun _ _ _ h => h) (Or.inl ⟨by rfl, fun W hSw => by go_simp⟩) hH ?_
      try simp only [put_some, List.set_cons_zero, List.set_cons_succ]
      refine wpAnyH_done (by kernel_rfl) ?_ _
      have B2 := below_then B1.out b2 B1.out.size
      cases may with
      | false =>
        have HF : Hid (res = ([], false)) := by
          show _ = _
          rw [HRES.out]
          exact if_neg (fun h => by cases h.1)
        have HF1 := Lib.hid (HNO.out w2 B2)
        clear o2 b2
        go_wp2
        go_ret2
        rw [HF.out]
        exact HF1.out
      | true =>
        have HPK := Lib.hid (iPicked (.slice (some ⟨g1, 0, none⟩) m c1) v2 d p w2 (by rw [HM.out]; omega) (by omega) (by rw [HM.out]; exact (O1.out.below b2 (Nat.le_refl _)).rd) o2.rd)
        have HLS := Lib.hid (picked_all (p := p) (q := fun v => v.s.size ≤ maxLen) HDS.out)
        have hl64 := Nat.le_trans (picked_len d p) hun64
        generalize pickedL d p = pc at HPK HLS hl64 HRES
        obtain ⟨l, can⟩ := pc
        unfold RDs at HPK
        simp only at HPK HLS hl64 HRES
        have hzr := Nat.le_trans B1.out.size b2.size
        clear o2 b2
        go_wp2_with fail
        refine HPK.out.mono ?_
        rintro e w3 ⟨v3, rfl, o3, hb3⟩
        have b3 := below_then B2 hb3 B2.size
        have HOL := Lib.hid (o3.lower (show w.heap.size ≤ w2.heap.size by omega))
        have HEN := Lib.hid (iEncDict v3 l w3 (by omega) HLS.out o3.rd)
        clear hb3 HPK o3
        cases can with
        | false =>
          have HF : Hid (res = ([], false)) := by
            show _ = _
            rw [HRES.out]
            exact if_neg (fun h => by cases h.2.1)
          have HF1 := Lib.hid (HNO.out w3 b3)
          clear HEN HOL
          go_wp2
          go_ret2
          rw [HF.out]
          exact HF1.out
        | true =>
          go_wp2_with fail
          refine HEN.out.mono ?_
          rintro e w4 ⟨v4, rfl, o4, hb4⟩
          have b4 := below_then b3 hb4 b3.size
          have OL4 := Lib.hid ((HOL.out.below hb4 (Nat.le_refl _)).wide hb4.size)
          have HSM := Lib.hid (bytesEqual v4 _ (encD l).length n (encD l) zs w4 rfl HZ.out (encD_bytes l) HBY.out o4.at (HA.out.below b4))
          clear HEN hb4 HOL o4
          by_cases hen : encD l = zs
          · rw [decide_eq_true hen] at HSM
            have HF : Hid (res = (l, true)) := by
              show _ = _
              rw [HRES.out]
              exact if_pos (by first | exact ⟨trivial, trivial, hen⟩ | exact ⟨rfl, rfl, hen⟩)
            go_wp2_with (go_at_call 30; refine HSM.out.mono ?_; rintro e w' ⟨rfl, rfl⟩)
            go_ret2
            rw [HF.out]
            exact ⟨_, rfl, OL4.out, b4⟩
          · rw [decide_eq_false hen] at HSM
            have HF : Hid (res = ([], false)) := by
              show _ = _
              rw [HRES.out]
              exact if_neg (fun h => hen h.2.2)
            have HF1 := Lib.hid (HNO.out w4 b4)
            go_wp2_with (go_at_call 30; refine HSM.out.mono ?_; rintro e w' ⟨rfl, rfl⟩)
            go_ret2
            rw [HF.out]
            exact HF1.out

end Go.Proofs.YtoidpibdjijamaaGreat

/- The law FnDictsBent, walked. -/
namespace Go.Proofs.YtoidpibdjijamaaGreat
open Go.RowKit

theorem decD_sizes (zs : List Int) (ty k : Int) : ∀ v ∈ (decD zs ty k).1, v.s.size ≤ maxLen := by
  unfold decD
  split
  · split
    · rename_i r hr
      unfold decT
      split
      · exact picked_all (decL_size hr)
      · exact fun _ h => by cases h
    · exact fun _ h => by cases h
  · exact fun _ h => by cases h

set_option maxRecDepth 100000 in
set_option maxHeartbeats 4000000 in
theorem lawFnDictsBent (c : Code) (w : World) (h : c.len ≤ 1048576 → c.In w) :
    Calls Tryz.prog 3 #[.slice c.a c.len c.cap] w fun e w' => e = .returned (.bool true) ∧ Below w.heap.size w w' := by
  by_cases hbig : 1048576 < c.len
  · go_enter Tryz.func3, Tryz.ntmps3
    go_wp2_with (go_at_call 4; refine (big_yes _ _ _ _ hbig).mono ?_; rintro e w' ⟨rfl, rfl⟩)
    go_ret
    exact ⟨rfl, Below.refl _ _⟩
  · have hin := h (by omega)
    clear h
    go_enter Tryz.func3, Tryz.ntmps3
    go_wp2_with fail
    refine (big_no _ _ _ _ (by omega)).mono ?_
    rintro e w' ⟨rfl, rfl⟩
    go_wp2_with fail
    refine (drawDecDict c _ hin).mono ?_
    rintro e w1 ⟨v1, zs, ty, k, rfl, _, _, hby, hzl, o1, b1⟩
    obtain ⟨bb, cb, hv1⟩ := o1.shape
    subst hv1
    have hBb : Hid (∀ W, Below w1.heap.size w1 W → At 1 W (.slice (some ⟨bb, 0, none⟩) zs.length cb) zs.length (ints .u8 zs)) := fun W hW => o1.at.below hW
    have HID := Lib.hid (fun W hW => iDecDict _ zs.length zs ty k W (by omega) rfl hby (hBb.out W hW))
    have HSD := Lib.hid (fun W hW => sDecDict _ zs.length zs ty k W (by omega) rfl hby (hBb.out W hW))
    have HDK := Lib.hid (dec_okD hby (ty := ty) (k := k))
    have HDS := Lib.hid (decD_sizes zs ty k)
    have HDL := Lib.hid (decD_len zs ty k)
    clear o1
    generalize hd : decD zs ty k = d at HID HSD HDK HDS HDL
    obtain ⟨dl, dk⟩ := d
    unfold RDs at HID HSD
    simp only at HID HSD HDK HDS HDL
    have hdl := HDL.out
    clear hd HDL
    generalize hzn : zs.length = zn at hBb HID HSD hzl ⊢
    have HZN := Lib.hid hzn
    clear hzn
    go_wp2_with fail
    refine (HID.out _ (Below.refl _ _)).mono ?_
    rintro e w2 ⟨v2, rfl, o2, b2⟩
    obtain ⟨bl, cl, hv2⟩ := o2.shape
    subst hv2
    have B2 := below_then b1 b2 b1.size
    clear HID
    go_wp2_with fail
    refine (HSD.out _ b2).mono ?_
    rintro e w3 ⟨v3, rfl, o3, b3⟩
    obtain ⟨bm, cm, hv3⟩ := o3.shape
    subst hv3
    have hb3 := below_then b2 b3 b2.size
    have B3 := below_then B2 b3 B2.size
    have L3 := (o2.below b3 (Nat.le_refl _)).rd
    have M3 := o3.rd
    clear HSD o2 b2 b3 B2 o3 b1
    generalize hdn : dl.length = dn at L3 M3 hdl ⊢
    have HDN := Lib.hid hdn
    clear hdn
    go_wp2_with fail
    refine (drawInDict c _ (hin.below B3)).mono ?_
    rintro e w4 ⟨vd, d, x, rfl, hd16, hda, b4⟩
    have B4 := below_then B3 b4 B3.size
    have hb4 := below_then hb3 b4 hb3.size
    replace L3 := L3.below b4
    replace M3 := M3.below b4
    clear b4 hb3 B3
    have bx := below_alloc w4 (.cells #[.int .i64 x.ty, .int .i64 x.n, .string x.s] 30)
    have X5 := held_new w4 x 30
    have B5 := below_then B4 bx B4.size
    have hb5 := below_then hb4 bx hb4.size
    replace L3 := L3.below bx
    replace M3 := M3.below bx
    replace hda := hda.below bx
    clear bx B4 hb4
    generalize hw5 : w4.alloc (.cells #[.int .i64 x.ty, .int .i64 x.n, .string x.s] 30) = w5 at L3 M3 hda X5 B5 hb5
    have HW5 := Lib.hid hw5
    generalize hbx : w4.heap.size = bx at X5
    have HBX := Lib.hid hbx
    clear hw5 hbx
    obtain ⟨xt, xn, xs⟩ := x
    simp only at HW5
    go_wp2_with fail
    rw [HW5.out, HBX.out]
    refine (drawPicked c _ (hin.below B5)).mono ?_
    rintro e w6 ⟨ve, vp, ed, p, rfl, hpk, b6⟩
    have B6 := below_then B5 b6 B5.size
    have hb6 := below_then hb5 b6 hb5.size
    replace L3 := L3.below b6
    replace M3 := M3.below b6
    replace hda := hda.below b6
    replace X5 := X5.below b6
    clear b6 B5 hb5
    have HIP := Lib.hid (fun W (hW : Below w6.heap.size w6 W) => iPicked ve vp ed p W (by have := hpk.1; omega) (by have := hpk.2.1; omega) (hpk.2.2.2.1.below hW).rd (hpk.2.2.2.2.below hW).rd)
    have HSP := Lib.hid (fun W (hW : Below w6.heap.size w6 W) => sPicked ve vp ed p W (by have := hpk.2.1; omega) (hpk.2.2.2.1.below hW).rd (hpk.2.2.2.2.below hW).rd)
    clear hpk
    generalize pickedL ed p = pr at HIP HSP
    obtain ⟨pl, pb⟩ := pr
    unfold RDs at HIP HSP
    simp only at HIP HSP
    have hpb : (pb != pb) = false := by simp
    go_wp2_with fail
    refine (HIP.out _ (Below.refl _ _)).mono ?_
    rintro e w7 ⟨v7, rfl, o7, b7⟩
    have B7 := below_then B6 b7 B6.size
    have hb7 := below_then hb6 b7 hb6.size
    replace L3 := L3.below b7
    replace M3 := M3.below b7
    replace hda := hda.below b7
    replace X5 := X5.below b7
    clear B6 hb6 HIP
    go_wp2_with fail
    refine (HSP.out _ b7).mono ?_
    rintro e w8 ⟨v8, rfl, o8, b8⟩
    have B8 := below_then B7 b8 B7.size
    have hb8 := below_then hb7 b8 hb7.size
    replace L3 := L3.below b8
    replace M3 := M3.below b8
    replace hda := hda.below b8
    replace X5 := X5.below b8
    have A8 := o7.rd.below b8
    have C8 := o8.rd
    clear b7 b8 o7 o8 B7 hb7 HSP
    go_wp2_with fail
    refine (drawPlaces c _ (hin.below B8)).mono ?_
    rintro e w9 ⟨vf, vu, f, u, rfl, ⟨lo, hpr⟩, b9⟩
    have B9 := below_then B8 b9 B8.size
    have hb9 := below_then hb8 b9 hb8.size
    replace L3 := L3.below b9
    replace M3 := M3.below b9
    replace hda := hda.below b9
    replace X5 := X5.below b9
    replace A8 := A8.below b9
    replace C8 := C8.below b9
    clear b9 B8 hb8
    have HIQ := Lib.hid (fun W (hW : Below w9.heap.size w9 W) => iPlaces vf vu f u W (by have := hpr.dl; omega) (by have := hpr.ll; omega) (hpr.da.below hW).rd (hpr.la.below hW).rd)
    have HSQ := Lib.hid (fun W (hW : Below w9.heap.size w9 W) => sPlaces vf vu f u W (by have := hpr.ll; omega) (hpr.da.below hW).rd (hpr.la.below hW).rd)
    clear hpr
    generalize placesL f u = qr at HIQ HSQ
    obtain ⟨ql, qb⟩ := qr
    unfold Unpacked at HIQ HSQ
    simp only at HIQ HSQ
    have hqb : (qb != qb) = false := by simp
    go_wp2_with fail
    refine (HIQ.out _ (Below.refl _ _)).mono ?_
    rintro e w10 ⟨v10, rfl, o10, b10⟩
    have B10 := below_then B9 b10 B9.size
    have hb10 := below_then hb9 b10 hb9.size
    replace L3 := L3.below b10
    replace M3 := M3.below b10
    replace hda := hda.below b10
    replace X5 := X5.below b10
    replace A8 := A8.below b10
    replace C8 := C8.below b10
    clear B9 hb9 HIQ
    go_wp2_with fail
    refine (HSQ.out _ b10).mono ?_
    rintro e w11 ⟨v11, rfl, o11, b11⟩
    have B11 := below_then B10 b11 B10.size
    have hb11 := below_then hb10 b11 hb10.size
    replace L3 := L3.below b11
    replace M3 := M3.below b11
    replace hda := hda.below b11
    replace X5 := X5.below b11
    replace A8 := A8.below b11
    replace C8 := C8.below b11
    have Q11 := o10.at.below b11
    have S11 := o11.at
    clear b10 b11 o10 o11 B10 hb10 HSQ
    have HI1 := Lib.hid (fun W (hW : Below w11.heap.size w11 W) => sameVals _ _ dn dl W HDN.out (L3.below hW) (M3.below hW))
    have HI2 := Lib.hid (fun W (hW : Below w11.heap.size w11 W) => iInDict vd d ⟨xt, xn, xs⟩ W (by omega) (hda.below hW).rd)
    have HI3 := Lib.hid (fun W (hW : Below w11.heap.size w11 W) => sInDict vd d ⟨xt, xn, xs⟩ W (hda.below hW).rd)
    have HI4 := Lib.hid (fun W (hW : Below w11.heap.size w11 W) => sameVals _ _ pl.length pl W rfl (A8.below hW) (C8.below hW))
    have HI5 := Lib.hid (fun W (hW : Below w11.heap.size w11 W) => sameInts _ _ ql.length ql W rfl (Q11.below hW) (S11.below hW))
    have HI6 := Lib.hid (fun W (hW : Below w11.heap.size w11 W) => iEncDict _ dl W (by rw [HDN.out]; omega) HDS.out (by rw [HDN.out]; exact L3.below hW))
    have HI7 := Lib.hid (fun W (hW : Below w11.heap.size w11 W) => iTypeOf _ dl W (by rw [HDN.out]; omega) HDS.out (by rw [HDN.out]; exact L3.below hW))
    have HBB : Hid (∀ W, Below w11.heap.size w11 W → At 1 W (.slice (some ⟨bb, 0, none⟩) zn cb) zn (ints .u8 zs)) := fun W hW => hBb.out W (below_then hb11 hW hb11.size)
    have HXC : Hid (∀ W, Below w11.heap.size w11 W → W.cell? ⟨bx, 0, none⟩ = some (.int .i64 xt) ∧ W.cell? ⟨bx, 1, none⟩ = some (.int .i64 xn) ∧ W.cell? ⟨bx, 2, none⟩ = some (.string xs)) := fun W hW => (X5.below hW).1
    generalize inI d ⟨xt, xn, xs⟩ = ix at HI2 HI3
    have hix : (ix != ix) = false := by simp
    have hkk : (dk != dk) = false := by simp
    have hB' := (Below.refl w11.heap.size w11).drew
    have HB11 := Lib.hid B11
    clear L3 M3 hda X5 A8 C8 Q11 S11 hb11 hBb B11
    go_wp2_with fail
    go_region_held3 (fun W => W.cell? ⟨bx, 0, none⟩ = some (.int .i64 xt) ∧ W.cell? ⟨bx, 1, none⟩ = some (.int .i64 xn) ∧ W.cell? ⟨bx, 2, none⟩ = some (.string xs)) (exact HXC.out _ hB') (first | (go_at_call 15; (with_reducible refine (HI1.out _ hB').mono ?_); rintro e u1 ⟨rfl, hb⟩; replace hB' := below_then hB' hb hB'.size) | (go_at_call 16; (with_reducible refine (HI2.out _ hB').mono ?_); rintro e u2 ⟨rfl, hb⟩; replace hB' := below_then hB' hb hB'.size) | (go_at_call 17; (with_reducible refine (HI3.out _ hB').mono ?_); rintro e u3 ⟨rfl, hb⟩; replace hB' := below_then hB' hb hB'.size) | (go_at_call 15; (with_reducible refine (HI4.out _ hB').mono ?_); rintro e u4 ⟨rfl, hb⟩; replace hB' := below_then hB' hb hB'.size) | (go_at_call 18; (with_reducible refine (HI5.out _ hB').mono ?_); rintro e u5 ⟨rfl, hb⟩; replace hB' := below_then hB' hb hB'.size))
    have hb12 := hB'
    have B12 := below_then HB11.out hB' HB11.out.size
    clear hB' HI1 HI2 HI3 HI4 HI5 HXC
    cases dk with
    | false =>
      go_wp2_with fail
      go_ret
      exact ⟨rfl, B12⟩
    | true =>
      obtain ⟨hd1, hd2, hd3⟩ := HDK.out rfl
      have HD1 := Lib.hid hd1
      have HD3 := Lib.hid hd3
      rw [HDN.out] at hd2
      subst hd2
      have hdd : ((dn : Int) == (dn : Int)) = true := by simp
      have htt : (ty == ty) = true := by simp
      clear hd1 hd3 HDK
      rw [HD1.out] at HI6
      rw [HD3.out] at HI7
      rw [HZN.out] at HI6
      go_wp2_with fail
      refine (HI6.out _ hb12).mono ?_
      rintro e w13 ⟨v13, rfl, o13, b13⟩
      have hb13 := below_then hb12 b13 hb12.size
      have B13 := below_then B12 b13 B12.size
      obtain ⟨b13', c13', hv13⟩ := o13.shape
      subst hv13
      have HS13 := Lib.hid (same _ _ zn zs w13 HZN.out o13.at (HBB.out _ hb13))
      clear HI6 hb12 b13 B12 o13
      go_wp2_with fail
      refine HS13.out.mono ?_
      rintro e w14 ⟨rfl, b14⟩
      have hb14 := below_then hb13 b14 hb13.size
      have B14 := below_then B13 b14 B13.size
      clear HS13 hb13 b14 B13
      go_wp2_with fail
      refine (HI7.out _ hb14).mono ?_
      rintro e w15 ⟨rfl, b15⟩
      have B15 := below_then B14 b15 B14.size
      go_wp2
      go_ret
      exact ⟨rfl, B15⟩

end Go.Proofs.YtoidpibdjijamaaGreat
