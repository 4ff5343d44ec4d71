/- Texts of this claim, one behind the other: I7h, Law7b. -/
import Derived.Test.YtoidpibdjijamaaP25
import Derived.Test.YtoidpibdjijamaaP16
import Derived.Test.YtoidpibdjijamaaP20
import Derived.Test.YtoidpibdjijamaaP15
import Derived.Test.YtoidpibdjijamaaP4
import Derived.Test.YtoidpibdjijamaaP8

/- The contracts of impl's getDict and DecDict. -/
namespace Go.Proofs.Ytoidpibdjijamaa
open Go.RowKit

/-- getDict. -/
def getD7 (zs : List Int) (ty k : Int) : Option (List V × Int) :=
  if (Num.get zs 0).2.2 = true ∧ Num.inB (Num.get zs 0).1 1 k = true then decL zs ty (Num.get zs 0).1.toNat (Num.get zs 0).2.1 else none
def RGet (w w' : World) (e : Ending) (r : Option (List V × Int)) : Prop :=
  (r = none → e = .returned (.tuple #[.slice none 0 0, .int .i64 0, .bool false])) ∧ (∀ d i, r = some (d, i) → ∃ v', e = .returned (.tuple #[v', .int .i64 i, .bool true]) ∧ Own 37 3 w.heap.size w'.heap.size w' v' d.length (vals d)) ∧ Below w.heap.size w w'
theorem rget_none {w w' : World} (h : Below w.heap.size w w') : RGet w w' (.returned (.tuple #[.slice none 0 0, .int .i64 0, .bool false])) none := ⟨fun _ => rfl, fun _ _ h => (by cases h), h⟩
theorem decL_n {zs : List Int} {ty : Int} {k : Nat} {i : Int} {r : List V × Int} (h : decL zs ty k i = some r) : r.1.length = k := decL_len h
theorem decL_bound {zs : List Int} (hb : Num.Bytes zs) {ty : Int} : ∀ {n : Nat} {i : Int} {r : List V × Int}, decL zs ty n i = some r → 0 < n → 0 ≤ r.2 ∧ r.2 ≤ zs.length := by
  intro n
  induction n with
  | zero => intro i r _ h; omega
  | succ n ih =>
    intro i r h _
    rw [decL] at h
    split at h
    · rename_i hg
      obtain ⟨q, hq, rfl⟩ := Option.map_eq_some_iff.1 h
      cases n with
      | zero =>
        simp only [decL, Option.some.injEq] at hq
        subst hq
        exact getV_bound hb hg
      | succ n =>
        have := ih hq (by omega)
        exact this
    · cases h

set_option maxHeartbeats 4000000 in
theorem getDict (u : Value) (n : Nat) (zs : List Int) (ty k : Int) (w : World) (hk : k ≤ 64) (hn : n ≤ 1048576) (hz : zs.length = n) (hby : Num.Bytes zs) (h : At 1 w u n (ints .u8 zs)) :
    Calls Try.prog 60 #[u, .int .i64 ty, .int .i64 k] w fun e w' => RGet w w' e (getD7 zs ty k) := by
  have HN := Lib.hid (iGetNum u n zs 0 w (by omega) hz hby h)
  have HG := Lib.hid (fun i W (hW : Below w.heap.size w W) => iGetVal u n zs i ty W hn hz hby (h.below hW))
  have HE : Hid (getD7 zs ty k = if (Num.get zs 0).2.2 = true ∧ Num.inB (Num.get zs 0).1 1 k = true then decL zs ty (Num.get zs 0).1.toNat (Num.get zs 0).2.1 else none) := rfl
  have HNONE := Lib.hid (fun W (hW : Below w.heap.size w W) => rget_none hW)
  have HFIN : Hid (∀ e w', RGet w w' e none → getD7 zs ty k = none → RGet w w' e (getD7 zs ty k)) := fun e w' h1 h2 => by rw [h2]; exact h1
  obtain ⟨b, off, cap, rfl, _, _, _, _⟩ := h
  generalize Num.get zs 0 = g0 at HN HE
  obtain ⟨x0, nx0, ok0⟩ := g0
  unfold getRes at HN
  simp only at HN HE
  clear hz hby
  cases ok0 with
  | false =>
    have HF : Hid (getD7 zs ty k = none) := by
      show _ = _
      rw [HE.out]
      exact if_neg (fun h => by cases h.1)
    go_enter Try.func60, Try.ntmps60
    go_wp2_with (go_at_call 91; refine HN.out.mono ?_; rintro e w' ⟨rfl, rfl⟩)
    go_ret3
    exact HFIN.out _ _ (HNONE.out _ (Below.refl _ _)) HF.out
  | true =>
    by_cases hin : 1 ≤ x0 ∧ x0 ≤ k
    · obtain ⟨N, rfl⟩ := Int.eq_ofNat_of_zero_le (show 0 ≤ x0 by omega)
      rw [if_pos ⟨rfl, Num.inB_true.2 hin⟩, Int.toNat_natCast] at HE
      obtain ⟨n0, n1⟩ := hin
      have hN64 : N ≤ 64 := by omega
      have HD0 : Hid (decL zs ty N nx0 = (decL zs ty (N - 0) nx0).map fun r => ([] ++ r.1, r.2)) := by
        show _ = _
        simp
      have HST : Hid (∀ (j : Nat) (i : Int) (pre : List V), j < N → decL zs ty N nx0 = (decL zs ty (N - j) i).map (fun r => (pre ++ r.1, r.2)) → if (getV zs i ty).2.2 = true then decL zs ty N nx0 = (decL zs ty (N - (j + 1)) (getV zs i ty).2.1).map (fun r => ((pre ++ [(getV zs i ty).1]) ++ r.1, r.2)) else decL zs ty N nx0 = none) := fun j i pre hj hd => by
        rw [show N - j = (N - (j + 1)) + 1 by omega, decL] at hd
        split
        · rename_i hg
          rw [if_pos hg] at hd
          rw [hd, Option.map_map]
          congr 1
          funext r
          simp
        · rename_i hg
          rw [if_neg hg] at hd
          rw [hd]
          rfl
      have HFN : Hid (∀ (i : Int) (pre : List V), decL zs ty N nx0 = (decL zs ty (N - N) i).map (fun r => (pre ++ r.1, r.2)) → decL zs ty N nx0 = some (pre, i)) := fun i pre hd => by
        rw [hd, Nat.sub_self]
        simp [decL]
      go_enter Try.func60, Try.ntmps60
      go_wp2_with (first | (go_at_call 91; refine HN.out.mono ?_; rintro e w' ⟨rfl, rfl⟩) | (at_make; refine make_law Try.elemVals rfl _ _ rfl .i64 .i64 _ _ N rfl rfl rfl rfl (by omega) (by unfold maxLen; omega) ?_))
      intro w1 hown1 hb1
      have hown0 : Own 37 3 w.heap.size w1.heap.size w1 (.slice (some ⟨w.heap.size, 0, none⟩) N N) N (vals (fillV [] N)) := by
        have e : vals (fillV [] N) = (madeCells V.zero.cs.toArray (N * 3)).toList := by
          rw [made_flat V.cs V.zero 3 N (by omega) (fun _ => rfl)]
          simp [fillV, vals]
        rw [e]
        exact hown1
      clear hown1
      go_wp2
      go_loopw [10, 35] (fun p i wr => ∃ (j : Nat) (q : Int) (pre : List V), j ≤ N ∧ i = .int .i64 j ∧ p = .int .i64 q ∧ pre.length = j ∧ decL zs ty N nx0 = (decL zs ty (N - j) q).map (fun r => (pre ++ r.1, r.2)) ∧ wr.ownsRow w.heap.size 37 3 (.slice (some ⟨w.heap.size, 0, none⟩) N N) N (vals (fillV pre N)) ∧ Below w.heap.size w wr) (fun _ i _ => N - (intOf i).toNat)
      case atStart => exact ⟨0, nx0, [], Nat.zero_le _, rfl, rfl, rfl, HD0.out, hown0.row, hb1⟩
      case round =>
        obtain ⟨j, q, pre, hj, rfl, rfl, hpl, hd, hown, hbr⟩ := hrel
        clear hown0 hb1
        by_cases hlt : j < N
        · have HSJ := Lib.hid (HST.out j q pre hlt hd)
          have HV := Lib.hid (HG.out q wr hbr)
          have HPL := Lib.hid hpl
          have HSET := Lib.hid (fun x => fillV_set (pre := pre) (K := N) x (by omega))
          have HFL := Lib.hid (fillV_len (pre := pre) (K := N) (by omega))
          rw [HPL.out] at HSET
          clear hd hpl
          generalize getV zs q ty = r at HSJ HV
          obtain ⟨⟨xt, xn, xs⟩, nx, ok⟩ := r
          unfold rGet at HV
          simp only at HSJ HV
          go_wp2_with fail
          refine HV.out.mono ?_
          rintro e w2 ⟨rfl, hb2⟩
          have own2 := ((own_of_row hown (Nat.le_refl _)).below hb2 (Nat.le_refl _)).row
          have b2 := below_then hbr hb2 hbr.size
          have R := Lib.hid (stored3 own2 j ⟨xt, xn, xs⟩ (by rw [HFL.out]; exact hlt))
          rw [HSET.out] at R
          obtain ⟨x0, s0⟩ := cellAt_some own2 (j * 3) (by omega)
          obtain ⟨x1, s1⟩ := cellAt_some own2 (j * 3 + 1) (by omega)
          obtain ⟨x2, s2⟩ := cellAt_some own2 (j * 3 + 2) (by omega)
          have f0 := own2.frozenAt (j * 3)
          have f1 := own2.frozenAt (j * 3 + 1)
          have f2 := own2.frozenAt (j * 3 + 2)
          have b3 := Lib.hid (((b2.setCell (p := ⟨w.heap.size, j * 3, none⟩) (Nat.le_refl _) (.int .i64 xt)).setCell (p := ⟨w.heap.size, j * 3 + 1, none⟩) (Nat.le_refl _) (.int .i64 xn)).setCell (p := ⟨w.heap.size, j * 3 + 2, none⟩) (Nat.le_refl _) (.string xs))
          clear hown hb2 HV own2 b2 hbr
          cases ok with
          | false =>
            have HF : Hid (getD7 zs ty k = none) := by
              show _ = _
              have hd := HSJ.out
              rw [if_neg (by simp)] at hd
              rw [HE.out, hd]
            clear R
            go_wp2
            go_ret3
            exact HFIN.out _ _ (HNONE.out _ b3.out) HF.out
          | true =>
            have HS2 : Hid (decL zs ty N nx0 = (decL zs ty (N - (j + 1)) nx).map (fun r => ((pre ++ [(⟨xt, xn, xs⟩ : V)]) ++ r.1, r.2))) := by
              have hd := HSJ.out
              rw [if_pos rfl] at hd
              exact hd
            have HLN : Hid ((pre ++ [(⟨xt, xn, xs⟩ : V)]).length = j + 1) := by
              show _ = _
              simp [HPL.out]
            clear HSJ
            go_wp2
            go_roundw
            case rel => exact ⟨j + 1, nx, pre ++ [⟨xt, xn, xs⟩], by omega, by go_num, rfl, HLN.out, HS2.out, R.out.1, b3.out⟩
            case measure => simp [intOf]; omega
        · obtain rfl : j = N := by omega
          have HF := Lib.hid (HFN.out q pre hd)
          rw [HF.out] at HE
          rw [fillV_all hpl] at hown
          have O1 := own_of_row hown (Nat.le_refl _)
          have HPL := Lib.hid hpl
          have O2 := Lib.hid O1
          clear hd hown O1 hpl
          go_wp2
          go_ret3
          rw [HE.out]
          refine ⟨fun h => (by cases h), fun d i h => ?_, hbr⟩
          cases h
          exact ⟨_, rfl, by rw [HPL.out]; exact O2.out⟩
    · have HF : Hid (getD7 zs ty k = none) := by
        show _ = _
        rw [HE.out]
        exact if_neg (fun h => hin (Num.inB_true.1 h.2))
      by_cases h1 : x0 < 1
      · go_enter Try.func60, Try.ntmps60
        go_wp2_with (go_at_call 91; refine HN.out.mono ?_; rintro e w' ⟨rfl, rfl⟩)
        go_ret3
        exact HFIN.out _ _ (HNONE.out _ (Below.refl _ _)) HF.out
      · have h2 : k < x0 := by omega
        clear hin
        go_enter Try.func60, Try.ntmps60
        go_wp2_with (go_at_call 91; refine HN.out.mono ?_; rintro e w' ⟨rfl, rfl⟩)
        go_ret3
        exact HFIN.out _ _ (HNONE.out _ (Below.refl _ _)) HF.out

theorem decD_none {zs : List Int} {ty k : Int} (hk : Num.inB k 1 64 = false) : decD zs ty k = ([], false) := if_neg (fun h => by rw [hk] at h; cases h.2.1)
theorem decD_get {zs : List Int} {ty k : Int} (hk : Num.inB k 1 64 = true) : decD zs ty k = match getD7 zs ty k with
    | some r => decT zs k r.1 r.2
    | none => ([], false) := by
  unfold decD getD7
  by_cases hc : (Num.get zs 0).2.2 = true ∧ Num.inB (Num.get zs 0).1 1 k = true
  · rw [if_pos ⟨hc.1, hk, hc.2⟩, if_pos hc]
    cases decL zs ty (Num.get zs 0).1.toNat (Num.get zs 0).2.1 <;> rfl
  · rw [if_neg (fun h => hc ⟨h.1, h.2.2⟩), if_neg hc]

set_option maxRecDepth 100000 in
set_option maxHeartbeats 4000000 in
theorem iDecDict : CDecDict := by
  intro u n zs ty k w hn hz hby h
  have HNO : Hid (∀ w1, Below w.heap.size w w1 → RDs w (w1.alloc (.cells #[] 37)) (.returned (.tuple #[.slice (some ⟨w1.heap.size, 0, none⟩) 0 0, .bool false])) ([], false)) := fun w1 b1 =>
    ⟨_, rfl, (own_lit (e := 37) (size := 3) w1 #[] 0 (Nat.zero_le _) rfl).lower b1.size, b1.alloc b1.size _⟩
  cases hk : Num.inB k 1 64 with
  | false =>
    rw [decD_none hk]
    have hk2 : k < 1 ∨ 64 < k := by
      by_cases h1 : k < 1
      · exact .inl h1
      · by_cases h2 : 64 < k
        · exact .inr h2
        · exfalso
          rw [Num.inB_true.2 ⟨by omega, by omega⟩] at hk
          cases hk
    have HF1 := Lib.hid (HNO.out w (Below.refl _ _))
    obtain ⟨b, off, cap, rfl, _, _, _, _⟩ := h
    clear hz hby hk
    rcases hk2 with hk | hk
    · go_enter Try.func22, Try.ntmps22
      go_wp2
      go_ret2
      exact HF1.out
    · go_enter Try.func22, Try.ntmps22
      go_wp2
      go_ret2
      exact HF1.out
  | true =>
    rw [decD_get hk]
    obtain ⟨k0, k1⟩ := Num.inB_true.1 hk
    have HG := Lib.hid (getDict u n zs ty k w k1 hn hz hby h)
    have HSZ : Hid (∀ d i, getD7 zs ty k = some (d, i) → (1 ≤ d.length ∧ d.length ≤ 64) ∧ (0 ≤ i ∧ i ≤ n) ∧ ∀ v ∈ d, v.s.size ≤ maxLen) := fun d i hr => by
      unfold getD7 at hr
      split at hr
      · rename_i hc
        have h1 := decL_n hr
        have h2 := Num.inB_true.1 hc.2
        have h3 := decL_bound hby hr (by omega)
        simp only at h1 h3
        rw [hz] at h3
        exact ⟨by omega, h3, decL_size hr⟩
      · cases hr
    generalize getD7 zs ty k = G at HG HSZ
    cases G with
    | none =>
      obtain ⟨b, off, cap, rfl, _, _, _, _⟩ := h
      clear hz hby hk HSZ
      go_enter Try.func22, Try.ntmps22
      go_wp2_with fail
      refine HG.out.mono ?_
      rintro e w1 ⟨h1, _, b1⟩
      obtain rfl := h1 rfl
      have HF1 := Lib.hid (HNO.out w1 b1)
      clear h1 HG HNO
      go_wp2
      go_ret2
      exact HF1.out
    | some r =>
      obtain ⟨d, i⟩ := r
      obtain ⟨⟨hd1, hd2⟩, ⟨q0, q1⟩, hds⟩ := HSZ.out d i rfl
      obtain ⟨A, rfl⟩ := Int.eq_ofNat_of_zero_le q0
      have hAn : A ≤ n := by omega
      have HA := Lib.hid h
      have HZ := Lib.hid hz
      have HBY := Lib.hid hby
      have HDS := Lib.hid hds
      obtain ⟨b, off, cap, rfl, hcn, hcm, _, _⟩ := id h
      simp only
      generalize hres : decT zs k d (A : Int) = res
      have HRES : Hid (res = decT zs k d (A : Int)) := hres.symm
      unfold decT at HRES
      rw [Int.toNat_natCast] at HRES
      clear hz hby hk HSZ hds hres h q0 q1
      go_enter Try.func22, Try.ntmps22
      go_wp2_with fail
      refine HG.out.mono ?_
      rintro e w1 ⟨_, h1, b1⟩
      obtain ⟨v1, rfl, o1⟩ := h1 d A rfl
      clear h1 HG
      generalize hm : d.length = m at o1 hd1 hd2 HRES
      have HM := Lib.hid hm
      clear hm
      obtain ⟨g1, c1, rfl, hg1, hg2, hrow⟩ := o1
      have O1 : Hid (Own 37 3 w.heap.size w1.heap.size w1 (.slice (some ⟨g1, 0, none⟩) m c1) m (vals d)) := ⟨g1, c1, rfl, hg1, hg2, hrow⟩
      clear hg1 hg2 hrow
      obtain ⟨tl, htl, HTL⟩ := tail_at cap A b off
      have hatr := HA.out.below b1
      have HWD := Lib.hid (fun W => placeWidth (some ⟨g1, 0, none⟩) m c1 W (by omega))
      generalize Bit.widthI ((m : Int) - 1) = wd at HWD HRES
      have HUN := Lib.hid (fun W (hW : Below w1.heap.size w1 W) => iUnpackBits _ (n - A) (zs.drop A) (wd : Int) k W (by omega) (by rw [List.length_drop, HZ.out]) (fun x hx => HBY.out x (List.mem_of_mem_drop hx)) (.inr (At.from HZ.out (hatr.below hW) hAn HTL.out)))
      have hun64 := Bit.unpack_le (zs.drop A) wd k
      generalize Bit.unpack (zs.drop A) (wd : Int) k = up at HUN HRES hun64
      obtain ⟨p, may⟩ := up
      simp only at HRES hun64
      unfold Unpacked at HUN
      simp only at HUN
      have hB' := (Below.refl w1.heap.size w1).drew
      have B1 := Lib.hid b1
      clear hatr b1
      go_wp2
      refine wp_region_held_drew (S := fun _ => True) (by kernel_rfl) trivial (fun hH => ?_)
      refine takeH (i := 0) (d := some 32) (v := .slice (some ⟨b, off, none⟩) n cap) rfl rfl (by kernel_rfl) (by kernel_rfl) (by kernel_rfl) (fun _ _ _ h => h) (Or.inl ⟨by rfl, fun W hSw => by go_simp⟩) hH ?_
      try simp only [put_some, List.set_cons_zero, List.set_cons_succ]
      refine takeH (i := 1) (d := some 33) (v := .int .i64 (A : Int)) rfl rfl (by kernel_rfl) (by kernel_rfl) (by kernel_rfl) (fun _ _ _ h => h) (Or.inl ⟨by rfl, fun W hSw => by go_simp⟩) hH ?_
      try simp only [put_some, List.set_cons_zero, List.set_cons_succ]
      refine takeH (i := 2) (d := some 34) (v := .slice (some ⟨b, tl, none⟩) (n - A) (cap - A)) rfl rfl (by kernel_rfl) (by kernel_rfl) (by kernel_rfl) (fun _ _ _ h => h) (Or.inl ⟨by rfl, fun W hSw => by go_simp⟩) hH ?_
      try simp only [put_some, List.set_cons_zero, List.set_cons_succ]
      refine takeH (i := 3) (d := some 35) (v := .slice (some ⟨g1, 0, none⟩) m c1) rfl rfl (by kernel_rfl) (by kernel_rfl) (by kernel_rfl) (fun _ _ _ h => h) (Or.inl ⟨by rfl, fun W hSw => by go_simp⟩) hH ?_
      try simp only [put_some, List.set_cons_zero, List.set_cons_succ]
      refine takeH (i := 5) (d := some 37) (v := .int .i64 k) rfl rfl (by kernel_rfl) (by kernel_rfl) (by kernel_rfl) (fun _ _ _ h => h) (Or.inl ⟨by rfl, fun W hSw => by go_simp⟩) hH ?_
      try simp only [put_some, List.set_cons_zero, List.set_cons_succ]
      refine wpAnyH_ready (rs := [4]) (by kernel_rfl) (by simp) ?_
      refine AllReadyH.cons rfl (fun K hK => ?_) AllReadyH.nil
      go_simp
      go_at_call 51
      refine (HWD.out _).mono ?_
      rintro e w' ⟨rfl, rfl⟩
      go_wp2_with fail
      refine hK.out _ _ trivial (fun hH => ?_)
      clear hK K
      refine wpAnyH_ready (rs := [6]) (by kernel_rfl) (by simp) ?_
      refine AllReadyH.cons rfl (fun K hK => ?_) AllReadyH.nil
      go_simp
      go_at_call 61
      refine (HUN.out _ hB').mono ?_
      rintro e w2 ⟨v2, rfl, o2, hb2⟩
      have b2 := below_then hB' hb2 hB'.size
      clear hb2 hB' htl HWD
      go_wp2_with fail
      refine hK.out _ _ trivial (fun hH => ?_)
      clear hK K
      refine takeH (i := 7) (d := some 31) (v := .tuple #[v2, .bool may]) rfl rfl (by kernel_rfl) (by kernel_rfl) (by kernel_rfl) (fun _ _ _ h => h) (Or.inl ⟨by rfl, fun W hSw => by go_simp⟩) hH ?_
      try simp only [put_some, List.set_cons_zero, List.set_cons_succ]
      refine takeH (i := 8) (d := some 39) (v := v2) rfl rfl (by kernel_rfl) (by kernel_rfl) (by kernel_rfl) (fun _ _ _ h => h) (Or.inl ⟨by rfl, fun W hSw => by go_simp⟩) hH ?_
      try simp only [put_some, List.set_cons_zero, List.set_cons_succ]
      refine takeH (i := 9) (d := some 40) (v := .bool may) rfl rfl (by kernel_rfl) (by kernel_rfl) (by kernel_rfl) (fun _ _ _ h => h) (Or.inl ⟨by rfl, fun W hSw => by go_simp⟩) hH ?_
      try simp only [put_some, List.set_cons_zero, List.set_cons_succ]
      refine takeH (i := 10) (d := some 11) (v := v2) rfl rfl (by kernel_rfl) (by kernel_rfl) (by kernel_rfl) (fun _ _ _ h => h) (Or.inl ⟨by rfl, fun W hSw => by go_simp⟩) hH ?_
      try simp only [put_some, List.set_cons_zero, List.set_cons_succ]
      refine takeH (i := 11) (d := some 10) (v := .bool may) rfl rfl (by kernel_rfl) (by kernel_rfl) (by kernel_rfl) (fun _ _ _ h => h) (Or.inl ⟨by rfl, fun W hSw => by go_simp⟩) hH ?_
      try simp only [put_some, List.set_cons_zero, List.set_cons_succ]
      refine wpAnyH_done (by kernel_rfl) ?_ _
      have B2 := below_then B1.out b2 B1.out.size
      cases may with
      | false =>
        have HF : Hid (res = ([], false)) := by
          show _ = _
          rw [HRES.out]
          exact if_neg (fun h => by cases h.1)
        have HF1 := Lib.hid (HNO.out w2 B2)
        clear o2 b2
        go_wp2
        go_ret2
        rw [HF.out]
        exact HF1.out
      | true =>
        have HPK := Lib.hid (iPicked (.slice (some ⟨g1, 0, none⟩) m c1) v2 d p w2 (by rw [HM.out]; omega) (by omega) (by rw [HM.out]; exact (O1.out.below b2 (Nat.le_refl _)).rd) o2.rd)
        have HLS := Lib.hid (picked_all (p := p) (q := fun v => v.s.size ≤ maxLen) HDS.out)
        have hl64 := Nat.le_trans (picked_len d p) hun64
        generalize pickedL d p = pc at HPK HLS hl64 HRES
        obtain ⟨l, can⟩ := pc
        unfold RDs at HPK
        simp only at HPK HLS hl64 HRES
        have hzr := Nat.le_trans B1.out.size b2.size
        clear o2 b2
        go_wp2_with fail
        refine HPK.out.mono ?_
        rintro e w3 ⟨v3, rfl, o3, hb3⟩
        have b3 := below_then B2 hb3 B2.size
        have HOL := Lib.hid (o3.lower (show w.heap.size ≤ w2.heap.size by omega))
        have HEN := Lib.hid (iEncDict v3 l w3 (by omega) HLS.out o3.rd)
        clear hb3 HPK o3
        cases can with
        | false =>
          have HF : Hid (res = ([], false)) := by
            show _ = _
            rw [HRES.out]
            exact if_neg (fun h => by cases h.2.1)
          have HF1 := Lib.hid (HNO.out w3 b3)
          clear HEN HOL
          go_wp2
          go_ret2
          rw [HF.out]
          exact HF1.out
        | true =>
          go_wp2_with fail
          refine HEN.out.mono ?_
          rintro e w4 ⟨v4, rfl, o4, hb4⟩
          have b4 := below_then b3 hb4 b3.size
          have OL4 := Lib.hid ((HOL.out.below hb4 (Nat.le_refl _)).wide hb4.size)
          have HSM := Lib.hid (bytesEqual v4 _ (encD l).length n (encD l) zs w4 rfl HZ.out (encD_bytes l) HBY.out o4.at (HA.out.below b4))
          clear HEN hb4 HOL o4
          by_cases hen : encD l = zs
          · rw [decide_eq_true hen] at HSM
            have HF : Hid (res = (l, true)) := by
              show _ = _
              rw [HRES.out]
              exact if_pos (by first | exact ⟨trivial, trivial, hen⟩ | exact ⟨rfl, rfl, hen⟩)
            go_wp2_with (go_at_call 62; refine HSM.out.mono ?_; rintro e w' ⟨rfl, rfl⟩)
            go_ret2
            rw [HF.out]
            exact ⟨_, rfl, OL4.out, b4⟩
          · rw [decide_eq_false hen] at HSM
            have HF : Hid (res = ([], false)) := by
              show _ = _
              rw [HRES.out]
              exact if_neg (fun h => hen h.2.2)
            have HF1 := Lib.hid (HNO.out w4 b4)
            go_wp2_with (go_at_call 62; refine HSM.out.mono ?_; rintro e w' ⟨rfl, rfl⟩)
            go_ret2
            rw [HF.out]
            exact HF1.out

end Go.Proofs.Ytoidpibdjijamaa

/- The law FnDicts, walked. -/
namespace Go.Proofs.Ytoidpibdjijamaa
open Go.RowKit

set_option maxHeartbeats 4000000 in
theorem lawFnDicts (c : Code) (w : World) (h : c.len ≤ 1048576 → c.In w) :
    Calls Try.prog 3 #[.slice c.a c.len c.cap] w fun e w' => e = .returned (.bool true) ∧ Below w.heap.size w w' := by
  by_cases hbig : 1048576 < c.len
  · go_enter Try.func3, Try.ntmps3
    go_wp2_with (go_at_call 10; refine (big_yes _ _ _ _ hbig).mono ?_; rintro e w' ⟨rfl, rfl⟩)
    go_ret
    exact ⟨rfl, Below.refl _ _⟩
  · have hin := h (by omega)
    clear h
    go_enter Try.func3, Try.ntmps3
    go_wp2_with fail
    refine (big_no _ _ _ _ (by omega)).mono ?_
    rintro e w' ⟨rfl, rfl⟩
    go_wp2_with fail
    refine (drawDict c _ hin).mono ?_
    rintro e w1 ⟨v1, l, rfl, hl, o1, b1⟩
    have HSZ := Lib.hid hl.sizes
    have hl16 := hl.1
    clear hl
    obtain ⟨bl, cl, hv1⟩ := o1.shape
    subst hv1
    go_wp2_with fail
    refine (iDict _ l w1 (by omega) HSZ.out o1.rd).mono ?_
    rintro e w2 ⟨v2, rfl, o2, b2⟩
    have B2 := below_then b1 b2 b1.size
    have L2 := (o1.below b2 (Nat.le_refl _)).wide b2.size
    obtain ⟨br, cr, hv2⟩ := o2.shape
    subst hv2
    clear o1 b2
    go_wp2_with fail
    refine (iEncDict _ l w2 (by omega) HSZ.out L2.rd).mono ?_
    rintro e w3 ⟨v3, rfl, o3, b3⟩
    have B3 := below_then B2 b3 B2.size
    have L3 := (L2.below b3 (Nat.le_refl _)).wide b3.size
    have R3 := (o2.below b3 (Nat.le_refl _)).wide b3.size
    obtain ⟨be, ce, hv3⟩ := o3.shape
    subst hv3
    clear L2 o2 b3 b1 B2
    have HB0 := Lib.hid (Below.refl w3.heap.size w3)
    have hLl : Hid (∀ W, Below w3.heap.size w3 W → Rd 3 W (.slice (some ⟨bl, 0, none⟩) l.length cl) l.length (vals l)) := fun W hW => L3.rd.below hW
    have hRr : Hid (∀ W, Below w3.heap.size w3 W → Rd 3 W (.slice (some ⟨br, 0, none⟩) (dictL l).length cr) (dictL l).length (vals (dictL l))) := fun W hW => R3.rd.below hW
    have hBb : Hid (∀ W, Below w3.heap.size w3 W → At 1 W (.slice (some ⟨be, 0, none⟩) (encD l).length ce) (encD l).length (ints .u8 (encD l))) := fun W hW => o3.at.below hW
    have hrl := dict_len l
    have hm : ∀ v ∈ l, v ∈ dictL l := fun v hv => mem_dict.2 hv
    have HK := Lib.hid (fun W hW => sEncDict _ l W (by omega) HSZ.out (hLl.out W hW))
    have HD := Lib.hid (fun W hW => sDict _ l W (by omega) (hLl.out W hW))
    have HI1 := Lib.hid (fun W hW => iPlaces _ _ (dictL l) l W (by omega) (by omega) (hRr.out W hW) (hLl.out W hW))
    rw [places_mem hm] at HI1
    have HI2 := Lib.hid (fun v W hW hv => iPicked _ v (dictL l) (l.map (inI (dictL l))) W (by omega) (by simp; omega) (hRr.out W hW) hv)
    rw [picked_places hm] at HI2
    have HI6 := Lib.hid (fun W hW => iTypeOf _ l W (by omega) HSZ.out (hLl.out W hW))
    have HI7 := Lib.hid (fun ty k W hW => iDecDict _ (encD l).length (encD l) ty k W (by have := encD_len l; omega) rfl (encD_bytes l) (hBb.out W hW))
    have HASC := Lib.hid (fun i (hi : i + 1 < (dictL l).length) => asc_next (asc_dict l) hi)
    have HDE := Lib.hid (dec_encD (l := l))
    have HE0 : Hid (typeV l = 0 → (encD l).length = 0) := fun h => by
      unfold encD
      rw [if_pos h]
      rfl
    unfold Unpacked at HI1
    unfold RDs at HI2
    simp only at HI1 HI2
    have HPL : Hid ((l.map (inI (dictL l))).length = l.length) := by show _ = _; simp
    generalize l.map (inI (dictL l)) = P at HI1 HI2 HPL
    rw [HPL.out] at HI1 HI2
    clear hm
    generalize dictL l = r at hRr HD HI1 HI2 HASC hrl ⊢
    generalize hnn : l.length = n at hLl HI1 HI2 HDE hrl hl16 HK HD HI6 ⊢
    have HNN := Lib.hid hnn
    generalize hmm : r.length = m at hRr HD HASC hrl HI1 HI2 ⊢
    have HMM := Lib.hid hmm
    have hel := encD_len l
    generalize hcc : (encD l).length = ec at hBb HK HI7 HE0 hel ⊢
    have HCC := Lib.hid hcc
    clear hnn hmm hcc L3 o3 R3
    go_wp2_with fail
    refine (HI1.out _ HB0.out).mono ?_
    rintro e w4 ⟨v4, rfl, o4, b4⟩
    have hb4 := below_then HB0.out b4 (Nat.le_refl _)
    have HP4 := Lib.hid (HI2.out v4 w4 hb4 o4.rd)
    obtain ⟨b4', c4', hv4⟩ := o4.shape
    subst hv4
    clear o4 b4 HI1 HI2
    go_wp2_with fail
    refine HP4.out.mono ?_
    rintro e w5 ⟨v5, rfl, o5, b5⟩
    have hb5 := below_then hb4 b5 hb4.size
    obtain ⟨b5', c5', hv5⟩ := o5.shape
    subst hv5
    have HX5 : Hid (∀ W, Below w5.heap.size w5 W → Rd 3 W (.slice (some ⟨b5', 0, none⟩) n c5') n (vals l)) := fun W hW => o5.rd.below hW
    have HB5 := Lib.hid (Below.refl w5.heap.size w5)
    have HT5 := Lib.hid hb5
    clear o5 b5 hb4 HP4 hb5
    go_wp2_with fail
    refine (HK.out _ HT5.out).mono ?_
    rintro e w6 ⟨v6, rfl, o6, b6⟩
    have hb6 := below_then HB5.out b6 (Nat.le_refl _)
    have hs6 := Lib.hid (same _ v6 ec (encD l) w6 HCC.out (hBb.out _ (below_then HT5.out hb6 HT5.out.size)) o6.at)
    obtain ⟨b6', c6', hv6⟩ := o6.shape
    subst hv6
    clear o6 b6 HK
    go_wp2_with fail
    refine hs6.out.mono ?_
    rintro e w7 ⟨rfl, b7⟩
    have hb7 := below_then hb6 b7 hb6.size
    clear hb6 b7 hs6
    go_wp2_with fail
    refine (HD.out _ (below_then HT5.out hb7 HT5.out.size)).mono ?_
    rintro e w8 ⟨v8, rfl, o8, b8⟩
    have hb8 := below_then hb7 b8 hb7.size
    have hs8 := Lib.hid (sameVals _ v8 m r w8 HMM.out (hRr.out _ (below_then HT5.out hb8 HT5.out.size)) o8.rd)
    obtain ⟨b8', c8', hv8⟩ := o8.shape
    subst hv8
    clear o8 b8 HD hb7
    go_wp2_with fail
    refine hs8.out.mono ?_
    rintro e w9 ⟨rfl, b9⟩
    have hb9 := below_then hb8 b9 hb8.size
    have hs9 := Lib.hid (sameVals _ _ n l w9 HNN.out (HX5.out _ hb9) (hLl.out _ (below_then HT5.out hb9 HT5.out.size)))
    clear hb8 b9 hs8
    go_wp2_with fail
    refine hs9.out.mono ?_
    rintro e w10 ⟨rfl, b10⟩
    have hb10 := below_then (below_then HT5.out hb9 HT5.out.size) b10 (Nat.le_trans HT5.out.size hb9.size)
    clear hb9 b10 hs9 HX5
    obtain ⟨a2, c2, e2, hmx, HC⟩ := (hRr.out _ hb10).vals HMM.out
    cases e2
    go_wp2
    go_loopw [10] (fun i wr => ∃ k : Nat, 0 < k ∧ (k ≤ m ∨ k = 1) ∧ i = .int .i64 k ∧ Below w10.heap.size w10 wr) (fun i _ => m - (intOf i).toNat)
    case atStart => exact ⟨1, by omega, .inr rfl, rfl, Below.refl _ _⟩
    case round =>
      obtain ⟨k, hk0, hk, rfl, hbr⟩ := hrel
      by_cases hlt : k < m
      · obtain ⟨K, rfl⟩ : ∃ K, k = K + 1 := ⟨k - 1, by omega⟩
        obtain ⟨b, off, e1, p0, p1, p2⟩ := HC.out (K + 1) hlt
        cases e1
        obtain ⟨b', off', e1, q0, q1, q2⟩ := HC.out K (by omega)
        cases e1
        have HX := Lib.hid (fun W => iLessVal (r.getD K V.zero) (r.getD (K + 1) V.zero) W)
        rw [HASC.out K hlt] at HX
        have HKC : Hid (∀ W, Below wr.heap.size wr W → W.cell? ⟨br, 0 + K * 3, none⟩ = some (.int .i64 (r.getD K V.zero).ty) ∧ W.cell? ⟨br, 0 + K * 3 + 1, none⟩ = some (.int .i64 (r.getD K V.zero).n) ∧ W.cell? ⟨br, 0 + K * 3 + 2, none⟩ = some (.string (r.getD K V.zero).s) ∧ W.cell? ⟨br, 0 + (K + 1) * 3, none⟩ = some (.int .i64 (r.getD (K + 1) V.zero).ty) ∧ W.cell? ⟨br, 0 + (K + 1) * 3 + 1, none⟩ = some (.int .i64 (r.getD (K + 1) V.zero).n) ∧ W.cell? ⟨br, 0 + (K + 1) * 3 + 2, none⟩ = some (.string (r.getD (K + 1) V.zero).s)) := fun W hW => by
          have hb := hbr.trans (hW.mono hbr.size)
          exact ⟨(hb.cell (p := ⟨br, 0 + K * 3, none⟩) (lt_of_cell q0)).trans q0, (hb.cell (p := ⟨br, 0 + K * 3 + 1, none⟩) (lt_of_cell q1)).trans q1, (hb.cell (p := ⟨br, 0 + K * 3 + 2, none⟩) (lt_of_cell q2)).trans q2, (hb.cell (p := ⟨br, 0 + (K + 1) * 3, none⟩) (lt_of_cell p0)).trans p0, (hb.cell (p := ⟨br, 0 + (K + 1) * 3 + 1, none⟩) (lt_of_cell p1)).trans p1, (hb.cell (p := ⟨br, 0 + (K + 1) * 3 + 2, none⟩) (lt_of_cell p2)).trans p2⟩
        have hB' := (Below.refl wr.heap.size wr).drew
        generalize r.getD K V.zero = x at HKC HX
        generalize r.getD (K + 1) V.zero = y at HKC HX
        obtain ⟨xt, xn, xs⟩ := x
        obtain ⟨yt, yn, ys⟩ := y
        simp only [Nat.zero_add] at HKC
        have HBR := Lib.hid hbr
        clear hbr p0 p1 p2 q0 q1 q2 hk
        have hm16 : m ≤ 16 := by omega
        have hj0 : 0 ≤ (K : Int) + 1 := by omega
        have hjm : K < m := by omega
        have hj1 : (K : Int) + 1 < (m : Int) := by omega
        have hKw : ((K : Int) + 1 - 1) = (K : Int) := by omega
        have hKi : IntKind.i64.wrap (K : Int) = (K : Int) := IntWalk.i64_in _ (by omega)
        go_wp2
        go_region_held3 (fun W => W.cell? ⟨br, K * 3, none⟩ = some (.int .i64 xt) ∧ W.cell? ⟨br, K * 3 + 1, none⟩ = some (.int .i64 xn) ∧ W.cell? ⟨br, K * 3 + 2, none⟩ = some (.string xs) ∧ W.cell? ⟨br, (K + 1) * 3, none⟩ = some (.int .i64 yt) ∧ W.cell? ⟨br, (K + 1) * 3 + 1, none⟩ = some (.int .i64 yn) ∧ W.cell? ⟨br, (K + 1) * 3 + 2, none⟩ = some (.string ys)) (exact HKC.out _ hB') ((go_at_call 20; (with_reducible refine (HX.out _).mono ?_); rintro e w11 ⟨rfl, hb3⟩; replace hB' := below_then hB' hb3 hB'.size))
        go_wp2
        go_roundw
        case rel => exact ⟨K + 2, by omega, by omega, by go_num, below_then HBR.out hB' HBR.out.size⟩
        case measure => simp [intOf]; omega
      · have hb12 := below_then hb10 hbr hb10.size
        have B12 := below_then B3 hb12 B3.size
        have hkm : ¬ ((k : Int) < (m : Int)) := by omega
        go_wp2_with fail
        refine (HI6.out _ hb12).mono ?_
        rintro e w13 ⟨rfl, b13⟩
        have hb13 := below_then hb12 b13 hb12.size
        have B13 := below_then B12 b13 B12.size
        clear HI6 b13 hb12 B12
        by_cases ht : typeV l = 0
        · have hec := HE0.out ht
          rw [ht]
          subst hec
          go_wp2
          go_ret
          exact ⟨rfl, B13⟩
        · have htb : (typeV l == 0) = false := by simpa using ht
          have HDD := Lib.hid (HDE.out ht)
          have HDI := Lib.hid (HI7.out (typeV l) n _ hb13)
          rw [HDD.out] at HDI
          unfold RDs at HDI
          simp only at HDI
          rw [HNN.out] at HDI
          generalize typeV l = ty at htb HDI ⊢
          clear ht HDD HDE HE0
          go_wp2_with fail
          refine HDI.out.mono ?_
          rintro e w15 ⟨v15, rfl, o15, b15⟩
          have hb15 := below_then hb13 b15 hb13.size
          have B15 := below_then B13 b15 B13.size
          have HSV := Lib.hid (sameVals v15 _ n l w15 HNN.out o15.rd (hLl.out _ hb15))
          obtain ⟨b15', c15', hv15⟩ := o15.shape
          subst hv15
          clear o15 b15 HDI
          go_wp2_with fail
          refine HSV.out.mono ?_
          rintro e w16 ⟨rfl, b16⟩
          have B16 := below_then B15 b16 B15.size
          go_wp2
          go_ret
          exact ⟨rfl, B16⟩

end Go.Proofs.Ytoidpibdjijamaa
