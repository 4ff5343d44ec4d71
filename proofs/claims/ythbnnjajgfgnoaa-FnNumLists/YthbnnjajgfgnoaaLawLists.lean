/- The law FnNumLists, walked. -/
import Derived.Test.YthbnnjajgfgnoaaDrawL
import Derived.Test.YthbnnjajgfgnoaaNumL
import Derived.Test.YthbnnjajgfgnoaaGets
import Derived.Test.YthbnnjajgfgnoaaSameInts
import Derived.Deep.RegionHeld3
namespace Go.Proofs.Ythbnnjajgfgnoaa
open Go.RowKit

set_option maxHeartbeats 2000000 in
theorem lawNumLists (c : Code) (w : World) (h : c.len ≤ 1048576 → c.In w) :
    Calls Try.prog 5 #[.slice c.a c.len c.cap] w fun e w' => e = .returned (.bool true) ∧ Below w.heap.size w w' := by
  by_cases hbig : 1048576 < c.len
  · go_enter Try.func5, Try.ntmps5
    go_wp2_with (go_at_call 12; refine (big_yes _ _ _ _ hbig).mono ?_; rintro e w' ⟨rfl, rfl⟩)
    go_ret
    exact ⟨rfl, Below.refl _ _⟩
  · have hin := h (by omega)
    clear h
    go_enter Try.func5, Try.ntmps5
    go_wp2_with fail
    refine (big_no _ _ _ _ (by omega)).mono ?_
    rintro e w' ⟨rfl, rfl⟩
    go_wp2_with fail
    refine (drawPutNums c _ hin).mono ?_
    rintro e w1 ⟨vb, vl, zs, l, rfl, hbz, hzl, hll, ob, ol, bt⟩
    have hPl := (Num.putL_len zs l).2
    have hPz := (Num.putL_len zs l).1
    have hPb := Num.putL_bytes hbz l
    go_wp2_with fail
    refine (iPutNums vb vl _ _ zs l _ (by omega) (by omega) rfl rfl (.inr ob.at) ol.at).mono ?_
    rintro e w2 ⟨vx, rfl, ox, hb⟩
    have z2 := hb.size
    replace ob := ob.below hb (Nat.le_refl _)
    replace ol := ol.below hb (Nat.le_refl _)
    replace bt := below_then bt hb bt.size
    clear hb
    go_wp2_with fail
    refine (drawGetNums c _ (hin.below bt)).mono ?_
    rintro e w3 ⟨vy, ys, i, rfl, hby, hyl, oy, hb⟩
    have z3 := hb.size
    replace ob := ob.below hb z2
    replace ol := ol.below hb z2
    replace ox := ox.below hb (Nat.le_refl _)
    replace bt := below_then bt hb bt.size
    clear hb
    have hl64 := Num.getL_len ys i
    obtain ⟨p, next, ok, hr⟩ : ∃ r1 r2 r3, Num.getL ys i = (r1, r2, r3) := ⟨_, _, _, rfl⟩
    rw [hr] at hl64
    simp only at hl64
    have HR := Lib.hid hr
    clear hr
    go_wp2_with fail
    refine (iGetNums vy _ ys i _ (by omega) rfl hby oy.at).mono ?_
    rw [HR.out]
    rintro e w4 ⟨vp, rfl, op, hb⟩
    simp only at op ⊢
    have z4 := hb.size
    replace ob := ob.below hb (by omega)
    replace ol := ol.below hb (by omega)
    replace ox := ox.below hb (by omega)
    replace oy := oy.below hb (by omega)
    replace bt := below_then bt hb bt.size
    clear hb
    go_wp2_with fail
    refine (sGetNums vy _ ys i _ (by omega) rfl hby oy.at).mono ?_
    rw [HR.out]
    rintro e w5 ⟨vq, rfl, oq, hb⟩
    simp only at oq ⊢
    have z5 := hb.size
    replace ob := ob.below hb (by omega)
    replace ol := ol.below hb (by omega)
    replace ox := ox.below hb (by omega)
    replace oy := oy.below hb (by omega)
    replace op := op.below hb (by omega)
    replace bt := below_then bt hb bt.size
    clear hb
    go_wp2_with fail
    refine (sPutNums vb vl _ _ zs l _ (by omega) (by omega) rfl rfl ob.at ol.at).mono ?_
    rintro e w6 ⟨vs, rfl, os, hb⟩
    have z6 := hb.size
    replace ob := ob.below hb (by omega)
    replace ol := ol.below hb (by omega)
    replace ox := ox.below hb (by omega)
    replace oy := oy.below hb (by omega)
    replace op := op.below hb (by omega)
    replace oq := oq.below hb (by omega)
    replace bt := below_then bt hb bt.size
    clear hb
    go_wp2_with fail
    refine (same vx vs _ (Num.putL zs l) _ rfl ox.at os.at).mono ?_
    rintro e w7 ⟨rfl, hb⟩
    have z7 := hb.size
    replace ob := ob.below hb (by omega)
    replace ol := ol.below hb (by omega)
    replace ox := ox.below hb (by omega)
    replace oy := oy.below hb (by omega)
    replace op := op.below hb (by omega)
    replace oq := oq.below hb (by omega)
    replace bt := below_then bt hb bt.size
    clear hb os
    have e2 : (next != next) = false := by simp
    have e3 : (ok != ok) = false := by simp
    go_wp2_with fail
    refine (sameInts vp vq _ p _ rfl op.at oq.at).mono ?_
    rintro e w8 ⟨rfl, hb⟩
    have z8 := hb.size
    replace ob := ob.below hb (by omega)
    replace ol := ol.below hb (by omega)
    replace ox := ox.below hb (by omega)
    replace oy := oy.below hb (by omega)
    replace op := op.below hb (by omega)
    replace bt := below_then bt hb bt.size
    clear hb oq
    obtain ⟨n, hn⟩ : ∃ n, zs.length = n := ⟨_, rfl⟩
    obtain ⟨m, hm⟩ : ∃ m, l.length = m := ⟨_, rfl⟩
    obtain ⟨ny, hny⟩ : ∃ ny, ys.length = ny := ⟨_, rfl⟩
    rw [hn] at ob hzl hPl hPz
    rw [hm] at ol hll hPl
    rw [hny] at oy hyl
    have HN := Lib.hid hn
    have HM := Lib.hid hm
    have HY := Lib.hid hny
    clear hn hm hny
    obtain ⟨gl, cl, rfl⟩ := ol.shape
    obtain ⟨gb, cb, rfl⟩ := ob.shape
    have HCL : Hid (∀ k, k < m → w8.cell? ⟨gl, k, none⟩ = some (.int .i64 (l.getD k 0))) := fun k hk => ol.cellOf HM.out hk
    cases hall : Num.okAll l with
    | false =>
      have HX := Lib.hid (Num.putL_no (b := zs) hall)
      have HA := Lib.hid hall
      rw [HX.out, HN.out] at ox
      clear hall oy op ol
      go_wp2
      go_loop [14] (fun i => ∃ k : Nat, k ≤ m ∧ i = .int .i64 k ∧ Num.okAll (l.take k) = true) (fun i => m - (intOf i).toNat)
      case atStart => exact ⟨0, Nat.zero_le _, rfl, rfl⟩
      case round =>
        obtain ⟨k, hk, rfl, hok⟩ := hrel
        have HOK := Lib.hid hok
        clear hok
        by_cases hlt : k < m
        · have hcx := HCL.out k hlt
          have hts : Hid (l.take (k + 1) = l.take k ++ [l.getD k 0]) := take_snoc l k (by rw [HM.out]; exact hlt)
          generalize l.getD k 0 = x at hcx hts
          by_cases hx1 : x < -1000000000
          · go_wp2_with fail
            refine (same vx _ n zs _ HN.out ox.at ob.at).mono ?_
            rintro e w9 ⟨rfl, hb⟩
            have b9 := below_then bt hb bt.size
            go_wp2
            go_ret
            exact ⟨rfl, b9⟩
          · by_cases hx2 : 1000000000 < x
            · go_wp2_with fail
              refine (same vx _ n zs _ HN.out ox.at ob.at).mono ?_
              rintro e w9 ⟨rfl, hb⟩
              have b9 := below_then bt hb bt.size
              go_wp2
              go_ret
              exact ⟨rfl, b9⟩
            · have hxb : Num.okB x = true := Num.okB_true.2 ⟨by omega, by omega⟩
              have HXB := Lib.hid hxb
              clear hxb
              go_wp2
              go_round
              case rel => exact ⟨k + 1, by omega, by go_num, by rw [hts.out, Num.okAll_snoc, HOK.out, HXB.out]; rfl⟩
              case measure => simp [intOf]; omega
        · exfalso
          obtain rfl : k = m := by omega
          have e : l.take k = l := by rw [← HM.out]; exact List.take_length
          have h1 := HOK.out
          rw [e, HA.out] at h1
          exact Bool.false_ne_true h1
    | true =>
      have HG := Lib.hid (Num.getL_putL (b := zs) (rest := []) hall (by rw [HM.out]; omega))
      have HA := Lib.hid hall
      clear hall
      generalize hP : Num.putL zs l = P at *
      clear hP
      generalize hnp : P.length = np at *
      have HNP := Lib.hid hnp
      clear hnp
      obtain ⟨gx, cx, rfl⟩ := ox.shape
      have HGE : Hid (Num.getL P n = (l, (np : Int), true)) := by
        have h1 := HG.out
        rw [List.append_nil, HN.out] at h1
        exact h1
      clear HG
      go_wp2
      go_loop [14] (fun i => ∃ k : Nat, k ≤ m ∧ i = .int .i64 k) (fun i => m - (intOf i).toNat)
      case atStart => exact ⟨0, Nat.zero_le _, rfl⟩
      case round =>
        obtain ⟨k, hk, rfl⟩ := hrel
        by_cases hlt : k < m
        · have hcx := HCL.out k hlt
          have hxo : Num.ok (l.getD k 0) := by
            have h1 := HA.out
            unfold Num.okAll at h1
            rw [List.all_eq_true] at h1
            exact Num.okB_true.1 (h1 _ (getD_mem' (by rw [HM.out]; exact hlt)))
          generalize l.getD k 0 = x at hcx hxo
          obtain ⟨hx1, hx2⟩ := hxo
          go_wp2
          go_round
          case rel => exact ⟨k + 1, by omega, by go_num⟩
          case measure => simp [intOf]; omega
        · clear HCL HA
          go_wp2_with fail
          refine (iGetNums _ np P n _ (by omega) HNP.out hPb ox.at).mono ?_
          rw [HGE.out]
          rintro e w9 ⟨vm, rfl, om, hb⟩
          simp only at om ⊢
          rw [HM.out] at om
          have z9 := hb.size
          replace ol := ol.below hb (by omega)
          replace oy := oy.below hb (by omega)
          replace op := op.below hb (by omega)
          replace bt := below_then bt hb bt.size
          clear hb ox ob
          have hbd : Below w9.heap.size w9 w9.drew := (Below.refl _ _).drew
          have AM := om.at.below hbd
          have AL := ol.at.below hbd
          have AP := op.at.below hbd
          have B9 := bt.drew
          have hnn : ((np : Int) == (np : Int)) = true := by simp
          have AM0 : Hid (∀ d, At 1 (w9.drewN d) vm m (ints .i64 l)) := fun d => om.at.below (below_drewN _ _ _)
          have AL0 : Hid (∀ d, At 1 (w9.drewN d) (.slice (some ⟨gl, 0, none⟩) m cl) m (ints .i64 l)) := fun d => ol.at.below (below_drewN _ _ _)
          have BT : Hid (∀ d, Below w.heap.size w (w9.drewN d)) := fun d => below_then bt (below_drewN _ _ _) bt.size
          clear ol bt om op
          cases ok with
          | false =>
            go_wp2
            go_quiet ((go_at_call 33; exact Calls.quiet_of (sameInts_q _ _ m l _ HM.out (AM0.out _) (AL0.out _))))
            go_wp2
            go_ret
            exact ⟨rfl, BT.out _⟩
          | true =>
            obtain ⟨hi0, hi1, hn0, hn1, hput⟩ := Num.putL_getL hby HR.out
            obtain ⟨mi, rfl⟩ := Int.eq_ofNat_of_zero_le hi0
            obtain ⟨kn, rfl⟩ := Int.eq_ofNat_of_zero_le hn0
            rw [Int.toNat_natCast, Int.toNat_natCast] at hput
            have HPP := Lib.hid hput
            have hmi : mi ≤ ny := by have := HY.out; omega
            have hkn : kn ≤ ny := by have := HY.out; omega
            clear hput hi0 hi1 hn0 hn1
            obtain ⟨gy, cy, rfl⟩ := oy.shape
            have hcv : ny ≤ cy ∧ cy ≤ 9223372036854775807 := by
              obtain ⟨b', o', c', he, a1, a2, _⟩ := oy.at
              simp at he
              unfold maxLen at a2
              omega
            obtain ⟨hcv1, hcv2⟩ := hcv
            have hmc : (mi : Int) ≤ (cy : Int) := by omega
            have hkc : (kn : Int) ≤ (cy : Int) := by omega
            have T1 := (oy.take hmi).at
            have T2 := (oy.take hkn).at
            rw [show (ints .u8 ys).take (mi * 1) = ints .u8 (ys.take mi) by simp [ints]] at T1
            rw [show (ints .u8 ys).take (kn * 1) = ints .u8 (ys.take kn) by simp [ints]] at T2
            replace T1 := T1.below hbd
            replace T2 := T2.below hbd
            have HL1 : Hid ((ys.take mi).length = mi) := by
              have := HY.out
              show (ys.take mi).length = mi
              rw [List.length_take]; omega
            have HL2 : Hid ((ys.take kn).length = kn) := by
              have := HY.out
              show (ys.take kn).length = kn
              rw [List.length_take]; omega
            clear oy
            go_wp2
            go_region_held3 (fun _ => True) (exact trivial) (first | (go_at_call 33; refine (sameInts _ _ m l _ HM.out AM AL).mono ?_; rintro e w10 ⟨rfl, hb⟩; have T1' := T1.below hb; have T2' := T2.below hb; have AP' := AP.below hb; have B10 := below_then B9 hb B9.size) | (go_at_call 28; refine (iPutNums _ _ mi _ (ys.take mi) p _ (by omega) (by omega) HL1.out rfl (.inr T1') AP').mono ?_; rintro e w11 ⟨q, rfl, oq, hb2⟩; rw [HPP.out, HL2.out] at oq; have T3 := T2'.below hb2; have B11 := below_then B10 hb2 B10.size) | (go_at_call 15; refine (same _ _ kn (ys.take kn) _ HL2.out oq.at T3).mono ?_; rintro e w12 ⟨rfl, hb3⟩; have B12 := below_then B11 hb3 B11.size))
            all_goals
              go_wp2
              go_ret
              exact ⟨rfl, B12⟩

end Go.Proofs.Ythbnnjajgfgnoaa
