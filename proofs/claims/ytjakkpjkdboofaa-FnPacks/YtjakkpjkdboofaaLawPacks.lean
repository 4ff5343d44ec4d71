/- The law FnPacks, walked. -/
import Derived.Test.YtjakkpjkdboofaaIUnpack
import Derived.Test.YtjakkpjkdboofaaDrawPack
import Derived.Test.YtjakkpjkdboofaaLaw0
import Derived.Deep.RegionHeld3
import Derived.Test.YtjakkpjkdboofaaSame
import Derived.Test.YtjakkpjkdboofaaSameInts
namespace Go.Proofs.Ytjakkpjkdboofaa
open Go.RowKit

set_option maxHeartbeats 2000000 in
theorem lawPacks (c : Code) (w : World) (h : c.len ≤ 1048576 → c.In w) :
    Calls Try.prog 3 #[.slice c.a c.len c.cap] w fun e w' => e = .returned (.bool true) ∧ Below w.heap.size w w' := by
  by_cases hbig : 1048576 < c.len
  · go_enter Try.func3, Try.ntmps3
    go_wp2_with (go_at_call 11; refine (big_yes _ _ _ _ hbig).mono ?_; rintro e w' ⟨rfl, rfl⟩)
    go_ret
    exact ⟨rfl, Below.refl _ _⟩
  · have hin := h (by omega)
    clear h
    go_enter Try.func3, Try.ntmps3
    go_wp2_with fail
    refine (big_no _ _ _ _ (by omega)).mono ?_
    rintro e w' ⟨rfl, rfl⟩
    go_wp2_with fail
    refine (drawPackBits c _ hin).mono ?_
    rintro e w1 ⟨v, l, x, rfl, hl8, hel, hx0, hx1, ol, bt⟩
    obtain ⟨gl, cl, rfl⟩ := ol.shape
    have hpl := Bit.pack_le l x
    have hpb := Bit.pack_bytes l x
    have HEL := Lib.hid hel
    clear hel hin
    go_wp2_with fail
    refine (iPackBits _ _ l x _ (by omega) rfl (.inr ol.at)).mono ?_
    rintro e w2 ⟨g0, rfl, og, hb⟩
    have z2 := hb.size
    have z1 := bt.size
    replace ol := ol.below hb (Nat.le_refl _)
    replace bt := below_then bt hb (by omega)
    clear hb
    go_wp2_with fail
    refine (sPackBits _ _ l x _ (by omega) rfl (.inr ol.at)).mono ?_
    rintro e w3 ⟨v0, rfl, ov, hb⟩
    have z3 := hb.size
    replace ol := ol.below hb (by omega)
    replace og := og.below hb (by omega)
    replace bt := below_then bt hb (by omega)
    clear hb
    go_wp2_with fail
    refine (same g0 v0 _ (Bit.pack l x) _ rfl og.at ov.at).mono ?_
    rintro e w4 ⟨rfl, hb⟩
    have z4 := hb.size
    replace ol := ol.below hb (by omega)
    replace og := og.below hb (by omega)
    replace bt := below_then bt hb (by omega)
    clear hb ov
    go_wp2_with fail
    refine (iWidthFor _ _ l _ rfl (.inr ol.at)).mono ?_
    rintro e w' ⟨rfl, rfl⟩
    go_wp2_with fail
    refine (sWidthFor _ _ l _ rfl (.inr ol.at)).mono ?_
    rintro e w' ⟨rfl, rfl⟩
    generalize Bit.widthFor l = q
    obtain ⟨gg, cg, rfl⟩ := og.shape
    have HC : Hid (∀ k, k < l.length → w4.cell? ⟨gl, k, none⟩ = some (.int .i64 (l.getD k 0))) := by
      intro k hk
      obtain ⟨b', o', c', he, _, _, _, hc⟩ := ol.at
      simp at he
      obtain ⟨⟨rfl, rfl⟩, _⟩ := he
      have := At.cell hc rfl hk
      rw [Nat.zero_add] at this
      exact this
    cases hf : Bit.fitsB l x with
    | false =>
      have hp : Bit.pack l x = [] := by
        unfold Bit.pack
        rw [if_neg (by rw [hf]; simp)]
      rw [hp]
      simp only [List.length_nil]
      have HF := Lib.hid hf
      clear hf hp hpl hpb og ol
      generalize hLN : l.length = ln at hl8 HC
      have HLN := Lib.hid hLN
      clear hLN
      go_wp2
      go_loop [6] (fun i => ∃ k : Nat, k ≤ ln ∧ i = .int .i64 k ∧ (l.take k).all (fun y => Bit.okB y x) = true) (fun i => ln - (intOf i).toNat)
      case atStart => exact ⟨0, Nat.zero_le _, rfl, rfl⟩
      case round =>
        obtain ⟨k, hk, rfl, hok⟩ := hrel
        have HOK := Lib.hid hok
        clear hok
        by_cases hlt : k < ln
        · have hcx := HC.out k hlt
          obtain ⟨hy0, hy1⟩ := HEL.out (l.getD k 0) (by simp [HLN.out, hlt])
          have HS : Hid (Bit.okB (l.getD k 0) x = true → (l.take (k + 1)).all (fun y => Bit.okB y x) = true) := by
            intro h
            rw [Bit.take_snoc l k (by rw [HLN.out]; exact hlt), Bit.all_snoc, HOK.out, h]
            rfl
          have HW := Lib.hid (fun (w : World) => iWidthOf (l.getD k 0) w)
          generalize l.getD k 0 = y at hcx hy0 hy1 HS HW
          by_cases hneg : y < 0
          · go_wp2
            go_ret
            exact ⟨rfl, bt⟩
          · by_cases hw : (Bit.widthI y : Int) ≤ x
            · have HS2 := Lib.hid (HS.out (Bit.okB_true ⟨by omega, by omega⟩ hw))
              clear HS
              have hx2 : 0 ≤ x := by omega
              generalize Bit.widthI y = q2 at hw HW
              by_cases h31 : 31 < x
              · go_wp2_with (go_at_call 18; refine (HW.out _).mono ?_; rintro e w' ⟨rfl, rfl⟩)
                go_ret
                exact ⟨rfl, bt⟩
              · go_wp2_with (go_at_call 18; refine (HW.out _).mono ?_; rintro e w' ⟨rfl, rfl⟩)
                go_round
                case rel => exact ⟨k + 1, by omega, by go_num, HS2.out⟩
                case measure => simp [intOf]; omega
            · clear HS
              generalize Bit.widthI y = q2 at hw HW
              go_wp2_with (go_at_call 18; refine (HW.out _).mono ?_; rintro e w' ⟨rfl, rfl⟩)
              go_ret
              exact ⟨rfl, bt⟩
        · obtain rfl : k = ln := by omega
          have hno : ¬ (0 ≤ x ∧ x ≤ 31) := by
            intro hr
            have h1 := HOK.out
            rw [← HLN.out, List.take_length] at h1
            have h2 := HF.out
            rw [Bit.fitsB_eq, h1, decide_eq_true hr] at h2
            simp at h2
          by_cases hneg : x < 0
          · clear hno
            go_wp2
            go_ret
            exact ⟨rfl, bt⟩
          · have h31 : 31 < x := by omega
            clear hno
            go_wp2
            go_ret
            exact ⟨rfl, bt⟩
    | true =>
      have hft := Bit.fits_true.1 hf
      obtain ⟨b, rfl⟩ := Int.eq_ofNat_of_zero_le hft.2.1
      have hb31 : b ≤ 31 := by omega
      have HFT := Lib.hid hft.1
      have HPL := Lib.hid (Bit.pack_len hf)
      have HUP := Lib.hid (Bit.unpack_pack hf (by omega))
      have HBP : Hid (∀ i, i < l.length → 0 < b → Bit.bitAt (Bit.pack l b) ((i * b : Nat) : Int) = l.getD i 0 % 2) := fun i hi hb => Bit.bit_pack hf hi hb
      clear hf hft
      generalize Bit.pack l (b : Int) = zs at hpl hpb og HPL HUP HBP ⊢
      generalize hLN : l.length = ln at hl8 HC ol hpl HPL HUP HBP
      have HLN := Lib.hid hLN
      clear hLN
      generalize hn : zs.length = n at hpl og HPL
      have HN := Lib.hid hn
      clear hn
      go_wp2
      go_loop [6] (fun i => ∃ k : Nat, k ≤ ln ∧ i = .int .i64 k) (fun i => ln - (intOf i).toNat)
      case atStart => exact ⟨0, Nat.zero_le _, rfl⟩
      case round =>
        obtain ⟨k, hk, rfl⟩ := hrel
        by_cases hlt : k < ln
        · have hcx := HC.out k hlt
          obtain ⟨hy0, hy1, hw⟩ := HFT.out (l.getD k 0) (by simp [HLN.out, hlt])
          have HW := Lib.hid (fun (w : World) => iWidthOf (l.getD k 0) w)
          generalize l.getD k 0 = y at hcx hy0 hy1 hw HW
          generalize Bit.widthI y = q2 at hw HW
          go_wp2_with (go_at_call 18; refine (HW.out _).mono ?_; rintro e w' ⟨rfl, rfl⟩)
          go_round
          case rel => exact ⟨k + 1, by omega, by go_num⟩
          case measure => simp [intOf]; omega
        · obtain rfl : k = ln := by omega
          go_wp2_with fail
          refine (iUnpackBits _ n zs (b : Int) (k : Int) _ (by omega) HN.out hpb (.inr og.at)).mono ?_
          rw [HUP.out]
          rintro e w5 ⟨mv, rfl, om, hb5⟩
          simp only at om ⊢
          rw [HLN.out] at om
          have z5 := hb5.size
          have bt5 := below_then bt hb5 (by have := bt.size; omega)
          have ol5 := ol.below hb5 (by omega)
          have og5 := og.below hb5 (by omega)
          have HBA : Hid (∀ (i d e : Nat), i < k → 0 < b → Calls Try.prog 20 #[.slice (some ⟨gg, 0, none⟩) n cg, .int .i64 ((i * b : Nat) : Int)] ((w5.drewN d).drewN e) fun r w' => r = .returned (.int .i64 (l.getD i 0 % 2)) ∧ ∃ m, w' = ((w5.drewN d).drewN e).drewN m) := by
            intro i d e hi hb0
            have hib : i * b ≤ 8 * 31 := Nat.mul_le_mul (by omega) hb31
            refine (iBitAt _ n zs ((i * b : Nat) : Int) ((w5.drewN d).drewN e) (by omega) (by omega) HN.out hpb (.inr ((og5.at.below (below_drewN _ _ _)).below (below_drewN _ _ _)))).mono ?_
            rintro r w' ⟨rfl, hw⟩
            exact ⟨by rw [HBP.out i hi hb0], 0, hw.symm⟩
          have HC5 : Hid (∀ i, i < k → w5.cell? ⟨gl, i, none⟩ = some (.int .i64 (l.getD i 0))) := fun i hi => (hb5.cell (p := ⟨gl, i, none⟩) (lt_of_cell (HC.out i hi))).trans (HC.out i hi)
          have HBF := Lib.hid (fun W => iBytesFor (k : Int) (b : Int) W)
          have hbf : Bit.bytesFor k b = (n : Int) := by
            unfold Bit.bytesFor
            rw [if_pos ⟨by omega, by omega⟩, HPL.out]
            simp
          rw [hbf] at HBF
          clear hbf hb5 HC ol og HUP
          have hnn : ((n : Int) == (n : Int)) = true := by simp
          go_wp2
          go_loopw [9] (fun i wr => ∃ j : Nat, j ≤ k ∧ i = .int .i64 j ∧ ∃ d, wr = w5.drewN d) (fun i _ => k - (intOf i).toNat)
          case atStart => exact ⟨0, Nat.zero_le _, rfl, 0, rfl⟩
          case round =>
            obtain ⟨j, hj, rfl, d, rfl⟩ := hrel
            by_cases hgo : j < k ∧ 0 < b
            · obtain ⟨hjk, hb0⟩ := hgo
              have hcx := HC5.out j hjk
              have HCW : Hid (∀ e, Calls Try.prog 20 #[.slice (some ⟨gg, 0, none⟩) n cg, .int .i64 ((j * b : Nat) : Int)] (w5.drewN e) fun r w' => r = .returned (.int .i64 (l.getD j 0 % 2)) ∧ w5.drewN e = w') := by
                intro e
                have hjb : j * b ≤ 8 * 31 := Nat.mul_le_mul (by omega) hb31
                have := iBitAt _ n zs ((j * b : Nat) : Int) (w5.drewN e) (by omega) (by omega) HN.out hpb (.inr (og5.at.below (below_drewN _ _ e)))
                rw [HBP.out j hjk hb0] at this
                exact this
              obtain ⟨hy0, hy1, _⟩ := HFT.out (l.getD j 0) (by simp [HLN.out, hjk])
              have hjb : j * b ≤ 8 * 31 := Nat.mul_le_mul (by omega) hb31
              have hmi : (j : Int) * (b : Int) = ((j * b : Nat) : Int) := by simp
              generalize l.getD j 0 = y at hcx HCW hy0 hy1
              obtain ⟨y, rfl⟩ := Int.eq_ofNat_of_zero_le hy0
              have hand := and_one y (by omega)
              have hyy : ((y : Int) % 2 != ((y % 2 : Nat) : Int)) = false := by simp
              generalize j * b = p at hjb hmi HCW
              have hwr : IntKind.i64.wrap (p : Int) = (p : Int) := IntWalk.i64_in _ (by omega)
              go_wp2
              go_region_held3 (fun W => W.cell? ⟨gl, j, none⟩ = some (.int .i64 (y : Int))) (exact hcx) ((go_at_call 20; refine (HCW.out _).mono ?_; rintro e w' ⟨rfl, rfl⟩))
              go_wp2
              go_roundw
              case rel => exact ⟨j + 1, by omega, by go_num, _, rfl⟩
              case measure => simp [intOf]; omega
            · by_cases hjk : j < k
              · have hb0 : ¬ 0 < b := fun h => hgo ⟨hjk, h⟩
                clear hgo
                go_wp2_with (first | (go_at_call 21; refine (sameInts mv _ k l _ HLN.out (om.at.below (below_drewN _ _ _)) (ol5.at.below (below_drewN _ _ _))).mono ?_; rintro e w6 ⟨rfl, hb6⟩; have bt6 := below_then (bt5.trans (below_drewN _ _ d)) hb6 (bt5.trans (below_drewN _ _ d)).size) | (go_at_call 22; refine (HBF.out _).mono ?_; rintro e w' ⟨rfl, rfl⟩))
                go_ret
                exact ⟨rfl, bt6⟩
              · clear hgo
                go_wp2_with (first | (go_at_call 21; refine (sameInts mv _ k l _ HLN.out (om.at.below (below_drewN _ _ _)) (ol5.at.below (below_drewN _ _ _))).mono ?_; rintro e w6 ⟨rfl, hb6⟩; have bt6 := below_then (bt5.trans (below_drewN _ _ d)) hb6 (bt5.trans (below_drewN _ _ d)).size) | (go_at_call 22; refine (HBF.out _).mono ?_; rintro e w' ⟨rfl, rfl⟩))
                go_ret
                exact ⟨rfl, bt6⟩

end Go.Proofs.Ytjakkpjkdboofaa
