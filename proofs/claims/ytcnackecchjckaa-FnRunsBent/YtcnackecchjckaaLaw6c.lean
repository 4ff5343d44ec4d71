/- The law FnRunsBent, walked. -/
import Derived.Test.YtcnackecchjckaaLaw6b
namespace Go.Proofs.Ytcnackecchjckaa
open Go.RowKit

theorem dec_sizes (zs : List Int) (ty k : Int) : ∀ v ∈ (decR zs ty k).1, v.s.size ≤ maxLen := by
  cases hk : Num.inB k 1 64 with
  | false => rw [decR_none hk]; exact fun _ h => by cases h
  | true =>
    rw [decR_get hk]
    cases hg : getU zs ty with
    | none => exact fun _ h => by cases h
    | some r =>
      simp only
      split
      · have hr : ∀ u ∈ r, u.v.s.size ≤ maxLen := by
          unfold getU at hg
          split at hg
          · exact decU_size hg
          · cases hg
        exact spreadL_all (p := fun v => v.s.size ≤ maxLen) hr
      · exact fun _ h => by cases h

set_option maxHeartbeats 2000000 in
theorem lawFnRunsBent (c : Code) (w : World) (h : c.len ≤ 1048576 → c.In w) :
    Calls Try.prog 4 #[.slice c.a c.len c.cap] w fun e w' => e = .returned (.bool true) ∧ Below w.heap.size w w' := by
  by_cases hbig : 1048576 < c.len
  · go_enter Try.func4, Try.ntmps4
    go_wp2_with (go_at_call 11; refine (big_yes _ _ _ _ hbig).mono ?_; rintro e w' ⟨rfl, rfl⟩)
    go_ret
    exact ⟨rfl, Below.refl _ _⟩
  · have hin := h (by omega)
    clear h
    go_enter Try.func4, Try.ntmps4
    go_wp2_with fail
    refine (big_no _ _ _ _ (by omega)).mono ?_
    rintro e w' ⟨rfl, rfl⟩
    go_wp2_with fail
    refine (drawDecRuns c _ hin).mono ?_
    rintro e w1 ⟨v1, zs, ty, k, rfl, _, _, hby, hzl, o1, b1⟩
    obtain ⟨bb, cb, hv1⟩ := o1.shape
    subst hv1
    have hBb : Hid (∀ W, Below w1.heap.size w1 W → At 1 W (.slice (some ⟨bb, 0, none⟩) zs.length cb) zs.length (ints .u8 zs)) := fun W hW => o1.at.below hW
    have HID := Lib.hid (fun W hW => iDecRuns _ zs.length zs ty k W (by omega) rfl hby (hBb.out W hW))
    have HSD := Lib.hid (fun W hW => sDecRuns _ zs.length zs ty k W (by omega) rfl hby (hBb.out W hW))
    have HDK := Lib.hid (dec_ok hby (ty := ty) (k := k))
    have HDS := Lib.hid (dec_sizes zs ty k)
    have HDL := Lib.hid (decR_len zs ty k)
    clear o1
    generalize hd : decR zs ty k = d at HID HSD HDK HDS HDL
    obtain ⟨dl, dk⟩ := d
    simp only at HID HSD HDK HDS HDL
    have hdl := HDL.out
    clear hd HDL
    generalize hzn : zs.length = zn at *
    have HZN := Lib.hid hzn
    clear hzn
    go_wp2_with fail
    refine (HID.out _ (Below.refl _ _)).mono ?_
    rintro e w2 ⟨v2, rfl, o2, b2⟩
    simp only at o2
    obtain ⟨bl, cl, hv2⟩ := o2.shape
    subst hv2
    have hb2 := below_then (Below.refl w1.heap.size w1) b2 (Nat.le_refl _)
    have B2 := below_then b1 b2 b1.size
    clear HID
    go_wp2_with fail
    refine (HSD.out _ hb2).mono ?_
    rintro e w3 ⟨v3, rfl, o3, b3⟩
    simp only at o3
    obtain ⟨bm, cm, hv3⟩ := o3.shape
    subst hv3
    have hb3 := below_then hb2 b3 hb2.size
    have B3 := below_then B2 b3 B2.size
    have L3 := (o2.below b3 (Nat.le_refl _)).wide b3.size
    clear HSD o2 b2 b3 hb2 B2
    go_wp2_with fail
    refine (drawSpread c _ (hin.below B3)).mono ?_
    rintro e w4 ⟨v4, r, rfl, hr, o4, b4⟩
    obtain ⟨br, cr, hv4⟩ := o4.shape
    subst hv4
    have hb4 := below_then hb3 b4 hb3.size
    have B4 := below_then B3 b4 B3.size
    have hLl : Hid (∀ W, Below w4.heap.size w4 W → Rd 3 W (.slice (some ⟨bl, 0, none⟩) dl.length cl) dl.length (vals dl)) := fun W hW => (L3.below b4 (Nat.le_refl _)).rd.below hW
    have hMm : Hid (∀ W, Below w4.heap.size w4 W → Rd 3 W (.slice (some ⟨bm, 0, none⟩) dl.length cm) dl.length (vals dl)) := fun W hW => (o3.below b4 (Nat.le_refl _)).rd.below hW
    have hRr : Hid (∀ W, Below w4.heap.size w4 W → Rd 4 W (.slice (some ⟨br, 0, none⟩) r.length cr) r.length (rus r)) := fun W hW => o4.rd.below hW
    have hBb4 : Hid (∀ W, Below w4.heap.size w4 W → At 1 W (.slice (some ⟨bb, 0, none⟩) zn cb) zn (ints .u8 zs)) := fun W hW => hBb.out W (below_then hb4 hW hb4.size)
    have HRS := Lib.hid hr.sizes
    have hr16 := hr.1
    have HI1 := Lib.hid (fun W hW => sameVals _ _ dl.length dl W rfl (hLl.out W hW) (hMm.out W hW))
    have HI2 := Lib.hid (fun W hW => iSpread _ r W (by omega) HRS.out (hRr.out W hW))
    have HI3 := Lib.hid (fun W hW => sSpread _ r W (hRr.out W hW))
    have HI4 := Lib.hid (fun W hW => iEncRuns _ dl W (by omega) HDS.out (hLl.out W hW))
    have HI5 := Lib.hid (fun W hW => iTypeOf _ dl W (by omega) HDS.out (hLl.out W hW))
    have HSPL : Hid ((spreadL r).length ≤ 64) := spreadL_len r
    clear o4 o3 L3 hr b4 B3 hb3 hBb hb4
    have hkk : (dk != dk) = false := by simp
    generalize hsl : spreadL r = S at *
    clear hsl
    generalize hdn : dl.length = dn at *
    have HDN := Lib.hid hdn
    clear hdn
    generalize r.length = rn at *
    have HB0 := Lib.hid (Below.refl w4.heap.size w4)
    go_wp2_with fail
    refine (HI1.out _ HB0.out).mono ?_
    rintro e w5 ⟨rfl, b5⟩
    have hb5 := below_then HB0.out b5 (Nat.le_refl _)
    clear HI1 b5
    go_wp2_with fail
    refine (HI2.out _ hb5).mono ?_
    rintro e w6 ⟨v6, rfl, o6, b6⟩
    have hb6 := below_then hb5 b6 hb5.size
    obtain ⟨b6', c6', hv6⟩ := o6.shape
    subst hv6
    clear HI2 hb5 b6
    go_wp2_with fail
    refine (HI3.out _ hb6).mono ?_
    rintro e w7 ⟨v7, rfl, o7, b7⟩
    have hb7 := below_then hb6 b7 hb6.size
    obtain ⟨b7', c7', hv7⟩ := o7.shape
    subst hv7
    have HS7 := Lib.hid (sameVals _ _ S.length S w7 rfl (o6.below b7 (Nat.le_refl _)).rd o7.rd)
    clear HI3 hb6 b7 o6 o7
    generalize S.length = sn at *
    go_wp2_with fail
    refine HS7.out.mono ?_
    rintro e w8 ⟨rfl, b8⟩
    have hb8 := below_then hb7 b8 hb7.size
    have B8 := below_then B4 hb8 B4.size
    clear HS7 hb7 b8
    cases dk with
    | false =>
      go_wp2_with fail
      go_ret
      exact ⟨rfl, B8⟩
    | true =>
      obtain ⟨hd1, hd2, hd3⟩ := HDK.out rfl
      have HD1 := Lib.hid hd1
      have HD3 := Lib.hid hd3
      subst hd2
      have hdd : ((dn : Int) == (dn : Int)) = true := by simp
      have htt : (ty == ty) = true := by simp
      clear hd1 hd3 HDK
      rw [HD1.out] at HI4
      rw [HD3.out] at HI5
      go_wp2_with fail
      refine (HI4.out _ hb8).mono ?_
      rintro e w9 ⟨v9, rfl, o9, b9⟩
      have hb9 := below_then hb8 b9 hb8.size
      have B9 := below_then B8 b9 B8.size
      rw [HZN.out] at o9
      obtain ⟨b9', c9', hv9⟩ := o9.shape
      subst hv9
      have HS9 := Lib.hid (same _ _ zn zs w9 HZN.out o9.at (hBb4.out _ hb9))
      clear HI4 hb8 b9 B8 o9
      go_wp2_with fail
      refine HS9.out.mono ?_
      rintro e w10 ⟨rfl, b10⟩
      have hb10 := below_then hb9 b10 hb9.size
      have B10 := below_then B9 b10 B9.size
      clear HS9 hb9 b10 B9
      go_wp2_with fail
      refine (HI5.out _ hb10).mono ?_
      rintro e w11 ⟨rfl, b11⟩
      have B11 := below_then B10 b11 B10.size
      go_wp2
      go_ret
      exact ⟨rfl, B11⟩

end Go.Proofs.Ytcnackecchjckaa
