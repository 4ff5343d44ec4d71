/- The law FnPacksBent, walked. -/
import Derived.Test.YtjakkpjkdboofaaIUnpack
import Derived.Test.YtjakkpjkdboofaaDrawPack
import Derived.Test.YtjakkpjkdboofaaLaw0
import Derived.Test.YtjakkpjkdboofaaSame
import Derived.Test.YtjakkpjkdboofaaSameInts
namespace Go.Proofs.Ytjakkpjkdboofaa
open Go.RowKit

set_option maxHeartbeats 2000000 in
theorem lawPacksBent (c : Code) (w : World) (h : c.len ≤ 1048576 → c.In w) :
    Calls Try.prog 4 #[.slice c.a c.len c.cap] w fun e w' => e = .returned (.bool true) ∧ Below w.heap.size w w' := by
  by_cases hbig : 1048576 < c.len
  · go_enter Try.func4, Try.ntmps4
    go_wp2_with (go_at_call 11; refine (big_yes _ _ _ _ hbig).mono ?_; rintro e w' ⟨rfl, rfl⟩)
    go_ret
    exact ⟨rfl, Below.refl _ _⟩
  · have hin := h (by omega)
    clear h
    go_enter Try.func4, Try.ntmps4
    go_wp2_with fail
    refine (big_no _ _ _ _ (by omega)).mono ?_
    rintro e w' ⟨rfl, rfl⟩
    go_wp2_with fail
    refine (drawUnpackBits c _ hin).mono ?_
    rintro e w1 ⟨v, zs, x, k, rfl, hby, hzl, hx0, hx1, hk0, hk1, ob, bt⟩
    have z1 := bt.size
    have hle := Bit.unpack_le zs x k
    have HPU : Hid (∀ r, Bit.unpack zs x k = (r, true) → Bit.pack r x = zs ∧ (r.length : Int) = k) := fun r hr => Bit.pack_unpack hby hr
    obtain ⟨r1, r2, hr⟩ : ∃ r1 r2, Bit.unpack zs x k = (r1, r2) := ⟨_, _, rfl⟩
    rw [hr] at hle
    simp only at hle
    have HR := Lib.hid hr
    clear hr
    go_wp2_with fail
    refine (iUnpackBits v _ zs x k _ (by omega) rfl hby (.inr ob.at)).mono ?_
    rw [HR.out]
    rintro e w2 ⟨lv, rfl, ol, hb⟩
    simp only at ol ⊢
    have z2 := hb.size
    replace ob := ob.below hb (Nat.le_refl _)
    replace bt := below_then bt hb (by omega)
    clear hb
    go_wp2_with fail
    refine (sUnpackBits v _ zs x k _ (by omega) rfl hby (.inr ob.at)).mono ?_
    rw [HR.out]
    rintro e w3 ⟨mv, rfl, om, hb⟩
    simp only at om ⊢
    have z3 := hb.size
    replace ob := ob.below hb (by omega)
    replace ol := ol.below hb (by omega)
    replace bt := below_then bt hb (by omega)
    clear hb
    go_wp2_with fail
    refine (drawWidthOf c _ (hin.below bt)).mono ?_
    rintro e w4 ⟨n, rfl, hb⟩
    have z4 := hb.size
    replace ob := ob.below hb (by omega)
    replace ol := ol.below hb (by omega)
    replace om := om.below hb (by omega)
    replace bt := below_then bt hb (by omega)
    clear hb
    go_wp2_with fail
    refine (drawBytesFor c _ (hin.below bt)).mono ?_
    rintro e w5 ⟨p, q, rfl, hb⟩
    have z5 := hb.size
    replace ob := ob.below hb (by omega)
    replace ol := ol.below hb (by omega)
    replace om := om.below hb (by omega)
    replace bt := below_then bt hb (by omega)
    clear hb
    go_wp2_with fail
    refine (drawBitAt c _ (hin.below bt)).mono ?_
    rintro e w6 ⟨cv, cs, i, rfl, hcb, hcl, hi0, hi1, oc, hb⟩
    have z6 := hb.size
    replace ob := ob.below hb (by omega)
    replace ol := ol.below hb (by omega)
    replace om := om.below hb (by omega)
    replace bt := below_then bt hb (by omega)
    clear hb hin
    go_wp2_with fail
    refine (sameInts lv mv _ r1 _ rfl ol.at om.at).mono ?_
    rintro e w7 ⟨rfl, hb⟩
    have z7 := hb.size
    replace ob := ob.below hb (by omega)
    replace ol := ol.below hb (by omega)
    replace oc := oc.below hb (by omega)
    replace bt := below_then bt hb (by omega)
    clear hb om
    have err : (r2 != r2) = false := by simp
    go_wp2_with fail
    refine (iWidthOf n _).mono ?_
    rintro e w' ⟨rfl, rfl⟩
    go_wp2_with fail
    refine (sWidthOf n _).mono ?_
    rintro e w' ⟨rfl, rfl⟩
    generalize Bit.widthI n = wn
    go_wp2_with fail
    refine (iBytesFor p q _).mono ?_
    rintro e w' ⟨rfl, rfl⟩
    go_wp2_with fail
    refine (sBytesFor p q _).mono ?_
    rintro e w' ⟨rfl, rfl⟩
    generalize Bit.bytesFor p q = bn
    have ebn : (bn != bn) = false := by simp
    go_wp2_with fail
    refine (iBitAt cv _ cs i _ (by omega) (by omega) rfl hcb (.inr oc.at)).mono ?_
    rintro e w' ⟨rfl, rfl⟩
    go_wp2_with fail
    refine (sBitAt cv _ cs i _ (by omega) (by omega) rfl hcb (.inr oc.at)).mono ?_
    rintro e w' ⟨rfl, rfl⟩
    generalize Bit.bitAt cs i = bi
    have ebi : (bi != bi) = false := by simp
    cases r2 with
    | false =>
      go_wp2
      go_ret
      exact ⟨rfl, bt⟩
    | true =>
      obtain ⟨hpk, hlk⟩ := HPU.out r1 HR.out
      have HPK := Lib.hid hpk
      obtain ⟨gl, cl, rfl⟩ := ol.shape
      have hlk2 : ((r1.length : Int) == k) = true := by simp [hlk]
      have HLK := Lib.hid hlk
      clear hpk hlk
      go_wp2_with fail
      refine (iPackBits _ _ r1 x _ (by omega) rfl (.inr ol.at)).mono ?_
      rw [HPK.out]
      rintro e w8 ⟨pv, rfl, op, hb⟩
      have z8 := hb.size
      replace ob := ob.below hb (by omega)
      replace bt := below_then bt hb (by omega)
      clear hb
      go_wp2_with fail
      refine (same pv v _ zs _ rfl op.at ob.at).mono ?_
      rintro e w9 ⟨rfl, hb⟩
      replace bt := below_then bt hb (by omega)
      go_wp2
      go_ret
      exact ⟨rfl, bt⟩

end Go.Proofs.Ytjakkpjkdboofaa
