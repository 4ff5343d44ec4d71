/- The law FnExactPutNums, walked. -/
import Derived.Test.YthbnnjajgfgnoaaPuts
namespace Go.Proofs.Ythbnnjajgfgnoaa
open Go.RowKit

set_option maxHeartbeats 1000000 in
theorem lawPutNums (a : Option Addr) (len cap : Nat) (zs : List Int) (a2 : Option Addr) (m cap2 : Nat) (l : List Int) (w : World) (h : Arg .u8 w a len zs) (h2 : Arg .i64 w a2 m l) :
    Calls Try.prog 10 #[.slice a len cap, .slice a2 m cap2] w fun e w' => e = .returned (.bool true) ∧ Below w.heap.size w w' := by
  by_cases hbig : 1048576 < len
  · go_enter Try.func10, Try.ntmps10
    go_wp2
    go_ret
    exact ⟨rfl, Below.refl _ _⟩
  · by_cases hbig2 : 1048576 < m
    · go_enter Try.func10, Try.ntmps10
      go_wp2
      go_ret
      exact ⟨rfl, Below.refl _ _⟩
    · have HZ : Hid (zs.length = len) := h.1
      have HM : Hid (l.length = m) := h2.1
      have hPl := (Num.putL_len zs l).2
      rw [HZ.out, HM.out] at hPl
      generalize hP : Num.putL zs l = P at hPl
      have HP := Lib.hid hP
      clear hP
      generalize hn : P.length = n at hPl
      have HN := Lib.hid hn
      clear hn
      go_enter Try.func10, Try.ntmps10
      have bt := Below.refl w.heap.size w
      go_wp2_with fail
      refine (toByteS a len cap zs w (by omega) (h.below bt)).mono ?_
      rintro e w1 ⟨t1, rfl, o1, hb⟩
      have z1 := hb.size
      replace bt := below_then bt hb (by omega)
      clear hb
      go_wp2_with fail
      refine (toIntS a2 m cap2 l w1 (by omega) (h2.below bt)).mono ?_
      rintro e w2 ⟨t2, rfl, o2, hb⟩
      have z2 := hb.size
      replace o1 := o1.below hb (by omega)
      replace bt := below_then bt hb (by omega)
      clear hb
      go_wp2_with fail
      refine (sPutNums t1 t2 len m zs l w2 (by omega) (by omega) HZ.out HM.out o1.at o2.at).mono ?_
      rintro e w3 ⟨v0, rfl, ov, hb⟩
      have z3 := hb.size
      replace o1 := o1.below hb (by omega)
      replace o2 := o2.below hb (by omega)
      replace bt := below_then bt hb (by omega)
      clear hb
      rw [HP.out, HN.out] at ov
      clear o1 o2
      go_wp2_with fail
      refine (toByteS a len cap zs w3 (by omega) (h.below bt)).mono ?_
      rintro e w4 ⟨x0, rfl, ox, hb⟩
      have z4 := hb.size
      replace ov := ov.below hb (by omega)
      replace bt := below_then bt hb (by omega)
      clear hb
      go_wp2_with fail
      refine (toIntS a2 m cap2 l w4 (by omega) (h2.below bt)).mono ?_
      rintro e w5 ⟨x1, rfl, oy, hb⟩
      have z5 := hb.size
      replace ov := ov.below hb (by omega)
      replace ox := ox.below hb (by omega)
      replace bt := below_then bt hb (by omega)
      clear hb
      go_wp2_with fail
      refine (iPutNums x0 x1 len m zs l w5 (by omega) (by omega) HZ.out HM.out (.inr ox.at) oy.at).mono ?_
      rintro e w6 ⟨g0, rfl, og, hb⟩
      have z6 := hb.size
      replace ov := ov.below hb (by omega)
      replace ox := ox.below hb (by omega)
      replace oy := oy.below hb (by omega)
      replace bt := below_then bt hb (by omega)
      clear hb
      rw [HP.out, HN.out] at og
      go_wp2_with fail
      refine (eqByteS g0 v0 n P w6 HN.out og.at ov.at).mono ?_
      rintro e w7 ⟨rfl, hb⟩
      have z7 := hb.size
      replace ov := ov.below hb (by omega)
      replace ox := ox.below hb (by omega)
      replace oy := oy.below hb (by omega)
      replace og := og.below hb (by omega)
      replace bt := below_then bt hb (by omega)
      clear hb
      go_wp2_with fail
      refine (toByteS a len cap zs w7 (by omega) (h.below bt)).mono ?_
      rintro e w8 ⟨t3, rfl, o3, hb⟩
      have z8 := hb.size
      replace ov := ov.below hb (by omega)
      replace ox := ox.below hb (by omega)
      replace oy := oy.below hb (by omega)
      replace og := og.below hb (by omega)
      replace bt := below_then bt hb (by omega)
      clear hb
      go_wp2_with fail
      refine (eqByteS x0 t3 len zs w8 HZ.out ox.at o3.at).mono ?_
      rintro e w9 ⟨rfl, hb⟩
      have z9 := hb.size
      replace ov := ov.below hb (by omega)
      replace ox := ox.below hb (by omega)
      replace oy := oy.below hb (by omega)
      replace og := og.below hb (by omega)
      replace o3 := o3.below hb (by omega)
      replace bt := below_then bt hb (by omega)
      clear hb
      clear o3
      go_wp2_with fail
      refine (toIntS a2 m cap2 l w9 (by omega) (h2.below bt)).mono ?_
      rintro e w10 ⟨t4, rfl, o4, hb⟩
      have z10 := hb.size
      replace ov := ov.below hb (by omega)
      replace ox := ox.below hb (by omega)
      replace oy := oy.below hb (by omega)
      replace og := og.below hb (by omega)
      replace bt := below_then bt hb (by omega)
      clear hb
      go_wp2_with fail
      refine (eqIntS x1 t4 m l w10 HM.out oy.at o4.at).mono ?_
      rintro e w11 ⟨rfl, hb⟩
      have z11 := hb.size
      replace ov := ov.below hb (by omega)
      replace ox := ox.below hb (by omega)
      replace oy := oy.below hb (by omega)
      replace og := og.below hb (by omega)
      replace o4 := o4.below hb (by omega)
      replace bt := below_then bt hb (by omega)
      clear hb
      clear o4
      go_wp2_with fail
      refine (markByteS x0 len _ _ _ _ w11 (by omega) (by omega) (by omega) ox).mono ?_
      rintro e w12 ⟨rfl, hnew, hg⟩
      have z12 := hg.size
      replace ov := ov.apart ox (by omega) hg
      replace oy := oy.apart ox (by omega) hg
      replace og := og.apart ox (by omega) hg
      replace bt := bt.trans (below_grown_own ox hg (by omega) (by omega))
      clear hg ox
      have ox := hnew
      clear hnew
      go_wp2_with fail
      refine (markIntS x1 m _ _ _ _ w12 (by omega) (by omega) (by omega) oy).mono ?_
      rintro e w13 ⟨rfl, hnew, hg⟩
      have z13 := hg.size
      replace ov := ov.apart oy (by omega) hg
      replace ox := ox.apart oy (by omega) hg
      replace og := og.apart oy (by omega) hg
      replace bt := bt.trans (below_grown_own oy hg (by omega) (by omega))
      clear hg oy
      have oy := hnew
      clear hnew
      go_wp2_with fail
      refine (eqByteS g0 v0 n P w13 HN.out og.at ov.at).mono ?_
      rintro e w14 ⟨rfl, hb⟩
      have z14 := hb.size
      replace ov := ov.below hb (by omega)
      replace ox := ox.below hb (by omega)
      replace oy := oy.below hb (by omega)
      replace og := og.below hb (by omega)
      replace bt := below_then bt hb (by omega)
      clear hb
      clear ox oy
      go_wp2_with fail
      refine (markByteS g0 n _ _ _ _ w14 (by omega) (by omega) (by omega) og).mono ?_
      rintro e w15 ⟨rfl, hnew, hg⟩
      have z15 := hg.size
      replace ov := ov.apart og (by omega) hg
      replace bt := bt.trans (below_grown_own og hg (by omega) (by omega))
      clear hg og
      have og := hnew
      clear hnew
      go_wp2_with fail
      refine (heldByteS g0 n 1 w15 (by omega) (by omega) (by omega) og.at).mono ?_
      rintro e w' ⟨rfl, rfl⟩
      go_wp2_with fail
      refine (toByteS a len cap zs w15 (by omega) (h.below bt)).mono ?_
      rintro e w16 ⟨t5, rfl, o5, hb⟩
      have z16 := hb.size
      replace ov := ov.below hb (by omega)
      replace og := og.below hb (by omega)
      replace bt := below_then bt hb (by omega)
      clear hb
      go_wp2_with fail
      refine (toIntS a2 m cap2 l w16 (by omega) (h2.below bt)).mono ?_
      rintro e w17 ⟨t6, rfl, o6, hb⟩
      have z17 := hb.size
      replace ov := ov.below hb (by omega)
      replace og := og.below hb (by omega)
      replace o5 := o5.below hb (by omega)
      replace bt := below_then bt hb (by omega)
      clear hb
      go_wp2_with fail
      refine (iPutNums t5 t6 len m zs l w17 (by omega) (by omega) HZ.out HM.out (.inr o5.at) o6.at).mono ?_
      rintro e w18 ⟨h0, rfl, oh, hb⟩
      have z18 := hb.size
      replace ov := ov.below hb (by omega)
      replace og := og.below hb (by omega)
      replace o5 := o5.below hb (by omega)
      replace o6 := o6.below hb (by omega)
      replace bt := below_then bt hb (by omega)
      clear hb
      rw [HP.out, HN.out] at oh
      clear o5 o6
      go_wp2_with fail
      refine (eqByteS h0 v0 n P w18 HN.out oh.at ov.at).mono ?_
      rintro e w19 ⟨rfl, hb⟩
      have z19 := hb.size
      replace ov := ov.below hb (by omega)
      replace og := og.below hb (by omega)
      replace oh := oh.below hb (by omega)
      replace bt := below_then bt hb (by omega)
      clear hb
      go_wp2_with fail
      refine (heldByteS g0 n 1 w19 (by omega) (by omega) (by omega) og.at).mono ?_
      rintro e w' ⟨rfl, rfl⟩
      go_wp2
      go_ret
      exact ⟨rfl, bt⟩

end Go.Proofs.Ythbnnjajgfgnoaa
