/- The law FnExactGetNums, walked. -/
import Derived.Test.YthbnnjajgfgnoaaGets
namespace Go.Proofs.Ythbnnjajgfgnoaa
open Go.RowKit

set_option maxHeartbeats 1000000 in
theorem lawGetNums (a : Option Addr) (len cap : Nat) (zs : List Int) (x : Int) (w : World) (h : Arg .u8 w a len zs) (hby : Num.Bytes zs) :
    Calls Try.prog 11 #[.slice a len cap, .int .i64 x] w fun e w' => e = .returned (.bool true) ∧ Below w.heap.size w w' := by
  by_cases hbig : 1048576 < len
  · go_enter Try.func11, Try.ntmps11
    go_wp2
    go_ret
    exact ⟨rfl, Below.refl _ _⟩
  · have HZ : Hid (zs.length = len) := h.1
    have hl64 := Num.getL_len zs x
    obtain ⟨r1, r2, r3, hr⟩ : ∃ r1 r2 r3, Num.getL zs x = (r1, r2, r3) := ⟨_, _, _, rfl⟩
    rw [hr] at hl64
    simp only at hl64
    have HR := Lib.hid hr
    clear hr
    generalize hn : r1.length = n at hl64
    have HN := Lib.hid hn
    clear hn
    have e2 : (r2 != r2) = false := by simp
    have e3 : (r3 != r3) = false := by simp
    go_enter Try.func11, Try.ntmps11
    have bt := Below.refl w.heap.size w
    go_wp2_with fail
    refine (toByteS a len cap zs w (by omega) (h.below bt)).mono ?_
    rintro e w1 ⟨t1, rfl, o1, hb⟩
    have z1 := hb.size
    replace bt := below_then bt hb (by omega)
    clear hb
    go_wp2_with fail
    refine (sGetNums t1 len zs x w1 (by omega) HZ.out hby o1.at).mono ?_
    rw [HR.out]
    rintro e w2 ⟨v0, rfl, ov, hb⟩
    simp only at ov ⊢
    rw [HN.out] at ov
    have z2 := hb.size
    replace o1 := o1.below hb (by omega)
    replace bt := below_then bt hb (by omega)
    clear hb
    clear o1
    go_wp2_with fail
    refine (toByteS a len cap zs w2 (by omega) (h.below bt)).mono ?_
    rintro e w3 ⟨x0, rfl, ox, hb⟩
    have z3 := hb.size
    replace ov := ov.below hb (by omega)
    replace bt := below_then bt hb (by omega)
    clear hb
    go_wp2_with fail
    refine (iGetNums x0 len zs x w3 (by omega) HZ.out hby ox.at).mono ?_
    rw [HR.out]
    rintro e w4 ⟨g0, rfl, og, hb⟩
    simp only at og ⊢
    rw [HN.out] at og
    have z4 := hb.size
    replace ov := ov.below hb (by omega)
    replace ox := ox.below hb (by omega)
    replace bt := below_then bt hb (by omega)
    clear hb
    go_wp2_with fail
    refine (eqIntS g0 v0 n r1 w4 HN.out og.at ov.at).mono ?_
    rintro e w5 ⟨rfl, hb⟩
    have z5 := hb.size
    replace ov := ov.below hb (by omega)
    replace ox := ox.below hb (by omega)
    replace og := og.below hb (by omega)
    replace bt := below_then bt hb (by omega)
    clear hb
    go_wp2_with fail
    refine (toByteS a len cap zs w5 (by omega) (h.below bt)).mono ?_
    rintro e w6 ⟨t2, rfl, o2, hb⟩
    have z6 := hb.size
    replace ov := ov.below hb (by omega)
    replace ox := ox.below hb (by omega)
    replace og := og.below hb (by omega)
    replace bt := below_then bt hb (by omega)
    clear hb
    go_wp2_with fail
    refine (eqByteS x0 t2 len zs w6 HZ.out ox.at o2.at).mono ?_
    rintro e w7 ⟨rfl, hb⟩
    have z7 := hb.size
    replace ov := ov.below hb (by omega)
    replace ox := ox.below hb (by omega)
    replace og := og.below hb (by omega)
    replace o2 := o2.below hb (by omega)
    replace bt := below_then bt hb (by omega)
    clear hb
    clear o2
    go_wp2_with fail
    refine (markByteS x0 len _ _ _ _ w7 (by omega) (by omega) (by omega) ox).mono ?_
    rintro e w8 ⟨rfl, hnew, hg⟩
    have z8 := hg.size
    replace ov := ov.apart ox (by omega) hg
    replace og := og.apart ox (by omega) hg
    replace bt := bt.trans (below_grown_own ox hg (by omega) (by omega))
    clear hg ox
    have ox := hnew
    clear hnew
    go_wp2_with fail
    refine (eqIntS g0 v0 n r1 w8 HN.out og.at ov.at).mono ?_
    rintro e w9 ⟨rfl, hb⟩
    have z9 := hb.size
    replace ov := ov.below hb (by omega)
    replace ox := ox.below hb (by omega)
    replace og := og.below hb (by omega)
    replace bt := below_then bt hb (by omega)
    clear hb
    clear ox
    go_wp2_with fail
    refine (markIntS g0 n _ _ _ _ w9 (by omega) (by omega) (by omega) og).mono ?_
    rintro e w10 ⟨rfl, hnew, hg⟩
    have z10 := hg.size
    replace ov := ov.apart og (by omega) hg
    replace bt := bt.trans (below_grown_own og hg (by omega) (by omega))
    clear hg og
    have og := hnew
    clear hnew
    go_wp2_with fail
    refine (heldIntS g0 n 1 w10 (by omega) (by omega) (by omega) og.at).mono ?_
    rintro e w' ⟨rfl, rfl⟩
    go_wp2_with fail
    refine (toByteS a len cap zs w10 (by omega) (h.below bt)).mono ?_
    rintro e w11 ⟨t3, rfl, o3, hb⟩
    have z11 := hb.size
    replace ov := ov.below hb (by omega)
    replace og := og.below hb (by omega)
    replace bt := below_then bt hb (by omega)
    clear hb
    go_wp2_with fail
    refine (iGetNums t3 len zs x w11 (by omega) HZ.out hby o3.at).mono ?_
    rw [HR.out]
    rintro e w12 ⟨h0, rfl, oh, hb⟩
    simp only at oh ⊢
    rw [HN.out] at oh
    have z12 := hb.size
    replace ov := ov.below hb (by omega)
    replace og := og.below hb (by omega)
    replace o3 := o3.below hb (by omega)
    replace bt := below_then bt hb (by omega)
    clear hb
    clear o3
    go_wp2_with fail
    refine (eqIntS h0 v0 n r1 w12 HN.out oh.at ov.at).mono ?_
    rintro e w13 ⟨rfl, hb⟩
    have z13 := hb.size
    replace ov := ov.below hb (by omega)
    replace og := og.below hb (by omega)
    replace oh := oh.below hb (by omega)
    replace bt := below_then bt hb (by omega)
    clear hb
    go_wp2_with fail
    refine (heldIntS g0 n 1 w13 (by omega) (by omega) (by omega) og.at).mono ?_
    rintro e w' ⟨rfl, rfl⟩
    go_wp2
    go_ret
    exact ⟨rfl, bt⟩

end Go.Proofs.Ythbnnjajgfgnoaa
