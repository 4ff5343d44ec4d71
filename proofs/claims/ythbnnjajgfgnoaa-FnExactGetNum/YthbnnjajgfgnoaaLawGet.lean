/- The law FnExactGetNum, walked. -/
import Derived.Test.YthbnnjajgfgnoaaSGet
namespace Go.Proofs.Ythbnnjajgfgnoaa
open Go.RowKit

set_option maxHeartbeats 1000000 in
theorem lawGetNum (a : Option Addr) (len cap : Nat) (zs : List Int) (x : Int) (w : World) (h : Arg .u8 w a len zs) (hby : Num.Bytes zs) :
    Calls Try.prog 9 #[.slice a len cap, .int .i64 x] w fun e w' => e = .returned (.bool true) ∧ Below w.heap.size w w' := by
  by_cases hbig : 1048576 < len
  · go_enter Try.func9, Try.ntmps9
    go_wp2
    go_ret
    exact ⟨rfl, Below.refl _ _⟩
  · have HZ : Hid (zs.length = len) := h.1
    obtain ⟨r1, r2, r3, hr⟩ : ∃ r1 r2 r3, Num.get zs x = (r1, r2, r3) := ⟨_, _, _, rfl⟩
    have HR := Lib.hid hr
    clear hr
    have e1 : (r1 != r1) = false := by simp
    have e2 : (r2 != r2) = false := by simp
    have e3 : (r3 != r3) = false := by simp
    go_enter Try.func9, Try.ntmps9
    have bt := Below.refl w.heap.size w
    go_wp2_with fail
    refine (toByteS a len cap zs w (by omega) (h.below bt)).mono ?_
    rintro e w1 ⟨t1, rfl, o1, hb⟩
    have z1 := hb.size
    replace bt := below_then bt hb (by omega)
    clear hb
    go_wp2_with fail
    refine (sGetNum t1 len zs x w1 (by omega) HZ.out hby o1.at).mono ?_
    rw [HR.out]; simp only [getRes]
    rintro e w' ⟨rfl, rfl⟩
    clear o1
    go_wp2_with fail
    refine (toByteS a len cap zs w1 (by omega) (h.below bt)).mono ?_
    rintro e w2 ⟨x0, rfl, ox, hb⟩
    have z2 := hb.size
    replace bt := below_then bt hb (by omega)
    clear hb
    go_wp2_with fail
    refine (iGetNum x0 len zs x w2 (by omega) HZ.out hby ox.at).mono ?_
    rw [HR.out]; simp only [getRes]
    rintro e w' ⟨rfl, rfl⟩
    go_wp2_with fail
    refine (toByteS a len cap zs w2 (by omega) (h.below bt)).mono ?_
    rintro e w3 ⟨t2, rfl, o2, hb⟩
    have z3 := hb.size
    replace ox := ox.below hb (by omega)
    replace bt := below_then bt hb (by omega)
    clear hb
    go_wp2_with fail
    refine (eqByteS x0 t2 len zs w3 HZ.out ox.at o2.at).mono ?_
    rintro e w4 ⟨rfl, hb⟩
    have z4 := hb.size
    replace ox := ox.below hb (by omega)
    replace o2 := o2.below hb (by omega)
    replace bt := below_then bt hb (by omega)
    clear hb
    go_wp2
    go_ret
    exact ⟨rfl, bt⟩

end Go.Proofs.Ythbnnjajgfgnoaa
