/- The exact law of TypeOf, walked; the program's own contract comes as a hypothesis. -/
import Derived.Test.YteddpefboeikhaaS5
namespace Go.Proofs.Yteddpefboeikhaa
open Go.RowKit

def CTypeOf : Prop := ∀ (v : Value) (l : List V) (w : World), l.length ≤ 1048576 → (∀ v ∈ l, v.s.size ≤ maxLen) → Rd 3 w v l.length (vals l) → Calls Try.prog 13 #[v] w fun e w' => e = .returned (.int .i64 (typeV l)) ∧ Below w.heap.size w w'

set_option maxHeartbeats 1000000 in
theorem lawTypeOf (hi : CTypeOf) (b : Option Addr) (lenb capb : Nat) (l : List V) (w : World) (hlb : lenb ≤ maxLen) (hsb : ∀ v ∈ l, v.s.size ≤ maxLen) (hzb : l.length = lenb) (hbB : ArgS 3 w b lenb (vals l)) :
    Calls Try.prog 3 #[.slice b lenb capb] w fun e w' => e = .returned (.bool true) ∧ Below w.heap.size w w' := by
  have HL := Lib.hid hzb
  have HSS := Lib.hid hsb
  have hqq : (typeV l != typeV l) = false := by simp
  clear hsb hzb
  go_enter Try.func3, Try.ntmps3
  have bt := Below.refl w.heap.size w
  go_wp2_with fail
  refine (szValS b lenb capb l 1048576 w (by omega) (by omega) hlb HSS.out HL.out (hbB.below bt)).mono ?_
  rintro e w1 ⟨rb, rfl, hrb, hb⟩
  have z1 := hb.size
  replace bt := below_then bt hb (by omega)
  clear hb
  by_cases hnb : rb < 0
  · go_wp2
    go_ret
    exact ⟨rfl, bt⟩
  have hbb : lenb ≤ 1048576 := by omega
  clear hrb
  go_wp2_with fail
  refine (toValS b lenb capb l w1 (by omega) HL.out (hbB.below bt)).mono ?_
  rintro e w2 ⟨t1, rfl, o1, hb⟩
  have z2 := hb.size
  replace bt := below_then bt hb (by omega)
  clear hb
  go_wp2_with fail
  refine (sTypeOf t1 l w2 HSS.out (by rw [HL.out]; exact o1.rd)).mono ?_
  rintro e w3 ⟨rfl, hb⟩
  have z3 := hb.size
  replace o1 := o1.below hb (by omega)
  replace bt := below_then bt hb (by omega)
  clear hb
  clear o1
  go_wp2_with fail
  refine (toValS b lenb capb l w3 (by omega) HL.out (hbB.below bt)).mono ?_
  rintro e w4 ⟨x1, rfl, oy, hb⟩
  have z4 := hb.size
  replace bt := below_then bt hb (by omega)
  clear hb
  go_wp2_with fail
  refine (hi x1 l w4 (by rw [HL.out]; omega) HSS.out (by rw [HL.out]; exact oy.rd)).mono ?_
  rintro e w5 ⟨rfl, hb⟩
  have z5 := hb.size
  replace oy := oy.below hb (by omega)
  replace bt := below_then bt hb (by omega)
  clear hb
  go_wp2_with fail
  refine (toValS b lenb capb l w5 (by omega) HL.out (hbB.below bt)).mono ?_
  rintro e w6 ⟨t4, rfl, o4, hb⟩
  have z6 := hb.size
  replace oy := oy.below hb (by omega)
  replace bt := below_then bt hb (by omega)
  clear hb
  go_wp2_with fail
  refine (eqValS x1 t4 lenb l w6 HL.out oy.at o4.at).mono ?_
  rintro e w7 ⟨rfl, hb⟩
  have z7 := hb.size
  replace oy := oy.below hb (by omega)
  replace o4 := o4.below hb (by omega)
  replace bt := below_then bt hb (by omega)
  clear hb
  go_wp2
  go_ret
  exact ⟨rfl, bt⟩

end Go.Proofs.Yteddpefboeikhaa
