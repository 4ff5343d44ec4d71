/- The exact laws of ValText and ParseVal, walked; the program's own contracts come as hypotheses. -/
import Derived.Test.YtfkmbcjhkfecfaaDoorVNum
namespace Go.Proofs.YtfkmbcjhkfecfaaDoor
open Go.RowKit

def CValText : Prop := ∀ (v : V) (w : World), v.s.size ≤ maxLen → Tab w → Calls Tryd.prog 8 #[v.agg] w fun e w' => e = .returned (.string (valText v)) ∧ Below w.heap.size w w'
def CParseVal : Prop := ∀ (s : ByteArray) (w : World), s.size ≤ maxLen → Tab w → Syn w → Calls Tryd.prog 10 #[.string s] w fun e w' => e = .returned (.tuple #[(parseV s).1.agg, .bool (parseV s).2]) ∧ Below w.heap.size w w'

set_option maxHeartbeats 1000000 in
theorem lawValText (hi : CValText) (v : V) (w : World) (hs : v.s.size ≤ maxLen) (ht : Tab w) : Calls Tryd.prog 3 #[v.agg] w fun e w' => e = .returned (.bool true) ∧ Below w.heap.size w w' := by
  have HSZ := Lib.hid (fun W => szVal v 1048576 W (by omega) (by omega) hs)
  have HT := Lib.hid (fun W => toVal v W)
  have HS := Lib.hid (fun W => sValText v W hs)
  have HI := Lib.hid (fun W => hi v W hs)
  have B0 := below_alloc w (.cells #[.int .i64 v.ty, .int .i64 v.n, .string v.s] 23)
  have Z0 := held_new w v 23
  have HTB := Lib.hid ht
  generalize valText v = r at HS HI
  generalize szV v 1048576 = z at HSZ
  obtain ⟨t, n, s⟩ := v
  simp only at B0 Z0
  clear hs ht
  generalize hw0 : (w.alloc (.cells #[.int .i64 t, .int .i64 n, .string s] 23)) = w0 at B0 Z0
  have HW := Lib.hid hw0
  clear hw0
  go_enter Tryd.func3, Tryd.ntmps3
  go_wp2_with fail
  refine (HSZ.out _).mono ?_
  rintro e w1 ⟨rfl, b1⟩
  have B1 : Below w0.heap.size w0 w1 := by
    have := b1
    rw [← HW.out]
    exact this
  clear b1
  by_cases hz : z < 0
  · go_wp2
    go_ret
    exact ⟨rfl, B0.trans (B1.mono B0.size)⟩
  · obtain ⟨⟨p0, p1, p2⟩, _⟩ := Z0.below B1
    go_wp2_with fail
    refine (HT.out _).mono ?_
    rintro e w2 ⟨rfl, b2⟩
    have B2 := below_then B1 b2 B1.size
    clear b2 p0 p1 p2 B1
    go_wp2_with fail
    refine (HS.out _).mono ?_
    rintro e w3 ⟨rfl, b3⟩
    have B3 := below_then B2 b3 B2.size
    clear b3 B2
    obtain ⟨⟨p0, p1, p2⟩, _⟩ := Z0.below B3
    go_wp2_with fail
    refine (HT.out _).mono ?_
    rintro e w4 ⟨rfl, b4⟩
    have B4 := below_then B3 b4 B3.size
    clear b4 p0 p1 p2 B3
    go_wp2_with fail
    refine (HI.out _ (HTB.out.below (B0.trans (B4.mono B0.size)))).mono ?_
    rintro e w5 ⟨rfl, b5⟩
    have B5 := below_then B4 b5 B4.size
    clear b5 B4
    go_wp2
    go_ret
    exact ⟨rfl, B0.trans (B5.mono B0.size)⟩

set_option maxHeartbeats 1000000 in
theorem lawParseVal (hi : CParseVal) (s : ByteArray) (w : World) (hs : s.size ≤ maxLen) (ht : Tab w) (hv : Syn w) : Calls Tryd.prog 4 #[.string s] w fun e w' => e = .returned (.bool true) ∧ Below w.heap.size w w' := by
  have HS := Lib.hid (fun W => sParseVal s W hs)
  have HI := Lib.hid (fun W => hi s W hs)
  have HTB := Lib.hid ht
  have HSY := Lib.hid hv
  clear ht hv hi
  generalize parseV s = r at HS HI
  obtain ⟨v, ok⟩ := r
  simp only at HS HI
  have HQ := Lib.hid (fun W => eqVal v W)
  have hoo : (ok != ok) = false := by simp
  unfold maxLen at hs
  by_cases hbig : 1048576 < s.size
  · go_enter Tryd.func4, Tryd.ntmps4
    go_wp2
    go_ret
    exact ⟨rfl, Below.refl _ _⟩
  · obtain ⟨t, n, x⟩ := v
    go_enter Tryd.func4, Tryd.ntmps4
    go_wp2_with fail
    refine (HS.out _).mono ?_
    rintro e w1 ⟨rfl, b1⟩
    have B2 := b1.alloc b1.size (.cells #[.int .i64 t, .int .i64 n, .string x] 26)
    have Z1 := held_new w1 ⟨t, n, x⟩ 26
    simp only at Z1
    clear b1
    go_wp2_with fail
    refine (HI.out _ (HTB.out.below B2) (HSY.out.below B2)).mono ?_
    rintro e w3 ⟨rfl, b3⟩
    have B3 := below_then B2 b3 B2.size
    have Z2 := (Z1.below b3).below (below_alloc w3 (.cells #[.int .i64 t, .int .i64 n, .string x] 26))
    have Z3 := held_new w3 ⟨t, n, x⟩ 26
    have B4 := B3.alloc B3.size (.cells #[.int .i64 t, .int .i64 n, .string x] 26)
    obtain ⟨⟨p0, p1, p2⟩, _⟩ := Z2
    obtain ⟨⟨q0, q1, q2⟩, _⟩ := Z3
    simp only at p0 p1 p2 q0 q1 q2
    clear b3 Z1 B2 B3
    go_wp2_with fail
    refine (HQ.out _).mono ?_
    rintro e w5 ⟨rfl, b5⟩
    have B5 := below_then B4 b5 B4.size
    go_wp2
    go_ret
    exact ⟨rfl, B5⟩

end Go.Proofs.YtfkmbcjhkfecfaaDoor
