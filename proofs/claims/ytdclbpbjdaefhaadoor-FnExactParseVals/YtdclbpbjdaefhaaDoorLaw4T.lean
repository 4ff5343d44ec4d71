/- The exact laws of RowText and ParseVals, walked; the program's own contracts come as hypotheses. -/
import Derived.Test.YtdclbpbjdaefhaaDoorS4P
namespace Go.Proofs.YtdclbpbjdaefhaaDoor
open Go.RowKit

def CRowText : Prop := ∀ (r : R) (u : Value) (w : World), -9223372036854775808 ≤ r.id → r.id ≤ 9223372036854775807 → r.l.length ≤ 1048576 → (∀ v ∈ r.l, v.s.size ≤ maxLen) → r.rd w u → Tab w → Calls Tryd.prog 8 #[r.agg u] w fun e w' => e = .returned (.string (rowText r)) ∧ Below w.heap.size w w'
def CParseVals : Prop := ∀ (l : List UInt8) (w : World), l.length ≤ 1048576 → Tab w → Syn w → Calls Tryd.prog 11 #[.string ⟨l.toArray⟩] w fun e w' => RVs w w' e (parseVs l)

theorem R.of_own {e lo hi w v n} {r : R} (h : Own e 3 lo hi w v n (vals r.l)) (hn : r.l.length = n) : r.rd w v := by
  subst hn
  exact h.rd

set_option maxHeartbeats 2000000 in
theorem lawRowText (hi : CRowText) (r : R) (u : Value) (w : World) (h0 : -9223372036854775808 ≤ r.id) (h1 : r.id ≤ 9223372036854775807) (hss : ∀ v ∈ r.l, v.s.size ≤ maxLen) (hR : r.rd w u) (hT : Tab w) :
    Calls Tryd.prog 3 #[r.agg u] w fun e w' => e = .returned (.bool true) ∧ Below w.heap.size w w' := by
  obtain ⟨b, capb, rfl, _, _⟩ := id hR
  obtain ⟨i, l⟩ := r
  generalize hm : l.length = m at *
  have HL := Lib.hid hm
  have HSS := Lib.hid hss
  have HTB := Lib.hid hT
  simp only at HSS h0 h1
  clear hm hss hT
  have bt := below_alloc w (.cells #[.int .i64 i, .slice b m capb] 24)
  have T0 := two_new w (.int .i64 i) (.slice b m capb) 24
  have hs0 : (w.alloc (.cells #[.int .i64 i, .slice b m capb] 24)).heap.size = w.heap.size + 1 := by simp
  have hxx : ((rowText ⟨i, l⟩).toList != (rowText ⟨i, l⟩).toList) = false := by simp
  go_enter Tryd.func3, Tryd.ntmps3
  obtain ⟨⟨T0a, T0b⟩, T0c, T0d⟩ := id T0
  go_wp2_with fail
  refine (szRow ⟨i, l⟩ (.slice b m capb) 1048576 _ (by omega) (by omega) HSS.out (hR.below bt)).mono ?_
  rintro e w1 ⟨rr, rfl, hrr, hb⟩
  clear T0a T0b T0c T0d
  have z1 := hb.size
  simp only [World.size_alloc] at z1
  replace T0 := T0.below hb
  replace bt := below_then bt hb (by omega)
  clear hb
  by_cases hnr : rr < 0
  · go_wp2
    go_ret
    exact ⟨rfl, bt⟩
  have hmm : m ≤ 1048576 := by simp only [HL.out] at hrr; omega
  clear hrr
  obtain ⟨⟨T0a, T0b⟩, T0c, T0d⟩ := id T0
  go_wp2_with fail
  refine (toRow ⟨i, l⟩ (.slice b m capb) w1 (by rw [HL.out]; omega) (hR.below bt)).mono ?_
  rintro e w2 ⟨t1, rfl, o1, hb⟩
  clear T0a T0b T0c T0d
  have z2 := hb.size
  replace T0 := T0.below hb
  replace bt := below_then bt hb (by omega)
  clear hb
  go_wp2_with fail
  refine (sRowText ⟨i, l⟩ t1 w2 h0 h1 (by rw [HL.out]; omega) HSS.out (R.of_own (r := ⟨i, l⟩) o1 rfl)).mono ?_
  rintro e w3 ⟨rfl, hb⟩
  have z3 := hb.size
  replace o1 := o1.below hb (by omega)
  replace T0 := T0.below hb
  replace bt := below_then bt hb (by omega)
  clear hb
  clear o1
  obtain ⟨⟨T0a, T0b⟩, T0c, T0d⟩ := id T0
  go_wp2_with fail
  refine (toRow ⟨i, l⟩ (.slice b m capb) w3 (by rw [HL.out]; omega) (hR.below bt)).mono ?_
  rintro e w4 ⟨x1, rfl, oy, hb⟩
  clear T0a T0b T0c T0d
  have z4 := hb.size
  replace T0 := T0.below hb
  replace bt := below_then bt hb (by omega)
  clear hb
  simp only [HL.out] at oy
  obtain ⟨gx1, cx1, hx1⟩ : ∃ g cp, x1 = .slice (some ⟨g, 0, none⟩) m cp := by obtain ⟨g, cp, e, _⟩ := oy; exact ⟨g, cp, e⟩
  subst hx1
  have ba := below_alloc w4 (.cells #[.int .i64 i, .slice (some ⟨gx1, 0, none⟩) m cx1] 29)
  have T1 := two_new w4 (.int .i64 i) (.slice (some ⟨gx1, 0, none⟩) m cx1) 29
  replace oy := oy.below ba (by omega)
  replace T0 := T0.below ba
  replace bt := below_then bt ba (by omega)
  have hs1 : (w4.alloc (.cells #[.int .i64 i, .slice (some ⟨gx1, 0, none⟩) m cx1] 29)).heap.size = w4.heap.size + 1 := by simp
  clear ba
  obtain ⟨⟨T1a, T1b⟩, T1c, T1d⟩ := id T1
  go_wp2_with fail
  refine (hi ⟨i, l⟩ (.slice (some ⟨gx1, 0, none⟩) m cx1) _ h0 h1 (by simp only [HL.out]; omega) HSS.out (R.of_own (r := ⟨i, l⟩) oy HL.out) (HTB.out.below bt)).mono ?_
  rintro e w5 ⟨rfl, hb⟩
  clear T1a T1b T1c T1d
  have z5 := hb.size
  replace oy := oy.below hb (by omega)
  replace T0 := T0.below hb
  replace T1 := T1.below hb
  replace bt := below_then bt hb (by omega)
  clear hb
  have HC : Hid (∀ W, Below w5.heap.size w5 W → W.cell? ⟨w4.heap.size, 0, none⟩ = some (.int .i64 i) ∧ W.cell? ⟨w4.heap.size, 1, none⟩ = some (.slice (some ⟨gx1, 0, none⟩) m cx1) ∧ W.cell? ⟨w.heap.size, 0, none⟩ = some (.int .i64 i) ∧ W.cell? ⟨w.heap.size, 1, none⟩ = some (.slice b m capb)) := fun W h => ⟨(T1.below h).1.1, (T1.below h).1.2, (T0.below h).1.1, (T0.below h).1.2⟩
  have hB' := (Below.refl w5.heap.size w5).drew
  go_wp2_with fail
  go_region_held3 (fun W => W.cell? ⟨w4.heap.size, 0, none⟩ = some (.int .i64 i) ∧ W.cell? ⟨w4.heap.size, 1, none⟩ = some (.slice (some ⟨gx1, 0, none⟩) m cx1) ∧ W.cell? ⟨w.heap.size, 0, none⟩ = some (.int .i64 i) ∧ W.cell? ⟨w.heap.size, 1, none⟩ = some (.slice b m capb)) (exact HC.out _ hB') (first | (go_at_call 7; (with_reducible refine (toRow ⟨i, l⟩ (.slice b m capb) _ (by rw [HL.out]; omega) (hR.below (below_then bt hB' (by omega)))).mono ?_); rintro e u1 ⟨t4, rfl, o4, hb⟩; replace hB' := below_then hB' hb hB'.size) | (go_at_call 9; (with_reducible refine (eqRow ⟨i, l⟩ (.slice (some ⟨gx1, 0, none⟩) m cx1) t4 _ (R.of_own (r := ⟨i, l⟩) (oy.below hB' (by omega)) HL.out) (R.of_own (r := ⟨i, l⟩) o4 rfl)).mono ?_); rintro e u2 ⟨rfl, hb⟩; replace hB' := below_then hB' hb hB'.size))
  replace bt := below_then bt hB' (by omega)
  go_wp2
  go_ret
  exact ⟨rfl, bt⟩

theorem parseVs_len (l : List UInt8) : (parseVs l).1.length ≤ l.length + 1 := by
  have := cuts_len 32 l
  unfold parseVs parsesV
  split
  · simpa using this
  · simp

set_option maxHeartbeats 2000000 in
theorem lawParseVals (hi : CParseVals) (s : ByteArray) (w : World) (hs : s.size ≤ maxLen) (hT : Tab w) (hY : Syn w) :
    Calls Tryd.prog 4 #[.string s] w fun e w' => e = .returned (.bool true) ∧ Below w.heap.size w w' := by
  unfold maxLen at hs
  by_cases hbig : 1048576 < s.size
  · go_enter Tryd.func4, Tryd.ntmps4
    go_wp2
    go_ret
    exact ⟨rfl, Below.refl _ _⟩
  · obtain ⟨⟨l⟩⟩ := s
    have hsz : (⟨⟨l⟩⟩ : ByteArray).size = l.length := by simp [ByteArray.size]
    have hl : l.length ≤ 1048576 := by omega
    have hpl := parseVs_len l
    have HTB := Lib.hid hT
    have HSY := Lib.hid hY
    have hqq : ((parseVs l).2 != (parseVs l).2) = false := by simp
    clear hT hY hsz
    go_enter Tryd.func4, Tryd.ntmps4
    have bt := Below.refl w.heap.size w
    go_wp2_with fail
    refine (sParseVals l w (by omega)).mono ?_
    rintro e w1 ⟨v0, rfl, ov, hb⟩
    have z1 := hb.size
    replace bt := below_then bt hb (by omega)
    clear hb
    go_wp2_with fail
    refine (hi l w1 (by omega) (HTB.out.below bt) (HSY.out.below bt)).mono ?_
    rintro e w2 ⟨g0, rfl, og, hb⟩
    have z2 := hb.size
    replace ov := ov.below hb (by omega)
    replace bt := below_then bt hb (by omega)
    clear hb
    go_wp2_with fail
    refine (eqValS g0 v0 (parseVs l).1.length (parseVs l).1 w2 rfl og.at ov.at).mono ?_
    rintro e w3 ⟨rfl, hb⟩
    have z3 := hb.size
    replace ov := ov.below hb (by omega)
    replace og := og.below hb (by omega)
    replace bt := below_then bt hb (by omega)
    clear hb
    go_wp2_with fail
    refine (markValM g0 (parseVs l).1.length _ _ (parseVs l).1 1 w3 (by omega) (by omega) (by omega) rfl og).mono ?_
    rintro e w4 ⟨rfl, hnew, hg⟩
    have z4 := hg.size
    replace ov := ov.apart og (by omega) hg
    replace bt := bt.trans (below_grown_own og hg (by omega) (by omega))
    clear hg og
    have og := hnew
    clear hnew
    go_wp2_with fail
    refine (heldValS g0 (parseVs l).1.length 1 w4 (by omega) (by omega) (by omega) og.rd).mono ?_
    rintro e w5 ⟨rfl, hb⟩
    have z5 := hb.size
    replace ov := ov.below hb (by omega)
    replace og := og.below hb (by omega)
    replace bt := below_then bt hb (by omega)
    clear hb
    go_wp2_with fail
    refine (hi l w5 (by omega) (HTB.out.below bt) (HSY.out.below bt)).mono ?_
    rintro e w6 ⟨h0, rfl, oh, hb⟩
    have z6 := hb.size
    replace ov := ov.below hb (by omega)
    replace og := og.below hb (by omega)
    replace bt := below_then bt hb (by omega)
    clear hb
    go_wp2_with fail
    refine (eqValS h0 v0 (parseVs l).1.length (parseVs l).1 w6 rfl oh.at ov.at).mono ?_
    rintro e w7 ⟨rfl, hb⟩
    have z7 := hb.size
    replace ov := ov.below hb (by omega)
    replace og := og.below hb (by omega)
    replace oh := oh.below hb (by omega)
    replace bt := below_then bt hb (by omega)
    clear hb
    go_wp2_with fail
    refine (heldValS g0 (parseVs l).1.length 1 w7 (by omega) (by omega) (by omega) og.rd).mono ?_
    rintro e w8 ⟨rfl, hb⟩
    have z8 := hb.size
    replace ov := ov.below hb (by omega)
    replace og := og.below hb (by omega)
    replace oh := oh.below hb (by omega)
    replace bt := below_then bt hb (by omega)
    clear hb
    go_wp2
    go_ret
    exact ⟨rfl, bt⟩

end Go.Proofs.YtdclbpbjdaefhaaDoor
