/- The exact law of PutRow, walked; the contracts of both sides come as hypotheses (written by mk_Law13p.py). -/
import Derived.Test.YtkofafefnlommaaLaw13
import Derived.Test.YtkofafefnlommaaLaw4b
import Derived.Test.YtkofafefnlommaaC13p
import Derived.Test.YtkofafefnlommaaR13w
namespace Go.Proofs.Ytkofafefnlommaa
open Go.RowKit

theorem MyRs.at2 {lo hi w v} {ps : List P} (h : MyRs lo hi w v ps) (hv : v ≠ .slice none 0 0) : At 2 w v ps.length (prs ps) := (h.1.resolve_left (fun e => hv e.1)).at
theorem Own.atN' {e size lo hi w v n xs} (h : Own e size lo hi w v n xs) : AtN size w v n xs := .inr h.at
theorem OwnRs.at2 {lo hi w v} {ps : List P} (h : OwnRs lo hi w v ps) : At 2 w v ps.length (prs ps) := h.1.at
theorem MyRs.vals {lo hi w v} {ps : List P} (h : MyRs lo hi w v ps) : ∀ p ∈ ps, AtN 3 w p.2 p.1.l.length (Go.Proofs.Ytkofafefnlommaa.vals p.1.l) := fun p hp => (h.2.1 p hp).atN
theorem rlenR_append (a b : List R) : rlenR (a ++ b) = rlenR a + rlenR b := by simp [rlenR]
theorem rlenR_put (l : List R) (r : R) : rlenR (putL l r) = rlenR l + (1 + 3 * r.l.length) := by
  unfold putL
  have e : rlenR (r :: l.drop (putK l r.id)) = 1 + 3 * r.l.length + rlenR (l.drop (putK l r.id)) := by simp [rlenR]
  have e2 : rlenR l = rlenR (l.take (putK l r.id)) + rlenR (l.drop (putK l r.id)) := by rw [← rlenR_append, List.take_append_drop]
  rw [rlenR_append, e, e2]
  omega

set_option maxRecDepth 100000 in
set_option maxHeartbeats 2000000 in
theorem lawPutRow (hs : CPutRow 17) (hi : CPutRow 12) (b : Option Addr) (lenb capb : Nat) (pa : List P) (r : R) (u : Value) (w : World) (hsa : ∀ p ∈ pa, ∀ v ∈ p.1.l, v.s.size ≤ maxLen) (hB : RdRs w (.slice b lenb capb) pa) (hsr : ∀ v ∈ r.l, v.s.size ≤ maxLen) (hR : r.rd w u) :
    Calls Try.prog 7 #[.slice b lenb capb, r.agg u] w fun e w' => e = .returned (.bool true) ∧ Below w.heap.size w w' := by
  have HSA := Lib.hid hsa
  have HSR := Lib.hid hsr
  unfold CPutRow at hs hi
  obtain ⟨ua, uc, rfl, _, _⟩ := id hR
  obtain ⟨ri, rl⟩ := r
  generalize hrn : rl.length = rn at *
  have HRN := Lib.hid hrn
  simp only at HSR
  have bt := below_alloc w (.cells #[.int .i64 ri, .slice ua rn uc] 57)
  have T0 := two_new w (.int .i64 ri) (.slice ua rn uc) 57
  have hz0 : (w.alloc (.cells #[.int .i64 ri, .slice ua rn uc] 57)).heap.size = w.heap.size + 1 := World.size_alloc _ _
  generalize hw0 : w.alloc (.cells #[.int .i64 ri, .slice ua rn uc] 57) = w0 at bt T0 hz0
  have HW0 := Lib.hid hw0
  clear hw0 hsa hsr hrn
  go_enter Try.func7, Try.ntmps7
  go_wp2_with fail
  rw [HW0.out]
  refine (szRowS (.slice b lenb capb) pa 1048576 w0 (by omega) (by omega) HSA.out (hB.below bt)).mono ?_
  rintro e w1 ⟨r2, rfl, hr2, hb⟩
  have z1 := hb.size
  replace T0 := T0.below hb
  replace bt := below_then bt hb (by omega)
  clear hb
  by_cases hn2 : r2 < 0
  · clear hr2
    go_wp2
    go_ret
    exact ⟨rfl, bt⟩
  have hr2' := hr2.resolve_left hn2
  have hka : (pa.length : Int) + bulkR pa ≤ 1048576 := by omega
  have hr2b : 0 ≤ r2 ∧ r2 ≤ 1048576 := by omega
  clear hr2 hr2'
  have hma : pa.length ≤ 1048576 := by omega
  have HIa : Hid (∀ p ∈ pa, p.1.l.length ≤ 1048576) := fun p hp => by
    have := bulkR_mem hp
    omega
  have HRL : Hid (rlen pa ≤ 3145728) := by
    show _ ≤ _
    have := rlen_le pa
    omega
  have HRN' : Hid (rlen pa ≤ 16777216) := by
    show _ ≤ _
    have := HRL.out
    omega
  clear hka
  obtain ⟨⟨T0a, T0b⟩, T0c, T0d⟩ := id T0
  go_wp2_with fail
  refine (szRow ⟨ri, rl⟩ (.slice ua rn uc) r2 w1 hr2b.1 hr2b.2 HSR.out (hR.below bt)).mono ?_
  rintro e w2 ⟨r3, rfl, hr3, hb⟩
  clear T0a T0b T0c T0d
  have z2 := hb.size
  replace T0 := T0.below hb
  replace bt := below_then bt hb (by omega)
  clear hb
  by_cases hn3 : r3 < 0
  · clear hr3
    go_wp2
    go_ret
    exact ⟨rfl, bt⟩
  have hrn : rn ≤ 1048576 := by
    have := HRN.out
    have h3 := hr3.resolve_left hn3
    simp only at h3
    omega
  clear hr3
  have HC : Hid (∀ W, Below w2.heap.size w2 W → W.cell? ⟨w.heap.size, 0, none⟩ = some (.int .i64 ri) ∧ W.cell? ⟨w.heap.size, 1, none⟩ = some (.slice ua rn uc)) := fun W h => (T0.below h).1
  have hB' := (Below.refl w2.heap.size w2).drew
  go_wp2_with fail
  go_region_held3 (fun W => W.cell? ⟨w.heap.size, 0, none⟩ = some (.int .i64 ri) ∧ W.cell? ⟨w.heap.size, 1, none⟩ = some (.slice ua rn uc)) (exact HC.out _ hB') (first | (go_at_call 24; (with_reducible refine (toRowS (.slice b lenb capb) pa _ hma HIa.out (hB.below (below_then bt hB' (by omega)))).mono ?_); rintro e va1 ⟨t1, q1, rfl, e1, o1, hb⟩; replace hB' := below_then hB' hb hB'.size) | (go_at_call 35; (with_reducible refine (toRow ⟨ri, rl⟩ (.slice ua rn uc) _ (by rw [HRN.out]; omega) (hR.below (below_then bt hB' (by omega)))).mono ?_); rintro e vb1 ⟨s1, rfl, p1, hb⟩; replace o1 := o1.below hb (Nat.le_refl _); replace hB' := below_then hB' hb hB'.size) | (go_at_call 17; (with_reducible refine (hs t1 s1 ⟨ri, rl⟩ q1 (pa.map (·.1)) _ (by rw [len_fst e1]; exact hma) (small_fst e1 HIa.out) o1.at2 o1.my.vals (by rw [HRN.out]; omega) p1.atN' e1).mono ?_); rintro e vc1 ⟨v0, rfl, qv, ov, ev, hb⟩; replace hB' := below_then hB' hb hB'.size))
  have hb := hB'
  clear hB' o1 p1 e1 HC
  have zc1 := hb.size
  replace T0 := T0.below hb
  replace bt := below_then bt hb (by omega)
  clear hb
  have HV := Lib.hid ev
  clear ev
  go_wp2_with fail
  refine (toRowS (.slice b lenb capb) pa vc1 hma HIa.out (hB.below bt)).mono ?_
  rintro e w3 ⟨x0, qx, rfl, e0, o0, hb⟩
  have z3 := hb.size
  replace ov := ov.below hb (by omega)
  replace T0 := T0.below hb
  replace bt := below_then bt hb (by omega)
  clear hb
  have HX0 : Hid (x0 ≠ .slice none 0 0) := by obtain ⟨_, _, e, _⟩ := o0.1; rw [e]; simp [Hid]
  have ox := o0.my
  have Hqx := Lib.hid e0
  clear o0 e0
  obtain ⟨⟨T0a, T0b⟩, T0c, T0d⟩ := id T0
  go_wp2_with fail
  refine (toRow ⟨ri, rl⟩ (.slice ua rn uc) w3 (by rw [HRN.out]; omega) (hR.below bt)).mono ?_
  rintro e w4 ⟨x1, rfl, oy, hb⟩
  clear T0a T0b T0c T0d
  have z4 := hb.size
  replace ov := ov.below hb (by omega)
  replace ox := ox.below hb (by omega)
  replace T0 := T0.below hb
  replace bt := below_then bt hb (by omega)
  clear hb
  obtain ⟨gy, cy, hy⟩ : ∃ g cp, x1 = .slice (some ⟨g, 0, none⟩) rn cp := by obtain ⟨g, cp, e, _⟩ := oy; simp only [HRN.out] at e; exact ⟨g, cp, e⟩
  subst hy
  have hb := below_alloc w4 (.cells #[.int .i64 ri, .slice (some ⟨gy, 0, none⟩) rn cy] 27)
  have T1 := two_new w4 (.int .i64 ri) (.slice (some ⟨gy, 0, none⟩) rn cy) 27
  have hsT1 : (w4.alloc (.cells #[.int .i64 ri, .slice (some ⟨gy, 0, none⟩) rn cy] 27)).heap.size = w4.heap.size + 1 := World.size_alloc _ _
  replace ov := ov.below hb (by omega)
  replace ox := ox.below hb (by omega)
  replace oy := oy.below hb (by omega)
  replace T0 := T0.below hb
  replace bt := below_then bt hb (by omega)
  clear hb
  obtain ⟨⟨T1a, T1b⟩, T1c, T1d⟩ := id T1
  generalize hw : w4.alloc (.cells #[.int .i64 ri, .slice (some ⟨gy, 0, none⟩) rn cy] 27) = w5 at bt T1 hsT1 ov ox oy T0
  have Hw5 := Lib.hid hw
  clear hw
  generalize hqy : w4.heap.size = qy at T1 hsT1
  have HQY := Lib.hid hqy
  clear hqy
  go_wp2_with fail
  rw [Hw5.out]
  try rw [HQY.out]
  have hqw := HQY.out
  refine (hi x0 (.slice (some ⟨gy, 0, none⟩) rn cy) ⟨ri, rl⟩ qx (pa.map (·.1)) w5 (by rw [len_fst Hqx.out]; exact hma) (small_fst Hqx.out HIa.out) (ox.at2 HX0.out) ox.vals (by rw [HRN.out]; omega) oy.atN' Hqx.out).mono ?_
  rintro e w6 ⟨g0, rfl, qg, og, eg, hb⟩
  clear T1a T1b T1c T1d
  have z6 := hb.size
  replace ov := ov.below hb (by omega)
  replace ox := ox.below hb (by omega)
  replace oy := oy.below hb (by omega)
  replace T0 := T0.below hb
  replace T1 := T1.below hb
  replace bt := below_then bt hb (by omega)
  clear hb
  have HG := Lib.hid eg
  clear eg
  go_wp2_with fail
  refine (eqRowS g0 v0 qg qv w6 (HV.out.trans HG.out.symm) og.rd ov.rd).mono ?_
  rintro e w7 ⟨rfl, hb⟩
  have z7 := hb.size
  replace ov := ov.below hb (by omega)
  replace ox := ox.below hb (by omega)
  replace oy := oy.below hb (by omega)
  replace og := og.below hb (by omega)
  replace T0 := T0.below hb
  replace T1 := T1.below hb
  replace bt := below_then bt hb (by omega)
  clear hb
  go_wp2_with fail
  refine (toRowS (.slice b lenb capb) pa w7 hma HIa.out (hB.below bt)).mono ?_
  rintro e w8 ⟨t3, q3, rfl, e0, o0, hb⟩
  have z8 := hb.size
  replace ov := ov.below hb (by omega)
  replace ox := ox.below hb (by omega)
  replace oy := oy.below hb (by omega)
  replace og := og.below hb (by omega)
  replace T0 := T0.below hb
  replace T1 := T1.below hb
  replace bt := below_then bt hb (by omega)
  clear hb
  have o3 := o0.my
  have Hq3 := Lib.hid e0
  clear o0 e0
  go_wp2_with fail
  refine (eqRowS x0 t3 qx q3 w8 (Hq3.out.trans Hqx.out.symm) ox.rd o3.rd).mono ?_
  rintro e w9 ⟨rfl, hb⟩
  have z9 := hb.size
  replace ov := ov.below hb (by omega)
  replace ox := ox.below hb (by omega)
  replace oy := oy.below hb (by omega)
  replace og := og.below hb (by omega)
  replace o3 := o3.below hb (by omega)
  replace T0 := T0.below hb
  replace T1 := T1.below hb
  replace bt := below_then bt hb (by omega)
  clear hb
  clear o3
  have HC : Hid (∀ W, Below w9.heap.size w9 W → W.cell? ⟨qy, 0, none⟩ = some (.int .i64 ri) ∧ W.cell? ⟨qy, 1, none⟩ = some (.slice (some ⟨gy, 0, none⟩) rn cy) ∧ W.cell? ⟨w.heap.size, 0, none⟩ = some (.int .i64 ri) ∧ W.cell? ⟨w.heap.size, 1, none⟩ = some (.slice ua rn uc)) := fun W h => ⟨(T1.below h).1.1, (T1.below h).1.2, (T0.below h).1.1, (T0.below h).1.2⟩
  have hB' := (Below.refl w9.heap.size w9).drew
  go_wp2_with fail
  go_region_held3 (fun W => W.cell? ⟨qy, 0, none⟩ = some (.int .i64 ri) ∧ W.cell? ⟨qy, 1, none⟩ = some (.slice (some ⟨gy, 0, none⟩) rn cy) ∧ W.cell? ⟨w.heap.size, 0, none⟩ = some (.int .i64 ri) ∧ W.cell? ⟨w.heap.size, 1, none⟩ = some (.slice ua rn uc)) (exact HC.out _ hB') (first | (go_at_call 35; (with_reducible refine (toRow ⟨ri, rl⟩ (.slice ua rn uc) _ (by rw [HRN.out]; omega) (hR.below (below_then bt hB' (by omega)))).mono ?_); rintro e u1 ⟨t4, rfl, o4, hb⟩; replace hB' := below_then hB' hb hB'.size) | (go_at_call 28; (with_reducible refine (eqRow ⟨ri, rl⟩ (.slice (some ⟨gy, 0, none⟩) rn cy) t4 _ (R.of_own (r := ⟨ri, rl⟩) (oy.below hB' (by omega)) rfl) (R.of_own (r := ⟨ri, rl⟩) o4 rfl)).mono ?_); rintro e u2 ⟨rfl, hb⟩; replace hB' := below_then hB' hb hB'.size))
  have hb := hB'
  clear hB' o4 HC
  have zu2 := hb.size
  replace ov := ov.below hb (by omega)
  replace ox := ox.below hb (by omega)
  replace oy := oy.below hb (by omega)
  replace og := og.below hb (by omega)
  replace T0 := T0.below hb
  replace T1 := T1.below hb
  replace bt := below_then bt hb (by omega)
  clear hb
  go_wp2_with fail
  refine (markRowsM x0 qx _ _ 1 u2 (by omega) (by omega) (by rw [len_fst Hqx.out]; exact hma) (by rw [rlen_fst Hqx.out]; exact HRN'.out) ox).mono ?_
  rintro e w10 ⟨rfl, _, hg⟩
  have z10 := hg.2.2.2.1
  replace ov := ov.within hg (by omega)
  replace oy := oy.within hg (by omega)
  replace og := og.within hg (by omega)
  replace T0 := T0.within hg (by omega)
  replace T1 := T1.within hg (by omega)
  replace bt := bt.trans (hg.below (by omega) (by omega))
  clear hg
  clear ox
  have HK1 : Hid (0 < 1 + rlen qx ∧ 1 + rlen qx ≤ 3145729) := by
    have h := HRL.out
    rw [← rlen_fst Hqx.out] at h
    constructor <;> omega
  generalize 1 + rlen qx = k1 at HK1
  obtain ⟨hk0, hk2⟩ := HK1.out
  obtain ⟨⟨T1a, T1b⟩, T1c, T1d⟩ := id T1
  go_wp2_with fail
  refine (markRow2 ri rl rn (.slice (some ⟨gy, 0, none⟩) rn cy) _ _ k1 w10 HRN.out hk0 (by omega) (by omega) (by omega) (.inr oy)).mono ?_
  rintro e w11 ⟨rfl, _, hg⟩
  clear T1a T1b T1c T1d
  have z11 := hg.2.2.2.1
  replace ov := ov.within hg (by omega)
  replace og := og.within hg (by omega)
  replace T0 := T0.within hg (by omega)
  replace T1 := T1.within hg (by omega)
  replace bt := bt.trans (hg.below (by omega) (by omega))
  clear hg
  clear oy
  generalize k1 + 3 * rn = k3
  go_wp2_with fail
  refine (eqRowS g0 v0 qg qv w11 (HV.out.trans HG.out.symm) og.rd ov.rd).mono ?_
  rintro e w12 ⟨rfl, hb⟩
  have z12 := hb.size
  replace ov := ov.below hb (by omega)
  replace og := og.below hb (by omega)
  replace T0 := T0.below hb
  replace T1 := T1.below hb
  replace bt := below_then bt hb (by omega)
  clear hb
  have HGL : Hid (qg.length ≤ 1048577 ∧ rlen qg ≤ 16777216) := by
    refine ⟨?_, ?_⟩
    · have e := congrArg List.length HG.out
      rw [List.length_map, putL_len, List.length_map] at e
      omega
    · have h := HRL.out
      rw [rlen_R, HG.out, rlenR_put, ← rlen_R]
      have := HRN.out
      simp only
      omega
  go_wp2_with fail
  refine (markRowsW g0 qg _ _ 1 w12 (by omega) (by omega) HGL.out.1 HGL.out.2 og).mono ?_
  rintro e w13 ⟨rfl, on, hg⟩
  have z13 := hg.2.2.2.1
  replace ov := ov.within hg (by omega)
  replace T0 := T0.within hg (by omega)
  replace T1 := T1.within hg (by omega)
  replace bt := bt.trans (hg.below (by omega) (by omega))
  clear hg
  clear og
  have og := on
  clear on
  go_wp2_with fail
  refine (heldRowSw g0 qg 1 w13 (by omega) (by omega) HGL.out.1 HGL.out.2 og.rd).mono ?_
  rintro e w14 ⟨rfl, hb⟩
  have z14 := hb.size
  replace ov := ov.below hb (by omega)
  replace og := og.below hb (by omega)
  replace T0 := T0.below hb
  replace T1 := T1.below hb
  replace bt := below_then bt hb (by omega)
  clear hb
  have HNE : ((1 + rlen qg : Nat) : Int) ≥ 0 := by omega
  have HC : Hid (∀ W, Below w14.heap.size w14 W → W.cell? ⟨w.heap.size, 0, none⟩ = some (.int .i64 ri) ∧ W.cell? ⟨w.heap.size, 1, none⟩ = some (.slice ua rn uc)) := fun W h => (T0.below h).1
  have hB' := (Below.refl w14.heap.size w14).drew
  go_wp2_with fail
  go_region_held3 (fun W => W.cell? ⟨w.heap.size, 0, none⟩ = some (.int .i64 ri) ∧ W.cell? ⟨w.heap.size, 1, none⟩ = some (.slice ua rn uc)) (exact HC.out _ hB') (first | (go_at_call 24; (with_reducible refine (toRowS (.slice b lenb capb) pa _ hma HIa.out (hB.below (below_then bt hB' (by omega)))).mono ?_); rintro e va5 ⟨t5, q5, rfl, e5, o5, hb⟩; replace hB' := below_then hB' hb hB'.size) | (go_at_call 35; (with_reducible refine (toRow ⟨ri, rl⟩ (.slice ua rn uc) _ (by rw [HRN.out]; omega) (hR.below (below_then bt hB' (by omega)))).mono ?_); rintro e vb5 ⟨s5, rfl, p5, hb⟩; replace o5 := o5.below hb (Nat.le_refl _); replace hB' := below_then hB' hb hB'.size) | (go_at_call 12; (with_reducible refine (hi t5 s5 ⟨ri, rl⟩ q5 (pa.map (·.1)) _ (by rw [len_fst e5]; exact hma) (small_fst e5 HIa.out) o5.at2 o5.my.vals (by rw [HRN.out]; omega) p5.atN' e5).mono ?_); rintro e vc5 ⟨h0, rfl, qh, oh, eh, hb⟩; replace hB' := below_then hB' hb hB'.size))
  have hb := hB'
  clear hB' o5 p5 e5 HC
  have zc5 := hb.size
  replace ov := ov.below hb (by omega)
  replace og := og.below hb (by omega)
  replace T0 := T0.below hb
  replace T1 := T1.below hb
  replace bt := below_then bt hb (by omega)
  clear hb
  go_wp2_with fail
  refine (eqRowS h0 v0 qh qv vc5 (HV.out.trans eh.symm) oh.rd ov.rd).mono ?_
  rintro e w15 ⟨rfl, hb⟩
  have z15 := hb.size
  replace ov := ov.below hb (by omega)
  replace og := og.below hb (by omega)
  replace oh := oh.below hb (by omega)
  replace T0 := T0.below hb
  replace T1 := T1.below hb
  replace bt := below_then bt hb (by omega)
  clear hb
  go_wp2_with fail
  refine (heldRowSw g0 qg 1 w15 (by omega) (by omega) HGL.out.1 HGL.out.2 og.rd).mono ?_
  rintro e w16 ⟨rfl, hb⟩
  have z16 := hb.size
  replace ov := ov.below hb (by omega)
  replace og := og.below hb (by omega)
  replace oh := oh.below hb (by omega)
  replace T0 := T0.below hb
  replace T1 := T1.below hb
  replace bt := below_then bt hb (by omega)
  clear hb
  go_wp2
  go_ret
  exact ⟨rfl, bt⟩

end Go.Proofs.Ytkofafefnlommaa
