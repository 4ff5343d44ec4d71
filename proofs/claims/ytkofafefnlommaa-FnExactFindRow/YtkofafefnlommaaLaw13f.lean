/- The exact law of FindRow, walked; the contracts of both sides come as hypotheses (written by mk_Law13.py). -/
import Derived.Test.YtkofafefnlommaaLaw13
namespace Go.Proofs.Ytkofafefnlommaa
open Go.RowKit

set_option maxRecDepth 100000 in
set_option maxHeartbeats 4000000 in
theorem lawFindRow (hs : CFindRow 15) (hi : CFindRow 14) (b : Option Addr) (lenb capb : Nat) (pa : List P) (n : Int) (w : World) (hsa : ∀ p ∈ pa, ∀ v ∈ p.1.l, v.s.size ≤ maxLen) (hB : RdRs w (.slice b lenb capb) pa) :
    Calls Try.prog 5 #[.slice b lenb capb, .int .i64 n] w fun e w' => e = .returned (.bool true) ∧ Below w.heap.size w w' := by
  have HSA := Lib.hid hsa
  clear hsa
  unfold CFindRow at hs hi
  have bt := Below.refl w.heap.size w
  go_enter Try.func5, Try.ntmps5
  go_wp2_with fail
  refine (szRowS (.slice b lenb capb) pa 1048576 w (by omega) (by omega) HSA.out (hB.below bt)).mono ?_
  rintro e w1 ⟨r2, rfl, hr2, hb⟩
  have z1 := hb.size
  replace bt := below_then bt hb (by omega)
  clear hb
  by_cases hn2 : r2 < 0
  · clear hr2
    go_wp2
    go_ret
    exact ⟨rfl, bt⟩
  have hka : (pa.length : Int) + bulkR pa ≤ 1048576 := by omega
  clear hr2
  have hma : pa.length ≤ 1048576 := by omega
  have HIa : Hid (∀ p ∈ pa, p.1.l.length ≤ 1048576) := fun p hp => by
    have := bulkR_mem hp
    omega
  have HRN : Hid (rlen pa ≤ 16777216) := by
    show _ ≤ _
    have := rlen_le pa
    omega
  clear hka
  have HS : Hid (∀ (v : Value) (ps : List P) (w : World), ps.length ≤ 1048576 → (∀ p ∈ ps, p.1.l.length ≤ 1048576) → RdRsN w v ps → ps.map (·.1) = pa.map (·.1) → Calls Try.prog 15 #[v, .int .i64 n] w fun e w' => ∃ u, e = .returned (.tuple #[(((findL (pa.map (·.1)) n)).getD R.zero).agg u, .bool ((findL (pa.map (·.1)) n)).isSome]) ∧ OwnV w.heap.size w'.heap.size w' u (((findL (pa.map (·.1)) n)).getD R.zero).l ∧ Below w.heap.size w w') := fun v ps w h1 h2 h3 h4 => hs v n ps _ w h1 h2 h3 h4
  have HI : Hid (∀ (v : Value) (ps : List P) (w : World), ps.length ≤ 1048576 → (∀ p ∈ ps, p.1.l.length ≤ 1048576) → RdRsN w v ps → ps.map (·.1) = pa.map (·.1) → Calls Try.prog 14 #[v, .int .i64 n] w fun e w' => ∃ u, e = .returned (.tuple #[(((findL (pa.map (·.1)) n)).getD R.zero).agg u, .bool ((findL (pa.map (·.1)) n)).isSome]) ∧ OwnV w.heap.size w'.heap.size w' u (((findL (pa.map (·.1)) n)).getD R.zero).l ∧ Below w.heap.size w w') := fun v ps w h1 h2 h3 h4 => hi v n ps _ w h1 h2 h3 h4
  have HFL : Hid ((((findL (pa.map (·.1)) n)).getD R.zero).l.length ≤ 1048576) := findL_small (fun r hr => by obtain ⟨p, hp, rfl⟩ := List.mem_map.1 hr; exact HIa.out p hp)
  clear hs hi
  generalize ((findL (pa.map (·.1)) n)).getD R.zero = r at HS HI HFL
  generalize ((findL (pa.map (·.1)) n)).isSome = ok at HS HI
  obtain ⟨i, l⟩ := r
  simp only at HFL HS HI
  have hfl := HFL.out
  have hqq : (ok != ok) = false := by simp
  generalize hm : l.length = m at hfl
  have HM := Lib.hid hm
  clear hm
  go_wp2_with fail
  refine (toRowS (.slice b lenb capb) pa w1 hma HIa.out (hB.below bt)).mono ?_
  rintro e w2 ⟨t1, q1, rfl, e0, o0, hb⟩
  have z2 := hb.size
  replace bt := below_then bt hb (by omega)
  clear hb
  have o1 := o0.my
  have Hq1 := Lib.hid e0
  clear o0 e0
  go_wp2_with fail
  refine (HS.out t1 q1 w2 (by rw [len_fst Hq1.out]; exact hma) (small_fst Hq1.out HIa.out) o1.rdN Hq1.out).mono ?_
  rintro e w3 ⟨v0, rfl, ov, hb⟩
  have z3 := hb.size
  replace o1 := o1.below hb (by omega)
  replace bt := below_then bt hb (by omega)
  clear hb
  clear o1
  obtain ⟨v0a, v0c, v0e⟩ := ov.atN.sl
  rw [HM.out] at v0e
  subst v0e
  have hb := below_alloc w3 (.cells #[.int .i64 i, .slice v0a m v0c] 27)
  have T0 := two_new w3 (.int .i64 i) (.slice v0a m v0c) 27
  have hsT0 : (w3.alloc (.cells #[.int .i64 i, .slice v0a m v0c] 27)).heap.size = w3.heap.size + 1 := World.size_alloc _ _
  replace ov := ov.below hb (by omega)
  replace bt := below_then bt hb (by omega)
  clear hb
  generalize hw : w3.alloc (.cells #[.int .i64 i, .slice v0a m v0c] 27) = w4 at bt T0 hsT0 ov
  have Hw4 := Lib.hid hw
  clear hw
  go_wp2_with fail
  rw [Hw4.out]
  refine (toRowS (.slice b lenb capb) pa w4 hma HIa.out (hB.below bt)).mono ?_
  rintro e w5 ⟨x0, qx, rfl, e0, o0, hb⟩
  have z5 := hb.size
  replace ov := ov.below hb (by omega)
  replace T0 := T0.below hb
  replace bt := below_then bt hb (by omega)
  clear hb
  have ox := o0.my
  have Hqx := Lib.hid e0
  clear o0 e0
  go_wp2_with fail
  refine (HI.out x0 qx w5 (by rw [len_fst Hqx.out]; exact hma) (small_fst Hqx.out HIa.out) ox.rdN Hqx.out).mono ?_
  rintro e w6 ⟨g0, rfl, og, hb⟩
  have z6 := hb.size
  replace ov := ov.below hb (by omega)
  replace ox := ox.below hb (by omega)
  replace T0 := T0.below hb
  replace bt := below_then bt hb (by omega)
  clear hb
  obtain ⟨g0a, g0c, g0e⟩ := og.atN.sl
  rw [HM.out] at g0e
  subst g0e
  have hb := below_alloc w6 (.cells #[.int .i64 i, .slice g0a m g0c] 27)
  have T1 := two_new w6 (.int .i64 i) (.slice g0a m g0c) 27
  have hsT1 : (w6.alloc (.cells #[.int .i64 i, .slice g0a m g0c] 27)).heap.size = w6.heap.size + 1 := World.size_alloc _ _
  replace ov := ov.below hb (by omega)
  replace ox := ox.below hb (by omega)
  replace og := og.below hb (by omega)
  replace T0 := T0.below hb
  replace bt := below_then bt hb (by omega)
  clear hb
  obtain ⟨⟨T0a, T0b⟩, T0c, T0d⟩ := id T0
  obtain ⟨⟨T1a, T1b⟩, T1c, T1d⟩ := id T1
  generalize hw : w6.alloc (.cells #[.int .i64 i, .slice g0a m g0c] 27) = w7 at bt T1 hsT1 ov ox og T0
  have Hw7 := Lib.hid hw
  clear hw
  go_wp2_with fail
  rw [Hw7.out]
  refine (eqRow ⟨i, l⟩ (.slice g0a m g0c) (.slice v0a m v0c) w7 (og.rdr HM.out) (ov.rdr HM.out)).mono ?_
  rintro e w8 ⟨rfl, hb⟩
  clear T0a T0b T0c T0d T1a T1b T1c T1d
  have z8 := hb.size
  replace ov := ov.below hb (by omega)
  replace ox := ox.below hb (by omega)
  replace og := og.below hb (by omega)
  replace T0 := T0.below hb
  replace T1 := T1.below hb
  replace bt := below_then bt hb (by omega)
  clear hb
  go_wp2_with fail
  refine (toRowS (.slice b lenb capb) pa w8 hma HIa.out (hB.below bt)).mono ?_
  rintro e w9 ⟨t3, q3, rfl, e0, o0, hb⟩
  have z9 := hb.size
  replace ov := ov.below hb (by omega)
  replace ox := ox.below hb (by omega)
  replace og := og.below hb (by omega)
  replace T0 := T0.below hb
  replace T1 := T1.below hb
  replace bt := below_then bt hb (by omega)
  clear hb
  have o3 := o0.my
  have Hq3 := Lib.hid e0
  clear o0 e0
  go_wp2_with fail
  refine (eqRowS x0 t3 qx q3 w9 (Hq3.out.trans Hqx.out.symm) ox.rd o3.rd).mono ?_
  rintro e w10 ⟨rfl, hb⟩
  have z10 := hb.size
  replace ov := ov.below hb (by omega)
  replace ox := ox.below hb (by omega)
  replace og := og.below hb (by omega)
  replace o3 := o3.below hb (by omega)
  replace T0 := T0.below hb
  replace T1 := T1.below hb
  replace bt := below_then bt hb (by omega)
  clear hb
  clear o3
  go_wp2_with fail
  refine (markRowsM x0 qx _ _ 1 w10 (by omega) (by omega) (by rw [len_fst Hqx.out]; exact hma) (by rw [rlen_fst Hqx.out]; exact HRN.out) ox).mono ?_
  rintro e w11 ⟨rfl, _, hg⟩
  have z11 := hg.2.2.2.1
  replace ov := ov.within hg (by omega)
  replace og := og.within hg (by omega)
  replace T0 := T0.within hg (by omega)
  replace T1 := T1.within hg (by omega)
  replace bt := bt.trans (hg.below (by omega) (by omega))
  clear hg
  clear ox
  generalize 1 + rlen qx = k1
  obtain ⟨⟨T0a, T0b⟩, T0c, T0d⟩ := id T0
  obtain ⟨⟨T1a, T1b⟩, T1c, T1d⟩ := id T1
  go_wp2_with fail
  refine (eqRow ⟨i, l⟩ (.slice g0a m g0c) (.slice v0a m v0c) w11 (og.rdr HM.out) (ov.rdr HM.out)).mono ?_
  rintro e w12 ⟨rfl, hb⟩
  clear T0a T0b T0c T0d T1a T1b T1c T1d
  have z12 := hb.size
  replace ov := ov.below hb (by omega)
  replace og := og.below hb (by omega)
  replace T0 := T0.below hb
  replace T1 := T1.below hb
  replace bt := below_then bt hb (by omega)
  clear hb
  obtain ⟨⟨T1a, T1b⟩, T1c, T1d⟩ := id T1
  go_wp2_with fail
  refine (markRow2 i l m (.slice g0a m g0c) _ _ 1 w12 HM.out (by omega) (by omega) (by omega) (by omega) og).mono ?_
  rintro e w13 ⟨rfl, on, hg⟩
  clear T1a T1b T1c T1d
  have z13 := hg.2.2.2.1
  replace ov := ov.within hg (by omega)
  replace T0 := T0.within hg (by omega)
  replace T1 := T1.within hg (by omega)
  replace bt := bt.trans (hg.below (by omega) (by omega))
  clear hg
  clear og
  have og := on
  clear on
  obtain ⟨⟨T1a, T1b⟩, T1c, T1d⟩ := id T1
  go_wp2_with fail
  refine (heldRow1 i (.slice g0a m g0c) m 1 w13 (by omega) (by omega) (by omega) og.rdm).mono ?_
  rintro e w14 ⟨rfl, hb⟩
  clear T1a T1b T1c T1d
  have z14 := hb.size
  replace ov := ov.below hb (by omega)
  replace og := og.below hb (by omega)
  replace T0 := T0.below hb
  replace T1 := T1.below hb
  replace bt := below_then bt hb (by omega)
  clear hb
  have HNE : ((1 + 3 * m : Nat) : Int) ≥ 0 := by omega
  go_wp2_with fail
  refine (toRowS (.slice b lenb capb) pa w14 hma HIa.out (hB.below bt)).mono ?_
  rintro e w15 ⟨t5, q5, rfl, e0, o0, hb⟩
  have z15 := hb.size
  replace ov := ov.below hb (by omega)
  replace og := og.below hb (by omega)
  replace T0 := T0.below hb
  replace T1 := T1.below hb
  replace bt := below_then bt hb (by omega)
  clear hb
  have o5 := o0.my
  have Hq5 := Lib.hid e0
  clear o0 e0
  go_wp2_with fail
  refine (HI.out t5 q5 w15 (by rw [len_fst Hq5.out]; exact hma) (small_fst Hq5.out HIa.out) o5.rdN Hq5.out).mono ?_
  rintro e w16 ⟨h0, rfl, oh, hb⟩
  have z16 := hb.size
  replace ov := ov.below hb (by omega)
  replace og := og.below hb (by omega)
  replace o5 := o5.below hb (by omega)
  replace T0 := T0.below hb
  replace T1 := T1.below hb
  replace bt := below_then bt hb (by omega)
  clear hb
  clear o5
  obtain ⟨h0a, h0c, h0e⟩ := oh.atN.sl
  rw [HM.out] at h0e
  subst h0e
  have hb := below_alloc w16 (.cells #[.int .i64 i, .slice h0a m h0c] 27)
  have T2 := two_new w16 (.int .i64 i) (.slice h0a m h0c) 27
  have hsT2 : (w16.alloc (.cells #[.int .i64 i, .slice h0a m h0c] 27)).heap.size = w16.heap.size + 1 := World.size_alloc _ _
  replace ov := ov.below hb (by omega)
  replace og := og.below hb (by omega)
  replace oh := oh.below hb (by omega)
  replace T0 := T0.below hb
  replace T1 := T1.below hb
  replace bt := below_then bt hb (by omega)
  clear hb
  obtain ⟨⟨T0a, T0b⟩, T0c, T0d⟩ := id T0
  obtain ⟨⟨T2a, T2b⟩, T2c, T2d⟩ := id T2
  generalize hw : w16.alloc (.cells #[.int .i64 i, .slice h0a m h0c] 27) = w17 at bt T2 hsT2 ov og oh T0 T1
  have Hw17 := Lib.hid hw
  clear hw
  go_wp2_with fail
  rw [Hw17.out]
  refine (eqRow ⟨i, l⟩ (.slice h0a m h0c) (.slice v0a m v0c) w17 (oh.rdr HM.out) (ov.rdr HM.out)).mono ?_
  rintro e w18 ⟨rfl, hb⟩
  clear T0a T0b T0c T0d T2a T2b T2c T2d
  have z18 := hb.size
  replace ov := ov.below hb (by omega)
  replace og := og.below hb (by omega)
  replace oh := oh.below hb (by omega)
  replace T0 := T0.below hb
  replace T1 := T1.below hb
  replace T2 := T2.below hb
  replace bt := below_then bt hb (by omega)
  clear hb
  obtain ⟨⟨T1a, T1b⟩, T1c, T1d⟩ := id T1
  go_wp2_with fail
  refine (heldRow1 i (.slice g0a m g0c) m 1 w18 (by omega) (by omega) (by omega) og.rdm).mono ?_
  rintro e w19 ⟨rfl, hb⟩
  clear T1a T1b T1c T1d
  have z19 := hb.size
  replace ov := ov.below hb (by omega)
  replace og := og.below hb (by omega)
  replace oh := oh.below hb (by omega)
  replace T0 := T0.below hb
  replace T1 := T1.below hb
  replace T2 := T2.below hb
  replace bt := below_then bt hb (by omega)
  clear hb
  go_wp2
  go_ret
  exact ⟨rfl, bt⟩

end Go.Proofs.Ytkofafefnlommaa
