/- The exact laws of RowsOk, DropRows, FindRow, walked; the contracts of both sides come as hypotheses (written by mk_Law13.py). -/
import Derived.Test.YtkofafefnlommaaC13
import Derived.Test.YtkofafefnlommaaRowsH
namespace Go.Proofs.Ytkofafefnlommaa
open Go.RowKit

theorem markIntsN (v : Value) (n lo hi : Nat) (xs : List Value) (s : Nat) (w : World) (hs : s ≤ 1073741824) (hn : n ≤ 1073741824) (h : Own 3 1 lo hi w v n xs) :
    Calls Try.prog 32 #[v, .int .i64 (s : Nat)] w fun e w' => e = .returned (.int .i64 (s + n : Nat)) ∧ Own 3 1 lo hi w' v n (ints .i64 (marks .i64 s n)) ∧ Within lo hi w w' := by
  refine (markIntS v n lo hi xs s w (by omega) (by omega) hn h).mono ?_
  rintro e w' ⟨rfl, h1, h2⟩
  refine ⟨by rw [show ((s + n : Nat) : Int) = (s : Int) + (n : Int) by omega], h1, Within.of_grown h2 (fun g hg => ?_)⟩
  obtain ⟨g', cap, rfl, h3, h4, _⟩ := h
  simp only [Value.ownBlock, Option.some.injEq] at hg
  omega
theorem findL_small {l : List R} {n : Int} {N : Nat} (h : ∀ r ∈ l, r.l.length ≤ N) : ((findL l n).getD R.zero).l.length ≤ N := by
  cases hf : findL l n with
  | none => simp [R.zero]
  | some r => exact h r (List.mem_of_find?_eq_some hf)
theorem OwnV.rdr {lo hi w u} {i : Int} {l : List V} {m : Nat} (h : OwnV lo hi w u l) (_hm : l.length = m) : (⟨i, l⟩ : R).rd w u := h.rd
theorem OwnV.rdm {lo hi w u s m} (h : OwnV lo hi w u (vmarks s m)) : Rd 3 w u m (vals (vmarks s m)) := by
  have := h.rd
  rw [vmarks_len] at this
  exact this
theorem Two.within {lo hi : Nat} {W W' : World} {b : Nat} {x y : Value} (h : Two W b x y) (hw : Within lo hi W W') (hb : b < lo ∨ hi ≤ b) : Two W' b x y := by
  have hk := hw.2.2.2.2 b (lt_of_cell h.1.1) hb
  exact ⟨⟨(World.cell?_of_block hk).trans h.1.1, (World.cell?_of_block hk).trans h.1.2⟩, (World.frozen?_of_block hk).trans h.2.1, (World.frozen?_of_block hk).trans h.2.2⟩

set_option maxHeartbeats 1000000 in
theorem markRow1 (r : R) (u : Value) (lo hi s : Nat) (w : World) (h0 : 0 < s) (hs : s ≤ 1073741824) (hn : r.l.length ≤ 1073741824) (hz : hi ≤ w.heap.size) (h : OwnV lo hi w u r.l) :
    Calls Try.prog 30 #[r.agg u, .int .i64 (s : Nat)] w fun e w' => e = .returned (.int .i64 (s + 3 * r.l.length : Nat)) ∧ OwnV lo hi w' u (vmarks s r.l.length) ∧ Within lo hi w w' := by
  have B0 := below_alloc w (.cells #[.int .i64 r.id, u] 27)
  have HM := Lib.hid (markValV u lo hi r.l s _ h0 hs hn (h.below B0 hz))
  obtain ⟨a, cp, hu⟩ := h.atN.sl
  obtain ⟨i, l⟩ := r
  simp only at HM B0 hu hn
  generalize l.length = m at *
  subst hu
  go_enter Try.func30, Try.ntmps30
  go_wp2_with fail
  refine HM.out.mono ?_
  rintro e w1 ⟨rfl, o1, g1⟩
  have G1 := Lib.hid g1
  have O1 := Lib.hid o1
  clear g1 o1 HM
  go_wp2
  go_ret
  refine ⟨rfl, O1.out, (Within.refl lo hi w).trans ⟨B0.os, B0.tape, B0.output, B0.size, fun j hj _ => B0.block j hj⟩ |>.trans (Within.of_grown G1.out (fun g hg => O1.out.in_ hg))⟩

theorem markRow2 (i : Int) (l : List V) (m : Nat) (u : Value) (lo hi s : Nat) (w : World) (hm : l.length = m) (h0 : 0 < s) (hs : s ≤ 1073741824) (hn : m ≤ 1073741824) (hz : hi ≤ w.heap.size) (h : OwnV lo hi w u l) :
    Calls Try.prog 30 #[.agg #[.int .i64 i, u], .int .i64 (s : Nat)] w fun e w' => e = .returned (.int .i64 (s + 3 * m : Nat)) ∧ OwnV lo hi w' u (vmarks s m) ∧ Within lo hi w w' := by
  subst hm
  exact markRow1 ⟨i, l⟩ u lo hi s w h0 hs hn hz h

set_option maxHeartbeats 1000000 in
theorem heldRow1 (i : Int) (u : Value) (n s : Nat) (w : World) (h0 : 0 < s) (hs : s ≤ 1048576) (hn : n ≤ 1048576) (h : Rd 3 w u n (vals (vmarks s n))) :
    Calls Try.prog 31 #[.agg #[.int .i64 i, u], .int .i64 (s : Nat)] w fun e w' => e = .returned (.int .i64 (s + 3 * n : Nat)) ∧ Below w.heap.size w w' := by
  have B0 := below_alloc w (.cells #[.int .i64 i, u] 27)
  have HM := Lib.hid (heldValS u n s _ h0 (by omega) (by omega) (h.below B0))
  obtain ⟨a, cp, rfl, _⟩ := h
  have hmn : s + 3 * n ≤ 1073741824 := by omega
  generalize s + 3 * n = k at hmn HM ⊢
  have hk0 : ¬ ((k : Int) < 0) := by omega
  go_enter Try.func31, Try.ntmps31
  go_wp2_with fail
  refine HM.out.mono ?_
  rintro e w1 ⟨rfl, b1⟩
  have B1 := below_then B0 b1 B0.size
  clear b1 HM
  go_wp2
  go_ret
  exact ⟨rfl, B1⟩

set_option maxRecDepth 100000 in
set_option maxHeartbeats 4000000 in
theorem lawRowsOk (hs : CRowsOk 22) (hi : CRowsOk 25) (a : Option Addr) (len cap : Nat) (zs : List Int) (b : Option Addr) (lenb capb : Nat) (pa : List P) (w : World) (hl : len ≤ maxLen) (ha : Arg .i64 w a len zs) (hsa : ∀ p ∈ pa, ∀ v ∈ p.1.l, v.s.size ≤ maxLen) (hB : RdRs w (.slice b lenb capb) pa) :
    Calls Try.prog 4 #[.slice a len cap, .slice b lenb capb] w fun e w' => e = .returned (.bool true) ∧ Below w.heap.size w w' := by
  have HSA := Lib.hid hsa
  clear hsa
  unfold CRowsOk at hs hi
  have HZ := Lib.hid ha.1
  unfold maxLen at hl
  by_cases hbig : 1048576 < len
  · go_enter Try.func4, Try.ntmps4
    go_wp2
    go_ret
    exact ⟨rfl, Below.refl _ _⟩
  have hqq : (rowsOkL zs (pa.map (·.1)) != rowsOkL zs (pa.map (·.1))) = false := by simp
  have bt := Below.refl w.heap.size w
  go_enter Try.func4, Try.ntmps4
  go_wp2_with fail
  refine (szRowS (.slice b lenb capb) pa 1048576 w (by omega) (by omega) HSA.out (hB.below bt)).mono ?_
  rintro e w1 ⟨r2, rfl, hr2, hb⟩
  have z1 := hb.size
  replace bt := below_then bt hb (by omega)
  clear hb
  by_cases hn2 : r2 < 0
  · clear hr2
    go_wp2
    go_ret
    exact ⟨rfl, bt⟩
  have hka : (pa.length : Int) + bulkR pa ≤ 1048576 := by omega
  clear hr2
  have hma : pa.length ≤ 1048576 := by omega
  have HIa : Hid (∀ p ∈ pa, p.1.l.length ≤ 1048576) := fun p hp => by
    have := bulkR_mem hp
    omega
  have HRN : Hid (rlen pa ≤ 16777216) := by
    show _ ≤ _
    have := rlen_le pa
    omega
  clear hka
  go_wp2_with fail
  refine (toIntS a len cap zs w1 (by omega) (ha.below bt)).mono ?_
  rintro e w2 ⟨t1, rfl, o1, hb⟩
  have z2 := hb.size
  replace bt := below_then bt hb (by omega)
  clear hb
  go_wp2_with fail
  refine (toRowS (.slice b lenb capb) pa w2 hma HIa.out (hB.below bt)).mono ?_
  rintro e w3 ⟨t2, q2, rfl, e0, o0, hb⟩
  have z3 := hb.size
  replace o1 := o1.below hb (by omega)
  replace bt := below_then bt hb (by omega)
  clear hb
  have o2 := o0.my
  have Hq2 := Lib.hid e0
  clear o0 e0
  go_wp2_with fail
  refine (hs t1 t2 zs q2 (pa.map (·.1)) w3 (by rw [HZ.out]; omega) (by rw [HZ.out]; exact o1.rd) (rows_small Hq2.out HSA.out) (by rw [len_fst Hq2.out]; exact hma) (small_fst Hq2.out HIa.out) o2.rd Hq2.out).mono ?_
  rintro e w4 ⟨rfl, hb⟩
  have z4 := hb.size
  replace o1 := o1.below hb (by omega)
  replace o2 := o2.below hb (by omega)
  replace bt := below_then bt hb (by omega)
  clear hb
  clear o1 o2
  go_wp2_with fail
  refine (toIntS a len cap zs w4 (by omega) (ha.below bt)).mono ?_
  rintro e w5 ⟨x0, rfl, ox, hb⟩
  have z5 := hb.size
  replace bt := below_then bt hb (by omega)
  clear hb
  go_wp2_with fail
  refine (toRowS (.slice b lenb capb) pa w5 hma HIa.out (hB.below bt)).mono ?_
  rintro e w6 ⟨x1, qx, rfl, e0, o0, hb⟩
  have z6 := hb.size
  replace ox := ox.below hb (by omega)
  replace bt := below_then bt hb (by omega)
  clear hb
  have oy := o0.my
  have Hqx := Lib.hid e0
  clear o0 e0
  go_wp2_with fail
  refine (hi x0 x1 zs qx (pa.map (·.1)) w6 (by rw [HZ.out]; omega) (by rw [HZ.out]; exact ox.rd) (rows_small Hqx.out HSA.out) (by rw [len_fst Hqx.out]; exact hma) (small_fst Hqx.out HIa.out) oy.rd Hqx.out).mono ?_
  rintro e w7 ⟨rfl, hb⟩
  have z7 := hb.size
  replace ox := ox.below hb (by omega)
  replace oy := oy.below hb (by omega)
  replace bt := below_then bt hb (by omega)
  clear hb
  go_wp2_with fail
  refine (toIntS a len cap zs w7 (by omega) (ha.below bt)).mono ?_
  rintro e w8 ⟨t3, rfl, o3, hb⟩
  have z8 := hb.size
  replace ox := ox.below hb (by omega)
  replace oy := oy.below hb (by omega)
  replace bt := below_then bt hb (by omega)
  clear hb
  go_wp2_with fail
  refine (eqIntS x0 t3 len zs w8 HZ.out ox.at o3.at).mono ?_
  rintro e w9 ⟨rfl, hb⟩
  have z9 := hb.size
  replace ox := ox.below hb (by omega)
  replace oy := oy.below hb (by omega)
  replace o3 := o3.below hb (by omega)
  replace bt := below_then bt hb (by omega)
  clear hb
  clear o3
  go_wp2_with fail
  refine (toRowS (.slice b lenb capb) pa w9 hma HIa.out (hB.below bt)).mono ?_
  rintro e w10 ⟨t4, q4, rfl, e0, o0, hb⟩
  have z10 := hb.size
  replace ox := ox.below hb (by omega)
  replace oy := oy.below hb (by omega)
  replace bt := below_then bt hb (by omega)
  clear hb
  have o4 := o0.my
  have Hq4 := Lib.hid e0
  clear o0 e0
  go_wp2_with fail
  refine (eqRowS x1 t4 qx q4 w10 (Hq4.out.trans Hqx.out.symm) oy.rd o4.rd).mono ?_
  rintro e w11 ⟨rfl, hb⟩
  have z11 := hb.size
  replace ox := ox.below hb (by omega)
  replace oy := oy.below hb (by omega)
  replace o4 := o4.below hb (by omega)
  replace bt := below_then bt hb (by omega)
  clear hb
  clear o4
  go_wp2
  go_ret
  exact ⟨rfl, bt⟩

set_option maxRecDepth 100000 in
set_option maxHeartbeats 4000000 in
theorem lawDropRows (hs : CDropRows 18) (hi : CDropRows 13) (b : Option Addr) (lenb capb : Nat) (pa : List P) (a : Option Addr) (len cap : Nat) (zs : List Int) (w : World) (hl : len ≤ maxLen) (ha : Arg .i64 w a len zs) (hsa : ∀ p ∈ pa, ∀ v ∈ p.1.l, v.s.size ≤ maxLen) (hB : RdRs w (.slice b lenb capb) pa) :
    Calls Try.prog 6 #[.slice b lenb capb, .slice a len cap] w fun e w' => e = .returned (.bool true) ∧ Below w.heap.size w w' := by
  have HSA := Lib.hid hsa
  clear hsa
  unfold CDropRows at hs hi
  have HZ := Lib.hid ha.1
  unfold maxLen at hl
  by_cases hbig : 1048576 < len
  · go_enter Try.func6, Try.ntmps6
    go_wp2
    go_ret
    exact ⟨rfl, Below.refl _ _⟩
  have bt := Below.refl w.heap.size w
  go_enter Try.func6, Try.ntmps6
  go_wp2_with fail
  refine (szRowS (.slice b lenb capb) pa 1048576 w (by omega) (by omega) HSA.out (hB.below bt)).mono ?_
  rintro e w1 ⟨r2, rfl, hr2, hb⟩
  have z1 := hb.size
  replace bt := below_then bt hb (by omega)
  clear hb
  by_cases hn2 : r2 < 0
  · clear hr2
    go_wp2
    go_ret
    exact ⟨rfl, bt⟩
  have hka : (pa.length : Int) + bulkR pa ≤ 1048576 := by omega
  clear hr2
  have hma : pa.length ≤ 1048576 := by omega
  have HIa : Hid (∀ p ∈ pa, p.1.l.length ≤ 1048576) := fun p hp => by
    have := bulkR_mem hp
    omega
  have HRN : Hid (rlen pa ≤ 16777216) := by
    show _ ≤ _
    have := rlen_le pa
    omega
  clear hka
  go_wp2_with fail
  refine (toRowS (.slice b lenb capb) pa w1 hma HIa.out (hB.below bt)).mono ?_
  rintro e w2 ⟨t1, q1, rfl, e0, o0, hb⟩
  have z2 := hb.size
  replace bt := below_then bt hb (by omega)
  clear hb
  have o1 := o0.my
  have Hq1 := Lib.hid e0
  clear o0 e0
  go_wp2_with fail
  refine (toIntS a len cap zs w2 (by omega) (ha.below bt)).mono ?_
  rintro e w3 ⟨t2, rfl, o2, hb⟩
  have z3 := hb.size
  replace o1 := o1.below hb (by omega)
  replace bt := below_then bt hb (by omega)
  clear hb
  go_wp2_with fail
  refine (hs t1 t2 zs q1 (pa.map (·.1)) w3 (by rw [HZ.out]; omega) (by rw [HZ.out]; exact o2.rd) (by rw [len_fst Hq1.out]; exact hma) (small_fst Hq1.out HIa.out) o1.rdN Hq1.out).mono ?_
  rintro e w4 ⟨v0, rfl, qv, ov, ev, hb⟩
  have z4 := hb.size
  replace o1 := o1.below hb (by omega)
  replace o2 := o2.below hb (by omega)
  replace bt := below_then bt hb (by omega)
  clear hb
  have HV := Lib.hid ev
  clear ev
  clear o1 o2
  go_wp2_with fail
  refine (toRowS (.slice b lenb capb) pa w4 hma HIa.out (hB.below bt)).mono ?_
  rintro e w5 ⟨x0, qx, rfl, e0, o0, hb⟩
  have z5 := hb.size
  replace ov := ov.below hb (by omega)
  replace bt := below_then bt hb (by omega)
  clear hb
  have ox := o0.my
  have Hqx := Lib.hid e0
  clear o0 e0
  go_wp2_with fail
  refine (toIntS a len cap zs w5 (by omega) (ha.below bt)).mono ?_
  rintro e w6 ⟨x1, rfl, oy, hb⟩
  have z6 := hb.size
  replace ov := ov.below hb (by omega)
  replace ox := ox.below hb (by omega)
  replace bt := below_then bt hb (by omega)
  clear hb
  go_wp2_with fail
  refine (hi x0 x1 zs qx (pa.map (·.1)) w6 (by rw [HZ.out]; omega) (by rw [HZ.out]; exact oy.rd) (by rw [len_fst Hqx.out]; exact hma) (small_fst Hqx.out HIa.out) ox.rdN Hqx.out).mono ?_
  rintro e w7 ⟨g0, rfl, qg, og, eg, hb⟩
  have z7 := hb.size
  replace ov := ov.below hb (by omega)
  replace ox := ox.below hb (by omega)
  replace oy := oy.below hb (by omega)
  replace bt := below_then bt hb (by omega)
  clear hb
  have HG := Lib.hid eg
  clear eg
  go_wp2_with fail
  refine (eqRowS g0 v0 qg qv w7 (HV.out.trans HG.out.symm) og.rd ov.rd).mono ?_
  rintro e w8 ⟨rfl, hb⟩
  have z8 := hb.size
  replace ov := ov.below hb (by omega)
  replace ox := ox.below hb (by omega)
  replace oy := oy.below hb (by omega)
  replace og := og.below hb (by omega)
  replace bt := below_then bt hb (by omega)
  clear hb
  go_wp2_with fail
  refine (toRowS (.slice b lenb capb) pa w8 hma HIa.out (hB.below bt)).mono ?_
  rintro e w9 ⟨t3, q3, rfl, e0, o0, hb⟩
  have z9 := hb.size
  replace ov := ov.below hb (by omega)
  replace ox := ox.below hb (by omega)
  replace oy := oy.below hb (by omega)
  replace og := og.below hb (by omega)
  replace bt := below_then bt hb (by omega)
  clear hb
  have o3 := o0.my
  have Hq3 := Lib.hid e0
  clear o0 e0
  go_wp2_with fail
  refine (eqRowS x0 t3 qx q3 w9 (Hq3.out.trans Hqx.out.symm) ox.rd o3.rd).mono ?_
  rintro e w10 ⟨rfl, hb⟩
  have z10 := hb.size
  replace ov := ov.below hb (by omega)
  replace ox := ox.below hb (by omega)
  replace oy := oy.below hb (by omega)
  replace og := og.below hb (by omega)
  replace o3 := o3.below hb (by omega)
  replace bt := below_then bt hb (by omega)
  clear hb
  clear o3
  go_wp2_with fail
  refine (toIntS a len cap zs w10 (by omega) (ha.below bt)).mono ?_
  rintro e w11 ⟨t4, rfl, o4, hb⟩
  have z11 := hb.size
  replace ov := ov.below hb (by omega)
  replace ox := ox.below hb (by omega)
  replace oy := oy.below hb (by omega)
  replace og := og.below hb (by omega)
  replace bt := below_then bt hb (by omega)
  clear hb
  go_wp2_with fail
  refine (eqIntS x1 t4 len zs w11 HZ.out oy.at o4.at).mono ?_
  rintro e w12 ⟨rfl, hb⟩
  have z12 := hb.size
  replace ov := ov.below hb (by omega)
  replace ox := ox.below hb (by omega)
  replace oy := oy.below hb (by omega)
  replace og := og.below hb (by omega)
  replace o4 := o4.below hb (by omega)
  replace bt := below_then bt hb (by omega)
  clear hb
  clear o4
  go_wp2_with fail
  refine (markRowsM x0 qx _ _ 1 w12 (by omega) (by omega) (by rw [len_fst Hqx.out]; exact hma) (by rw [rlen_fst Hqx.out]; exact HRN.out) ox).mono ?_
  rintro e w13 ⟨rfl, _, hg⟩
  have z13 := hg.2.2.2.1
  replace ov := ov.within hg (by omega)
  replace oy := oy.within hg (by omega)
  replace og := og.within hg (by omega)
  replace bt := bt.trans (hg.below (by omega) (by omega))
  clear hg
  clear ox
  have HKX : Hid (rlen qx ≤ 16777216) := by
    show _ ≤ _
    rw [rlen_fst Hqx.out]
    exact HRN.out
  have hk1 := HKX.out
  generalize hk : rlen qx = kx at hk1
  clear hk
  have HK1 : Hid (1 + kx ≤ 16777217) := by show _ ≤ _; omega
  generalize 1 + kx = k1 at HK1
  have hk2 := HK1.out
  go_wp2_with fail
  refine (markIntsN x1 len _ _ _ k1 w13 (by omega) (by omega) oy).mono ?_
  rintro e w14 ⟨rfl, _, hg⟩
  have z14 := hg.2.2.2.1
  replace ov := ov.within hg (by omega)
  replace og := og.within hg (by omega)
  replace bt := bt.trans (hg.below (by omega) (by omega))
  clear hg
  clear oy
  go_wp2_with fail
  refine (eqRowS g0 v0 qg qv w14 (HV.out.trans HG.out.symm) og.rd ov.rd).mono ?_
  rintro e w15 ⟨rfl, hb⟩
  have z15 := hb.size
  replace ov := ov.below hb (by omega)
  replace og := og.below hb (by omega)
  replace bt := below_then bt hb (by omega)
  clear hb
  have HGL : Hid (qg.length ≤ 1048576 ∧ rlen qg ≤ 16777216) := by
    refine ⟨?_, ?_⟩
    · have e := congrArg List.length HG.out
      rw [List.length_map] at e
      rw [e]
      exact Nat.le_trans (dropL_len _ _) (by rw [List.length_map]; exact hma)
    · rw [rlen_R, HG.out]
      exact Nat.le_trans (rlenR_filter _ _) (by rw [← rlen_R]; exact HRN.out)
  go_wp2_with fail
  refine (markRowsM g0 qg _ _ 1 w15 (by omega) (by omega) HGL.out.1 HGL.out.2 og).mono ?_
  rintro e w16 ⟨rfl, on, hg⟩
  have z16 := hg.2.2.2.1
  replace ov := ov.within hg (by omega)
  replace bt := bt.trans (hg.below (by omega) (by omega))
  clear hg
  clear og
  have og := on
  clear on
  go_wp2_with fail
  refine (heldRowS g0 qg 1 w16 (by omega) (by omega) HGL.out.1 HGL.out.2 og.rd).mono ?_
  rintro e w17 ⟨rfl, hb⟩
  have z17 := hb.size
  replace ov := ov.below hb (by omega)
  replace og := og.below hb (by omega)
  replace bt := below_then bt hb (by omega)
  clear hb
  have HNE : ((1 + rlen qg : Nat) : Int) ≥ 0 := by omega
  go_wp2_with fail
  refine (toRowS (.slice b lenb capb) pa w17 hma HIa.out (hB.below bt)).mono ?_
  rintro e w18 ⟨t5, q5, rfl, e0, o0, hb⟩
  have z18 := hb.size
  replace ov := ov.below hb (by omega)
  replace og := og.below hb (by omega)
  replace bt := below_then bt hb (by omega)
  clear hb
  have o5 := o0.my
  have Hq5 := Lib.hid e0
  clear o0 e0
  go_wp2_with fail
  refine (toIntS a len cap zs w18 (by omega) (ha.below bt)).mono ?_
  rintro e w19 ⟨t6, rfl, o6, hb⟩
  have z19 := hb.size
  replace ov := ov.below hb (by omega)
  replace og := og.below hb (by omega)
  replace o5 := o5.below hb (by omega)
  replace bt := below_then bt hb (by omega)
  clear hb
  go_wp2_with fail
  refine (hi t5 t6 zs q5 (pa.map (·.1)) w19 (by rw [HZ.out]; omega) (by rw [HZ.out]; exact o6.rd) (by rw [len_fst Hq5.out]; exact hma) (small_fst Hq5.out HIa.out) o5.rdN Hq5.out).mono ?_
  rintro e w20 ⟨h0, rfl, qh, oh, eh, hb⟩
  have z20 := hb.size
  replace ov := ov.below hb (by omega)
  replace og := og.below hb (by omega)
  replace o5 := o5.below hb (by omega)
  replace o6 := o6.below hb (by omega)
  replace bt := below_then bt hb (by omega)
  clear hb
  clear o5 o6
  go_wp2_with fail
  refine (eqRowS h0 v0 qh qv w20 (HV.out.trans eh.symm) oh.rd ov.rd).mono ?_
  rintro e w21 ⟨rfl, hb⟩
  have z21 := hb.size
  replace ov := ov.below hb (by omega)
  replace og := og.below hb (by omega)
  replace oh := oh.below hb (by omega)
  replace bt := below_then bt hb (by omega)
  clear hb
  go_wp2_with fail
  refine (heldRowS g0 qg 1 w21 (by omega) (by omega) HGL.out.1 HGL.out.2 og.rd).mono ?_
  rintro e w22 ⟨rfl, hb⟩
  have z22 := hb.size
  replace ov := ov.below hb (by omega)
  replace og := og.below hb (by omega)
  replace oh := oh.below hb (by omega)
  replace bt := below_then bt hb (by omega)
  clear hb
  go_wp2
  go_ret
  exact ⟨rfl, bt⟩

end Go.Proofs.Ytkofafefnlommaa
