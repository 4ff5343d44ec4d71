/- The exact laws of chapter 4 over single Rows, walked; the program's own contracts come as hypotheses. -/
import Derived.Test.YtdclbpbjdaefhaaLaw4
namespace Go.Proofs.Ytdclbpbjdaefhaa
open Go.RowKit

theorem R.of_own {e lo hi w v n} {r : R} (h : Own e 3 lo hi w v n (vals r.l)) (hn : r.l.length = n) : r.rd w v := by
  subst hn
  exact h.rd

set_option maxHeartbeats 2000000 in
theorem lawRowOk (hi : CRowOk) (a : Option Addr) (len cap : Nat) (zs : List Int) (r : R) (u : Value) (w : World) (hl : len ≤ maxLen) (ha : Arg .i64 w a len zs) (hss : ∀ v ∈ r.l, v.s.size ≤ maxLen) (hR : r.rd w u) :
    Calls Try.prog 5 #[.slice a len cap, r.agg u] w fun e w' => e = .returned (.bool true) ∧ Below w.heap.size w w' := by
  have HZ := Lib.hid ha.1
  have hqq : (rowB zs r != rowB zs r) = false := by simp
  unfold maxLen at hl
  obtain ⟨b, capb, rfl, _, _⟩ := id hR
  obtain ⟨i, l⟩ := r
  generalize hm : l.length = m at *
  have HL := Lib.hid hm
  have HSS := Lib.hid hss
  simp only at hqq HSS
  clear hm hss
  have bt := below_alloc w (.cells #[.int .i64 i, .slice b m capb] 34)
  have T0 := two_new w (.int .i64 i) (.slice b m capb) 34
  have hs0 : (w.alloc (.cells #[.int .i64 i, .slice b m capb] 34)).heap.size = w.heap.size + 1 := by simp
  by_cases hbig : 1048576 < len
  · go_enter Try.func5, Try.ntmps5
    go_wp2
    go_ret
    exact ⟨rfl, bt⟩
  · go_enter Try.func5, Try.ntmps5
    obtain ⟨⟨T0a, T0b⟩, T0c, T0d⟩ := id T0
    go_wp2_with fail
    refine (szRow ⟨i, l⟩ (.slice b m capb) 1048576 _ (by omega) (by omega) HSS.out (hR.below bt)).mono ?_
    rintro e w1 ⟨rr, rfl, hrr, hb⟩
    clear T0a T0b T0c T0d
    have z1 := hb.size
    simp only [World.size_alloc] at z1
    replace T0 := T0.below hb
    replace bt := below_then bt hb (by omega)
    clear hb
    by_cases hnr : rr < 0
    · go_wp2
      go_ret
      exact ⟨rfl, bt⟩
    have hmm : m ≤ 1048576 := by simp only [HL.out] at hrr; omega
    clear hrr
    have HC : Hid (∀ W, Below w1.heap.size w1 W → W.cell? ⟨w.heap.size, 0, none⟩ = some (.int .i64 i) ∧ W.cell? ⟨w.heap.size, 1, none⟩ = some (.slice b m capb)) := fun W h => (T0.below h).1
    have hB' := (Below.refl w1.heap.size w1).drew
    go_wp2_with fail
    go_region_held3 (fun W => W.cell? ⟨w.heap.size, 0, none⟩ = some (.int .i64 i) ∧ W.cell? ⟨w.heap.size, 1, none⟩ = some (.slice b m capb)) (exact HC.out _ hB') (first | (go_at_call 10; (with_reducible refine (toIntS a len cap zs _ (by omega) (ha.below (below_then bt hB' (by omega)))).mono ?_); rintro e v1 ⟨t1, rfl, o1, hb⟩; replace hB' := below_then hB' hb hB'.size) | (go_at_call 20; (with_reducible refine (toRow ⟨i, l⟩ (.slice b m capb) _ (by rw [HL.out]; omega) (hR.below (below_then bt hB' (by omega)))).mono ?_); rintro e v2 ⟨t2, rfl, o2, hb⟩; replace o1 := o1.below hb (Nat.le_refl _); replace hB' := below_then hB' hb hB'.size) | (go_at_call 19; (with_reducible refine (sRowOk t1 t2 zs ⟨i, l⟩ _ HSS.out (by rw [HZ.out]; exact o1.rd) (R.of_own (r := ⟨i, l⟩) o2 rfl)).mono ?_); rintro e v3 ⟨rfl, hb⟩; replace hB' := below_then hB' hb hB'.size))
    clear HC o1 o2
    have zv := hB'.size
    replace T0 := T0.below hB'
    replace bt := below_then bt hB' (by omega)
    clear hB'
    go_wp2_with fail
    refine (toIntS a len cap zs v3 (by omega) (ha.below bt)).mono ?_
    rintro e w2 ⟨x0, rfl, ox, hb⟩
    have z2 := hb.size
    replace T0 := T0.below hb
    replace bt := below_then bt hb (by omega)
    clear hb
    obtain ⟨⟨T0a, T0b⟩, T0c, T0d⟩ := id T0
    go_wp2_with fail
    refine (toRow ⟨i, l⟩ (.slice b m capb) w2 (by rw [HL.out]; omega) (hR.below bt)).mono ?_
    rintro e w3 ⟨x1, rfl, oy, hb⟩
    clear T0a T0b T0c T0d
    have z3 := hb.size
    replace ox := ox.below hb (by omega)
    replace T0 := T0.below hb
    replace bt := below_then bt hb (by omega)
    clear hb
    simp only [HL.out] at oy
    obtain ⟨gx1, cx1, hx1⟩ : ∃ g cp, x1 = .slice (some ⟨g, 0, none⟩) m cp := by obtain ⟨g, cp, e, _⟩ := oy; exact ⟨g, cp, e⟩
    subst hx1
    have ba := below_alloc w3 (.cells #[.int .i64 i, .slice (some ⟨gx1, 0, none⟩) m cx1] 38)
    have T1 := two_new w3 (.int .i64 i) (.slice (some ⟨gx1, 0, none⟩) m cx1) 38
    replace ox := ox.below ba (by omega)
    replace oy := oy.below ba (by omega)
    replace T0 := T0.below ba
    replace bt := below_then bt ba (by omega)
    have hs1 : (w3.alloc (.cells #[.int .i64 i, .slice (some ⟨gx1, 0, none⟩) m cx1] 38)).heap.size = w3.heap.size + 1 := by simp
    obtain ⟨⟨T1a, T1b⟩, T1c, T1d⟩ := id T1
    go_wp2_with fail
    refine (hi x0 (.slice (some ⟨gx1, 0, none⟩) m cx1) zs ⟨i, l⟩ _ (by rw [HZ.out]; omega) (by simp only [HL.out]; omega) HSS.out (by rw [HZ.out]; exact ox.rd) (R.of_own (r := ⟨i, l⟩) oy HL.out)).mono ?_
    rintro e w4 ⟨rfl, hb⟩
    clear T1a T1b T1c T1d
    have z4 := hb.size
    replace ox := ox.below hb (by omega)
    replace oy := oy.below hb (by omega)
    replace T0 := T0.below hb
    replace T1 := T1.below hb
    replace bt := below_then bt hb (by omega)
    clear hb
    go_wp2_with fail
    refine (toIntS a len cap zs w4 (by omega) (ha.below bt)).mono ?_
    rintro e w5 ⟨t3, rfl, o3, hb⟩
    have z5 := hb.size
    replace ox := ox.below hb (by omega)
    replace oy := oy.below hb (by omega)
    replace T0 := T0.below hb
    replace T1 := T1.below hb
    replace bt := below_then bt hb (by omega)
    clear hb
    go_wp2_with fail
    refine (eqIntS x0 t3 len zs w5 HZ.out ox.at o3.at).mono ?_
    rintro e w6 ⟨rfl, hb⟩
    have z6 := hb.size
    replace ox := ox.below hb (by omega)
    replace oy := oy.below hb (by omega)
    replace o3 := o3.below hb (by omega)
    replace T0 := T0.below hb
    replace T1 := T1.below hb
    replace bt := below_then bt hb (by omega)
    clear hb
    clear o3
    have HC : Hid (∀ W, Below w6.heap.size w6 W → W.cell? ⟨w3.heap.size, 0, none⟩ = some (.int .i64 i) ∧ W.cell? ⟨w3.heap.size, 1, none⟩ = some (.slice (some ⟨gx1, 0, none⟩) m cx1) ∧ W.cell? ⟨w.heap.size, 0, none⟩ = some (.int .i64 i) ∧ W.cell? ⟨w.heap.size, 1, none⟩ = some (.slice b m capb)) := fun W h => ⟨(T1.below h).1.1, (T1.below h).1.2, (T0.below h).1.1, (T0.below h).1.2⟩
    have hB' := (Below.refl w6.heap.size w6).drew
    go_wp2_with fail
    go_region_held3 (fun W => W.cell? ⟨w3.heap.size, 0, none⟩ = some (.int .i64 i) ∧ W.cell? ⟨w3.heap.size, 1, none⟩ = some (.slice (some ⟨gx1, 0, none⟩) m cx1) ∧ W.cell? ⟨w.heap.size, 0, none⟩ = some (.int .i64 i) ∧ W.cell? ⟨w.heap.size, 1, none⟩ = some (.slice b m capb)) (exact HC.out _ hB') (first | (go_at_call 20; (with_reducible refine (toRow ⟨i, l⟩ (.slice b m capb) _ (by rw [HL.out]; omega) (hR.below (below_then bt hB' (by omega)))).mono ?_); rintro e u1 ⟨t4, rfl, o4, hb⟩; replace hB' := below_then hB' hb hB'.size) | (go_at_call 22; (with_reducible refine (eqRow ⟨i, l⟩ (.slice (some ⟨gx1, 0, none⟩) m cx1) t4 _ (R.of_own (r := ⟨i, l⟩) (oy.below hB' (by omega)) HL.out) (R.of_own (r := ⟨i, l⟩) o4 rfl)).mono ?_); rintro e u2 ⟨rfl, hb⟩; replace hB' := below_then hB' hb hB'.size))
    replace bt := below_then bt hB' (by omega)
    go_wp2
    go_ret
    exact ⟨rfl, bt⟩

set_option maxHeartbeats 2000000 in
theorem lawSameRow (hi : CSameRow) (r q : R) (u v : Value) (w : World) (hss1 : ∀ v ∈ r.l, v.s.size ≤ maxLen) (hss2 : ∀ v ∈ q.l, v.s.size ≤ maxLen) (hR1 : r.rd w u) (hR2 : q.rd w v) :
    Calls Try.prog 6 #[r.agg u, q.agg v] w fun e w' => e = .returned (.bool true) ∧ Below w.heap.size w w' := by
  have hqq : (r.eqB q != r.eqB q) = false := by simp
  obtain ⟨b1, k1, rfl, _, _⟩ := id hR1
  obtain ⟨b2, k2, rfl, _, _⟩ := id hR2
  obtain ⟨i1, l1⟩ := r
  obtain ⟨i2, l2⟩ := q
  generalize hm : l1.length = m1 at *
  generalize hm' : l2.length = m2 at *
  have HL1 := Lib.hid hm
  have HL2 := Lib.hid hm'
  have HS1 := Lib.hid hss1
  have HS2 := Lib.hid hss2
  simp only at hqq HS1 HS2
  clear hm hm' hss1 hss2
  have bt := below_alloc2 w (.cells #[.int .i64 i1, .slice b1 m1 k1] 34) (.cells #[.int .i64 i2, .slice b2 m2 k2] 34)
  have T0 := (two_new w (.int .i64 i1) (.slice b1 m1 k1) 34).below (below_alloc _ (.cells #[.int .i64 i2, .slice b2 m2 k2] 34))
  have T1 := two_new (w.alloc (.cells #[.int .i64 i1, .slice b1 m1 k1] 34)) (.int .i64 i2) (.slice b2 m2 k2) 34
  rw [World.size_alloc] at T1
  have hs0 : ((w.alloc (.cells #[.int .i64 i1, .slice b1 m1 k1] 34)).alloc (.cells #[.int .i64 i2, .slice b2 m2 k2] 34)).heap.size = w.heap.size + 2 := by simp
  go_enter Try.func6, Try.ntmps6
  obtain ⟨⟨T0a, T0b⟩, T0c, T0d⟩ := id T0
  go_wp2_with fail
  refine (szRow ⟨i1, l1⟩ (.slice b1 m1 k1) 1048576 _ (by omega) (by omega) HS1.out (hR1.below bt)).mono ?_
  rintro e w1 ⟨rr, rfl, hrr, hb⟩
  clear T0a T0b T0c T0d
  have z1 := hb.size
  simp only [World.size_alloc] at z1
  replace T0 := T0.below hb
  replace T1 := T1.below hb
  replace bt := below_then bt hb (by omega)
  clear hb
  by_cases hnr : rr < 0
  · go_wp2
    go_ret
    exact ⟨rfl, bt⟩
  have hm1 : m1 ≤ 1048576 := by simp only [HL1.out] at hrr; omega
  obtain ⟨⟨T1a, T1b⟩, T1c, T1d⟩ := id T1
  go_wp2_with fail
  refine (szRow ⟨i2, l2⟩ (.slice b2 m2 k2) rr w1 (by omega) (by omega) HS2.out (hR2.below bt)).mono ?_
  rintro e w2 ⟨rq, rfl, hrq, hb⟩
  clear T1a T1b T1c T1d
  have z2 := hb.size
  replace T0 := T0.below hb
  replace T1 := T1.below hb
  replace bt := below_then bt hb (by omega)
  clear hb
  by_cases hnq : rq < 0
  · go_wp2
    go_ret
    exact ⟨rfl, bt⟩
  have hm2 : m2 ≤ 1048576 := by simp only [HL2.out] at hrq; omega
  clear hrr hrq
  have HC : Hid (∀ W, Below w2.heap.size w2 W → W.cell? ⟨w.heap.size, 0, none⟩ = some (.int .i64 i1) ∧ W.cell? ⟨w.heap.size, 1, none⟩ = some (.slice b1 m1 k1) ∧ W.cell? ⟨(w.heap.size + 1), 0, none⟩ = some (.int .i64 i2) ∧ W.cell? ⟨(w.heap.size + 1), 1, none⟩ = some (.slice b2 m2 k2)) := fun W h => ⟨(T0.below h).1.1, (T0.below h).1.2, (T1.below h).1.1, (T1.below h).1.2⟩
  have hB' := (Below.refl w2.heap.size w2).drew
  go_wp2_with fail
  go_region_held3 (fun W => W.cell? ⟨w.heap.size, 0, none⟩ = some (.int .i64 i1) ∧ W.cell? ⟨w.heap.size, 1, none⟩ = some (.slice b1 m1 k1) ∧ W.cell? ⟨(w.heap.size + 1), 0, none⟩ = some (.int .i64 i2) ∧ W.cell? ⟨(w.heap.size + 1), 1, none⟩ = some (.slice b2 m2 k2)) (exact HC.out _ hB') (first | (go_at_call 20; (with_reducible refine (toRow ⟨i1, l1⟩ (.slice b1 m1 k1) _ (by rw [HL1.out]; omega) (hR1.below (below_then bt hB' (by omega)))).mono ?_); rintro e v1 ⟨t1, rfl, o1, hb⟩; replace hB' := below_then hB' hb hB'.size) | (go_at_call 20; (with_reducible refine (toRow ⟨i2, l2⟩ (.slice b2 m2 k2) _ (by rw [HL2.out]; omega) (hR2.below (below_then bt hB' (by omega)))).mono ?_); rintro e v2 ⟨t2, rfl, o2, hb⟩; replace o1 := o1.below hb (Nat.le_refl _); replace hB' := below_then hB' hb hB'.size) | (go_at_call 23; (with_reducible refine (sSameRow ⟨i1, l1⟩ ⟨i2, l2⟩ t1 t2 _ (R.of_own (r := ⟨i1, l1⟩) o1 rfl) (R.of_own (r := ⟨i2, l2⟩) o2 rfl)).mono ?_); rintro e v3 ⟨rfl, hb⟩; replace hB' := below_then hB' hb hB'.size))
  clear HC o1 o2
  have zv := hB'.size
  replace T0 := T0.below hB'
  replace T1 := T1.below hB'
  replace bt := below_then bt hB' (by omega)
  clear hB'
  obtain ⟨⟨T0a, T0b⟩, T0c, T0d⟩ := id T0
  go_wp2_with fail
  refine (toRow ⟨i1, l1⟩ (.slice b1 m1 k1) v3 (by rw [HL1.out]; omega) (hR1.below bt)).mono ?_
  rintro e w3 ⟨x1, rfl, ox1, hb⟩
  clear T0a T0b T0c T0d
  have z3 := hb.size
  replace T0 := T0.below hb
  replace T1 := T1.below hb
  replace bt := below_then bt hb (by omega)
  clear hb
  simp only [HL1.out] at ox1
  obtain ⟨gx1, cx1, hx1⟩ : ∃ g cp, x1 = .slice (some ⟨g, 0, none⟩) m1 cp := by obtain ⟨g, cp, e, _⟩ := ox1; exact ⟨g, cp, e⟩
  subst hx1
  have ba := below_alloc w3 (.cells #[.int .i64 i1, .slice (some ⟨gx1, 0, none⟩) m1 cx1] 38)
  have X1 := two_new w3 (.int .i64 i1) (.slice (some ⟨gx1, 0, none⟩) m1 cx1) 38
  replace ox1 := ox1.below ba (by omega)
  replace T0 := T0.below ba
  replace T1 := T1.below ba
  replace bt := below_then bt ba (by omega)
  have hs1 : (w3.alloc (.cells #[.int .i64 i1, .slice (some ⟨gx1, 0, none⟩) m1 cx1] 38)).heap.size = w3.heap.size + 1 := by simp
  clear ba
  obtain ⟨⟨T1a, T1b⟩, T1c, T1d⟩ := id T1
  go_wp2_with fail
  refine (toRow ⟨i2, l2⟩ (.slice b2 m2 k2) _ (by rw [HL2.out]; omega) (hR2.below bt)).mono ?_
  rintro e w4 ⟨x2, rfl, ox2, hb⟩
  clear T1a T1b T1c T1d
  have z4 := hb.size
  replace ox1 := ox1.below hb (by omega)
  replace T0 := T0.below hb
  replace T1 := T1.below hb
  replace X1 := X1.below hb
  replace bt := below_then bt hb (by omega)
  clear hb
  simp only [HL2.out] at ox2
  obtain ⟨gx2, cx2, hx2⟩ : ∃ g cp, x2 = .slice (some ⟨g, 0, none⟩) m2 cp := by obtain ⟨g, cp, e, _⟩ := ox2; exact ⟨g, cp, e⟩
  subst hx2
  have ba := below_alloc w4 (.cells #[.int .i64 i2, .slice (some ⟨gx2, 0, none⟩) m2 cx2] 38)
  have X2 := two_new w4 (.int .i64 i2) (.slice (some ⟨gx2, 0, none⟩) m2 cx2) 38
  replace ox1 := ox1.below ba (by omega)
  replace ox2 := ox2.below ba (by omega)
  replace T0 := T0.below ba
  replace T1 := T1.below ba
  replace X1 := X1.below ba
  replace bt := below_then bt ba (by omega)
  have hs2 : (w4.alloc (.cells #[.int .i64 i2, .slice (some ⟨gx2, 0, none⟩) m2 cx2] 38)).heap.size = w4.heap.size + 1 := by simp
  clear ba
  obtain ⟨⟨X1a, X1b⟩, X1c, X1d⟩ := id X1
  obtain ⟨⟨X2a, X2b⟩, X2c, X2d⟩ := id X2
  go_wp2_with fail
  refine (hi ⟨i1, l1⟩ ⟨i2, l2⟩ (.slice (some ⟨gx1, 0, none⟩) m1 cx1) (.slice (some ⟨gx2, 0, none⟩) m2 cx2) _ (by simp only [HL1.out]; omega) (by simp only [HL2.out]; omega) (R.of_own (r := ⟨i1, l1⟩) ox1 HL1.out) (R.of_own (r := ⟨i2, l2⟩) ox2 HL2.out)).mono ?_
  rintro e w5 ⟨rfl, hb⟩
  clear X1a X1b X1c X1d
  clear X2a X2b X2c X2d
  have z5 := hb.size
  replace ox1 := ox1.below hb (by omega)
  replace ox2 := ox2.below hb (by omega)
  replace T0 := T0.below hb
  replace T1 := T1.below hb
  replace X1 := X1.below hb
  replace X2 := X2.below hb
  replace bt := below_then bt hb (by omega)
  clear hb
  have HC : Hid (∀ W, Below w5.heap.size w5 W → W.cell? ⟨w3.heap.size, 0, none⟩ = some (.int .i64 i1) ∧ W.cell? ⟨w3.heap.size, 1, none⟩ = some (.slice (some ⟨gx1, 0, none⟩) m1 cx1) ∧ W.cell? ⟨w.heap.size, 0, none⟩ = some (.int .i64 i1) ∧ W.cell? ⟨w.heap.size, 1, none⟩ = some (.slice b1 m1 k1)) := fun W h => ⟨(X1.below h).1.1, (X1.below h).1.2, (T0.below h).1.1, (T0.below h).1.2⟩
  have hB' := (Below.refl w5.heap.size w5).drew
  go_wp2_with fail
  go_region_held3 (fun W => W.cell? ⟨w3.heap.size, 0, none⟩ = some (.int .i64 i1) ∧ W.cell? ⟨w3.heap.size, 1, none⟩ = some (.slice (some ⟨gx1, 0, none⟩) m1 cx1) ∧ W.cell? ⟨w.heap.size, 0, none⟩ = some (.int .i64 i1) ∧ W.cell? ⟨w.heap.size, 1, none⟩ = some (.slice b1 m1 k1)) (exact HC.out _ hB') (first | (go_at_call 20; (with_reducible refine (toRow ⟨i1, l1⟩ (.slice b1 m1 k1) _ (by rw [HL1.out]; omega) (hR1.below (below_then bt hB' (by omega)))).mono ?_); rintro e u11 ⟨t4, rfl, o4, hb⟩; replace hB' := below_then hB' hb hB'.size) | (go_at_call 22; (with_reducible refine (eqRow ⟨i1, l1⟩ (.slice (some ⟨gx1, 0, none⟩) m1 cx1) t4 _ (R.of_own (r := ⟨i1, l1⟩) (ox1.below hB' (by omega)) HL1.out) (R.of_own (r := ⟨i1, l1⟩) o4 rfl)).mono ?_); rintro e u12 ⟨rfl, hb⟩; replace hB' := below_then hB' hb hB'.size))
  clear HC o4
  have zu1 := hB'.size
  replace ox1 := ox1.below hB' (by omega)
  replace ox2 := ox2.below hB' (by omega)
  replace T0 := T0.below hB'
  replace T1 := T1.below hB'
  replace X1 := X1.below hB'
  replace X2 := X2.below hB'
  replace bt := below_then bt hB' (by omega)
  clear hB'
  have HC : Hid (∀ W, Below u12.heap.size u12 W → W.cell? ⟨w4.heap.size, 0, none⟩ = some (.int .i64 i2) ∧ W.cell? ⟨w4.heap.size, 1, none⟩ = some (.slice (some ⟨gx2, 0, none⟩) m2 cx2) ∧ W.cell? ⟨(w.heap.size + 1), 0, none⟩ = some (.int .i64 i2) ∧ W.cell? ⟨(w.heap.size + 1), 1, none⟩ = some (.slice b2 m2 k2)) := fun W h => ⟨(X2.below h).1.1, (X2.below h).1.2, (T1.below h).1.1, (T1.below h).1.2⟩
  have hB' := (Below.refl u12.heap.size u12).drew
  go_wp2_with fail
  go_region_held3 (fun W => W.cell? ⟨w4.heap.size, 0, none⟩ = some (.int .i64 i2) ∧ W.cell? ⟨w4.heap.size, 1, none⟩ = some (.slice (some ⟨gx2, 0, none⟩) m2 cx2) ∧ W.cell? ⟨(w.heap.size + 1), 0, none⟩ = some (.int .i64 i2) ∧ W.cell? ⟨(w.heap.size + 1), 1, none⟩ = some (.slice b2 m2 k2)) (exact HC.out _ hB') (first | (go_at_call 20; (with_reducible refine (toRow ⟨i2, l2⟩ (.slice b2 m2 k2) _ (by rw [HL2.out]; omega) (hR2.below (below_then bt hB' (by omega)))).mono ?_); rintro e u21 ⟨t4, rfl, o4, hb⟩; replace hB' := below_then hB' hb hB'.size) | (go_at_call 22; (with_reducible refine (eqRow ⟨i2, l2⟩ (.slice (some ⟨gx2, 0, none⟩) m2 cx2) t4 _ (R.of_own (r := ⟨i2, l2⟩) (ox2.below hB' (by omega)) HL2.out) (R.of_own (r := ⟨i2, l2⟩) o4 rfl)).mono ?_); rintro e u22 ⟨rfl, hb⟩; replace hB' := below_then hB' hb hB'.size))
  clear HC o4
  have zu2 := hB'.size
  replace ox1 := ox1.below hB' (by omega)
  replace ox2 := ox2.below hB' (by omega)
  replace T0 := T0.below hB'
  replace T1 := T1.below hB'
  replace X1 := X1.below hB'
  replace X2 := X2.below hB'
  replace bt := below_then bt hB' (by omega)
  clear hB'
  go_wp2
  go_ret
  exact ⟨rfl, bt⟩

end Go.Proofs.Ytdclbpbjdaefhaa
