/- Texts of this claim, one behind the other: Law12m. -/
import Derived.Test.YtafoldpmodipaaaP29
import Derived.Test.YtafoldpmodipaaaP27
import Derived.Test.YtafoldpmodipaaaP17
import Derived.Test.YtafoldpmodipaaaP37

/- The exact law of Meant, walked (written by mk_Law12m.py). -/
namespace Go.Proofs.Ytafoldpmodipaaa
open Go.RowKit

theorem rows_small {ps qs : List P} (h : qs.map (·.1) = ps.map (·.1)) (hp : ∀ p ∈ ps, ∀ v ∈ p.1.l, v.s.size ≤ maxLen) : ∀ q ∈ qs, ∀ v ∈ q.1.l, v.s.size ≤ maxLen := by
  intro q hq
  have : q.1 ∈ ps.map (·.1) := by
    rw [← h]
    exact List.mem_map.2 ⟨q, hq, rfl⟩
  obtain ⟨p, hp', e⟩ := List.mem_map.1 this
  rw [← e]
  exact hp p hp'
def rlenR (l : List R) : Nat := (l.map fun r => 1 + 3 * r.l.length).sum
theorem rlen_R (ps : List P) : rlen ps = rlenR (ps.map (·.1)) := by
  induction ps with
  | nil => rfl
  | cons p ps ih =>
    rw [rlen, ih]
    simp [rlenR]
theorem rlenR_filter (f : R → Bool) (l : List R) : rlenR (l.filter f) ≤ rlenR l := by
  induction l with
  | nil => simp
  | cons r l ih =>
    rw [List.filter_cons]
    have e : rlenR (r :: l) = 1 + 3 * r.l.length + rlenR l := by simp [rlenR]
    split
    · have e2 : rlenR (r :: l.filter f) = 1 + 3 * r.l.length + rlenR (l.filter f) := by simp [rlenR]
      omega
    · omega
theorem rlen_meant {t : T} {ps qs : List P} (h : qs.map (·.1) = meantL t (ps.map (·.1))) : rlen qs ≤ rlen ps := by
  rw [rlen_R, rlen_R, h]
  exact rlenR_filter _ _
theorem Blk.within {lo hi : Nat} {W W' : World} {b : Nat} {cs : List Value} (h : Blk W b cs) (hw : Within lo hi W W') (hb : b < lo ∨ hi ≤ b) : Blk W' b cs := fun i x hx =>
  have hk := hw.2.2.2.2 b (lt_of_cell (h i x hx).1) hb
  ⟨(World.cell?_of_block hk).trans (h i x hx).1, (World.frozen?_of_block hk).trans (h i x hx).2⟩

set_option maxRecDepth 100000 in
set_option maxHeartbeats 4000000 in
theorem lawMeant (qk qc : Int) (t : T) (u : Value) (a : Option Addr) (len cap : Nat) (zs : List Int) (b : Option Addr) (lenb capb : Nat) (pa : List P) (w : World) (hlen : len ≤ maxLen) (ha : Arg .i64 w a len zs) (hs : t.Small) (hr : RdT (fun _ => True) w t u)
    (hsa : ∀ p ∈ pa, ∀ v ∈ p.1.l, v.s.size ≤ maxLen) (hB : RdRs w (.slice b lenb capb) pa) :
    Calls Try.prog 4 #[.agg #[.int .i64 qk, .int .i64 t.kind, .int .i64 t.col, .int .i64 t.op, .int .i64 t.v.ty, .int .i64 t.v.n, .string t.v.s, u, .int .i64 qc, .slice a len cap], .slice b lenb capb] w fun e w' => e = .returned (.bool true) ∧ Below w.heap.size w w' := by
  have HSM := Lib.hid hs
  have HSA := Lib.hid hsa
  have HZL := Lib.hid ha.1
  have bt := below_alloc w (.cells #[.int .i64 qk, .int .i64 t.kind, .int .i64 t.col, .int .i64 t.op, .int .i64 t.v.ty, .int .i64 t.v.n, .string t.v.s, u, .int .i64 qc, .slice a len cap] 40)
  have C0 := blk_new w [.int .i64 qk, .int .i64 t.kind, .int .i64 t.col, .int .i64 t.op, .int .i64 t.v.ty, .int .i64 t.v.n, .string t.v.s, u, .int .i64 qc, .slice a len cap] 40
  have hz0 : (w.alloc (.cells #[.int .i64 qk, .int .i64 t.kind, .int .i64 t.col, .int .i64 t.op, .int .i64 t.v.ty, .int .i64 t.v.n, .string t.v.s, u, .int .i64 qc, .slice a len cap] 40)).heap.size = w.heap.size + 1 := World.size_alloc _ _
  generalize hw0 : w.alloc (.cells #[.int .i64 qk, .int .i64 t.kind, .int .i64 t.col, .int .i64 t.op, .int .i64 t.v.ty, .int .i64 t.v.n, .string t.v.s, u, .int .i64 qc, .slice a len cap] 40) = w0 at bt C0 hz0
  have HW0 := Lib.hid hw0
  clear hw0 hs hsa
  go_enter Try.func4, Try.ntmps4
  have p0 := (C0 0 _ rfl).1
  have p1 := (C0 1 _ rfl).1
  have p2 := (C0 2 _ rfl).1
  have p3 := (C0 3 _ rfl).1
  have p4 := (C0 4 _ rfl).1
  have p5 := (C0 5 _ rfl).1
  have p6 := (C0 6 _ rfl).1
  have p7 := (C0 7 _ rfl).1
  have p8 := (C0 8 _ rfl).1
  have p9 := (C0 9 _ rfl).1
  go_wp2_with fail
  rw [HW0.out]
  refine (szQuery qk qc t u a len cap 1048576 w0 hlen HSM.out (hr.below bt) (by omega) (by omega)).mono ?_
  rintro e w1 ⟨r1, rfl, hr1, hb⟩
  clear p0 p1 p2 p3 p4 p5 p6 p7 p8 p9
  have z1 := hb.size
  replace C0 := C0.below hb
  replace bt := below_then bt hb (by omega)
  clear hb
  by_cases hn1 : r1 < 0
  · clear hr1
    go_wp2
    go_ret
    exact ⟨rfl, bt⟩
  have hr1' := hr1.resolve_left hn1
  have HBK : Hid (t.bulk ≤ 1048577) := by
    show _ ≤ _
    omega
  have hln : len ≤ 1048576 := by
    have := t.bulk_pos
    omega
  have hrb : r1 ≤ 1048576 := by
    have := t.bulk_pos
    omega
  clear hr1 hr1'
  go_wp2_with fail
  refine (szRowS (.slice b lenb capb) pa r1 w1 (by omega) (by omega) HSA.out (hB.below bt)).mono ?_
  rintro e w2 ⟨r2, rfl, hr2, hb⟩
  have z2 := hb.size
  replace C0 := C0.below hb
  replace bt := below_then bt hb (by omega)
  clear hb
  by_cases hn2 : r2 < 0
  · clear hr2
    go_wp2
    go_ret
    exact ⟨rfl, bt⟩
  have hka : (pa.length : Int) + bulkR pa ≤ 1048576 := by omega
  clear hr2
  have hma : pa.length ≤ 1048576 := by omega
  have HIa : Hid (∀ p ∈ pa, p.1.l.length ≤ 1048576) := fun p hp => by
    have := bulkR_mem hp
    omega
  have HRN : Hid (rlen pa ≤ 16777216) := by
    show _ ≤ _
    have := rlen_le pa
    omega
  have HML : Hid (T.mls t.l ≤ 6291462) := by
    show _ ≤ _
    have h1 := T.mls_le t.l
    have h2 := T.bulk_def t
    have := HBK.out
    omega
  clear hka
  have p0 := (C0 0 _ rfl).1
  have p1 := (C0 1 _ rfl).1
  have p2 := (C0 2 _ rfl).1
  have p3 := (C0 3 _ rfl).1
  have p4 := (C0 4 _ rfl).1
  have p5 := (C0 5 _ rfl).1
  have p6 := (C0 6 _ rfl).1
  have p7 := (C0 7 _ rfl).1
  have p8 := (C0 8 _ rfl).1
  have p9 := (C0 9 _ rfl).1
  go_wp2_with fail
  refine (toQuery qk qc t zs u a len cap w2 (by have := HBK.out; omega) (by omega) (hr.below bt) (ha.below bt)).mono ?_
  rintro e w3 ⟨u1, o1, rfl, oq, hb⟩
  clear p0 p1 p2 p3 p4 p5 p6 p7 p8 p9
  have z3 := hb.size
  replace C0 := C0.below hb
  replace bt := below_then bt hb (by omega)
  clear hb
  obtain ⟨a1, c1, g1, d1, e1, e2⟩ := oq.sl
  subst e1 e2
  go_wp2_with fail
  refine (toRowS (.slice b lenb capb) pa w3 hma HIa.out (hB.below bt)).mono ?_
  rintro e w4 ⟨t2, q2, rfl, e0, o0, hb⟩
  have z4 := hb.size
  replace oq := oq.below hb (by omega)
  replace C0 := C0.below hb
  replace bt := below_then bt hb (by omega)
  clear hb
  have o2 := o0.my
  have Hq2 := Lib.hid e0
  clear o0 e0
  go_wp2_with fail
  refine (sMeant qk qc t (.slice a1 t.l.length c1) _ _ _ t2 q2 w4 (oq.rd (by omega)) (by rw [len_fst Hq2.out]; exact hma) (small_fst Hq2.out HIa.out) o2.rdN).mono ?_
  rintro e w5 ⟨v0, rfl, qv, ov, ev, hb⟩
  have z5 := hb.size
  replace oq := oq.below hb (by omega)
  replace o2 := o2.below hb (by omega)
  replace C0 := C0.below hb
  replace bt := below_then bt hb (by omega)
  clear hb
  rw [Hq2.out] at ev
  have HV := Lib.hid ev
  clear ev
  clear oq o2
  have p0 := (C0 0 _ rfl).1
  have p1 := (C0 1 _ rfl).1
  have p2 := (C0 2 _ rfl).1
  have p3 := (C0 3 _ rfl).1
  have p4 := (C0 4 _ rfl).1
  have p5 := (C0 5 _ rfl).1
  have p6 := (C0 6 _ rfl).1
  have p7 := (C0 7 _ rfl).1
  have p8 := (C0 8 _ rfl).1
  have p9 := (C0 9 _ rfl).1
  go_wp2_with fail
  refine (toQuery qk qc t zs u a len cap w5 (by have := HBK.out; omega) (by omega) (hr.below bt) (ha.below bt)).mono ?_
  rintro e w6 ⟨u3, o3, rfl, oq, hb⟩
  clear p0 p1 p2 p3 p4 p5 p6 p7 p8 p9
  have z6 := hb.size
  replace ov := ov.below hb (by omega)
  replace C0 := C0.below hb
  replace bt := below_then bt hb (by omega)
  clear hb
  obtain ⟨ya, yc, yg, yd, e1, e2⟩ := oq.sl
  generalize hyn : t.l.length = yn at e1
  generalize hyl : zs.length = yl at e2
  subst e1 e2
  have HYN := Lib.hid hyn
  have HYL := Lib.hid hyl
  clear hyn hyl
  have hb := below_alloc w6 (.cells #[.int .i64 qk, .int .i64 t.kind, .int .i64 t.col, .int .i64 t.op, .int .i64 t.v.ty, .int .i64 t.v.n, .string t.v.s, .slice ya yn yc, .int .i64 qc, .slice (some ⟨yg, 0, none⟩) yl yd] 48)
  have CX := blk_new w6 [.int .i64 qk, .int .i64 t.kind, .int .i64 t.col, .int .i64 t.op, .int .i64 t.v.ty, .int .i64 t.v.n, .string t.v.s, .slice ya yn yc, .int .i64 qc, .slice (some ⟨yg, 0, none⟩) yl yd] 48
  have hzx : (w6.alloc (.cells #[.int .i64 qk, .int .i64 t.kind, .int .i64 t.col, .int .i64 t.op, .int .i64 t.v.ty, .int .i64 t.v.n, .string t.v.s, .slice ya yn yc, .int .i64 qc, .slice (some ⟨yg, 0, none⟩) yl yd] 48)).heap.size = w6.heap.size + 1 := World.size_alloc _ _
  replace ov := ov.below hb (by omega)
  replace oq := oq.below hb (by omega)
  replace C0 := C0.below hb
  replace bt := below_then bt hb (by omega)
  clear hb
  generalize hwx : w6.alloc (.cells #[.int .i64 qk, .int .i64 t.kind, .int .i64 t.col, .int .i64 t.op, .int .i64 t.v.ty, .int .i64 t.v.n, .string t.v.s, .slice ya yn yc, .int .i64 qc, .slice (some ⟨yg, 0, none⟩) yl yd] 48) = wx at bt CX hzx ov oq C0
  have HWX := Lib.hid hwx
  generalize hqx : w6.heap.size = qx at CX hzx
  have HQX := Lib.hid hqx
  clear hwx hqx
  go_wp2_with fail
  rw [HWX.out, HQX.out]
  refine (toRowS (.slice b lenb capb) pa wx hma HIa.out (hB.below bt)).mono ?_
  rintro e w7 ⟨x1, qx1, rfl, e0, o0, hb⟩
  have hqw := HQX.out
  have z7 := hb.size
  replace ov := ov.below hb (by omega)
  replace oq := oq.below hb (by omega)
  replace C0 := C0.below hb
  replace CX := CX.below hb
  replace bt := below_then bt hb (by omega)
  clear hb
  have ox := o0.my
  have Hqx1 := Lib.hid e0
  clear o0 e0
  have p0 := (CX 0 _ rfl).1
  have p1 := (CX 1 _ rfl).1
  have p2 := (CX 2 _ rfl).1
  have p3 := (CX 3 _ rfl).1
  have p4 := (CX 4 _ rfl).1
  have p5 := (CX 5 _ rfl).1
  have p6 := (CX 6 _ rfl).1
  have p7 := (CX 7 _ rfl).1
  have p8 := (CX 8 _ rfl).1
  have p9 := (CX 9 _ rfl).1
  go_wp2_with fail
  refine (iMeant qk qc t (.slice ya yn yc) _ _ _ x1 qx1 w7 iHolds HSM.out HBK.out (fun b hb => hb.2.2) (rows_small Hqx1.out HSA.out) (oq.rd (by omega)) (by rw [len_fst Hqx1.out]; exact hma) (small_fst Hqx1.out HIa.out) ox.rdN).mono ?_
  rintro e w8 ⟨g0, rfl, qg, og, eg, hb⟩
  clear p0 p1 p2 p3 p4 p5 p6 p7 p8 p9
  have z8 := hb.size
  replace ov := ov.below hb (by omega)
  replace oq := oq.below hb (by omega)
  replace ox := ox.below hb (by omega)
  replace C0 := C0.below hb
  replace CX := CX.below hb
  replace bt := below_then bt hb (by omega)
  clear hb
  rw [Hqx1.out] at eg
  have HG := Lib.hid eg
  clear eg
  go_wp2_with fail
  refine (eqRowS g0 v0 qg qv w8 (HV.out.trans HG.out.symm) og.rd ov.rd).mono ?_
  rintro e w9 ⟨rfl, hb⟩
  have z9 := hb.size
  replace ov := ov.below hb (by omega)
  replace oq := oq.below hb (by omega)
  replace ox := ox.below hb (by omega)
  replace og := og.below hb (by omega)
  replace C0 := C0.below hb
  replace CX := CX.below hb
  replace bt := below_then bt hb (by omega)
  clear hb
  have HT9 := Lib.hid (fun W (hW : Below w9.heap.size w9 W) => toQuery qk qc t zs u a len cap W (by have := HBK.out; omega) (by omega) (hr.below (below_then bt hW (by omega))) (ha.below (below_then bt hW (by omega))))
  have HE9 := Lib.hid (fun W (u2 o2 : Value) (Q2 : Nat → Prop) (hW : Below w9.heap.size w9 W) (h1 : RdT Q2 W t u2) (h2 : At 1 W o2 zs.length (ints .i64 zs)) => eqQuery qk qc t zs (.slice ya yn yc) (.slice (some ⟨yg, 0, none⟩) yl yd) u2 o2 W ((oq.rd (by omega)).below hW) h1 (oq.at.below hW) h2)
  have HKB : Hid (∀ W, Below w9.heap.size w9 W → W.cell? ⟨qx, 0, none⟩ = some (.int .i64 qk) ∧ W.cell? ⟨qx, 1, none⟩ = some (.int .i64 t.kind) ∧ W.cell? ⟨qx, 2, none⟩ = some (.int .i64 t.col) ∧ W.cell? ⟨qx, 3, none⟩ = some (.int .i64 t.op) ∧ W.cell? ⟨qx, 4, none⟩ = some (.int .i64 t.v.ty) ∧ W.cell? ⟨qx, 5, none⟩ = some (.int .i64 t.v.n) ∧ W.cell? ⟨qx, 6, none⟩ = some (.string t.v.s) ∧ W.cell? ⟨qx, 7, none⟩ = some (.slice ya yn yc) ∧ W.cell? ⟨qx, 8, none⟩ = some (.int .i64 qc) ∧ W.cell? ⟨qx, 9, none⟩ = some (.slice (some ⟨yg, 0, none⟩) yl yd) ∧ W.cell? ⟨w.heap.size, 0, none⟩ = some (.int .i64 qk) ∧ W.cell? ⟨w.heap.size, 1, none⟩ = some (.int .i64 t.kind) ∧ W.cell? ⟨w.heap.size, 2, none⟩ = some (.int .i64 t.col) ∧ W.cell? ⟨w.heap.size, 3, none⟩ = some (.int .i64 t.op) ∧ W.cell? ⟨w.heap.size, 4, none⟩ = some (.int .i64 t.v.ty) ∧ W.cell? ⟨w.heap.size, 5, none⟩ = some (.int .i64 t.v.n) ∧ W.cell? ⟨w.heap.size, 6, none⟩ = some (.string t.v.s) ∧ W.cell? ⟨w.heap.size, 7, none⟩ = some (u) ∧ W.cell? ⟨w.heap.size, 8, none⟩ = some (.int .i64 qc) ∧ W.cell? ⟨w.heap.size, 9, none⟩ = some (.slice a len cap)) := fun W h => ⟨(CX.below h 0 _ rfl).1, (CX.below h 1 _ rfl).1, (CX.below h 2 _ rfl).1, (CX.below h 3 _ rfl).1, (CX.below h 4 _ rfl).1, (CX.below h 5 _ rfl).1, (CX.below h 6 _ rfl).1, (CX.below h 7 _ rfl).1, (CX.below h 8 _ rfl).1, (CX.below h 9 _ rfl).1, (C0.below h 0 _ rfl).1, (C0.below h 1 _ rfl).1, (C0.below h 2 _ rfl).1, (C0.below h 3 _ rfl).1, (C0.below h 4 _ rfl).1, (C0.below h 5 _ rfl).1, (C0.below h 6 _ rfl).1, (C0.below h 7 _ rfl).1, (C0.below h 8 _ rfl).1, (C0.below h 9 _ rfl).1⟩
  have hB' := (Below.refl w9.heap.size w9).drew
  go_wp2_with fail
  go_region_held3 (fun W => W.cell? ⟨qx, 0, none⟩ = some (.int .i64 qk) ∧ W.cell? ⟨qx, 1, none⟩ = some (.int .i64 t.kind) ∧ W.cell? ⟨qx, 2, none⟩ = some (.int .i64 t.col) ∧ W.cell? ⟨qx, 3, none⟩ = some (.int .i64 t.op) ∧ W.cell? ⟨qx, 4, none⟩ = some (.int .i64 t.v.ty) ∧ W.cell? ⟨qx, 5, none⟩ = some (.int .i64 t.v.n) ∧ W.cell? ⟨qx, 6, none⟩ = some (.string t.v.s) ∧ W.cell? ⟨qx, 7, none⟩ = some (.slice ya yn yc) ∧ W.cell? ⟨qx, 8, none⟩ = some (.int .i64 qc) ∧ W.cell? ⟨qx, 9, none⟩ = some (.slice (some ⟨yg, 0, none⟩) yl yd) ∧ W.cell? ⟨w.heap.size, 0, none⟩ = some (.int .i64 qk) ∧ W.cell? ⟨w.heap.size, 1, none⟩ = some (.int .i64 t.kind) ∧ W.cell? ⟨w.heap.size, 2, none⟩ = some (.int .i64 t.col) ∧ W.cell? ⟨w.heap.size, 3, none⟩ = some (.int .i64 t.op) ∧ W.cell? ⟨w.heap.size, 4, none⟩ = some (.int .i64 t.v.ty) ∧ W.cell? ⟨w.heap.size, 5, none⟩ = some (.int .i64 t.v.n) ∧ W.cell? ⟨w.heap.size, 6, none⟩ = some (.string t.v.s) ∧ W.cell? ⟨w.heap.size, 7, none⟩ = some (u) ∧ W.cell? ⟨w.heap.size, 8, none⟩ = some (.int .i64 qc) ∧ W.cell? ⟨w.heap.size, 9, none⟩ = some (.slice a len cap)) (exact HKB.out _ hB') (first | (go_at_call 14; (with_reducible refine (HT9.out _ hB').mono ?_); rintro e wA ⟨uA, oA, rfl, hqA, hb⟩; replace hB' := below_then hB' hb hB'.size; have hrA := hqA.rd (Nat.le_refl _); have haA := hqA.at) | (go_at_call 18; (with_reducible refine (HE9.out _ _ _ _ hB' hrA haA).mono ?_); rintro e wB ⟨rfl, hb⟩; replace hB' := below_then hB' hb hB'.size))
  clear HT9 HE9 HKB
  have hb := hB'
  clear hB' hqA hrA haA
  have zB := hb.size
  replace ov := ov.below hb (by omega)
  replace oq := oq.below hb (by omega)
  replace ox := ox.below hb (by omega)
  replace og := og.below hb (by omega)
  replace C0 := C0.below hb
  replace CX := CX.below hb
  replace bt := below_then bt hb (by omega)
  clear hb
  go_wp2_with fail
  refine (toRowS (.slice b lenb capb) pa wB hma HIa.out (hB.below bt)).mono ?_
  rintro e w10 ⟨t5, q5, rfl, e0, o0, hb⟩
  have z10 := hb.size
  replace ov := ov.below hb (by omega)
  replace oq := oq.below hb (by omega)
  replace ox := ox.below hb (by omega)
  replace og := og.below hb (by omega)
  replace C0 := C0.below hb
  replace CX := CX.below hb
  replace bt := below_then bt hb (by omega)
  clear hb
  have o5 := o0.my
  have Hq5 := Lib.hid e0
  clear o0 e0
  go_wp2_with fail
  refine (eqRowS x1 t5 qx1 q5 w10 (Hq5.out.trans Hqx1.out.symm) ox.rd o5.rd).mono ?_
  rintro e w11 ⟨rfl, hb⟩
  have z11 := hb.size
  replace ov := ov.below hb (by omega)
  replace oq := oq.below hb (by omega)
  replace ox := ox.below hb (by omega)
  replace og := og.below hb (by omega)
  replace o5 := o5.below hb (by omega)
  replace C0 := C0.below hb
  replace CX := CX.below hb
  replace bt := below_then bt hb (by omega)
  clear hb
  clear o5
  have p0 := (CX 0 _ rfl).1
  have p1 := (CX 1 _ rfl).1
  have p2 := (CX 2 _ rfl).1
  have p3 := (CX 3 _ rfl).1
  have p4 := (CX 4 _ rfl).1
  have p5 := (CX 5 _ rfl).1
  have p6 := (CX 6 _ rfl).1
  have p7 := (CX 7 _ rfl).1
  have p8 := (CX 8 _ rfl).1
  have p9 := (CX 9 _ rfl).1
  go_wp2_with fail
  refine (markQuery qk qc t zs _ _ 1 w11 (.slice ya yn yc) (.slice (some ⟨yg, 0, none⟩) yl yd) oq (by omega) (by omega) (by have := HML.out; omega) (by have := HYL.out; have := HZL.out; omega)).mono ?_
  rintro e w12 ⟨rfl, hg⟩
  clear p0 p1 p2 p3 p4 p5 p6 p7 p8 p9
  have z12 := hg.2.2.2.1
  replace ov := ov.within hg (by omega)
  replace ox := ox.within hg (by omega)
  replace og := og.within hg (by omega)
  replace C0 := C0.within hg (by omega)
  replace CX := CX.within hg (by omega)
  replace bt := bt.trans (hg.below (by omega) (by omega))
  clear hg
  clear oq
  have hk1 : 1 + T.mls t.l + zs.length ≤ 8388608 := by have := HML.out; have := HZL.out; omega
  generalize hk : 1 + T.mls t.l + zs.length = k1 at hk1
  have hk0 : 0 < k1 := by omega
  clear hk
  go_wp2_with fail
  refine (markRowsM x1 qx1 _ _ k1 w12 hk0 (by omega) (by rw [len_fst Hqx1.out]; exact hma) (by rw [rlen_fst Hqx1.out]; exact HRN.out) ox).mono ?_
  rintro e w13 ⟨rfl, _, hg⟩
  have z13 := hg.2.2.2.1
  replace ov := ov.within hg (by omega)
  replace og := og.within hg (by omega)
  replace C0 := C0.within hg (by omega)
  replace CX := CX.within hg (by omega)
  replace bt := bt.trans (hg.below (by omega) (by omega))
  clear hg
  clear ox
  generalize k1 + rlen qx1 = k2
  go_wp2_with fail
  refine (eqRowS g0 v0 qg qv w13 (HV.out.trans HG.out.symm) og.rd ov.rd).mono ?_
  rintro e w14 ⟨rfl, hb⟩
  have z14 := hb.size
  replace ov := ov.below hb (by omega)
  replace og := og.below hb (by omega)
  replace C0 := C0.below hb
  replace CX := CX.below hb
  replace bt := below_then bt hb (by omega)
  clear hb
  have HGL : Hid (qg.length ≤ 1048576 ∧ rlen qg ≤ 16777216) := by
    refine ⟨?_, ?_⟩
    · have e := congrArg List.length HG.out
      rw [List.length_map] at e
      rw [e]
      exact Nat.le_trans (meantL_len _ _) (by rw [List.length_map]; exact hma)
    · exact Nat.le_trans (rlen_meant HG.out) HRN.out
  go_wp2_with fail
  refine (markRowsM g0 qg _ _ 1 w14 (by omega) (by omega) HGL.out.1 HGL.out.2 og).mono ?_
  rintro e w15 ⟨rfl, on, hg⟩
  have z15 := hg.2.2.2.1
  replace ov := ov.within hg (by omega)
  replace C0 := C0.within hg (by omega)
  replace CX := CX.within hg (by omega)
  replace bt := bt.trans (hg.below (by omega) (by omega))
  clear hg
  clear og
  have og := on
  clear on
  go_wp2_with fail
  refine (heldRowS g0 qg 1 w15 (by omega) (by omega) HGL.out.1 HGL.out.2 og.rd).mono ?_
  rintro e w16 ⟨rfl, hb⟩
  have z16 := hb.size
  replace ov := ov.below hb (by omega)
  replace og := og.below hb (by omega)
  replace C0 := C0.below hb
  replace CX := CX.below hb
  replace bt := below_then bt hb (by omega)
  clear hb
  have HNE : ((1 + rlen qg : Nat) : Int) ≥ 0 := by omega
  have p0 := (C0 0 _ rfl).1
  have p1 := (C0 1 _ rfl).1
  have p2 := (C0 2 _ rfl).1
  have p3 := (C0 3 _ rfl).1
  have p4 := (C0 4 _ rfl).1
  have p5 := (C0 5 _ rfl).1
  have p6 := (C0 6 _ rfl).1
  have p7 := (C0 7 _ rfl).1
  have p8 := (C0 8 _ rfl).1
  have p9 := (C0 9 _ rfl).1
  go_wp2_with fail
  refine (toQuery qk qc t zs u a len cap w16 (by have := HBK.out; omega) (by omega) (hr.below bt) (ha.below bt)).mono ?_
  rintro e w17 ⟨u6, o6, rfl, oq, hb⟩
  clear p0 p1 p2 p3 p4 p5 p6 p7 p8 p9
  have z17 := hb.size
  replace ov := ov.below hb (by omega)
  replace og := og.below hb (by omega)
  replace C0 := C0.below hb
  replace CX := CX.below hb
  replace bt := below_then bt hb (by omega)
  clear hb
  obtain ⟨a6, c6, g6, d6, e1, e2⟩ := oq.sl
  subst e1 e2
  go_wp2_with fail
  refine (toRowS (.slice b lenb capb) pa w17 hma HIa.out (hB.below bt)).mono ?_
  rintro e w18 ⟨t7, q7, rfl, e0, o0, hb⟩
  have z18 := hb.size
  replace ov := ov.below hb (by omega)
  replace og := og.below hb (by omega)
  replace oq := oq.below hb (by omega)
  replace C0 := C0.below hb
  replace CX := CX.below hb
  replace bt := below_then bt hb (by omega)
  clear hb
  have o7 := o0.my
  have Hq7 := Lib.hid e0
  clear o0 e0
  go_wp2_with fail
  refine (iMeant qk qc t (.slice a6 t.l.length c6) _ _ _ t7 q7 w18 iHolds HSM.out HBK.out (fun b hb => hb.2.2) (rows_small Hq7.out HSA.out) (oq.rd (by omega)) (by rw [len_fst Hq7.out]; exact hma) (small_fst Hq7.out HIa.out) o7.rdN).mono ?_
  rintro e w19 ⟨h0, rfl, qh, oh, eh, hb⟩
  have z19 := hb.size
  replace ov := ov.below hb (by omega)
  replace og := og.below hb (by omega)
  replace oq := oq.below hb (by omega)
  replace o7 := o7.below hb (by omega)
  replace C0 := C0.below hb
  replace CX := CX.below hb
  replace bt := below_then bt hb (by omega)
  clear hb
  rw [Hq7.out] at eh
  clear oq o7
  go_wp2_with fail
  refine (eqRowS h0 v0 qh qv w19 (HV.out.trans eh.symm) oh.rd ov.rd).mono ?_
  rintro e w20 ⟨rfl, hb⟩
  have z20 := hb.size
  replace ov := ov.below hb (by omega)
  replace og := og.below hb (by omega)
  replace oh := oh.below hb (by omega)
  replace C0 := C0.below hb
  replace CX := CX.below hb
  replace bt := below_then bt hb (by omega)
  clear hb
  go_wp2_with fail
  refine (heldRowS g0 qg 1 w20 (by omega) (by omega) HGL.out.1 HGL.out.2 og.rd).mono ?_
  rintro e w21 ⟨rfl, hb⟩
  have z21 := hb.size
  replace ov := ov.below hb (by omega)
  replace og := og.below hb (by omega)
  replace oh := oh.below hb (by omega)
  replace C0 := C0.below hb
  replace CX := CX.below hb
  replace bt := below_then bt hb (by omega)
  clear hb
  go_wp2
  go_ret
  exact ⟨rfl, bt⟩

end Go.Proofs.Ytafoldpmodipaaa
