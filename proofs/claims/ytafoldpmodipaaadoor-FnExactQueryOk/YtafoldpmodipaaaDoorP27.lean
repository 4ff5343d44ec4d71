/- Texts of this claim, one behind the other: Law12q. -/
import Derived.Test.YtafoldpmodipaaaDoorP17
import Derived.Test.YtafoldpmodipaaaDoorP26
import Derived.Test.YtafoldpmodipaaaDoorP22

/- The exact law of QueryOk, walked (written by mk_Law12q.py). -/
namespace Go.Proofs.YtafoldpmodipaaaDoor
open Go.RowKit

set_option maxRecDepth 100000 in
set_option maxHeartbeats 4000000 in
theorem lawQueryOk (ca : Option Addr) (cn cc : Nat) (cols : List Int) (qk qc : Int) (t : T) (u : Value) (a : Option Addr) (len cap : Nat) (zs : List Int) (w : World) (hcn : cn ≤ maxLen) (hC : Arg .i64 w ca cn cols) (hlen : len ≤ maxLen) (ha : Arg .i64 w a len zs) (hs : t.Small) (hr : RdT (fun _ => True) w t u) :
    Calls Tryd.prog 3 #[.slice ca cn cc, .agg #[.int .i64 qk, .int .i64 t.kind, .int .i64 t.col, .int .i64 t.op, .int .i64 t.v.ty, .int .i64 t.v.n, .string t.v.s, u, .int .i64 qc, .slice a len cap]] w fun e w' => e = .returned (.bool true) ∧ Below w.heap.size w w' := by
  have HSM := Lib.hid hs
  have HZL := Lib.hid ha.1
  have HCL := Lib.hid hC.1
  have bt := below_alloc w (.cells #[.int .i64 qk, .int .i64 t.kind, .int .i64 t.col, .int .i64 t.op, .int .i64 t.v.ty, .int .i64 t.v.n, .string t.v.s, u, .int .i64 qc, .slice a len cap] 29)
  have C0 := blk_new w [.int .i64 qk, .int .i64 t.kind, .int .i64 t.col, .int .i64 t.op, .int .i64 t.v.ty, .int .i64 t.v.n, .string t.v.s, u, .int .i64 qc, .slice a len cap] 29
  have hz0 : (w.alloc (.cells #[.int .i64 qk, .int .i64 t.kind, .int .i64 t.col, .int .i64 t.op, .int .i64 t.v.ty, .int .i64 t.v.n, .string t.v.s, u, .int .i64 qc, .slice a len cap] 29)).heap.size = w.heap.size + 1 := World.size_alloc _ _
  unfold maxLen at hcn
  by_cases hbig : 1048576 < cn
  · clear C0
    go_enter Tryd.func3, Tryd.ntmps3
    go_wp2
    go_ret
    exact ⟨rfl, bt⟩
  generalize hw0 : w.alloc (.cells #[.int .i64 qk, .int .i64 t.kind, .int .i64 t.col, .int .i64 t.op, .int .i64 t.v.ty, .int .i64 t.v.n, .string t.v.s, u, .int .i64 qc, .slice a len cap] 29) = w0 at bt C0 hz0
  have HW0 := Lib.hid hw0
  clear hw0 hs
  go_enter Tryd.func3, Tryd.ntmps3
  have p0 := (C0 0 _ rfl).1
  have p1 := (C0 1 _ rfl).1
  have p2 := (C0 2 _ rfl).1
  have p3 := (C0 3 _ rfl).1
  have p4 := (C0 4 _ rfl).1
  have p5 := (C0 5 _ rfl).1
  have p6 := (C0 6 _ rfl).1
  have p7 := (C0 7 _ rfl).1
  have p8 := (C0 8 _ rfl).1
  have p9 := (C0 9 _ rfl).1
  go_wp2_with fail
  rw [HW0.out]
  refine (szQuery qk qc t u a len cap 1048576 w0 hlen HSM.out (hr.below bt) (by omega) (by omega)).mono ?_
  rintro e w1 ⟨r1, rfl, hr1, hb⟩
  clear p0 p1 p2 p3 p4 p5 p6 p7 p8 p9
  have z1 := hb.size
  replace C0 := C0.below hb
  replace bt := below_then bt hb (by omega)
  clear hb
  by_cases hn1 : r1 < 0
  · clear hr1
    go_wp2
    go_ret
    exact ⟨rfl, bt⟩
  have hr1' := hr1.resolve_left hn1
  have HBK : Hid (t.bulk ≤ 1048577) := by
    show _ ≤ _
    omega
  have hln : len ≤ 1048576 := by
    have := t.bulk_pos
    omega
  clear hr1 hr1'
  have HKA : Hid (∀ W, Below w1.heap.size w1 W → W.cell? ⟨w.heap.size, 0, none⟩ = some (.int .i64 qk) ∧ W.cell? ⟨w.heap.size, 1, none⟩ = some (.int .i64 t.kind) ∧ W.cell? ⟨w.heap.size, 2, none⟩ = some (.int .i64 t.col) ∧ W.cell? ⟨w.heap.size, 3, none⟩ = some (.int .i64 t.op) ∧ W.cell? ⟨w.heap.size, 4, none⟩ = some (.int .i64 t.v.ty) ∧ W.cell? ⟨w.heap.size, 5, none⟩ = some (.int .i64 t.v.n) ∧ W.cell? ⟨w.heap.size, 6, none⟩ = some (.string t.v.s) ∧ W.cell? ⟨w.heap.size, 7, none⟩ = some (u) ∧ W.cell? ⟨w.heap.size, 8, none⟩ = some (.int .i64 qc) ∧ W.cell? ⟨w.heap.size, 9, none⟩ = some (.slice a len cap)) := fun W h => ⟨(C0.below h 0 _ rfl).1, (C0.below h 1 _ rfl).1, (C0.below h 2 _ rfl).1, (C0.below h 3 _ rfl).1, (C0.below h 4 _ rfl).1, (C0.below h 5 _ rfl).1, (C0.below h 6 _ rfl).1, (C0.below h 7 _ rfl).1, (C0.below h 8 _ rfl).1, (C0.below h 9 _ rfl).1⟩
  have HTI := Lib.hid (fun W (hW : Below w1.heap.size w1 W) => toIntS ca cn cc cols W (by omega) (hC.below (below_then bt hW (by omega))))
  have HTQ := Lib.hid (fun W (hW : Below w1.heap.size w1 W) => toQuery qk qc t zs u a len cap W (by have := HBK.out; omega) (by omega) (hr.below (below_then bt hW (by omega))) (ha.below (below_then bt hW (by omega))))
  have HSQ := Lib.hid (fun W (ua : Option Addr) (uc : Nat) (oa : Option Addr) (oc : Nat) (va : Option Addr) (vc : Nat) (Q2 : Nat → Prop) (k1 : Rd 1 W (.slice va cn vc) cn (ints .i64 cols)) (k2 : Rd 1 W (.slice oa zs.length oc) zs.length (ints .i64 zs)) (k3 : RdT Q2 W t (.slice ua t.l.length uc)) => sQueryOk qk cols zs t qc ua t.l.length uc oa zs.length oc va cn vc W HCL.out rfl (by omega) (by have := HZL.out; omega) k1 k2 HSM.out HBK.out k3)
  have hB' := (Below.refl w1.heap.size w1).drew
  go_wp2_with fail
  go_region_held3 (fun W => W.cell? ⟨w.heap.size, 0, none⟩ = some (.int .i64 qk) ∧ W.cell? ⟨w.heap.size, 1, none⟩ = some (.int .i64 t.kind) ∧ W.cell? ⟨w.heap.size, 2, none⟩ = some (.int .i64 t.col) ∧ W.cell? ⟨w.heap.size, 3, none⟩ = some (.int .i64 t.op) ∧ W.cell? ⟨w.heap.size, 4, none⟩ = some (.int .i64 t.v.ty) ∧ W.cell? ⟨w.heap.size, 5, none⟩ = some (.int .i64 t.v.n) ∧ W.cell? ⟨w.heap.size, 6, none⟩ = some (.string t.v.s) ∧ W.cell? ⟨w.heap.size, 7, none⟩ = some (u) ∧ W.cell? ⟨w.heap.size, 8, none⟩ = some (.int .i64 qc) ∧ W.cell? ⟨w.heap.size, 9, none⟩ = some (.slice a len cap)) (exact HKA.out _ hB') (first | (go_at_call 9; (with_reducible refine (HTI.out _ hB').mono ?_); rintro e wA ⟨vI, rfl, oI, hb⟩; replace hB' := below_then hB' hb hB'.size; obtain ⟨vIg, vIc, hvI⟩ : ∃ g cp, vI = .slice (some ⟨g, 0, none⟩) cn cp := (by obtain ⟨g, cp, e, _⟩ := oI; exact ⟨g, cp, e⟩); subst hvI; try replace oQ := oQ.below hb (Nat.le_refl _)) | (go_at_call 10; (with_reducible refine (HTQ.out _ hB').mono ?_); rintro e wB ⟨uQ, oQv, rfl, oQ, hb⟩; replace hB' := below_then hB' hb hB'.size; try replace oI := oI.below hb (Nat.le_refl _)) | (go_at_call 8; obtain ⟨qa1, qc1, qg1, qd1, qe1, qe2⟩ := oQ.sl; subst qe1 qe2; have rQ := oQ.rd (by first | exact Nat.le_refl _ | omega); (with_reducible refine (HSQ.out _ _ _ _ _ _ _ _ oI.rd oQ.at.rd rQ).mono ?_); rintro e wC ⟨rfl, hb⟩; replace hB' := below_then hB' hb hB'.size))
  all_goals
    have hb := hB'
    clear hB' oI oQ rQ HTI HTQ HKA HSQ
    have zC := hb.size
    replace C0 := C0.below hb
    replace bt := below_then bt hb (by omega)
    clear hb
    go_wp2_with fail
    refine (toIntS ca cn cc cols wC (by omega) (hC.below bt)).mono ?_
    rintro e w2 ⟨x0, rfl, ox, hb⟩
    have z2 := hb.size
    replace C0 := C0.below hb
    replace bt := below_then bt hb (by omega)
    clear hb
    obtain ⟨xg, xc, hx0⟩ : ∃ g cp, x0 = .slice (some ⟨g, 0, none⟩) cn cp := by obtain ⟨g, cp, e, _⟩ := ox; exact ⟨g, cp, e⟩
    subst hx0
    have p0 := (C0 0 _ rfl).1
    have p1 := (C0 1 _ rfl).1
    have p2 := (C0 2 _ rfl).1
    have p3 := (C0 3 _ rfl).1
    have p4 := (C0 4 _ rfl).1
    have p5 := (C0 5 _ rfl).1
    have p6 := (C0 6 _ rfl).1
    have p7 := (C0 7 _ rfl).1
    have p8 := (C0 8 _ rfl).1
    have p9 := (C0 9 _ rfl).1
    go_wp2_with fail
    refine (toQuery qk qc t zs u a len cap w2 (by have := HBK.out; omega) (by omega) (hr.below bt) (ha.below bt)).mono ?_
    rintro e w3 ⟨u3, o3, rfl, oq, hb⟩
    clear p0 p1 p2 p3 p4 p5 p6 p7 p8 p9
    have z3 := hb.size
    replace ox := ox.below hb (by omega)
    replace C0 := C0.below hb
    replace bt := below_then bt hb (by omega)
    clear hb
    obtain ⟨ya, yc, yg, yd, e1, e2⟩ := oq.sl
    generalize hyn : t.l.length = yn at e1
    generalize hyl : zs.length = yl at e2
    subst e1 e2
    have HYN := Lib.hid hyn
    have HYL := Lib.hid hyl
    clear hyn hyl
    have hb := below_alloc w3 (.cells #[.int .i64 qk, .int .i64 t.kind, .int .i64 t.col, .int .i64 t.op, .int .i64 t.v.ty, .int .i64 t.v.n, .string t.v.s, .slice ya yn yc, .int .i64 qc, .slice (some ⟨yg, 0, none⟩) yl yd] 38)
    have CX := blk_new w3 [.int .i64 qk, .int .i64 t.kind, .int .i64 t.col, .int .i64 t.op, .int .i64 t.v.ty, .int .i64 t.v.n, .string t.v.s, .slice ya yn yc, .int .i64 qc, .slice (some ⟨yg, 0, none⟩) yl yd] 38
    have hzx : (w3.alloc (.cells #[.int .i64 qk, .int .i64 t.kind, .int .i64 t.col, .int .i64 t.op, .int .i64 t.v.ty, .int .i64 t.v.n, .string t.v.s, .slice ya yn yc, .int .i64 qc, .slice (some ⟨yg, 0, none⟩) yl yd] 38)).heap.size = w3.heap.size + 1 := World.size_alloc _ _
    replace ox := ox.below hb (by omega)
    replace oq := oq.below hb (by omega)
    replace C0 := C0.below hb
    replace bt := below_then bt hb (by omega)
    clear hb
    have k0 := (CX 0 _ rfl).1
    have k1 := (CX 1 _ rfl).1
    have k2 := (CX 2 _ rfl).1
    have k3 := (CX 3 _ rfl).1
    have k4 := (CX 4 _ rfl).1
    have k5 := (CX 5 _ rfl).1
    have k6 := (CX 6 _ rfl).1
    have k7 := (CX 7 _ rfl).1
    have k8 := (CX 8 _ rfl).1
    have k9 := (CX 9 _ rfl).1
    generalize hwx : w3.alloc (.cells #[.int .i64 qk, .int .i64 t.kind, .int .i64 t.col, .int .i64 t.op, .int .i64 t.v.ty, .int .i64 t.v.n, .string t.v.s, .slice ya yn yc, .int .i64 qc, .slice (some ⟨yg, 0, none⟩) yl yd] 38) = wx at bt CX hzx ox oq C0
    have HWX := Lib.hid hwx
    generalize hqx : w3.heap.size = qx at CX hzx
    have HQX := Lib.hid hqx
    clear hwx
    have HIQ := Lib.hid (iQueryOk qk cols zs t qc ya yn yc (some ⟨yg, 0, none⟩) yl yd (some ⟨xg, 0, none⟩) cn xc wx HCL.out HYL.out (by omega) (by have := HYL.out; have := HZL.out; omega) ox.rd (by have := oq.at.rd; rw [HYL.out] at this; exact this) HSM.out HBK.out (oq.rd (by omega)))
    have hqq : (queryOk cols qk qc t zs != queryOk cols qk qc t zs) = false := by simp
    generalize queryOk cols qk qc t zs = sr at HIQ hqq ⊢
    go_wp2_with fail
    rw [HWX.out]
    refine (HIQ.out).mono ?_
    rintro e w4 ⟨rfl, hb⟩
    have z4 := hb.size
    replace ox := ox.below hb (by omega)
    replace oq := oq.below hb (by omega)
    replace C0 := C0.below hb
    replace CX := CX.below hb
    replace bt := below_then bt hb (by omega)
    clear hb
    clear HIQ k0 k1 k2 k3 k4 k5 k6 k7 k8 k9
    have hqw := HQX.out
    go_wp2_with fail
    refine (toIntS ca cn cc cols w4 (by omega) (hC.below bt)).mono ?_
    rintro e w5 ⟨t5, rfl, o5, hb⟩
    have z5 := hb.size
    replace ox := ox.below hb (by omega)
    replace oq := oq.below hb (by omega)
    replace C0 := C0.below hb
    replace CX := CX.below hb
    replace bt := below_then bt hb (by omega)
    clear hb
    go_wp2_with fail
    refine (eqIntS (.slice (some ⟨xg, 0, none⟩) cn xc) t5 cn cols w5 HCL.out ox.at o5.at).mono ?_
    rintro e w6 ⟨rfl, hb⟩
    have z6 := hb.size
    replace ox := ox.below hb (by omega)
    replace oq := oq.below hb (by omega)
    replace o5 := o5.below hb (by omega)
    replace C0 := C0.below hb
    replace CX := CX.below hb
    replace bt := below_then bt hb (by omega)
    clear hb
    clear o5
    have HT9 := Lib.hid (fun W (hW : Below w6.heap.size w6 W) => toQuery qk qc t zs u a len cap W (by have := HBK.out; omega) (by omega) (hr.below (below_then bt hW (by omega))) (ha.below (below_then bt hW (by omega))))
    have HE9 := Lib.hid (fun W (u2 o2 : Value) (Q2 : Nat → Prop) (hW : Below w6.heap.size w6 W) (h1 : RdT Q2 W t u2) (h2 : At 1 W o2 zs.length (ints .i64 zs)) => eqQuery qk qc t zs (.slice ya yn yc) (.slice (some ⟨yg, 0, none⟩) yl yd) u2 o2 W ((oq.rd (by omega)).below hW) h1 (oq.at.below hW) h2)
    have HKB : Hid (∀ W, Below w6.heap.size w6 W → W.cell? ⟨qx, 0, none⟩ = some (.int .i64 qk) ∧ W.cell? ⟨qx, 1, none⟩ = some (.int .i64 t.kind) ∧ W.cell? ⟨qx, 2, none⟩ = some (.int .i64 t.col) ∧ W.cell? ⟨qx, 3, none⟩ = some (.int .i64 t.op) ∧ W.cell? ⟨qx, 4, none⟩ = some (.int .i64 t.v.ty) ∧ W.cell? ⟨qx, 5, none⟩ = some (.int .i64 t.v.n) ∧ W.cell? ⟨qx, 6, none⟩ = some (.string t.v.s) ∧ W.cell? ⟨qx, 7, none⟩ = some (.slice ya yn yc) ∧ W.cell? ⟨qx, 8, none⟩ = some (.int .i64 qc) ∧ W.cell? ⟨qx, 9, none⟩ = some (.slice (some ⟨yg, 0, none⟩) yl yd) ∧ W.cell? ⟨w.heap.size, 0, none⟩ = some (.int .i64 qk) ∧ W.cell? ⟨w.heap.size, 1, none⟩ = some (.int .i64 t.kind) ∧ W.cell? ⟨w.heap.size, 2, none⟩ = some (.int .i64 t.col) ∧ W.cell? ⟨w.heap.size, 3, none⟩ = some (.int .i64 t.op) ∧ W.cell? ⟨w.heap.size, 4, none⟩ = some (.int .i64 t.v.ty) ∧ W.cell? ⟨w.heap.size, 5, none⟩ = some (.int .i64 t.v.n) ∧ W.cell? ⟨w.heap.size, 6, none⟩ = some (.string t.v.s) ∧ W.cell? ⟨w.heap.size, 7, none⟩ = some (u) ∧ W.cell? ⟨w.heap.size, 8, none⟩ = some (.int .i64 qc) ∧ W.cell? ⟨w.heap.size, 9, none⟩ = some (.slice a len cap)) := fun W h => ⟨(CX.below h 0 _ rfl).1, (CX.below h 1 _ rfl).1, (CX.below h 2 _ rfl).1, (CX.below h 3 _ rfl).1, (CX.below h 4 _ rfl).1, (CX.below h 5 _ rfl).1, (CX.below h 6 _ rfl).1, (CX.below h 7 _ rfl).1, (CX.below h 8 _ rfl).1, (CX.below h 9 _ rfl).1, (C0.below h 0 _ rfl).1, (C0.below h 1 _ rfl).1, (C0.below h 2 _ rfl).1, (C0.below h 3 _ rfl).1, (C0.below h 4 _ rfl).1, (C0.below h 5 _ rfl).1, (C0.below h 6 _ rfl).1, (C0.below h 7 _ rfl).1, (C0.below h 8 _ rfl).1, (C0.below h 9 _ rfl).1⟩
    have hB' := (Below.refl w6.heap.size w6).drew
    go_wp2_with fail
    go_region_held3 (fun W => W.cell? ⟨qx, 0, none⟩ = some (.int .i64 qk) ∧ W.cell? ⟨qx, 1, none⟩ = some (.int .i64 t.kind) ∧ W.cell? ⟨qx, 2, none⟩ = some (.int .i64 t.col) ∧ W.cell? ⟨qx, 3, none⟩ = some (.int .i64 t.op) ∧ W.cell? ⟨qx, 4, none⟩ = some (.int .i64 t.v.ty) ∧ W.cell? ⟨qx, 5, none⟩ = some (.int .i64 t.v.n) ∧ W.cell? ⟨qx, 6, none⟩ = some (.string t.v.s) ∧ W.cell? ⟨qx, 7, none⟩ = some (.slice ya yn yc) ∧ W.cell? ⟨qx, 8, none⟩ = some (.int .i64 qc) ∧ W.cell? ⟨qx, 9, none⟩ = some (.slice (some ⟨yg, 0, none⟩) yl yd) ∧ W.cell? ⟨w.heap.size, 0, none⟩ = some (.int .i64 qk) ∧ W.cell? ⟨w.heap.size, 1, none⟩ = some (.int .i64 t.kind) ∧ W.cell? ⟨w.heap.size, 2, none⟩ = some (.int .i64 t.col) ∧ W.cell? ⟨w.heap.size, 3, none⟩ = some (.int .i64 t.op) ∧ W.cell? ⟨w.heap.size, 4, none⟩ = some (.int .i64 t.v.ty) ∧ W.cell? ⟨w.heap.size, 5, none⟩ = some (.int .i64 t.v.n) ∧ W.cell? ⟨w.heap.size, 6, none⟩ = some (.string t.v.s) ∧ W.cell? ⟨w.heap.size, 7, none⟩ = some (u) ∧ W.cell? ⟨w.heap.size, 8, none⟩ = some (.int .i64 qc) ∧ W.cell? ⟨w.heap.size, 9, none⟩ = some (.slice a len cap)) (exact HKB.out _ hB') (first | (go_at_call 10; (with_reducible refine (HT9.out _ hB').mono ?_); rintro e wD ⟨uA, oA, rfl, hqA, hb⟩; replace hB' := below_then hB' hb hB'.size; have hrA := hqA.rd (Nat.le_refl _); have haA := hqA.at) | (go_at_call 13; (with_reducible refine (HE9.out _ _ _ _ hB' hrA haA).mono ?_); rintro e wE ⟨rfl, hb⟩; replace hB' := below_then hB' hb hB'.size))
    all_goals
      have hb := hB'
      clear hB' HT9 HE9 HKB hqA hrA haA
      have zE := hb.size
      replace ox := ox.below hb (by omega)
      replace oq := oq.below hb (by omega)
      replace C0 := C0.below hb
      replace CX := CX.below hb
      replace bt := below_then bt hb (by omega)
      clear hb
      go_wp2
      go_ret
      exact ⟨rfl, bt⟩

end Go.Proofs.YtafoldpmodipaaaDoor
