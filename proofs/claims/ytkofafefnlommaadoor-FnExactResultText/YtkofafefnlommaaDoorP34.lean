/- Texts of this claim, one behind the other: Law12x. -/
import Derived.Test.YtkofafefnlommaaDoorP31
import Derived.Test.YtkofafefnlommaaDoorP33
import Derived.Test.YtkofafefnlommaaDoorP24
import Derived.Test.YtkofafefnlommaaDoorP25
import Derived.Test.YtkofafefnlommaaDoorP16

/- The exact law of ResultText, walked (written by mk_Law12x.py). -/
namespace Go.Proofs.YtkofafefnlommaaDoor
open Go.RowKit

set_option maxRecDepth 100000 in
set_option maxHeartbeats 4000000 in
theorem lawResultText (qk qc : Int) (t : T) (u : Value) (a : Option Addr) (len cap : Nat) (zs : List Int) (aa : Option Addr) (lena capa : Nat) (pa : List P) (n1 : Int) (hs1 : Bool) (vt1 vn1 : Int) (vs1 : ByteArray) (w : World)
    (hlen : len ≤ maxLen) (ha : Arg .i64 w a len zs) (hs : t.Small) (hr : RdT (fun _ => True) w t u) (hva : vs1.size ≤ maxLen) (hsa : ∀ p ∈ pa, ∀ v ∈ p.1.l, v.s.size ≤ maxLen) (hA : RdRs w (.slice aa lena capa) pa) (hid : ∀ p ∈ pa, -9223372036854775808 ≤ p.1.id ∧ p.1.id ≤ 9223372036854775807) (hn64 : -9223372036854775808 ≤ n1 ∧ n1 ≤ 9223372036854775807) (hT : Tab w) :
    Calls Tryd.prog 4 #[.agg #[.int .i64 qk, .int .i64 t.kind, .int .i64 t.col, .int .i64 t.op, .int .i64 t.v.ty, .int .i64 t.v.n, .string t.v.s, u, .int .i64 qc, .slice a len cap], .agg #[.slice aa lena capa, .int .i64 n1, .bool hs1, .int .i64 vt1, .int .i64 vn1, .string vs1]] w fun e w' => e = .returned (.bool true) ∧ Below w.heap.size w w' := by
  have HSM := Lib.hid hs
  have HSA := Lib.hid hsa
  have HVa := Lib.hid hva
  have HID := Lib.hid hid
  have HTB := Lib.hid hT
  have HZL := Lib.hid ha.1
  have bt := below_alloc2 w (.cells #[.int .i64 qk, .int .i64 t.kind, .int .i64 t.col, .int .i64 t.op, .int .i64 t.v.ty, .int .i64 t.v.n, .string t.v.s, u, .int .i64 qc, .slice a len cap] 38) (.cells #[.slice aa lena capa, .int .i64 n1, .bool hs1, .int .i64 vt1, .int .i64 vn1, .string vs1] 41)
  have C0 := (blk_new w [.int .i64 qk, .int .i64 t.kind, .int .i64 t.col, .int .i64 t.op, .int .i64 t.v.ty, .int .i64 t.v.n, .string t.v.s, u, .int .i64 qc, .slice a len cap] 38).below (below_alloc _ (.cells #[.slice aa lena capa, .int .i64 n1, .bool hs1, .int .i64 vt1, .int .i64 vn1, .string vs1] 41))
  have CA := blk_new (w.alloc (.cells #[.int .i64 qk, .int .i64 t.kind, .int .i64 t.col, .int .i64 t.op, .int .i64 t.v.ty, .int .i64 t.v.n, .string t.v.s, u, .int .i64 qc, .slice a len cap] 38)) [.slice aa lena capa, .int .i64 n1, .bool hs1, .int .i64 vt1, .int .i64 vn1, .string vs1] 41
  simp only [World.size_alloc] at CA
  have hz0 : ((w.alloc (.cells #[.int .i64 qk, .int .i64 t.kind, .int .i64 t.col, .int .i64 t.op, .int .i64 t.v.ty, .int .i64 t.v.n, .string t.v.s, u, .int .i64 qc, .slice a len cap] 38)).alloc (.cells #[.slice aa lena capa, .int .i64 n1, .bool hs1, .int .i64 vt1, .int .i64 vn1, .string vs1] 41)).heap.size = w.heap.size + 1 + 1 := by simp only [World.size_alloc]
  generalize hw0 : (w.alloc (.cells #[.int .i64 qk, .int .i64 t.kind, .int .i64 t.col, .int .i64 t.op, .int .i64 t.v.ty, .int .i64 t.v.n, .string t.v.s, u, .int .i64 qc, .slice a len cap] 38)).alloc (.cells #[.slice aa lena capa, .int .i64 n1, .bool hs1, .int .i64 vt1, .int .i64 vn1, .string vs1] 41) = w0 at bt C0 CA hz0
  have HW0 := Lib.hid hw0
  clear hw0 hs hsa hva hid hT
  go_enter Tryd.func4, Tryd.ntmps4
  have p0 := (C0 0 _ rfl).1
  have p1 := (C0 1 _ rfl).1
  have p2 := (C0 2 _ rfl).1
  have p3 := (C0 3 _ rfl).1
  have p4 := (C0 4 _ rfl).1
  have p5 := (C0 5 _ rfl).1
  have p6 := (C0 6 _ rfl).1
  have p7 := (C0 7 _ rfl).1
  have p8 := (C0 8 _ rfl).1
  have p9 := (C0 9 _ rfl).1
  go_wp2_with fail
  rw [HW0.out]
  refine (szQuery qk qc t u a len cap 1048576 w0 hlen HSM.out (hr.below bt) (by omega) (by omega)).mono ?_
  rintro e w1 ⟨r1, rfl, hr1, hb⟩
  clear p0 p1 p2 p3 p4 p5 p6 p7 p8 p9
  have z1 := hb.size
  replace C0 := C0.below hb
  replace CA := CA.below hb
  replace bt := below_then bt hb (by omega)
  clear hb
  by_cases hn1 : r1 < 0
  · clear hr1
    go_wp2
    go_ret
    exact ⟨rfl, bt⟩
  have hr1' := hr1.resolve_left hn1
  have HBK : Hid (t.bulk ≤ 1048577) := by
    show _ ≤ _
    omega
  have hln : len ≤ 1048576 := by
    have := t.bulk_pos
    omega
  have hrb : 0 ≤ r1 ∧ r1 ≤ 1048576 := by
    have := t.bulk_pos
    omega
  have HML : Hid (T.mls t.l ≤ 6291462) := by
    show _ ≤ _
    have h1 := T.mls_le t.l
    have h2 := T.bulk_def t
    have := HBK.out
    omega
  clear hr1 hr1'
  have p0 := (CA 0 _ rfl).1
  have p1 := (CA 1 _ rfl).1
  have p2 := (CA 2 _ rfl).1
  have p3 := (CA 3 _ rfl).1
  have p4 := (CA 4 _ rfl).1
  have p5 := (CA 5 _ rfl).1
  go_wp2_with fail
  refine (szResult n1 hs1 vt1 vn1 vs1 _ pa r1 w1 HVa.out HSA.out (hA.below bt) hrb.1 hrb.2).mono ?_
  rintro e w2 ⟨r2, rfl, hr2, hb⟩
  clear p0 p1 p2 p3 p4 p5
  have z2 := hb.size
  replace C0 := C0.below hb
  replace CA := CA.below hb
  replace bt := below_then bt hb (by omega)
  clear hb
  by_cases hnr2 : r2 < 0
  · clear hr2
    go_wp2
    go_ret
    exact ⟨rfl, bt⟩
  have hr2' := hr2.resolve_left hnr2
  have hma : pa.length ≤ 1048576 := by omega
  have HIa : Hid (∀ p ∈ pa, p.1.l.length ≤ 1048576) := fun p hp => by
    have := bulkR_mem hp
    omega
  have hka : (pa.length : Int) + bulkR pa + r2 ≤ r1 := by omega
  have hbr2 : 0 ≤ r2 ∧ r2 ≤ 1048576 := by omega
  clear hr2 hr2'
  have HSX : Hid (∀ (W : World) (u o v : Value) (q : List P), RdRs W v q → q.map (·.1) = pa.map (·.1) → Tab W → Calls Tryd.prog 13 #[.agg #[.int .i64 qk, .int .i64 t.kind, .int .i64 t.col, .int .i64 t.op, .int .i64 t.v.ty, .int .i64 t.v.n, .string t.v.s, u, .int .i64 qc, o], .agg #[v, .int .i64 n1, .bool hs1, .int .i64 vt1, .int .i64 vn1, .string vs1]] W fun e w' => e = .returned (.string (resT qk ⟨pa.map (·.1), n1, hs1, ⟨vt1, vn1, vs1⟩⟩)) ∧ Below W.heap.size W w') := fun W u o v q h1 h2 hT' => by
    refine sResultText qk qc t u o v ⟨pa.map (·.1), n1, hs1, ⟨vt1, vn1, vs1⟩⟩ q W h1 h2 (by rw [len_fst h2]; exact hma) (fun p hp => ?_) hn64.1 hn64.2 HVa.out hT'
    obtain ⟨p', hp', e⟩ : ∃ p' ∈ pa, p'.1 = p.1 := by
      have : p.1 ∈ pa.map (·.1) := by rw [← h2]; exact List.mem_map.2 ⟨p, hp, rfl⟩
      obtain ⟨p', h3, h4⟩ := List.mem_map.1 this
      exact ⟨p', h3, h4⟩
    rw [← e]
    exact ⟨(HID.out p' hp').1, (HID.out p' hp').2, HIa.out p' hp', HSA.out p' hp'⟩
  have HIX : Hid (∀ (W : World) (u o v : Value) (q : List P), RdRs W v q → q.map (·.1) = pa.map (·.1) → Tab W → Calls Tryd.prog 16 #[.agg #[.int .i64 qk, .int .i64 t.kind, .int .i64 t.col, .int .i64 t.op, .int .i64 t.v.ty, .int .i64 t.v.n, .string t.v.s, u, .int .i64 qc, o], .agg #[v, .int .i64 n1, .bool hs1, .int .i64 vt1, .int .i64 vn1, .string vs1]] W fun e w' => e = .returned (.string (resT qk ⟨pa.map (·.1), n1, hs1, ⟨vt1, vn1, vs1⟩⟩)) ∧ Below W.heap.size W w') := fun W u o v q h1 h2 hT' => by
    refine iResultText qk qc t u o v ⟨pa.map (·.1), n1, hs1, ⟨vt1, vn1, vs1⟩⟩ q W h1 h2 (by rw [len_fst h2]; exact hma) (fun p hp => ?_) hn64.1 hn64.2 HVa.out hT'
    obtain ⟨p', hp', e⟩ : ∃ p' ∈ pa, p'.1 = p.1 := by
      have : p.1 ∈ pa.map (·.1) := by rw [← h2]; exact List.mem_map.2 ⟨p, hp, rfl⟩
      obtain ⟨p', h3, h4⟩ := List.mem_map.1 this
      exact ⟨p', h3, h4⟩
    rw [← e]
    exact ⟨(HID.out p' hp').1, (HID.out p' hp').2, HIa.out p' hp', HSA.out p' hp'⟩
  generalize resT qk ⟨pa.map (·.1), n1, hs1, ⟨vt1, vn1, vs1⟩⟩ = d at HSX HIX
  clear hka
  have HKS : Hid (∀ W, Below w2.heap.size w2 W → W.cell? ⟨w.heap.size, 0, none⟩ = some (.int .i64 qk) ∧ W.cell? ⟨w.heap.size, 1, none⟩ = some (.int .i64 t.kind) ∧ W.cell? ⟨w.heap.size, 2, none⟩ = some (.int .i64 t.col) ∧ W.cell? ⟨w.heap.size, 3, none⟩ = some (.int .i64 t.op) ∧ W.cell? ⟨w.heap.size, 4, none⟩ = some (.int .i64 t.v.ty) ∧ W.cell? ⟨w.heap.size, 5, none⟩ = some (.int .i64 t.v.n) ∧ W.cell? ⟨w.heap.size, 6, none⟩ = some (.string t.v.s) ∧ W.cell? ⟨w.heap.size, 7, none⟩ = some (u) ∧ W.cell? ⟨w.heap.size, 8, none⟩ = some (.int .i64 qc) ∧ W.cell? ⟨w.heap.size, 9, none⟩ = some (.slice a len cap) ∧ W.cell? ⟨w.heap.size + 1, 0, none⟩ = some (.slice aa lena capa) ∧ W.cell? ⟨w.heap.size + 1, 1, none⟩ = some (.int .i64 n1) ∧ W.cell? ⟨w.heap.size + 1, 2, none⟩ = some (.bool hs1) ∧ W.cell? ⟨w.heap.size + 1, 3, none⟩ = some (.int .i64 vt1) ∧ W.cell? ⟨w.heap.size + 1, 4, none⟩ = some (.int .i64 vn1) ∧ W.cell? ⟨w.heap.size + 1, 5, none⟩ = some (.string vs1)) := fun W h => ⟨(C0.below h 0 _ rfl).1, (C0.below h 1 _ rfl).1, (C0.below h 2 _ rfl).1, (C0.below h 3 _ rfl).1, (C0.below h 4 _ rfl).1, (C0.below h 5 _ rfl).1, (C0.below h 6 _ rfl).1, (C0.below h 7 _ rfl).1, (C0.below h 8 _ rfl).1, (C0.below h 9 _ rfl).1, (CA.below h 0 _ rfl).1, (CA.below h 1 _ rfl).1, (CA.below h 2 _ rfl).1, (CA.below h 3 _ rfl).1, (CA.below h 4 _ rfl).1, (CA.below h 5 _ rfl).1⟩
  have HTQ := Lib.hid (fun W (hW : Below w2.heap.size w2 W) => toQuery qk qc t zs u a len cap W (by have := HBK.out; omega) (by omega) (hr.below (below_then bt hW (by omega))) (ha.below (below_then bt hW (by omega))))
  have HTA := Lib.hid (fun W (hW : Below w2.heap.size w2 W) => toResult n1 hs1 vt1 vn1 vs1 aa lena capa pa W hma HIa.out (hA.below (below_then bt hW (by omega))))
  have HS2 := Lib.hid (fun W u o v q (hW : Below w2.heap.size w2 W) (h1 : RdRs W v q) (h2 : q.map (·.1) = pa.map (·.1)) => HSX.out W u o v q h1 h2 (HTB.out.below (below_then bt hW (by omega))))
  have hB' := (Below.refl w2.heap.size w2).drew
  go_wp2_with fail
  go_region_held3 (fun W => W.cell? ⟨w.heap.size, 0, none⟩ = some (.int .i64 qk) ∧ W.cell? ⟨w.heap.size, 1, none⟩ = some (.int .i64 t.kind) ∧ W.cell? ⟨w.heap.size, 2, none⟩ = some (.int .i64 t.col) ∧ W.cell? ⟨w.heap.size, 3, none⟩ = some (.int .i64 t.op) ∧ W.cell? ⟨w.heap.size, 4, none⟩ = some (.int .i64 t.v.ty) ∧ W.cell? ⟨w.heap.size, 5, none⟩ = some (.int .i64 t.v.n) ∧ W.cell? ⟨w.heap.size, 6, none⟩ = some (.string t.v.s) ∧ W.cell? ⟨w.heap.size, 7, none⟩ = some (u) ∧ W.cell? ⟨w.heap.size, 8, none⟩ = some (.int .i64 qc) ∧ W.cell? ⟨w.heap.size, 9, none⟩ = some (.slice a len cap) ∧ W.cell? ⟨w.heap.size + 1, 0, none⟩ = some (.slice aa lena capa) ∧ W.cell? ⟨w.heap.size + 1, 1, none⟩ = some (.int .i64 n1) ∧ W.cell? ⟨w.heap.size + 1, 2, none⟩ = some (.bool hs1) ∧ W.cell? ⟨w.heap.size + 1, 3, none⟩ = some (.int .i64 vt1) ∧ W.cell? ⟨w.heap.size + 1, 4, none⟩ = some (.int .i64 vn1) ∧ W.cell? ⟨w.heap.size + 1, 5, none⟩ = some (.string vs1)) (exact HKS.out _ hB') (first | (go_at_call 14; (with_reducible refine (HTQ.out _ hB').mono ?_); rintro e wA ⟨uA, oA, rfl, hqA, hb⟩; replace hB' := below_then hB' hb hB'.size) | (go_at_call 15; (with_reducible refine (HTA.out _ hB').mono ?_); rintro e wB ⟨vA, rfl, qA, oR, eR, hb⟩; replace hB' := below_then hB' hb hB'.size) | (go_at_call 13; (with_reducible refine (HS2.out _ _ _ _ _ hB' oR.rd eR).mono ?_); rintro e wC ⟨rfl, hb⟩; replace hB' := below_then hB' hb hB'.size))
  clear HTQ HTA HS2 HKS
  have hb := hB'
  clear hB' oR eR hqA
  have zC := hb.size
  replace C0 := C0.below hb
  replace CA := CA.below hb
  replace bt := below_then bt hb (by omega)
  clear hb
  have p0 := (C0 0 _ rfl).1
  have p1 := (C0 1 _ rfl).1
  have p2 := (C0 2 _ rfl).1
  have p3 := (C0 3 _ rfl).1
  have p4 := (C0 4 _ rfl).1
  have p5 := (C0 5 _ rfl).1
  have p6 := (C0 6 _ rfl).1
  have p7 := (C0 7 _ rfl).1
  have p8 := (C0 8 _ rfl).1
  have p9 := (C0 9 _ rfl).1
  go_wp2_with fail
  refine (toQuery qk qc t zs u a len cap wC (by have := HBK.out; omega) (by omega) (hr.below bt) (ha.below bt)).mono ?_
  rintro e w3 ⟨u3, o3, rfl, oq, hb⟩
  clear p0 p1 p2 p3 p4 p5 p6 p7 p8 p9
  have z3 := hb.size
  replace C0 := C0.below hb
  replace CA := CA.below hb
  replace bt := below_then bt hb (by omega)
  clear hb
  obtain ⟨ya, yc, yg, yd, e1, e2⟩ := oq.sl
  generalize hyn : t.l.length = yn at e1
  generalize hyl : zs.length = yl at e2
  subst e1 e2
  clear hyn hyl
  have hb := below_alloc w3 (.cells #[.int .i64 qk, .int .i64 t.kind, .int .i64 t.col, .int .i64 t.op, .int .i64 t.v.ty, .int .i64 t.v.n, .string t.v.s, .slice ya yn yc, .int .i64 qc, .slice (some ⟨yg, 0, none⟩) yl yd] 46)
  have CX := blk_new w3 [.int .i64 qk, .int .i64 t.kind, .int .i64 t.col, .int .i64 t.op, .int .i64 t.v.ty, .int .i64 t.v.n, .string t.v.s, .slice ya yn yc, .int .i64 qc, .slice (some ⟨yg, 0, none⟩) yl yd] 46
  have hzCX : (w3.alloc (.cells #[.int .i64 qk, .int .i64 t.kind, .int .i64 t.col, .int .i64 t.op, .int .i64 t.v.ty, .int .i64 t.v.n, .string t.v.s, .slice ya yn yc, .int .i64 qc, .slice (some ⟨yg, 0, none⟩) yl yd] 46)).heap.size = w3.heap.size + 1 := World.size_alloc _ _
  replace oq := oq.below hb (by omega)
  replace C0 := C0.below hb
  replace CA := CA.below hb
  replace bt := below_then bt hb (by omega)
  clear hb
  have eCA0 := (CA 0 _ rfl).1
  have eCA1 := (CA 1 _ rfl).1
  have eCA2 := (CA 2 _ rfl).1
  have eCA3 := (CA 3 _ rfl).1
  have eCA4 := (CA 4 _ rfl).1
  have eCA5 := (CA 5 _ rfl).1
  generalize hwCX : w3.alloc (.cells #[.int .i64 qk, .int .i64 t.kind, .int .i64 t.col, .int .i64 t.op, .int .i64 t.v.ty, .int .i64 t.v.n, .string t.v.s, .slice ya yn yc, .int .i64 qc, .slice (some ⟨yg, 0, none⟩) yl yd] 46) = wCX at bt CX hzCX oq C0 CA
  have HCX := Lib.hid hwCX
  generalize hqCX : w3.heap.size = qx at CX hzCX
  have HQCX := Lib.hid hqCX
  clear hwCX hqCX
  go_wp2_with fail
  rw [HCX.out]
  try rw [HQCX.out]
  have hqeCX := HQCX.out
  refine (toResult n1 hs1 vt1 vn1 vs1 aa lena capa pa wCX hma HIa.out (hA.below bt)).mono ?_
  rintro e w4 ⟨x1, rfl, qx1, o0, e0, hb⟩
  clear eCA0 eCA1 eCA2 eCA3 eCA4 eCA5
  have z4 := hb.size
  replace oq := oq.below hb (by omega)
  replace C0 := C0.below hb
  replace CA := CA.below hb
  replace CX := CX.below hb
  replace bt := below_then bt hb (by omega)
  clear hb
  have ox1 := o0
  have Hqx1 := Lib.hid e0
  clear o0 e0
  obtain ⟨g1a, g1c, g1e⟩ := ox1.1.sl
  generalize qx1.length = g1m at g1e
  subst g1e
  have hb := below_alloc w4 (.cells #[.slice g1a g1m g1c, .int .i64 n1, .bool hs1, .int .i64 vt1, .int .i64 vn1, .string vs1] 50)
  have CY := blk_new w4 [.slice g1a g1m g1c, .int .i64 n1, .bool hs1, .int .i64 vt1, .int .i64 vn1, .string vs1] 50
  have hzCY : (w4.alloc (.cells #[.slice g1a g1m g1c, .int .i64 n1, .bool hs1, .int .i64 vt1, .int .i64 vn1, .string vs1] 50)).heap.size = w4.heap.size + 1 := World.size_alloc _ _
  replace oq := oq.below hb (by omega)
  replace ox1 := ox1.below hb (by omega)
  replace C0 := C0.below hb
  replace CA := CA.below hb
  replace CX := CX.below hb
  replace bt := below_then bt hb (by omega)
  clear hb
  have eCX0 := (CX 0 _ rfl).1
  have eCX1 := (CX 1 _ rfl).1
  have eCX2 := (CX 2 _ rfl).1
  have eCX3 := (CX 3 _ rfl).1
  have eCX4 := (CX 4 _ rfl).1
  have eCX5 := (CX 5 _ rfl).1
  have eCX6 := (CX 6 _ rfl).1
  have eCX7 := (CX 7 _ rfl).1
  have eCX8 := (CX 8 _ rfl).1
  have eCX9 := (CX 9 _ rfl).1
  generalize hwCY : w4.alloc (.cells #[.slice g1a g1m g1c, .int .i64 n1, .bool hs1, .int .i64 vt1, .int .i64 vn1, .string vs1] 50) = wCY at bt CY hzCY oq ox1 C0 CA CX
  have HCY := Lib.hid hwCY
  generalize hqCY : w4.heap.size = qy at CY hzCY
  have HQCY := Lib.hid hqCY
  clear hwCY hqCY
  go_wp2_with fail
  rw [HCY.out]
  try rw [HQCY.out]
  have hqeCY := HQCY.out
  refine (HIX.out wCY _ _ _ qx1 ox1.rd Hqx1.out (HTB.out.below bt)).mono ?_
  rintro e w5 ⟨rfl, hb⟩
  clear eCX0 eCX1 eCX2 eCX3 eCX4 eCX5 eCX6 eCX7 eCX8 eCX9
  have z5 := hb.size
  replace oq := oq.below hb (by omega)
  replace ox1 := ox1.below hb (by omega)
  replace C0 := C0.below hb
  replace CA := CA.below hb
  replace CX := CX.below hb
  replace CY := CY.below hb
  replace bt := below_then bt hb (by omega)
  clear hb
  have HT9 := Lib.hid (fun W (hW : Below w5.heap.size w5 W) => toQuery qk qc t zs u a len cap W (by have := HBK.out; omega) (by omega) (hr.below (below_then bt hW (by omega))) (ha.below (below_then bt hW (by omega))))
  have HE9 := Lib.hid (fun W (u2 o2 : Value) (Q2 : Nat → Prop) (hW : Below w5.heap.size w5 W) (h1 : RdT Q2 W t u2) (h2 : At 1 W o2 zs.length (ints .i64 zs)) => eqQuery qk qc t zs (.slice ya yn yc) (.slice (some ⟨yg, 0, none⟩) yl yd) u2 o2 W ((oq.rd (by omega)).below hW) h1 (oq.at.below hW) h2)
  have HKB : Hid (∀ W, Below w5.heap.size w5 W → W.cell? ⟨qx, 0, none⟩ = some (.int .i64 qk) ∧ W.cell? ⟨qx, 1, none⟩ = some (.int .i64 t.kind) ∧ W.cell? ⟨qx, 2, none⟩ = some (.int .i64 t.col) ∧ W.cell? ⟨qx, 3, none⟩ = some (.int .i64 t.op) ∧ W.cell? ⟨qx, 4, none⟩ = some (.int .i64 t.v.ty) ∧ W.cell? ⟨qx, 5, none⟩ = some (.int .i64 t.v.n) ∧ W.cell? ⟨qx, 6, none⟩ = some (.string t.v.s) ∧ W.cell? ⟨qx, 7, none⟩ = some (.slice ya yn yc) ∧ W.cell? ⟨qx, 8, none⟩ = some (.int .i64 qc) ∧ W.cell? ⟨qx, 9, none⟩ = some (.slice (some ⟨yg, 0, none⟩) yl yd) ∧ W.cell? ⟨w.heap.size, 0, none⟩ = some (.int .i64 qk) ∧ W.cell? ⟨w.heap.size, 1, none⟩ = some (.int .i64 t.kind) ∧ W.cell? ⟨w.heap.size, 2, none⟩ = some (.int .i64 t.col) ∧ W.cell? ⟨w.heap.size, 3, none⟩ = some (.int .i64 t.op) ∧ W.cell? ⟨w.heap.size, 4, none⟩ = some (.int .i64 t.v.ty) ∧ W.cell? ⟨w.heap.size, 5, none⟩ = some (.int .i64 t.v.n) ∧ W.cell? ⟨w.heap.size, 6, none⟩ = some (.string t.v.s) ∧ W.cell? ⟨w.heap.size, 7, none⟩ = some (u) ∧ W.cell? ⟨w.heap.size, 8, none⟩ = some (.int .i64 qc) ∧ W.cell? ⟨w.heap.size, 9, none⟩ = some (.slice a len cap)) := fun W h => ⟨(CX.below h 0 _ rfl).1, (CX.below h 1 _ rfl).1, (CX.below h 2 _ rfl).1, (CX.below h 3 _ rfl).1, (CX.below h 4 _ rfl).1, (CX.below h 5 _ rfl).1, (CX.below h 6 _ rfl).1, (CX.below h 7 _ rfl).1, (CX.below h 8 _ rfl).1, (CX.below h 9 _ rfl).1, (C0.below h 0 _ rfl).1, (C0.below h 1 _ rfl).1, (C0.below h 2 _ rfl).1, (C0.below h 3 _ rfl).1, (C0.below h 4 _ rfl).1, (C0.below h 5 _ rfl).1, (C0.below h 6 _ rfl).1, (C0.below h 7 _ rfl).1, (C0.below h 8 _ rfl).1, (C0.below h 9 _ rfl).1⟩
  have hB' := (Below.refl w5.heap.size w5).drew
  go_wp2_with fail
  go_region_held3 (fun W => W.cell? ⟨qx, 0, none⟩ = some (.int .i64 qk) ∧ W.cell? ⟨qx, 1, none⟩ = some (.int .i64 t.kind) ∧ W.cell? ⟨qx, 2, none⟩ = some (.int .i64 t.col) ∧ W.cell? ⟨qx, 3, none⟩ = some (.int .i64 t.op) ∧ W.cell? ⟨qx, 4, none⟩ = some (.int .i64 t.v.ty) ∧ W.cell? ⟨qx, 5, none⟩ = some (.int .i64 t.v.n) ∧ W.cell? ⟨qx, 6, none⟩ = some (.string t.v.s) ∧ W.cell? ⟨qx, 7, none⟩ = some (.slice ya yn yc) ∧ W.cell? ⟨qx, 8, none⟩ = some (.int .i64 qc) ∧ W.cell? ⟨qx, 9, none⟩ = some (.slice (some ⟨yg, 0, none⟩) yl yd) ∧ W.cell? ⟨w.heap.size, 0, none⟩ = some (.int .i64 qk) ∧ W.cell? ⟨w.heap.size, 1, none⟩ = some (.int .i64 t.kind) ∧ W.cell? ⟨w.heap.size, 2, none⟩ = some (.int .i64 t.col) ∧ W.cell? ⟨w.heap.size, 3, none⟩ = some (.int .i64 t.op) ∧ W.cell? ⟨w.heap.size, 4, none⟩ = some (.int .i64 t.v.ty) ∧ W.cell? ⟨w.heap.size, 5, none⟩ = some (.int .i64 t.v.n) ∧ W.cell? ⟨w.heap.size, 6, none⟩ = some (.string t.v.s) ∧ W.cell? ⟨w.heap.size, 7, none⟩ = some (u) ∧ W.cell? ⟨w.heap.size, 8, none⟩ = some (.int .i64 qc) ∧ W.cell? ⟨w.heap.size, 9, none⟩ = some (.slice a len cap)) (exact HKB.out _ hB') (first | (go_at_call 14; (with_reducible refine (HT9.out _ hB').mono ?_); rintro e wA ⟨uA, oA, rfl, hqA, hb⟩; replace hB' := below_then hB' hb hB'.size; have hrA := hqA.rd (Nat.le_refl _); have haA := hqA.at) | (go_at_call 17; (with_reducible refine (HE9.out _ _ _ _ hB' hrA haA).mono ?_); rintro e wB ⟨rfl, hb⟩; replace hB' := below_then hB' hb hB'.size))
  clear HT9 HE9 HKB
  have hb := hB'
  clear hB' hqA hrA haA
  have zB := hb.size
  replace oq := oq.below hb (by omega)
  replace ox1 := ox1.below hb (by omega)
  replace C0 := C0.below hb
  replace CA := CA.below hb
  replace CX := CX.below hb
  replace CY := CY.below hb
  replace bt := below_then bt hb (by omega)
  clear hb
  have HKB : Hid (∀ W, Below wB.heap.size wB W → W.cell? ⟨qy, 0, none⟩ = some (.slice g1a g1m g1c) ∧ W.cell? ⟨qy, 1, none⟩ = some (.int .i64 n1) ∧ W.cell? ⟨qy, 2, none⟩ = some (.bool hs1) ∧ W.cell? ⟨qy, 3, none⟩ = some (.int .i64 vt1) ∧ W.cell? ⟨qy, 4, none⟩ = some (.int .i64 vn1) ∧ W.cell? ⟨qy, 5, none⟩ = some (.string vs1) ∧ W.cell? ⟨w.heap.size + 1, 0, none⟩ = some (.slice aa lena capa) ∧ W.cell? ⟨w.heap.size + 1, 1, none⟩ = some (.int .i64 n1) ∧ W.cell? ⟨w.heap.size + 1, 2, none⟩ = some (.bool hs1) ∧ W.cell? ⟨w.heap.size + 1, 3, none⟩ = some (.int .i64 vt1) ∧ W.cell? ⟨w.heap.size + 1, 4, none⟩ = some (.int .i64 vn1) ∧ W.cell? ⟨w.heap.size + 1, 5, none⟩ = some (.string vs1)) := fun W h => ⟨(CY.below h 0 _ rfl).1, (CY.below h 1 _ rfl).1, (CY.below h 2 _ rfl).1, (CY.below h 3 _ rfl).1, (CY.below h 4 _ rfl).1, (CY.below h 5 _ rfl).1, (CA.below h 0 _ rfl).1, (CA.below h 1 _ rfl).1, (CA.below h 2 _ rfl).1, (CA.below h 3 _ rfl).1, (CA.below h 4 _ rfl).1, (CA.below h 5 _ rfl).1⟩
  have HTA := Lib.hid (fun W (hW : Below wB.heap.size wB W) => toResult n1 hs1 vt1 vn1 vs1 aa lena capa pa W hma HIa.out (hA.below (below_then bt hW (by omega))))
  have HEA := Lib.hid (fun W u2 q2 (hW : Below wB.heap.size wB W) (e2 : q2.map (·.1) = pa.map (·.1)) (k2 : RdRs W u2 q2) => eqResult n1 hs1 vt1 vn1 vs1 (.slice g1a g1m g1c) u2 qx1 q2 W (e2.trans Hqx1.out.symm) (ox1.rd.below hW) k2)
  have hB' := (Below.refl wB.heap.size wB).drew
  go_wp2_with fail
  go_region_held3 (fun W => W.cell? ⟨qy, 0, none⟩ = some (.slice g1a g1m g1c) ∧ W.cell? ⟨qy, 1, none⟩ = some (.int .i64 n1) ∧ W.cell? ⟨qy, 2, none⟩ = some (.bool hs1) ∧ W.cell? ⟨qy, 3, none⟩ = some (.int .i64 vt1) ∧ W.cell? ⟨qy, 4, none⟩ = some (.int .i64 vn1) ∧ W.cell? ⟨qy, 5, none⟩ = some (.string vs1) ∧ W.cell? ⟨w.heap.size + 1, 0, none⟩ = some (.slice aa lena capa) ∧ W.cell? ⟨w.heap.size + 1, 1, none⟩ = some (.int .i64 n1) ∧ W.cell? ⟨w.heap.size + 1, 2, none⟩ = some (.bool hs1) ∧ W.cell? ⟨w.heap.size + 1, 3, none⟩ = some (.int .i64 vt1) ∧ W.cell? ⟨w.heap.size + 1, 4, none⟩ = some (.int .i64 vn1) ∧ W.cell? ⟨w.heap.size + 1, 5, none⟩ = some (.string vs1)) (exact HKB.out _ hB') (first | (go_at_call 15; (with_reducible refine (HTA.out _ hB').mono ?_); rintro e wD1 ⟨uA, rfl, qA, oA, eA, hb⟩; replace hB' := below_then hB' hb hB'.size) | (go_at_call 18; (with_reducible refine (HEA.out _ _ _ hB' eA oA.rd).mono ?_); rintro e wE1 ⟨rfl, hb⟩; replace hB' := below_then hB' hb hB'.size))
  have hb := hB'
  clear hB' oA eA HTA HEA HKB
  have zE1 := hb.size
  replace oq := oq.below hb (by omega)
  replace ox1 := ox1.below hb (by omega)
  replace C0 := C0.below hb
  replace CA := CA.below hb
  replace CX := CX.below hb
  replace CY := CY.below hb
  replace bt := below_then bt hb (by omega)
  clear hb
  go_wp2
  go_ret
  exact ⟨rfl, bt⟩

end Go.Proofs.YtkofafefnlommaaDoor
