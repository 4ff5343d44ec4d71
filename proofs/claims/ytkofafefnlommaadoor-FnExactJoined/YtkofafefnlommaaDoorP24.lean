/- Texts of this claim, one behind the other: Law12j. -/
import Derived.Test.YtkofafefnlommaaDoorP22
import Derived.Test.YtkofafefnlommaaDoorP23
import Derived.Test.YtkofafefnlommaaDoorP21
import Derived.Test.YtkofafefnlommaaDoorP13
import Derived.Test.YtkofafefnlommaaDoorP6

/- The exact law of Joined, walked (written by mk_Law12j.py). -/
namespace Go.Proofs.YtkofafefnlommaaDoor
open Go.RowKit

theorem joinL_rows (k : Int) (a b : Rs) : (joinL k a b).rows = a.rows ++ b.rows ∨ (joinL k a b).rows = [] := by
  unfold joinL
  split
  · exact .inl rfl
  split
  · exact .inr rfl
  split
  · exact .inr rfl
  split
  · exact .inr rfl
  · exact .inr rfl
theorem rlenR_app (a b : List R) : rlenR (a ++ b) = rlenR a + rlenR b := by simp [rlenR]

set_option maxRecDepth 100000 in
set_option maxHeartbeats 16000000 in
theorem lawJoined (qk qc : Int) (t : T) (u : Value) (a : Option Addr) (len cap : Nat) (zs : List Int) (aa : Option Addr) (lena capa : Nat) (pa : List P) (n1 : Int) (hs1 : Bool) (vt1 vn1 : Int) (vs1 : ByteArray) (ba : Option Addr) (lenb capb : Nat) (pb : List P) (n2 : Int) (hs2 : Bool) (vt2 vn2 : Int) (vs2 : ByteArray) (w : World)
    (hlen : len ≤ maxLen) (ha : Arg .i64 w a len zs) (hs : t.Small) (hr : RdT (fun _ => True) w t u) (hva : vs1.size ≤ maxLen) (hsa : ∀ p ∈ pa, ∀ v ∈ p.1.l, v.s.size ≤ maxLen) (hA : RdRs w (.slice aa lena capa) pa) (hvb : vs2.size ≤ maxLen) (hsb : ∀ p ∈ pb, ∀ v ∈ p.1.l, v.s.size ≤ maxLen) (hB : RdRs w (.slice ba lenb capb) pb) (hn64 : -9223372036854775808 ≤ n1 ∧ n1 ≤ 9223372036854775807) :
    Calls Tryd.prog 5 #[.agg #[.int .i64 qk, .int .i64 t.kind, .int .i64 t.col, .int .i64 t.op, .int .i64 t.v.ty, .int .i64 t.v.n, .string t.v.s, u, .int .i64 qc, .slice a len cap], .agg #[.slice aa lena capa, .int .i64 n1, .bool hs1, .int .i64 vt1, .int .i64 vn1, .string vs1], .agg #[.slice ba lenb capb, .int .i64 n2, .bool hs2, .int .i64 vt2, .int .i64 vn2, .string vs2]] w fun e w' => e = .returned (.bool true) ∧ Below w.heap.size w w' := by
  have HSM := Lib.hid hs
  have HSA := Lib.hid hsa
  have HSB := Lib.hid hsb
  have HVa := Lib.hid hva
  have HVb := Lib.hid hvb
  have HZL := Lib.hid ha.1
  have bt := below_alloc3 w (.cells #[.int .i64 qk, .int .i64 t.kind, .int .i64 t.col, .int .i64 t.op, .int .i64 t.v.ty, .int .i64 t.v.n, .string t.v.s, u, .int .i64 qc, .slice a len cap] 38) (.cells #[.slice aa lena capa, .int .i64 n1, .bool hs1, .int .i64 vt1, .int .i64 vn1, .string vs1] 41) (.cells #[.slice ba lenb capb, .int .i64 n2, .bool hs2, .int .i64 vt2, .int .i64 vn2, .string vs2] 41)
  have C0 := ((blk_new w [.int .i64 qk, .int .i64 t.kind, .int .i64 t.col, .int .i64 t.op, .int .i64 t.v.ty, .int .i64 t.v.n, .string t.v.s, u, .int .i64 qc, .slice a len cap] 38).below (below_alloc _ (.cells #[.slice aa lena capa, .int .i64 n1, .bool hs1, .int .i64 vt1, .int .i64 vn1, .string vs1] 41))).below (below_alloc _ (.cells #[.slice ba lenb capb, .int .i64 n2, .bool hs2, .int .i64 vt2, .int .i64 vn2, .string vs2] 41))
  have CA := (blk_new (w.alloc (.cells #[.int .i64 qk, .int .i64 t.kind, .int .i64 t.col, .int .i64 t.op, .int .i64 t.v.ty, .int .i64 t.v.n, .string t.v.s, u, .int .i64 qc, .slice a len cap] 38)) [.slice aa lena capa, .int .i64 n1, .bool hs1, .int .i64 vt1, .int .i64 vn1, .string vs1] 41).below (below_alloc _ (.cells #[.slice ba lenb capb, .int .i64 n2, .bool hs2, .int .i64 vt2, .int .i64 vn2, .string vs2] 41))
  have CB := blk_new ((w.alloc (.cells #[.int .i64 qk, .int .i64 t.kind, .int .i64 t.col, .int .i64 t.op, .int .i64 t.v.ty, .int .i64 t.v.n, .string t.v.s, u, .int .i64 qc, .slice a len cap] 38)).alloc (.cells #[.slice aa lena capa, .int .i64 n1, .bool hs1, .int .i64 vt1, .int .i64 vn1, .string vs1] 41)) [.slice ba lenb capb, .int .i64 n2, .bool hs2, .int .i64 vt2, .int .i64 vn2, .string vs2] 41
  simp only [World.size_alloc] at CA CB
  have hz0 : (((w.alloc (.cells #[.int .i64 qk, .int .i64 t.kind, .int .i64 t.col, .int .i64 t.op, .int .i64 t.v.ty, .int .i64 t.v.n, .string t.v.s, u, .int .i64 qc, .slice a len cap] 38)).alloc (.cells #[.slice aa lena capa, .int .i64 n1, .bool hs1, .int .i64 vt1, .int .i64 vn1, .string vs1] 41)).alloc (.cells #[.slice ba lenb capb, .int .i64 n2, .bool hs2, .int .i64 vt2, .int .i64 vn2, .string vs2] 41)).heap.size = w.heap.size + 1 + 1 + 1 := by simp only [World.size_alloc]
  generalize hw0 : ((w.alloc (.cells #[.int .i64 qk, .int .i64 t.kind, .int .i64 t.col, .int .i64 t.op, .int .i64 t.v.ty, .int .i64 t.v.n, .string t.v.s, u, .int .i64 qc, .slice a len cap] 38)).alloc (.cells #[.slice aa lena capa, .int .i64 n1, .bool hs1, .int .i64 vt1, .int .i64 vn1, .string vs1] 41)).alloc (.cells #[.slice ba lenb capb, .int .i64 n2, .bool hs2, .int .i64 vt2, .int .i64 vn2, .string vs2] 41) = w0 at bt C0 CA CB hz0
  have HW0 := Lib.hid hw0
  clear hw0 hs hsa hsb hva hvb
  go_enter Tryd.func5, Tryd.ntmps5
  have p0 := (C0 0 _ rfl).1
  have p1 := (C0 1 _ rfl).1
  have p2 := (C0 2 _ rfl).1
  have p3 := (C0 3 _ rfl).1
  have p4 := (C0 4 _ rfl).1
  have p5 := (C0 5 _ rfl).1
  have p6 := (C0 6 _ rfl).1
  have p7 := (C0 7 _ rfl).1
  have p8 := (C0 8 _ rfl).1
  have p9 := (C0 9 _ rfl).1
  go_wp2_with fail
  rw [HW0.out]
  refine (szQuery qk qc t u a len cap 1048576 w0 hlen HSM.out (hr.below bt) (by omega) (by omega)).mono ?_
  rintro e w1 ⟨r1, rfl, hr1, hb⟩
  clear p0 p1 p2 p3 p4 p5 p6 p7 p8 p9
  have z1 := hb.size
  replace C0 := C0.below hb
  replace CA := CA.below hb
  replace CB := CB.below hb
  replace bt := below_then bt hb (by omega)
  clear hb
  by_cases hn1 : r1 < 0
  · clear hr1
    go_wp2
    go_ret
    exact ⟨rfl, bt⟩
  have hr1' := hr1.resolve_left hn1
  have HBK : Hid (t.bulk ≤ 1048577) := by
    show _ ≤ _
    omega
  have hln : len ≤ 1048576 := by
    have := t.bulk_pos
    omega
  have hrb : 0 ≤ r1 ∧ r1 ≤ 1048576 := by
    have := t.bulk_pos
    omega
  have HML : Hid (T.mls t.l ≤ 6291462) := by
    show _ ≤ _
    have h1 := T.mls_le t.l
    have h2 := T.bulk_def t
    have := HBK.out
    omega
  clear hr1 hr1'
  have p0 := (CA 0 _ rfl).1
  have p1 := (CA 1 _ rfl).1
  have p2 := (CA 2 _ rfl).1
  have p3 := (CA 3 _ rfl).1
  have p4 := (CA 4 _ rfl).1
  have p5 := (CA 5 _ rfl).1
  go_wp2_with fail
  refine (szResult n1 hs1 vt1 vn1 vs1 _ pa r1 w1 HVa.out HSA.out (hA.below bt) hrb.1 hrb.2).mono ?_
  rintro e w2 ⟨r2, rfl, hr2, hb⟩
  clear p0 p1 p2 p3 p4 p5
  have z2 := hb.size
  replace C0 := C0.below hb
  replace CA := CA.below hb
  replace CB := CB.below hb
  replace bt := below_then bt hb (by omega)
  clear hb
  by_cases hnr2 : r2 < 0
  · clear hr2
    go_wp2
    go_ret
    exact ⟨rfl, bt⟩
  have hr2' := hr2.resolve_left hnr2
  have hma : pa.length ≤ 1048576 := by omega
  have HIa : Hid (∀ p ∈ pa, p.1.l.length ≤ 1048576) := fun p hp => by
    have := bulkR_mem hp
    omega
  have hka : (pa.length : Int) + bulkR pa + r2 ≤ r1 := by omega
  have hbr2 : 0 ≤ r2 ∧ r2 ≤ 1048576 := by omega
  clear hr2 hr2'
  have p0 := (CB 0 _ rfl).1
  have p1 := (CB 1 _ rfl).1
  have p2 := (CB 2 _ rfl).1
  have p3 := (CB 3 _ rfl).1
  have p4 := (CB 4 _ rfl).1
  have p5 := (CB 5 _ rfl).1
  go_wp2_with fail
  refine (szResult n2 hs2 vt2 vn2 vs2 _ pb r2 w2 HVb.out HSB.out (hB.below bt) hbr2.1 hbr2.2).mono ?_
  rintro e w3 ⟨r3, rfl, hr3, hb⟩
  clear p0 p1 p2 p3 p4 p5
  have z3 := hb.size
  replace C0 := C0.below hb
  replace CA := CA.below hb
  replace CB := CB.below hb
  replace bt := below_then bt hb (by omega)
  clear hb
  by_cases hnr3 : r3 < 0
  · clear hr3
    go_wp2
    go_ret
    exact ⟨rfl, bt⟩
  have hr3' := hr3.resolve_left hnr3
  have hmb : pb.length ≤ 1048576 := by omega
  have HIb : Hid (∀ p ∈ pb, p.1.l.length ≤ 1048576) := fun p hp => by
    have := bulkR_mem hp
    omega
  have hkb : (pb.length : Int) + bulkR pb + r3 ≤ r2 := by omega
  have hbr3 : 0 ≤ r3 ∧ r3 ≤ 1048576 := by omega
  clear hr3 hr3'
  have HSJ : Hid (∀ (W : World) (ua : Option Addr) (un uc : Nat) (oa : Option Addr) (on oc : Nat) (aa : Option Addr) (an ac : Nat) (ba : Option Addr) (bn bc : Nat) (psa psb : List P), RdRsN W (.slice aa an ac) psa → psa.map (·.1) = pa.map (·.1) → RdRsN W (.slice ba bn bc) psb → psb.map (·.1) = pb.map (·.1) → Calls Tryd.prog 19 #[.agg #[.int .i64 qk, .int .i64 t.kind, .int .i64 t.col, .int .i64 t.op, .int .i64 t.v.ty, .int .i64 t.v.n, .string t.v.s, .slice ua un uc, .int .i64 qc, .slice oa on oc], .agg #[.slice aa an ac, .int .i64 n1, .bool hs1, .int .i64 vt1, .int .i64 vn1, .string vs1], .agg #[.slice ba bn bc, .int .i64 n2, .bool hs2, .int .i64 vt2, .int .i64 vn2, .string vs2]] W fun e w' => ∃ u' qs', e = .returned (.agg #[u', .int .i64 (joinL qk ⟨pa.map (·.1), n1, hs1, ⟨vt1, vn1, vs1⟩⟩ ⟨pb.map (·.1), n2, hs2, ⟨vt2, vn2, vs2⟩⟩).n, .bool (joinL qk ⟨pa.map (·.1), n1, hs1, ⟨vt1, vn1, vs1⟩⟩ ⟨pb.map (·.1), n2, hs2, ⟨vt2, vn2, vs2⟩⟩).has, .int .i64 (joinL qk ⟨pa.map (·.1), n1, hs1, ⟨vt1, vn1, vs1⟩⟩ ⟨pb.map (·.1), n2, hs2, ⟨vt2, vn2, vs2⟩⟩).v.ty, .int .i64 (joinL qk ⟨pa.map (·.1), n1, hs1, ⟨vt1, vn1, vs1⟩⟩ ⟨pb.map (·.1), n2, hs2, ⟨vt2, vn2, vs2⟩⟩).v.n, .string (joinL qk ⟨pa.map (·.1), n1, hs1, ⟨vt1, vn1, vs1⟩⟩ ⟨pb.map (·.1), n2, hs2, ⟨vt2, vn2, vs2⟩⟩).v.s]) ∧ MyRs W.heap.size w'.heap.size w' u' qs' ∧ qs'.map (·.1) = (joinL qk ⟨pa.map (·.1), n1, hs1, ⟨vt1, vn1, vs1⟩⟩ ⟨pb.map (·.1), n2, hs2, ⟨vt2, vn2, vs2⟩⟩).rows ∧ Below W.heap.size W w') := fun W ua un uc oa on oc aa an ac ba bn bc psa psb h1 e1 h2 e2 => by
    have h := sJoined qk t qc ua un uc oa on oc (⟨pa.map (·.1), n1, hs1, ⟨vt1, vn1, vs1⟩⟩ : Rs) (⟨pb.map (·.1), n2, hs2, ⟨vt2, vn2, vs2⟩⟩ : Rs) aa an ac ba bn bc psa psb W h1 e1 h2 e2 (by rw [len_fst e1]; exact hma) (by rw [len_fst e2]; exact hmb) (small_fst e1 HIa.out) (small_fst e2 HIb.out)
    exact h
  have HIJ : Hid (∀ (W : World) (ua : Option Addr) (un uc : Nat) (oa : Option Addr) (on oc : Nat) (aa : Option Addr) (an ac : Nat) (ba : Option Addr) (bn bc : Nat) (psa psb : List P), RdRsN W (.slice aa an ac) psa → psa.map (·.1) = pa.map (·.1) → RdRsN W (.slice ba bn bc) psb → psb.map (·.1) = pb.map (·.1) → Calls Tryd.prog 20 #[.agg #[.int .i64 qk, .int .i64 t.kind, .int .i64 t.col, .int .i64 t.op, .int .i64 t.v.ty, .int .i64 t.v.n, .string t.v.s, .slice ua un uc, .int .i64 qc, .slice oa on oc], .agg #[.slice aa an ac, .int .i64 n1, .bool hs1, .int .i64 vt1, .int .i64 vn1, .string vs1], .agg #[.slice ba bn bc, .int .i64 n2, .bool hs2, .int .i64 vt2, .int .i64 vn2, .string vs2]] W fun e w' => ∃ u' qs', e = .returned (.agg #[u', .int .i64 (joinL qk ⟨pa.map (·.1), n1, hs1, ⟨vt1, vn1, vs1⟩⟩ ⟨pb.map (·.1), n2, hs2, ⟨vt2, vn2, vs2⟩⟩).n, .bool (joinL qk ⟨pa.map (·.1), n1, hs1, ⟨vt1, vn1, vs1⟩⟩ ⟨pb.map (·.1), n2, hs2, ⟨vt2, vn2, vs2⟩⟩).has, .int .i64 (joinL qk ⟨pa.map (·.1), n1, hs1, ⟨vt1, vn1, vs1⟩⟩ ⟨pb.map (·.1), n2, hs2, ⟨vt2, vn2, vs2⟩⟩).v.ty, .int .i64 (joinL qk ⟨pa.map (·.1), n1, hs1, ⟨vt1, vn1, vs1⟩⟩ ⟨pb.map (·.1), n2, hs2, ⟨vt2, vn2, vs2⟩⟩).v.n, .string (joinL qk ⟨pa.map (·.1), n1, hs1, ⟨vt1, vn1, vs1⟩⟩ ⟨pb.map (·.1), n2, hs2, ⟨vt2, vn2, vs2⟩⟩).v.s]) ∧ MyRs W.heap.size w'.heap.size w' u' qs' ∧ qs'.map (·.1) = (joinL qk ⟨pa.map (·.1), n1, hs1, ⟨vt1, vn1, vs1⟩⟩ ⟨pb.map (·.1), n2, hs2, ⟨vt2, vn2, vs2⟩⟩).rows ∧ Below W.heap.size W w') := fun W ua un uc oa on oc aa an ac ba bn bc psa psb h1 e1 h2 e2 => by
    have h := iJoined qk t qc ua un uc oa on oc (⟨pa.map (·.1), n1, hs1, ⟨vt1, vn1, vs1⟩⟩ : Rs) (⟨pb.map (·.1), n2, hs2, ⟨vt2, vn2, vs2⟩⟩ : Rs) aa an ac ba bn bc psa psb W h1 e1 h2 e2 (by rw [len_fst e1, len_fst e2]; omega) (small_fst e1 HIa.out) (small_fst e2 HIb.out)
    rw [jn_join hn64] at h
    refine h.mono ?_
    rintro e w' ⟨u', qs', he, h3, h4, _, h5⟩
    exact ⟨u', qs', he, h3, h4, h5⟩
  have HJR : Hid ((joinL qk ⟨pa.map (·.1), n1, hs1, ⟨vt1, vn1, vs1⟩⟩ ⟨pb.map (·.1), n2, hs2, ⟨vt2, vn2, vs2⟩⟩).rows = pa.map (·.1) ++ pb.map (·.1) ∨ (joinL qk ⟨pa.map (·.1), n1, hs1, ⟨vt1, vn1, vs1⟩⟩ ⟨pb.map (·.1), n2, hs2, ⟨vt2, vn2, vs2⟩⟩).rows = []) := joinL_rows _ _ _
  generalize joinL qk ⟨pa.map (·.1), n1, hs1, ⟨vt1, vn1, vs1⟩⟩ ⟨pb.map (·.1), n2, hs2, ⟨vt2, vn2, vs2⟩⟩ = J at HSJ HIJ HJR
  obtain ⟨Jr, Jn, Jh, ⟨Jt, Jv, Js⟩⟩ := J
  simp only at HSJ HIJ HJR
  have hkab : pa.length + pb.length ≤ 1048576 := by omega
  have HRA : Hid (rlen pa + rlen pb ≤ 3145728) := by
    show _ ≤ _
    have h1 := rlen_le pa
    have h2 := rlen_le pb
    omega
  have HGJ : Hid (∀ q : List P, q.map (·.1) = Jr → q.length ≤ 1048576 ∧ rlen q ≤ 16777216) := fun q hq => by
    have hl : q.length = Jr.length := by rw [← hq, List.length_map]
    rw [rlen_R, hq, hl]
    have h3 := HRA.out
    rw [rlen_R, rlen_R] at h3
    rcases HJR.out with h | h
    · rw [h, List.length_append, List.length_map, List.length_map, rlenR_app]
      exact ⟨hkab, by omega⟩
    · rw [h]
      simp [rlenR]
  clear hka hkb
  have HKS : Hid (∀ W, Below w3.heap.size w3 W → W.cell? ⟨w.heap.size, 0, none⟩ = some (.int .i64 qk) ∧ W.cell? ⟨w.heap.size, 1, none⟩ = some (.int .i64 t.kind) ∧ W.cell? ⟨w.heap.size, 2, none⟩ = some (.int .i64 t.col) ∧ W.cell? ⟨w.heap.size, 3, none⟩ = some (.int .i64 t.op) ∧ W.cell? ⟨w.heap.size, 4, none⟩ = some (.int .i64 t.v.ty) ∧ W.cell? ⟨w.heap.size, 5, none⟩ = some (.int .i64 t.v.n) ∧ W.cell? ⟨w.heap.size, 6, none⟩ = some (.string t.v.s) ∧ W.cell? ⟨w.heap.size, 7, none⟩ = some (u) ∧ W.cell? ⟨w.heap.size, 8, none⟩ = some (.int .i64 qc) ∧ W.cell? ⟨w.heap.size, 9, none⟩ = some (.slice a len cap) ∧ W.cell? ⟨w.heap.size + 1, 0, none⟩ = some (.slice aa lena capa) ∧ W.cell? ⟨w.heap.size + 1, 1, none⟩ = some (.int .i64 n1) ∧ W.cell? ⟨w.heap.size + 1, 2, none⟩ = some (.bool hs1) ∧ W.cell? ⟨w.heap.size + 1, 3, none⟩ = some (.int .i64 vt1) ∧ W.cell? ⟨w.heap.size + 1, 4, none⟩ = some (.int .i64 vn1) ∧ W.cell? ⟨w.heap.size + 1, 5, none⟩ = some (.string vs1) ∧ W.cell? ⟨w.heap.size + 1 + 1, 0, none⟩ = some (.slice ba lenb capb) ∧ W.cell? ⟨w.heap.size + 1 + 1, 1, none⟩ = some (.int .i64 n2) ∧ W.cell? ⟨w.heap.size + 1 + 1, 2, none⟩ = some (.bool hs2) ∧ W.cell? ⟨w.heap.size + 1 + 1, 3, none⟩ = some (.int .i64 vt2) ∧ W.cell? ⟨w.heap.size + 1 + 1, 4, none⟩ = some (.int .i64 vn2) ∧ W.cell? ⟨w.heap.size + 1 + 1, 5, none⟩ = some (.string vs2)) := fun W h => ⟨(C0.below h 0 _ rfl).1, (C0.below h 1 _ rfl).1, (C0.below h 2 _ rfl).1, (C0.below h 3 _ rfl).1, (C0.below h 4 _ rfl).1, (C0.below h 5 _ rfl).1, (C0.below h 6 _ rfl).1, (C0.below h 7 _ rfl).1, (C0.below h 8 _ rfl).1, (C0.below h 9 _ rfl).1, (CA.below h 0 _ rfl).1, (CA.below h 1 _ rfl).1, (CA.below h 2 _ rfl).1, (CA.below h 3 _ rfl).1, (CA.below h 4 _ rfl).1, (CA.below h 5 _ rfl).1, (CB.below h 0 _ rfl).1, (CB.below h 1 _ rfl).1, (CB.below h 2 _ rfl).1, (CB.below h 3 _ rfl).1, (CB.below h 4 _ rfl).1, (CB.below h 5 _ rfl).1⟩
  have HTQ := Lib.hid (fun W (hW : Below w3.heap.size w3 W) => toQuery qk qc t zs u a len cap W (by have := HBK.out; omega) (by omega) (hr.below (below_then bt hW (by omega))) (ha.below (below_then bt hW (by omega))))
  have HTA := Lib.hid (fun W (hW : Below w3.heap.size w3 W) => toResult n1 hs1 vt1 vn1 vs1 aa lena capa pa W hma HIa.out (hA.below (below_then bt hW (by omega))))
  have HTB := Lib.hid (fun W (hW : Below w3.heap.size w3 W) => toResult n2 hs2 vt2 vn2 vs2 ba lenb capb pb W hmb HIb.out (hB.below (below_then bt hW (by omega))))
  go_wp2_with fail
  refine wp_via (fun a' w' => ∃ (Nw : Nat) (uw : Value) (qsw : List P) (xw yw : Nat), a' = ⟨#[slot a' 0, slot a' 1, slot a' 2, .pointer (some ⟨w.heap.size, 0, none⟩), .pointer (some ⟨w.heap.size + 1, 0, none⟩), .pointer (some ⟨w.heap.size + 1 + 1, 0, none⟩), .bool false, slot a' 7, .pointer (some ⟨Nw, 0, none⟩), slot a' 9, slot a' 10, slot a' 11, slot a' 12, slot a' 13, slot a' 14, slot a' 15, slot a' 16, slot a' 17, slot a' 18, slot a' 19, slot a' 20, slot a' 21, slot a' 22, slot a' 23, slot a' 24, slot a' 25, slot a' 26, slot a' 27, slot a' 28, slot a' 29, slot a' 30, slot a' 31, slot a' 32, slot a' 33, slot a' 34, slot a' 35, slot a' 36, slot a' 37, slot a' 38, slot a' 39, slot a' 40, slot a' 41, slot a' 42, slot a' 43, slot a' 44, slot a' 45, slot a' 46, slot a' 47, slot a' 48, slot a' 49, slot a' 50, slot a' 51, slot a' 52, slot a' 53, slot a' 54, slot a' 55, slot a' 56, slot a' 57, slot a' 58, slot a' 59, slot a' 60, slot a' 61, slot a' 62, slot a' 63, slot a' 64, slot a' 65, slot a' 66, slot a' 67, slot a' 68, slot a' 69, slot a' 70, slot a' 71, slot a' 72, slot a' 73, slot a' 74, slot a' 75, slot a' 76, slot a' 77, slot a' 78, slot a' 79, slot a' 80, slot a' 81, slot a' 82, slot a' 83, slot a' 84, slot a' 85, slot a' 86, slot a' 87, slot a' 88, slot a' 89, slot a' 90, slot a' 91, slot a' 92, slot a' 93, slot a' 94, slot a' 95, slot a' 96, slot a' 97, slot a' 98, slot a' 99, slot a' 100, slot a' 101, slot a' 102, slot a' 103, slot a' 104, slot a' 105, slot a' 106, slot a' 107, slot a' 108, slot a' 109, slot a' 110, slot a' 111, slot a' 112, slot a' 113, slot a' 114], []⟩ ∧ Blk w' Nw [uw, .int .i64 Jn, .bool Jh, .int .i64 Jt, .int .i64 Jv, .string Js] ∧ MyRs xw yw w' uw qsw ∧ qsw.map (·.1) = Jr ∧ Below w3.heap.size w3 w' ∧ w3.heap.size ≤ Nw ∧ Nw < w'.heap.size ∧ w3.heap.size ≤ xw ∧ yw ≤ w'.heap.size ∧ (Nw < xw ∨ yw ≤ Nw)) ?_ ?_
  · skip
    refine wp_region_held_drew (S := fun W => W.cell? ⟨w.heap.size, 0, none⟩ = some (.int .i64 qk) ∧ W.cell? ⟨w.heap.size, 1, none⟩ = some (.int .i64 t.kind) ∧ W.cell? ⟨w.heap.size, 2, none⟩ = some (.int .i64 t.col) ∧ W.cell? ⟨w.heap.size, 3, none⟩ = some (.int .i64 t.op) ∧ W.cell? ⟨w.heap.size, 4, none⟩ = some (.int .i64 t.v.ty) ∧ W.cell? ⟨w.heap.size, 5, none⟩ = some (.int .i64 t.v.n) ∧ W.cell? ⟨w.heap.size, 6, none⟩ = some (.string t.v.s) ∧ W.cell? ⟨w.heap.size, 7, none⟩ = some (u) ∧ W.cell? ⟨w.heap.size, 8, none⟩ = some (.int .i64 qc) ∧ W.cell? ⟨w.heap.size, 9, none⟩ = some (.slice a len cap) ∧ W.cell? ⟨w.heap.size + 1, 0, none⟩ = some (.slice aa lena capa) ∧ W.cell? ⟨w.heap.size + 1, 1, none⟩ = some (.int .i64 n1) ∧ W.cell? ⟨w.heap.size + 1, 2, none⟩ = some (.bool hs1) ∧ W.cell? ⟨w.heap.size + 1, 3, none⟩ = some (.int .i64 vt1) ∧ W.cell? ⟨w.heap.size + 1, 4, none⟩ = some (.int .i64 vn1) ∧ W.cell? ⟨w.heap.size + 1, 5, none⟩ = some (.string vs1) ∧ W.cell? ⟨w.heap.size + 1 + 1, 0, none⟩ = some (.slice ba lenb capb) ∧ W.cell? ⟨w.heap.size + 1 + 1, 1, none⟩ = some (.int .i64 n2) ∧ W.cell? ⟨w.heap.size + 1 + 1, 2, none⟩ = some (.bool hs2) ∧ W.cell? ⟨w.heap.size + 1 + 1, 3, none⟩ = some (.int .i64 vt2) ∧ W.cell? ⟨w.heap.size + 1 + 1, 4, none⟩ = some (.int .i64 vn2) ∧ W.cell? ⟨w.heap.size + 1 + 1, 5, none⟩ = some (.string vs2)) (by kernel_rfl) (HKS.out _ (Below.refl w3.heap.size w3).drew) (fun hH => ?_)
    have BT := (Below.refl w3.heap.size w3).drew
    have z0 : w3.heap.size ≤ w3.drew.heap.size := BT.size
    generalize w3.drew = g0 at BT z0 hH ⊢
    refine takeH (i := 0) (d := some 32) (v := .agg #[.int .i64 qk, .int .i64 t.kind, .int .i64 t.col, .int .i64 t.op, .int .i64 t.v.ty, .int .i64 t.v.n, .string t.v.s, u, .int .i64 qc, .slice a len cap]) rfl rfl (by kernel_rfl) (by kernel_rfl) (by kernel_rfl) (fun _ _ _ h => h) (Or.inl ⟨by rfl, fun W hSw => by obtain ⟨s0, s1, s2, s3, s4, s5, s6, s7, s8, s9, s10, s11, s12, s13, s14, s15, s16, s17, s18, s19, s20, s21⟩ := hSw; go_simp⟩) hH ?_
    try simp only [put_some, List.set_cons_zero, List.set_cons_succ]
    refine takeH (i := 2) (d := some 34) (v := .agg #[.slice aa lena capa, .int .i64 n1, .bool hs1, .int .i64 vt1, .int .i64 vn1, .string vs1]) rfl rfl (by kernel_rfl) (by kernel_rfl) (by kernel_rfl) (fun _ _ _ h => h) (Or.inl ⟨by rfl, fun W hSw => by obtain ⟨s0, s1, s2, s3, s4, s5, s6, s7, s8, s9, s10, s11, s12, s13, s14, s15, s16, s17, s18, s19, s20, s21⟩ := hSw; go_simp⟩) hH ?_
    try simp only [put_some, List.set_cons_zero, List.set_cons_succ]
    refine takeH (i := 4) (d := some 36) (v := .agg #[.slice ba lenb capb, .int .i64 n2, .bool hs2, .int .i64 vt2, .int .i64 vn2, .string vs2]) rfl rfl (by kernel_rfl) (by kernel_rfl) (by kernel_rfl) (fun _ _ _ h => h) (Or.inl ⟨by rfl, fun W hSw => by obtain ⟨s0, s1, s2, s3, s4, s5, s6, s7, s8, s9, s10, s11, s12, s13, s14, s15, s16, s17, s18, s19, s20, s21⟩ := hSw; go_simp⟩) hH ?_
    try simp only [put_some, List.set_cons_zero, List.set_cons_succ]
    refine wpAnyH_ready (rs := [1, 7]) (by kernel_rfl) (by simp) ?_
    refine AllReadyH.cons rfl (fun K hK => ?_) (AllReadyH.cons rfl (fun K hK => ?_) AllReadyH.nil)
    · skip
      refine step_of rfl ?_
      refine callTQ_op _ rfl _ _ rfl (.agg #[.int .i64 qk, .int .i64 t.kind, .int .i64 t.col, .int .i64 t.op, .int .i64 t.v.ty, .int .i64 t.v.n, .string t.v.s, u, .int .i64 qc, .slice a len cap]) rfl ((HTQ.out _ BT).mono ?_)
      rintro e gc1 ⟨uq, oo, rfl, oq, hb⟩
      have zc0 := hb.size
      replace BT := below_then BT hb BT.size
      clear hb
      obtain ⟨qa1, qc1, qg1, qd1, e1, e2⟩ := oq.sl
      subst e1 e2
      refine ⟨_, rfl, ?_⟩
      try simp only [put_some, List.set_cons_zero, List.set_cons_succ]
      refine hK.out _ _ (HKS.out _ BT) (fun hH => ?_)
      clear hK K
      refine wpAnyH_ready (rs := [3, 7]) (by kernel_rfl) (by simp) ?_
      refine AllReadyH.cons rfl (fun K hK => ?_) (AllReadyH.cons rfl (fun K hK => ?_) AllReadyH.nil)
      · skip
        refine step_of rfl ?_
        refine callTR_op _ rfl _ _ rfl (.agg #[.slice aa lena capa, .int .i64 n1, .bool hs1, .int .i64 vt1, .int .i64 vn1, .string vs1]) rfl ((HTA.out _ BT).mono ?_)
        rintro e gc2 ⟨uA, rfl, qA, oA, eA, hb⟩
        have zc1 := hb.size
        replace oq := oq.below hb (by omega)
        replace BT := below_then BT hb BT.size
        clear hb
        obtain ⟨ra1, rc1, e1⟩ := oA.1.sl
        subst e1
        refine ⟨_, rfl, ?_⟩
        try simp only [put_some, List.set_cons_zero, List.set_cons_succ]
        refine hK.out _ _ (HKS.out _ BT) (fun hH => ?_)
        clear hK K
        refine wpAnyH_ready (rs := [5, 7]) (by kernel_rfl) (by simp) ?_
        refine AllReadyH.cons rfl (fun K hK => ?_) (AllReadyH.cons rfl (fun K hK => ?_) AllReadyH.nil)
        · skip
          refine step_of rfl ?_
          refine callTR_op _ rfl _ _ rfl (.agg #[.slice ba lenb capb, .int .i64 n2, .bool hs2, .int .i64 vt2, .int .i64 vn2, .string vs2]) rfl ((HTB.out _ BT).mono ?_)
          rintro e gc3 ⟨uB, rfl, qB, oB, eB, hb⟩
          have zc2 := hb.size
          replace oq := oq.below hb (by omega)
          replace oA := oA.below hb (by omega)
          replace BT := below_then BT hb BT.size
          clear hb
          obtain ⟨rb1, rd1, e1⟩ := oB.1.sl
          subst e1
          refine ⟨_, rfl, ?_⟩
          try simp only [put_some, List.set_cons_zero, List.set_cons_succ]
          refine hK.out _ _ (HKS.out _ BT) (fun hH => ?_)
          clear hK K
          refine wpAnyH_ready (rs := [6, 7]) (by kernel_rfl) (by simp) ?_
          refine AllReadyH.cons rfl (fun K hK => ?_) (AllReadyH.cons rfl (fun K hK => ?_) AllReadyH.nil)
          · skip
            refine step_of rfl ?_
            refine callSJ_op _ rfl _ _ _ _ _ _ rfl _ _ _ rfl rfl rfl ((HSJ.out _ _ _ _ _ _ _ _ _ _ _ _ _ qA qB oA.rdN eA oB.rdN eB).mono ?_)
            rintro e gc4 ⟨uJ, qJ, rfl, oJ, eJ, hb⟩
            have zc3 := hb.size
            replace oq := oq.below hb (by omega)
            replace oA := oA.below hb (by omega)
            replace oB := oB.below hb (by omega)
            replace BT := below_then BT hb BT.size
            clear hb
            obtain ⟨rj1, rk1, e1⟩ := oJ.1.sl
            subst e1
            refine ⟨_, rfl, ?_⟩
            try simp only [put_some, List.set_cons_zero, List.set_cons_succ]
            refine hK.out _ _ (HKS.out _ BT) (fun hH => ?_)
            clear hK K
            refine wpAnyH_ready (rs := [7]) (by kernel_rfl) (by simp) ?_
            refine AllReadyH.cons rfl (fun K hK => ?_) AllReadyH.nil
            have A0 := below_alloc gc4 (.cells #[.slice none 0 0, .int .i64 0, .bool false, .int .i64 0, .int .i64 0, .string ⟨#[]⟩] 50)
            have CN := blk_new gc4 [.slice none 0 0, .int .i64 0, .bool false, .int .i64 0, .int .i64 0, .string ⟨#[]⟩] 50
            have hzn : (gc4.alloc (.cells #[.slice none 0 0, .int .i64 0, .bool false, .int .i64 0, .int .i64 0, .string ⟨#[]⟩] 50)).heap.size = gc4.heap.size + 1 := World.size_alloc _ _
            replace oq := oq.below A0 (by omega)
            replace oA := oA.below A0 (by omega)
            replace oB := oB.below A0 (by omega)
            replace oJ := oJ.below A0 (by omega)
            replace BT := below_then BT A0 BT.size
            refine step_of rfl ?_
            refine allocR_op _ rfl rfl ?_
            try simp only [put_some, List.set_cons_zero, List.set_cons_succ]
            refine hK.out _ _ (HKS.out _ BT) (fun hH => ?_)
            clear hK K A0
            generalize hnn : gc4.heap.size = NN at CN hzn ⊢
            generalize gc4.alloc (.cells #[.slice none 0 0, .int .i64 0, .bool false, .int .i64 0, .int .i64 0, .string ⟨#[]⟩] 50) = ga5 at BT CN hzn hH oq oA oB oJ ⊢
            refine wpAnyH_ready (rs := [8]) (by kernel_rfl) (by simp) ?_
            refine AllReadyH.cons rfl (fun K hK => ?_) AllReadyH.nil
            have CN1 := (((((CN.set 0 (.slice rj1 qJ.length rk1)).set 1 (.int .i64 Jn)).set 2 (.bool Jh)).set 3 (.int .i64 Jt)).set 4 (.int .i64 Jv)).set 5 (.string Js)
            have hlw : NN < ga5.heap.size := CN.lt
            have WN := ((((((Within.refl NN (NN + 1) ga5).trans (within_set _ NN 0 (.slice rj1 qJ.length rk1))).trans (within_set _ NN 1 (.int .i64 Jn))).trans (within_set _ NN 2 (.bool Jh))).trans (within_set _ NN 3 (.int .i64 Jt))).trans (within_set _ NN 4 (.int .i64 Jv))).trans (within_set _ NN 5 (.string Js))
            have oJ2 := oJ.within WN (by omega)
            have BT2 := BT.trans (WN.below (B := w3.heap.size) (by omega) (by have := BT.size; omega))
            have hsz := WN.2.2.2.1
            refine step_of rfl ?_
            refine storeR_op 8 38 rfl rfl NN (.slice none 0 0) (.int .i64 0) (.bool false) (.int .i64 0) (.int .i64 0) (.string ⟨#[]⟩) rj1 qJ.length rk1 Jn Jt Jv Jh Js rfl rfl CN ?_
            refine hK.out _ _ (HKS.out _ BT2) (fun hH => ?_)
            clear hK K
            refine wpAnyH_done (by kernel_rfl) ?_ _
            exact ⟨NN, .slice rj1 qJ.length rk1, qJ, _, _, by kernel_rfl, CN1, oJ2, eJ, BT2, by omega, by omega, by omega, by omega, by omega⟩
          · skip
            have A0 := below_alloc gc3 (.cells #[.slice none 0 0, .int .i64 0, .bool false, .int .i64 0, .int .i64 0, .string ⟨#[]⟩] 50)
            have CN := blk_new gc3 [.slice none 0 0, .int .i64 0, .bool false, .int .i64 0, .int .i64 0, .string ⟨#[]⟩] 50
            have hzn : (gc3.alloc (.cells #[.slice none 0 0, .int .i64 0, .bool false, .int .i64 0, .int .i64 0, .string ⟨#[]⟩] 50)).heap.size = gc3.heap.size + 1 := World.size_alloc _ _
            replace oq := oq.below A0 (by omega)
            replace oA := oA.below A0 (by omega)
            replace oB := oB.below A0 (by omega)
            replace BT := below_then BT A0 BT.size
            refine step_of rfl ?_
            refine allocR_op _ rfl rfl ?_
            try simp only [put_some, List.set_cons_zero, List.set_cons_succ]
            refine hK.out _ _ (HKS.out _ BT) (fun hH => ?_)
            clear hK K A0
            generalize hnn : gc3.heap.size = NN at CN hzn ⊢
            generalize gc3.alloc (.cells #[.slice none 0 0, .int .i64 0, .bool false, .int .i64 0, .int .i64 0, .string ⟨#[]⟩] 50) = ga6 at BT CN hzn hH oq oA oB ⊢
            refine wpAnyH_ready (rs := [6]) (by kernel_rfl) (by simp) ?_
            refine AllReadyH.cons rfl (fun K hK => ?_) AllReadyH.nil
            refine step_of rfl ?_
            refine callSJ_op _ rfl _ _ _ _ _ _ rfl _ _ _ rfl rfl rfl ((HSJ.out _ _ _ _ _ _ _ _ _ _ _ _ _ qA qB oA.rdN eA oB.rdN eB).mono ?_)
            rintro e gc7 ⟨uJ, qJ, rfl, oJ, eJ, hb⟩
            have zc3 := hb.size
            replace oq := oq.below hb (by omega)
            replace oA := oA.below hb (by omega)
            replace oB := oB.below hb (by omega)
            replace CN := CN.below hb
            replace BT := below_then BT hb BT.size
            clear hb
            obtain ⟨rj1, rk1, e1⟩ := oJ.1.sl
            subst e1
            refine ⟨_, rfl, ?_⟩
            try simp only [put_some, List.set_cons_zero, List.set_cons_succ]
            refine hK.out _ _ (HKS.out _ BT) (fun hH => ?_)
            clear hK K
            refine wpAnyH_ready (rs := [8]) (by kernel_rfl) (by simp) ?_
            refine AllReadyH.cons rfl (fun K hK => ?_) AllReadyH.nil
            have CN1 := (((((CN.set 0 (.slice rj1 qJ.length rk1)).set 1 (.int .i64 Jn)).set 2 (.bool Jh)).set 3 (.int .i64 Jt)).set 4 (.int .i64 Jv)).set 5 (.string Js)
            have hlw : NN < gc7.heap.size := CN.lt
            have WN := ((((((Within.refl NN (NN + 1) gc7).trans (within_set _ NN 0 (.slice rj1 qJ.length rk1))).trans (within_set _ NN 1 (.int .i64 Jn))).trans (within_set _ NN 2 (.bool Jh))).trans (within_set _ NN 3 (.int .i64 Jt))).trans (within_set _ NN 4 (.int .i64 Jv))).trans (within_set _ NN 5 (.string Js))
            have oJ2 := oJ.within WN (by omega)
            have BT2 := BT.trans (WN.below (B := w3.heap.size) (by omega) (by have := BT.size; omega))
            have hsz := WN.2.2.2.1
            refine step_of rfl ?_
            refine storeR_op 8 38 rfl rfl NN (.slice none 0 0) (.int .i64 0) (.bool false) (.int .i64 0) (.int .i64 0) (.string ⟨#[]⟩) rj1 qJ.length rk1 Jn Jt Jv Jh Js rfl rfl CN ?_
            refine hK.out _ _ (HKS.out _ BT2) (fun hH => ?_)
            clear hK K
            refine wpAnyH_done (by kernel_rfl) ?_ _
            exact ⟨NN, .slice rj1 qJ.length rk1, qJ, _, _, by kernel_rfl, CN1, oJ2, eJ, BT2, by omega, by omega, by omega, by omega, by omega⟩
        · skip
          have A0 := below_alloc gc2 (.cells #[.slice none 0 0, .int .i64 0, .bool false, .int .i64 0, .int .i64 0, .string ⟨#[]⟩] 50)
          have CN := blk_new gc2 [.slice none 0 0, .int .i64 0, .bool false, .int .i64 0, .int .i64 0, .string ⟨#[]⟩] 50
          have hzn : (gc2.alloc (.cells #[.slice none 0 0, .int .i64 0, .bool false, .int .i64 0, .int .i64 0, .string ⟨#[]⟩] 50)).heap.size = gc2.heap.size + 1 := World.size_alloc _ _
          replace oq := oq.below A0 (by omega)
          replace oA := oA.below A0 (by omega)
          replace BT := below_then BT A0 BT.size
          refine step_of rfl ?_
          refine allocR_op _ rfl rfl ?_
          try simp only [put_some, List.set_cons_zero, List.set_cons_succ]
          refine hK.out _ _ (HKS.out _ BT) (fun hH => ?_)
          clear hK K A0
          generalize hnn : gc2.heap.size = NN at CN hzn ⊢
          generalize gc2.alloc (.cells #[.slice none 0 0, .int .i64 0, .bool false, .int .i64 0, .int .i64 0, .string ⟨#[]⟩] 50) = ga8 at BT CN hzn hH oq oA ⊢
          refine wpAnyH_ready (rs := [5]) (by kernel_rfl) (by simp) ?_
          refine AllReadyH.cons rfl (fun K hK => ?_) AllReadyH.nil
          refine step_of rfl ?_
          refine callTR_op _ rfl _ _ rfl (.agg #[.slice ba lenb capb, .int .i64 n2, .bool hs2, .int .i64 vt2, .int .i64 vn2, .string vs2]) rfl ((HTB.out _ BT).mono ?_)
          rintro e gc9 ⟨uB, rfl, qB, oB, eB, hb⟩
          have zc2 := hb.size
          replace oq := oq.below hb (by omega)
          replace oA := oA.below hb (by omega)
          replace CN := CN.below hb
          replace BT := below_then BT hb BT.size
          clear hb
          obtain ⟨rb1, rd1, e1⟩ := oB.1.sl
          subst e1
          refine ⟨_, rfl, ?_⟩
          try simp only [put_some, List.set_cons_zero, List.set_cons_succ]
          refine hK.out _ _ (HKS.out _ BT) (fun hH => ?_)
          clear hK K
          refine wpAnyH_ready (rs := [6]) (by kernel_rfl) (by simp) ?_
          refine AllReadyH.cons rfl (fun K hK => ?_) AllReadyH.nil
          refine step_of rfl ?_
          refine callSJ_op _ rfl _ _ _ _ _ _ rfl _ _ _ rfl rfl rfl ((HSJ.out _ _ _ _ _ _ _ _ _ _ _ _ _ qA qB oA.rdN eA oB.rdN eB).mono ?_)
          rintro e gc10 ⟨uJ, qJ, rfl, oJ, eJ, hb⟩
          have zc3 := hb.size
          replace oq := oq.below hb (by omega)
          replace oA := oA.below hb (by omega)
          replace oB := oB.below hb (by omega)
          replace CN := CN.below hb
          replace BT := below_then BT hb BT.size
          clear hb
          obtain ⟨rj1, rk1, e1⟩ := oJ.1.sl
          subst e1
          refine ⟨_, rfl, ?_⟩
          try simp only [put_some, List.set_cons_zero, List.set_cons_succ]
          refine hK.out _ _ (HKS.out _ BT) (fun hH => ?_)
          clear hK K
          refine wpAnyH_ready (rs := [8]) (by kernel_rfl) (by simp) ?_
          refine AllReadyH.cons rfl (fun K hK => ?_) AllReadyH.nil
          have CN1 := (((((CN.set 0 (.slice rj1 qJ.length rk1)).set 1 (.int .i64 Jn)).set 2 (.bool Jh)).set 3 (.int .i64 Jt)).set 4 (.int .i64 Jv)).set 5 (.string Js)
          have hlw : NN < gc10.heap.size := CN.lt
          have WN := ((((((Within.refl NN (NN + 1) gc10).trans (within_set _ NN 0 (.slice rj1 qJ.length rk1))).trans (within_set _ NN 1 (.int .i64 Jn))).trans (within_set _ NN 2 (.bool Jh))).trans (within_set _ NN 3 (.int .i64 Jt))).trans (within_set _ NN 4 (.int .i64 Jv))).trans (within_set _ NN 5 (.string Js))
          have oJ2 := oJ.within WN (by omega)
          have BT2 := BT.trans (WN.below (B := w3.heap.size) (by omega) (by have := BT.size; omega))
          have hsz := WN.2.2.2.1
          refine step_of rfl ?_
          refine storeR_op 8 38 rfl rfl NN (.slice none 0 0) (.int .i64 0) (.bool false) (.int .i64 0) (.int .i64 0) (.string ⟨#[]⟩) rj1 qJ.length rk1 Jn Jt Jv Jh Js rfl rfl CN ?_
          refine hK.out _ _ (HKS.out _ BT2) (fun hH => ?_)
          clear hK K
          refine wpAnyH_done (by kernel_rfl) ?_ _
          exact ⟨NN, .slice rj1 qJ.length rk1, qJ, _, _, by kernel_rfl, CN1, oJ2, eJ, BT2, by omega, by omega, by omega, by omega, by omega⟩
      · skip
        have A0 := below_alloc gc1 (.cells #[.slice none 0 0, .int .i64 0, .bool false, .int .i64 0, .int .i64 0, .string ⟨#[]⟩] 50)
        have CN := blk_new gc1 [.slice none 0 0, .int .i64 0, .bool false, .int .i64 0, .int .i64 0, .string ⟨#[]⟩] 50
        have hzn : (gc1.alloc (.cells #[.slice none 0 0, .int .i64 0, .bool false, .int .i64 0, .int .i64 0, .string ⟨#[]⟩] 50)).heap.size = gc1.heap.size + 1 := World.size_alloc _ _
        replace oq := oq.below A0 (by omega)
        replace BT := below_then BT A0 BT.size
        refine step_of rfl ?_
        refine allocR_op _ rfl rfl ?_
        try simp only [put_some, List.set_cons_zero, List.set_cons_succ]
        refine hK.out _ _ (HKS.out _ BT) (fun hH => ?_)
        clear hK K A0
        generalize hnn : gc1.heap.size = NN at CN hzn ⊢
        generalize gc1.alloc (.cells #[.slice none 0 0, .int .i64 0, .bool false, .int .i64 0, .int .i64 0, .string ⟨#[]⟩] 50) = ga11 at BT CN hzn hH oq ⊢
        refine wpAnyH_ready (rs := [3]) (by kernel_rfl) (by simp) ?_
        refine AllReadyH.cons rfl (fun K hK => ?_) AllReadyH.nil
        refine step_of rfl ?_
        refine callTR_op _ rfl _ _ rfl (.agg #[.slice aa lena capa, .int .i64 n1, .bool hs1, .int .i64 vt1, .int .i64 vn1, .string vs1]) rfl ((HTA.out _ BT).mono ?_)
        rintro e gc12 ⟨uA, rfl, qA, oA, eA, hb⟩
        have zc1 := hb.size
        replace oq := oq.below hb (by omega)
        replace CN := CN.below hb
        replace BT := below_then BT hb BT.size
        clear hb
        obtain ⟨ra1, rc1, e1⟩ := oA.1.sl
        subst e1
        refine ⟨_, rfl, ?_⟩
        try simp only [put_some, List.set_cons_zero, List.set_cons_succ]
        refine hK.out _ _ (HKS.out _ BT) (fun hH => ?_)
        clear hK K
        refine wpAnyH_ready (rs := [5]) (by kernel_rfl) (by simp) ?_
        refine AllReadyH.cons rfl (fun K hK => ?_) AllReadyH.nil
        refine step_of rfl ?_
        refine callTR_op _ rfl _ _ rfl (.agg #[.slice ba lenb capb, .int .i64 n2, .bool hs2, .int .i64 vt2, .int .i64 vn2, .string vs2]) rfl ((HTB.out _ BT).mono ?_)
        rintro e gc13 ⟨uB, rfl, qB, oB, eB, hb⟩
        have zc2 := hb.size
        replace oq := oq.below hb (by omega)
        replace oA := oA.below hb (by omega)
        replace CN := CN.below hb
        replace BT := below_then BT hb BT.size
        clear hb
        obtain ⟨rb1, rd1, e1⟩ := oB.1.sl
        subst e1
        refine ⟨_, rfl, ?_⟩
        try simp only [put_some, List.set_cons_zero, List.set_cons_succ]
        refine hK.out _ _ (HKS.out _ BT) (fun hH => ?_)
        clear hK K
        refine wpAnyH_ready (rs := [6]) (by kernel_rfl) (by simp) ?_
        refine AllReadyH.cons rfl (fun K hK => ?_) AllReadyH.nil
        refine step_of rfl ?_
        refine callSJ_op _ rfl _ _ _ _ _ _ rfl _ _ _ rfl rfl rfl ((HSJ.out _ _ _ _ _ _ _ _ _ _ _ _ _ qA qB oA.rdN eA oB.rdN eB).mono ?_)
        rintro e gc14 ⟨uJ, qJ, rfl, oJ, eJ, hb⟩
        have zc3 := hb.size
        replace oq := oq.below hb (by omega)
        replace oA := oA.below hb (by omega)
        replace oB := oB.below hb (by omega)
        replace CN := CN.below hb
        replace BT := below_then BT hb BT.size
        clear hb
        obtain ⟨rj1, rk1, e1⟩ := oJ.1.sl
        subst e1
        refine ⟨_, rfl, ?_⟩
        try simp only [put_some, List.set_cons_zero, List.set_cons_succ]
        refine hK.out _ _ (HKS.out _ BT) (fun hH => ?_)
        clear hK K
        refine wpAnyH_ready (rs := [8]) (by kernel_rfl) (by simp) ?_
        refine AllReadyH.cons rfl (fun K hK => ?_) AllReadyH.nil
        have CN1 := (((((CN.set 0 (.slice rj1 qJ.length rk1)).set 1 (.int .i64 Jn)).set 2 (.bool Jh)).set 3 (.int .i64 Jt)).set 4 (.int .i64 Jv)).set 5 (.string Js)
        have hlw : NN < gc14.heap.size := CN.lt
        have WN := ((((((Within.refl NN (NN + 1) gc14).trans (within_set _ NN 0 (.slice rj1 qJ.length rk1))).trans (within_set _ NN 1 (.int .i64 Jn))).trans (within_set _ NN 2 (.bool Jh))).trans (within_set _ NN 3 (.int .i64 Jt))).trans (within_set _ NN 4 (.int .i64 Jv))).trans (within_set _ NN 5 (.string Js))
        have oJ2 := oJ.within WN (by omega)
        have BT2 := BT.trans (WN.below (B := w3.heap.size) (by omega) (by have := BT.size; omega))
        have hsz := WN.2.2.2.1
        refine step_of rfl ?_
        refine storeR_op 8 38 rfl rfl NN (.slice none 0 0) (.int .i64 0) (.bool false) (.int .i64 0) (.int .i64 0) (.string ⟨#[]⟩) rj1 qJ.length rk1 Jn Jt Jv Jh Js rfl rfl CN ?_
        refine hK.out _ _ (HKS.out _ BT2) (fun hH => ?_)
        clear hK K
        refine wpAnyH_done (by kernel_rfl) ?_ _
        exact ⟨NN, .slice rj1 qJ.length rk1, qJ, _, _, by kernel_rfl, CN1, oJ2, eJ, BT2, by omega, by omega, by omega, by omega, by omega⟩
    · skip
      have A0 := below_alloc g0 (.cells #[.slice none 0 0, .int .i64 0, .bool false, .int .i64 0, .int .i64 0, .string ⟨#[]⟩] 50)
      have CN := blk_new g0 [.slice none 0 0, .int .i64 0, .bool false, .int .i64 0, .int .i64 0, .string ⟨#[]⟩] 50
      have hzn : (g0.alloc (.cells #[.slice none 0 0, .int .i64 0, .bool false, .int .i64 0, .int .i64 0, .string ⟨#[]⟩] 50)).heap.size = g0.heap.size + 1 := World.size_alloc _ _
      replace BT := below_then BT A0 BT.size
      refine step_of rfl ?_
      refine allocR_op _ rfl rfl ?_
      try simp only [put_some, List.set_cons_zero, List.set_cons_succ]
      refine hK.out _ _ (HKS.out _ BT) (fun hH => ?_)
      clear hK K A0
      generalize hnn : g0.heap.size = NN at CN hzn ⊢
      generalize g0.alloc (.cells #[.slice none 0 0, .int .i64 0, .bool false, .int .i64 0, .int .i64 0, .string ⟨#[]⟩] 50) = ga15 at BT CN hzn hH  ⊢
      refine wpAnyH_ready (rs := [1]) (by kernel_rfl) (by simp) ?_
      refine AllReadyH.cons rfl (fun K hK => ?_) AllReadyH.nil
      refine step_of rfl ?_
      refine callTQ_op _ rfl _ _ rfl (.agg #[.int .i64 qk, .int .i64 t.kind, .int .i64 t.col, .int .i64 t.op, .int .i64 t.v.ty, .int .i64 t.v.n, .string t.v.s, u, .int .i64 qc, .slice a len cap]) rfl ((HTQ.out _ BT).mono ?_)
      rintro e gc16 ⟨uq, oo, rfl, oq, hb⟩
      have zc0 := hb.size
      replace CN := CN.below hb
      replace BT := below_then BT hb BT.size
      clear hb
      obtain ⟨qa1, qc1, qg1, qd1, e1, e2⟩ := oq.sl
      subst e1 e2
      refine ⟨_, rfl, ?_⟩
      try simp only [put_some, List.set_cons_zero, List.set_cons_succ]
      refine hK.out _ _ (HKS.out _ BT) (fun hH => ?_)
      clear hK K
      refine wpAnyH_ready (rs := [3]) (by kernel_rfl) (by simp) ?_
      refine AllReadyH.cons rfl (fun K hK => ?_) AllReadyH.nil
      refine step_of rfl ?_
      refine callTR_op _ rfl _ _ rfl (.agg #[.slice aa lena capa, .int .i64 n1, .bool hs1, .int .i64 vt1, .int .i64 vn1, .string vs1]) rfl ((HTA.out _ BT).mono ?_)
      rintro e gc17 ⟨uA, rfl, qA, oA, eA, hb⟩
      have zc1 := hb.size
      replace oq := oq.below hb (by omega)
      replace CN := CN.below hb
      replace BT := below_then BT hb BT.size
      clear hb
      obtain ⟨ra1, rc1, e1⟩ := oA.1.sl
      subst e1
      refine ⟨_, rfl, ?_⟩
      try simp only [put_some, List.set_cons_zero, List.set_cons_succ]
      refine hK.out _ _ (HKS.out _ BT) (fun hH => ?_)
      clear hK K
      refine wpAnyH_ready (rs := [5]) (by kernel_rfl) (by simp) ?_
      refine AllReadyH.cons rfl (fun K hK => ?_) AllReadyH.nil
      refine step_of rfl ?_
      refine callTR_op _ rfl _ _ rfl (.agg #[.slice ba lenb capb, .int .i64 n2, .bool hs2, .int .i64 vt2, .int .i64 vn2, .string vs2]) rfl ((HTB.out _ BT).mono ?_)
      rintro e gc18 ⟨uB, rfl, qB, oB, eB, hb⟩
      have zc2 := hb.size
      replace oq := oq.below hb (by omega)
      replace oA := oA.below hb (by omega)
      replace CN := CN.below hb
      replace BT := below_then BT hb BT.size
      clear hb
      obtain ⟨rb1, rd1, e1⟩ := oB.1.sl
      subst e1
      refine ⟨_, rfl, ?_⟩
      try simp only [put_some, List.set_cons_zero, List.set_cons_succ]
      refine hK.out _ _ (HKS.out _ BT) (fun hH => ?_)
      clear hK K
      refine wpAnyH_ready (rs := [6]) (by kernel_rfl) (by simp) ?_
      refine AllReadyH.cons rfl (fun K hK => ?_) AllReadyH.nil
      refine step_of rfl ?_
      refine callSJ_op _ rfl _ _ _ _ _ _ rfl _ _ _ rfl rfl rfl ((HSJ.out _ _ _ _ _ _ _ _ _ _ _ _ _ qA qB oA.rdN eA oB.rdN eB).mono ?_)
      rintro e gc19 ⟨uJ, qJ, rfl, oJ, eJ, hb⟩
      have zc3 := hb.size
      replace oq := oq.below hb (by omega)
      replace oA := oA.below hb (by omega)
      replace oB := oB.below hb (by omega)
      replace CN := CN.below hb
      replace BT := below_then BT hb BT.size
      clear hb
      obtain ⟨rj1, rk1, e1⟩ := oJ.1.sl
      subst e1
      refine ⟨_, rfl, ?_⟩
      try simp only [put_some, List.set_cons_zero, List.set_cons_succ]
      refine hK.out _ _ (HKS.out _ BT) (fun hH => ?_)
      clear hK K
      refine wpAnyH_ready (rs := [8]) (by kernel_rfl) (by simp) ?_
      refine AllReadyH.cons rfl (fun K hK => ?_) AllReadyH.nil
      have CN1 := (((((CN.set 0 (.slice rj1 qJ.length rk1)).set 1 (.int .i64 Jn)).set 2 (.bool Jh)).set 3 (.int .i64 Jt)).set 4 (.int .i64 Jv)).set 5 (.string Js)
      have hlw : NN < gc19.heap.size := CN.lt
      have WN := ((((((Within.refl NN (NN + 1) gc19).trans (within_set _ NN 0 (.slice rj1 qJ.length rk1))).trans (within_set _ NN 1 (.int .i64 Jn))).trans (within_set _ NN 2 (.bool Jh))).trans (within_set _ NN 3 (.int .i64 Jt))).trans (within_set _ NN 4 (.int .i64 Jv))).trans (within_set _ NN 5 (.string Js))
      have oJ2 := oJ.within WN (by omega)
      have BT2 := BT.trans (WN.below (B := w3.heap.size) (by omega) (by have := BT.size; omega))
      have hsz := WN.2.2.2.1
      refine step_of rfl ?_
      refine storeR_op 8 38 rfl rfl NN (.slice none 0 0) (.int .i64 0) (.bool false) (.int .i64 0) (.int .i64 0) (.string ⟨#[]⟩) rj1 qJ.length rk1 Jn Jt Jv Jh Js rfl rfl CN ?_
      refine hK.out _ _ (HKS.out _ BT2) (fun hH => ?_)
      clear hK K
      refine wpAnyH_done (by kernel_rfl) ?_ _
      exact ⟨NN, .slice rj1 qJ.length rk1, qJ, _, _, by kernel_rfl, CN1, oJ2, eJ, BT2, by omega, by omega, by omega, by omega, by omega⟩
  rintro a' w4 ⟨Nw, uw, qsw, xw, yw, hF, Cw, ow, ew, hb, hnw1, hnw2, hnw3, hnw4, hnw5⟩
  generalize slot a' = zfw at hF
  subst hF
  have z4 := hb.size
  replace C0 := C0.below hb
  replace CA := CA.below hb
  replace CB := CB.below hb
  replace bt := below_then bt hb (by omega)
  clear hb
  obtain ⟨gw1, gw2, hew⟩ := ow.1.sl
  subst hew
  clear HTQ HTA HTB HKS
  have p0 := (C0 0 _ rfl).1
  have p1 := (C0 1 _ rfl).1
  have p2 := (C0 2 _ rfl).1
  have p3 := (C0 3 _ rfl).1
  have p4 := (C0 4 _ rfl).1
  have p5 := (C0 5 _ rfl).1
  have p6 := (C0 6 _ rfl).1
  have p7 := (C0 7 _ rfl).1
  have p8 := (C0 8 _ rfl).1
  have p9 := (C0 9 _ rfl).1
  go_wp2_with fail
  refine (toQuery qk qc t zs u a len cap w4 (by have := HBK.out; omega) (by omega) (hr.below bt) (ha.below bt)).mono ?_
  rintro e w5 ⟨u3, o3, rfl, oq, hb⟩
  clear p0 p1 p2 p3 p4 p5 p6 p7 p8 p9
  have z5 := hb.size
  replace ow := ow.below hb (by omega)
  replace C0 := C0.below hb
  replace CA := CA.below hb
  replace CB := CB.below hb
  replace Cw := Cw.below hb
  replace bt := below_then bt hb (by omega)
  clear hb
  obtain ⟨ya, yc, yg, yd, e1, e2⟩ := oq.sl
  generalize hyn : t.l.length = yn at e1
  generalize hyl : zs.length = yl at e2
  subst e1 e2
  have HYN := Lib.hid hyn
  have HYL := Lib.hid hyl
  clear hyn hyl
  have hb := below_alloc w5 (.cells #[.int .i64 qk, .int .i64 t.kind, .int .i64 t.col, .int .i64 t.op, .int .i64 t.v.ty, .int .i64 t.v.n, .string t.v.s, .slice ya yn yc, .int .i64 qc, .slice (some ⟨yg, 0, none⟩) yl yd] 46)
  have CX := blk_new w5 [.int .i64 qk, .int .i64 t.kind, .int .i64 t.col, .int .i64 t.op, .int .i64 t.v.ty, .int .i64 t.v.n, .string t.v.s, .slice ya yn yc, .int .i64 qc, .slice (some ⟨yg, 0, none⟩) yl yd] 46
  have hzCX : (w5.alloc (.cells #[.int .i64 qk, .int .i64 t.kind, .int .i64 t.col, .int .i64 t.op, .int .i64 t.v.ty, .int .i64 t.v.n, .string t.v.s, .slice ya yn yc, .int .i64 qc, .slice (some ⟨yg, 0, none⟩) yl yd] 46)).heap.size = w5.heap.size + 1 := World.size_alloc _ _
  replace ow := ow.below hb (by omega)
  replace oq := oq.below hb (by omega)
  replace C0 := C0.below hb
  replace CA := CA.below hb
  replace CB := CB.below hb
  replace Cw := Cw.below hb
  replace bt := below_then bt hb (by omega)
  clear hb
  have eCA0 := (CA 0 _ rfl).1
  have eCA1 := (CA 1 _ rfl).1
  have eCA2 := (CA 2 _ rfl).1
  have eCA3 := (CA 3 _ rfl).1
  have eCA4 := (CA 4 _ rfl).1
  have eCA5 := (CA 5 _ rfl).1
  generalize hwCX : w5.alloc (.cells #[.int .i64 qk, .int .i64 t.kind, .int .i64 t.col, .int .i64 t.op, .int .i64 t.v.ty, .int .i64 t.v.n, .string t.v.s, .slice ya yn yc, .int .i64 qc, .slice (some ⟨yg, 0, none⟩) yl yd] 46) = wCX at bt CX hzCX ow oq C0 CA CB Cw
  have HCX := Lib.hid hwCX
  generalize hqCX : w5.heap.size = qx at CX hzCX
  have HQCX := Lib.hid hqCX
  clear hwCX hqCX
  go_wp2_with fail
  rw [HCX.out]
  try rw [HQCX.out]
  have hqeCX := HQCX.out
  refine (toResult n1 hs1 vt1 vn1 vs1 aa lena capa pa wCX hma HIa.out (hA.below bt)).mono ?_
  rintro e w6 ⟨x1, rfl, qx1, o0, e0, hb⟩
  clear eCA0 eCA1 eCA2 eCA3 eCA4 eCA5
  have z6 := hb.size
  replace ow := ow.below hb (by omega)
  replace oq := oq.below hb (by omega)
  replace C0 := C0.below hb
  replace CA := CA.below hb
  replace CB := CB.below hb
  replace Cw := Cw.below hb
  replace CX := CX.below hb
  replace bt := below_then bt hb (by omega)
  clear hb
  have ox1 := o0
  have Hqx1 := Lib.hid e0
  clear o0 e0
  obtain ⟨g1a, g1c, g1e⟩ := ox1.1.sl
  generalize qx1.length = g1m at g1e
  subst g1e
  have hb := below_alloc w6 (.cells #[.slice g1a g1m g1c, .int .i64 n1, .bool hs1, .int .i64 vt1, .int .i64 vn1, .string vs1] 50)
  have CY := blk_new w6 [.slice g1a g1m g1c, .int .i64 n1, .bool hs1, .int .i64 vt1, .int .i64 vn1, .string vs1] 50
  have hzCY : (w6.alloc (.cells #[.slice g1a g1m g1c, .int .i64 n1, .bool hs1, .int .i64 vt1, .int .i64 vn1, .string vs1] 50)).heap.size = w6.heap.size + 1 := World.size_alloc _ _
  replace ow := ow.below hb (by omega)
  replace oq := oq.below hb (by omega)
  replace ox1 := ox1.below hb (by omega)
  replace C0 := C0.below hb
  replace CA := CA.below hb
  replace CB := CB.below hb
  replace Cw := Cw.below hb
  replace CX := CX.below hb
  replace bt := below_then bt hb (by omega)
  clear hb
  have eCB0 := (CB 0 _ rfl).1
  have eCB1 := (CB 1 _ rfl).1
  have eCB2 := (CB 2 _ rfl).1
  have eCB3 := (CB 3 _ rfl).1
  have eCB4 := (CB 4 _ rfl).1
  have eCB5 := (CB 5 _ rfl).1
  generalize hwCY : w6.alloc (.cells #[.slice g1a g1m g1c, .int .i64 n1, .bool hs1, .int .i64 vt1, .int .i64 vn1, .string vs1] 50) = wCY at bt CY hzCY ow oq ox1 C0 CA CB Cw CX
  have HCY := Lib.hid hwCY
  generalize hqCY : w6.heap.size = qy at CY hzCY
  have HQCY := Lib.hid hqCY
  clear hwCY hqCY
  go_wp2_with fail
  rw [HCY.out]
  try rw [HQCY.out]
  have hqeCY := HQCY.out
  refine (toResult n2 hs2 vt2 vn2 vs2 ba lenb capb pb wCY hmb HIb.out (hB.below bt)).mono ?_
  rintro e w7 ⟨x2, rfl, qx2, o0, e0, hb⟩
  clear eCB0 eCB1 eCB2 eCB3 eCB4 eCB5
  have z7 := hb.size
  replace ow := ow.below hb (by omega)
  replace oq := oq.below hb (by omega)
  replace ox1 := ox1.below hb (by omega)
  replace C0 := C0.below hb
  replace CA := CA.below hb
  replace CB := CB.below hb
  replace Cw := Cw.below hb
  replace CX := CX.below hb
  replace CY := CY.below hb
  replace bt := below_then bt hb (by omega)
  clear hb
  have ox2 := o0
  have Hqx2 := Lib.hid e0
  clear o0 e0
  obtain ⟨g2a, g2c, g2e⟩ := ox2.1.sl
  generalize qx2.length = g2m at g2e
  subst g2e
  have hb := below_alloc w7 (.cells #[.slice g2a g2m g2c, .int .i64 n2, .bool hs2, .int .i64 vt2, .int .i64 vn2, .string vs2] 50)
  have CZ := blk_new w7 [.slice g2a g2m g2c, .int .i64 n2, .bool hs2, .int .i64 vt2, .int .i64 vn2, .string vs2] 50
  have hzCZ : (w7.alloc (.cells #[.slice g2a g2m g2c, .int .i64 n2, .bool hs2, .int .i64 vt2, .int .i64 vn2, .string vs2] 50)).heap.size = w7.heap.size + 1 := World.size_alloc _ _
  replace ow := ow.below hb (by omega)
  replace oq := oq.below hb (by omega)
  replace ox1 := ox1.below hb (by omega)
  replace ox2 := ox2.below hb (by omega)
  replace C0 := C0.below hb
  replace CA := CA.below hb
  replace CB := CB.below hb
  replace Cw := Cw.below hb
  replace CX := CX.below hb
  replace CY := CY.below hb
  replace bt := below_then bt hb (by omega)
  clear hb
  have eCX0 := (CX 0 _ rfl).1
  have eCX1 := (CX 1 _ rfl).1
  have eCX2 := (CX 2 _ rfl).1
  have eCX3 := (CX 3 _ rfl).1
  have eCX4 := (CX 4 _ rfl).1
  have eCX5 := (CX 5 _ rfl).1
  have eCX6 := (CX 6 _ rfl).1
  have eCX7 := (CX 7 _ rfl).1
  have eCX8 := (CX 8 _ rfl).1
  have eCX9 := (CX 9 _ rfl).1
  have eCY0 := (CY 0 _ rfl).1
  have eCY1 := (CY 1 _ rfl).1
  have eCY2 := (CY 2 _ rfl).1
  have eCY3 := (CY 3 _ rfl).1
  have eCY4 := (CY 4 _ rfl).1
  have eCY5 := (CY 5 _ rfl).1
  generalize hwCZ : w7.alloc (.cells #[.slice g2a g2m g2c, .int .i64 n2, .bool hs2, .int .i64 vt2, .int .i64 vn2, .string vs2] 50) = wCZ at bt CZ hzCZ ow oq ox1 ox2 C0 CA CB Cw CX CY
  have HCZ := Lib.hid hwCZ
  generalize hqCZ : w7.heap.size = qz at CZ hzCZ
  have HQCZ := Lib.hid hqCZ
  clear hwCZ hqCZ
  go_wp2_with fail
  rw [HCZ.out]
  try rw [HQCZ.out]
  have hqeCZ := HQCZ.out
  refine (HIJ.out _ _ _ _ _ _ _ _ _ _ _ _ _ qx1 qx2 ox1.rdN Hqx1.out ox2.rdN Hqx2.out).mono ?_
  rintro e w8 ⟨ug, qg, rfl, og, eg, hb⟩
  clear eCX0 eCX1 eCX2 eCX3 eCX4 eCX5 eCX6 eCX7 eCX8 eCX9 eCY0 eCY1 eCY2 eCY3 eCY4 eCY5
  have z8 := hb.size
  replace ow := ow.below hb (by omega)
  replace oq := oq.below hb (by omega)
  replace ox1 := ox1.below hb (by omega)
  replace ox2 := ox2.below hb (by omega)
  replace C0 := C0.below hb
  replace CA := CA.below hb
  replace CB := CB.below hb
  replace Cw := Cw.below hb
  replace CX := CX.below hb
  replace CY := CY.below hb
  replace CZ := CZ.below hb
  replace bt := below_then bt hb (by omega)
  clear hb
  have HG := Lib.hid eg
  clear eg
  have HWE := Lib.hid ew
  clear ew
  obtain ⟨gga, ggc, gge⟩ := og.1.sl
  generalize hgm : qg.length = gm at gge
  have HGM := Lib.hid hgm
  clear hgm
  subst gge
  have hb := below_alloc w8 (.cells #[.slice gga gm ggc, .int .i64 Jn, .bool Jh, .int .i64 Jt, .int .i64 Jv, .string Js] 50)
  have CG := blk_new w8 [.slice gga gm ggc, .int .i64 Jn, .bool Jh, .int .i64 Jt, .int .i64 Jv, .string Js] 50
  have hzCG : (w8.alloc (.cells #[.slice gga gm ggc, .int .i64 Jn, .bool Jh, .int .i64 Jt, .int .i64 Jv, .string Js] 50)).heap.size = w8.heap.size + 1 := World.size_alloc _ _
  replace ow := ow.below hb (by omega)
  replace oq := oq.below hb (by omega)
  replace ox1 := ox1.below hb (by omega)
  replace ox2 := ox2.below hb (by omega)
  replace og := og.below hb (by omega)
  replace C0 := C0.below hb
  replace CA := CA.below hb
  replace CB := CB.below hb
  replace Cw := Cw.below hb
  replace CX := CX.below hb
  replace CY := CY.below hb
  replace CZ := CZ.below hb
  replace bt := below_then bt hb (by omega)
  clear hb
  have eCw0 := (Cw 0 _ rfl).1
  have eCw1 := (Cw 1 _ rfl).1
  have eCw2 := (Cw 2 _ rfl).1
  have eCw3 := (Cw 3 _ rfl).1
  have eCw4 := (Cw 4 _ rfl).1
  have eCw5 := (Cw 5 _ rfl).1
  generalize hwCG : w8.alloc (.cells #[.slice gga gm ggc, .int .i64 Jn, .bool Jh, .int .i64 Jt, .int .i64 Jv, .string Js] 50) = wCG at bt CG hzCG ow oq ox1 ox2 og C0 CA CB Cw CX CY CZ
  have HCG := Lib.hid hwCG
  generalize hqCG : w8.heap.size = qgx at CG hzCG
  have HQCG := Lib.hid hqCG
  clear hwCG hqCG
  go_wp2_with fail
  rw [HCG.out]
  try rw [HQCG.out]
  have hqeCG := HQCG.out
  refine (eqResult Jn Jh Jt Jv Js (.slice gga gm ggc) (.slice gw1 qsw.length gw2) qg qsw wCG (HWE.out.trans HG.out.symm) og.rd ow.rd).mono ?_
  rintro e w9 ⟨rfl, hb⟩
  clear eCw0 eCw1 eCw2 eCw3 eCw4 eCw5
  have z9 := hb.size
  replace ow := ow.below hb (by omega)
  replace oq := oq.below hb (by omega)
  replace ox1 := ox1.below hb (by omega)
  replace ox2 := ox2.below hb (by omega)
  replace og := og.below hb (by omega)
  replace C0 := C0.below hb
  replace CA := CA.below hb
  replace CB := CB.below hb
  replace Cw := Cw.below hb
  replace CX := CX.below hb
  replace CY := CY.below hb
  replace CZ := CZ.below hb
  replace CG := CG.below hb
  replace bt := below_then bt hb (by omega)
  clear hb
  have HT9 := Lib.hid (fun W (hW : Below w9.heap.size w9 W) => toQuery qk qc t zs u a len cap W (by have := HBK.out; omega) (by omega) (hr.below (below_then bt hW (by omega))) (ha.below (below_then bt hW (by omega))))
  have HE9 := Lib.hid (fun W (u2 o2 : Value) (Q2 : Nat → Prop) (hW : Below w9.heap.size w9 W) (h1 : RdT Q2 W t u2) (h2 : At 1 W o2 zs.length (ints .i64 zs)) => eqQuery qk qc t zs (.slice ya yn yc) (.slice (some ⟨yg, 0, none⟩) yl yd) u2 o2 W ((oq.rd (by omega)).below hW) h1 (oq.at.below hW) h2)
  have HKB : Hid (∀ W, Below w9.heap.size w9 W → W.cell? ⟨qx, 0, none⟩ = some (.int .i64 qk) ∧ W.cell? ⟨qx, 1, none⟩ = some (.int .i64 t.kind) ∧ W.cell? ⟨qx, 2, none⟩ = some (.int .i64 t.col) ∧ W.cell? ⟨qx, 3, none⟩ = some (.int .i64 t.op) ∧ W.cell? ⟨qx, 4, none⟩ = some (.int .i64 t.v.ty) ∧ W.cell? ⟨qx, 5, none⟩ = some (.int .i64 t.v.n) ∧ W.cell? ⟨qx, 6, none⟩ = some (.string t.v.s) ∧ W.cell? ⟨qx, 7, none⟩ = some (.slice ya yn yc) ∧ W.cell? ⟨qx, 8, none⟩ = some (.int .i64 qc) ∧ W.cell? ⟨qx, 9, none⟩ = some (.slice (some ⟨yg, 0, none⟩) yl yd) ∧ W.cell? ⟨w.heap.size, 0, none⟩ = some (.int .i64 qk) ∧ W.cell? ⟨w.heap.size, 1, none⟩ = some (.int .i64 t.kind) ∧ W.cell? ⟨w.heap.size, 2, none⟩ = some (.int .i64 t.col) ∧ W.cell? ⟨w.heap.size, 3, none⟩ = some (.int .i64 t.op) ∧ W.cell? ⟨w.heap.size, 4, none⟩ = some (.int .i64 t.v.ty) ∧ W.cell? ⟨w.heap.size, 5, none⟩ = some (.int .i64 t.v.n) ∧ W.cell? ⟨w.heap.size, 6, none⟩ = some (.string t.v.s) ∧ W.cell? ⟨w.heap.size, 7, none⟩ = some (u) ∧ W.cell? ⟨w.heap.size, 8, none⟩ = some (.int .i64 qc) ∧ W.cell? ⟨w.heap.size, 9, none⟩ = some (.slice a len cap)) := fun W h => ⟨(CX.below h 0 _ rfl).1, (CX.below h 1 _ rfl).1, (CX.below h 2 _ rfl).1, (CX.below h 3 _ rfl).1, (CX.below h 4 _ rfl).1, (CX.below h 5 _ rfl).1, (CX.below h 6 _ rfl).1, (CX.below h 7 _ rfl).1, (CX.below h 8 _ rfl).1, (CX.below h 9 _ rfl).1, (C0.below h 0 _ rfl).1, (C0.below h 1 _ rfl).1, (C0.below h 2 _ rfl).1, (C0.below h 3 _ rfl).1, (C0.below h 4 _ rfl).1, (C0.below h 5 _ rfl).1, (C0.below h 6 _ rfl).1, (C0.below h 7 _ rfl).1, (C0.below h 8 _ rfl).1, (C0.below h 9 _ rfl).1⟩
  have hB' := (Below.refl w9.heap.size w9).drew
  go_wp2_with fail
  go_region_held3 (fun W => W.cell? ⟨qx, 0, none⟩ = some (.int .i64 qk) ∧ W.cell? ⟨qx, 1, none⟩ = some (.int .i64 t.kind) ∧ W.cell? ⟨qx, 2, none⟩ = some (.int .i64 t.col) ∧ W.cell? ⟨qx, 3, none⟩ = some (.int .i64 t.op) ∧ W.cell? ⟨qx, 4, none⟩ = some (.int .i64 t.v.ty) ∧ W.cell? ⟨qx, 5, none⟩ = some (.int .i64 t.v.n) ∧ W.cell? ⟨qx, 6, none⟩ = some (.string t.v.s) ∧ W.cell? ⟨qx, 7, none⟩ = some (.slice ya yn yc) ∧ W.cell? ⟨qx, 8, none⟩ = some (.int .i64 qc) ∧ W.cell? ⟨qx, 9, none⟩ = some (.slice (some ⟨yg, 0, none⟩) yl yd) ∧ W.cell? ⟨w.heap.size, 0, none⟩ = some (.int .i64 qk) ∧ W.cell? ⟨w.heap.size, 1, none⟩ = some (.int .i64 t.kind) ∧ W.cell? ⟨w.heap.size, 2, none⟩ = some (.int .i64 t.col) ∧ W.cell? ⟨w.heap.size, 3, none⟩ = some (.int .i64 t.op) ∧ W.cell? ⟨w.heap.size, 4, none⟩ = some (.int .i64 t.v.ty) ∧ W.cell? ⟨w.heap.size, 5, none⟩ = some (.int .i64 t.v.n) ∧ W.cell? ⟨w.heap.size, 6, none⟩ = some (.string t.v.s) ∧ W.cell? ⟨w.heap.size, 7, none⟩ = some (u) ∧ W.cell? ⟨w.heap.size, 8, none⟩ = some (.int .i64 qc) ∧ W.cell? ⟨w.heap.size, 9, none⟩ = some (.slice a len cap)) (exact HKB.out _ hB') (first | (go_at_call 14; (with_reducible refine (HT9.out _ hB').mono ?_); rintro e wA ⟨uA, oA, rfl, hqA, hb⟩; replace hB' := below_then hB' hb hB'.size; have hrA := hqA.rd (Nat.le_refl _); have haA := hqA.at) | (go_at_call 17; (with_reducible refine (HE9.out _ _ _ _ hB' hrA haA).mono ?_); rintro e wB ⟨rfl, hb⟩; replace hB' := below_then hB' hb hB'.size))
  clear HT9 HE9 HKB
  have hb := hB'
  clear hB' hqA hrA haA
  have zB := hb.size
  replace ow := ow.below hb (by omega)
  replace oq := oq.below hb (by omega)
  replace ox1 := ox1.below hb (by omega)
  replace ox2 := ox2.below hb (by omega)
  replace og := og.below hb (by omega)
  replace C0 := C0.below hb
  replace CA := CA.below hb
  replace CB := CB.below hb
  replace Cw := Cw.below hb
  replace CX := CX.below hb
  replace CY := CY.below hb
  replace CZ := CZ.below hb
  replace CG := CG.below hb
  replace bt := below_then bt hb (by omega)
  clear hb
  have HKB : Hid (∀ W, Below wB.heap.size wB W → W.cell? ⟨qy, 0, none⟩ = some (.slice g1a g1m g1c) ∧ W.cell? ⟨qy, 1, none⟩ = some (.int .i64 n1) ∧ W.cell? ⟨qy, 2, none⟩ = some (.bool hs1) ∧ W.cell? ⟨qy, 3, none⟩ = some (.int .i64 vt1) ∧ W.cell? ⟨qy, 4, none⟩ = some (.int .i64 vn1) ∧ W.cell? ⟨qy, 5, none⟩ = some (.string vs1) ∧ W.cell? ⟨w.heap.size + 1, 0, none⟩ = some (.slice aa lena capa) ∧ W.cell? ⟨w.heap.size + 1, 1, none⟩ = some (.int .i64 n1) ∧ W.cell? ⟨w.heap.size + 1, 2, none⟩ = some (.bool hs1) ∧ W.cell? ⟨w.heap.size + 1, 3, none⟩ = some (.int .i64 vt1) ∧ W.cell? ⟨w.heap.size + 1, 4, none⟩ = some (.int .i64 vn1) ∧ W.cell? ⟨w.heap.size + 1, 5, none⟩ = some (.string vs1)) := fun W h => ⟨(CY.below h 0 _ rfl).1, (CY.below h 1 _ rfl).1, (CY.below h 2 _ rfl).1, (CY.below h 3 _ rfl).1, (CY.below h 4 _ rfl).1, (CY.below h 5 _ rfl).1, (CA.below h 0 _ rfl).1, (CA.below h 1 _ rfl).1, (CA.below h 2 _ rfl).1, (CA.below h 3 _ rfl).1, (CA.below h 4 _ rfl).1, (CA.below h 5 _ rfl).1⟩
  have HTA := Lib.hid (fun W (hW : Below wB.heap.size wB W) => toResult n1 hs1 vt1 vn1 vs1 aa lena capa pa W hma HIa.out (hA.below (below_then bt hW (by omega))))
  have HEA := Lib.hid (fun W u2 q2 (hW : Below wB.heap.size wB W) (e2 : q2.map (·.1) = pa.map (·.1)) (k2 : RdRs W u2 q2) => eqResult n1 hs1 vt1 vn1 vs1 (.slice g1a g1m g1c) u2 qx1 q2 W (e2.trans Hqx1.out.symm) (ox1.rd.below hW) k2)
  have hB' := (Below.refl wB.heap.size wB).drew
  go_wp2_with fail
  go_region_held3 (fun W => W.cell? ⟨qy, 0, none⟩ = some (.slice g1a g1m g1c) ∧ W.cell? ⟨qy, 1, none⟩ = some (.int .i64 n1) ∧ W.cell? ⟨qy, 2, none⟩ = some (.bool hs1) ∧ W.cell? ⟨qy, 3, none⟩ = some (.int .i64 vt1) ∧ W.cell? ⟨qy, 4, none⟩ = some (.int .i64 vn1) ∧ W.cell? ⟨qy, 5, none⟩ = some (.string vs1) ∧ W.cell? ⟨w.heap.size + 1, 0, none⟩ = some (.slice aa lena capa) ∧ W.cell? ⟨w.heap.size + 1, 1, none⟩ = some (.int .i64 n1) ∧ W.cell? ⟨w.heap.size + 1, 2, none⟩ = some (.bool hs1) ∧ W.cell? ⟨w.heap.size + 1, 3, none⟩ = some (.int .i64 vt1) ∧ W.cell? ⟨w.heap.size + 1, 4, none⟩ = some (.int .i64 vn1) ∧ W.cell? ⟨w.heap.size + 1, 5, none⟩ = some (.string vs1)) (exact HKB.out _ hB') (first | (go_at_call 15; (with_reducible refine (HTA.out _ hB').mono ?_); rintro e wD1 ⟨uA, rfl, qA, oA, eA, hb⟩; replace hB' := below_then hB' hb hB'.size) | (go_at_call 18; (with_reducible refine (HEA.out _ _ _ hB' eA oA.rd).mono ?_); rintro e wE1 ⟨rfl, hb⟩; replace hB' := below_then hB' hb hB'.size))
  have hb := hB'
  clear hB' oA eA HTA HEA HKB
  have zE1 := hb.size
  replace ow := ow.below hb (by omega)
  replace oq := oq.below hb (by omega)
  replace ox1 := ox1.below hb (by omega)
  replace ox2 := ox2.below hb (by omega)
  replace og := og.below hb (by omega)
  replace C0 := C0.below hb
  replace CA := CA.below hb
  replace CB := CB.below hb
  replace Cw := Cw.below hb
  replace CX := CX.below hb
  replace CY := CY.below hb
  replace CZ := CZ.below hb
  replace CG := CG.below hb
  replace bt := below_then bt hb (by omega)
  clear hb
  have HKB : Hid (∀ W, Below wE1.heap.size wE1 W → W.cell? ⟨qz, 0, none⟩ = some (.slice g2a g2m g2c) ∧ W.cell? ⟨qz, 1, none⟩ = some (.int .i64 n2) ∧ W.cell? ⟨qz, 2, none⟩ = some (.bool hs2) ∧ W.cell? ⟨qz, 3, none⟩ = some (.int .i64 vt2) ∧ W.cell? ⟨qz, 4, none⟩ = some (.int .i64 vn2) ∧ W.cell? ⟨qz, 5, none⟩ = some (.string vs2) ∧ W.cell? ⟨w.heap.size + 1 + 1, 0, none⟩ = some (.slice ba lenb capb) ∧ W.cell? ⟨w.heap.size + 1 + 1, 1, none⟩ = some (.int .i64 n2) ∧ W.cell? ⟨w.heap.size + 1 + 1, 2, none⟩ = some (.bool hs2) ∧ W.cell? ⟨w.heap.size + 1 + 1, 3, none⟩ = some (.int .i64 vt2) ∧ W.cell? ⟨w.heap.size + 1 + 1, 4, none⟩ = some (.int .i64 vn2) ∧ W.cell? ⟨w.heap.size + 1 + 1, 5, none⟩ = some (.string vs2)) := fun W h => ⟨(CZ.below h 0 _ rfl).1, (CZ.below h 1 _ rfl).1, (CZ.below h 2 _ rfl).1, (CZ.below h 3 _ rfl).1, (CZ.below h 4 _ rfl).1, (CZ.below h 5 _ rfl).1, (CB.below h 0 _ rfl).1, (CB.below h 1 _ rfl).1, (CB.below h 2 _ rfl).1, (CB.below h 3 _ rfl).1, (CB.below h 4 _ rfl).1, (CB.below h 5 _ rfl).1⟩
  have HTA := Lib.hid (fun W (hW : Below wE1.heap.size wE1 W) => toResult n2 hs2 vt2 vn2 vs2 ba lenb capb pb W hmb HIb.out (hB.below (below_then bt hW (by omega))))
  have HEA := Lib.hid (fun W u2 q2 (hW : Below wE1.heap.size wE1 W) (e2 : q2.map (·.1) = pb.map (·.1)) (k2 : RdRs W u2 q2) => eqResult n2 hs2 vt2 vn2 vs2 (.slice g2a g2m g2c) u2 qx2 q2 W (e2.trans Hqx2.out.symm) (ox2.rd.below hW) k2)
  have hB' := (Below.refl wE1.heap.size wE1).drew
  go_wp2_with fail
  go_region_held3 (fun W => W.cell? ⟨qz, 0, none⟩ = some (.slice g2a g2m g2c) ∧ W.cell? ⟨qz, 1, none⟩ = some (.int .i64 n2) ∧ W.cell? ⟨qz, 2, none⟩ = some (.bool hs2) ∧ W.cell? ⟨qz, 3, none⟩ = some (.int .i64 vt2) ∧ W.cell? ⟨qz, 4, none⟩ = some (.int .i64 vn2) ∧ W.cell? ⟨qz, 5, none⟩ = some (.string vs2) ∧ W.cell? ⟨w.heap.size + 1 + 1, 0, none⟩ = some (.slice ba lenb capb) ∧ W.cell? ⟨w.heap.size + 1 + 1, 1, none⟩ = some (.int .i64 n2) ∧ W.cell? ⟨w.heap.size + 1 + 1, 2, none⟩ = some (.bool hs2) ∧ W.cell? ⟨w.heap.size + 1 + 1, 3, none⟩ = some (.int .i64 vt2) ∧ W.cell? ⟨w.heap.size + 1 + 1, 4, none⟩ = some (.int .i64 vn2) ∧ W.cell? ⟨w.heap.size + 1 + 1, 5, none⟩ = some (.string vs2)) (exact HKB.out _ hB') (first | (go_at_call 15; (with_reducible refine (HTA.out _ hB').mono ?_); rintro e wD2 ⟨uA, rfl, qA, oA, eA, hb⟩; replace hB' := below_then hB' hb hB'.size) | (go_at_call 18; (with_reducible refine (HEA.out _ _ _ hB' eA oA.rd).mono ?_); rintro e wE2 ⟨rfl, hb⟩; replace hB' := below_then hB' hb hB'.size))
  have hb := hB'
  clear hB' oA eA HTA HEA HKB
  have zE2 := hb.size
  replace ow := ow.below hb (by omega)
  replace oq := oq.below hb (by omega)
  replace ox1 := ox1.below hb (by omega)
  replace ox2 := ox2.below hb (by omega)
  replace og := og.below hb (by omega)
  replace C0 := C0.below hb
  replace CA := CA.below hb
  replace CB := CB.below hb
  replace Cw := Cw.below hb
  replace CX := CX.below hb
  replace CY := CY.below hb
  replace CZ := CZ.below hb
  replace CG := CG.below hb
  replace bt := below_then bt hb (by omega)
  clear hb
  have p0 := (CX 0 _ rfl).1
  have p1 := (CX 1 _ rfl).1
  have p2 := (CX 2 _ rfl).1
  have p3 := (CX 3 _ rfl).1
  have p4 := (CX 4 _ rfl).1
  have p5 := (CX 5 _ rfl).1
  have p6 := (CX 6 _ rfl).1
  have p7 := (CX 7 _ rfl).1
  have p8 := (CX 8 _ rfl).1
  have p9 := (CX 9 _ rfl).1
  go_wp2_with fail
  refine (markQuery qk qc t zs _ _ 1 wE2 (.slice ya yn yc) (.slice (some ⟨yg, 0, none⟩) yl yd) oq (by omega) (by omega) (by have := HML.out; omega) (by have := HYL.out; have := HZL.out; omega)).mono ?_
  rintro e w10 ⟨rfl, hg⟩
  clear p0 p1 p2 p3 p4 p5 p6 p7 p8 p9
  have z10 := hg.2.2.2.1
  replace ow := ow.within hg (by omega)
  replace ox1 := ox1.within hg (by omega)
  replace ox2 := ox2.within hg (by omega)
  replace og := og.within hg (by omega)
  replace C0 := C0.within hg (by omega)
  replace CA := CA.within hg (by omega)
  replace CB := CB.within hg (by omega)
  replace Cw := Cw.within hg (by omega)
  replace CX := CX.within hg (by omega)
  replace CY := CY.within hg (by omega)
  replace CZ := CZ.within hg (by omega)
  replace CG := CG.within hg (by omega)
  replace bt := bt.trans (hg.below (by omega) (by omega))
  clear hg
  clear oq
  have hk1 : 1 + T.mls t.l + zs.length ≤ 8388608 := by have := HML.out; have := HZL.out; omega
  generalize hk : 1 + T.mls t.l + zs.length = k1 at hk1
  have hk0 : 0 < k1 := by omega
  clear hk
  have p0 := (CY 0 _ rfl).1
  have p1 := (CY 1 _ rfl).1
  have p2 := (CY 2 _ rfl).1
  have p3 := (CY 3 _ rfl).1
  have p4 := (CY 4 _ rfl).1
  have p5 := (CY 5 _ rfl).1
  go_wp2_with fail
  refine (markResult n1 hs1 vt1 vn1 vs1 (.slice g1a g1m g1c) qx1 _ _ k1 w10 (by omega) hk0 (by omega) (by rw [len_fst Hqx1.out]; exact hma) (by rw [rlen_fst Hqx1.out]; have := HRA.out; omega) ox1).mono ?_
  rintro e w11 ⟨rfl, _, hg⟩
  clear p0 p1 p2 p3 p4 p5
  have z11 := hg.2.2.2.1
  replace ow := ow.within hg (by omega)
  replace ox2 := ox2.within hg (by omega)
  replace og := og.within hg (by omega)
  replace C0 := C0.within hg (by omega)
  replace CA := CA.within hg (by omega)
  replace CB := CB.within hg (by omega)
  replace Cw := Cw.within hg (by omega)
  replace CX := CX.within hg (by omega)
  replace CY := CY.within hg (by omega)
  replace CZ := CZ.within hg (by omega)
  replace CG := CG.within hg (by omega)
  replace bt := bt.trans (hg.below (by omega) (by omega))
  clear hg
  clear ox1
  have HK2 : Hid (0 < k1 + rlen qx1 ∧ k1 + rlen qx1 ≤ 16777216) := by
    have h := HRA.out
    have h2 := rlen_fst Hqx1.out
    constructor <;> omega
  generalize k1 + rlen qx1 = k2 at HK2
  obtain ⟨hk20, hk21⟩ := HK2.out
  have p0 := (CZ 0 _ rfl).1
  have p1 := (CZ 1 _ rfl).1
  have p2 := (CZ 2 _ rfl).1
  have p3 := (CZ 3 _ rfl).1
  have p4 := (CZ 4 _ rfl).1
  have p5 := (CZ 5 _ rfl).1
  go_wp2_with fail
  refine (markResult n2 hs2 vt2 vn2 vs2 (.slice g2a g2m g2c) qx2 _ _ k2 w11 (by omega) hk20 (by omega) (by rw [len_fst Hqx2.out]; exact hmb) (by rw [rlen_fst Hqx2.out]; have := HRA.out; omega) ox2).mono ?_
  rintro e w12 ⟨rfl, _, hg⟩
  clear p0 p1 p2 p3 p4 p5
  have z12 := hg.2.2.2.1
  replace ow := ow.within hg (by omega)
  replace og := og.within hg (by omega)
  replace C0 := C0.within hg (by omega)
  replace CA := CA.within hg (by omega)
  replace CB := CB.within hg (by omega)
  replace Cw := Cw.within hg (by omega)
  replace CX := CX.within hg (by omega)
  replace CY := CY.within hg (by omega)
  replace CZ := CZ.within hg (by omega)
  replace CG := CG.within hg (by omega)
  replace bt := bt.trans (hg.below (by omega) (by omega))
  clear hg
  clear ox2
  generalize k2 + rlen qx2 = k3
  have p0 := (CG 0 _ rfl).1
  have p1 := (CG 1 _ rfl).1
  have p2 := (CG 2 _ rfl).1
  have p3 := (CG 3 _ rfl).1
  have p4 := (CG 4 _ rfl).1
  have p5 := (CG 5 _ rfl).1
  have d0 := (Cw 0 _ rfl).1
  have d1 := (Cw 1 _ rfl).1
  have d2 := (Cw 2 _ rfl).1
  have d3 := (Cw 3 _ rfl).1
  have d4 := (Cw 4 _ rfl).1
  have d5 := (Cw 5 _ rfl).1
  go_wp2_with fail
  refine (eqResult Jn Jh Jt Jv Js (.slice gga gm ggc) (.slice gw1 qsw.length gw2) qg qsw w12 (HWE.out.trans HG.out.symm) og.rd ow.rd).mono ?_
  rintro e w13 ⟨rfl, hb⟩
  clear p0 p1 p2 p3 p4 p5 d0 d1 d2 d3 d4 d5
  have z13 := hb.size
  replace ow := ow.below hb (by omega)
  replace og := og.below hb (by omega)
  replace C0 := C0.below hb
  replace CA := CA.below hb
  replace CB := CB.below hb
  replace Cw := Cw.below hb
  replace CX := CX.below hb
  replace CY := CY.below hb
  replace CZ := CZ.below hb
  replace CG := CG.below hb
  replace bt := below_then bt hb (by omega)
  clear hb
  have HGL := Lib.hid (HGJ.out qg HG.out)
  have p0 := (CG 0 _ rfl).1
  have p1 := (CG 1 _ rfl).1
  have p2 := (CG 2 _ rfl).1
  have p3 := (CG 3 _ rfl).1
  have p4 := (CG 4 _ rfl).1
  have p5 := (CG 5 _ rfl).1
  go_wp2_with fail
  refine (markResult Jn Jh Jt Jv Js (.slice gga gm ggc) qg _ _ 1 w13 (by omega) (by omega) (by omega) HGL.out.1 HGL.out.2 og).mono ?_
  rintro e w14 ⟨rfl, on, hg⟩
  clear p0 p1 p2 p3 p4 p5
  have z14 := hg.2.2.2.1
  replace ow := ow.within hg (by omega)
  replace C0 := C0.within hg (by omega)
  replace CA := CA.within hg (by omega)
  replace CB := CB.within hg (by omega)
  replace Cw := Cw.within hg (by omega)
  replace CX := CX.within hg (by omega)
  replace CY := CY.within hg (by omega)
  replace CZ := CZ.within hg (by omega)
  replace CG := CG.within hg (by omega)
  replace bt := bt.trans (hg.below (by omega) (by omega))
  clear hg
  clear og
  have og := on
  clear on
  have p0 := (CG 0 _ rfl).1
  have p1 := (CG 1 _ rfl).1
  have p2 := (CG 2 _ rfl).1
  have p3 := (CG 3 _ rfl).1
  have p4 := (CG 4 _ rfl).1
  have p5 := (CG 5 _ rfl).1
  go_wp2_with fail
  refine (heldResult Jn Jh Jt Jv Js (.slice gga gm ggc) qg 1 w14 (by omega) (by omega) HGL.out.1 HGL.out.2 og.rd).mono ?_
  rintro e w15 ⟨rfl, hb⟩
  clear p0 p1 p2 p3 p4 p5
  have z15 := hb.size
  replace ow := ow.below hb (by omega)
  replace og := og.below hb (by omega)
  replace C0 := C0.below hb
  replace CA := CA.below hb
  replace CB := CB.below hb
  replace Cw := Cw.below hb
  replace CX := CX.below hb
  replace CY := CY.below hb
  replace CZ := CZ.below hb
  replace CG := CG.below hb
  replace bt := below_then bt hb (by omega)
  clear hb
  have HNE : ((1 + rlen qg : Nat) : Int) ≥ 0 := by omega
  have HKS : Hid (∀ W, Below w15.heap.size w15 W → W.cell? ⟨w.heap.size, 0, none⟩ = some (.int .i64 qk) ∧ W.cell? ⟨w.heap.size, 1, none⟩ = some (.int .i64 t.kind) ∧ W.cell? ⟨w.heap.size, 2, none⟩ = some (.int .i64 t.col) ∧ W.cell? ⟨w.heap.size, 3, none⟩ = some (.int .i64 t.op) ∧ W.cell? ⟨w.heap.size, 4, none⟩ = some (.int .i64 t.v.ty) ∧ W.cell? ⟨w.heap.size, 5, none⟩ = some (.int .i64 t.v.n) ∧ W.cell? ⟨w.heap.size, 6, none⟩ = some (.string t.v.s) ∧ W.cell? ⟨w.heap.size, 7, none⟩ = some (u) ∧ W.cell? ⟨w.heap.size, 8, none⟩ = some (.int .i64 qc) ∧ W.cell? ⟨w.heap.size, 9, none⟩ = some (.slice a len cap) ∧ W.cell? ⟨w.heap.size + 1, 0, none⟩ = some (.slice aa lena capa) ∧ W.cell? ⟨w.heap.size + 1, 1, none⟩ = some (.int .i64 n1) ∧ W.cell? ⟨w.heap.size + 1, 2, none⟩ = some (.bool hs1) ∧ W.cell? ⟨w.heap.size + 1, 3, none⟩ = some (.int .i64 vt1) ∧ W.cell? ⟨w.heap.size + 1, 4, none⟩ = some (.int .i64 vn1) ∧ W.cell? ⟨w.heap.size + 1, 5, none⟩ = some (.string vs1) ∧ W.cell? ⟨w.heap.size + 1 + 1, 0, none⟩ = some (.slice ba lenb capb) ∧ W.cell? ⟨w.heap.size + 1 + 1, 1, none⟩ = some (.int .i64 n2) ∧ W.cell? ⟨w.heap.size + 1 + 1, 2, none⟩ = some (.bool hs2) ∧ W.cell? ⟨w.heap.size + 1 + 1, 3, none⟩ = some (.int .i64 vt2) ∧ W.cell? ⟨w.heap.size + 1 + 1, 4, none⟩ = some (.int .i64 vn2) ∧ W.cell? ⟨w.heap.size + 1 + 1, 5, none⟩ = some (.string vs2)) := fun W h => ⟨(C0.below h 0 _ rfl).1, (C0.below h 1 _ rfl).1, (C0.below h 2 _ rfl).1, (C0.below h 3 _ rfl).1, (C0.below h 4 _ rfl).1, (C0.below h 5 _ rfl).1, (C0.below h 6 _ rfl).1, (C0.below h 7 _ rfl).1, (C0.below h 8 _ rfl).1, (C0.below h 9 _ rfl).1, (CA.below h 0 _ rfl).1, (CA.below h 1 _ rfl).1, (CA.below h 2 _ rfl).1, (CA.below h 3 _ rfl).1, (CA.below h 4 _ rfl).1, (CA.below h 5 _ rfl).1, (CB.below h 0 _ rfl).1, (CB.below h 1 _ rfl).1, (CB.below h 2 _ rfl).1, (CB.below h 3 _ rfl).1, (CB.below h 4 _ rfl).1, (CB.below h 5 _ rfl).1⟩
  have HTQ := Lib.hid (fun W (hW : Below w15.heap.size w15 W) => toQuery qk qc t zs u a len cap W (by have := HBK.out; omega) (by omega) (hr.below (below_then bt hW (by omega))) (ha.below (below_then bt hW (by omega))))
  have HTA := Lib.hid (fun W (hW : Below w15.heap.size w15 W) => toResult n1 hs1 vt1 vn1 vs1 aa lena capa pa W hma HIa.out (hA.below (below_then bt hW (by omega))))
  have HTB := Lib.hid (fun W (hW : Below w15.heap.size w15 W) => toResult n2 hs2 vt2 vn2 vs2 ba lenb capb pb W hmb HIb.out (hB.below (below_then bt hW (by omega))))
  go_wp2_with fail
  refine wp_via (fun a' w' => ∃ (Nh : Nat) (uh : Value) (qsh : List P) (xh yh : Nat), a' = ⟨#[slot a' 0, slot a' 1, slot a' 2, .pointer (some ⟨w.heap.size, 0, none⟩), .pointer (some ⟨w.heap.size + 1, 0, none⟩), .pointer (some ⟨w.heap.size + 1 + 1, 0, none⟩), .bool false, slot a' 7, .pointer (some ⟨Nw, 0, none⟩), slot a' 9, slot a' 10, slot a' 11, .pointer (some ⟨qgx, 0, none⟩), slot a' 13, .int .i64 ((1 + rlen qg : Nat) : Int), slot a' 15, .pointer (some ⟨Nh, 0, none⟩), slot a' 17, slot a' 18, slot a' 19, slot a' 20, slot a' 21, slot a' 22, slot a' 23, slot a' 24, slot a' 25, slot a' 26, slot a' 27, slot a' 28, slot a' 29, slot a' 30, slot a' 31, slot a' 32, slot a' 33, slot a' 34, slot a' 35, slot a' 36, slot a' 37, slot a' 38, slot a' 39, slot a' 40, slot a' 41, slot a' 42, slot a' 43, slot a' 44, slot a' 45, slot a' 46, slot a' 47, slot a' 48, slot a' 49, slot a' 50, slot a' 51, slot a' 52, slot a' 53, slot a' 54, slot a' 55, slot a' 56, slot a' 57, slot a' 58, slot a' 59, slot a' 60, slot a' 61, slot a' 62, slot a' 63, slot a' 64, slot a' 65, slot a' 66, slot a' 67, slot a' 68, slot a' 69, slot a' 70, slot a' 71, slot a' 72, slot a' 73, slot a' 74, slot a' 75, slot a' 76, slot a' 77, slot a' 78, slot a' 79, slot a' 80, slot a' 81, slot a' 82, slot a' 83, slot a' 84, slot a' 85, slot a' 86, slot a' 87, slot a' 88, slot a' 89, slot a' 90, slot a' 91, slot a' 92, slot a' 93, slot a' 94, slot a' 95, slot a' 96, slot a' 97, slot a' 98, slot a' 99, slot a' 100, slot a' 101, slot a' 102, slot a' 103, slot a' 104, slot a' 105, slot a' 106, slot a' 107, slot a' 108, slot a' 109, slot a' 110, slot a' 111, slot a' 112, slot a' 113, slot a' 114], []⟩ ∧ Blk w' Nh [uh, .int .i64 Jn, .bool Jh, .int .i64 Jt, .int .i64 Jv, .string Js] ∧ MyRs xh yh w' uh qsh ∧ qsh.map (·.1) = Jr ∧ Below w15.heap.size w15 w' ∧ w15.heap.size ≤ Nh ∧ Nh < w'.heap.size ∧ w15.heap.size ≤ xh ∧ yh ≤ w'.heap.size ∧ (Nh < xh ∨ yh ≤ Nh)) ?_ ?_
  · skip
    refine wp_region_held_drew (S := fun W => W.cell? ⟨w.heap.size, 0, none⟩ = some (.int .i64 qk) ∧ W.cell? ⟨w.heap.size, 1, none⟩ = some (.int .i64 t.kind) ∧ W.cell? ⟨w.heap.size, 2, none⟩ = some (.int .i64 t.col) ∧ W.cell? ⟨w.heap.size, 3, none⟩ = some (.int .i64 t.op) ∧ W.cell? ⟨w.heap.size, 4, none⟩ = some (.int .i64 t.v.ty) ∧ W.cell? ⟨w.heap.size, 5, none⟩ = some (.int .i64 t.v.n) ∧ W.cell? ⟨w.heap.size, 6, none⟩ = some (.string t.v.s) ∧ W.cell? ⟨w.heap.size, 7, none⟩ = some (u) ∧ W.cell? ⟨w.heap.size, 8, none⟩ = some (.int .i64 qc) ∧ W.cell? ⟨w.heap.size, 9, none⟩ = some (.slice a len cap) ∧ W.cell? ⟨w.heap.size + 1, 0, none⟩ = some (.slice aa lena capa) ∧ W.cell? ⟨w.heap.size + 1, 1, none⟩ = some (.int .i64 n1) ∧ W.cell? ⟨w.heap.size + 1, 2, none⟩ = some (.bool hs1) ∧ W.cell? ⟨w.heap.size + 1, 3, none⟩ = some (.int .i64 vt1) ∧ W.cell? ⟨w.heap.size + 1, 4, none⟩ = some (.int .i64 vn1) ∧ W.cell? ⟨w.heap.size + 1, 5, none⟩ = some (.string vs1) ∧ W.cell? ⟨w.heap.size + 1 + 1, 0, none⟩ = some (.slice ba lenb capb) ∧ W.cell? ⟨w.heap.size + 1 + 1, 1, none⟩ = some (.int .i64 n2) ∧ W.cell? ⟨w.heap.size + 1 + 1, 2, none⟩ = some (.bool hs2) ∧ W.cell? ⟨w.heap.size + 1 + 1, 3, none⟩ = some (.int .i64 vt2) ∧ W.cell? ⟨w.heap.size + 1 + 1, 4, none⟩ = some (.int .i64 vn2) ∧ W.cell? ⟨w.heap.size + 1 + 1, 5, none⟩ = some (.string vs2)) (by kernel_rfl) (HKS.out _ (Below.refl w15.heap.size w15).drew) (fun hH => ?_)
    have BT := (Below.refl w15.heap.size w15).drew
    have z0 : w15.heap.size ≤ w15.drew.heap.size := BT.size
    generalize w15.drew = g0 at BT z0 hH ⊢
    refine takeH (i := 0) (d := some 96) (v := .agg #[.int .i64 qk, .int .i64 t.kind, .int .i64 t.col, .int .i64 t.op, .int .i64 t.v.ty, .int .i64 t.v.n, .string t.v.s, u, .int .i64 qc, .slice a len cap]) rfl rfl (by kernel_rfl) (by kernel_rfl) (by kernel_rfl) (fun _ _ _ h => h) (Or.inl ⟨by rfl, fun W hSw => by obtain ⟨s0, s1, s2, s3, s4, s5, s6, s7, s8, s9, s10, s11, s12, s13, s14, s15, s16, s17, s18, s19, s20, s21⟩ := hSw; go_simp⟩) hH ?_
    try simp only [put_some, List.set_cons_zero, List.set_cons_succ]
    refine takeH (i := 2) (d := some 98) (v := .agg #[.slice aa lena capa, .int .i64 n1, .bool hs1, .int .i64 vt1, .int .i64 vn1, .string vs1]) rfl rfl (by kernel_rfl) (by kernel_rfl) (by kernel_rfl) (fun _ _ _ h => h) (Or.inl ⟨by rfl, fun W hSw => by obtain ⟨s0, s1, s2, s3, s4, s5, s6, s7, s8, s9, s10, s11, s12, s13, s14, s15, s16, s17, s18, s19, s20, s21⟩ := hSw; go_simp⟩) hH ?_
    try simp only [put_some, List.set_cons_zero, List.set_cons_succ]
    refine takeH (i := 4) (d := some 100) (v := .agg #[.slice ba lenb capb, .int .i64 n2, .bool hs2, .int .i64 vt2, .int .i64 vn2, .string vs2]) rfl rfl (by kernel_rfl) (by kernel_rfl) (by kernel_rfl) (fun _ _ _ h => h) (Or.inl ⟨by rfl, fun W hSw => by obtain ⟨s0, s1, s2, s3, s4, s5, s6, s7, s8, s9, s10, s11, s12, s13, s14, s15, s16, s17, s18, s19, s20, s21⟩ := hSw; go_simp⟩) hH ?_
    try simp only [put_some, List.set_cons_zero, List.set_cons_succ]
    refine wpAnyH_ready (rs := [1, 7]) (by kernel_rfl) (by simp) ?_
    refine AllReadyH.cons rfl (fun K hK => ?_) (AllReadyH.cons rfl (fun K hK => ?_) AllReadyH.nil)
    · skip
      refine step_of rfl ?_
      refine callTQ_op _ rfl _ _ rfl (.agg #[.int .i64 qk, .int .i64 t.kind, .int .i64 t.col, .int .i64 t.op, .int .i64 t.v.ty, .int .i64 t.v.n, .string t.v.s, u, .int .i64 qc, .slice a len cap]) rfl ((HTQ.out _ BT).mono ?_)
      rintro e gc1 ⟨uq, oo, rfl, oq, hb⟩
      have zc0 := hb.size
      replace BT := below_then BT hb BT.size
      clear hb
      obtain ⟨qa1, qc1, qg1, qd1, e1, e2⟩ := oq.sl
      subst e1 e2
      refine ⟨_, rfl, ?_⟩
      try simp only [put_some, List.set_cons_zero, List.set_cons_succ]
      refine hK.out _ _ (HKS.out _ BT) (fun hH => ?_)
      clear hK K
      refine wpAnyH_ready (rs := [3, 7]) (by kernel_rfl) (by simp) ?_
      refine AllReadyH.cons rfl (fun K hK => ?_) (AllReadyH.cons rfl (fun K hK => ?_) AllReadyH.nil)
      · skip
        refine step_of rfl ?_
        refine callTR_op _ rfl _ _ rfl (.agg #[.slice aa lena capa, .int .i64 n1, .bool hs1, .int .i64 vt1, .int .i64 vn1, .string vs1]) rfl ((HTA.out _ BT).mono ?_)
        rintro e gc2 ⟨uA, rfl, qA, oA, eA, hb⟩
        have zc1 := hb.size
        replace oq := oq.below hb (by omega)
        replace BT := below_then BT hb BT.size
        clear hb
        obtain ⟨ra1, rc1, e1⟩ := oA.1.sl
        subst e1
        refine ⟨_, rfl, ?_⟩
        try simp only [put_some, List.set_cons_zero, List.set_cons_succ]
        refine hK.out _ _ (HKS.out _ BT) (fun hH => ?_)
        clear hK K
        refine wpAnyH_ready (rs := [5, 7]) (by kernel_rfl) (by simp) ?_
        refine AllReadyH.cons rfl (fun K hK => ?_) (AllReadyH.cons rfl (fun K hK => ?_) AllReadyH.nil)
        · skip
          refine step_of rfl ?_
          refine callTR_op _ rfl _ _ rfl (.agg #[.slice ba lenb capb, .int .i64 n2, .bool hs2, .int .i64 vt2, .int .i64 vn2, .string vs2]) rfl ((HTB.out _ BT).mono ?_)
          rintro e gc3 ⟨uB, rfl, qB, oB, eB, hb⟩
          have zc2 := hb.size
          replace oq := oq.below hb (by omega)
          replace oA := oA.below hb (by omega)
          replace BT := below_then BT hb BT.size
          clear hb
          obtain ⟨rb1, rd1, e1⟩ := oB.1.sl
          subst e1
          refine ⟨_, rfl, ?_⟩
          try simp only [put_some, List.set_cons_zero, List.set_cons_succ]
          refine hK.out _ _ (HKS.out _ BT) (fun hH => ?_)
          clear hK K
          refine wpAnyH_ready (rs := [6, 7]) (by kernel_rfl) (by simp) ?_
          refine AllReadyH.cons rfl (fun K hK => ?_) (AllReadyH.cons rfl (fun K hK => ?_) AllReadyH.nil)
          · skip
            refine step_of rfl ?_
            refine callIJ_op _ rfl _ _ _ _ _ _ rfl _ _ _ rfl rfl rfl ((HIJ.out _ _ _ _ _ _ _ _ _ _ _ _ _ qA qB oA.rdN eA oB.rdN eB).mono ?_)
            rintro e gc4 ⟨uJ, qJ, rfl, oJ, eJ, hb⟩
            have zc3 := hb.size
            replace oq := oq.below hb (by omega)
            replace oA := oA.below hb (by omega)
            replace oB := oB.below hb (by omega)
            replace BT := below_then BT hb BT.size
            clear hb
            obtain ⟨rj1, rk1, e1⟩ := oJ.1.sl
            subst e1
            refine ⟨_, rfl, ?_⟩
            try simp only [put_some, List.set_cons_zero, List.set_cons_succ]
            refine hK.out _ _ (HKS.out _ BT) (fun hH => ?_)
            clear hK K
            refine wpAnyH_ready (rs := [7]) (by kernel_rfl) (by simp) ?_
            refine AllReadyH.cons rfl (fun K hK => ?_) AllReadyH.nil
            have A0 := below_alloc gc4 (.cells #[.slice none 0 0, .int .i64 0, .bool false, .int .i64 0, .int .i64 0, .string ⟨#[]⟩] 50)
            have CN := blk_new gc4 [.slice none 0 0, .int .i64 0, .bool false, .int .i64 0, .int .i64 0, .string ⟨#[]⟩] 50
            have hzn : (gc4.alloc (.cells #[.slice none 0 0, .int .i64 0, .bool false, .int .i64 0, .int .i64 0, .string ⟨#[]⟩] 50)).heap.size = gc4.heap.size + 1 := World.size_alloc _ _
            replace oq := oq.below A0 (by omega)
            replace oA := oA.below A0 (by omega)
            replace oB := oB.below A0 (by omega)
            replace oJ := oJ.below A0 (by omega)
            replace BT := below_then BT A0 BT.size
            refine step_of rfl ?_
            refine allocR_op _ rfl rfl ?_
            try simp only [put_some, List.set_cons_zero, List.set_cons_succ]
            refine hK.out _ _ (HKS.out _ BT) (fun hH => ?_)
            clear hK K A0
            generalize hnn : gc4.heap.size = NN at CN hzn ⊢
            generalize gc4.alloc (.cells #[.slice none 0 0, .int .i64 0, .bool false, .int .i64 0, .int .i64 0, .string ⟨#[]⟩] 50) = ga5 at BT CN hzn hH oq oA oB oJ ⊢
            refine wpAnyH_ready (rs := [8]) (by kernel_rfl) (by simp) ?_
            refine AllReadyH.cons rfl (fun K hK => ?_) AllReadyH.nil
            have CN1 := (((((CN.set 0 (.slice rj1 qJ.length rk1)).set 1 (.int .i64 Jn)).set 2 (.bool Jh)).set 3 (.int .i64 Jt)).set 4 (.int .i64 Jv)).set 5 (.string Js)
            have hlw : NN < ga5.heap.size := CN.lt
            have WN := ((((((Within.refl NN (NN + 1) ga5).trans (within_set _ NN 0 (.slice rj1 qJ.length rk1))).trans (within_set _ NN 1 (.int .i64 Jn))).trans (within_set _ NN 2 (.bool Jh))).trans (within_set _ NN 3 (.int .i64 Jt))).trans (within_set _ NN 4 (.int .i64 Jv))).trans (within_set _ NN 5 (.string Js))
            have oJ2 := oJ.within WN (by omega)
            have BT2 := BT.trans (WN.below (B := w15.heap.size) (by omega) (by have := BT.size; omega))
            have hsz := WN.2.2.2.1
            refine step_of rfl ?_
            refine storeR_op 16 102 rfl rfl NN (.slice none 0 0) (.int .i64 0) (.bool false) (.int .i64 0) (.int .i64 0) (.string ⟨#[]⟩) rj1 qJ.length rk1 Jn Jt Jv Jh Js rfl rfl CN ?_
            refine hK.out _ _ (HKS.out _ BT2) (fun hH => ?_)
            clear hK K
            refine wpAnyH_done (by kernel_rfl) ?_ _
            exact ⟨NN, .slice rj1 qJ.length rk1, qJ, _, _, by kernel_rfl, CN1, oJ2, eJ, BT2, by omega, by omega, by omega, by omega, by omega⟩
          · skip
            have A0 := below_alloc gc3 (.cells #[.slice none 0 0, .int .i64 0, .bool false, .int .i64 0, .int .i64 0, .string ⟨#[]⟩] 50)
            have CN := blk_new gc3 [.slice none 0 0, .int .i64 0, .bool false, .int .i64 0, .int .i64 0, .string ⟨#[]⟩] 50
            have hzn : (gc3.alloc (.cells #[.slice none 0 0, .int .i64 0, .bool false, .int .i64 0, .int .i64 0, .string ⟨#[]⟩] 50)).heap.size = gc3.heap.size + 1 := World.size_alloc _ _
            replace oq := oq.below A0 (by omega)
            replace oA := oA.below A0 (by omega)
            replace oB := oB.below A0 (by omega)
            replace BT := below_then BT A0 BT.size
            refine step_of rfl ?_
            refine allocR_op _ rfl rfl ?_
            try simp only [put_some, List.set_cons_zero, List.set_cons_succ]
            refine hK.out _ _ (HKS.out _ BT) (fun hH => ?_)
            clear hK K A0
            generalize hnn : gc3.heap.size = NN at CN hzn ⊢
            generalize gc3.alloc (.cells #[.slice none 0 0, .int .i64 0, .bool false, .int .i64 0, .int .i64 0, .string ⟨#[]⟩] 50) = ga6 at BT CN hzn hH oq oA oB ⊢
            refine wpAnyH_ready (rs := [6]) (by kernel_rfl) (by simp) ?_
            refine AllReadyH.cons rfl (fun K hK => ?_) AllReadyH.nil
            refine step_of rfl ?_
            refine callIJ_op _ rfl _ _ _ _ _ _ rfl _ _ _ rfl rfl rfl ((HIJ.out _ _ _ _ _ _ _ _ _ _ _ _ _ qA qB oA.rdN eA oB.rdN eB).mono ?_)
            rintro e gc7 ⟨uJ, qJ, rfl, oJ, eJ, hb⟩
            have zc3 := hb.size
            replace oq := oq.below hb (by omega)
            replace oA := oA.below hb (by omega)
            replace oB := oB.below hb (by omega)
            replace CN := CN.below hb
            replace BT := below_then BT hb BT.size
            clear hb
            obtain ⟨rj1, rk1, e1⟩ := oJ.1.sl
            subst e1
            refine ⟨_, rfl, ?_⟩
            try simp only [put_some, List.set_cons_zero, List.set_cons_succ]
            refine hK.out _ _ (HKS.out _ BT) (fun hH => ?_)
            clear hK K
            refine wpAnyH_ready (rs := [8]) (by kernel_rfl) (by simp) ?_
            refine AllReadyH.cons rfl (fun K hK => ?_) AllReadyH.nil
            have CN1 := (((((CN.set 0 (.slice rj1 qJ.length rk1)).set 1 (.int .i64 Jn)).set 2 (.bool Jh)).set 3 (.int .i64 Jt)).set 4 (.int .i64 Jv)).set 5 (.string Js)
            have hlw : NN < gc7.heap.size := CN.lt
            have WN := ((((((Within.refl NN (NN + 1) gc7).trans (within_set _ NN 0 (.slice rj1 qJ.length rk1))).trans (within_set _ NN 1 (.int .i64 Jn))).trans (within_set _ NN 2 (.bool Jh))).trans (within_set _ NN 3 (.int .i64 Jt))).trans (within_set _ NN 4 (.int .i64 Jv))).trans (within_set _ NN 5 (.string Js))
            have oJ2 := oJ.within WN (by omega)
            have BT2 := BT.trans (WN.below (B := w15.heap.size) (by omega) (by have := BT.size; omega))
            have hsz := WN.2.2.2.1
            refine step_of rfl ?_
            refine storeR_op 16 102 rfl rfl NN (.slice none 0 0) (.int .i64 0) (.bool false) (.int .i64 0) (.int .i64 0) (.string ⟨#[]⟩) rj1 qJ.length rk1 Jn Jt Jv Jh Js rfl rfl CN ?_
            refine hK.out _ _ (HKS.out _ BT2) (fun hH => ?_)
            clear hK K
            refine wpAnyH_done (by kernel_rfl) ?_ _
            exact ⟨NN, .slice rj1 qJ.length rk1, qJ, _, _, by kernel_rfl, CN1, oJ2, eJ, BT2, by omega, by omega, by omega, by omega, by omega⟩
        · skip
          have A0 := below_alloc gc2 (.cells #[.slice none 0 0, .int .i64 0, .bool false, .int .i64 0, .int .i64 0, .string ⟨#[]⟩] 50)
          have CN := blk_new gc2 [.slice none 0 0, .int .i64 0, .bool false, .int .i64 0, .int .i64 0, .string ⟨#[]⟩] 50
          have hzn : (gc2.alloc (.cells #[.slice none 0 0, .int .i64 0, .bool false, .int .i64 0, .int .i64 0, .string ⟨#[]⟩] 50)).heap.size = gc2.heap.size + 1 := World.size_alloc _ _
          replace oq := oq.below A0 (by omega)
          replace oA := oA.below A0 (by omega)
          replace BT := below_then BT A0 BT.size
          refine step_of rfl ?_
          refine allocR_op _ rfl rfl ?_
          try simp only [put_some, List.set_cons_zero, List.set_cons_succ]
          refine hK.out _ _ (HKS.out _ BT) (fun hH => ?_)
          clear hK K A0
          generalize hnn : gc2.heap.size = NN at CN hzn ⊢
          generalize gc2.alloc (.cells #[.slice none 0 0, .int .i64 0, .bool false, .int .i64 0, .int .i64 0, .string ⟨#[]⟩] 50) = ga8 at BT CN hzn hH oq oA ⊢
          refine wpAnyH_ready (rs := [5]) (by kernel_rfl) (by simp) ?_
          refine AllReadyH.cons rfl (fun K hK => ?_) AllReadyH.nil
          refine step_of rfl ?_
          refine callTR_op _ rfl _ _ rfl (.agg #[.slice ba lenb capb, .int .i64 n2, .bool hs2, .int .i64 vt2, .int .i64 vn2, .string vs2]) rfl ((HTB.out _ BT).mono ?_)
          rintro e gc9 ⟨uB, rfl, qB, oB, eB, hb⟩
          have zc2 := hb.size
          replace oq := oq.below hb (by omega)
          replace oA := oA.below hb (by omega)
          replace CN := CN.below hb
          replace BT := below_then BT hb BT.size
          clear hb
          obtain ⟨rb1, rd1, e1⟩ := oB.1.sl
          subst e1
          refine ⟨_, rfl, ?_⟩
          try simp only [put_some, List.set_cons_zero, List.set_cons_succ]
          refine hK.out _ _ (HKS.out _ BT) (fun hH => ?_)
          clear hK K
          refine wpAnyH_ready (rs := [6]) (by kernel_rfl) (by simp) ?_
          refine AllReadyH.cons rfl (fun K hK => ?_) AllReadyH.nil
          refine step_of rfl ?_
          refine callIJ_op _ rfl _ _ _ _ _ _ rfl _ _ _ rfl rfl rfl ((HIJ.out _ _ _ _ _ _ _ _ _ _ _ _ _ qA qB oA.rdN eA oB.rdN eB).mono ?_)
          rintro e gc10 ⟨uJ, qJ, rfl, oJ, eJ, hb⟩
          have zc3 := hb.size
          replace oq := oq.below hb (by omega)
          replace oA := oA.below hb (by omega)
          replace oB := oB.below hb (by omega)
          replace CN := CN.below hb
          replace BT := below_then BT hb BT.size
          clear hb
          obtain ⟨rj1, rk1, e1⟩ := oJ.1.sl
          subst e1
          refine ⟨_, rfl, ?_⟩
          try simp only [put_some, List.set_cons_zero, List.set_cons_succ]
          refine hK.out _ _ (HKS.out _ BT) (fun hH => ?_)
          clear hK K
          refine wpAnyH_ready (rs := [8]) (by kernel_rfl) (by simp) ?_
          refine AllReadyH.cons rfl (fun K hK => ?_) AllReadyH.nil
          have CN1 := (((((CN.set 0 (.slice rj1 qJ.length rk1)).set 1 (.int .i64 Jn)).set 2 (.bool Jh)).set 3 (.int .i64 Jt)).set 4 (.int .i64 Jv)).set 5 (.string Js)
          have hlw : NN < gc10.heap.size := CN.lt
          have WN := ((((((Within.refl NN (NN + 1) gc10).trans (within_set _ NN 0 (.slice rj1 qJ.length rk1))).trans (within_set _ NN 1 (.int .i64 Jn))).trans (within_set _ NN 2 (.bool Jh))).trans (within_set _ NN 3 (.int .i64 Jt))).trans (within_set _ NN 4 (.int .i64 Jv))).trans (within_set _ NN 5 (.string Js))
          have oJ2 := oJ.within WN (by omega)
          have BT2 := BT.trans (WN.below (B := w15.heap.size) (by omega) (by have := BT.size; omega))
          have hsz := WN.2.2.2.1
          refine step_of rfl ?_
          refine storeR_op 16 102 rfl rfl NN (.slice none 0 0) (.int .i64 0) (.bool false) (.int .i64 0) (.int .i64 0) (.string ⟨#[]⟩) rj1 qJ.length rk1 Jn Jt Jv Jh Js rfl rfl CN ?_
          refine hK.out _ _ (HKS.out _ BT2) (fun hH => ?_)
          clear hK K
          refine wpAnyH_done (by kernel_rfl) ?_ _
          exact ⟨NN, .slice rj1 qJ.length rk1, qJ, _, _, by kernel_rfl, CN1, oJ2, eJ, BT2, by omega, by omega, by omega, by omega, by omega⟩
      · skip
        have A0 := below_alloc gc1 (.cells #[.slice none 0 0, .int .i64 0, .bool false, .int .i64 0, .int .i64 0, .string ⟨#[]⟩] 50)
        have CN := blk_new gc1 [.slice none 0 0, .int .i64 0, .bool false, .int .i64 0, .int .i64 0, .string ⟨#[]⟩] 50
        have hzn : (gc1.alloc (.cells #[.slice none 0 0, .int .i64 0, .bool false, .int .i64 0, .int .i64 0, .string ⟨#[]⟩] 50)).heap.size = gc1.heap.size + 1 := World.size_alloc _ _
        replace oq := oq.below A0 (by omega)
        replace BT := below_then BT A0 BT.size
        refine step_of rfl ?_
        refine allocR_op _ rfl rfl ?_
        try simp only [put_some, List.set_cons_zero, List.set_cons_succ]
        refine hK.out _ _ (HKS.out _ BT) (fun hH => ?_)
        clear hK K A0
        generalize hnn : gc1.heap.size = NN at CN hzn ⊢
        generalize gc1.alloc (.cells #[.slice none 0 0, .int .i64 0, .bool false, .int .i64 0, .int .i64 0, .string ⟨#[]⟩] 50) = ga11 at BT CN hzn hH oq ⊢
        refine wpAnyH_ready (rs := [3]) (by kernel_rfl) (by simp) ?_
        refine AllReadyH.cons rfl (fun K hK => ?_) AllReadyH.nil
        refine step_of rfl ?_
        refine callTR_op _ rfl _ _ rfl (.agg #[.slice aa lena capa, .int .i64 n1, .bool hs1, .int .i64 vt1, .int .i64 vn1, .string vs1]) rfl ((HTA.out _ BT).mono ?_)
        rintro e gc12 ⟨uA, rfl, qA, oA, eA, hb⟩
        have zc1 := hb.size
        replace oq := oq.below hb (by omega)
        replace CN := CN.below hb
        replace BT := below_then BT hb BT.size
        clear hb
        obtain ⟨ra1, rc1, e1⟩ := oA.1.sl
        subst e1
        refine ⟨_, rfl, ?_⟩
        try simp only [put_some, List.set_cons_zero, List.set_cons_succ]
        refine hK.out _ _ (HKS.out _ BT) (fun hH => ?_)
        clear hK K
        refine wpAnyH_ready (rs := [5]) (by kernel_rfl) (by simp) ?_
        refine AllReadyH.cons rfl (fun K hK => ?_) AllReadyH.nil
        refine step_of rfl ?_
        refine callTR_op _ rfl _ _ rfl (.agg #[.slice ba lenb capb, .int .i64 n2, .bool hs2, .int .i64 vt2, .int .i64 vn2, .string vs2]) rfl ((HTB.out _ BT).mono ?_)
        rintro e gc13 ⟨uB, rfl, qB, oB, eB, hb⟩
        have zc2 := hb.size
        replace oq := oq.below hb (by omega)
        replace oA := oA.below hb (by omega)
        replace CN := CN.below hb
        replace BT := below_then BT hb BT.size
        clear hb
        obtain ⟨rb1, rd1, e1⟩ := oB.1.sl
        subst e1
        refine ⟨_, rfl, ?_⟩
        try simp only [put_some, List.set_cons_zero, List.set_cons_succ]
        refine hK.out _ _ (HKS.out _ BT) (fun hH => ?_)
        clear hK K
        refine wpAnyH_ready (rs := [6]) (by kernel_rfl) (by simp) ?_
        refine AllReadyH.cons rfl (fun K hK => ?_) AllReadyH.nil
        refine step_of rfl ?_
        refine callIJ_op _ rfl _ _ _ _ _ _ rfl _ _ _ rfl rfl rfl ((HIJ.out _ _ _ _ _ _ _ _ _ _ _ _ _ qA qB oA.rdN eA oB.rdN eB).mono ?_)
        rintro e gc14 ⟨uJ, qJ, rfl, oJ, eJ, hb⟩
        have zc3 := hb.size
        replace oq := oq.below hb (by omega)
        replace oA := oA.below hb (by omega)
        replace oB := oB.below hb (by omega)
        replace CN := CN.below hb
        replace BT := below_then BT hb BT.size
        clear hb
        obtain ⟨rj1, rk1, e1⟩ := oJ.1.sl
        subst e1
        refine ⟨_, rfl, ?_⟩
        try simp only [put_some, List.set_cons_zero, List.set_cons_succ]
        refine hK.out _ _ (HKS.out _ BT) (fun hH => ?_)
        clear hK K
        refine wpAnyH_ready (rs := [8]) (by kernel_rfl) (by simp) ?_
        refine AllReadyH.cons rfl (fun K hK => ?_) AllReadyH.nil
        have CN1 := (((((CN.set 0 (.slice rj1 qJ.length rk1)).set 1 (.int .i64 Jn)).set 2 (.bool Jh)).set 3 (.int .i64 Jt)).set 4 (.int .i64 Jv)).set 5 (.string Js)
        have hlw : NN < gc14.heap.size := CN.lt
        have WN := ((((((Within.refl NN (NN + 1) gc14).trans (within_set _ NN 0 (.slice rj1 qJ.length rk1))).trans (within_set _ NN 1 (.int .i64 Jn))).trans (within_set _ NN 2 (.bool Jh))).trans (within_set _ NN 3 (.int .i64 Jt))).trans (within_set _ NN 4 (.int .i64 Jv))).trans (within_set _ NN 5 (.string Js))
        have oJ2 := oJ.within WN (by omega)
        have BT2 := BT.trans (WN.below (B := w15.heap.size) (by omega) (by have := BT.size; omega))
        have hsz := WN.2.2.2.1
        refine step_of rfl ?_
        refine storeR_op 16 102 rfl rfl NN (.slice none 0 0) (.int .i64 0) (.bool false) (.int .i64 0) (.int .i64 0) (.string ⟨#[]⟩) rj1 qJ.length rk1 Jn Jt Jv Jh Js rfl rfl CN ?_
        refine hK.out _ _ (HKS.out _ BT2) (fun hH => ?_)
        clear hK K
        refine wpAnyH_done (by kernel_rfl) ?_ _
        exact ⟨NN, .slice rj1 qJ.length rk1, qJ, _, _, by kernel_rfl, CN1, oJ2, eJ, BT2, by omega, by omega, by omega, by omega, by omega⟩
    · skip
      have A0 := below_alloc g0 (.cells #[.slice none 0 0, .int .i64 0, .bool false, .int .i64 0, .int .i64 0, .string ⟨#[]⟩] 50)
      have CN := blk_new g0 [.slice none 0 0, .int .i64 0, .bool false, .int .i64 0, .int .i64 0, .string ⟨#[]⟩] 50
      have hzn : (g0.alloc (.cells #[.slice none 0 0, .int .i64 0, .bool false, .int .i64 0, .int .i64 0, .string ⟨#[]⟩] 50)).heap.size = g0.heap.size + 1 := World.size_alloc _ _
      replace BT := below_then BT A0 BT.size
      refine step_of rfl ?_
      refine allocR_op _ rfl rfl ?_
      try simp only [put_some, List.set_cons_zero, List.set_cons_succ]
      refine hK.out _ _ (HKS.out _ BT) (fun hH => ?_)
      clear hK K A0
      generalize hnn : g0.heap.size = NN at CN hzn ⊢
      generalize g0.alloc (.cells #[.slice none 0 0, .int .i64 0, .bool false, .int .i64 0, .int .i64 0, .string ⟨#[]⟩] 50) = ga15 at BT CN hzn hH  ⊢
      refine wpAnyH_ready (rs := [1]) (by kernel_rfl) (by simp) ?_
      refine AllReadyH.cons rfl (fun K hK => ?_) AllReadyH.nil
      refine step_of rfl ?_
      refine callTQ_op _ rfl _ _ rfl (.agg #[.int .i64 qk, .int .i64 t.kind, .int .i64 t.col, .int .i64 t.op, .int .i64 t.v.ty, .int .i64 t.v.n, .string t.v.s, u, .int .i64 qc, .slice a len cap]) rfl ((HTQ.out _ BT).mono ?_)
      rintro e gc16 ⟨uq, oo, rfl, oq, hb⟩
      have zc0 := hb.size
      replace CN := CN.below hb
      replace BT := below_then BT hb BT.size
      clear hb
      obtain ⟨qa1, qc1, qg1, qd1, e1, e2⟩ := oq.sl
      subst e1 e2
      refine ⟨_, rfl, ?_⟩
      try simp only [put_some, List.set_cons_zero, List.set_cons_succ]
      refine hK.out _ _ (HKS.out _ BT) (fun hH => ?_)
      clear hK K
      refine wpAnyH_ready (rs := [3]) (by kernel_rfl) (by simp) ?_
      refine AllReadyH.cons rfl (fun K hK => ?_) AllReadyH.nil
      refine step_of rfl ?_
      refine callTR_op _ rfl _ _ rfl (.agg #[.slice aa lena capa, .int .i64 n1, .bool hs1, .int .i64 vt1, .int .i64 vn1, .string vs1]) rfl ((HTA.out _ BT).mono ?_)
      rintro e gc17 ⟨uA, rfl, qA, oA, eA, hb⟩
      have zc1 := hb.size
      replace oq := oq.below hb (by omega)
      replace CN := CN.below hb
      replace BT := below_then BT hb BT.size
      clear hb
      obtain ⟨ra1, rc1, e1⟩ := oA.1.sl
      subst e1
      refine ⟨_, rfl, ?_⟩
      try simp only [put_some, List.set_cons_zero, List.set_cons_succ]
      refine hK.out _ _ (HKS.out _ BT) (fun hH => ?_)
      clear hK K
      refine wpAnyH_ready (rs := [5]) (by kernel_rfl) (by simp) ?_
      refine AllReadyH.cons rfl (fun K hK => ?_) AllReadyH.nil
      refine step_of rfl ?_
      refine callTR_op _ rfl _ _ rfl (.agg #[.slice ba lenb capb, .int .i64 n2, .bool hs2, .int .i64 vt2, .int .i64 vn2, .string vs2]) rfl ((HTB.out _ BT).mono ?_)
      rintro e gc18 ⟨uB, rfl, qB, oB, eB, hb⟩
      have zc2 := hb.size
      replace oq := oq.below hb (by omega)
      replace oA := oA.below hb (by omega)
      replace CN := CN.below hb
      replace BT := below_then BT hb BT.size
      clear hb
      obtain ⟨rb1, rd1, e1⟩ := oB.1.sl
      subst e1
      refine ⟨_, rfl, ?_⟩
      try simp only [put_some, List.set_cons_zero, List.set_cons_succ]
      refine hK.out _ _ (HKS.out _ BT) (fun hH => ?_)
      clear hK K
      refine wpAnyH_ready (rs := [6]) (by kernel_rfl) (by simp) ?_
      refine AllReadyH.cons rfl (fun K hK => ?_) AllReadyH.nil
      refine step_of rfl ?_
      refine callIJ_op _ rfl _ _ _ _ _ _ rfl _ _ _ rfl rfl rfl ((HIJ.out _ _ _ _ _ _ _ _ _ _ _ _ _ qA qB oA.rdN eA oB.rdN eB).mono ?_)
      rintro e gc19 ⟨uJ, qJ, rfl, oJ, eJ, hb⟩
      have zc3 := hb.size
      replace oq := oq.below hb (by omega)
      replace oA := oA.below hb (by omega)
      replace oB := oB.below hb (by omega)
      replace CN := CN.below hb
      replace BT := below_then BT hb BT.size
      clear hb
      obtain ⟨rj1, rk1, e1⟩ := oJ.1.sl
      subst e1
      refine ⟨_, rfl, ?_⟩
      try simp only [put_some, List.set_cons_zero, List.set_cons_succ]
      refine hK.out _ _ (HKS.out _ BT) (fun hH => ?_)
      clear hK K
      refine wpAnyH_ready (rs := [8]) (by kernel_rfl) (by simp) ?_
      refine AllReadyH.cons rfl (fun K hK => ?_) AllReadyH.nil
      have CN1 := (((((CN.set 0 (.slice rj1 qJ.length rk1)).set 1 (.int .i64 Jn)).set 2 (.bool Jh)).set 3 (.int .i64 Jt)).set 4 (.int .i64 Jv)).set 5 (.string Js)
      have hlw : NN < gc19.heap.size := CN.lt
      have WN := ((((((Within.refl NN (NN + 1) gc19).trans (within_set _ NN 0 (.slice rj1 qJ.length rk1))).trans (within_set _ NN 1 (.int .i64 Jn))).trans (within_set _ NN 2 (.bool Jh))).trans (within_set _ NN 3 (.int .i64 Jt))).trans (within_set _ NN 4 (.int .i64 Jv))).trans (within_set _ NN 5 (.string Js))
      have oJ2 := oJ.within WN (by omega)
      have BT2 := BT.trans (WN.below (B := w15.heap.size) (by omega) (by have := BT.size; omega))
      have hsz := WN.2.2.2.1
      refine step_of rfl ?_
      refine storeR_op 16 102 rfl rfl NN (.slice none 0 0) (.int .i64 0) (.bool false) (.int .i64 0) (.int .i64 0) (.string ⟨#[]⟩) rj1 qJ.length rk1 Jn Jt Jv Jh Js rfl rfl CN ?_
      refine hK.out _ _ (HKS.out _ BT2) (fun hH => ?_)
      clear hK K
      refine wpAnyH_done (by kernel_rfl) ?_ _
      exact ⟨NN, .slice rj1 qJ.length rk1, qJ, _, _, by kernel_rfl, CN1, oJ2, eJ, BT2, by omega, by omega, by omega, by omega, by omega⟩
  rintro a' w16 ⟨Nh, uh, qsh, xh, yh, hF, Ch, oh, eh, hb, hnh1, hnh2, hnh3, hnh4, hnh5⟩
  generalize slot a' = zfh at hF
  subst hF
  have z16 := hb.size
  replace ow := ow.below hb (by omega)
  replace og := og.below hb (by omega)
  replace C0 := C0.below hb
  replace CA := CA.below hb
  replace CB := CB.below hb
  replace Cw := Cw.below hb
  replace CX := CX.below hb
  replace CY := CY.below hb
  replace CZ := CZ.below hb
  replace CG := CG.below hb
  replace bt := below_then bt hb (by omega)
  clear hb
  obtain ⟨gh1, gh2, heh⟩ := oh.1.sl
  subst heh
  clear HTQ HTA HTB HKS
  have HHE := Lib.hid eh
  clear eh
  have p0 := (Ch 0 _ rfl).1
  have p1 := (Ch 1 _ rfl).1
  have p2 := (Ch 2 _ rfl).1
  have p3 := (Ch 3 _ rfl).1
  have p4 := (Ch 4 _ rfl).1
  have p5 := (Ch 5 _ rfl).1
  have d0 := (Cw 0 _ rfl).1
  have d1 := (Cw 1 _ rfl).1
  have d2 := (Cw 2 _ rfl).1
  have d3 := (Cw 3 _ rfl).1
  have d4 := (Cw 4 _ rfl).1
  have d5 := (Cw 5 _ rfl).1
  go_wp2_with fail
  refine (eqResult Jn Jh Jt Jv Js (.slice gh1 qsh.length gh2) (.slice gw1 qsw.length gw2) qsh qsw w16 (HWE.out.trans HHE.out.symm) oh.rd ow.rd).mono ?_
  rintro e w17 ⟨rfl, hb⟩
  clear p0 p1 p2 p3 p4 p5 d0 d1 d2 d3 d4 d5
  have z17 := hb.size
  replace ow := ow.below hb (by omega)
  replace og := og.below hb (by omega)
  replace oh := oh.below hb (by omega)
  replace C0 := C0.below hb
  replace CA := CA.below hb
  replace CB := CB.below hb
  replace Cw := Cw.below hb
  replace CX := CX.below hb
  replace CY := CY.below hb
  replace CZ := CZ.below hb
  replace CG := CG.below hb
  replace Ch := Ch.below hb
  replace bt := below_then bt hb (by omega)
  clear hb
  have p0 := (CG 0 _ rfl).1
  have p1 := (CG 1 _ rfl).1
  have p2 := (CG 2 _ rfl).1
  have p3 := (CG 3 _ rfl).1
  have p4 := (CG 4 _ rfl).1
  have p5 := (CG 5 _ rfl).1
  go_wp2_with fail
  refine (heldResult Jn Jh Jt Jv Js (.slice gga gm ggc) qg 1 w17 (by omega) (by omega) HGL.out.1 HGL.out.2 og.rd).mono ?_
  rintro e w18 ⟨rfl, hb⟩
  clear p0 p1 p2 p3 p4 p5
  have z18 := hb.size
  replace ow := ow.below hb (by omega)
  replace og := og.below hb (by omega)
  replace oh := oh.below hb (by omega)
  replace C0 := C0.below hb
  replace CA := CA.below hb
  replace CB := CB.below hb
  replace Cw := Cw.below hb
  replace CX := CX.below hb
  replace CY := CY.below hb
  replace CZ := CZ.below hb
  replace CG := CG.below hb
  replace Ch := Ch.below hb
  replace bt := below_then bt hb (by omega)
  clear hb
  go_wp2
  go_ret
  exact ⟨rfl, bt⟩

end Go.Proofs.YtkofafefnlommaaDoor
