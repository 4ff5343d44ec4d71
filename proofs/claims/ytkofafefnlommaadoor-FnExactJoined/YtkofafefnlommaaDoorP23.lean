/- Texts of this claim, one behind the other: J12j. -/
import Derived.Test.YtkofafefnlommaaDoorP22
import Derived.Test.YtkofafefnlommaaDoorP8

/- The program's Joined (written by mk_J12j.py). -/
namespace Go.Proofs.YtkofafefnlommaaDoor
open Go.RowKit

set_option maxRecDepth 100000 in
set_option maxHeartbeats 4000000 in
theorem iJoined1 (t : T) (qc : Int) (ua : Option Addr) (un uc : Nat) (oa : Option Addr) (on oc : Nat) (a b : Rs) (aa : Option Addr) (an ac : Nat) (ba : Option Addr) (bn bc : Nat) (psa psb : List P) (w : World) (ha : RdRsN w (.slice aa an ac) psa) (hpa : psa.map (·.1) = a.rows) (hb : RdRsN w (.slice ba bn bc) psb) (hpb : psb.map (·.1) = b.rows) (hn : psa.length + psb.length ≤ 4194304) (hla : ∀ p ∈ psa, p.1.l.length ≤ 1048576) (hlb : ∀ p ∈ psb, p.1.l.length ≤ 1048576) :
    Calls Tryd.prog 20 #[.agg #[.int .i64 1, .int .i64 t.kind, .int .i64 t.col, .int .i64 t.op, .int .i64 t.v.ty, .int .i64 t.v.n, .string t.v.s, .slice ua un uc, .int .i64 qc, .slice oa on oc], .agg #[.slice aa an ac, .int .i64 a.n, .bool a.has, .int .i64 a.v.ty, .int .i64 a.v.n, .string a.v.s], .agg #[.slice ba bn bc, .int .i64 b.n, .bool b.has, .int .i64 b.v.ty, .int .i64 b.v.n, .string b.v.s]] w fun e w' => ∃ u' qs', e = .returned (.agg ((addL 1 (addL 1 Rs.zero a) b).cs u').toArray) ∧ MyRs w.heap.size w'.heap.size w' u' qs' ∧ qs'.map (·.1) = (addL 1 (addL 1 Rs.zero a) b).rows ∧ qs'.length ≤ psa.length + psb.length ∧ Below w.heap.size w w' := by
  have HA := Lib.hid (fun W => aggOf1 W)
  have HAD := Lib.hid (fun (r b : Rs) (u : Value) (ba : Option Addr) (bn bc : Nat) (qs ps : List P) (W : World) => addC1 (w.heap.size + 1 + 1 + 1 + 1) r b u ba bn bc qs ps W)
  have B0 : Below w.heap.size w (((((w.alloc (.cells #[.int .i64 1, .int .i64 t.kind, .int .i64 t.col, .int .i64 t.op, .int .i64 t.v.ty, .int .i64 t.v.n, .string t.v.s, .slice ua un uc, .int .i64 qc, .slice oa on oc] 46)).alloc (.cells #[.slice aa an ac, .int .i64 a.n, .bool a.has, .int .i64 a.v.ty, .int .i64 a.v.n, .string a.v.s] 50)).alloc (.cells #[.slice ba bn bc, .int .i64 b.n, .bool b.has, .int .i64 b.v.ty, .int .i64 b.v.n, .string b.v.s] 50)).alloc (.cells #[.slice none 0 0, .int .i64 0, .bool false, .int .i64 0, .int .i64 0, .string ⟨#[]⟩] 50)).alloc (.cells #[.slice none 0 0, .int .i64 0, .bool false, .int .i64 0, .int .i64 0, .string ⟨#[]⟩] 50)) := below_then (below_then (below_then (below_alloc2 w (.cells #[.int .i64 1, .int .i64 t.kind, .int .i64 t.col, .int .i64 t.op, .int .i64 t.v.ty, .int .i64 t.v.n, .string t.v.s, .slice ua un uc, .int .i64 qc, .slice oa on oc] 46) (.cells #[.slice aa an ac, .int .i64 a.n, .bool a.has, .int .i64 a.v.ty, .int .i64 a.v.n, .string a.v.s] 50)) (below_alloc _ (.cells #[.slice ba bn bc, .int .i64 b.n, .bool b.has, .int .i64 b.v.ty, .int .i64 b.v.n, .string b.v.s] 50)) (Below.size (below_alloc2 w (.cells #[.int .i64 1, .int .i64 t.kind, .int .i64 t.col, .int .i64 t.op, .int .i64 t.v.ty, .int .i64 t.v.n, .string t.v.s, .slice ua un uc, .int .i64 qc, .slice oa on oc] 46) (.cells #[.slice aa an ac, .int .i64 a.n, .bool a.has, .int .i64 a.v.ty, .int .i64 a.v.n, .string a.v.s] 50)))) (below_alloc _ (.cells #[.slice none 0 0, .int .i64 0, .bool false, .int .i64 0, .int .i64 0, .string ⟨#[]⟩] 50)) (by simp only [World.size_alloc]; omega)) (below_alloc _ (.cells #[.slice none 0 0, .int .i64 0, .bool false, .int .i64 0, .int .i64 0, .string ⟨#[]⟩] 50)) (by simp only [World.size_alloc]; omega)
  have C0 := ((((blk_new w [.int .i64 1, .int .i64 t.kind, .int .i64 t.col, .int .i64 t.op, .int .i64 t.v.ty, .int .i64 t.v.n, .string t.v.s, .slice ua un uc, .int .i64 qc, .slice oa on oc] 46).below (below_alloc _ (.cells #[.slice aa an ac, .int .i64 a.n, .bool a.has, .int .i64 a.v.ty, .int .i64 a.v.n, .string a.v.s] 50))).below (below_alloc _ (.cells #[.slice ba bn bc, .int .i64 b.n, .bool b.has, .int .i64 b.v.ty, .int .i64 b.v.n, .string b.v.s] 50))).below (below_alloc _ (.cells #[.slice none 0 0, .int .i64 0, .bool false, .int .i64 0, .int .i64 0, .string ⟨#[]⟩] 50))).below (below_alloc _ (.cells #[.slice none 0 0, .int .i64 0, .bool false, .int .i64 0, .int .i64 0, .string ⟨#[]⟩] 50))
  have CA := (((blk_new (w.alloc (.cells #[.int .i64 1, .int .i64 t.kind, .int .i64 t.col, .int .i64 t.op, .int .i64 t.v.ty, .int .i64 t.v.n, .string t.v.s, .slice ua un uc, .int .i64 qc, .slice oa on oc] 46)) [.slice aa an ac, .int .i64 a.n, .bool a.has, .int .i64 a.v.ty, .int .i64 a.v.n, .string a.v.s] 50).below (below_alloc _ (.cells #[.slice ba bn bc, .int .i64 b.n, .bool b.has, .int .i64 b.v.ty, .int .i64 b.v.n, .string b.v.s] 50))).below (below_alloc _ (.cells #[.slice none 0 0, .int .i64 0, .bool false, .int .i64 0, .int .i64 0, .string ⟨#[]⟩] 50))).below (below_alloc _ (.cells #[.slice none 0 0, .int .i64 0, .bool false, .int .i64 0, .int .i64 0, .string ⟨#[]⟩] 50))
  have CB := ((blk_new ((w.alloc (.cells #[.int .i64 1, .int .i64 t.kind, .int .i64 t.col, .int .i64 t.op, .int .i64 t.v.ty, .int .i64 t.v.n, .string t.v.s, .slice ua un uc, .int .i64 qc, .slice oa on oc] 46)).alloc (.cells #[.slice aa an ac, .int .i64 a.n, .bool a.has, .int .i64 a.v.ty, .int .i64 a.v.n, .string a.v.s] 50)) [.slice ba bn bc, .int .i64 b.n, .bool b.has, .int .i64 b.v.ty, .int .i64 b.v.n, .string b.v.s] 50).below (below_alloc _ (.cells #[.slice none 0 0, .int .i64 0, .bool false, .int .i64 0, .int .i64 0, .string ⟨#[]⟩] 50))).below (below_alloc _ (.cells #[.slice none 0 0, .int .i64 0, .bool false, .int .i64 0, .int .i64 0, .string ⟨#[]⟩] 50))
  have CR := (blk_new (((w.alloc (.cells #[.int .i64 1, .int .i64 t.kind, .int .i64 t.col, .int .i64 t.op, .int .i64 t.v.ty, .int .i64 t.v.n, .string t.v.s, .slice ua un uc, .int .i64 qc, .slice oa on oc] 46)).alloc (.cells #[.slice aa an ac, .int .i64 a.n, .bool a.has, .int .i64 a.v.ty, .int .i64 a.v.n, .string a.v.s] 50)).alloc (.cells #[.slice ba bn bc, .int .i64 b.n, .bool b.has, .int .i64 b.v.ty, .int .i64 b.v.n, .string b.v.s] 50)) [.slice none 0 0, .int .i64 0, .bool false, .int .i64 0, .int .i64 0, .string ⟨#[]⟩] 50).below (below_alloc _ (.cells #[.slice none 0 0, .int .i64 0, .bool false, .int .i64 0, .int .i64 0, .string ⟨#[]⟩] 50))
  have CO := blk_new ((((w.alloc (.cells #[.int .i64 1, .int .i64 t.kind, .int .i64 t.col, .int .i64 t.op, .int .i64 t.v.ty, .int .i64 t.v.n, .string t.v.s, .slice ua un uc, .int .i64 qc, .slice oa on oc] 46)).alloc (.cells #[.slice aa an ac, .int .i64 a.n, .bool a.has, .int .i64 a.v.ty, .int .i64 a.v.n, .string a.v.s] 50)).alloc (.cells #[.slice ba bn bc, .int .i64 b.n, .bool b.has, .int .i64 b.v.ty, .int .i64 b.v.n, .string b.v.s] 50)).alloc (.cells #[.slice none 0 0, .int .i64 0, .bool false, .int .i64 0, .int .i64 0, .string ⟨#[]⟩] 50)) [.slice none 0 0, .int .i64 0, .bool false, .int .i64 0, .int .i64 0, .string ⟨#[]⟩] 50
  have hz0 : (((((w.alloc (.cells #[.int .i64 1, .int .i64 t.kind, .int .i64 t.col, .int .i64 t.op, .int .i64 t.v.ty, .int .i64 t.v.n, .string t.v.s, .slice ua un uc, .int .i64 qc, .slice oa on oc] 46)).alloc (.cells #[.slice aa an ac, .int .i64 a.n, .bool a.has, .int .i64 a.v.ty, .int .i64 a.v.n, .string a.v.s] 50)).alloc (.cells #[.slice ba bn bc, .int .i64 b.n, .bool b.has, .int .i64 b.v.ty, .int .i64 b.v.n, .string b.v.s] 50)).alloc (.cells #[.slice none 0 0, .int .i64 0, .bool false, .int .i64 0, .int .i64 0, .string ⟨#[]⟩] 50)).alloc (.cells #[.slice none 0 0, .int .i64 0, .bool false, .int .i64 0, .int .i64 0, .string ⟨#[]⟩] 50)).heap.size = w.heap.size + 5 := by simp only [World.size_alloc]
  simp only [World.size_alloc] at CA CB CR CO
  generalize hw0 : (((((w.alloc (.cells #[.int .i64 1, .int .i64 t.kind, .int .i64 t.col, .int .i64 t.op, .int .i64 t.v.ty, .int .i64 t.v.n, .string t.v.s, .slice ua un uc, .int .i64 qc, .slice oa on oc] 46)).alloc (.cells #[.slice aa an ac, .int .i64 a.n, .bool a.has, .int .i64 a.v.ty, .int .i64 a.v.n, .string a.v.s] 50)).alloc (.cells #[.slice ba bn bc, .int .i64 b.n, .bool b.has, .int .i64 b.v.ty, .int .i64 b.v.n, .string b.v.s] 50)).alloc (.cells #[.slice none 0 0, .int .i64 0, .bool false, .int .i64 0, .int .i64 0, .string ⟨#[]⟩] 50)).alloc (.cells #[.slice none 0 0, .int .i64 0, .bool false, .int .i64 0, .int .i64 0, .string ⟨#[]⟩] 50)) = w0 at B0 C0 CA CB CR CO hz0
  have HW0 := Lib.hid hw0
  have k0 := (C0 0 _ rfl).1
  have hst : ∀ fn f c a W, Sem.run Tryd.prog (store a (.func fn f c)) W = stored Tryd.prog W a (.func fn f c) .plain := fun _ _ _ _ _ => run_store _ _ _ _ _ rfl
  clear hw0
  go_enter Tryd.func20, Tryd.ntmps20
  go_wp2_with fail
  rw [HW0.out]
  refine (HA.out _).mono ?_
  rintro e w1 ⟨rfl, b1⟩
  have hz1 := b1.size
  have A2 := below_alloc w1 (.cells #[.func (.func 61) #[] #[], .func (.func 62) #[] #[], .func (.func 63) #[] #[], .func (.func 64) #[] #[]] 99)
  have B2 := below_then (below_then B0 b1 B0.size) A2 (below_then B0 b1 B0.size).size
  have A2' := below_then b1 A2 b1.size
  have CA2 := CA.below A2'
  have CB2 := CB.below A2'
  have CR2 := CR.below A2'
  have CO2 := CO.below A2'
  have CG2 := blk_new w1 [.func (.func 61) #[] #[], .func (.func 62) #[] #[], .func (.func 63) #[] #[], .func (.func 64) #[] #[]] 99
  have hz2 : (w1.alloc (.cells #[.func (.func 61) #[] #[], .func (.func 62) #[] #[], .func (.func 63) #[] #[], .func (.func 64) #[] #[]] 99)).heap.size = w1.heap.size + 1 := World.size_alloc _ _
  have a0 := (CA2 0 _ rfl).1
  have a1 := (CA2 1 _ rfl).1
  have a2 := (CA2 2 _ rfl).1
  have a3 := (CA2 3 _ rfl).1
  have a4 := (CA2 4 _ rfl).1
  have a5 := (CA2 5 _ rfl).1
  have g2 := (CG2 2 _ rfl).1
  clear k0 b1 A2 A2' C0 CA CB CR CO HA HW0
  have M2 : MyRs (w.heap.size + 1 + 1 + 1 + 1 + 1) (w1.alloc (.cells #[.func (.func 61) #[] #[], .func (.func 62) #[] #[], .func (.func 63) #[] #[], .func (.func 64) #[] #[]] 99)).heap.size (w1.alloc (.cells #[.func (.func 61) #[] #[], .func (.func 62) #[] #[], .func (.func 63) #[] #[], .func (.func 64) #[] #[]] 99)) (.slice none 0 0) [] := ⟨.inl ⟨rfl, rfl, rfl⟩, fun p hp => (by cases hp), List.Pairwise.nil⟩
  have HC1 := Lib.hid (HAD.out Rs.zero a (.slice none 0 0) aa an ac [] psa (w1.alloc (.cells #[.func (.func 61) #[] #[], .func (.func 62) #[] #[], .func (.func 63) #[] #[], .func (.func 64) #[] #[]] 99)) CO2 M2 rfl hpa (by simp; omega) hla (fun W hW => ha.below (B2.trans (hW.lt (lo := w.heap.size) (by omega) (by omega) (fun b hb => by cases hb)))))
  go_wp2_with fail
  refine HC1.out.mono ?_
  rintro e w3 ⟨rfl, u1, qs1, K1, M1, E1, L1, N1, R1⟩
  have B3 := B2.trans (N1.lt (lo := w.heap.size) (by omega) (by omega) (fun b hb => by cases hb))
  have hz3 := N1.size
  have CB3 := CB2.on N1 (by omega) (by simp [Value.ownBlock])
  have CR3 := CR2.on N1 (by omega) (by simp [Value.ownBlock])
  have CG3 := CG2.on N1 (by omega) (by simp [Value.ownBlock])
  have hu1 : ∀ x, u1.ownBlock = some x → w1.heap.size < x := fun x hx => by
    rcases R1 x hx with h | h
    · cases h
    · omega
  have HC2 := Lib.hid (HAD.out (addL 1 Rs.zero a) b u1 ba bn bc qs1 psb w3 K1 M1 E1 hpb (by simp at L1; omega) hlb (fun W hW => hb.below (B3.trans (hW.lt (lo := w.heap.size) (by omega) (by omega) (fun b hb => by have := hu1 b hb; omega)))))
  clear a0 a1 a2 a3 a4 a5 g2 CA2 CB2 CR2 CO2 CG2 M2 HC1 HAD K1 M1 N1 R1 B2
  have b0 := (CB3 0 _ rfl).1
  have b1 := (CB3 1 _ rfl).1
  have b2 := (CB3 2 _ rfl).1
  have b3 := (CB3 3 _ rfl).1
  have b4 := (CB3 4 _ rfl).1
  have b5 := (CB3 5 _ rfl).1
  have g3 := (CG3 2 _ rfl).1
  go_wp2_with fail
  refine HC2.out.mono ?_
  rintro e w4 ⟨rfl, u2, qs2, K2, M2, E2, L2, N2, R2⟩
  have B4 := B3.trans (N2.lt (lo := w.heap.size) (by omega) (by omega) (fun b hb => by have := hu1 b hb; omega))
  have CR4 := CR3.on N2 (by omega) (fun e => by have := hu1 _ e.symm; omega)
  obtain ⟨va, vcp, hu2⟩ := M2.1.atN.sl
  generalize hr2 : addL 1 (addL 1 Rs.zero a) b = r2 at K2 E2 ⊢
  generalize qs2.length = vl at hu2
  subst hu2
  have HM2 := Lib.hid M2
  have HE2 := Lib.hid E2
  have HL : Hid (qs2.length ≤ psa.length + psb.length) := by
    show _ ≤ _
    simp at L1
    omega
  have hz4 := N2.size
  obtain ⟨rr, n, h, ⟨vt, vn, vs⟩⟩ := r2
  have HR2 := Lib.hid hr2
  simp only [Rs.cs] at K2 ⊢
  have k0 := (K2 0 _ rfl).1
  have k1 := (K2 1 _ rfl).1
  have k2 := (K2 2 _ rfl).1
  have k3 := (K2 3 _ rfl).1
  have k4 := (K2 4 _ rfl).1
  have k5 := (K2 5 _ rfl).1
  obtain ⟨r0, f0⟩ := CR4 0 _ rfl
  obtain ⟨r1, f1⟩ := CR4 1 _ rfl
  obtain ⟨r2, f2⟩ := CR4 2 _ rfl
  obtain ⟨r3, f3⟩ := CR4 3 _ rfl
  obtain ⟨r4, f4⟩ := CR4 4 _ rfl
  obtain ⟨r5, f5⟩ := CR4 5 _ rfl
  clear b0 b1 b2 b3 b4 b5 g3 CB3 CR3 CG3 HC2 K2 M2 E2 L1 L2 N2 R2 B3 hr2 CR4 hu1
  go_wp2
  refine bodyPost_ret (v := .agg #[.slice va vl vcp, .int .i64 n, .bool h, .int .i64 vt, .int .i64 vn, .string vs]) (by simp [results, Tryd.results20, go_sem, *]) rfl ⟨.slice va vl vcp, ?_, qs2, ?_, ?_, HL.out, ((((((B4.setCell (by simp; omega) _).setCell (by simp; omega) _).setCell (by simp; omega) _).setCell (by simp; omega) _).setCell (by simp; omega) _).setCell (by simp; omega) _)⟩
  · rw [HR2.out]
    rfl
  · exact MyRs.wide (MyRs.setBelow (MyRs.setBelow (MyRs.setBelow (MyRs.setBelow (MyRs.setBelow (MyRs.setBelow HM2.out (by simp) _) (by simp) _) (by simp) _) (by simp) _) (by simp) _) (by simp) _) (by omega) (by simp [World.setCell])
  · rw [HR2.out]
    exact HE2.out

set_option maxRecDepth 100000 in
set_option maxHeartbeats 4000000 in
theorem iJoined2 (t : T) (qc : Int) (ua : Option Addr) (un uc : Nat) (oa : Option Addr) (on oc : Nat) (a b : Rs) (aa : Option Addr) (an ac : Nat) (ba : Option Addr) (bn bc : Nat) (psa psb : List P) (w : World) (ha : RdRsN w (.slice aa an ac) psa) (hpa : psa.map (·.1) = a.rows) (hb : RdRsN w (.slice ba bn bc) psb) (hpb : psb.map (·.1) = b.rows) (hn : psa.length + psb.length ≤ 4194304) (hla : ∀ p ∈ psa, p.1.l.length ≤ 1048576) (hlb : ∀ p ∈ psb, p.1.l.length ≤ 1048576) :
    Calls Tryd.prog 20 #[.agg #[.int .i64 2, .int .i64 t.kind, .int .i64 t.col, .int .i64 t.op, .int .i64 t.v.ty, .int .i64 t.v.n, .string t.v.s, .slice ua un uc, .int .i64 qc, .slice oa on oc], .agg #[.slice aa an ac, .int .i64 a.n, .bool a.has, .int .i64 a.v.ty, .int .i64 a.v.n, .string a.v.s], .agg #[.slice ba bn bc, .int .i64 b.n, .bool b.has, .int .i64 b.v.ty, .int .i64 b.v.n, .string b.v.s]] w fun e w' => ∃ u' qs', e = .returned (.agg ((addL 2 (addL 2 Rs.zero a) b).cs u').toArray) ∧ MyRs w.heap.size w'.heap.size w' u' qs' ∧ qs'.map (·.1) = (addL 2 (addL 2 Rs.zero a) b).rows ∧ qs'.length ≤ psa.length + psb.length ∧ Below w.heap.size w w' := by
  have HA := Lib.hid (fun W => aggOf2 W)
  have HAD := Lib.hid (fun (r b : Rs) (u : Value) (ba : Option Addr) (bn bc : Nat) (qs ps : List P) (W : World) => addC2 (w.heap.size + 1 + 1 + 1 + 1) r b u ba bn bc qs ps W)
  have B0 : Below w.heap.size w (((((w.alloc (.cells #[.int .i64 2, .int .i64 t.kind, .int .i64 t.col, .int .i64 t.op, .int .i64 t.v.ty, .int .i64 t.v.n, .string t.v.s, .slice ua un uc, .int .i64 qc, .slice oa on oc] 46)).alloc (.cells #[.slice aa an ac, .int .i64 a.n, .bool a.has, .int .i64 a.v.ty, .int .i64 a.v.n, .string a.v.s] 50)).alloc (.cells #[.slice ba bn bc, .int .i64 b.n, .bool b.has, .int .i64 b.v.ty, .int .i64 b.v.n, .string b.v.s] 50)).alloc (.cells #[.slice none 0 0, .int .i64 0, .bool false, .int .i64 0, .int .i64 0, .string ⟨#[]⟩] 50)).alloc (.cells #[.slice none 0 0, .int .i64 0, .bool false, .int .i64 0, .int .i64 0, .string ⟨#[]⟩] 50)) := below_then (below_then (below_then (below_alloc2 w (.cells #[.int .i64 2, .int .i64 t.kind, .int .i64 t.col, .int .i64 t.op, .int .i64 t.v.ty, .int .i64 t.v.n, .string t.v.s, .slice ua un uc, .int .i64 qc, .slice oa on oc] 46) (.cells #[.slice aa an ac, .int .i64 a.n, .bool a.has, .int .i64 a.v.ty, .int .i64 a.v.n, .string a.v.s] 50)) (below_alloc _ (.cells #[.slice ba bn bc, .int .i64 b.n, .bool b.has, .int .i64 b.v.ty, .int .i64 b.v.n, .string b.v.s] 50)) (Below.size (below_alloc2 w (.cells #[.int .i64 2, .int .i64 t.kind, .int .i64 t.col, .int .i64 t.op, .int .i64 t.v.ty, .int .i64 t.v.n, .string t.v.s, .slice ua un uc, .int .i64 qc, .slice oa on oc] 46) (.cells #[.slice aa an ac, .int .i64 a.n, .bool a.has, .int .i64 a.v.ty, .int .i64 a.v.n, .string a.v.s] 50)))) (below_alloc _ (.cells #[.slice none 0 0, .int .i64 0, .bool false, .int .i64 0, .int .i64 0, .string ⟨#[]⟩] 50)) (by simp only [World.size_alloc]; omega)) (below_alloc _ (.cells #[.slice none 0 0, .int .i64 0, .bool false, .int .i64 0, .int .i64 0, .string ⟨#[]⟩] 50)) (by simp only [World.size_alloc]; omega)
  have C0 := ((((blk_new w [.int .i64 2, .int .i64 t.kind, .int .i64 t.col, .int .i64 t.op, .int .i64 t.v.ty, .int .i64 t.v.n, .string t.v.s, .slice ua un uc, .int .i64 qc, .slice oa on oc] 46).below (below_alloc _ (.cells #[.slice aa an ac, .int .i64 a.n, .bool a.has, .int .i64 a.v.ty, .int .i64 a.v.n, .string a.v.s] 50))).below (below_alloc _ (.cells #[.slice ba bn bc, .int .i64 b.n, .bool b.has, .int .i64 b.v.ty, .int .i64 b.v.n, .string b.v.s] 50))).below (below_alloc _ (.cells #[.slice none 0 0, .int .i64 0, .bool false, .int .i64 0, .int .i64 0, .string ⟨#[]⟩] 50))).below (below_alloc _ (.cells #[.slice none 0 0, .int .i64 0, .bool false, .int .i64 0, .int .i64 0, .string ⟨#[]⟩] 50))
  have CA := (((blk_new (w.alloc (.cells #[.int .i64 2, .int .i64 t.kind, .int .i64 t.col, .int .i64 t.op, .int .i64 t.v.ty, .int .i64 t.v.n, .string t.v.s, .slice ua un uc, .int .i64 qc, .slice oa on oc] 46)) [.slice aa an ac, .int .i64 a.n, .bool a.has, .int .i64 a.v.ty, .int .i64 a.v.n, .string a.v.s] 50).below (below_alloc _ (.cells #[.slice ba bn bc, .int .i64 b.n, .bool b.has, .int .i64 b.v.ty, .int .i64 b.v.n, .string b.v.s] 50))).below (below_alloc _ (.cells #[.slice none 0 0, .int .i64 0, .bool false, .int .i64 0, .int .i64 0, .string ⟨#[]⟩] 50))).below (below_alloc _ (.cells #[.slice none 0 0, .int .i64 0, .bool false, .int .i64 0, .int .i64 0, .string ⟨#[]⟩] 50))
  have CB := ((blk_new ((w.alloc (.cells #[.int .i64 2, .int .i64 t.kind, .int .i64 t.col, .int .i64 t.op, .int .i64 t.v.ty, .int .i64 t.v.n, .string t.v.s, .slice ua un uc, .int .i64 qc, .slice oa on oc] 46)).alloc (.cells #[.slice aa an ac, .int .i64 a.n, .bool a.has, .int .i64 a.v.ty, .int .i64 a.v.n, .string a.v.s] 50)) [.slice ba bn bc, .int .i64 b.n, .bool b.has, .int .i64 b.v.ty, .int .i64 b.v.n, .string b.v.s] 50).below (below_alloc _ (.cells #[.slice none 0 0, .int .i64 0, .bool false, .int .i64 0, .int .i64 0, .string ⟨#[]⟩] 50))).below (below_alloc _ (.cells #[.slice none 0 0, .int .i64 0, .bool false, .int .i64 0, .int .i64 0, .string ⟨#[]⟩] 50))
  have CR := (blk_new (((w.alloc (.cells #[.int .i64 2, .int .i64 t.kind, .int .i64 t.col, .int .i64 t.op, .int .i64 t.v.ty, .int .i64 t.v.n, .string t.v.s, .slice ua un uc, .int .i64 qc, .slice oa on oc] 46)).alloc (.cells #[.slice aa an ac, .int .i64 a.n, .bool a.has, .int .i64 a.v.ty, .int .i64 a.v.n, .string a.v.s] 50)).alloc (.cells #[.slice ba bn bc, .int .i64 b.n, .bool b.has, .int .i64 b.v.ty, .int .i64 b.v.n, .string b.v.s] 50)) [.slice none 0 0, .int .i64 0, .bool false, .int .i64 0, .int .i64 0, .string ⟨#[]⟩] 50).below (below_alloc _ (.cells #[.slice none 0 0, .int .i64 0, .bool false, .int .i64 0, .int .i64 0, .string ⟨#[]⟩] 50))
  have CO := blk_new ((((w.alloc (.cells #[.int .i64 2, .int .i64 t.kind, .int .i64 t.col, .int .i64 t.op, .int .i64 t.v.ty, .int .i64 t.v.n, .string t.v.s, .slice ua un uc, .int .i64 qc, .slice oa on oc] 46)).alloc (.cells #[.slice aa an ac, .int .i64 a.n, .bool a.has, .int .i64 a.v.ty, .int .i64 a.v.n, .string a.v.s] 50)).alloc (.cells #[.slice ba bn bc, .int .i64 b.n, .bool b.has, .int .i64 b.v.ty, .int .i64 b.v.n, .string b.v.s] 50)).alloc (.cells #[.slice none 0 0, .int .i64 0, .bool false, .int .i64 0, .int .i64 0, .string ⟨#[]⟩] 50)) [.slice none 0 0, .int .i64 0, .bool false, .int .i64 0, .int .i64 0, .string ⟨#[]⟩] 50
  have hz0 : (((((w.alloc (.cells #[.int .i64 2, .int .i64 t.kind, .int .i64 t.col, .int .i64 t.op, .int .i64 t.v.ty, .int .i64 t.v.n, .string t.v.s, .slice ua un uc, .int .i64 qc, .slice oa on oc] 46)).alloc (.cells #[.slice aa an ac, .int .i64 a.n, .bool a.has, .int .i64 a.v.ty, .int .i64 a.v.n, .string a.v.s] 50)).alloc (.cells #[.slice ba bn bc, .int .i64 b.n, .bool b.has, .int .i64 b.v.ty, .int .i64 b.v.n, .string b.v.s] 50)).alloc (.cells #[.slice none 0 0, .int .i64 0, .bool false, .int .i64 0, .int .i64 0, .string ⟨#[]⟩] 50)).alloc (.cells #[.slice none 0 0, .int .i64 0, .bool false, .int .i64 0, .int .i64 0, .string ⟨#[]⟩] 50)).heap.size = w.heap.size + 5 := by simp only [World.size_alloc]
  simp only [World.size_alloc] at CA CB CR CO
  generalize hw0 : (((((w.alloc (.cells #[.int .i64 2, .int .i64 t.kind, .int .i64 t.col, .int .i64 t.op, .int .i64 t.v.ty, .int .i64 t.v.n, .string t.v.s, .slice ua un uc, .int .i64 qc, .slice oa on oc] 46)).alloc (.cells #[.slice aa an ac, .int .i64 a.n, .bool a.has, .int .i64 a.v.ty, .int .i64 a.v.n, .string a.v.s] 50)).alloc (.cells #[.slice ba bn bc, .int .i64 b.n, .bool b.has, .int .i64 b.v.ty, .int .i64 b.v.n, .string b.v.s] 50)).alloc (.cells #[.slice none 0 0, .int .i64 0, .bool false, .int .i64 0, .int .i64 0, .string ⟨#[]⟩] 50)).alloc (.cells #[.slice none 0 0, .int .i64 0, .bool false, .int .i64 0, .int .i64 0, .string ⟨#[]⟩] 50)) = w0 at B0 C0 CA CB CR CO hz0
  have HW0 := Lib.hid hw0
  have k0 := (C0 0 _ rfl).1
  have hst : ∀ fn f c a W, Sem.run Tryd.prog (store a (.func fn f c)) W = stored Tryd.prog W a (.func fn f c) .plain := fun _ _ _ _ _ => run_store _ _ _ _ _ rfl
  clear hw0
  go_enter Tryd.func20, Tryd.ntmps20
  go_wp2_with fail
  rw [HW0.out]
  refine (HA.out _).mono ?_
  rintro e w1 ⟨rfl, b1⟩
  have hz1 := b1.size
  have A2 := below_alloc w1 (.cells #[.func (.func 65) #[] #[], .func (.func 66) #[] #[], .func (.func 67) #[] #[], .func (.func 68) #[] #[]] 99)
  have B2 := below_then (below_then B0 b1 B0.size) A2 (below_then B0 b1 B0.size).size
  have A2' := below_then b1 A2 b1.size
  have CA2 := CA.below A2'
  have CB2 := CB.below A2'
  have CR2 := CR.below A2'
  have CO2 := CO.below A2'
  have CG2 := blk_new w1 [.func (.func 65) #[] #[], .func (.func 66) #[] #[], .func (.func 67) #[] #[], .func (.func 68) #[] #[]] 99
  have hz2 : (w1.alloc (.cells #[.func (.func 65) #[] #[], .func (.func 66) #[] #[], .func (.func 67) #[] #[], .func (.func 68) #[] #[]] 99)).heap.size = w1.heap.size + 1 := World.size_alloc _ _
  have a0 := (CA2 0 _ rfl).1
  have a1 := (CA2 1 _ rfl).1
  have a2 := (CA2 2 _ rfl).1
  have a3 := (CA2 3 _ rfl).1
  have a4 := (CA2 4 _ rfl).1
  have a5 := (CA2 5 _ rfl).1
  have g2 := (CG2 2 _ rfl).1
  clear k0 b1 A2 A2' C0 CA CB CR CO HA HW0
  have M2 : MyRs (w.heap.size + 1 + 1 + 1 + 1 + 1) (w1.alloc (.cells #[.func (.func 65) #[] #[], .func (.func 66) #[] #[], .func (.func 67) #[] #[], .func (.func 68) #[] #[]] 99)).heap.size (w1.alloc (.cells #[.func (.func 65) #[] #[], .func (.func 66) #[] #[], .func (.func 67) #[] #[], .func (.func 68) #[] #[]] 99)) (.slice none 0 0) [] := ⟨.inl ⟨rfl, rfl, rfl⟩, fun p hp => (by cases hp), List.Pairwise.nil⟩
  have HC1 := Lib.hid (HAD.out Rs.zero a (.slice none 0 0) aa an ac [] psa (w1.alloc (.cells #[.func (.func 65) #[] #[], .func (.func 66) #[] #[], .func (.func 67) #[] #[], .func (.func 68) #[] #[]] 99)) CO2 M2 rfl hpa (by simp; omega) hla (fun W hW => ha.below (B2.trans (hW.lt (lo := w.heap.size) (by omega) (by omega) (fun b hb => by cases hb)))))
  go_wp2_with fail
  refine HC1.out.mono ?_
  rintro e w3 ⟨rfl, u1, qs1, K1, M1, E1, L1, N1, R1⟩
  have B3 := B2.trans (N1.lt (lo := w.heap.size) (by omega) (by omega) (fun b hb => by cases hb))
  have hz3 := N1.size
  have CB3 := CB2.on N1 (by omega) (by simp [Value.ownBlock])
  have CR3 := CR2.on N1 (by omega) (by simp [Value.ownBlock])
  have CG3 := CG2.on N1 (by omega) (by simp [Value.ownBlock])
  have hu1 : ∀ x, u1.ownBlock = some x → w1.heap.size < x := fun x hx => by
    rcases R1 x hx with h | h
    · cases h
    · omega
  have HC2 := Lib.hid (HAD.out (addL 2 Rs.zero a) b u1 ba bn bc qs1 psb w3 K1 M1 E1 hpb (by simp at L1; omega) hlb (fun W hW => hb.below (B3.trans (hW.lt (lo := w.heap.size) (by omega) (by omega) (fun b hb => by have := hu1 b hb; omega)))))
  clear a0 a1 a2 a3 a4 a5 g2 CA2 CB2 CR2 CO2 CG2 M2 HC1 HAD K1 M1 N1 R1 B2
  have b0 := (CB3 0 _ rfl).1
  have b1 := (CB3 1 _ rfl).1
  have b2 := (CB3 2 _ rfl).1
  have b3 := (CB3 3 _ rfl).1
  have b4 := (CB3 4 _ rfl).1
  have b5 := (CB3 5 _ rfl).1
  have g3 := (CG3 2 _ rfl).1
  go_wp2_with fail
  refine HC2.out.mono ?_
  rintro e w4 ⟨rfl, u2, qs2, K2, M2, E2, L2, N2, R2⟩
  have B4 := B3.trans (N2.lt (lo := w.heap.size) (by omega) (by omega) (fun b hb => by have := hu1 b hb; omega))
  have CR4 := CR3.on N2 (by omega) (fun e => by have := hu1 _ e.symm; omega)
  obtain ⟨va, vcp, hu2⟩ := M2.1.atN.sl
  generalize hr2 : addL 2 (addL 2 Rs.zero a) b = r2 at K2 E2 ⊢
  generalize qs2.length = vl at hu2
  subst hu2
  have HM2 := Lib.hid M2
  have HE2 := Lib.hid E2
  have HL : Hid (qs2.length ≤ psa.length + psb.length) := by
    show _ ≤ _
    simp at L1
    omega
  have hz4 := N2.size
  obtain ⟨rr, n, h, ⟨vt, vn, vs⟩⟩ := r2
  have HR2 := Lib.hid hr2
  simp only [Rs.cs] at K2 ⊢
  have k0 := (K2 0 _ rfl).1
  have k1 := (K2 1 _ rfl).1
  have k2 := (K2 2 _ rfl).1
  have k3 := (K2 3 _ rfl).1
  have k4 := (K2 4 _ rfl).1
  have k5 := (K2 5 _ rfl).1
  obtain ⟨r0, f0⟩ := CR4 0 _ rfl
  obtain ⟨r1, f1⟩ := CR4 1 _ rfl
  obtain ⟨r2, f2⟩ := CR4 2 _ rfl
  obtain ⟨r3, f3⟩ := CR4 3 _ rfl
  obtain ⟨r4, f4⟩ := CR4 4 _ rfl
  obtain ⟨r5, f5⟩ := CR4 5 _ rfl
  clear b0 b1 b2 b3 b4 b5 g3 CB3 CR3 CG3 HC2 K2 M2 E2 L1 L2 N2 R2 B3 hr2 CR4 hu1
  go_wp2
  refine bodyPost_ret (v := .agg #[.slice va vl vcp, .int .i64 n, .bool h, .int .i64 vt, .int .i64 vn, .string vs]) (by simp [results, Tryd.results20, go_sem, *]) rfl ⟨.slice va vl vcp, ?_, qs2, ?_, ?_, HL.out, ((((((B4.setCell (by simp; omega) _).setCell (by simp; omega) _).setCell (by simp; omega) _).setCell (by simp; omega) _).setCell (by simp; omega) _).setCell (by simp; omega) _)⟩
  · rw [HR2.out]
    rfl
  · exact MyRs.wide (MyRs.setBelow (MyRs.setBelow (MyRs.setBelow (MyRs.setBelow (MyRs.setBelow (MyRs.setBelow HM2.out (by simp) _) (by simp) _) (by simp) _) (by simp) _) (by simp) _) (by simp) _) (by omega) (by simp [World.setCell])
  · rw [HR2.out]
    exact HE2.out

set_option maxRecDepth 100000 in
set_option maxHeartbeats 4000000 in
theorem iJoined3 (t : T) (qc : Int) (ua : Option Addr) (un uc : Nat) (oa : Option Addr) (on oc : Nat) (a b : Rs) (aa : Option Addr) (an ac : Nat) (ba : Option Addr) (bn bc : Nat) (psa psb : List P) (w : World) (ha : RdRsN w (.slice aa an ac) psa) (hpa : psa.map (·.1) = a.rows) (hb : RdRsN w (.slice ba bn bc) psb) (hpb : psb.map (·.1) = b.rows) (hn : psa.length + psb.length ≤ 4194304) (hla : ∀ p ∈ psa, p.1.l.length ≤ 1048576) (hlb : ∀ p ∈ psb, p.1.l.length ≤ 1048576) :
    Calls Tryd.prog 20 #[.agg #[.int .i64 3, .int .i64 t.kind, .int .i64 t.col, .int .i64 t.op, .int .i64 t.v.ty, .int .i64 t.v.n, .string t.v.s, .slice ua un uc, .int .i64 qc, .slice oa on oc], .agg #[.slice aa an ac, .int .i64 a.n, .bool a.has, .int .i64 a.v.ty, .int .i64 a.v.n, .string a.v.s], .agg #[.slice ba bn bc, .int .i64 b.n, .bool b.has, .int .i64 b.v.ty, .int .i64 b.v.n, .string b.v.s]] w fun e w' => ∃ u' qs', e = .returned (.agg ((addL 3 (addL 3 Rs.zero a) b).cs u').toArray) ∧ MyRs w.heap.size w'.heap.size w' u' qs' ∧ qs'.map (·.1) = (addL 3 (addL 3 Rs.zero a) b).rows ∧ qs'.length ≤ psa.length + psb.length ∧ Below w.heap.size w w' := by
  have HA := Lib.hid (fun W => aggOf3 W)
  have HAD := Lib.hid (fun (r b : Rs) (u : Value) (ba : Option Addr) (bn bc : Nat) (qs ps : List P) (W : World) => addC3 (w.heap.size + 1 + 1 + 1 + 1) r b u ba bn bc qs ps W)
  have B0 : Below w.heap.size w (((((w.alloc (.cells #[.int .i64 3, .int .i64 t.kind, .int .i64 t.col, .int .i64 t.op, .int .i64 t.v.ty, .int .i64 t.v.n, .string t.v.s, .slice ua un uc, .int .i64 qc, .slice oa on oc] 46)).alloc (.cells #[.slice aa an ac, .int .i64 a.n, .bool a.has, .int .i64 a.v.ty, .int .i64 a.v.n, .string a.v.s] 50)).alloc (.cells #[.slice ba bn bc, .int .i64 b.n, .bool b.has, .int .i64 b.v.ty, .int .i64 b.v.n, .string b.v.s] 50)).alloc (.cells #[.slice none 0 0, .int .i64 0, .bool false, .int .i64 0, .int .i64 0, .string ⟨#[]⟩] 50)).alloc (.cells #[.slice none 0 0, .int .i64 0, .bool false, .int .i64 0, .int .i64 0, .string ⟨#[]⟩] 50)) := below_then (below_then (below_then (below_alloc2 w (.cells #[.int .i64 3, .int .i64 t.kind, .int .i64 t.col, .int .i64 t.op, .int .i64 t.v.ty, .int .i64 t.v.n, .string t.v.s, .slice ua un uc, .int .i64 qc, .slice oa on oc] 46) (.cells #[.slice aa an ac, .int .i64 a.n, .bool a.has, .int .i64 a.v.ty, .int .i64 a.v.n, .string a.v.s] 50)) (below_alloc _ (.cells #[.slice ba bn bc, .int .i64 b.n, .bool b.has, .int .i64 b.v.ty, .int .i64 b.v.n, .string b.v.s] 50)) (Below.size (below_alloc2 w (.cells #[.int .i64 3, .int .i64 t.kind, .int .i64 t.col, .int .i64 t.op, .int .i64 t.v.ty, .int .i64 t.v.n, .string t.v.s, .slice ua un uc, .int .i64 qc, .slice oa on oc] 46) (.cells #[.slice aa an ac, .int .i64 a.n, .bool a.has, .int .i64 a.v.ty, .int .i64 a.v.n, .string a.v.s] 50)))) (below_alloc _ (.cells #[.slice none 0 0, .int .i64 0, .bool false, .int .i64 0, .int .i64 0, .string ⟨#[]⟩] 50)) (by simp only [World.size_alloc]; omega)) (below_alloc _ (.cells #[.slice none 0 0, .int .i64 0, .bool false, .int .i64 0, .int .i64 0, .string ⟨#[]⟩] 50)) (by simp only [World.size_alloc]; omega)
  have C0 := ((((blk_new w [.int .i64 3, .int .i64 t.kind, .int .i64 t.col, .int .i64 t.op, .int .i64 t.v.ty, .int .i64 t.v.n, .string t.v.s, .slice ua un uc, .int .i64 qc, .slice oa on oc] 46).below (below_alloc _ (.cells #[.slice aa an ac, .int .i64 a.n, .bool a.has, .int .i64 a.v.ty, .int .i64 a.v.n, .string a.v.s] 50))).below (below_alloc _ (.cells #[.slice ba bn bc, .int .i64 b.n, .bool b.has, .int .i64 b.v.ty, .int .i64 b.v.n, .string b.v.s] 50))).below (below_alloc _ (.cells #[.slice none 0 0, .int .i64 0, .bool false, .int .i64 0, .int .i64 0, .string ⟨#[]⟩] 50))).below (below_alloc _ (.cells #[.slice none 0 0, .int .i64 0, .bool false, .int .i64 0, .int .i64 0, .string ⟨#[]⟩] 50))
  have CA := (((blk_new (w.alloc (.cells #[.int .i64 3, .int .i64 t.kind, .int .i64 t.col, .int .i64 t.op, .int .i64 t.v.ty, .int .i64 t.v.n, .string t.v.s, .slice ua un uc, .int .i64 qc, .slice oa on oc] 46)) [.slice aa an ac, .int .i64 a.n, .bool a.has, .int .i64 a.v.ty, .int .i64 a.v.n, .string a.v.s] 50).below (below_alloc _ (.cells #[.slice ba bn bc, .int .i64 b.n, .bool b.has, .int .i64 b.v.ty, .int .i64 b.v.n, .string b.v.s] 50))).below (below_alloc _ (.cells #[.slice none 0 0, .int .i64 0, .bool false, .int .i64 0, .int .i64 0, .string ⟨#[]⟩] 50))).below (below_alloc _ (.cells #[.slice none 0 0, .int .i64 0, .bool false, .int .i64 0, .int .i64 0, .string ⟨#[]⟩] 50))
  have CB := ((blk_new ((w.alloc (.cells #[.int .i64 3, .int .i64 t.kind, .int .i64 t.col, .int .i64 t.op, .int .i64 t.v.ty, .int .i64 t.v.n, .string t.v.s, .slice ua un uc, .int .i64 qc, .slice oa on oc] 46)).alloc (.cells #[.slice aa an ac, .int .i64 a.n, .bool a.has, .int .i64 a.v.ty, .int .i64 a.v.n, .string a.v.s] 50)) [.slice ba bn bc, .int .i64 b.n, .bool b.has, .int .i64 b.v.ty, .int .i64 b.v.n, .string b.v.s] 50).below (below_alloc _ (.cells #[.slice none 0 0, .int .i64 0, .bool false, .int .i64 0, .int .i64 0, .string ⟨#[]⟩] 50))).below (below_alloc _ (.cells #[.slice none 0 0, .int .i64 0, .bool false, .int .i64 0, .int .i64 0, .string ⟨#[]⟩] 50))
  have CR := (blk_new (((w.alloc (.cells #[.int .i64 3, .int .i64 t.kind, .int .i64 t.col, .int .i64 t.op, .int .i64 t.v.ty, .int .i64 t.v.n, .string t.v.s, .slice ua un uc, .int .i64 qc, .slice oa on oc] 46)).alloc (.cells #[.slice aa an ac, .int .i64 a.n, .bool a.has, .int .i64 a.v.ty, .int .i64 a.v.n, .string a.v.s] 50)).alloc (.cells #[.slice ba bn bc, .int .i64 b.n, .bool b.has, .int .i64 b.v.ty, .int .i64 b.v.n, .string b.v.s] 50)) [.slice none 0 0, .int .i64 0, .bool false, .int .i64 0, .int .i64 0, .string ⟨#[]⟩] 50).below (below_alloc _ (.cells #[.slice none 0 0, .int .i64 0, .bool false, .int .i64 0, .int .i64 0, .string ⟨#[]⟩] 50))
  have CO := blk_new ((((w.alloc (.cells #[.int .i64 3, .int .i64 t.kind, .int .i64 t.col, .int .i64 t.op, .int .i64 t.v.ty, .int .i64 t.v.n, .string t.v.s, .slice ua un uc, .int .i64 qc, .slice oa on oc] 46)).alloc (.cells #[.slice aa an ac, .int .i64 a.n, .bool a.has, .int .i64 a.v.ty, .int .i64 a.v.n, .string a.v.s] 50)).alloc (.cells #[.slice ba bn bc, .int .i64 b.n, .bool b.has, .int .i64 b.v.ty, .int .i64 b.v.n, .string b.v.s] 50)).alloc (.cells #[.slice none 0 0, .int .i64 0, .bool false, .int .i64 0, .int .i64 0, .string ⟨#[]⟩] 50)) [.slice none 0 0, .int .i64 0, .bool false, .int .i64 0, .int .i64 0, .string ⟨#[]⟩] 50
  have hz0 : (((((w.alloc (.cells #[.int .i64 3, .int .i64 t.kind, .int .i64 t.col, .int .i64 t.op, .int .i64 t.v.ty, .int .i64 t.v.n, .string t.v.s, .slice ua un uc, .int .i64 qc, .slice oa on oc] 46)).alloc (.cells #[.slice aa an ac, .int .i64 a.n, .bool a.has, .int .i64 a.v.ty, .int .i64 a.v.n, .string a.v.s] 50)).alloc (.cells #[.slice ba bn bc, .int .i64 b.n, .bool b.has, .int .i64 b.v.ty, .int .i64 b.v.n, .string b.v.s] 50)).alloc (.cells #[.slice none 0 0, .int .i64 0, .bool false, .int .i64 0, .int .i64 0, .string ⟨#[]⟩] 50)).alloc (.cells #[.slice none 0 0, .int .i64 0, .bool false, .int .i64 0, .int .i64 0, .string ⟨#[]⟩] 50)).heap.size = w.heap.size + 5 := by simp only [World.size_alloc]
  simp only [World.size_alloc] at CA CB CR CO
  generalize hw0 : (((((w.alloc (.cells #[.int .i64 3, .int .i64 t.kind, .int .i64 t.col, .int .i64 t.op, .int .i64 t.v.ty, .int .i64 t.v.n, .string t.v.s, .slice ua un uc, .int .i64 qc, .slice oa on oc] 46)).alloc (.cells #[.slice aa an ac, .int .i64 a.n, .bool a.has, .int .i64 a.v.ty, .int .i64 a.v.n, .string a.v.s] 50)).alloc (.cells #[.slice ba bn bc, .int .i64 b.n, .bool b.has, .int .i64 b.v.ty, .int .i64 b.v.n, .string b.v.s] 50)).alloc (.cells #[.slice none 0 0, .int .i64 0, .bool false, .int .i64 0, .int .i64 0, .string ⟨#[]⟩] 50)).alloc (.cells #[.slice none 0 0, .int .i64 0, .bool false, .int .i64 0, .int .i64 0, .string ⟨#[]⟩] 50)) = w0 at B0 C0 CA CB CR CO hz0
  have HW0 := Lib.hid hw0
  have k0 := (C0 0 _ rfl).1
  have hst : ∀ fn f c a W, Sem.run Tryd.prog (store a (.func fn f c)) W = stored Tryd.prog W a (.func fn f c) .plain := fun _ _ _ _ _ => run_store _ _ _ _ _ rfl
  clear hw0
  go_enter Tryd.func20, Tryd.ntmps20
  go_wp2_with fail
  rw [HW0.out]
  refine (HA.out _).mono ?_
  rintro e w1 ⟨rfl, b1⟩
  have hz1 := b1.size
  have A2 := below_alloc w1 (.cells #[.func (.func 69) #[] #[], .func (.func 70) #[] #[], .func (.func 67) #[] #[], .func (.func 68) #[] #[]] 99)
  have B2 := below_then (below_then B0 b1 B0.size) A2 (below_then B0 b1 B0.size).size
  have A2' := below_then b1 A2 b1.size
  have CA2 := CA.below A2'
  have CB2 := CB.below A2'
  have CR2 := CR.below A2'
  have CO2 := CO.below A2'
  have CG2 := blk_new w1 [.func (.func 69) #[] #[], .func (.func 70) #[] #[], .func (.func 67) #[] #[], .func (.func 68) #[] #[]] 99
  have hz2 : (w1.alloc (.cells #[.func (.func 69) #[] #[], .func (.func 70) #[] #[], .func (.func 67) #[] #[], .func (.func 68) #[] #[]] 99)).heap.size = w1.heap.size + 1 := World.size_alloc _ _
  have a0 := (CA2 0 _ rfl).1
  have a1 := (CA2 1 _ rfl).1
  have a2 := (CA2 2 _ rfl).1
  have a3 := (CA2 3 _ rfl).1
  have a4 := (CA2 4 _ rfl).1
  have a5 := (CA2 5 _ rfl).1
  have g2 := (CG2 2 _ rfl).1
  clear k0 b1 A2 A2' C0 CA CB CR CO HA HW0
  have M2 : MyRs (w.heap.size + 1 + 1 + 1 + 1 + 1) (w1.alloc (.cells #[.func (.func 69) #[] #[], .func (.func 70) #[] #[], .func (.func 67) #[] #[], .func (.func 68) #[] #[]] 99)).heap.size (w1.alloc (.cells #[.func (.func 69) #[] #[], .func (.func 70) #[] #[], .func (.func 67) #[] #[], .func (.func 68) #[] #[]] 99)) (.slice none 0 0) [] := ⟨.inl ⟨rfl, rfl, rfl⟩, fun p hp => (by cases hp), List.Pairwise.nil⟩
  have HC1 := Lib.hid (HAD.out Rs.zero a (.slice none 0 0) aa an ac [] psa (w1.alloc (.cells #[.func (.func 69) #[] #[], .func (.func 70) #[] #[], .func (.func 67) #[] #[], .func (.func 68) #[] #[]] 99)) CO2 M2 rfl hpa (by simp; omega) hla (fun W hW => ha.below (B2.trans (hW.lt (lo := w.heap.size) (by omega) (by omega) (fun b hb => by cases hb)))))
  go_wp2_with fail
  refine HC1.out.mono ?_
  rintro e w3 ⟨rfl, u1, qs1, K1, M1, E1, L1, N1, R1⟩
  have B3 := B2.trans (N1.lt (lo := w.heap.size) (by omega) (by omega) (fun b hb => by cases hb))
  have hz3 := N1.size
  have CB3 := CB2.on N1 (by omega) (by simp [Value.ownBlock])
  have CR3 := CR2.on N1 (by omega) (by simp [Value.ownBlock])
  have CG3 := CG2.on N1 (by omega) (by simp [Value.ownBlock])
  have hu1 : ∀ x, u1.ownBlock = some x → w1.heap.size < x := fun x hx => by
    rcases R1 x hx with h | h
    · cases h
    · omega
  have HC2 := Lib.hid (HAD.out (addL 3 Rs.zero a) b u1 ba bn bc qs1 psb w3 K1 M1 E1 hpb (by simp at L1; omega) hlb (fun W hW => hb.below (B3.trans (hW.lt (lo := w.heap.size) (by omega) (by omega) (fun b hb => by have := hu1 b hb; omega)))))
  clear a0 a1 a2 a3 a4 a5 g2 CA2 CB2 CR2 CO2 CG2 M2 HC1 HAD K1 M1 N1 R1 B2
  have b0 := (CB3 0 _ rfl).1
  have b1 := (CB3 1 _ rfl).1
  have b2 := (CB3 2 _ rfl).1
  have b3 := (CB3 3 _ rfl).1
  have b4 := (CB3 4 _ rfl).1
  have b5 := (CB3 5 _ rfl).1
  have g3 := (CG3 2 _ rfl).1
  go_wp2_with fail
  refine HC2.out.mono ?_
  rintro e w4 ⟨rfl, u2, qs2, K2, M2, E2, L2, N2, R2⟩
  have B4 := B3.trans (N2.lt (lo := w.heap.size) (by omega) (by omega) (fun b hb => by have := hu1 b hb; omega))
  have CR4 := CR3.on N2 (by omega) (fun e => by have := hu1 _ e.symm; omega)
  obtain ⟨va, vcp, hu2⟩ := M2.1.atN.sl
  generalize hr2 : addL 3 (addL 3 Rs.zero a) b = r2 at K2 E2 ⊢
  generalize qs2.length = vl at hu2
  subst hu2
  have HM2 := Lib.hid M2
  have HE2 := Lib.hid E2
  have HL : Hid (qs2.length ≤ psa.length + psb.length) := by
    show _ ≤ _
    simp at L1
    omega
  have hz4 := N2.size
  obtain ⟨rr, n, h, ⟨vt, vn, vs⟩⟩ := r2
  have HR2 := Lib.hid hr2
  simp only [Rs.cs] at K2 ⊢
  have k0 := (K2 0 _ rfl).1
  have k1 := (K2 1 _ rfl).1
  have k2 := (K2 2 _ rfl).1
  have k3 := (K2 3 _ rfl).1
  have k4 := (K2 4 _ rfl).1
  have k5 := (K2 5 _ rfl).1
  obtain ⟨r0, f0⟩ := CR4 0 _ rfl
  obtain ⟨r1, f1⟩ := CR4 1 _ rfl
  obtain ⟨r2, f2⟩ := CR4 2 _ rfl
  obtain ⟨r3, f3⟩ := CR4 3 _ rfl
  obtain ⟨r4, f4⟩ := CR4 4 _ rfl
  obtain ⟨r5, f5⟩ := CR4 5 _ rfl
  clear b0 b1 b2 b3 b4 b5 g3 CB3 CR3 CG3 HC2 K2 M2 E2 L1 L2 N2 R2 B3 hr2 CR4 hu1
  go_wp2
  refine bodyPost_ret (v := .agg #[.slice va vl vcp, .int .i64 n, .bool h, .int .i64 vt, .int .i64 vn, .string vs]) (by simp [results, Tryd.results20, go_sem, *]) rfl ⟨.slice va vl vcp, ?_, qs2, ?_, ?_, HL.out, ((((((B4.setCell (by simp; omega) _).setCell (by simp; omega) _).setCell (by simp; omega) _).setCell (by simp; omega) _).setCell (by simp; omega) _).setCell (by simp; omega) _)⟩
  · rw [HR2.out]
    rfl
  · exact MyRs.wide (MyRs.setBelow (MyRs.setBelow (MyRs.setBelow (MyRs.setBelow (MyRs.setBelow (MyRs.setBelow HM2.out (by simp) _) (by simp) _) (by simp) _) (by simp) _) (by simp) _) (by simp) _) (by omega) (by simp [World.setCell])
  · rw [HR2.out]
    exact HE2.out

set_option maxRecDepth 100000 in
set_option maxHeartbeats 4000000 in
theorem iJoined4 (t : T) (qc : Int) (ua : Option Addr) (un uc : Nat) (oa : Option Addr) (on oc : Nat) (a b : Rs) (aa : Option Addr) (an ac : Nat) (ba : Option Addr) (bn bc : Nat) (psa psb : List P) (w : World) (ha : RdRsN w (.slice aa an ac) psa) (hpa : psa.map (·.1) = a.rows) (hb : RdRsN w (.slice ba bn bc) psb) (hpb : psb.map (·.1) = b.rows) (hn : psa.length + psb.length ≤ 4194304) (hla : ∀ p ∈ psa, p.1.l.length ≤ 1048576) (hlb : ∀ p ∈ psb, p.1.l.length ≤ 1048576) :
    Calls Tryd.prog 20 #[.agg #[.int .i64 4, .int .i64 t.kind, .int .i64 t.col, .int .i64 t.op, .int .i64 t.v.ty, .int .i64 t.v.n, .string t.v.s, .slice ua un uc, .int .i64 qc, .slice oa on oc], .agg #[.slice aa an ac, .int .i64 a.n, .bool a.has, .int .i64 a.v.ty, .int .i64 a.v.n, .string a.v.s], .agg #[.slice ba bn bc, .int .i64 b.n, .bool b.has, .int .i64 b.v.ty, .int .i64 b.v.n, .string b.v.s]] w fun e w' => ∃ u' qs', e = .returned (.agg ((addL 4 (addL 4 Rs.zero a) b).cs u').toArray) ∧ MyRs w.heap.size w'.heap.size w' u' qs' ∧ qs'.map (·.1) = (addL 4 (addL 4 Rs.zero a) b).rows ∧ qs'.length ≤ psa.length + psb.length ∧ Below w.heap.size w w' := by
  have HA := Lib.hid (fun W => aggOf4 W)
  have HAD := Lib.hid (fun (r b : Rs) (u : Value) (ba : Option Addr) (bn bc : Nat) (qs ps : List P) (W : World) => addC4 (w.heap.size + 1 + 1 + 1 + 1) r b u ba bn bc qs ps W)
  have B0 : Below w.heap.size w (((((w.alloc (.cells #[.int .i64 4, .int .i64 t.kind, .int .i64 t.col, .int .i64 t.op, .int .i64 t.v.ty, .int .i64 t.v.n, .string t.v.s, .slice ua un uc, .int .i64 qc, .slice oa on oc] 46)).alloc (.cells #[.slice aa an ac, .int .i64 a.n, .bool a.has, .int .i64 a.v.ty, .int .i64 a.v.n, .string a.v.s] 50)).alloc (.cells #[.slice ba bn bc, .int .i64 b.n, .bool b.has, .int .i64 b.v.ty, .int .i64 b.v.n, .string b.v.s] 50)).alloc (.cells #[.slice none 0 0, .int .i64 0, .bool false, .int .i64 0, .int .i64 0, .string ⟨#[]⟩] 50)).alloc (.cells #[.slice none 0 0, .int .i64 0, .bool false, .int .i64 0, .int .i64 0, .string ⟨#[]⟩] 50)) := below_then (below_then (below_then (below_alloc2 w (.cells #[.int .i64 4, .int .i64 t.kind, .int .i64 t.col, .int .i64 t.op, .int .i64 t.v.ty, .int .i64 t.v.n, .string t.v.s, .slice ua un uc, .int .i64 qc, .slice oa on oc] 46) (.cells #[.slice aa an ac, .int .i64 a.n, .bool a.has, .int .i64 a.v.ty, .int .i64 a.v.n, .string a.v.s] 50)) (below_alloc _ (.cells #[.slice ba bn bc, .int .i64 b.n, .bool b.has, .int .i64 b.v.ty, .int .i64 b.v.n, .string b.v.s] 50)) (Below.size (below_alloc2 w (.cells #[.int .i64 4, .int .i64 t.kind, .int .i64 t.col, .int .i64 t.op, .int .i64 t.v.ty, .int .i64 t.v.n, .string t.v.s, .slice ua un uc, .int .i64 qc, .slice oa on oc] 46) (.cells #[.slice aa an ac, .int .i64 a.n, .bool a.has, .int .i64 a.v.ty, .int .i64 a.v.n, .string a.v.s] 50)))) (below_alloc _ (.cells #[.slice none 0 0, .int .i64 0, .bool false, .int .i64 0, .int .i64 0, .string ⟨#[]⟩] 50)) (by simp only [World.size_alloc]; omega)) (below_alloc _ (.cells #[.slice none 0 0, .int .i64 0, .bool false, .int .i64 0, .int .i64 0, .string ⟨#[]⟩] 50)) (by simp only [World.size_alloc]; omega)
  have C0 := ((((blk_new w [.int .i64 4, .int .i64 t.kind, .int .i64 t.col, .int .i64 t.op, .int .i64 t.v.ty, .int .i64 t.v.n, .string t.v.s, .slice ua un uc, .int .i64 qc, .slice oa on oc] 46).below (below_alloc _ (.cells #[.slice aa an ac, .int .i64 a.n, .bool a.has, .int .i64 a.v.ty, .int .i64 a.v.n, .string a.v.s] 50))).below (below_alloc _ (.cells #[.slice ba bn bc, .int .i64 b.n, .bool b.has, .int .i64 b.v.ty, .int .i64 b.v.n, .string b.v.s] 50))).below (below_alloc _ (.cells #[.slice none 0 0, .int .i64 0, .bool false, .int .i64 0, .int .i64 0, .string ⟨#[]⟩] 50))).below (below_alloc _ (.cells #[.slice none 0 0, .int .i64 0, .bool false, .int .i64 0, .int .i64 0, .string ⟨#[]⟩] 50))
  have CA := (((blk_new (w.alloc (.cells #[.int .i64 4, .int .i64 t.kind, .int .i64 t.col, .int .i64 t.op, .int .i64 t.v.ty, .int .i64 t.v.n, .string t.v.s, .slice ua un uc, .int .i64 qc, .slice oa on oc] 46)) [.slice aa an ac, .int .i64 a.n, .bool a.has, .int .i64 a.v.ty, .int .i64 a.v.n, .string a.v.s] 50).below (below_alloc _ (.cells #[.slice ba bn bc, .int .i64 b.n, .bool b.has, .int .i64 b.v.ty, .int .i64 b.v.n, .string b.v.s] 50))).below (below_alloc _ (.cells #[.slice none 0 0, .int .i64 0, .bool false, .int .i64 0, .int .i64 0, .string ⟨#[]⟩] 50))).below (below_alloc _ (.cells #[.slice none 0 0, .int .i64 0, .bool false, .int .i64 0, .int .i64 0, .string ⟨#[]⟩] 50))
  have CB := ((blk_new ((w.alloc (.cells #[.int .i64 4, .int .i64 t.kind, .int .i64 t.col, .int .i64 t.op, .int .i64 t.v.ty, .int .i64 t.v.n, .string t.v.s, .slice ua un uc, .int .i64 qc, .slice oa on oc] 46)).alloc (.cells #[.slice aa an ac, .int .i64 a.n, .bool a.has, .int .i64 a.v.ty, .int .i64 a.v.n, .string a.v.s] 50)) [.slice ba bn bc, .int .i64 b.n, .bool b.has, .int .i64 b.v.ty, .int .i64 b.v.n, .string b.v.s] 50).below (below_alloc _ (.cells #[.slice none 0 0, .int .i64 0, .bool false, .int .i64 0, .int .i64 0, .string ⟨#[]⟩] 50))).below (below_alloc _ (.cells #[.slice none 0 0, .int .i64 0, .bool false, .int .i64 0, .int .i64 0, .string ⟨#[]⟩] 50))
  have CR := (blk_new (((w.alloc (.cells #[.int .i64 4, .int .i64 t.kind, .int .i64 t.col, .int .i64 t.op, .int .i64 t.v.ty, .int .i64 t.v.n, .string t.v.s, .slice ua un uc, .int .i64 qc, .slice oa on oc] 46)).alloc (.cells #[.slice aa an ac, .int .i64 a.n, .bool a.has, .int .i64 a.v.ty, .int .i64 a.v.n, .string a.v.s] 50)).alloc (.cells #[.slice ba bn bc, .int .i64 b.n, .bool b.has, .int .i64 b.v.ty, .int .i64 b.v.n, .string b.v.s] 50)) [.slice none 0 0, .int .i64 0, .bool false, .int .i64 0, .int .i64 0, .string ⟨#[]⟩] 50).below (below_alloc _ (.cells #[.slice none 0 0, .int .i64 0, .bool false, .int .i64 0, .int .i64 0, .string ⟨#[]⟩] 50))
  have CO := blk_new ((((w.alloc (.cells #[.int .i64 4, .int .i64 t.kind, .int .i64 t.col, .int .i64 t.op, .int .i64 t.v.ty, .int .i64 t.v.n, .string t.v.s, .slice ua un uc, .int .i64 qc, .slice oa on oc] 46)).alloc (.cells #[.slice aa an ac, .int .i64 a.n, .bool a.has, .int .i64 a.v.ty, .int .i64 a.v.n, .string a.v.s] 50)).alloc (.cells #[.slice ba bn bc, .int .i64 b.n, .bool b.has, .int .i64 b.v.ty, .int .i64 b.v.n, .string b.v.s] 50)).alloc (.cells #[.slice none 0 0, .int .i64 0, .bool false, .int .i64 0, .int .i64 0, .string ⟨#[]⟩] 50)) [.slice none 0 0, .int .i64 0, .bool false, .int .i64 0, .int .i64 0, .string ⟨#[]⟩] 50
  have hz0 : (((((w.alloc (.cells #[.int .i64 4, .int .i64 t.kind, .int .i64 t.col, .int .i64 t.op, .int .i64 t.v.ty, .int .i64 t.v.n, .string t.v.s, .slice ua un uc, .int .i64 qc, .slice oa on oc] 46)).alloc (.cells #[.slice aa an ac, .int .i64 a.n, .bool a.has, .int .i64 a.v.ty, .int .i64 a.v.n, .string a.v.s] 50)).alloc (.cells #[.slice ba bn bc, .int .i64 b.n, .bool b.has, .int .i64 b.v.ty, .int .i64 b.v.n, .string b.v.s] 50)).alloc (.cells #[.slice none 0 0, .int .i64 0, .bool false, .int .i64 0, .int .i64 0, .string ⟨#[]⟩] 50)).alloc (.cells #[.slice none 0 0, .int .i64 0, .bool false, .int .i64 0, .int .i64 0, .string ⟨#[]⟩] 50)).heap.size = w.heap.size + 5 := by simp only [World.size_alloc]
  simp only [World.size_alloc] at CA CB CR CO
  generalize hw0 : (((((w.alloc (.cells #[.int .i64 4, .int .i64 t.kind, .int .i64 t.col, .int .i64 t.op, .int .i64 t.v.ty, .int .i64 t.v.n, .string t.v.s, .slice ua un uc, .int .i64 qc, .slice oa on oc] 46)).alloc (.cells #[.slice aa an ac, .int .i64 a.n, .bool a.has, .int .i64 a.v.ty, .int .i64 a.v.n, .string a.v.s] 50)).alloc (.cells #[.slice ba bn bc, .int .i64 b.n, .bool b.has, .int .i64 b.v.ty, .int .i64 b.v.n, .string b.v.s] 50)).alloc (.cells #[.slice none 0 0, .int .i64 0, .bool false, .int .i64 0, .int .i64 0, .string ⟨#[]⟩] 50)).alloc (.cells #[.slice none 0 0, .int .i64 0, .bool false, .int .i64 0, .int .i64 0, .string ⟨#[]⟩] 50)) = w0 at B0 C0 CA CB CR CO hz0
  have HW0 := Lib.hid hw0
  have k0 := (C0 0 _ rfl).1
  have hst : ∀ fn f c a W, Sem.run Tryd.prog (store a (.func fn f c)) W = stored Tryd.prog W a (.func fn f c) .plain := fun _ _ _ _ _ => run_store _ _ _ _ _ rfl
  clear hw0
  go_enter Tryd.func20, Tryd.ntmps20
  go_wp2_with fail
  rw [HW0.out]
  refine (HA.out _).mono ?_
  rintro e w1 ⟨rfl, b1⟩
  have hz1 := b1.size
  have A2 := below_alloc w1 (.cells #[.func (.func 71) #[] #[], .func (.func 72) #[] #[], .func (.func 73) #[] #[], .func (.func 74) #[] #[]] 99)
  have B2 := below_then (below_then B0 b1 B0.size) A2 (below_then B0 b1 B0.size).size
  have A2' := below_then b1 A2 b1.size
  have CA2 := CA.below A2'
  have CB2 := CB.below A2'
  have CR2 := CR.below A2'
  have CO2 := CO.below A2'
  have CG2 := blk_new w1 [.func (.func 71) #[] #[], .func (.func 72) #[] #[], .func (.func 73) #[] #[], .func (.func 74) #[] #[]] 99
  have hz2 : (w1.alloc (.cells #[.func (.func 71) #[] #[], .func (.func 72) #[] #[], .func (.func 73) #[] #[], .func (.func 74) #[] #[]] 99)).heap.size = w1.heap.size + 1 := World.size_alloc _ _
  have a0 := (CA2 0 _ rfl).1
  have a1 := (CA2 1 _ rfl).1
  have a2 := (CA2 2 _ rfl).1
  have a3 := (CA2 3 _ rfl).1
  have a4 := (CA2 4 _ rfl).1
  have a5 := (CA2 5 _ rfl).1
  have g2 := (CG2 2 _ rfl).1
  clear k0 b1 A2 A2' C0 CA CB CR CO HA HW0
  have M2 : MyRs (w.heap.size + 1 + 1 + 1 + 1 + 1) (w1.alloc (.cells #[.func (.func 71) #[] #[], .func (.func 72) #[] #[], .func (.func 73) #[] #[], .func (.func 74) #[] #[]] 99)).heap.size (w1.alloc (.cells #[.func (.func 71) #[] #[], .func (.func 72) #[] #[], .func (.func 73) #[] #[], .func (.func 74) #[] #[]] 99)) (.slice none 0 0) [] := ⟨.inl ⟨rfl, rfl, rfl⟩, fun p hp => (by cases hp), List.Pairwise.nil⟩
  have HC1 := Lib.hid (HAD.out Rs.zero a (.slice none 0 0) aa an ac [] psa (w1.alloc (.cells #[.func (.func 71) #[] #[], .func (.func 72) #[] #[], .func (.func 73) #[] #[], .func (.func 74) #[] #[]] 99)) CO2 M2 rfl hpa (by simp; omega) hla (fun W hW => ha.below (B2.trans (hW.lt (lo := w.heap.size) (by omega) (by omega) (fun b hb => by cases hb)))))
  go_wp2_with fail
  refine HC1.out.mono ?_
  rintro e w3 ⟨rfl, u1, qs1, K1, M1, E1, L1, N1, R1⟩
  have B3 := B2.trans (N1.lt (lo := w.heap.size) (by omega) (by omega) (fun b hb => by cases hb))
  have hz3 := N1.size
  have CB3 := CB2.on N1 (by omega) (by simp [Value.ownBlock])
  have CR3 := CR2.on N1 (by omega) (by simp [Value.ownBlock])
  have CG3 := CG2.on N1 (by omega) (by simp [Value.ownBlock])
  have hu1 : ∀ x, u1.ownBlock = some x → w1.heap.size < x := fun x hx => by
    rcases R1 x hx with h | h
    · cases h
    · omega
  have HC2 := Lib.hid (HAD.out (addL 4 Rs.zero a) b u1 ba bn bc qs1 psb w3 K1 M1 E1 hpb (by simp at L1; omega) hlb (fun W hW => hb.below (B3.trans (hW.lt (lo := w.heap.size) (by omega) (by omega) (fun b hb => by have := hu1 b hb; omega)))))
  clear a0 a1 a2 a3 a4 a5 g2 CA2 CB2 CR2 CO2 CG2 M2 HC1 HAD K1 M1 N1 R1 B2
  have b0 := (CB3 0 _ rfl).1
  have b1 := (CB3 1 _ rfl).1
  have b2 := (CB3 2 _ rfl).1
  have b3 := (CB3 3 _ rfl).1
  have b4 := (CB3 4 _ rfl).1
  have b5 := (CB3 5 _ rfl).1
  have g3 := (CG3 2 _ rfl).1
  go_wp2_with fail
  refine HC2.out.mono ?_
  rintro e w4 ⟨rfl, u2, qs2, K2, M2, E2, L2, N2, R2⟩
  have B4 := B3.trans (N2.lt (lo := w.heap.size) (by omega) (by omega) (fun b hb => by have := hu1 b hb; omega))
  have CR4 := CR3.on N2 (by omega) (fun e => by have := hu1 _ e.symm; omega)
  obtain ⟨va, vcp, hu2⟩ := M2.1.atN.sl
  generalize hr2 : addL 4 (addL 4 Rs.zero a) b = r2 at K2 E2 ⊢
  generalize qs2.length = vl at hu2
  subst hu2
  have HM2 := Lib.hid M2
  have HE2 := Lib.hid E2
  have HL : Hid (qs2.length ≤ psa.length + psb.length) := by
    show _ ≤ _
    simp at L1
    omega
  have hz4 := N2.size
  obtain ⟨rr, n, h, ⟨vt, vn, vs⟩⟩ := r2
  have HR2 := Lib.hid hr2
  simp only [Rs.cs] at K2 ⊢
  have k0 := (K2 0 _ rfl).1
  have k1 := (K2 1 _ rfl).1
  have k2 := (K2 2 _ rfl).1
  have k3 := (K2 3 _ rfl).1
  have k4 := (K2 4 _ rfl).1
  have k5 := (K2 5 _ rfl).1
  obtain ⟨r0, f0⟩ := CR4 0 _ rfl
  obtain ⟨r1, f1⟩ := CR4 1 _ rfl
  obtain ⟨r2, f2⟩ := CR4 2 _ rfl
  obtain ⟨r3, f3⟩ := CR4 3 _ rfl
  obtain ⟨r4, f4⟩ := CR4 4 _ rfl
  obtain ⟨r5, f5⟩ := CR4 5 _ rfl
  clear b0 b1 b2 b3 b4 b5 g3 CB3 CR3 CG3 HC2 K2 M2 E2 L1 L2 N2 R2 B3 hr2 CR4 hu1
  go_wp2
  refine bodyPost_ret (v := .agg #[.slice va vl vcp, .int .i64 n, .bool h, .int .i64 vt, .int .i64 vn, .string vs]) (by simp [results, Tryd.results20, go_sem, *]) rfl ⟨.slice va vl vcp, ?_, qs2, ?_, ?_, HL.out, ((((((B4.setCell (by simp; omega) _).setCell (by simp; omega) _).setCell (by simp; omega) _).setCell (by simp; omega) _).setCell (by simp; omega) _).setCell (by simp; omega) _)⟩
  · rw [HR2.out]
    rfl
  · exact MyRs.wide (MyRs.setBelow (MyRs.setBelow (MyRs.setBelow (MyRs.setBelow (MyRs.setBelow (MyRs.setBelow HM2.out (by simp) _) (by simp) _) (by simp) _) (by simp) _) (by simp) _) (by simp) _) (by omega) (by simp [World.setCell])
  · rw [HR2.out]
    exact HE2.out

set_option maxRecDepth 100000 in
set_option maxHeartbeats 4000000 in
theorem iJoined5 (t : T) (qc : Int) (ua : Option Addr) (un uc : Nat) (oa : Option Addr) (on oc : Nat) (a b : Rs) (aa : Option Addr) (an ac : Nat) (ba : Option Addr) (bn bc : Nat) (psa psb : List P) (w : World) (ha : RdRsN w (.slice aa an ac) psa) (hpa : psa.map (·.1) = a.rows) (hb : RdRsN w (.slice ba bn bc) psb) (hpb : psb.map (·.1) = b.rows) (hn : psa.length + psb.length ≤ 4194304) (hla : ∀ p ∈ psa, p.1.l.length ≤ 1048576) (hlb : ∀ p ∈ psb, p.1.l.length ≤ 1048576) :
    Calls Tryd.prog 20 #[.agg #[.int .i64 5, .int .i64 t.kind, .int .i64 t.col, .int .i64 t.op, .int .i64 t.v.ty, .int .i64 t.v.n, .string t.v.s, .slice ua un uc, .int .i64 qc, .slice oa on oc], .agg #[.slice aa an ac, .int .i64 a.n, .bool a.has, .int .i64 a.v.ty, .int .i64 a.v.n, .string a.v.s], .agg #[.slice ba bn bc, .int .i64 b.n, .bool b.has, .int .i64 b.v.ty, .int .i64 b.v.n, .string b.v.s]] w fun e w' => ∃ u' qs', e = .returned (.agg ((addL 5 (addL 5 Rs.zero a) b).cs u').toArray) ∧ MyRs w.heap.size w'.heap.size w' u' qs' ∧ qs'.map (·.1) = (addL 5 (addL 5 Rs.zero a) b).rows ∧ qs'.length ≤ psa.length + psb.length ∧ Below w.heap.size w w' := by
  have HA := Lib.hid (fun W => aggOf5 W)
  have HAD := Lib.hid (fun (r b : Rs) (u : Value) (ba : Option Addr) (bn bc : Nat) (qs ps : List P) (W : World) => addC5 (w.heap.size + 1 + 1 + 1 + 1) r b u ba bn bc qs ps W)
  have B0 : Below w.heap.size w (((((w.alloc (.cells #[.int .i64 5, .int .i64 t.kind, .int .i64 t.col, .int .i64 t.op, .int .i64 t.v.ty, .int .i64 t.v.n, .string t.v.s, .slice ua un uc, .int .i64 qc, .slice oa on oc] 46)).alloc (.cells #[.slice aa an ac, .int .i64 a.n, .bool a.has, .int .i64 a.v.ty, .int .i64 a.v.n, .string a.v.s] 50)).alloc (.cells #[.slice ba bn bc, .int .i64 b.n, .bool b.has, .int .i64 b.v.ty, .int .i64 b.v.n, .string b.v.s] 50)).alloc (.cells #[.slice none 0 0, .int .i64 0, .bool false, .int .i64 0, .int .i64 0, .string ⟨#[]⟩] 50)).alloc (.cells #[.slice none 0 0, .int .i64 0, .bool false, .int .i64 0, .int .i64 0, .string ⟨#[]⟩] 50)) := below_then (below_then (below_then (below_alloc2 w (.cells #[.int .i64 5, .int .i64 t.kind, .int .i64 t.col, .int .i64 t.op, .int .i64 t.v.ty, .int .i64 t.v.n, .string t.v.s, .slice ua un uc, .int .i64 qc, .slice oa on oc] 46) (.cells #[.slice aa an ac, .int .i64 a.n, .bool a.has, .int .i64 a.v.ty, .int .i64 a.v.n, .string a.v.s] 50)) (below_alloc _ (.cells #[.slice ba bn bc, .int .i64 b.n, .bool b.has, .int .i64 b.v.ty, .int .i64 b.v.n, .string b.v.s] 50)) (Below.size (below_alloc2 w (.cells #[.int .i64 5, .int .i64 t.kind, .int .i64 t.col, .int .i64 t.op, .int .i64 t.v.ty, .int .i64 t.v.n, .string t.v.s, .slice ua un uc, .int .i64 qc, .slice oa on oc] 46) (.cells #[.slice aa an ac, .int .i64 a.n, .bool a.has, .int .i64 a.v.ty, .int .i64 a.v.n, .string a.v.s] 50)))) (below_alloc _ (.cells #[.slice none 0 0, .int .i64 0, .bool false, .int .i64 0, .int .i64 0, .string ⟨#[]⟩] 50)) (by simp only [World.size_alloc]; omega)) (below_alloc _ (.cells #[.slice none 0 0, .int .i64 0, .bool false, .int .i64 0, .int .i64 0, .string ⟨#[]⟩] 50)) (by simp only [World.size_alloc]; omega)
  have C0 := ((((blk_new w [.int .i64 5, .int .i64 t.kind, .int .i64 t.col, .int .i64 t.op, .int .i64 t.v.ty, .int .i64 t.v.n, .string t.v.s, .slice ua un uc, .int .i64 qc, .slice oa on oc] 46).below (below_alloc _ (.cells #[.slice aa an ac, .int .i64 a.n, .bool a.has, .int .i64 a.v.ty, .int .i64 a.v.n, .string a.v.s] 50))).below (below_alloc _ (.cells #[.slice ba bn bc, .int .i64 b.n, .bool b.has, .int .i64 b.v.ty, .int .i64 b.v.n, .string b.v.s] 50))).below (below_alloc _ (.cells #[.slice none 0 0, .int .i64 0, .bool false, .int .i64 0, .int .i64 0, .string ⟨#[]⟩] 50))).below (below_alloc _ (.cells #[.slice none 0 0, .int .i64 0, .bool false, .int .i64 0, .int .i64 0, .string ⟨#[]⟩] 50))
  have CA := (((blk_new (w.alloc (.cells #[.int .i64 5, .int .i64 t.kind, .int .i64 t.col, .int .i64 t.op, .int .i64 t.v.ty, .int .i64 t.v.n, .string t.v.s, .slice ua un uc, .int .i64 qc, .slice oa on oc] 46)) [.slice aa an ac, .int .i64 a.n, .bool a.has, .int .i64 a.v.ty, .int .i64 a.v.n, .string a.v.s] 50).below (below_alloc _ (.cells #[.slice ba bn bc, .int .i64 b.n, .bool b.has, .int .i64 b.v.ty, .int .i64 b.v.n, .string b.v.s] 50))).below (below_alloc _ (.cells #[.slice none 0 0, .int .i64 0, .bool false, .int .i64 0, .int .i64 0, .string ⟨#[]⟩] 50))).below (below_alloc _ (.cells #[.slice none 0 0, .int .i64 0, .bool false, .int .i64 0, .int .i64 0, .string ⟨#[]⟩] 50))
  have CB := ((blk_new ((w.alloc (.cells #[.int .i64 5, .int .i64 t.kind, .int .i64 t.col, .int .i64 t.op, .int .i64 t.v.ty, .int .i64 t.v.n, .string t.v.s, .slice ua un uc, .int .i64 qc, .slice oa on oc] 46)).alloc (.cells #[.slice aa an ac, .int .i64 a.n, .bool a.has, .int .i64 a.v.ty, .int .i64 a.v.n, .string a.v.s] 50)) [.slice ba bn bc, .int .i64 b.n, .bool b.has, .int .i64 b.v.ty, .int .i64 b.v.n, .string b.v.s] 50).below (below_alloc _ (.cells #[.slice none 0 0, .int .i64 0, .bool false, .int .i64 0, .int .i64 0, .string ⟨#[]⟩] 50))).below (below_alloc _ (.cells #[.slice none 0 0, .int .i64 0, .bool false, .int .i64 0, .int .i64 0, .string ⟨#[]⟩] 50))
  have CR := (blk_new (((w.alloc (.cells #[.int .i64 5, .int .i64 t.kind, .int .i64 t.col, .int .i64 t.op, .int .i64 t.v.ty, .int .i64 t.v.n, .string t.v.s, .slice ua un uc, .int .i64 qc, .slice oa on oc] 46)).alloc (.cells #[.slice aa an ac, .int .i64 a.n, .bool a.has, .int .i64 a.v.ty, .int .i64 a.v.n, .string a.v.s] 50)).alloc (.cells #[.slice ba bn bc, .int .i64 b.n, .bool b.has, .int .i64 b.v.ty, .int .i64 b.v.n, .string b.v.s] 50)) [.slice none 0 0, .int .i64 0, .bool false, .int .i64 0, .int .i64 0, .string ⟨#[]⟩] 50).below (below_alloc _ (.cells #[.slice none 0 0, .int .i64 0, .bool false, .int .i64 0, .int .i64 0, .string ⟨#[]⟩] 50))
  have CO := blk_new ((((w.alloc (.cells #[.int .i64 5, .int .i64 t.kind, .int .i64 t.col, .int .i64 t.op, .int .i64 t.v.ty, .int .i64 t.v.n, .string t.v.s, .slice ua un uc, .int .i64 qc, .slice oa on oc] 46)).alloc (.cells #[.slice aa an ac, .int .i64 a.n, .bool a.has, .int .i64 a.v.ty, .int .i64 a.v.n, .string a.v.s] 50)).alloc (.cells #[.slice ba bn bc, .int .i64 b.n, .bool b.has, .int .i64 b.v.ty, .int .i64 b.v.n, .string b.v.s] 50)).alloc (.cells #[.slice none 0 0, .int .i64 0, .bool false, .int .i64 0, .int .i64 0, .string ⟨#[]⟩] 50)) [.slice none 0 0, .int .i64 0, .bool false, .int .i64 0, .int .i64 0, .string ⟨#[]⟩] 50
  have hz0 : (((((w.alloc (.cells #[.int .i64 5, .int .i64 t.kind, .int .i64 t.col, .int .i64 t.op, .int .i64 t.v.ty, .int .i64 t.v.n, .string t.v.s, .slice ua un uc, .int .i64 qc, .slice oa on oc] 46)).alloc (.cells #[.slice aa an ac, .int .i64 a.n, .bool a.has, .int .i64 a.v.ty, .int .i64 a.v.n, .string a.v.s] 50)).alloc (.cells #[.slice ba bn bc, .int .i64 b.n, .bool b.has, .int .i64 b.v.ty, .int .i64 b.v.n, .string b.v.s] 50)).alloc (.cells #[.slice none 0 0, .int .i64 0, .bool false, .int .i64 0, .int .i64 0, .string ⟨#[]⟩] 50)).alloc (.cells #[.slice none 0 0, .int .i64 0, .bool false, .int .i64 0, .int .i64 0, .string ⟨#[]⟩] 50)).heap.size = w.heap.size + 5 := by simp only [World.size_alloc]
  simp only [World.size_alloc] at CA CB CR CO
  generalize hw0 : (((((w.alloc (.cells #[.int .i64 5, .int .i64 t.kind, .int .i64 t.col, .int .i64 t.op, .int .i64 t.v.ty, .int .i64 t.v.n, .string t.v.s, .slice ua un uc, .int .i64 qc, .slice oa on oc] 46)).alloc (.cells #[.slice aa an ac, .int .i64 a.n, .bool a.has, .int .i64 a.v.ty, .int .i64 a.v.n, .string a.v.s] 50)).alloc (.cells #[.slice ba bn bc, .int .i64 b.n, .bool b.has, .int .i64 b.v.ty, .int .i64 b.v.n, .string b.v.s] 50)).alloc (.cells #[.slice none 0 0, .int .i64 0, .bool false, .int .i64 0, .int .i64 0, .string ⟨#[]⟩] 50)).alloc (.cells #[.slice none 0 0, .int .i64 0, .bool false, .int .i64 0, .int .i64 0, .string ⟨#[]⟩] 50)) = w0 at B0 C0 CA CB CR CO hz0
  have HW0 := Lib.hid hw0
  have k0 := (C0 0 _ rfl).1
  have hst : ∀ fn f c a W, Sem.run Tryd.prog (store a (.func fn f c)) W = stored Tryd.prog W a (.func fn f c) .plain := fun _ _ _ _ _ => run_store _ _ _ _ _ rfl
  clear hw0
  go_enter Tryd.func20, Tryd.ntmps20
  go_wp2_with fail
  rw [HW0.out]
  refine (HA.out _).mono ?_
  rintro e w1 ⟨rfl, b1⟩
  have hz1 := b1.size
  have A2 := below_alloc w1 (.cells #[.func (.func 71) #[] #[], .func (.func 72) #[] #[], .func (.func 75) #[] #[], .func (.func 74) #[] #[]] 99)
  have B2 := below_then (below_then B0 b1 B0.size) A2 (below_then B0 b1 B0.size).size
  have A2' := below_then b1 A2 b1.size
  have CA2 := CA.below A2'
  have CB2 := CB.below A2'
  have CR2 := CR.below A2'
  have CO2 := CO.below A2'
  have CG2 := blk_new w1 [.func (.func 71) #[] #[], .func (.func 72) #[] #[], .func (.func 75) #[] #[], .func (.func 74) #[] #[]] 99
  have hz2 : (w1.alloc (.cells #[.func (.func 71) #[] #[], .func (.func 72) #[] #[], .func (.func 75) #[] #[], .func (.func 74) #[] #[]] 99)).heap.size = w1.heap.size + 1 := World.size_alloc _ _
  have a0 := (CA2 0 _ rfl).1
  have a1 := (CA2 1 _ rfl).1
  have a2 := (CA2 2 _ rfl).1
  have a3 := (CA2 3 _ rfl).1
  have a4 := (CA2 4 _ rfl).1
  have a5 := (CA2 5 _ rfl).1
  have g2 := (CG2 2 _ rfl).1
  clear k0 b1 A2 A2' C0 CA CB CR CO HA HW0
  have M2 : MyRs (w.heap.size + 1 + 1 + 1 + 1 + 1) (w1.alloc (.cells #[.func (.func 71) #[] #[], .func (.func 72) #[] #[], .func (.func 75) #[] #[], .func (.func 74) #[] #[]] 99)).heap.size (w1.alloc (.cells #[.func (.func 71) #[] #[], .func (.func 72) #[] #[], .func (.func 75) #[] #[], .func (.func 74) #[] #[]] 99)) (.slice none 0 0) [] := ⟨.inl ⟨rfl, rfl, rfl⟩, fun p hp => (by cases hp), List.Pairwise.nil⟩
  have HC1 := Lib.hid (HAD.out Rs.zero a (.slice none 0 0) aa an ac [] psa (w1.alloc (.cells #[.func (.func 71) #[] #[], .func (.func 72) #[] #[], .func (.func 75) #[] #[], .func (.func 74) #[] #[]] 99)) CO2 M2 rfl hpa (by simp; omega) hla (fun W hW => ha.below (B2.trans (hW.lt (lo := w.heap.size) (by omega) (by omega) (fun b hb => by cases hb)))))
  go_wp2_with fail
  refine HC1.out.mono ?_
  rintro e w3 ⟨rfl, u1, qs1, K1, M1, E1, L1, N1, R1⟩
  have B3 := B2.trans (N1.lt (lo := w.heap.size) (by omega) (by omega) (fun b hb => by cases hb))
  have hz3 := N1.size
  have CB3 := CB2.on N1 (by omega) (by simp [Value.ownBlock])
  have CR3 := CR2.on N1 (by omega) (by simp [Value.ownBlock])
  have CG3 := CG2.on N1 (by omega) (by simp [Value.ownBlock])
  have hu1 : ∀ x, u1.ownBlock = some x → w1.heap.size < x := fun x hx => by
    rcases R1 x hx with h | h
    · cases h
    · omega
  have HC2 := Lib.hid (HAD.out (addL 5 Rs.zero a) b u1 ba bn bc qs1 psb w3 K1 M1 E1 hpb (by simp at L1; omega) hlb (fun W hW => hb.below (B3.trans (hW.lt (lo := w.heap.size) (by omega) (by omega) (fun b hb => by have := hu1 b hb; omega)))))
  clear a0 a1 a2 a3 a4 a5 g2 CA2 CB2 CR2 CO2 CG2 M2 HC1 HAD K1 M1 N1 R1 B2
  have b0 := (CB3 0 _ rfl).1
  have b1 := (CB3 1 _ rfl).1
  have b2 := (CB3 2 _ rfl).1
  have b3 := (CB3 3 _ rfl).1
  have b4 := (CB3 4 _ rfl).1
  have b5 := (CB3 5 _ rfl).1
  have g3 := (CG3 2 _ rfl).1
  go_wp2_with fail
  refine HC2.out.mono ?_
  rintro e w4 ⟨rfl, u2, qs2, K2, M2, E2, L2, N2, R2⟩
  have B4 := B3.trans (N2.lt (lo := w.heap.size) (by omega) (by omega) (fun b hb => by have := hu1 b hb; omega))
  have CR4 := CR3.on N2 (by omega) (fun e => by have := hu1 _ e.symm; omega)
  obtain ⟨va, vcp, hu2⟩ := M2.1.atN.sl
  generalize hr2 : addL 5 (addL 5 Rs.zero a) b = r2 at K2 E2 ⊢
  generalize qs2.length = vl at hu2
  subst hu2
  have HM2 := Lib.hid M2
  have HE2 := Lib.hid E2
  have HL : Hid (qs2.length ≤ psa.length + psb.length) := by
    show _ ≤ _
    simp at L1
    omega
  have hz4 := N2.size
  obtain ⟨rr, n, h, ⟨vt, vn, vs⟩⟩ := r2
  have HR2 := Lib.hid hr2
  simp only [Rs.cs] at K2 ⊢
  have k0 := (K2 0 _ rfl).1
  have k1 := (K2 1 _ rfl).1
  have k2 := (K2 2 _ rfl).1
  have k3 := (K2 3 _ rfl).1
  have k4 := (K2 4 _ rfl).1
  have k5 := (K2 5 _ rfl).1
  obtain ⟨r0, f0⟩ := CR4 0 _ rfl
  obtain ⟨r1, f1⟩ := CR4 1 _ rfl
  obtain ⟨r2, f2⟩ := CR4 2 _ rfl
  obtain ⟨r3, f3⟩ := CR4 3 _ rfl
  obtain ⟨r4, f4⟩ := CR4 4 _ rfl
  obtain ⟨r5, f5⟩ := CR4 5 _ rfl
  clear b0 b1 b2 b3 b4 b5 g3 CB3 CR3 CG3 HC2 K2 M2 E2 L1 L2 N2 R2 B3 hr2 CR4 hu1
  go_wp2
  refine bodyPost_ret (v := .agg #[.slice va vl vcp, .int .i64 n, .bool h, .int .i64 vt, .int .i64 vn, .string vs]) (by simp [results, Tryd.results20, go_sem, *]) rfl ⟨.slice va vl vcp, ?_, qs2, ?_, ?_, HL.out, ((((((B4.setCell (by simp; omega) _).setCell (by simp; omega) _).setCell (by simp; omega) _).setCell (by simp; omega) _).setCell (by simp; omega) _).setCell (by simp; omega) _)⟩
  · rw [HR2.out]
    rfl
  · exact MyRs.wide (MyRs.setBelow (MyRs.setBelow (MyRs.setBelow (MyRs.setBelow (MyRs.setBelow (MyRs.setBelow HM2.out (by simp) _) (by simp) _) (by simp) _) (by simp) _) (by simp) _) (by simp) _) (by omega) (by simp [World.setCell])
  · rw [HR2.out]
    exact HE2.out

set_option maxRecDepth 100000 in
set_option maxHeartbeats 4000000 in
theorem iJoinedNo (qk : Int) (hk : ¬ (1 ≤ qk ∧ qk ≤ 5)) (t : T) (qc : Int) (ua : Option Addr) (un uc : Nat) (oa : Option Addr) (on oc : Nat) (a b : Rs) (aa : Option Addr) (an ac : Nat) (ba : Option Addr) (bn bc : Nat) (w : World) :
    Calls Tryd.prog 20 #[.agg #[.int .i64 qk, .int .i64 t.kind, .int .i64 t.col, .int .i64 t.op, .int .i64 t.v.ty, .int .i64 t.v.n, .string t.v.s, .slice ua un uc, .int .i64 qc, .slice oa on oc], .agg #[.slice aa an ac, .int .i64 a.n, .bool a.has, .int .i64 a.v.ty, .int .i64 a.v.n, .string a.v.s], .agg #[.slice ba bn bc, .int .i64 b.n, .bool b.has, .int .i64 b.v.ty, .int .i64 b.v.n, .string b.v.s]] w fun e w' => e = .returned (.agg #[.slice none 0 0, .int .i64 0, .bool false, .int .i64 0, .int .i64 0, .string ⟨#[]⟩]) ∧ Below w.heap.size w w' := by
  have HA := Lib.hid (fun W => aggOfNo qk hk W)
  have B0 : Below w.heap.size w (((((w.alloc (.cells #[.int .i64 qk, .int .i64 t.kind, .int .i64 t.col, .int .i64 t.op, .int .i64 t.v.ty, .int .i64 t.v.n, .string t.v.s, .slice ua un uc, .int .i64 qc, .slice oa on oc] 46)).alloc (.cells #[.slice aa an ac, .int .i64 a.n, .bool a.has, .int .i64 a.v.ty, .int .i64 a.v.n, .string a.v.s] 50)).alloc (.cells #[.slice ba bn bc, .int .i64 b.n, .bool b.has, .int .i64 b.v.ty, .int .i64 b.v.n, .string b.v.s] 50)).alloc (.cells #[.slice none 0 0, .int .i64 0, .bool false, .int .i64 0, .int .i64 0, .string ⟨#[]⟩] 50)).alloc (.cells #[.slice none 0 0, .int .i64 0, .bool false, .int .i64 0, .int .i64 0, .string ⟨#[]⟩] 50)) := below_then (below_then (below_then (below_alloc2 w (.cells #[.int .i64 qk, .int .i64 t.kind, .int .i64 t.col, .int .i64 t.op, .int .i64 t.v.ty, .int .i64 t.v.n, .string t.v.s, .slice ua un uc, .int .i64 qc, .slice oa on oc] 46) (.cells #[.slice aa an ac, .int .i64 a.n, .bool a.has, .int .i64 a.v.ty, .int .i64 a.v.n, .string a.v.s] 50)) (below_alloc _ (.cells #[.slice ba bn bc, .int .i64 b.n, .bool b.has, .int .i64 b.v.ty, .int .i64 b.v.n, .string b.v.s] 50)) (Below.size (below_alloc2 w (.cells #[.int .i64 qk, .int .i64 t.kind, .int .i64 t.col, .int .i64 t.op, .int .i64 t.v.ty, .int .i64 t.v.n, .string t.v.s, .slice ua un uc, .int .i64 qc, .slice oa on oc] 46) (.cells #[.slice aa an ac, .int .i64 a.n, .bool a.has, .int .i64 a.v.ty, .int .i64 a.v.n, .string a.v.s] 50)))) (below_alloc _ (.cells #[.slice none 0 0, .int .i64 0, .bool false, .int .i64 0, .int .i64 0, .string ⟨#[]⟩] 50)) (by simp only [World.size_alloc]; omega)) (below_alloc _ (.cells #[.slice none 0 0, .int .i64 0, .bool false, .int .i64 0, .int .i64 0, .string ⟨#[]⟩] 50)) (by simp only [World.size_alloc]; omega)
  have C0 := ((((blk_new w [.int .i64 qk, .int .i64 t.kind, .int .i64 t.col, .int .i64 t.op, .int .i64 t.v.ty, .int .i64 t.v.n, .string t.v.s, .slice ua un uc, .int .i64 qc, .slice oa on oc] 46).below (below_alloc _ (.cells #[.slice aa an ac, .int .i64 a.n, .bool a.has, .int .i64 a.v.ty, .int .i64 a.v.n, .string a.v.s] 50))).below (below_alloc _ (.cells #[.slice ba bn bc, .int .i64 b.n, .bool b.has, .int .i64 b.v.ty, .int .i64 b.v.n, .string b.v.s] 50))).below (below_alloc _ (.cells #[.slice none 0 0, .int .i64 0, .bool false, .int .i64 0, .int .i64 0, .string ⟨#[]⟩] 50))).below (below_alloc _ (.cells #[.slice none 0 0, .int .i64 0, .bool false, .int .i64 0, .int .i64 0, .string ⟨#[]⟩] 50))
  have CR := (blk_new (((w.alloc (.cells #[.int .i64 qk, .int .i64 t.kind, .int .i64 t.col, .int .i64 t.op, .int .i64 t.v.ty, .int .i64 t.v.n, .string t.v.s, .slice ua un uc, .int .i64 qc, .slice oa on oc] 46)).alloc (.cells #[.slice aa an ac, .int .i64 a.n, .bool a.has, .int .i64 a.v.ty, .int .i64 a.v.n, .string a.v.s] 50)).alloc (.cells #[.slice ba bn bc, .int .i64 b.n, .bool b.has, .int .i64 b.v.ty, .int .i64 b.v.n, .string b.v.s] 50)) [.slice none 0 0, .int .i64 0, .bool false, .int .i64 0, .int .i64 0, .string ⟨#[]⟩] 50).below (below_alloc _ (.cells #[.slice none 0 0, .int .i64 0, .bool false, .int .i64 0, .int .i64 0, .string ⟨#[]⟩] 50))
  have CO := blk_new ((((w.alloc (.cells #[.int .i64 qk, .int .i64 t.kind, .int .i64 t.col, .int .i64 t.op, .int .i64 t.v.ty, .int .i64 t.v.n, .string t.v.s, .slice ua un uc, .int .i64 qc, .slice oa on oc] 46)).alloc (.cells #[.slice aa an ac, .int .i64 a.n, .bool a.has, .int .i64 a.v.ty, .int .i64 a.v.n, .string a.v.s] 50)).alloc (.cells #[.slice ba bn bc, .int .i64 b.n, .bool b.has, .int .i64 b.v.ty, .int .i64 b.v.n, .string b.v.s] 50)).alloc (.cells #[.slice none 0 0, .int .i64 0, .bool false, .int .i64 0, .int .i64 0, .string ⟨#[]⟩] 50)) [.slice none 0 0, .int .i64 0, .bool false, .int .i64 0, .int .i64 0, .string ⟨#[]⟩] 50
  simp only [World.size_alloc] at CR CO
  generalize hw0 : (((((w.alloc (.cells #[.int .i64 qk, .int .i64 t.kind, .int .i64 t.col, .int .i64 t.op, .int .i64 t.v.ty, .int .i64 t.v.n, .string t.v.s, .slice ua un uc, .int .i64 qc, .slice oa on oc] 46)).alloc (.cells #[.slice aa an ac, .int .i64 a.n, .bool a.has, .int .i64 a.v.ty, .int .i64 a.v.n, .string a.v.s] 50)).alloc (.cells #[.slice ba bn bc, .int .i64 b.n, .bool b.has, .int .i64 b.v.ty, .int .i64 b.v.n, .string b.v.s] 50)).alloc (.cells #[.slice none 0 0, .int .i64 0, .bool false, .int .i64 0, .int .i64 0, .string ⟨#[]⟩] 50)).alloc (.cells #[.slice none 0 0, .int .i64 0, .bool false, .int .i64 0, .int .i64 0, .string ⟨#[]⟩] 50)) = w0 at B0 C0 CR CO
  have HW0 := Lib.hid hw0
  have k0 := (C0 0 _ rfl).1
  have hst2 : ∀ a W, Sem.run Tryd.prog (store a .nilFunc) W = stored Tryd.prog W a .nilFunc .plain := fun _ _ => run_store _ _ _ _ _ rfl
  clear hw0
  go_enter Tryd.func20, Tryd.ntmps20
  go_wp2_with fail
  rw [HW0.out]
  refine (HA.out _).mono ?_
  rintro e w1 ⟨rfl, b1⟩
  have A2 := below_alloc w1 (.cells #[.nilFunc, .nilFunc, .nilFunc, .nilFunc] 99)
  have B2 := below_then (below_then B0 b1 B0.size) A2 (below_then B0 b1 B0.size).size
  have A2' := below_then b1 A2 b1.size
  have CR2 := CR.below A2'
  have CO2 := CO.below A2'
  have k1 := (CO2 0 _ rfl).1
  have k2 := (CO2 1 _ rfl).1
  have k3 := (CO2 2 _ rfl).1
  have k4 := (CO2 3 _ rfl).1
  have k5 := (CO2 4 _ rfl).1
  have k6 := (CO2 5 _ rfl).1
  obtain ⟨r0, f0⟩ := CR2 0 _ rfl
  obtain ⟨r1, f1⟩ := CR2 1 _ rfl
  obtain ⟨r2, f2⟩ := CR2 2 _ rfl
  obtain ⟨r3, f3⟩ := CR2 3 _ rfl
  obtain ⟨r4, f4⟩ := CR2 4 _ rfl
  obtain ⟨r5, f5⟩ := CR2 5 _ rfl
  clear k0 b1 A2 A2' C0 CR CO HA HW0 CR2 CO2
  go_wp2
  exact bodyPost_ret (v := .agg #[.slice none 0 0, .int .i64 0, .bool false, .int .i64 0, .int .i64 0, .string ⟨#[]⟩]) (by simp [results, Tryd.results20, go_sem, *]) rfl ⟨rfl, ((((((B2.setCell (by simp; omega) _).setCell (by simp; omega) _).setCell (by simp; omega) _).setCell (by simp; omega) _).setCell (by simp; omega) _).setCell (by simp; omega) _)⟩

/-- Joined, of any kind. -/
def jn (k : Int) (a b : Rs) : Rs := if 1 ≤ k ∧ k ≤ 5 then addL k (addL k Rs.zero a) b else Rs.zero
theorem jn_join {k : Int} {a b : Rs} (ha : -9223372036854775808 ≤ a.n ∧ a.n ≤ 9223372036854775807) : jn k a b = joinL k a b := by
  unfold jn
  by_cases hk : 1 ≤ k ∧ k ≤ 5
  · rw [if_pos hk, joinL_add hk ha]
  · rw [if_neg hk]
    unfold joinL
    rw [if_neg (by omega), if_neg (by omega), if_neg (by omega), if_neg (by omega)]
theorem iJoined (qk : Int) (t : T) (qc : Int) (ua : Option Addr) (un uc : Nat) (oa : Option Addr) (on oc : Nat) (a b : Rs) (aa : Option Addr) (an ac : Nat) (ba : Option Addr) (bn bc : Nat) (psa psb : List P) (w : World) (ha : RdRsN w (.slice aa an ac) psa) (hpa : psa.map (·.1) = a.rows) (hb : RdRsN w (.slice ba bn bc) psb) (hpb : psb.map (·.1) = b.rows) (hn : psa.length + psb.length ≤ 4194304) (hla : ∀ p ∈ psa, p.1.l.length ≤ 1048576) (hlb : ∀ p ∈ psb, p.1.l.length ≤ 1048576) :
    Calls Tryd.prog 20 #[.agg #[.int .i64 qk, .int .i64 t.kind, .int .i64 t.col, .int .i64 t.op, .int .i64 t.v.ty, .int .i64 t.v.n, .string t.v.s, .slice ua un uc, .int .i64 qc, .slice oa on oc], .agg #[.slice aa an ac, .int .i64 a.n, .bool a.has, .int .i64 a.v.ty, .int .i64 a.v.n, .string a.v.s], .agg #[.slice ba bn bc, .int .i64 b.n, .bool b.has, .int .i64 b.v.ty, .int .i64 b.v.n, .string b.v.s]] w fun e w' => ∃ u' qs', e = .returned (.agg ((jn qk a b).cs u').toArray) ∧ MyRs w.heap.size w'.heap.size w' u' qs' ∧ qs'.map (·.1) = (jn qk a b).rows ∧ qs'.length ≤ psa.length + psb.length ∧ Below w.heap.size w w' := by
  by_cases hk : 1 ≤ qk ∧ qk ≤ 5
  · unfold jn
    rw [if_pos hk]
    rcases kinds5 hk with rfl | rfl | rfl | rfl | rfl
    · exact iJoined1 t qc ua un uc oa on oc a b aa an ac ba bn bc psa psb w ha hpa hb hpb hn hla hlb
    · exact iJoined2 t qc ua un uc oa on oc a b aa an ac ba bn bc psa psb w ha hpa hb hpb hn hla hlb
    · exact iJoined3 t qc ua un uc oa on oc a b aa an ac ba bn bc psa psb w ha hpa hb hpb hn hla hlb
    · exact iJoined4 t qc ua un uc oa on oc a b aa an ac ba bn bc psa psb w ha hpa hb hpb hn hla hlb
    · exact iJoined5 t qc ua un uc oa on oc a b aa an ac ba bn bc psa psb w ha hpa hb hpb hn hla hlb
  · unfold jn
    rw [if_neg hk]
    refine (iJoinedNo qk hk t qc ua un uc oa on oc a b aa an ac ba bn bc w).mono ?_
    rintro e w' ⟨rfl, hb'⟩
    exact ⟨.slice none 0 0, [], rfl, ⟨.inl ⟨rfl, rfl, rfl⟩, fun p hp => (by cases hp), List.Pairwise.nil⟩, rfl, Nat.zero_le _, hb'⟩

end Go.Proofs.YtkofafefnlommaaDoor
