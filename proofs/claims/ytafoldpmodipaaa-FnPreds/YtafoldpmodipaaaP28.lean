/- Texts of this claim, one behind the other: IVis, IVis2, MVis, I11f, I11g. -/
import Derived.Test.YtafoldpmodipaaaP25
import Derived.Test.YtafoldpmodipaaaP3
import Derived.KernelRfl
import Derived.Test.YtafoldpmodipaaaP8
import Derived.Test.YtafoldpmodipaaaP16
import Derived.Test.YtafoldpmodipaaaP5
import Derived.Test.YtafoldpmodipaaaP4

/- The contracts of impl's condOf, its kinds' operands, enter. -/
namespace Go.Proofs.Ytafoldpmodipaaa
open Go.RowKit

/-- What stands behind the interface cond for a predicate: its type, its value. -/
def condTy (k : Int) : TypeId := if k = 1 then 139 else if k = 2 then 107 else if k = 3 then 140 else if k = 4 then 142 else if k = 5 then 143 else 166
def condIn (t : T) (u : Value) : Value := if t.kind = 2 then .agg #[.int .i64 t.col, .int .i64 t.op, .int .i64 t.v.ty, .int .i64 t.v.n, .string t.v.s] else if t.kind = 3 ∨ t.kind = 4 ∨ t.kind = 5 then u else .agg #[]
def condV (t : T) (u : Value) : Value := .iface (condTy t.kind) (condIn t u)

theorem condV_1 {t : T} (u : Value) (h : t.kind = 1) : condV t u = .iface 139 (.agg #[]) := by
  simp [condV, condTy, condIn, h]
theorem condV_2 {t : T} (u : Value) (h : t.kind = 2) : condV t u = .iface 107 (.agg #[.int .i64 t.col, .int .i64 t.op, .int .i64 t.v.ty, .int .i64 t.v.n, .string t.v.s]) := by
  simp [condV, condTy, condIn, h]
theorem condV_3 {t : T} (u : Value) (h : t.kind = 3) : condV t u = .iface 140 u := by
  simp [condV, condTy, condIn, h]
theorem condV_4 {t : T} (u : Value) (h : t.kind = 4) : condV t u = .iface 142 u := by
  simp [condV, condTy, condIn, h]
theorem condV_5 {t : T} (u : Value) (h : t.kind = 5) : condV t u = .iface 143 u := by
  simp [condV, condTy, condIn, h]
theorem condV_no {t : T} (u : Value) (h1 : ¬ t.kind = 1) (h2 : ¬ t.kind = 2) (h3 : ¬ t.kind = 3) (h4 : ¬ t.kind = 4) (h5 : ¬ t.kind = 5) : condV t u = .iface 166 (.agg #[]) := by
  simp [condV, condTy, condIn, h1, h2, h3, h4, h5]

set_option maxHeartbeats 2000000 in
theorem condOf (t : T) (u : Value) (w : World) (hu : ∃ a n cap, u = .slice a n cap) : Calls Try.prog 119 #[t.agg u] w fun e w' => e = .returned (condV t u) ∧ Below w.heap.size w w' := by
  have B0 := below_alloc w (.cells (t.cs u).toArray 46)
  have C0 := blk_new w (t.cs u) 46
  have HR1 := Lib.hid (condV_1 (t := t) u)
  have HR2 := Lib.hid (condV_2 (t := t) u)
  have HR3 := Lib.hid (condV_3 (t := t) u)
  have HR4 := Lib.hid (condV_4 (t := t) u)
  have HR5 := Lib.hid (condV_5 (t := t) u)
  have HR0 := Lib.hid (condV_no (t := t) u)
  generalize condV t u = R at HR1 HR2 HR3 HR4 HR5 HR0 ⊢
  obtain ⟨k, c, o, ⟨vt, vn, vs⟩, l⟩ := t
  obtain ⟨a, n, cap, rfl⟩ := hu
  simp only [T.agg, T.cs, T.kind, T.col, T.op, T.v] at B0 C0 ⊢
  have p0 := (C0 0 _ rfl).1
  have p1 := (C0 1 _ rfl).1
  have p2 := (C0 2 _ rfl).1
  have p3 := (C0 3 _ rfl).1
  have p4 := (C0 4 _ rfl).1
  have p5 := (C0 5 _ rfl).1
  have p6 := (C0 6 _ rfl).1
  clear C0
  simp only [T.kind, T.col, T.op, T.v] at HR1 HR2 HR3 HR4 HR5 HR0
  generalize hw0 : w.alloc (.cells #[.int .i64 k, .int .i64 c, .int .i64 o, .int .i64 vt, .int .i64 vn, .string vs, .slice a n cap] 46) = w0 at B0 p0 p1 p2 p3 p4 p5 p6
  have HW0 := Lib.hid hw0
  clear hw0
  by_cases k1 : k = 1
  · rw [HR1.out k1]
    subst k1
    clear HR1 HR2 HR3 HR4 HR5 HR0
    go_enter Try.func119, Try.ntmps119
    go_wp2
    rw [HW0.out]
    go_wp2
    go_ret
    exact ⟨rfl, B0⟩
  by_cases k2 : k = 2
  · rw [HR2.out k2]
    subst k2
    clear HR1 HR2 HR3 HR4 HR5 HR0
    go_enter Try.func119, Try.ntmps119
    go_wp2
    rw [HW0.out]
    go_wp2
    go_ret
    exact ⟨rfl, B0⟩
  by_cases k3 : k = 3
  · rw [HR3.out k3]
    subst k3
    clear HR1 HR2 HR3 HR4 HR5 HR0
    go_enter Try.func119, Try.ntmps119
    go_wp2
    rw [HW0.out]
    go_wp2
    go_ret
    exact ⟨rfl, B0⟩
  by_cases k4 : k = 4
  · rw [HR4.out k4]
    subst k4
    clear HR1 HR2 HR3 HR4 HR5 HR0
    go_enter Try.func119, Try.ntmps119
    go_wp2
    rw [HW0.out]
    go_wp2
    go_ret
    exact ⟨rfl, B0⟩
  by_cases k5 : k = 5
  · rw [HR5.out k5]
    subst k5
    clear HR1 HR2 HR3 HR4 HR5 HR0
    go_enter Try.func119, Try.ntmps119
    go_wp2
    rw [HW0.out]
    go_wp2
    go_ret
    exact ⟨rfl, B0⟩
  rw [HR0.out k1 k2 k3 k4 k5]
  clear HR1 HR2 HR3 HR4 HR5 HR0
  go_enter Try.func119, Try.ntmps119
  go_wp2
  rw [HW0.out]
  go_wp2
  go_ret
  exact ⟨rfl, B0⟩

/-- What operands returns. -/
def opsV (t : T) (u : Value) : Value := if t.kind = 3 ∨ t.kind = 4 ∨ t.kind = 5 then u else .slice none 0 0
theorem opsV_len {t : T} {u : Value} {a : Option Addr} {cap : Nat} (hu : u = .slice a t.l.length cap) : ∃ a' cap', opsV t u = .slice a' t.ops.length cap' ∧ (0 < t.ops.length → a' = a) := by
  unfold opsV T.ops
  split
  · exact ⟨a, cap, hu, fun _ => rfl⟩
  · exact ⟨none, 0, rfl, fun h => by simp at h⟩

theorem op_conj (v : Value) (W : World) (h : ∃ a n cap, v = .slice a n cap) : Calls Try.prog 152 #[v] W fun e W' => e = .returned v ∧ W' = W := by
  obtain ⟨a, n, cap, rfl⟩ := h
  go_enter Try.func152, Try.ntmps152
  go_wp2
  go_ret
  exact ⟨rfl, rfl⟩
theorem op_disj (v : Value) (W : World) (h : ∃ a n cap, v = .slice a n cap) : Calls Try.prog 153 #[v] W fun e W' => e = .returned v ∧ W' = W := by
  obtain ⟨a, n, cap, rfl⟩ := h
  go_enter Try.func153, Try.ntmps153
  go_wp2
  go_ret
  exact ⟨rfl, rfl⟩
theorem op_neg (v : Value) (W : World) (h : ∃ a n cap, v = .slice a n cap) : Calls Try.prog 154 #[v] W fun e W' => e = .returned v ∧ W' = W := by
  obtain ⟨a, n, cap, rfl⟩ := h
  go_enter Try.func154, Try.ntmps154
  go_wp2
  go_ret
  exact ⟨rfl, rfl⟩
theorem op_every (W : World) : Calls Try.prog 151 #[.agg #[]] W fun e W' => e = .returned (.slice none 0 0) ∧ Below W.heap.size W W' := by
  go_enter Try.func151, Try.ntmps151
  go_wp2
  go_ret
  exact ⟨rfl, below_alloc W _⟩
theorem op_unknown (W : World) : Calls Try.prog 155 #[.agg #[]] W fun e W' => e = .returned (.slice none 0 0) ∧ Below W.heap.size W W' := by
  go_enter Try.func155, Try.ntmps155
  go_wp2
  go_ret
  exact ⟨rfl, below_alloc W _⟩
theorem op_cmp (c o vt vn : Int) (vs : ByteArray) (W : World) : Calls Try.prog 150 #[.agg #[.int .i64 c, .int .i64 o, .int .i64 vt, .int .i64 vn, .string vs]] W fun e W' => e = .returned (.slice none 0 0) ∧ Below W.heap.size W W' := by
  go_enter Try.func150, Try.ntmps150
  go_wp2
  go_ret
  exact ⟨rfl, below_alloc W _⟩

/-- A call of operands through the interface. -/
theorem cond_op (t : T) (u : Value) (hu : ∃ a n cap, u = .slice a n cap) : ∃ (fo : Nat) (recv : Value), (∀ W, (callMethod (condV t u) "loop.example/g00496/impl.operands" #[]).run Try.prog W = .ok (.enter fo #[recv]) W) ∧
    ∀ W, Calls Try.prog fo #[recv] W fun e W' => e = .returned (opsV t u) ∧ Below W.heap.size W W' := by
  have e1 : ¬ (t.kind = 3 ∨ t.kind = 4 ∨ t.kind = 5) → opsV t u = .slice none 0 0 := fun h => if_neg h
  have e2 : (t.kind = 3 ∨ t.kind = 4 ∨ t.kind = 5) → opsV t u = u := fun h => if_pos h
  by_cases k1 : t.kind = 1
  · rw [condV_1 u k1, e1 (by omega)]
    exact ⟨_, _, fun W => by kernel_rfl, fun W => op_every W⟩
  by_cases k2 : t.kind = 2
  · rw [condV_2 u k2, e1 (by omega)]
    exact ⟨_, _, fun W => by kernel_rfl, fun W => op_cmp t.col t.op t.v.ty t.v.n t.v.s W⟩
  by_cases k3 : t.kind = 3
  · rw [condV_3 u k3, e2 (by omega)]
    exact ⟨_, _, fun W => by kernel_rfl, fun W => (op_conj u W hu).mono (fun _ _ h => ⟨h.1, h.2 ▸ Below.refl _ _⟩)⟩
  by_cases k4 : t.kind = 4
  · rw [condV_4 u k4, e2 (by omega)]
    exact ⟨_, _, fun W => by kernel_rfl, fun W => (op_disj u W hu).mono (fun _ _ h => ⟨h.1, h.2 ▸ Below.refl _ _⟩)⟩
  by_cases k5 : t.kind = 5
  · rw [condV_5 u k5, e2 (by omega)]
    exact ⟨_, _, fun W => by kernel_rfl, fun W => (op_neg u W hu).mono (fun _ _ h => ⟨h.1, h.2 ▸ Below.refl _ _⟩)⟩
  rw [condV_no u k1 k2 k3 k4 k5, e1 (by omega)]
  exact ⟨_, _, fun W => by kernel_rfl, fun W => op_unknown W⟩

end Go.Proofs.Ytafoldpmodipaaa

/- The contract of impl's enter. -/
namespace Go.Proofs.Ytafoldpmodipaaa
open Go.RowKit

theorem Fresh.below {w w' : World} {ks : List Addr} {q : Addr} (h : Fresh w ks q) (hb : Below w.heap.size w w') : Fresh w' ks q := ⟨h.1.below hb, fun k hk => ⟨(h.2 k hk).1, (h.2 k hk).2.below hb⟩⟩
theorem Fresh.put {w : World} {ks : List Addr} {q : Addr} {mb : Nat} {es : Array MapEntry} {c : Nat} (h : Fresh w ks q) (hm : w.heap[mb]? = some (.map es c)) (o : Obj) : Fresh (w.putObj mb o) ks q := by
  have key : ∀ b, Plain w b → Plain (w.putObj mb o) b := fun b hb => hb.of (World.putObj_heap_other (fun e => by
    obtain ⟨cu, ty, hb⟩ := hb
    rw [e, hm] at hb
    cases hb))
  exact ⟨key _ h.1, fun k hk => ⟨(h.2 k hk).1, key _ (h.2 k hk).2⟩⟩
theorem cell_put {w : World} {mb : Nat} {es : Array MapEntry} {c : Nat} (hm : w.heap[mb]? = some (.map es c)) (o : Obj) {p : Addr} {x : Value} (h : w.cell? p = some x) : (w.putObj mb o).cell? p = some x := by
  refine (World.cell?_of_block (w := w) (World.putObj_heap_other (fun e => ?_))).trans h
  unfold World.cell? at h
  rw [e, hm] at h
  cases h
theorem frozen_put {w : World} {mb : Nat} {es : Array MapEntry} {c : Nat} (hm : w.heap[mb]? = some (.map es c)) (o : Obj) {p : Addr} {x : Value} (h : w.cell? p = some x) : (w.putObj mb o).frozen? p = w.frozen? p := by
  refine World.frozen?_of_block (w := w) (World.putObj_heap_other (fun e => ?_))
  unfold World.cell? at h
  rw [e, hm] at h
  cases h

set_option maxHeartbeats 2000000 in
theorem enter (t : T) (u : Value) (b o mb : Nat) (es : Array MapEntry) (clock : Nat) (ks : List Addr) (w : World) (hl : LiesAt w b o t u) (hu : ∃ a n cap, u = .slice a n cap) (hm : w.heap[mb]? = some (.map es clock)) (hk : Keys es ks) (hf : Fresh w ks ⟨b, o, none⟩) :
    Calls Try.prog 123 #[.pointer (some ⟨b, o, none⟩), .map (some mb)] w fun e w' => e = .returned (.agg #[.pointer (some ⟨b, o, none⟩), condV t u, .int .i64 0]) ∧ w.grownBy w' (some mb) ∧
      ∃ es' c', w'.heap[mb]? = some (.map es' c') ∧ Keys es' (ks ++ [⟨b, o, none⟩]) := by
  have HC := Lib.hid (fun W => condOf t u W hu)
  obtain ⟨ty, cv, hcv⟩ : ∃ ty cv, condV t u = .iface ty cv := ⟨_, _, rfl⟩
  rw [hcv] at HC
  rw [hcv]
  obtain ⟨a, n, cap, rfl⟩ := hu
  have hmw : mb < w.heap.size := (Array.getElem?_eq_some_iff.1 hm).1
  have bA := below_alloc w (.cells #[.pointer none, .nilIface, .int .i64 0] 160)
  have R0 := blk_new w [.pointer none, .nilIface, .int .i64 0] 160
  have hmA : (w.alloc (.cells #[.pointer none, .nilIface, .int .i64 0] 160)).heap[mb]? = some (.map es clock) := (bA.block _ hmw).trans hm
  have hfA := hf.below bA
  have hlA := hl.below bA
  have hszA : (w.alloc (.cells #[.pointer none, .nilIface, .int .i64 0] 160)).heap.size = w.heap.size + 1 := World.size_alloc _ _
  have hlook := run_look_no hmA hk hfA
  have hput := run_put_new hmA hk hfA
  have hmB : ((w.alloc (.cells #[.pointer none, .nilIface, .int .i64 0] 160)).putObj mb (.map (es.push ⟨.pointer (some ⟨b, o, none⟩), .bool true, clock⟩) (clock + 1))).heap[mb]? = some (.map (es.push ⟨.pointer (some ⟨b, o, none⟩), .bool true, clock⟩) (clock + 1)) := World.putObj_heap_same (by omega)
  have hgB : w.grownBy ((w.alloc (.cells #[.pointer none, .nilIface, .int .i64 0] 160)).putObj mb (.map (es.push ⟨.pointer (some ⟨b, o, none⟩), .bool true, clock⟩) (clock + 1))) (some mb) := by
    have h2 := grownBy_putObj' (w.alloc (.cells #[.pointer none, .nilIface, .int .i64 0] 160)) mb (.map (es.push ⟨.pointer (some ⟨b, o, none⟩), .bool true, clock⟩) (clock + 1))
    exact ⟨h2.os.trans bA.os, h2.tape.trans bA.tape, h2.output.trans bA.output, Nat.le_trans bA.size h2.size, fun k hk hne => (h2.block k (by omega) hne).trans (bA.block k hk)⟩
  have hlB : LiesAt ((w.alloc (.cells #[.pointer none, .nilIface, .int .i64 0] 160)).putObj mb (.map (es.push ⟨.pointer (some ⟨b, o, none⟩), .bool true, clock⟩) (clock + 1))) b o t (.slice a n cap) := fun i x hx => cell_put hmA _ (hlA i x hx)
  have RB : Blk ((w.alloc (.cells #[.pointer none, .nilIface, .int .i64 0] 160)).putObj mb (.map (es.push ⟨.pointer (some ⟨b, o, none⟩), .bool true, clock⟩) (clock + 1))) w.heap.size [.pointer none, .nilIface, .int .i64 0] := fun i x hx => ⟨cell_put hmA _ (R0 i x hx).1, (frozen_put hmA _ (R0 i x hx).1).trans (R0 i x hx).2⟩
  have hszB : ((w.alloc (.cells #[.pointer none, .nilIface, .int .i64 0] 160)).putObj mb (.map (es.push ⟨.pointer (some ⟨b, o, none⟩), .bool true, clock⟩) (clock + 1))).heap.size = w.heap.size + 1 := by simp
  generalize hwB : (w.alloc (.cells #[.pointer none, .nilIface, .int .i64 0] 160)).putObj mb (.map (es.push ⟨.pointer (some ⟨b, o, none⟩), .bool true, clock⟩) (clock + 1)) = wB at hput hmB hgB hlB RB hszB
  have HSB := Lib.hid hszB
  have HMW := Lib.hid hmw
  have HGB := Lib.hid hgB
  have HRB := Lib.hid RB
  have HKP := Lib.hid (hk.push ⟨b, o, none⟩ clock)
  have HMB := Lib.hid hmB
  have q0 := hlB 0 _ rfl
  have q1 := hlB 1 _ rfl
  have q2 := hlB 2 _ rfl
  have q3 := hlB 3 _ rfl
  have q4 := hlB 4 _ rfl
  have q5 := hlB 5 _ rfl
  have q6 := hlB 6 _ rfl
  simp only [Nat.add_zero] at q0
  obtain ⟨k, c, p, ⟨vt, vn, vs⟩, l⟩ := t
  simp only [T.agg, T.kind, T.col, T.op, T.v] at HC q0 q1 q2 q3 q4 q5
  clear hl hlA hlB hf hfA hm hmA hwB R0 hk hcv hmB hszA hszB hmw hgB RB bA
  go_enter Try.func123, Try.ntmps123
  go_wp2_with fail
  refine (HC.out _).mono ?_
  rintro e w3 ⟨rfl, b3⟩
  have hszB := HSB.out
  have hmw := HMW.out
  have hgB := HGB.out
  have R3 := HRB.out.below b3
  have HM3 : Hid (w3.heap[mb]? = some (.map (es.push ⟨.pointer (some ⟨b, o, none⟩), .bool true, clock⟩) (clock + 1))) := (b3.block _ (by omega)).trans HMB.out
  have hg3 : w.grownBy w3 (some mb) := ⟨b3.os.trans hgB.os, b3.tape.trans hgB.tape, b3.output.trans hgB.output, Nat.le_trans hgB.size b3.size, fun k hk hne => (b3.block k (by omega)).trans (hgB.block k hk hne)⟩
  obtain ⟨c0, f0⟩ := R3 0 _ rfl
  obtain ⟨c1, f1⟩ := R3 1 _ rfl
  obtain ⟨c2, f2⟩ := R3 2 _ rfl
  clear HRB R3 hgB b3 hszB hmw HSB HGB q0 q1 q2 q3 q4 q5 q6 hlook hput HMB
  go_wp2
  refine bodyPost_ret (v := .agg #[.pointer (some ⟨b, o, none⟩), .iface ty cv, .int .i64 0]) (by simp [results, Try.results123, go_sem, *]) rfl ⟨rfl, ?_, _, clock + 1, ?_, HKP.out⟩
  · exact ⟨hg3.os, hg3.tape, hg3.output, by simpa using hg3.size, fun q hq hne => by
      rw [Below.heap_setCell _ _ _ _ (by simp; omega), Below.heap_setCell _ _ _ _ (by simp; omega), Below.heap_setCell _ _ _ _ (by simp; omega)]
      exact hg3.block q hq hne⟩
  · have hne := HMW.out
    rw [Below.heap_setCell _ _ _ _ (by simp; omega), Below.heap_setCell _ _ _ _ (by simp; omega), Below.heap_setCell _ _ _ _ (by simp; omega)]
    exact HM3.out

end Go.Proofs.Ytafoldpmodipaaa

/- Cells of a path of visits; a least number. -/
namespace Go.Proofs.Ytafoldpmodipaaa
open Go.RowKit

theorem has_least {R : Nat → Prop} (h : ∃ m, R m) : ∃ m, R m ∧ ∀ k, R k → m ≤ k := by
  obtain ⟨m, hm⟩ := h
  induction m using Nat.strongRecOn with
  | _ m ih =>
    by_cases h : ∃ k, k < m ∧ R k
    · obtain ⟨k, hk, hr⟩ := h
      exact ih k hk hr
    · refine ⟨m, hm, fun k hk => ?_⟩
      by_cases hkm : k < m
      · exact (h ⟨k, hkm, hk⟩).elim
      · omega
open Classical in
/-- The least number of which R holds. -/
noncomputable def least (R : Nat → Prop) : Nat := if h : ∃ m, R m then Classical.choose (has_least h) else 0
theorem least_spec {R : Nat → Prop} (h : ∃ m, R m) : R (least R) := by
  unfold least
  rw [dif_pos h]
  exact (Classical.choose_spec (has_least h)).1
theorem least_le {R : Nat → Prop} {m : Nat} (h : R m) : least R ≤ m := by
  unfold least
  rw [dif_pos ⟨m, h⟩]
  exact (Classical.choose_spec (has_least ⟨m, h⟩)).2 m h

/-- The cells of a path. -/
def Fr.cs (f : Fr) : List Value := [.pointer (some ⟨f.b, f.o, none⟩), condV f.t f.u, .int .i64 f.d]
def fcs (fs : List Fr) : List Value := fs.flatMap Fr.cs
theorem fcs_len (fs : List Fr) : (fcs fs).length = fs.length * 3 := flat_len Fr.cs 3 (fun _ => rfl) fs
theorem fcs_snoc (fs : List Fr) (f : Fr) : fcs (fs ++ [f]) = fcs fs ++ f.cs := by simp [fcs]
theorem fcs_top (fs : List Fr) (f : Fr) (j : Nat) : (fcs (fs ++ [f]))[fs.length * 3 + j]? = f.cs[j]? := by
  rw [fcs_snoc, List.getElem?_append_right (by rw [fcs_len]; omega), fcs_len]
  congr 1
  omega
theorem fcs_set (fs : List Fr) (f : Fr) (d : Nat) : (fcs (fs ++ [f])).set (fs.length * 3 + 2) (.int .i64 (d : Int)) = fcs (fs ++ [{ f with d := d }]) := by
  rw [fcs_snoc, fcs_snoc, List.set_append_right _ _ (by rw [fcs_len]; omega), fcs_len, show fs.length * 3 + 2 - fs.length * 3 = 2 by omega]
  rfl
theorem fcs_take (fs : List Fr) (f : Fr) : (fcs (fs ++ [f])).take (fs.length * 3) = fcs fs := by
  rw [fcs_snoc, List.take_append_of_le_length (by rw [fcs_len]; omega), List.take_of_length_le (by rw [fcs_len]; omega)]
theorem Fr.one (f : Fr) : ∀ x ∈ f.cs, x.oneCell' = true := by
  intro x hx
  simp only [Fr.cs, List.mem_cons, List.not_mem_nil, or_false] at hx
  rcases hx with rfl | rfl | rfl <;> rfl
/-- Where the predicates of a path lie. -/
def addrs (fs : List Fr) : List Addr := fs.map fun f => ⟨f.b, f.o, none⟩
theorem addrs_snoc (fs : List Fr) (f : Fr) : addrs (fs ++ [f]) = addrs fs ++ [⟨f.b, f.o, none⟩] := by simp [addrs]

theorem falls_len : ∀ (l : List Nat) (N : Nat), l.Pairwise (fun a b => b < a) → (∀ a ∈ l, a ≤ N) → l.length ≤ N + 1
  | [], _, _, _ => by simp
  | [a], _, _, _ => by simp
  | a :: b :: l, N, h, hN => by
    obtain ⟨h1, h2⟩ := List.pairwise_cons.1 h
    have hb := h1 b List.mem_cons_self
    have ha := hN a List.mem_cons_self
    have := falls_len (b :: l) (a - 1) h2 (fun x hx => by have := h1 x hx; omega)
    simp only [List.length_cons] at this ⊢
    omega
theorem Path.len {Q R : Nat → Prop} {w : World} {fs : List Fr} {N : Nat} (h : Path Q R w fs) (hN : ∀ f ∈ fs, f.t.bulk ≤ N) : fs.length ≤ N + 1 := by
  have := falls_len (fs.map fun f => f.t.bulk) N (List.pairwise_map.2 h.falls) (fun a ha => by
    obtain ⟨f, hf, rfl⟩ := List.mem_map.1 ha
    exact hN f hf)
  simpa using this
theorem Path.push {Q R : Nat → Prop} {w : World} {fs : List Fr} {f g : Fr} (h : Path Q R w (fs ++ [f])) (hl : LiesAt w g.b g.o g.t g.u ∧ RdT Q w g.t g.u ∧ (Plain w g.b ∧ R g.b) ∧ g.d ≤ g.t.ops.length) (hb : ∀ x ∈ fs ++ [f], g.t.bulk < x.t.bulk) {d : Nat} (hd : d ≤ f.t.ops.length) :
    Path Q R w ((fs ++ [{ f with d := d }]) ++ [g]) := by
  obtain ⟨h1, h2⟩ := h
  have hp := List.pairwise_append.1 h2
  have hf := h1 f (List.mem_append_right _ List.mem_cons_self)
  refine ⟨fun x hx => ?_, ?_⟩
  · rcases List.mem_append.1 hx with hx | hx
    · rcases List.mem_append.1 hx with hx | hx
      · exact h1 x (List.mem_append_left _ hx)
      · rw [List.mem_singleton.1 hx]
        exact ⟨hf.1, hf.2.1, hf.2.2.1, hd⟩
    · rw [List.mem_singleton.1 hx]
      exact hl
  · rw [List.pairwise_append]
    refine ⟨?_, List.pairwise_singleton _ _, ?_⟩
    · rw [List.pairwise_append]
      exact ⟨hp.1, List.pairwise_singleton _ _, fun a ha b hb => by rw [List.mem_singleton.1 hb]; exact hp.2.2 a ha f List.mem_cons_self⟩
    · intro a ha b hb'
      rw [List.mem_singleton.1 hb']
      rcases List.mem_append.1 ha with ha | ha
      · exact hb a (List.mem_append_left _ ha)
      · rw [List.mem_singleton.1 ha]
        exact hb f (List.mem_append_right _ List.mem_cons_self)

/-- A shorter slice of one's own. -/
theorem Own.shorter {e : TypeId} {size lo hi : Nat} {w : World} {g n cap m : Nat} {xs : List Value} (h : Own e size lo hi w (.slice (some ⟨g, 0, none⟩) n cap) n xs) (hm : m ≤ n) : Own e size lo hi w (.slice (some ⟨g, 0, none⟩) m cap) m (xs.take (m * size)) := by
  have h3 := row_shorter h.row hm
  obtain ⟨g', cap', e', h1, h2, _⟩ := h
  cases e'
  exact ⟨g, cap, rfl, h1, h2, h3⟩
theorem Own.keep {e : TypeId} {size lo hi hi' : Nat} {w w' : World} {g n cap : Nat} {xs : List Value} (h : Own e size lo hi w (.slice (some ⟨g, 0, none⟩) n cap) n xs) (hs : w'.heap[g]? = w.heap[g]?) (hh : hi ≤ hi') : Own e size lo hi' w' (.slice (some ⟨g, 0, none⟩) n cap) n xs := by
  obtain ⟨g', cap', e', h1, h2, h3, h4⟩ := h
  cases e'
  refine ⟨g, cap, rfl, h1, by omega, h3, ?_⟩
  rcases h4 with ⟨h', _⟩ | ⟨g', cap', cur, h', hbg, hg, r⟩
  · simp at h'
  · cases h'
    exact Or.inr ⟨g, cap, cur, rfl, hbg, by rw [hs]; exact hg, r⟩
theorem Own.cells' {e : TypeId} {size lo hi : Nat} {w : World} {g n cap : Nat} {xs : List Value} (h : Own e size lo hi w (.slice (some ⟨g, 0, none⟩) n cap) n xs) {j : Nat} {x : Value} (hx : xs[j]? = some x) : w.cell? ⟨g, j, none⟩ = some x ∧ w.frozen? ⟨g, j, none⟩ = false := by
  obtain ⟨b, off, cp, e', _, _, _, hc⟩ := h.at
  cases e'
  have := hc j x hx
  rw [Nat.zero_add] at this
  refine ⟨this, ?_⟩
  obtain ⟨g', cap', e', _, _, _, h4⟩ := h
  cases e'
  rcases h4 with ⟨h', _⟩ | ⟨g', cap', cur, h', _, hg, _⟩
  · simp at h'
  · cases h'
    simp [World.frozen?, hg]
theorem Own.set' {e : TypeId} {size lo hi : Nat} {w : World} {g n cap : Nat} {xs : List Value} (h : Own e size lo hi w (.slice (some ⟨g, 0, none⟩) n cap) n xs) (j : Nat) (x : Value) : Own e size lo hi (w.setCell ⟨g, j, none⟩ x) (.slice (some ⟨g, 0, none⟩) n cap) n (xs.set j x) := by
  have h3 := (h.row.stored j x).1
  obtain ⟨g', cap', e', h1, h2, _⟩ := h
  cases e'
  exact ⟨g, cap, rfl, h1, h2, h3⟩

end Go.Proofs.Ytafoldpmodipaaa

/- The contracts of impl's comparesNothing, fits (written by mk_I11f.py). -/
namespace Go.Proofs.Ytafoldpmodipaaa
open Go.RowKit

set_option maxRecDepth 100000 in
set_option maxHeartbeats 4000000 in
theorem iBare (t : T) (ua : Option Addr) (un ucap : Nat) (w : World) : Calls Try.prog 120 #[t.agg (.slice ua un ucap)] w fun e w' => e = .returned (.bool t.bare) ∧ Below w.heap.size w w' := by
  have B0 := below_alloc w (.cells #[.int .i64 t.kind, .int .i64 t.col, .int .i64 t.op, .int .i64 t.v.ty, .int .i64 t.v.n, .string t.v.s, .slice ua un ucap] 46)
  have hq := run_eql_val t.v V.zero
  have hz : V.zero.agg = .agg #[.int .i64 0, .int .i64 0, .string ⟨#[]⟩] := rfl
  rw [hz] at hq
  unfold T.bare
  generalize t.v.eqB V.zero = r at hq ⊢
  obtain ⟨k, c, o, ⟨vt, vn, vs⟩, l⟩ := t
  simp only [T.agg, T.kind, T.col, T.op, T.v] at B0 hq ⊢
  clear hz
  by_cases hc : c = 0
  · subst hc
    by_cases ho : o = 0
    · subst ho
      show Calls _ _ _ _ fun e w' => e = .returned (.bool r) ∧ _
      go_enter Try.func120, Try.ntmps120
      go_wp2
      go_ret
      exact ⟨rfl, B0⟩
    · have h2 : ((0 : Int) == 0 && (o == 0 && r)) = false := by simp [ho]
      rw [h2]
      go_enter Try.func120, Try.ntmps120
      go_wp2
      go_ret
      exact ⟨rfl, B0⟩
  · have h2 : (c == 0 && (o == 0 && r)) = false := by simp [hc]
    rw [h2]
    go_enter Try.func120, Try.ntmps120
    go_wp2
    go_ret
    exact ⟨rfl, B0⟩

set_option maxRecDepth 100000 in
set_option maxHeartbeats 8000000 in
theorem iFitsC (cols : List Int) (n cap : Nat) (a : Option Addr) (c o vt vn : Int) (vs : ByteArray) (w : World) (hl : cols.length = n) (hss : vs.size ≤ maxLen) (hv : Rd 1 w (.slice a n cap) n (ints .i64 cols)) :
    Calls Try.prog 121 #[.agg #[.int .i64 c, .int .i64 o, .int .i64 vt, .int .i64 vn, .string vs], .slice a n cap] w fun e w' =>
      e = .returned (.bool ((Num.inB c 0 ((n : Int) - 1) && Num.inB o 1 6) && (vt == cols.getD c.toNat 0 && okV ⟨vt, vn, vs⟩))) ∧ Below w.heap.size w w' := by
  obtain ⟨_, _, e1, _, HV⟩ := hv.ints hl
  cases e1
  have B0 := below_alloc w (.cells #[.int .i64 c, .int .i64 o, .int .i64 vt, .int .i64 vn, .string vs] 107)
  have C0 := blk_new w [.int .i64 c, .int .i64 o, .int .i64 vt, .int .i64 vn, .string vs] 107
  have HVO := Lib.hid (fun W => iValOk ⟨vt, vn, vs⟩ W hss)
  by_cases hc0 : c < 0
  · have hi : Num.inB c 0 ((n : Int) - 1) = false := by
      rw [← Bool.not_eq_true, Num.inB_true]
      omega
    rw [hi, Bool.false_and, Bool.false_and]
    clear hi
    go_enter Try.func121, Try.ntmps121
    go_wp2
    go_ret
    exact ⟨rfl, B0⟩
  by_cases hc1 : (n : Int) ≤ c
  · have hi : Num.inB c 0 ((n : Int) - 1) = false := by
      rw [← Bool.not_eq_true, Num.inB_true]
      omega
    rw [hi, Bool.false_and, Bool.false_and]
    clear hi
    go_enter Try.func121, Try.ntmps121
    go_wp2
    go_ret
    exact ⟨rfl, B0⟩
  have hi : Num.inB c 0 ((n : Int) - 1) = true := by
    rw [Num.inB_true]
    omega
  rw [hi, Bool.true_and]
  by_cases ho0 : o < 1
  · have hj : Num.inB o 1 6 = false := by
      rw [← Bool.not_eq_true, Num.inB_true]
      omega
    rw [hj, Bool.false_and]
    clear hi hj
    go_enter Try.func121, Try.ntmps121
    go_wp2
    go_ret
    exact ⟨rfl, B0⟩
  by_cases ho1 : 6 < o
  · have hj : Num.inB o 1 6 = false := by
      rw [← Bool.not_eq_true, Num.inB_true]
      omega
    rw [hj, Bool.false_and]
    clear hi hj
    go_enter Try.func121, Try.ntmps121
    go_wp2
    go_ret
    exact ⟨rfl, B0⟩
  have hj : Num.inB o 1 6 = true := by
    rw [Num.inB_true]
    omega
  rw [hj, Bool.true_and]
  obtain ⟨q, rfl⟩ : ∃ q : Nat, c = (q : Int) := ⟨c.toNat, by omega⟩
  have hq : q < n := by omega
  have hqi : (q : Int) < (n : Int) := by omega
  obtain ⟨cb, co, rfl, p0⟩ := HV.out q hq
  rw [Int.toNat_natCast]
  generalize cols.getD q 0 = z at p0 ⊢
  replace p0 := (B0.cell (p := ⟨cb, co + q, none⟩) (lt_of_cell p0)).trans p0
  generalize hw0 : w.alloc (.cells #[.int .i64 (q : Int), .int .i64 o, .int .i64 vt, .int .i64 vn, .string vs] 107) = w0 at B0 C0 p0
  have HW0 := Lib.hid hw0
  have HS : Hid (∀ X, Below w0.heap.size w0 X → X.cell? ⟨w.heap.size, 0, none⟩ = some (.int .i64 (q : Int)) ∧ X.cell? ⟨w.heap.size, 1, none⟩ = some (.int .i64 o) ∧ X.cell? ⟨w.heap.size, 2, none⟩ = some (.int .i64 vt) ∧ X.cell? ⟨w.heap.size, 3, none⟩ = some (.int .i64 vn) ∧ X.cell? ⟨w.heap.size, 4, none⟩ = some (.string vs) ∧ X.cell? ⟨cb, co + q, none⟩ = some (.int .i64 z)) := fun X h => ⟨((C0.below h) 0 _ rfl).1, ((C0.below h) 1 _ rfl).1, ((C0.below h) 2 _ rfl).1, ((C0.below h) 3 _ rfl).1, ((C0.below h) 4 _ rfl).1, (h.cell (p := ⟨cb, co + q, none⟩) (lt_of_cell p0)).trans p0⟩
  have hB' := (Below.refl w0.heap.size w0).drew
  clear hw0 hi hj HV hv p0 C0
  by_cases hz : vt = z
  · have hzb : (vt == z) = true := by simpa using hz
    rw [hzb, Bool.true_and]
    clear hz
    generalize okV ⟨vt, vn, vs⟩ = res at HVO ⊢
    go_enter Try.func121, Try.ntmps121
    go_wp2_with fail
    rw [HW0.out]
    refine wp_region_held_drew (S := fun X => X.cell? ⟨w.heap.size, 0, none⟩ = some (.int .i64 (q : Int)) ∧ X.cell? ⟨w.heap.size, 1, none⟩ = some (.int .i64 o) ∧ X.cell? ⟨w.heap.size, 2, none⟩ = some (.int .i64 vt) ∧ X.cell? ⟨w.heap.size, 3, none⟩ = some (.int .i64 vn) ∧ X.cell? ⟨w.heap.size, 4, none⟩ = some (.string vs) ∧ X.cell? ⟨cb, co + q, none⟩ = some (.int .i64 z)) (by kernel_rfl) (HS.out _ hB') (fun hHeld => ?_)
    refine takeH (i := 0) (d := some 25) (v := .pointer (some ⟨w.heap.size, 2, none⟩)) rfl rfl (by kernel_rfl) (by kernel_rfl) (by kernel_rfl) (fun _ _ _ h => h) (Or.inl ⟨by rfl, fun W hSw => by obtain ⟨d0, d1, d2, d3, d4, d5⟩ := hSw; go_simp⟩) hHeld ?_
    simp only [put_some, List.set_cons_zero, List.set_cons_succ]
    refine takeH (i := 1) (d := some 26) (v := .pointer (some ⟨w.heap.size, 2, none⟩)) rfl rfl (by kernel_rfl) (by kernel_rfl) (by kernel_rfl) (fun _ _ _ h => h) (Or.inl ⟨by rfl, fun W hSw => by obtain ⟨d0, d1, d2, d3, d4, d5⟩ := hSw; go_simp⟩) hHeld ?_
    simp only [put_some, List.set_cons_zero, List.set_cons_succ]
    refine takeH (i := 2) (d := some 27) (v := .int .i64 vt) rfl rfl (by kernel_rfl) (by kernel_rfl) (by kernel_rfl) (fun _ _ _ h => h) (Or.inl ⟨by rfl, fun W hSw => by obtain ⟨d0, d1, d2, d3, d4, d5⟩ := hSw; go_simp⟩) hHeld ?_
    simp only [put_some, List.set_cons_zero, List.set_cons_succ]
    refine takeH (i := 3) (d := some 28) (v := .slice (some ⟨cb, co, none⟩) n cap) rfl rfl (by kernel_rfl) (by kernel_rfl) (by kernel_rfl) (fun _ _ _ h => h) (Or.inl ⟨by rfl, fun W hSw => by obtain ⟨d0, d1, d2, d3, d4, d5⟩ := hSw; go_simp⟩) hHeld ?_
    simp only [put_some, List.set_cons_zero, List.set_cons_succ]
    refine takeH (i := 4) (d := some 29) (v := .pointer (some ⟨w.heap.size, 0, none⟩)) rfl rfl (by kernel_rfl) (by kernel_rfl) (by kernel_rfl) (fun _ _ _ h => h) (Or.inl ⟨by rfl, fun W hSw => by obtain ⟨d0, d1, d2, d3, d4, d5⟩ := hSw; go_simp⟩) hHeld ?_
    simp only [put_some, List.set_cons_zero, List.set_cons_succ]
    refine takeH (i := 5) (d := some 30) (v := .int .i64 (q : Int)) rfl rfl (by kernel_rfl) (by kernel_rfl) (by kernel_rfl) (fun _ _ _ h => h) (Or.inl ⟨by rfl, fun W hSw => by obtain ⟨d0, d1, d2, d3, d4, d5⟩ := hSw; go_simp⟩) hHeld ?_
    simp only [put_some, List.set_cons_zero, List.set_cons_succ]
    refine takeH (i := 6) (d := some 31) (v := .pointer (some ⟨cb, co + q, none⟩)) rfl rfl (by kernel_rfl) (by kernel_rfl) (by kernel_rfl) (fun _ _ _ h => h) (Or.inl ⟨by rfl, fun W hSw => by obtain ⟨d0, d1, d2, d3, d4, d5⟩ := hSw; go_simp⟩) hHeld ?_
    simp only [put_some, List.set_cons_zero, List.set_cons_succ]
    refine takeH (i := 7) (d := some 32) (v := .int .i64 z) rfl rfl (by kernel_rfl) (by kernel_rfl) (by kernel_rfl) (fun _ _ _ h => h) (Or.inl ⟨by rfl, fun W hSw => by obtain ⟨d0, d1, d2, d3, d4, d5⟩ := hSw; go_simp⟩) hHeld ?_
    simp only [put_some, List.set_cons_zero, List.set_cons_succ]
    refine takeH (i := 8) (d := some 33) (v := .bool true) rfl rfl (by kernel_rfl) (by kernel_rfl) (by kernel_rfl) (fun _ _ _ h => h) (Or.inl ⟨by rfl, fun W hSw => by obtain ⟨d0, d1, d2, d3, d4, d5⟩ := hSw; go_simp⟩) hHeld ?_
    simp only [put_some, List.set_cons_zero, List.set_cons_succ]
    refine takeH (i := 9) (d := some 34) (v := .bool true) rfl rfl (by kernel_rfl) (by kernel_rfl) (by kernel_rfl) (fun _ _ _ h => h) (Or.inl ⟨by rfl, fun W hSw => by obtain ⟨d0, d1, d2, d3, d4, d5⟩ := hSw; go_simp⟩) hHeld ?_
    simp only [put_some, List.set_cons_zero, List.set_cons_succ]
    refine takeH (i := 10) (d := some 35) (v := .pointer (some ⟨w.heap.size, 2, none⟩)) rfl rfl (by kernel_rfl) (by kernel_rfl) (by kernel_rfl) (fun _ _ _ h => h) (Or.inl ⟨by rfl, fun W hSw => by obtain ⟨d0, d1, d2, d3, d4, d5⟩ := hSw; go_simp⟩) hHeld ?_
    simp only [put_some, List.set_cons_zero, List.set_cons_succ]
    refine takeH (i := 11) (d := some 36) (v := .agg #[.int .i64 vt, .int .i64 vn, .string vs]) rfl rfl (by kernel_rfl) (by kernel_rfl) (by kernel_rfl) (fun _ _ _ h => h) (Or.inl ⟨by rfl, fun W hSw => by obtain ⟨d0, d1, d2, d3, d4, d5⟩ := hSw; go_simp⟩) hHeld ?_
    simp only [put_some, List.set_cons_zero, List.set_cons_succ]
    refine wpAnyH_ready (rs := [12]) (by kernel_rfl) (by simp) ?_
    refine AllReadyH.cons rfl (fun K hK => ?_) AllReadyH.nil
    go_simp
    go_at_call 126
    refine (HVO.out _).mono ?_
    rintro e w2 ⟨rfl, hb2⟩
    replace hB' := below_then hB' hb2 hB'.size
    clear hb2
    go_wp2_with fail
    refine hK.out _ _ (HS.out _ hB') (fun hHeld => ?_)
    clear hK K
    refine takeH (i := 13) (d := some 38) (v := .bool res) rfl rfl (by kernel_rfl) (by kernel_rfl) (by kernel_rfl) (fun _ _ _ h => h) (Or.inl ⟨by rfl, fun W hSw => by obtain ⟨d0, d1, d2, d3, d4, d5⟩ := hSw; go_simp⟩) hHeld ?_
    simp only [put_some, List.set_cons_zero, List.set_cons_succ]
    refine takeH (i := 14) (d := some 4) (v := .bool res) rfl rfl (by kernel_rfl) (by kernel_rfl) (by kernel_rfl) (fun _ _ _ h => h) (Or.inl ⟨by rfl, fun W hSw => by obtain ⟨d0, d1, d2, d3, d4, d5⟩ := hSw; go_simp⟩) hHeld ?_
    simp only [put_some, List.set_cons_zero, List.set_cons_succ]
    refine wpAnyH_done (by kernel_rfl) ?_ _
    go_wp2
    go_ret
    exact ⟨rfl, B0.trans (hB'.mono B0.size)⟩
  · have hzb : (vt == z) = false := by simpa using hz
    rw [hzb, Bool.false_and]
    go_enter Try.func121, Try.ntmps121
    go_wp2_with fail
    rw [HW0.out]
    refine wp_region_held_drew (S := fun X => X.cell? ⟨w.heap.size, 0, none⟩ = some (.int .i64 (q : Int)) ∧ X.cell? ⟨w.heap.size, 1, none⟩ = some (.int .i64 o) ∧ X.cell? ⟨w.heap.size, 2, none⟩ = some (.int .i64 vt) ∧ X.cell? ⟨w.heap.size, 3, none⟩ = some (.int .i64 vn) ∧ X.cell? ⟨w.heap.size, 4, none⟩ = some (.string vs) ∧ X.cell? ⟨cb, co + q, none⟩ = some (.int .i64 z)) (by kernel_rfl) (HS.out _ hB') (fun hHeld => ?_)
    refine takeH (i := 0) (d := some 25) (v := .pointer (some ⟨w.heap.size, 2, none⟩)) rfl rfl (by kernel_rfl) (by kernel_rfl) (by kernel_rfl) (fun _ _ _ h => h) (Or.inl ⟨by rfl, fun W hSw => by obtain ⟨d0, d1, d2, d3, d4, d5⟩ := hSw; go_simp⟩) hHeld ?_
    simp only [put_some, List.set_cons_zero, List.set_cons_succ]
    refine takeH (i := 1) (d := some 26) (v := .pointer (some ⟨w.heap.size, 2, none⟩)) rfl rfl (by kernel_rfl) (by kernel_rfl) (by kernel_rfl) (fun _ _ _ h => h) (Or.inl ⟨by rfl, fun W hSw => by obtain ⟨d0, d1, d2, d3, d4, d5⟩ := hSw; go_simp⟩) hHeld ?_
    simp only [put_some, List.set_cons_zero, List.set_cons_succ]
    refine takeH (i := 2) (d := some 27) (v := .int .i64 vt) rfl rfl (by kernel_rfl) (by kernel_rfl) (by kernel_rfl) (fun _ _ _ h => h) (Or.inl ⟨by rfl, fun W hSw => by obtain ⟨d0, d1, d2, d3, d4, d5⟩ := hSw; go_simp⟩) hHeld ?_
    simp only [put_some, List.set_cons_zero, List.set_cons_succ]
    refine takeH (i := 3) (d := some 28) (v := .slice (some ⟨cb, co, none⟩) n cap) rfl rfl (by kernel_rfl) (by kernel_rfl) (by kernel_rfl) (fun _ _ _ h => h) (Or.inl ⟨by rfl, fun W hSw => by obtain ⟨d0, d1, d2, d3, d4, d5⟩ := hSw; go_simp⟩) hHeld ?_
    simp only [put_some, List.set_cons_zero, List.set_cons_succ]
    refine takeH (i := 4) (d := some 29) (v := .pointer (some ⟨w.heap.size, 0, none⟩)) rfl rfl (by kernel_rfl) (by kernel_rfl) (by kernel_rfl) (fun _ _ _ h => h) (Or.inl ⟨by rfl, fun W hSw => by obtain ⟨d0, d1, d2, d3, d4, d5⟩ := hSw; go_simp⟩) hHeld ?_
    simp only [put_some, List.set_cons_zero, List.set_cons_succ]
    refine takeH (i := 5) (d := some 30) (v := .int .i64 (q : Int)) rfl rfl (by kernel_rfl) (by kernel_rfl) (by kernel_rfl) (fun _ _ _ h => h) (Or.inl ⟨by rfl, fun W hSw => by obtain ⟨d0, d1, d2, d3, d4, d5⟩ := hSw; go_simp⟩) hHeld ?_
    simp only [put_some, List.set_cons_zero, List.set_cons_succ]
    refine takeH (i := 6) (d := some 31) (v := .pointer (some ⟨cb, co + q, none⟩)) rfl rfl (by kernel_rfl) (by kernel_rfl) (by kernel_rfl) (fun _ _ _ h => h) (Or.inl ⟨by rfl, fun W hSw => by obtain ⟨d0, d1, d2, d3, d4, d5⟩ := hSw; go_simp⟩) hHeld ?_
    simp only [put_some, List.set_cons_zero, List.set_cons_succ]
    refine takeH (i := 7) (d := some 32) (v := .int .i64 z) rfl rfl (by kernel_rfl) (by kernel_rfl) (by kernel_rfl) (fun _ _ _ h => h) (Or.inl ⟨by rfl, fun W hSw => by obtain ⟨d0, d1, d2, d3, d4, d5⟩ := hSw; go_simp⟩) hHeld ?_
    simp only [put_some, List.set_cons_zero, List.set_cons_succ]
    refine takeH (i := 8) (d := some 33) (v := .bool false) rfl rfl (by kernel_rfl) (by kernel_rfl) (by kernel_rfl) (fun _ _ _ h => h) (Or.inl ⟨by rfl, fun W hSw => by obtain ⟨d0, d1, d2, d3, d4, d5⟩ := hSw; go_simp⟩) hHeld ?_
    simp only [put_some, List.set_cons_zero, List.set_cons_succ]
    refine takeH (i := 9) (d := some 34) (v := .bool false) rfl rfl (by kernel_rfl) (by kernel_rfl) (by kernel_rfl) (fun _ _ _ h => h) (Or.inl ⟨by rfl, fun W hSw => by obtain ⟨d0, d1, d2, d3, d4, d5⟩ := hSw; go_simp⟩) hHeld ?_
    simp only [put_some, List.set_cons_zero, List.set_cons_succ]
    refine takeH (i := 10) (d := some 35) (v := undef) rfl rfl (by kernel_rfl) (by kernel_rfl) (by kernel_rfl) (fun _ _ _ h => h) (Or.inr ⟨by rfl, rfl⟩) hHeld ?_
    simp only [put_some, List.set_cons_zero, List.set_cons_succ]
    refine takeH (i := 11) (d := some 36) (v := undef) rfl rfl (by kernel_rfl) (by kernel_rfl) (by kernel_rfl) (fun _ _ _ h => h) (Or.inr ⟨by rfl, rfl⟩) hHeld ?_
    simp only [put_some, List.set_cons_zero, List.set_cons_succ]
    refine takeH (i := 12) (d := some 37) (v := undef) rfl rfl (by kernel_rfl) (by kernel_rfl) (by kernel_rfl) (fun _ _ _ h => h) (Or.inr ⟨by rfl, rfl⟩) hHeld ?_
    simp only [put_some, List.set_cons_zero, List.set_cons_succ]
    refine takeH (i := 13) (d := some 38) (v := .bool false) rfl rfl (by kernel_rfl) (by kernel_rfl) (by kernel_rfl) (fun _ _ _ h => h) (Or.inl ⟨by rfl, fun W hSw => by obtain ⟨d0, d1, d2, d3, d4, d5⟩ := hSw; go_simp⟩) hHeld ?_
    simp only [put_some, List.set_cons_zero, List.set_cons_succ]
    refine takeH (i := 14) (d := some 4) (v := .bool false) rfl rfl (by kernel_rfl) (by kernel_rfl) (by kernel_rfl) (fun _ _ _ h => h) (Or.inl ⟨by rfl, fun W hSw => by obtain ⟨d0, d1, d2, d3, d4, d5⟩ := hSw; go_simp⟩) hHeld ?_
    simp only [put_some, List.set_cons_zero, List.set_cons_succ]
    refine wpAnyH_done (by kernel_rfl) ?_ _
    go_wp2
    go_ret
    exact ⟨rfl, B0.trans (hB'.mono B0.size)⟩

end Go.Proofs.Ytafoldpmodipaaa

/- The contract of impl's formOk (written by mk_I11g.py). -/
namespace Go.Proofs.Ytafoldpmodipaaa
open Go.RowKit

theorem own_1 (cols : List Int) {t : T} (h : t.kind = 1) : t.own cols = (t.bare && (t.l.length == 0)) := by
  unfold T.own
  rw [if_pos h]
theorem own_2 (cols : List Int) {t : T} (h : t.kind = 2) : t.own cols = (((Num.inB t.col 0 ((cols.length : Int) - 1) && Num.inB t.op 1 6) && (t.v.ty == cols.getD t.col.toNat 0 && okV t.v)) && (t.l.length == 0)) := by
  unfold T.own
  rw [if_neg (by omega), if_pos h]
  cases Num.inB t.col 0 ((cols.length : Int) - 1) <;> cases okV t.v <;> cases (t.v.ty == cols.getD t.col.toNat 0) <;> cases Num.inB t.op 1 6 <;> rfl
theorem own_3 (cols : List Int) {t : T} (h : t.kind = 3) : t.own cols = (t.bare && Num.inB t.l.length 1 4) := by
  unfold T.own
  rw [if_neg (by omega), if_neg (by omega), if_pos (.inl h)]
theorem own_4 (cols : List Int) {t : T} (h : t.kind = 4) : t.own cols = (t.bare && Num.inB t.l.length 1 4) := by
  unfold T.own
  rw [if_neg (by omega), if_neg (by omega), if_pos (.inr h)]
theorem own_5 (cols : List Int) {t : T} (h : t.kind = 5) : t.own cols = (t.bare && (t.l.length == 1)) := by
  unfold T.own
  rw [if_neg (by omega), if_neg (by omega), if_neg (by omega), show (t.kind == 5) = true by simpa using h, Bool.true_and]
theorem own_no (cols : List Int) {t : T} (h1 : ¬ t.kind = 1) (h2 : ¬ t.kind = 2) (h3 : ¬ t.kind = 3) (h4 : ¬ t.kind = 4) (h5 : ¬ t.kind = 5) : t.own cols = false := by
  unfold T.own
  rw [if_neg h1, if_neg h2, if_neg (by omega), show (t.kind == 5) = false by simpa using h5, Bool.false_and]

set_option maxRecDepth 100000 in
set_option maxHeartbeats 8000000 in
theorem iFormOk (cols : List Int) (m cap n ucap : Nat) (a ua : Option Addr) (t : T) (w : World) (hm : cols.length = m) (hn : t.l.length = n) (hss : t.v.s.size ≤ maxLen) (hv : Rd 1 w (.slice a m cap) m (ints .i64 cols)) :
    Calls Try.prog 98 #[.slice a m cap, t.agg (.slice ua n ucap)] w fun e w' => e = .returned (.bool (t.own cols)) ∧ Below w.heap.size w w' := by
  have HN := Lib.hid hn
  have B0 := below_alloc w (.cells #[.int .i64 t.kind, .int .i64 t.col, .int .i64 t.op, .int .i64 t.v.ty, .int .i64 t.v.n, .string t.v.s, .slice ua n ucap] 46)
  have C0 := blk_new w [.int .i64 t.kind, .int .i64 t.col, .int .i64 t.op, .int .i64 t.v.ty, .int .i64 t.v.n, .string t.v.s, .slice ua n ucap] 46
  have HCO := Lib.hid (fun W => condOf t (.slice ua n ucap) W ⟨ua, n, ucap, rfl⟩)
  have HBA := Lib.hid (fun W => iBare t ua n ucap W)
  have HFI := Lib.hid (fun W (hW : Below w.heap.size w W) => iFitsC cols m cap a t.col t.op t.v.ty t.v.n t.v.s W hm hss (hv.below hW))
  generalize hw0 : w.alloc (.cells #[.int .i64 t.kind, .int .i64 t.col, .int .i64 t.op, .int .i64 t.v.ty, .int .i64 t.v.n, .string t.v.s, .slice ua n ucap] 46) = w0 at B0 C0
  have HW0 := Lib.hid hw0
  have HK : Hid (∀ X, Below w0.heap.size w0 X → X.cell? ⟨w.heap.size, 0, none⟩ = some (.int .i64 t.kind) ∧ X.cell? ⟨w.heap.size, 1, none⟩ = some (.int .i64 t.col) ∧ X.cell? ⟨w.heap.size, 2, none⟩ = some (.int .i64 t.op) ∧ X.cell? ⟨w.heap.size, 3, none⟩ = some (.int .i64 t.v.ty) ∧ X.cell? ⟨w.heap.size, 4, none⟩ = some (.int .i64 t.v.n) ∧ X.cell? ⟨w.heap.size, 5, none⟩ = some (.string t.v.s) ∧ X.cell? ⟨w.heap.size, 6, none⟩ = some (.slice ua n ucap)) := fun X h => ⟨(C0.below h 0 _ rfl).1, (C0.below h 1 _ rfl).1, (C0.below h 2 _ rfl).1, (C0.below h 3 _ rfl).1, (C0.below h 4 _ rfl).1, (C0.below h 5 _ rfl).1, (C0.below h 6 _ rfl).1⟩
  clear hw0 C0 hv hss hn
  simp only [T.agg] at HCO HBA ⊢
  subst hm
  generalize hmm : cols.length = m at HFI ⊢
  have HMM := Lib.hid hmm
  by_cases k1 : t.kind = 1
  · rw [condV_1 _ k1] at HCO
    rw [own_1 cols k1, HN.out]
    have a1 : ∀ W : World, (Instr.typeAssert (.iface 139 (.agg #[])) 136 139 true).run Try.prog W = .ok (.tuple #[.agg #[], .bool true]) W := fun W => by kernel_rfl
    clear k1
    by_cases h0 : n = 0
    · subst h0
      rw [show (t.bare && ((0 : Nat) == 0)) = t.bare by rw [show ((0 : Nat) == 0) = true from rfl, Bool.and_true]]
      generalize t.bare = r at HBA ⊢
      clear HN
      go_enter Try.func98, Try.ntmps98
      go_wp2_with fail
      rw [HW0.out]
      refine (HCO.out _).mono ?_
      rintro e w1 ⟨rfl, b1⟩
      have B1 := below_then B0 b1 B0.size
      have K1 := b1
      clear b1
      have A2 := below_alloc w1 (.cells #[] 139)
      have B2 := below_then B1 A2 B1.size
      have K2 := below_then K1 A2 K1.size
      obtain ⟨q0, q1, q2, q3, q4, q5, q6⟩ := HK.out _ K2
      go_wp2_with fail
      refine (HBA.out _).mono ?_
      rintro e w3 ⟨rfl, b3⟩
      have B3 := below_then B2 b3 B2.size
      clear b3 q0 q1 q2 q3 q4 q5 q6
      go_wp2
      go_ret
      exact ⟨rfl, B3⟩
    · have hnb : (n == 0) = false := by simpa using h0
      have hni : ¬ (n : Int) = 0 := by omega
      rw [hnb, Bool.and_false]
      clear HN
      go_enter Try.func98, Try.ntmps98
      go_wp2_with fail
      rw [HW0.out]
      refine (HCO.out _).mono ?_
      rintro e w1 ⟨rfl, b1⟩
      have B1 := below_then B0 b1 B0.size
      have K1 := b1
      clear b1
      have B2 := B1.alloc B1.size (.cells #[] 139)
      go_wp2
      go_ret
      exact ⟨rfl, B2⟩
  by_cases k2 : t.kind = 2
  · rw [condV_2 _ k2] at HCO
    rw [own_2 cols k2, HN.out, HMM.out]
    have a1 : ∀ W : World, (Instr.typeAssert (.iface 107 (.agg #[.int .i64 t.col, .int .i64 t.op, .int .i64 t.v.ty, .int .i64 t.v.n, .string t.v.s])) 136 139 true).run Try.prog W = .ok (.tuple #[.agg #[], .bool false]) W := fun W => by kernel_rfl
    have a2 : ∀ W : World, (Instr.typeAssert (.iface 107 (.agg #[.int .i64 t.col, .int .i64 t.op, .int .i64 t.v.ty, .int .i64 t.v.n, .string t.v.s])) 136 107 true).run Try.prog W = .ok (.tuple #[.agg #[.int .i64 t.col, .int .i64 t.op, .int .i64 t.v.ty, .int .i64 t.v.n, .string t.v.s], .bool true]) W := fun W => by kernel_rfl
    clear k1 k2
    by_cases h0 : n = 0
    · subst h0
      rw [show (((Num.inB t.col 0 ((m : Int) - 1) && Num.inB t.op 1 6) && (t.v.ty == cols.getD t.col.toNat 0 && okV t.v)) && ((0 : Nat) == 0)) = ((Num.inB t.col 0 ((m : Int) - 1) && Num.inB t.op 1 6) && (t.v.ty == cols.getD t.col.toNat 0 && okV t.v)) by rw [show ((0 : Nat) == 0) = true from rfl, Bool.and_true]]
      generalize ((Num.inB t.col 0 ((m : Int) - 1) && Num.inB t.op 1 6) && (t.v.ty == cols.getD t.col.toNat 0 && okV t.v)) = r at HFI ⊢
      clear HN
      go_enter Try.func98, Try.ntmps98
      go_wp2_with fail
      rw [HW0.out]
      refine (HCO.out _).mono ?_
      rintro e w1 ⟨rfl, b1⟩
      have B1 := below_then B0 b1 B0.size
      have K1 := b1
      clear b1
      have A2 := below_alloc w1 (.cells #[.int .i64 t.col, .int .i64 t.op, .int .i64 t.v.ty, .int .i64 t.v.n, .string t.v.s] 107)
      have B2 := below_then B1 A2 B1.size
      have K2 := below_then K1 A2 K1.size
      obtain ⟨q0, q1, q2, q3, q4, q5, q6⟩ := HK.out _ K2
      go_wp2_with fail
      refine (HFI.out _ B2).mono ?_
      rintro e w3 ⟨rfl, b3⟩
      have B3 := below_then B2 b3 B2.size
      clear b3 q0 q1 q2 q3 q4 q5 q6
      go_wp2
      go_ret
      exact ⟨rfl, B3⟩
    · have hnb : (n == 0) = false := by simpa using h0
      have hni : ¬ (n : Int) = 0 := by omega
      rw [hnb, Bool.and_false]
      clear HN
      go_enter Try.func98, Try.ntmps98
      go_wp2_with fail
      rw [HW0.out]
      refine (HCO.out _).mono ?_
      rintro e w1 ⟨rfl, b1⟩
      have B1 := below_then B0 b1 B0.size
      have K1 := b1
      clear b1
      have B2 := B1.alloc B1.size (.cells #[.int .i64 t.col, .int .i64 t.op, .int .i64 t.v.ty, .int .i64 t.v.n, .string t.v.s] 107)
      go_wp2
      go_ret
      exact ⟨rfl, B2⟩
  by_cases k3 : t.kind = 3
  · rw [condV_3 _ k3] at HCO
    rw [own_3 cols k3, HN.out]
    have a1 : ∀ W : World, (Instr.typeAssert (.iface 140 (.slice ua n ucap)) 136 139 true).run Try.prog W = .ok (.tuple #[.agg #[], .bool false]) W := fun W => by kernel_rfl
    have a2 : ∀ W : World, (Instr.typeAssert (.iface 140 (.slice ua n ucap)) 136 107 true).run Try.prog W = .ok (.tuple #[.agg #[.int .i64 0, .int .i64 0, .int .i64 0, .int .i64 0, .string ⟨#[]⟩], .bool false]) W := fun W => by kernel_rfl
    have a3 : ∀ W : World, (Instr.typeAssert (.iface 140 (.slice ua n ucap)) 136 140 true).run Try.prog W = .ok (.tuple #[.slice ua n ucap, .bool true]) W := fun W => by kernel_rfl
    have a4 : ∀ W : World, (Instr.typeAssert (.iface 140 (.slice ua n ucap)) 136 142 true).run Try.prog W = .ok (.tuple #[.slice none 0 0, .bool false]) W := fun W => by kernel_rfl
    have a5 : ∀ W : World, (Instr.typeAssert (.iface 140 (.slice ua n ucap)) 136 143 true).run Try.prog W = .ok (.tuple #[.slice none 0 0, .bool false]) W := fun W => by kernel_rfl
    clear k1 k2 k3
    by_cases h1 : n < 1
    · have hb : (t.bare && Num.inB (n : Int) 1 4) = false := by
        rw [show Num.inB (n : Int) 1 4 = false by rw [← Bool.not_eq_true, Num.inB_true]; omega, Bool.and_false]
      rw [hb]
      have hni : ¬ (1 : Int) ≤ (n : Int) := by omega
      clear HN hb
      go_enter Try.func98, Try.ntmps98
      go_wp2_with fail
      rw [HW0.out]
      refine (HCO.out _).mono ?_
      rintro e w1 ⟨rfl, b1⟩
      have B1 := below_then B0 b1 B0.size
      have K1 := b1
      clear b1
      go_wp2
      go_ret
      exact ⟨rfl, B1⟩
    by_cases h2 : 4 < n
    · have hb : (t.bare && Num.inB (n : Int) 1 4) = false := by
        rw [show Num.inB (n : Int) 1 4 = false by rw [← Bool.not_eq_true, Num.inB_true]; omega, Bool.and_false]
      rw [hb]
      have hni : (1 : Int) ≤ (n : Int) := by omega
      have hnj : ¬ (n : Int) ≤ 4 := by omega
      clear HN hb
      go_enter Try.func98, Try.ntmps98
      go_wp2_with fail
      rw [HW0.out]
      refine (HCO.out _).mono ?_
      rintro e w1 ⟨rfl, b1⟩
      have B1 := below_then B0 b1 B0.size
      have K1 := b1
      clear b1
      go_wp2
      go_ret
      exact ⟨rfl, B1⟩
    · have hb : (t.bare && Num.inB (n : Int) 1 4) = t.bare := by
        rw [show Num.inB (n : Int) 1 4 = true by rw [Num.inB_true]; omega, Bool.and_true]
      rw [hb]
      have hni : (1 : Int) ≤ (n : Int) := by omega
      have hnj : (n : Int) ≤ 4 := by omega
      generalize t.bare = r at HBA ⊢
      clear HN hb
      go_enter Try.func98, Try.ntmps98
      go_wp2_with fail
      rw [HW0.out]
      refine (HCO.out _).mono ?_
      rintro e w1 ⟨rfl, b1⟩
      have B1 := below_then B0 b1 B0.size
      have K1 := b1
      clear b1
      have B2 := B1
      have K2 := K1
      obtain ⟨q0, q1, q2, q3, q4, q5, q6⟩ := HK.out _ K2
      go_wp2_with fail
      refine (HBA.out _).mono ?_
      rintro e w3 ⟨rfl, b3⟩
      have B3 := below_then B2 b3 B2.size
      clear b3 q0 q1 q2 q3 q4 q5 q6
      go_wp2
      go_ret
      exact ⟨rfl, B3⟩
  by_cases k4 : t.kind = 4
  · rw [condV_4 _ k4] at HCO
    rw [own_4 cols k4, HN.out]
    have a1 : ∀ W : World, (Instr.typeAssert (.iface 142 (.slice ua n ucap)) 136 139 true).run Try.prog W = .ok (.tuple #[.agg #[], .bool false]) W := fun W => by kernel_rfl
    have a2 : ∀ W : World, (Instr.typeAssert (.iface 142 (.slice ua n ucap)) 136 107 true).run Try.prog W = .ok (.tuple #[.agg #[.int .i64 0, .int .i64 0, .int .i64 0, .int .i64 0, .string ⟨#[]⟩], .bool false]) W := fun W => by kernel_rfl
    have a3 : ∀ W : World, (Instr.typeAssert (.iface 142 (.slice ua n ucap)) 136 140 true).run Try.prog W = .ok (.tuple #[.slice none 0 0, .bool false]) W := fun W => by kernel_rfl
    have a4 : ∀ W : World, (Instr.typeAssert (.iface 142 (.slice ua n ucap)) 136 142 true).run Try.prog W = .ok (.tuple #[.slice ua n ucap, .bool true]) W := fun W => by kernel_rfl
    clear k1 k2 k3 k4
    by_cases h1 : n < 1
    · have hb : (t.bare && Num.inB (n : Int) 1 4) = false := by
        rw [show Num.inB (n : Int) 1 4 = false by rw [← Bool.not_eq_true, Num.inB_true]; omega, Bool.and_false]
      rw [hb]
      have hni : ¬ (1 : Int) ≤ (n : Int) := by omega
      clear HN hb
      go_enter Try.func98, Try.ntmps98
      go_wp2_with fail
      rw [HW0.out]
      refine (HCO.out _).mono ?_
      rintro e w1 ⟨rfl, b1⟩
      have B1 := below_then B0 b1 B0.size
      have K1 := b1
      clear b1
      go_wp2
      go_ret
      exact ⟨rfl, B1⟩
    by_cases h2 : 4 < n
    · have hb : (t.bare && Num.inB (n : Int) 1 4) = false := by
        rw [show Num.inB (n : Int) 1 4 = false by rw [← Bool.not_eq_true, Num.inB_true]; omega, Bool.and_false]
      rw [hb]
      have hni : (1 : Int) ≤ (n : Int) := by omega
      have hnj : ¬ (n : Int) ≤ 4 := by omega
      clear HN hb
      go_enter Try.func98, Try.ntmps98
      go_wp2_with fail
      rw [HW0.out]
      refine (HCO.out _).mono ?_
      rintro e w1 ⟨rfl, b1⟩
      have B1 := below_then B0 b1 B0.size
      have K1 := b1
      clear b1
      go_wp2
      go_ret
      exact ⟨rfl, B1⟩
    · have hb : (t.bare && Num.inB (n : Int) 1 4) = t.bare := by
        rw [show Num.inB (n : Int) 1 4 = true by rw [Num.inB_true]; omega, Bool.and_true]
      rw [hb]
      have hni : (1 : Int) ≤ (n : Int) := by omega
      have hnj : (n : Int) ≤ 4 := by omega
      generalize t.bare = r at HBA ⊢
      clear HN hb
      go_enter Try.func98, Try.ntmps98
      go_wp2_with fail
      rw [HW0.out]
      refine (HCO.out _).mono ?_
      rintro e w1 ⟨rfl, b1⟩
      have B1 := below_then B0 b1 B0.size
      have K1 := b1
      clear b1
      have B2 := B1
      have K2 := K1
      obtain ⟨q0, q1, q2, q3, q4, q5, q6⟩ := HK.out _ K2
      go_wp2_with fail
      refine (HBA.out _).mono ?_
      rintro e w3 ⟨rfl, b3⟩
      have B3 := below_then B2 b3 B2.size
      clear b3 q0 q1 q2 q3 q4 q5 q6
      go_wp2
      go_ret
      exact ⟨rfl, B3⟩
  by_cases k5 : t.kind = 5
  · rw [condV_5 _ k5] at HCO
    rw [own_5 cols k5, HN.out]
    have a1 : ∀ W : World, (Instr.typeAssert (.iface 143 (.slice ua n ucap)) 136 139 true).run Try.prog W = .ok (.tuple #[.agg #[], .bool false]) W := fun W => by kernel_rfl
    have a2 : ∀ W : World, (Instr.typeAssert (.iface 143 (.slice ua n ucap)) 136 107 true).run Try.prog W = .ok (.tuple #[.agg #[.int .i64 0, .int .i64 0, .int .i64 0, .int .i64 0, .string ⟨#[]⟩], .bool false]) W := fun W => by kernel_rfl
    have a3 : ∀ W : World, (Instr.typeAssert (.iface 143 (.slice ua n ucap)) 136 140 true).run Try.prog W = .ok (.tuple #[.slice none 0 0, .bool false]) W := fun W => by kernel_rfl
    have a4 : ∀ W : World, (Instr.typeAssert (.iface 143 (.slice ua n ucap)) 136 142 true).run Try.prog W = .ok (.tuple #[.slice none 0 0, .bool false]) W := fun W => by kernel_rfl
    have a5 : ∀ W : World, (Instr.typeAssert (.iface 143 (.slice ua n ucap)) 136 143 true).run Try.prog W = .ok (.tuple #[.slice ua n ucap, .bool true]) W := fun W => by kernel_rfl
    clear k1 k2 k3 k4 k5
    by_cases h1 : n = 1
    · subst h1
      rw [show (t.bare && ((1 : Nat) == 1)) = t.bare by rw [show ((1 : Nat) == 1) = true from rfl, Bool.and_true]]
      generalize t.bare = r at HBA ⊢
      clear HN
      go_enter Try.func98, Try.ntmps98
      go_wp2_with fail
      rw [HW0.out]
      refine (HCO.out _).mono ?_
      rintro e w1 ⟨rfl, b1⟩
      have B1 := below_then B0 b1 B0.size
      have K1 := b1
      clear b1
      have B2 := B1
      have K2 := K1
      obtain ⟨q0, q1, q2, q3, q4, q5, q6⟩ := HK.out _ K2
      go_wp2_with fail
      refine (HBA.out _).mono ?_
      rintro e w3 ⟨rfl, b3⟩
      have B3 := below_then B2 b3 B2.size
      clear b3 q0 q1 q2 q3 q4 q5 q6
      go_wp2
      go_ret
      exact ⟨rfl, B3⟩
    · have hnb : (n == 1) = false := by simpa using h1
      have hni : ¬ (n : Int) = 1 := by omega
      rw [hnb, Bool.and_false]
      clear HN
      go_enter Try.func98, Try.ntmps98
      go_wp2_with fail
      rw [HW0.out]
      refine (HCO.out _).mono ?_
      rintro e w1 ⟨rfl, b1⟩
      have B1 := below_then B0 b1 B0.size
      have K1 := b1
      clear b1
      go_wp2
      go_ret
      exact ⟨rfl, B1⟩
  rw [condV_no _ k1 k2 k3 k4 k5] at HCO
  rw [own_no cols k1 k2 k3 k4 k5]
  have a1 : ∀ W : World, (Instr.typeAssert (.iface 166 (.agg #[])) 136 139 true).run Try.prog W = .ok (.tuple #[.agg #[], .bool false]) W := fun W => by kernel_rfl
  have a2 : ∀ W : World, (Instr.typeAssert (.iface 166 (.agg #[])) 136 107 true).run Try.prog W = .ok (.tuple #[.agg #[.int .i64 0, .int .i64 0, .int .i64 0, .int .i64 0, .string ⟨#[]⟩], .bool false]) W := fun W => by kernel_rfl
  have a3 : ∀ W : World, (Instr.typeAssert (.iface 166 (.agg #[])) 136 140 true).run Try.prog W = .ok (.tuple #[.slice none 0 0, .bool false]) W := fun W => by kernel_rfl
  have a4 : ∀ W : World, (Instr.typeAssert (.iface 166 (.agg #[])) 136 142 true).run Try.prog W = .ok (.tuple #[.slice none 0 0, .bool false]) W := fun W => by kernel_rfl
  have a5 : ∀ W : World, (Instr.typeAssert (.iface 166 (.agg #[])) 136 143 true).run Try.prog W = .ok (.tuple #[.slice none 0 0, .bool false]) W := fun W => by kernel_rfl
  clear HN k1 k2 k3 k4 k5
  go_enter Try.func98, Try.ntmps98
  go_wp2_with fail
  rw [HW0.out]
  refine (HCO.out _).mono ?_
  rintro e w1 ⟨rfl, b1⟩
  have B1 := below_then B0 b1 B0.size
  have K1 := b1
  clear b1
  go_wp2
  go_ret
  exact ⟨rfl, B1⟩

end Go.Proofs.Ytafoldpmodipaaa
