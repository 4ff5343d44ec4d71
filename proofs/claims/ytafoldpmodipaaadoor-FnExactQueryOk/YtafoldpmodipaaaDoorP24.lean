/- Texts of this claim, one behind the other: IVis, I11f, I11g. -/
import Derived.Test.YtafoldpmodipaaaDoorP21
import Derived.Test.YtafoldpmodipaaaDoorP2
import Derived.KernelRfl
import Derived.Test.YtafoldpmodipaaaDoorP14
import Derived.Test.YtafoldpmodipaaaDoorP4
import Derived.Test.YtafoldpmodipaaaDoorP3

/- The contracts of impl's condOf, its kinds' operands, enter. -/
namespace Go.Proofs.YtafoldpmodipaaaDoor
open Go.RowKit

/-- What stands behind the interface cond for a predicate: its type, its value. -/
def condTy (k : Int) : TypeId := if k = 1 then 140 else if k = 2 then 142 else if k = 3 then 143 else if k = 4 then 144 else if k = 5 then 145 else 153
def condIn (t : T) (u : Value) : Value := if t.kind = 2 then .agg #[.int .i64 t.col, .int .i64 t.op, .int .i64 t.v.ty, .int .i64 t.v.n, .string t.v.s] else if t.kind = 3 ∨ t.kind = 4 ∨ t.kind = 5 then u else .agg #[]
def condV (t : T) (u : Value) : Value := .iface (condTy t.kind) (condIn t u)

theorem condV_1 {t : T} (u : Value) (h : t.kind = 1) : condV t u = .iface 140 (.agg #[]) := by
  simp [condV, condTy, condIn, h]
theorem condV_2 {t : T} (u : Value) (h : t.kind = 2) : condV t u = .iface 142 (.agg #[.int .i64 t.col, .int .i64 t.op, .int .i64 t.v.ty, .int .i64 t.v.n, .string t.v.s]) := by
  simp [condV, condTy, condIn, h]
theorem condV_3 {t : T} (u : Value) (h : t.kind = 3) : condV t u = .iface 143 u := by
  simp [condV, condTy, condIn, h]
theorem condV_4 {t : T} (u : Value) (h : t.kind = 4) : condV t u = .iface 144 u := by
  simp [condV, condTy, condIn, h]
theorem condV_5 {t : T} (u : Value) (h : t.kind = 5) : condV t u = .iface 145 u := by
  simp [condV, condTy, condIn, h]
theorem condV_no {t : T} (u : Value) (h1 : ¬ t.kind = 1) (h2 : ¬ t.kind = 2) (h3 : ¬ t.kind = 3) (h4 : ¬ t.kind = 4) (h5 : ¬ t.kind = 5) : condV t u = .iface 153 (.agg #[]) := by
  simp [condV, condTy, condIn, h1, h2, h3, h4, h5]

set_option maxHeartbeats 2000000 in
theorem condOf (t : T) (u : Value) (w : World) (hu : ∃ a n cap, u = .slice a n cap) : Calls Tryd.prog 103 #[t.agg u] w fun e w' => e = .returned (condV t u) ∧ Below w.heap.size w w' := by
  have B0 := below_alloc w (.cells (t.cs u).toArray 36)
  have C0 := blk_new w (t.cs u) 36
  have HR1 := Lib.hid (condV_1 (t := t) u)
  have HR2 := Lib.hid (condV_2 (t := t) u)
  have HR3 := Lib.hid (condV_3 (t := t) u)
  have HR4 := Lib.hid (condV_4 (t := t) u)
  have HR5 := Lib.hid (condV_5 (t := t) u)
  have HR0 := Lib.hid (condV_no (t := t) u)
  generalize condV t u = R at HR1 HR2 HR3 HR4 HR5 HR0 ⊢
  obtain ⟨k, c, o, ⟨vt, vn, vs⟩, l⟩ := t
  obtain ⟨a, n, cap, rfl⟩ := hu
  simp only [T.agg, T.cs, T.kind, T.col, T.op, T.v] at B0 C0 ⊢
  have p0 := (C0 0 _ rfl).1
  have p1 := (C0 1 _ rfl).1
  have p2 := (C0 2 _ rfl).1
  have p3 := (C0 3 _ rfl).1
  have p4 := (C0 4 _ rfl).1
  have p5 := (C0 5 _ rfl).1
  have p6 := (C0 6 _ rfl).1
  clear C0
  simp only [T.kind, T.col, T.op, T.v] at HR1 HR2 HR3 HR4 HR5 HR0
  generalize hw0 : w.alloc (.cells #[.int .i64 k, .int .i64 c, .int .i64 o, .int .i64 vt, .int .i64 vn, .string vs, .slice a n cap] 36) = w0 at B0 p0 p1 p2 p3 p4 p5 p6
  have HW0 := Lib.hid hw0
  clear hw0
  by_cases k1 : k = 1
  · rw [HR1.out k1]
    subst k1
    clear HR1 HR2 HR3 HR4 HR5 HR0
    go_enter Tryd.func103, Tryd.ntmps103
    go_wp2
    rw [HW0.out]
    go_wp2
    go_ret
    exact ⟨rfl, B0⟩
  by_cases k2 : k = 2
  · rw [HR2.out k2]
    subst k2
    clear HR1 HR2 HR3 HR4 HR5 HR0
    go_enter Tryd.func103, Tryd.ntmps103
    go_wp2
    rw [HW0.out]
    go_wp2
    go_ret
    exact ⟨rfl, B0⟩
  by_cases k3 : k = 3
  · rw [HR3.out k3]
    subst k3
    clear HR1 HR2 HR3 HR4 HR5 HR0
    go_enter Tryd.func103, Tryd.ntmps103
    go_wp2
    rw [HW0.out]
    go_wp2
    go_ret
    exact ⟨rfl, B0⟩
  by_cases k4 : k = 4
  · rw [HR4.out k4]
    subst k4
    clear HR1 HR2 HR3 HR4 HR5 HR0
    go_enter Tryd.func103, Tryd.ntmps103
    go_wp2
    rw [HW0.out]
    go_wp2
    go_ret
    exact ⟨rfl, B0⟩
  by_cases k5 : k = 5
  · rw [HR5.out k5]
    subst k5
    clear HR1 HR2 HR3 HR4 HR5 HR0
    go_enter Tryd.func103, Tryd.ntmps103
    go_wp2
    rw [HW0.out]
    go_wp2
    go_ret
    exact ⟨rfl, B0⟩
  rw [HR0.out k1 k2 k3 k4 k5]
  clear HR1 HR2 HR3 HR4 HR5 HR0
  go_enter Tryd.func103, Tryd.ntmps103
  go_wp2
  rw [HW0.out]
  go_wp2
  go_ret
  exact ⟨rfl, B0⟩

/-- What operands returns. -/
def opsV (t : T) (u : Value) : Value := if t.kind = 3 ∨ t.kind = 4 ∨ t.kind = 5 then u else .slice none 0 0
theorem opsV_len {t : T} {u : Value} {a : Option Addr} {cap : Nat} (hu : u = .slice a t.l.length cap) : ∃ a' cap', opsV t u = .slice a' t.ops.length cap' ∧ (0 < t.ops.length → a' = a) := by
  unfold opsV T.ops
  split
  · exact ⟨a, cap, hu, fun _ => rfl⟩
  · exact ⟨none, 0, rfl, fun h => by simp at h⟩

theorem op_conj (v : Value) (W : World) (h : ∃ a n cap, v = .slice a n cap) : Calls Tryd.prog 151 #[v] W fun e W' => e = .returned v ∧ W' = W := by
  obtain ⟨a, n, cap, rfl⟩ := h
  go_enter Tryd.func151, Tryd.ntmps151
  go_wp2
  go_ret
  exact ⟨rfl, rfl⟩
theorem op_disj (v : Value) (W : World) (h : ∃ a n cap, v = .slice a n cap) : Calls Tryd.prog 152 #[v] W fun e W' => e = .returned v ∧ W' = W := by
  obtain ⟨a, n, cap, rfl⟩ := h
  go_enter Tryd.func152, Tryd.ntmps152
  go_wp2
  go_ret
  exact ⟨rfl, rfl⟩
theorem op_neg (v : Value) (W : World) (h : ∃ a n cap, v = .slice a n cap) : Calls Tryd.prog 153 #[v] W fun e W' => e = .returned v ∧ W' = W := by
  obtain ⟨a, n, cap, rfl⟩ := h
  go_enter Tryd.func153, Tryd.ntmps153
  go_wp2
  go_ret
  exact ⟨rfl, rfl⟩
theorem op_every (W : World) : Calls Tryd.prog 149 #[.agg #[]] W fun e W' => e = .returned (.slice none 0 0) ∧ Below W.heap.size W W' := by
  go_enter Tryd.func149, Tryd.ntmps149
  go_wp2
  go_ret
  exact ⟨rfl, below_alloc W _⟩
theorem op_unknown (W : World) : Calls Tryd.prog 154 #[.agg #[]] W fun e W' => e = .returned (.slice none 0 0) ∧ Below W.heap.size W W' := by
  go_enter Tryd.func154, Tryd.ntmps154
  go_wp2
  go_ret
  exact ⟨rfl, below_alloc W _⟩
theorem op_cmp (c o vt vn : Int) (vs : ByteArray) (W : World) : Calls Tryd.prog 150 #[.agg #[.int .i64 c, .int .i64 o, .int .i64 vt, .int .i64 vn, .string vs]] W fun e W' => e = .returned (.slice none 0 0) ∧ Below W.heap.size W W' := by
  go_enter Tryd.func150, Tryd.ntmps150
  go_wp2
  go_ret
  exact ⟨rfl, below_alloc W _⟩

/-- A call of operands through the interface. -/
theorem cond_op (t : T) (u : Value) (hu : ∃ a n cap, u = .slice a n cap) : ∃ (fo : Nat) (recv : Value), (∀ W, (callMethod (condV t u) "loop.example/g00496/impl.operands" #[]).run Tryd.prog W = .ok (.enter fo #[recv]) W) ∧
    ∀ W, Calls Tryd.prog fo #[recv] W fun e W' => e = .returned (opsV t u) ∧ Below W.heap.size W W' := by
  have e1 : ¬ (t.kind = 3 ∨ t.kind = 4 ∨ t.kind = 5) → opsV t u = .slice none 0 0 := fun h => if_neg h
  have e2 : (t.kind = 3 ∨ t.kind = 4 ∨ t.kind = 5) → opsV t u = u := fun h => if_pos h
  by_cases k1 : t.kind = 1
  · rw [condV_1 u k1, e1 (by omega)]
    exact ⟨_, _, fun W => by kernel_rfl, fun W => op_every W⟩
  by_cases k2 : t.kind = 2
  · rw [condV_2 u k2, e1 (by omega)]
    exact ⟨_, _, fun W => by kernel_rfl, fun W => op_cmp t.col t.op t.v.ty t.v.n t.v.s W⟩
  by_cases k3 : t.kind = 3
  · rw [condV_3 u k3, e2 (by omega)]
    exact ⟨_, _, fun W => by kernel_rfl, fun W => (op_conj u W hu).mono (fun _ _ h => ⟨h.1, h.2 ▸ Below.refl _ _⟩)⟩
  by_cases k4 : t.kind = 4
  · rw [condV_4 u k4, e2 (by omega)]
    exact ⟨_, _, fun W => by kernel_rfl, fun W => (op_disj u W hu).mono (fun _ _ h => ⟨h.1, h.2 ▸ Below.refl _ _⟩)⟩
  by_cases k5 : t.kind = 5
  · rw [condV_5 u k5, e2 (by omega)]
    exact ⟨_, _, fun W => by kernel_rfl, fun W => (op_neg u W hu).mono (fun _ _ h => ⟨h.1, h.2 ▸ Below.refl _ _⟩)⟩
  rw [condV_no u k1 k2 k3 k4 k5, e1 (by omega)]
  exact ⟨_, _, fun W => by kernel_rfl, fun W => op_unknown W⟩

end Go.Proofs.YtafoldpmodipaaaDoor

/- The contracts of impl's comparesNothing, fits (written by mk_I11f.py). -/
namespace Go.Proofs.YtafoldpmodipaaaDoor
open Go.RowKit

set_option maxRecDepth 100000 in
set_option maxHeartbeats 4000000 in
theorem iBare (t : T) (ua : Option Addr) (un ucap : Nat) (w : World) : Calls Tryd.prog 110 #[t.agg (.slice ua un ucap)] w fun e w' => e = .returned (.bool t.bare) ∧ Below w.heap.size w w' := by
  have B0 := below_alloc w (.cells #[.int .i64 t.kind, .int .i64 t.col, .int .i64 t.op, .int .i64 t.v.ty, .int .i64 t.v.n, .string t.v.s, .slice ua un ucap] 36)
  have hq := run_eql_val t.v V.zero
  have hz : V.zero.agg = .agg #[.int .i64 0, .int .i64 0, .string ⟨#[]⟩] := rfl
  rw [hz] at hq
  unfold T.bare
  generalize t.v.eqB V.zero = r at hq ⊢
  obtain ⟨k, c, o, ⟨vt, vn, vs⟩, l⟩ := t
  simp only [T.agg, T.kind, T.col, T.op, T.v] at B0 hq ⊢
  clear hz
  by_cases hc : c = 0
  · subst hc
    by_cases ho : o = 0
    · subst ho
      show Calls _ _ _ _ fun e w' => e = .returned (.bool r) ∧ _
      go_enter Tryd.func110, Tryd.ntmps110
      go_wp2
      go_ret
      exact ⟨rfl, B0⟩
    · have h2 : ((0 : Int) == 0 && (o == 0 && r)) = false := by simp [ho]
      rw [h2]
      go_enter Tryd.func110, Tryd.ntmps110
      go_wp2
      go_ret
      exact ⟨rfl, B0⟩
  · have h2 : (c == 0 && (o == 0 && r)) = false := by simp [hc]
    rw [h2]
    go_enter Tryd.func110, Tryd.ntmps110
    go_wp2
    go_ret
    exact ⟨rfl, B0⟩

set_option maxRecDepth 100000 in
set_option maxHeartbeats 8000000 in
theorem iFitsC (cols : List Int) (n cap : Nat) (a : Option Addr) (c o vt vn : Int) (vs : ByteArray) (w : World) (hl : cols.length = n) (hss : vs.size ≤ maxLen) (hv : Rd 1 w (.slice a n cap) n (ints .i64 cols)) :
    Calls Tryd.prog 111 #[.agg #[.int .i64 c, .int .i64 o, .int .i64 vt, .int .i64 vn, .string vs], .slice a n cap] w fun e w' =>
      e = .returned (.bool ((Num.inB c 0 ((n : Int) - 1) && Num.inB o 1 6) && (vt == cols.getD c.toNat 0 && okV ⟨vt, vn, vs⟩))) ∧ Below w.heap.size w w' := by
  obtain ⟨_, _, e1, _, HV⟩ := hv.ints hl
  cases e1
  have B0 := below_alloc w (.cells #[.int .i64 c, .int .i64 o, .int .i64 vt, .int .i64 vn, .string vs] 142)
  have C0 := blk_new w [.int .i64 c, .int .i64 o, .int .i64 vt, .int .i64 vn, .string vs] 142
  have HVO := Lib.hid (fun W => iValOk ⟨vt, vn, vs⟩ W hss)
  by_cases hc0 : c < 0
  · have hi : Num.inB c 0 ((n : Int) - 1) = false := by
      rw [← Bool.not_eq_true, Num.inB_true]
      omega
    rw [hi, Bool.false_and, Bool.false_and]
    clear hi
    go_enter Tryd.func111, Tryd.ntmps111
    go_wp2
    go_ret
    exact ⟨rfl, B0⟩
  by_cases hc1 : (n : Int) ≤ c
  · have hi : Num.inB c 0 ((n : Int) - 1) = false := by
      rw [← Bool.not_eq_true, Num.inB_true]
      omega
    rw [hi, Bool.false_and, Bool.false_and]
    clear hi
    go_enter Tryd.func111, Tryd.ntmps111
    go_wp2
    go_ret
    exact ⟨rfl, B0⟩
  have hi : Num.inB c 0 ((n : Int) - 1) = true := by
    rw [Num.inB_true]
    omega
  rw [hi, Bool.true_and]
  by_cases ho0 : o < 1
  · have hj : Num.inB o 1 6 = false := by
      rw [← Bool.not_eq_true, Num.inB_true]
      omega
    rw [hj, Bool.false_and]
    clear hi hj
    go_enter Tryd.func111, Tryd.ntmps111
    go_wp2
    go_ret
    exact ⟨rfl, B0⟩
  by_cases ho1 : 6 < o
  · have hj : Num.inB o 1 6 = false := by
      rw [← Bool.not_eq_true, Num.inB_true]
      omega
    rw [hj, Bool.false_and]
    clear hi hj
    go_enter Tryd.func111, Tryd.ntmps111
    go_wp2
    go_ret
    exact ⟨rfl, B0⟩
  have hj : Num.inB o 1 6 = true := by
    rw [Num.inB_true]
    omega
  rw [hj, Bool.true_and]
  obtain ⟨q, rfl⟩ : ∃ q : Nat, c = (q : Int) := ⟨c.toNat, by omega⟩
  have hq : q < n := by omega
  have hqi : (q : Int) < (n : Int) := by omega
  obtain ⟨cb, co, rfl, p0⟩ := HV.out q hq
  rw [Int.toNat_natCast]
  generalize cols.getD q 0 = z at p0 ⊢
  replace p0 := (B0.cell (p := ⟨cb, co + q, none⟩) (lt_of_cell p0)).trans p0
  generalize hw0 : w.alloc (.cells #[.int .i64 (q : Int), .int .i64 o, .int .i64 vt, .int .i64 vn, .string vs] 142) = w0 at B0 C0 p0
  have HW0 := Lib.hid hw0
  have HS : Hid (∀ X, Below w0.heap.size w0 X → X.cell? ⟨w.heap.size, 0, none⟩ = some (.int .i64 (q : Int)) ∧ X.cell? ⟨w.heap.size, 1, none⟩ = some (.int .i64 o) ∧ X.cell? ⟨w.heap.size, 2, none⟩ = some (.int .i64 vt) ∧ X.cell? ⟨w.heap.size, 3, none⟩ = some (.int .i64 vn) ∧ X.cell? ⟨w.heap.size, 4, none⟩ = some (.string vs) ∧ X.cell? ⟨cb, co + q, none⟩ = some (.int .i64 z)) := fun X h => ⟨((C0.below h) 0 _ rfl).1, ((C0.below h) 1 _ rfl).1, ((C0.below h) 2 _ rfl).1, ((C0.below h) 3 _ rfl).1, ((C0.below h) 4 _ rfl).1, (h.cell (p := ⟨cb, co + q, none⟩) (lt_of_cell p0)).trans p0⟩
  have hB' := (Below.refl w0.heap.size w0).drew
  clear hw0 hi hj HV hv p0 C0
  by_cases hz : vt = z
  · have hzb : (vt == z) = true := by simpa using hz
    rw [hzb, Bool.true_and]
    clear hz
    generalize okV ⟨vt, vn, vs⟩ = res at HVO ⊢
    go_enter Tryd.func111, Tryd.ntmps111
    go_wp2_with fail
    rw [HW0.out]
    refine wp_region_held_drew (S := fun X => X.cell? ⟨w.heap.size, 0, none⟩ = some (.int .i64 (q : Int)) ∧ X.cell? ⟨w.heap.size, 1, none⟩ = some (.int .i64 o) ∧ X.cell? ⟨w.heap.size, 2, none⟩ = some (.int .i64 vt) ∧ X.cell? ⟨w.heap.size, 3, none⟩ = some (.int .i64 vn) ∧ X.cell? ⟨w.heap.size, 4, none⟩ = some (.string vs) ∧ X.cell? ⟨cb, co + q, none⟩ = some (.int .i64 z)) (by kernel_rfl) (HS.out _ hB') (fun hHeld => ?_)
    refine takeH (i := 0) (d := some 25) (v := .pointer (some ⟨w.heap.size, 2, none⟩)) rfl rfl (by kernel_rfl) (by kernel_rfl) (by kernel_rfl) (fun _ _ _ h => h) (Or.inl ⟨by rfl, fun W hSw => by obtain ⟨d0, d1, d2, d3, d4, d5⟩ := hSw; go_simp⟩) hHeld ?_
    simp only [put_some, List.set_cons_zero, List.set_cons_succ]
    refine takeH (i := 1) (d := some 26) (v := .pointer (some ⟨w.heap.size, 2, none⟩)) rfl rfl (by kernel_rfl) (by kernel_rfl) (by kernel_rfl) (fun _ _ _ h => h) (Or.inl ⟨by rfl, fun W hSw => by obtain ⟨d0, d1, d2, d3, d4, d5⟩ := hSw; go_simp⟩) hHeld ?_
    simp only [put_some, List.set_cons_zero, List.set_cons_succ]
    refine takeH (i := 2) (d := some 27) (v := .int .i64 vt) rfl rfl (by kernel_rfl) (by kernel_rfl) (by kernel_rfl) (fun _ _ _ h => h) (Or.inl ⟨by rfl, fun W hSw => by obtain ⟨d0, d1, d2, d3, d4, d5⟩ := hSw; go_simp⟩) hHeld ?_
    simp only [put_some, List.set_cons_zero, List.set_cons_succ]
    refine takeH (i := 3) (d := some 28) (v := .slice (some ⟨cb, co, none⟩) n cap) rfl rfl (by kernel_rfl) (by kernel_rfl) (by kernel_rfl) (fun _ _ _ h => h) (Or.inl ⟨by rfl, fun W hSw => by obtain ⟨d0, d1, d2, d3, d4, d5⟩ := hSw; go_simp⟩) hHeld ?_
    simp only [put_some, List.set_cons_zero, List.set_cons_succ]
    refine takeH (i := 4) (d := some 29) (v := .pointer (some ⟨w.heap.size, 0, none⟩)) rfl rfl (by kernel_rfl) (by kernel_rfl) (by kernel_rfl) (fun _ _ _ h => h) (Or.inl ⟨by rfl, fun W hSw => by obtain ⟨d0, d1, d2, d3, d4, d5⟩ := hSw; go_simp⟩) hHeld ?_
    simp only [put_some, List.set_cons_zero, List.set_cons_succ]
    refine takeH (i := 5) (d := some 30) (v := .int .i64 (q : Int)) rfl rfl (by kernel_rfl) (by kernel_rfl) (by kernel_rfl) (fun _ _ _ h => h) (Or.inl ⟨by rfl, fun W hSw => by obtain ⟨d0, d1, d2, d3, d4, d5⟩ := hSw; go_simp⟩) hHeld ?_
    simp only [put_some, List.set_cons_zero, List.set_cons_succ]
    refine takeH (i := 6) (d := some 31) (v := .pointer (some ⟨cb, co + q, none⟩)) rfl rfl (by kernel_rfl) (by kernel_rfl) (by kernel_rfl) (fun _ _ _ h => h) (Or.inl ⟨by rfl, fun W hSw => by obtain ⟨d0, d1, d2, d3, d4, d5⟩ := hSw; go_simp⟩) hHeld ?_
    simp only [put_some, List.set_cons_zero, List.set_cons_succ]
    refine takeH (i := 7) (d := some 32) (v := .int .i64 z) rfl rfl (by kernel_rfl) (by kernel_rfl) (by kernel_rfl) (fun _ _ _ h => h) (Or.inl ⟨by rfl, fun W hSw => by obtain ⟨d0, d1, d2, d3, d4, d5⟩ := hSw; go_simp⟩) hHeld ?_
    simp only [put_some, List.set_cons_zero, List.set_cons_succ]
    refine takeH (i := 8) (d := some 33) (v := .bool true) rfl rfl (by kernel_rfl) (by kernel_rfl) (by kernel_rfl) (fun _ _ _ h => h) (Or.inl ⟨by rfl, fun W hSw => by obtain ⟨d0, d1, d2, d3, d4, d5⟩ := hSw; go_simp⟩) hHeld ?_
    simp only [put_some, List.set_cons_zero, List.set_cons_succ]
    refine takeH (i := 9) (d := some 34) (v := .bool true) rfl rfl (by kernel_rfl) (by kernel_rfl) (by kernel_rfl) (fun _ _ _ h => h) (Or.inl ⟨by rfl, fun W hSw => by obtain ⟨d0, d1, d2, d3, d4, d5⟩ := hSw; go_simp⟩) hHeld ?_
    simp only [put_some, List.set_cons_zero, List.set_cons_succ]
    refine takeH (i := 10) (d := some 35) (v := .pointer (some ⟨w.heap.size, 2, none⟩)) rfl rfl (by kernel_rfl) (by kernel_rfl) (by kernel_rfl) (fun _ _ _ h => h) (Or.inl ⟨by rfl, fun W hSw => by obtain ⟨d0, d1, d2, d3, d4, d5⟩ := hSw; go_simp⟩) hHeld ?_
    simp only [put_some, List.set_cons_zero, List.set_cons_succ]
    refine takeH (i := 11) (d := some 36) (v := .agg #[.int .i64 vt, .int .i64 vn, .string vs]) rfl rfl (by kernel_rfl) (by kernel_rfl) (by kernel_rfl) (fun _ _ _ h => h) (Or.inl ⟨by rfl, fun W hSw => by obtain ⟨d0, d1, d2, d3, d4, d5⟩ := hSw; go_simp⟩) hHeld ?_
    simp only [put_some, List.set_cons_zero, List.set_cons_succ]
    refine wpAnyH_ready (rs := [12]) (by kernel_rfl) (by simp) ?_
    refine AllReadyH.cons rfl (fun K hK => ?_) AllReadyH.nil
    go_simp
    go_at_call 105
    refine (HVO.out _).mono ?_
    rintro e w2 ⟨rfl, hb2⟩
    replace hB' := below_then hB' hb2 hB'.size
    clear hb2
    go_wp2_with fail
    refine hK.out _ _ (HS.out _ hB') (fun hHeld => ?_)
    clear hK K
    refine takeH (i := 13) (d := some 38) (v := .bool res) rfl rfl (by kernel_rfl) (by kernel_rfl) (by kernel_rfl) (fun _ _ _ h => h) (Or.inl ⟨by rfl, fun W hSw => by obtain ⟨d0, d1, d2, d3, d4, d5⟩ := hSw; go_simp⟩) hHeld ?_
    simp only [put_some, List.set_cons_zero, List.set_cons_succ]
    refine takeH (i := 14) (d := some 4) (v := .bool res) rfl rfl (by kernel_rfl) (by kernel_rfl) (by kernel_rfl) (fun _ _ _ h => h) (Or.inl ⟨by rfl, fun W hSw => by obtain ⟨d0, d1, d2, d3, d4, d5⟩ := hSw; go_simp⟩) hHeld ?_
    simp only [put_some, List.set_cons_zero, List.set_cons_succ]
    refine wpAnyH_done (by kernel_rfl) ?_ _
    go_wp2
    go_ret
    exact ⟨rfl, B0.trans (hB'.mono B0.size)⟩
  · have hzb : (vt == z) = false := by simpa using hz
    rw [hzb, Bool.false_and]
    go_enter Tryd.func111, Tryd.ntmps111
    go_wp2_with fail
    rw [HW0.out]
    refine wp_region_held_drew (S := fun X => X.cell? ⟨w.heap.size, 0, none⟩ = some (.int .i64 (q : Int)) ∧ X.cell? ⟨w.heap.size, 1, none⟩ = some (.int .i64 o) ∧ X.cell? ⟨w.heap.size, 2, none⟩ = some (.int .i64 vt) ∧ X.cell? ⟨w.heap.size, 3, none⟩ = some (.int .i64 vn) ∧ X.cell? ⟨w.heap.size, 4, none⟩ = some (.string vs) ∧ X.cell? ⟨cb, co + q, none⟩ = some (.int .i64 z)) (by kernel_rfl) (HS.out _ hB') (fun hHeld => ?_)
    refine takeH (i := 0) (d := some 25) (v := .pointer (some ⟨w.heap.size, 2, none⟩)) rfl rfl (by kernel_rfl) (by kernel_rfl) (by kernel_rfl) (fun _ _ _ h => h) (Or.inl ⟨by rfl, fun W hSw => by obtain ⟨d0, d1, d2, d3, d4, d5⟩ := hSw; go_simp⟩) hHeld ?_
    simp only [put_some, List.set_cons_zero, List.set_cons_succ]
    refine takeH (i := 1) (d := some 26) (v := .pointer (some ⟨w.heap.size, 2, none⟩)) rfl rfl (by kernel_rfl) (by kernel_rfl) (by kernel_rfl) (fun _ _ _ h => h) (Or.inl ⟨by rfl, fun W hSw => by obtain ⟨d0, d1, d2, d3, d4, d5⟩ := hSw; go_simp⟩) hHeld ?_
    simp only [put_some, List.set_cons_zero, List.set_cons_succ]
    refine takeH (i := 2) (d := some 27) (v := .int .i64 vt) rfl rfl (by kernel_rfl) (by kernel_rfl) (by kernel_rfl) (fun _ _ _ h => h) (Or.inl ⟨by rfl, fun W hSw => by obtain ⟨d0, d1, d2, d3, d4, d5⟩ := hSw; go_simp⟩) hHeld ?_
    simp only [put_some, List.set_cons_zero, List.set_cons_succ]
    refine takeH (i := 3) (d := some 28) (v := .slice (some ⟨cb, co, none⟩) n cap) rfl rfl (by kernel_rfl) (by kernel_rfl) (by kernel_rfl) (fun _ _ _ h => h) (Or.inl ⟨by rfl, fun W hSw => by obtain ⟨d0, d1, d2, d3, d4, d5⟩ := hSw; go_simp⟩) hHeld ?_
    simp only [put_some, List.set_cons_zero, List.set_cons_succ]
    refine takeH (i := 4) (d := some 29) (v := .pointer (some ⟨w.heap.size, 0, none⟩)) rfl rfl (by kernel_rfl) (by kernel_rfl) (by kernel_rfl) (fun _ _ _ h => h) (Or.inl ⟨by rfl, fun W hSw => by obtain ⟨d0, d1, d2, d3, d4, d5⟩ := hSw; go_simp⟩) hHeld ?_
    simp only [put_some, List.set_cons_zero, List.set_cons_succ]
    refine takeH (i := 5) (d := some 30) (v := .int .i64 (q : Int)) rfl rfl (by kernel_rfl) (by kernel_rfl) (by kernel_rfl) (fun _ _ _ h => h) (Or.inl ⟨by rfl, fun W hSw => by obtain ⟨d0, d1, d2, d3, d4, d5⟩ := hSw; go_simp⟩) hHeld ?_
    simp only [put_some, List.set_cons_zero, List.set_cons_succ]
    refine takeH (i := 6) (d := some 31) (v := .pointer (some ⟨cb, co + q, none⟩)) rfl rfl (by kernel_rfl) (by kernel_rfl) (by kernel_rfl) (fun _ _ _ h => h) (Or.inl ⟨by rfl, fun W hSw => by obtain ⟨d0, d1, d2, d3, d4, d5⟩ := hSw; go_simp⟩) hHeld ?_
    simp only [put_some, List.set_cons_zero, List.set_cons_succ]
    refine takeH (i := 7) (d := some 32) (v := .int .i64 z) rfl rfl (by kernel_rfl) (by kernel_rfl) (by kernel_rfl) (fun _ _ _ h => h) (Or.inl ⟨by rfl, fun W hSw => by obtain ⟨d0, d1, d2, d3, d4, d5⟩ := hSw; go_simp⟩) hHeld ?_
    simp only [put_some, List.set_cons_zero, List.set_cons_succ]
    refine takeH (i := 8) (d := some 33) (v := .bool false) rfl rfl (by kernel_rfl) (by kernel_rfl) (by kernel_rfl) (fun _ _ _ h => h) (Or.inl ⟨by rfl, fun W hSw => by obtain ⟨d0, d1, d2, d3, d4, d5⟩ := hSw; go_simp⟩) hHeld ?_
    simp only [put_some, List.set_cons_zero, List.set_cons_succ]
    refine takeH (i := 9) (d := some 34) (v := .bool false) rfl rfl (by kernel_rfl) (by kernel_rfl) (by kernel_rfl) (fun _ _ _ h => h) (Or.inl ⟨by rfl, fun W hSw => by obtain ⟨d0, d1, d2, d3, d4, d5⟩ := hSw; go_simp⟩) hHeld ?_
    simp only [put_some, List.set_cons_zero, List.set_cons_succ]
    refine takeH (i := 10) (d := some 35) (v := undef) rfl rfl (by kernel_rfl) (by kernel_rfl) (by kernel_rfl) (fun _ _ _ h => h) (Or.inr ⟨by rfl, rfl⟩) hHeld ?_
    simp only [put_some, List.set_cons_zero, List.set_cons_succ]
    refine takeH (i := 11) (d := some 36) (v := undef) rfl rfl (by kernel_rfl) (by kernel_rfl) (by kernel_rfl) (fun _ _ _ h => h) (Or.inr ⟨by rfl, rfl⟩) hHeld ?_
    simp only [put_some, List.set_cons_zero, List.set_cons_succ]
    refine takeH (i := 12) (d := some 37) (v := undef) rfl rfl (by kernel_rfl) (by kernel_rfl) (by kernel_rfl) (fun _ _ _ h => h) (Or.inr ⟨by rfl, rfl⟩) hHeld ?_
    simp only [put_some, List.set_cons_zero, List.set_cons_succ]
    refine takeH (i := 13) (d := some 38) (v := .bool false) rfl rfl (by kernel_rfl) (by kernel_rfl) (by kernel_rfl) (fun _ _ _ h => h) (Or.inl ⟨by rfl, fun W hSw => by obtain ⟨d0, d1, d2, d3, d4, d5⟩ := hSw; go_simp⟩) hHeld ?_
    simp only [put_some, List.set_cons_zero, List.set_cons_succ]
    refine takeH (i := 14) (d := some 4) (v := .bool false) rfl rfl (by kernel_rfl) (by kernel_rfl) (by kernel_rfl) (fun _ _ _ h => h) (Or.inl ⟨by rfl, fun W hSw => by obtain ⟨d0, d1, d2, d3, d4, d5⟩ := hSw; go_simp⟩) hHeld ?_
    simp only [put_some, List.set_cons_zero, List.set_cons_succ]
    refine wpAnyH_done (by kernel_rfl) ?_ _
    go_wp2
    go_ret
    exact ⟨rfl, B0.trans (hB'.mono B0.size)⟩

end Go.Proofs.YtafoldpmodipaaaDoor

/- The contract of impl's formOk (written by mk_I11g.py). -/
namespace Go.Proofs.YtafoldpmodipaaaDoor
open Go.RowKit

theorem own_1 (cols : List Int) {t : T} (h : t.kind = 1) : t.own cols = (t.bare && (t.l.length == 0)) := by
  unfold T.own
  rw [if_pos h]
theorem own_2 (cols : List Int) {t : T} (h : t.kind = 2) : t.own cols = (((Num.inB t.col 0 ((cols.length : Int) - 1) && Num.inB t.op 1 6) && (t.v.ty == cols.getD t.col.toNat 0 && okV t.v)) && (t.l.length == 0)) := by
  unfold T.own
  rw [if_neg (by omega), if_pos h]
  cases Num.inB t.col 0 ((cols.length : Int) - 1) <;> cases okV t.v <;> cases (t.v.ty == cols.getD t.col.toNat 0) <;> cases Num.inB t.op 1 6 <;> rfl
theorem own_3 (cols : List Int) {t : T} (h : t.kind = 3) : t.own cols = (t.bare && Num.inB t.l.length 1 4) := by
  unfold T.own
  rw [if_neg (by omega), if_neg (by omega), if_pos (.inl h)]
theorem own_4 (cols : List Int) {t : T} (h : t.kind = 4) : t.own cols = (t.bare && Num.inB t.l.length 1 4) := by
  unfold T.own
  rw [if_neg (by omega), if_neg (by omega), if_pos (.inr h)]
theorem own_5 (cols : List Int) {t : T} (h : t.kind = 5) : t.own cols = (t.bare && (t.l.length == 1)) := by
  unfold T.own
  rw [if_neg (by omega), if_neg (by omega), if_neg (by omega), show (t.kind == 5) = true by simpa using h, Bool.true_and]
theorem own_no (cols : List Int) {t : T} (h1 : ¬ t.kind = 1) (h2 : ¬ t.kind = 2) (h3 : ¬ t.kind = 3) (h4 : ¬ t.kind = 4) (h5 : ¬ t.kind = 5) : t.own cols = false := by
  unfold T.own
  rw [if_neg h1, if_neg h2, if_neg (by omega), show (t.kind == 5) = false by simpa using h5, Bool.false_and]

set_option maxRecDepth 100000 in
set_option maxHeartbeats 8000000 in
theorem iFormOk (cols : List Int) (m cap n ucap : Nat) (a ua : Option Addr) (t : T) (w : World) (hm : cols.length = m) (hn : t.l.length = n) (hss : t.v.s.size ≤ maxLen) (hv : Rd 1 w (.slice a m cap) m (ints .i64 cols)) :
    Calls Tryd.prog 97 #[.slice a m cap, t.agg (.slice ua n ucap)] w fun e w' => e = .returned (.bool (t.own cols)) ∧ Below w.heap.size w w' := by
  have HN := Lib.hid hn
  have B0 := below_alloc w (.cells #[.int .i64 t.kind, .int .i64 t.col, .int .i64 t.op, .int .i64 t.v.ty, .int .i64 t.v.n, .string t.v.s, .slice ua n ucap] 36)
  have C0 := blk_new w [.int .i64 t.kind, .int .i64 t.col, .int .i64 t.op, .int .i64 t.v.ty, .int .i64 t.v.n, .string t.v.s, .slice ua n ucap] 36
  have HCO := Lib.hid (fun W => condOf t (.slice ua n ucap) W ⟨ua, n, ucap, rfl⟩)
  have HBA := Lib.hid (fun W => iBare t ua n ucap W)
  have HFI := Lib.hid (fun W (hW : Below w.heap.size w W) => iFitsC cols m cap a t.col t.op t.v.ty t.v.n t.v.s W hm hss (hv.below hW))
  generalize hw0 : w.alloc (.cells #[.int .i64 t.kind, .int .i64 t.col, .int .i64 t.op, .int .i64 t.v.ty, .int .i64 t.v.n, .string t.v.s, .slice ua n ucap] 36) = w0 at B0 C0
  have HW0 := Lib.hid hw0
  have HK : Hid (∀ X, Below w0.heap.size w0 X → X.cell? ⟨w.heap.size, 0, none⟩ = some (.int .i64 t.kind) ∧ X.cell? ⟨w.heap.size, 1, none⟩ = some (.int .i64 t.col) ∧ X.cell? ⟨w.heap.size, 2, none⟩ = some (.int .i64 t.op) ∧ X.cell? ⟨w.heap.size, 3, none⟩ = some (.int .i64 t.v.ty) ∧ X.cell? ⟨w.heap.size, 4, none⟩ = some (.int .i64 t.v.n) ∧ X.cell? ⟨w.heap.size, 5, none⟩ = some (.string t.v.s) ∧ X.cell? ⟨w.heap.size, 6, none⟩ = some (.slice ua n ucap)) := fun X h => ⟨(C0.below h 0 _ rfl).1, (C0.below h 1 _ rfl).1, (C0.below h 2 _ rfl).1, (C0.below h 3 _ rfl).1, (C0.below h 4 _ rfl).1, (C0.below h 5 _ rfl).1, (C0.below h 6 _ rfl).1⟩
  clear hw0 C0 hv hss hn
  simp only [T.agg] at HCO HBA ⊢
  subst hm
  generalize hmm : cols.length = m at HFI ⊢
  have HMM := Lib.hid hmm
  by_cases k1 : t.kind = 1
  · rw [condV_1 _ k1] at HCO
    rw [own_1 cols k1, HN.out]
    have a1 : ∀ W : World, (Instr.typeAssert (.iface 140 (.agg #[])) 104 140 true).run Tryd.prog W = .ok (.tuple #[.agg #[], .bool true]) W := fun W => by kernel_rfl
    clear k1
    by_cases h0 : n = 0
    · subst h0
      rw [show (t.bare && ((0 : Nat) == 0)) = t.bare by rw [show ((0 : Nat) == 0) = true from rfl, Bool.and_true]]
      generalize t.bare = r at HBA ⊢
      clear HN
      go_enter Tryd.func97, Tryd.ntmps97
      go_wp2_with fail
      rw [HW0.out]
      refine (HCO.out _).mono ?_
      rintro e w1 ⟨rfl, b1⟩
      have B1 := below_then B0 b1 B0.size
      have K1 := b1
      clear b1
      have A2 := below_alloc w1 (.cells #[] 140)
      have B2 := below_then B1 A2 B1.size
      have K2 := below_then K1 A2 K1.size
      obtain ⟨q0, q1, q2, q3, q4, q5, q6⟩ := HK.out _ K2
      go_wp2_with fail
      refine (HBA.out _).mono ?_
      rintro e w3 ⟨rfl, b3⟩
      have B3 := below_then B2 b3 B2.size
      clear b3 q0 q1 q2 q3 q4 q5 q6
      go_wp2
      go_ret
      exact ⟨rfl, B3⟩
    · have hnb : (n == 0) = false := by simpa using h0
      have hni : ¬ (n : Int) = 0 := by omega
      rw [hnb, Bool.and_false]
      clear HN
      go_enter Tryd.func97, Tryd.ntmps97
      go_wp2_with fail
      rw [HW0.out]
      refine (HCO.out _).mono ?_
      rintro e w1 ⟨rfl, b1⟩
      have B1 := below_then B0 b1 B0.size
      have K1 := b1
      clear b1
      have B2 := B1.alloc B1.size (.cells #[] 140)
      go_wp2
      go_ret
      exact ⟨rfl, B2⟩
  by_cases k2 : t.kind = 2
  · rw [condV_2 _ k2] at HCO
    rw [own_2 cols k2, HN.out, HMM.out]
    have a1 : ∀ W : World, (Instr.typeAssert (.iface 142 (.agg #[.int .i64 t.col, .int .i64 t.op, .int .i64 t.v.ty, .int .i64 t.v.n, .string t.v.s])) 104 140 true).run Tryd.prog W = .ok (.tuple #[.agg #[], .bool false]) W := fun W => by kernel_rfl
    have a2 : ∀ W : World, (Instr.typeAssert (.iface 142 (.agg #[.int .i64 t.col, .int .i64 t.op, .int .i64 t.v.ty, .int .i64 t.v.n, .string t.v.s])) 104 142 true).run Tryd.prog W = .ok (.tuple #[.agg #[.int .i64 t.col, .int .i64 t.op, .int .i64 t.v.ty, .int .i64 t.v.n, .string t.v.s], .bool true]) W := fun W => by kernel_rfl
    clear k1 k2
    by_cases h0 : n = 0
    · subst h0
      rw [show (((Num.inB t.col 0 ((m : Int) - 1) && Num.inB t.op 1 6) && (t.v.ty == cols.getD t.col.toNat 0 && okV t.v)) && ((0 : Nat) == 0)) = ((Num.inB t.col 0 ((m : Int) - 1) && Num.inB t.op 1 6) && (t.v.ty == cols.getD t.col.toNat 0 && okV t.v)) by rw [show ((0 : Nat) == 0) = true from rfl, Bool.and_true]]
      generalize ((Num.inB t.col 0 ((m : Int) - 1) && Num.inB t.op 1 6) && (t.v.ty == cols.getD t.col.toNat 0 && okV t.v)) = r at HFI ⊢
      clear HN
      go_enter Tryd.func97, Tryd.ntmps97
      go_wp2_with fail
      rw [HW0.out]
      refine (HCO.out _).mono ?_
      rintro e w1 ⟨rfl, b1⟩
      have B1 := below_then B0 b1 B0.size
      have K1 := b1
      clear b1
      have A2 := below_alloc w1 (.cells #[.int .i64 t.col, .int .i64 t.op, .int .i64 t.v.ty, .int .i64 t.v.n, .string t.v.s] 142)
      have B2 := below_then B1 A2 B1.size
      have K2 := below_then K1 A2 K1.size
      obtain ⟨q0, q1, q2, q3, q4, q5, q6⟩ := HK.out _ K2
      go_wp2_with fail
      refine (HFI.out _ B2).mono ?_
      rintro e w3 ⟨rfl, b3⟩
      have B3 := below_then B2 b3 B2.size
      clear b3 q0 q1 q2 q3 q4 q5 q6
      go_wp2
      go_ret
      exact ⟨rfl, B3⟩
    · have hnb : (n == 0) = false := by simpa using h0
      have hni : ¬ (n : Int) = 0 := by omega
      rw [hnb, Bool.and_false]
      clear HN
      go_enter Tryd.func97, Tryd.ntmps97
      go_wp2_with fail
      rw [HW0.out]
      refine (HCO.out _).mono ?_
      rintro e w1 ⟨rfl, b1⟩
      have B1 := below_then B0 b1 B0.size
      have K1 := b1
      clear b1
      have B2 := B1.alloc B1.size (.cells #[.int .i64 t.col, .int .i64 t.op, .int .i64 t.v.ty, .int .i64 t.v.n, .string t.v.s] 142)
      go_wp2
      go_ret
      exact ⟨rfl, B2⟩
  by_cases k3 : t.kind = 3
  · rw [condV_3 _ k3] at HCO
    rw [own_3 cols k3, HN.out]
    have a1 : ∀ W : World, (Instr.typeAssert (.iface 143 (.slice ua n ucap)) 104 140 true).run Tryd.prog W = .ok (.tuple #[.agg #[], .bool false]) W := fun W => by kernel_rfl
    have a2 : ∀ W : World, (Instr.typeAssert (.iface 143 (.slice ua n ucap)) 104 142 true).run Tryd.prog W = .ok (.tuple #[.agg #[.int .i64 0, .int .i64 0, .int .i64 0, .int .i64 0, .string ⟨#[]⟩], .bool false]) W := fun W => by kernel_rfl
    have a3 : ∀ W : World, (Instr.typeAssert (.iface 143 (.slice ua n ucap)) 104 143 true).run Tryd.prog W = .ok (.tuple #[.slice ua n ucap, .bool true]) W := fun W => by kernel_rfl
    have a4 : ∀ W : World, (Instr.typeAssert (.iface 143 (.slice ua n ucap)) 104 144 true).run Tryd.prog W = .ok (.tuple #[.slice none 0 0, .bool false]) W := fun W => by kernel_rfl
    have a5 : ∀ W : World, (Instr.typeAssert (.iface 143 (.slice ua n ucap)) 104 145 true).run Tryd.prog W = .ok (.tuple #[.slice none 0 0, .bool false]) W := fun W => by kernel_rfl
    clear k1 k2 k3
    by_cases h1 : n < 1
    · have hb : (t.bare && Num.inB (n : Int) 1 4) = false := by
        rw [show Num.inB (n : Int) 1 4 = false by rw [← Bool.not_eq_true, Num.inB_true]; omega, Bool.and_false]
      rw [hb]
      have hni : ¬ (1 : Int) ≤ (n : Int) := by omega
      clear HN hb
      go_enter Tryd.func97, Tryd.ntmps97
      go_wp2_with fail
      rw [HW0.out]
      refine (HCO.out _).mono ?_
      rintro e w1 ⟨rfl, b1⟩
      have B1 := below_then B0 b1 B0.size
      have K1 := b1
      clear b1
      go_wp2
      go_ret
      exact ⟨rfl, B1⟩
    by_cases h2 : 4 < n
    · have hb : (t.bare && Num.inB (n : Int) 1 4) = false := by
        rw [show Num.inB (n : Int) 1 4 = false by rw [← Bool.not_eq_true, Num.inB_true]; omega, Bool.and_false]
      rw [hb]
      have hni : (1 : Int) ≤ (n : Int) := by omega
      have hnj : ¬ (n : Int) ≤ 4 := by omega
      clear HN hb
      go_enter Tryd.func97, Tryd.ntmps97
      go_wp2_with fail
      rw [HW0.out]
      refine (HCO.out _).mono ?_
      rintro e w1 ⟨rfl, b1⟩
      have B1 := below_then B0 b1 B0.size
      have K1 := b1
      clear b1
      go_wp2
      go_ret
      exact ⟨rfl, B1⟩
    · have hb : (t.bare && Num.inB (n : Int) 1 4) = t.bare := by
        rw [show Num.inB (n : Int) 1 4 = true by rw [Num.inB_true]; omega, Bool.and_true]
      rw [hb]
      have hni : (1 : Int) ≤ (n : Int) := by omega
      have hnj : (n : Int) ≤ 4 := by omega
      generalize t.bare = r at HBA ⊢
      clear HN hb
      go_enter Tryd.func97, Tryd.ntmps97
      go_wp2_with fail
      rw [HW0.out]
      refine (HCO.out _).mono ?_
      rintro e w1 ⟨rfl, b1⟩
      have B1 := below_then B0 b1 B0.size
      have K1 := b1
      clear b1
      have B2 := B1
      have K2 := K1
      obtain ⟨q0, q1, q2, q3, q4, q5, q6⟩ := HK.out _ K2
      go_wp2_with fail
      refine (HBA.out _).mono ?_
      rintro e w3 ⟨rfl, b3⟩
      have B3 := below_then B2 b3 B2.size
      clear b3 q0 q1 q2 q3 q4 q5 q6
      go_wp2
      go_ret
      exact ⟨rfl, B3⟩
  by_cases k4 : t.kind = 4
  · rw [condV_4 _ k4] at HCO
    rw [own_4 cols k4, HN.out]
    have a1 : ∀ W : World, (Instr.typeAssert (.iface 144 (.slice ua n ucap)) 104 140 true).run Tryd.prog W = .ok (.tuple #[.agg #[], .bool false]) W := fun W => by kernel_rfl
    have a2 : ∀ W : World, (Instr.typeAssert (.iface 144 (.slice ua n ucap)) 104 142 true).run Tryd.prog W = .ok (.tuple #[.agg #[.int .i64 0, .int .i64 0, .int .i64 0, .int .i64 0, .string ⟨#[]⟩], .bool false]) W := fun W => by kernel_rfl
    have a3 : ∀ W : World, (Instr.typeAssert (.iface 144 (.slice ua n ucap)) 104 143 true).run Tryd.prog W = .ok (.tuple #[.slice none 0 0, .bool false]) W := fun W => by kernel_rfl
    have a4 : ∀ W : World, (Instr.typeAssert (.iface 144 (.slice ua n ucap)) 104 144 true).run Tryd.prog W = .ok (.tuple #[.slice ua n ucap, .bool true]) W := fun W => by kernel_rfl
    clear k1 k2 k3 k4
    by_cases h1 : n < 1
    · have hb : (t.bare && Num.inB (n : Int) 1 4) = false := by
        rw [show Num.inB (n : Int) 1 4 = false by rw [← Bool.not_eq_true, Num.inB_true]; omega, Bool.and_false]
      rw [hb]
      have hni : ¬ (1 : Int) ≤ (n : Int) := by omega
      clear HN hb
      go_enter Tryd.func97, Tryd.ntmps97
      go_wp2_with fail
      rw [HW0.out]
      refine (HCO.out _).mono ?_
      rintro e w1 ⟨rfl, b1⟩
      have B1 := below_then B0 b1 B0.size
      have K1 := b1
      clear b1
      go_wp2
      go_ret
      exact ⟨rfl, B1⟩
    by_cases h2 : 4 < n
    · have hb : (t.bare && Num.inB (n : Int) 1 4) = false := by
        rw [show Num.inB (n : Int) 1 4 = false by rw [← Bool.not_eq_true, Num.inB_true]; omega, Bool.and_false]
      rw [hb]
      have hni : (1 : Int) ≤ (n : Int) := by omega
      have hnj : ¬ (n : Int) ≤ 4 := by omega
      clear HN hb
      go_enter Tryd.func97, Tryd.ntmps97
      go_wp2_with fail
      rw [HW0.out]
      refine (HCO.out _).mono ?_
      rintro e w1 ⟨rfl, b1⟩
      have B1 := below_then B0 b1 B0.size
      have K1 := b1
      clear b1
      go_wp2
      go_ret
      exact ⟨rfl, B1⟩
    · have hb : (t.bare && Num.inB (n : Int) 1 4) = t.bare := by
        rw [show Num.inB (n : Int) 1 4 = true by rw [Num.inB_true]; omega, Bool.and_true]
      rw [hb]
      have hni : (1 : Int) ≤ (n : Int) := by omega
      have hnj : (n : Int) ≤ 4 := by omega
      generalize t.bare = r at HBA ⊢
      clear HN hb
      go_enter Tryd.func97, Tryd.ntmps97
      go_wp2_with fail
      rw [HW0.out]
      refine (HCO.out _).mono ?_
      rintro e w1 ⟨rfl, b1⟩
      have B1 := below_then B0 b1 B0.size
      have K1 := b1
      clear b1
      have B2 := B1
      have K2 := K1
      obtain ⟨q0, q1, q2, q3, q4, q5, q6⟩ := HK.out _ K2
      go_wp2_with fail
      refine (HBA.out _).mono ?_
      rintro e w3 ⟨rfl, b3⟩
      have B3 := below_then B2 b3 B2.size
      clear b3 q0 q1 q2 q3 q4 q5 q6
      go_wp2
      go_ret
      exact ⟨rfl, B3⟩
  by_cases k5 : t.kind = 5
  · rw [condV_5 _ k5] at HCO
    rw [own_5 cols k5, HN.out]
    have a1 : ∀ W : World, (Instr.typeAssert (.iface 145 (.slice ua n ucap)) 104 140 true).run Tryd.prog W = .ok (.tuple #[.agg #[], .bool false]) W := fun W => by kernel_rfl
    have a2 : ∀ W : World, (Instr.typeAssert (.iface 145 (.slice ua n ucap)) 104 142 true).run Tryd.prog W = .ok (.tuple #[.agg #[.int .i64 0, .int .i64 0, .int .i64 0, .int .i64 0, .string ⟨#[]⟩], .bool false]) W := fun W => by kernel_rfl
    have a3 : ∀ W : World, (Instr.typeAssert (.iface 145 (.slice ua n ucap)) 104 143 true).run Tryd.prog W = .ok (.tuple #[.slice none 0 0, .bool false]) W := fun W => by kernel_rfl
    have a4 : ∀ W : World, (Instr.typeAssert (.iface 145 (.slice ua n ucap)) 104 144 true).run Tryd.prog W = .ok (.tuple #[.slice none 0 0, .bool false]) W := fun W => by kernel_rfl
    have a5 : ∀ W : World, (Instr.typeAssert (.iface 145 (.slice ua n ucap)) 104 145 true).run Tryd.prog W = .ok (.tuple #[.slice ua n ucap, .bool true]) W := fun W => by kernel_rfl
    clear k1 k2 k3 k4 k5
    by_cases h1 : n = 1
    · subst h1
      rw [show (t.bare && ((1 : Nat) == 1)) = t.bare by rw [show ((1 : Nat) == 1) = true from rfl, Bool.and_true]]
      generalize t.bare = r at HBA ⊢
      clear HN
      go_enter Tryd.func97, Tryd.ntmps97
      go_wp2_with fail
      rw [HW0.out]
      refine (HCO.out _).mono ?_
      rintro e w1 ⟨rfl, b1⟩
      have B1 := below_then B0 b1 B0.size
      have K1 := b1
      clear b1
      have B2 := B1
      have K2 := K1
      obtain ⟨q0, q1, q2, q3, q4, q5, q6⟩ := HK.out _ K2
      go_wp2_with fail
      refine (HBA.out _).mono ?_
      rintro e w3 ⟨rfl, b3⟩
      have B3 := below_then B2 b3 B2.size
      clear b3 q0 q1 q2 q3 q4 q5 q6
      go_wp2
      go_ret
      exact ⟨rfl, B3⟩
    · have hnb : (n == 1) = false := by simpa using h1
      have hni : ¬ (n : Int) = 1 := by omega
      rw [hnb, Bool.and_false]
      clear HN
      go_enter Tryd.func97, Tryd.ntmps97
      go_wp2_with fail
      rw [HW0.out]
      refine (HCO.out _).mono ?_
      rintro e w1 ⟨rfl, b1⟩
      have B1 := below_then B0 b1 B0.size
      have K1 := b1
      clear b1
      go_wp2
      go_ret
      exact ⟨rfl, B1⟩
  rw [condV_no _ k1 k2 k3 k4 k5] at HCO
  rw [own_no cols k1 k2 k3 k4 k5]
  have a1 : ∀ W : World, (Instr.typeAssert (.iface 153 (.agg #[])) 104 140 true).run Tryd.prog W = .ok (.tuple #[.agg #[], .bool false]) W := fun W => by kernel_rfl
  have a2 : ∀ W : World, (Instr.typeAssert (.iface 153 (.agg #[])) 104 142 true).run Tryd.prog W = .ok (.tuple #[.agg #[.int .i64 0, .int .i64 0, .int .i64 0, .int .i64 0, .string ⟨#[]⟩], .bool false]) W := fun W => by kernel_rfl
  have a3 : ∀ W : World, (Instr.typeAssert (.iface 153 (.agg #[])) 104 143 true).run Tryd.prog W = .ok (.tuple #[.slice none 0 0, .bool false]) W := fun W => by kernel_rfl
  have a4 : ∀ W : World, (Instr.typeAssert (.iface 153 (.agg #[])) 104 144 true).run Tryd.prog W = .ok (.tuple #[.slice none 0 0, .bool false]) W := fun W => by kernel_rfl
  have a5 : ∀ W : World, (Instr.typeAssert (.iface 153 (.agg #[])) 104 145 true).run Tryd.prog W = .ok (.tuple #[.slice none 0 0, .bool false]) W := fun W => by kernel_rfl
  clear HN k1 k2 k3 k4 k5
  go_enter Tryd.func97, Tryd.ntmps97
  go_wp2_with fail
  rw [HW0.out]
  refine (HCO.out _).mono ?_
  rintro e w1 ⟨rfl, b1⟩
  have B1 := below_then B0 b1 B0.size
  have K1 := b1
  clear b1
  go_wp2
  go_ret
  exact ⟨rfl, B1⟩

end Go.Proofs.YtafoldpmodipaaaDoor
