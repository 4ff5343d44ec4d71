/- The contracts of impl's takeIn, joined, Runs. -/
import Derived.Test.YthniakklkepomaaRowS
import Derived.Test.YthniakklkepomaaI6
import Derived.Deep.RegionLaw
namespace Go.Proofs.Ythniakklkepomaa
open Go.RowKit Go.Lib

theorem wrapNum {x : Int} (h0 : -9223372036854775808 ≤ x) (h1 : x ≤ 9223372036854775807) : IntKind.i64.wrap x = x := by
  simp only [IntKind.wrap, IntKind.bits, IntKind.signed]
  go_num
/-- A Run that stands somewhere in a block. -/
def FourAt (W : World) (g o : Nat) (u : U) : Prop :=
  W.cell? ⟨g, o, none⟩ = some (.int .i64 u.v.ty) ∧ W.cell? ⟨g, o + 1, none⟩ = some (.int .i64 u.v.n) ∧ W.cell? ⟨g, o + 2, none⟩ = some (.string u.v.s) ∧ W.cell? ⟨g, o + 3, none⟩ = some (.int .i64 u.k) ∧ W.frozen? ⟨g, o + 3, none⟩ = false
theorem FourAt.below {W W' : World} {g o : Nat} {u : U} (h : FourAt W g o u) (hb : Below W.heap.size W W') : FourAt W' g o u := by
  have hlt := lt_of_cell h.1
  exact ⟨(hb.cell (p := ⟨g, o, none⟩) hlt).trans h.1, (hb.cell (p := ⟨g, o + 1, none⟩) hlt).trans h.2.1, (hb.cell (p := ⟨g, o + 2, none⟩) hlt).trans h.2.2.1, (hb.cell (p := ⟨g, o + 3, none⟩) hlt).trans h.2.2.2.1, (hb.frozen (p := ⟨g, o + 3, none⟩) hlt).trans h.2.2.2.2⟩

set_option maxHeartbeats 1000000 in
theorem takeIn_no (g off : Nat) (x y : U) (w : World) (h : FourAt w g off x) (he : x.v.eqB y.v = false) (hx : 0 ≤ x.k ∧ x.k ≤ 1048576) (hy : 0 ≤ y.k ∧ y.k ≤ 1048576) :
    Calls Try.prog 71 #[.pointer (some ⟨g, off, none⟩), y.agg] w fun e w' => e = .returned (.bool false) ∧ Below w.heap.size w w' := by
  have ba := below_alloc w (.cells #[.int .i64 y.v.ty, .int .i64 y.v.n, .string y.v.s, .int .i64 y.k] 57)
  have hq := run_neq_val x.v y.v
  rw [he] at hq
  have h4 := h.below ba
  have F0 := four_new w y 57
  obtain ⟨⟨t1, n1, s1⟩, k1⟩ := x
  obtain ⟨⟨t2, n2, s2⟩, k2⟩ := y
  simp only at ba hq h4 F0 hx hy
  have hsz : (w.alloc (.cells #[.int .i64 t2, .int .i64 n2, .string s2, .int .i64 k2] 57)).heap.size = w.heap.size + 1 := World.size_alloc _ _
  generalize hwb : w.alloc (.cells #[.int .i64 t2, .int .i64 n2, .string s2, .int .i64 k2] 57) = wb at ba h4 F0
  have HWB := Lib.hid hwb
  obtain ⟨⟨e0, e1, e2, e3⟩, _⟩ := F0
  obtain ⟨g0, g1, g2, g3, gf⟩ := h4
  simp only at e0 e1 e2 e3 g0 g1 g2 g3
  clear hwb he h hsz
  go_enter Try.func71, Try.ntmps71
  go_wp2_with fail
  rw [HWB.out]
  go_quiet (fail)
  go_wp2
  go_ret
  exact ⟨rfl, ba.trans (below_drewN _ _ _)⟩
set_option maxHeartbeats 1000000 in
theorem takeIn_yes (g off : Nat) (x y : U) (w : World) (h : FourAt w g off x) (he : x.v.eqB y.v = true) (hx : 0 ≤ x.k ∧ x.k ≤ 1048576) (hy : 0 ≤ y.k ∧ y.k ≤ 1048576) :
    Calls Try.prog 71 #[.pointer (some ⟨g, off, none⟩), y.agg] w fun e w' => e = .returned (.bool true) ∧ ∃ wm, Below w.heap.size w wm ∧ w' = wm.setCell ⟨g, off + 3, none⟩ (.int .i64 (x.k + y.k)) := by
  have ba := below_alloc w (.cells #[.int .i64 y.v.ty, .int .i64 y.v.n, .string y.v.s, .int .i64 y.k] 57)
  have hq := run_neq_val x.v y.v
  rw [he] at hq
  have h4 := h.below ba
  have F0 := four_new w y 57
  obtain ⟨⟨t1, n1, s1⟩, k1⟩ := x
  obtain ⟨⟨t2, n2, s2⟩, k2⟩ := y
  simp only at ba hq h4 F0 hx hy
  have hsz : (w.alloc (.cells #[.int .i64 t2, .int .i64 n2, .string s2, .int .i64 k2] 57)).heap.size = w.heap.size + 1 := World.size_alloc _ _
  generalize hwb : w.alloc (.cells #[.int .i64 t2, .int .i64 n2, .string s2, .int .i64 k2] 57) = wb at ba h4 F0
  have HWB := Lib.hid hwb
  obtain ⟨⟨e0, e1, e2, e3⟩, _⟩ := F0
  obtain ⟨g0, g1, g2, g3, gf⟩ := h4
  simp only at e0 e1 e2 e3 g0 g1 g2 g3
  clear hwb he h hsz
  go_enter Try.func71, Try.ntmps71
  go_wp2_with fail
  rw [HWB.out]
  go_quiet (fail)
  go_wp2
  have b2 := ba.trans (below_drewN wb w.heap.size nq)
  have z3 : (wb.drewN nq).cell? ⟨g, off + 3, none⟩ = some (.int .i64 k1) := g3
  have y3 : (wb.drewN nq).cell? ⟨w.heap.size, 3, none⟩ = some (.int .i64 k2) := e3
  have zf : (wb.drewN nq).frozen? ⟨g, off + 3, none⟩ = false := gf
  have hwr : IntKind.i64.wrap (k1 + k2) = k1 + k2 := wrapNum (by omega) (by omega)
  clear g0 g1 g2 g3 gf e0 e1 e2 e3 hq ba HWB
  generalize wb.drewN nq = wd at b2 z3 y3 zf
  go_region
  go_wp2
  go_ret
  exact ⟨rfl, wd.drew, b2.trans (below_drewN wd w.heap.size 1), rfl⟩

theorem Try.elemRunL : ElemT Try.prog 70 57 U.zero.agg 4 40 := ⟨Try.underlying70, info_parts (by kernel_rfl), rfl, by decide⟩

/-- A list on its way to its runs: k values are in, the first of A are their runs, and what comes is still there. -/
def Joins (l : List V) (A : List U) (k : Nat) : Prop :=
  A.length = l.length ∧ A.take (runsL (l.take k)).length = runsL (l.take k) ∧ ∀ j, k ≤ j → j < l.length → A.getD j U.zero = ⟨l.getD j V.zero, 1⟩
theorem joins_start (l : List V) : Joins l (l.map fun v => ⟨v, 1⟩) 0 := by
  refine ⟨by simp, rfl, fun j _ hj => ?_⟩
  simp [hj]
theorem runs_step {l : List V} {k : Nat} (hk : k < l.length) : runsL (l.take (k + 1)) = addRun (runsL (l.take k)) (l.getD k V.zero) := by
  have e : l.getD k V.zero = l[k] := by simp [hk]
  rw [e, List.take_succ_eq_append_getElem hk, runsL_snoc]
theorem runs_le (l : List V) {k : Nat} (hk : k ≤ l.length) : (runsL (l.take k)).length ≤ k := by
  have := runsL_len (l.take k)
  have e : (l.take k).length = k := by simp; omega
  omega
theorem take_set_snoc {α : Type} (A : List α) (e : Nat) (x : α) (h : e < A.length) : (A.set e x).take (e + 1) = A.take e ++ [x] := by
  rw [List.take_succ_eq_append_getElem (by simpa using h), List.take_set_of_le (Nat.le_refl _)]
  simp
theorem getD_set_ne {α : Type} (A : List α) {i j : Nat} (x d : α) (h : i ≠ j) : (A.set i x).getD j d = A.getD j d := by
  simp [List.getD, List.getElem?_set_ne h]
theorem joins_new {l : List V} {A : List U} {k : Nat} (h : Joins l A k) (hk : k < l.length) (hne : (runsL (l.take k)).length = 0 ∨ (lastU (runsL (l.take k))).v.eqB (l.getD k V.zero) = false) :
    Joins l (A.set (runsL (l.take k)).length ⟨l.getD k V.zero, 1⟩) (k + 1) ∧ (runsL (l.take (k + 1))).length = (runsL (l.take k)).length + 1 := by
  have e1 : runsL (l.take (k + 1)) = runsL (l.take k) ++ [⟨l.getD k V.zero, 1⟩] := by
    rw [runs_step hk]
    rcases hne with h1 | h1
    · exact addRun_new h1
    · exact addRun_ne h1
  have hle := runs_le l (Nat.le_of_lt hk)
  refine ⟨⟨by simpa using h.1, ?_, fun j hj hjl => ?_⟩, by rw [e1]; simp⟩
  · rw [e1, List.length_append, List.length_singleton, take_set_snoc _ _ _ (by rw [h.1]; omega), h.2.1]
  · rw [getD_set_ne _ _ _ (by omega)]
    exact h.2.2 j (by omega) hjl
theorem joins_last {l : List V} {A : List U} {k m : Nat} (h : Joins l A k) (hm : (runsL (l.take k)).length = m + 1) : A.getD m U.zero = (runsL (l.take k)).getD m U.zero := by
  have e := h.2.1
  rw [hm] at e
  rw [← e]
  simp [List.getD]
theorem joins_eq {l : List V} {A : List U} {k m : Nat} (h : Joins l A k) (hk : k < l.length) (hm : (runsL (l.take k)).length = m + 1) (heq : (A.getD m U.zero).v.eqB (l.getD k V.zero) = true) :
    Joins l (A.set m ⟨(A.getD m U.zero).v, (A.getD m U.zero).k + 1⟩) (k + 1) ∧ (runsL (l.take (k + 1))).length = m + 1 := by
  have hle := runs_le l (Nat.le_of_lt hk)
  have hA := h.1
  have hx := joins_last h hm
  have e1 : runsL (l.take (k + 1)) = (runsL (l.take k)).set m ⟨(A.getD m U.zero).v, (A.getD m U.zero).k + 1⟩ := by
    rw [runs_step hk, hx]
    exact addRun_eq hm (by rw [← hx]; exact heq)
  refine ⟨⟨by simpa using h.1, ?_, fun j hj hjl => ?_⟩, by rw [e1, List.length_set, hm]⟩
  · rw [e1, List.length_set, hm, take_set_snoc _ _ _ (by omega)]
    have e2 := h.2.1
    rw [hm] at e2
    rw [← e2]
    apply List.ext_getElem
    · simp; omega
    · intro i h1 h2
      simp only [List.length_append, List.length_take, List.length_singleton] at h1
      rw [List.getElem_append, List.getElem_set]
      split
      · rw [if_neg (by simp at *; omega)]
        simp
      · rw [if_pos (by simp at *; omega)]
        simp
  · rw [getD_set_ne _ _ _ (by omega)]
    exact h.2.2 j (by omega) hjl
theorem joins_k {l : List V} {A : List U} {k m : Nat} (h : Joins l A k) (hk : k ≤ l.length) (hm : (runsL (l.take k)).length = m + 1) : 1 ≤ (A.getD m U.zero).k ∧ (A.getD m U.zero).k ≤ k := by
  rw [joins_last h hm]
  have hlt : m < (runsL (l.take k)).length := by omega
  have e : (runsL (l.take k)).getD m U.zero = (runsL (l.take k))[m] := by simp [hlt]
  have hl : (l.take k).length = k := by simp; omega
  have := runsL_k (l.take k) _ (List.getElem_mem hlt)
  rw [hl] at this
  rw [e]
  exact this

/-- An owned slice whose head alone is kept. -/
theorem rus_take (A : List U) (m : Nat) : (rus A).take (m * 4) = rus (A.take m) := by
  induction A generalizing m with
  | nil => simp [rus]
  | cons a A ih =>
    cases m with
    | zero => simp [rus]
    | succ m =>
      have := ih m
      simp only [rus, List.flatMap_cons, List.take_succ_cons] at this ⊢
      rw [show (m + 1) * 4 = a.cs.length + m * 4 by simp [U.cs]; omega, List.take_length_add_append, this]

theorem run_clear_runs (w : World) (ty : TypeId) (g o n c : Nat) (hn : 0 < n) (hc : ∀ j, j < n * 4 → (w.cell? ⟨g, o + j, none⟩).isSome = true) (hf : ∀ j, j < n * 4 → w.frozen? ⟨g, o + j, none⟩ = false) :
    (Builtin.clear_ #[70] ty #[.slice (some ⟨g, o, none⟩) n c]).run Try.prog w = .ok (.tuple #[]) (w.setCells g o (Builtin.zeroCells U.zero.agg.cells n).toList) := by
  have hzl : (Builtin.zeroCells U.zero.agg.cells n).toList.length = n * 4 := by simp [Builtin.zeroCells, U.zero, Value.cells]
  have hst := run_storeCells_cells (P := Try.prog) g o (Builtin.zeroCells U.zero.agg.cells n).toList 0 w (by rw [hzl]; simpa using hc) (by rw [hzl]; simpa using hf) (by
    intro v hv
    simp [Builtin.zeroCells] at hv
    obtain ⟨a, _, rfl⟩ := hv
    have h4 : U.zero.agg.cells.size = 4 := rfl
    rw [h4]
    have h5 : a % 4 < 4 := Nat.mod_lt _ (by omega)
    generalize a % 4 = q at h5
    match q, h5 with
    | 0, _ => rfl
    | 1, _ => rfl
    | 2, _ => rfl
    | 3, _ => rfl)
  have hv : ∀ W, (zeroValue 57).run Try.prog W = .ok U.zero.agg W := fun W => by
    have hz : Try.t57.zero = some U.zero.agg := by kernel_rfl
    simp [zeroValue, hz]
  simp only [Nat.add_zero] at hst
  obtain ⟨m, rfl⟩ : ∃ m, n = m + 1 := ⟨n - 1, by omega⟩
  simp [Builtin.clear_, run_underlying Try.elemRunL.ht, hv, hst]

set_option maxHeartbeats 2000000 in
theorem joined (g n : Nat) (l : List V) (w : World) (lo : Nat) (hn : n ≤ 1048576) (hl : l.length = n) (h : Own 57 4 lo w.heap.size w (.slice (some ⟨g, 0, none⟩) n n) n (rus (l.map fun v => ⟨v, 1⟩))) :
    Calls Try.prog 70 #[.slice (some ⟨g, 0, none⟩) n n, .func (.func 71) #[] #[]] w fun e w' => ∃ v', e = .returned v' ∧ Own 57 4 lo w'.heap.size w' v' (runsL l).length (rus (runsL l)) ∧ Below lo w w' := by
  have HL := Lib.hid hl
  have HJ0 := Lib.hid (joins_start l)
  have HR0 : Hid ((runsL (l.take 0)).length = 0) := rfl
  have hgl : lo ≤ g := by
    obtain ⟨g', c', e', h1, _⟩ := h
    cases e'
    exact h1
  have HLO := Lib.hid hgl
  have hlow := h.lo
  clear hl hgl
  go_enter Try.func70, Try.ntmps70
  go_wp2
  go_loopw [5, 10] (fun c i wr => ∃ (k : Nat) (A : List U), k ≤ n ∧ i = .int .i64 k ∧ c = .int .i64 ((runsL (l.take k)).length : Nat) ∧ Joins l A k ∧ Own 57 4 lo wr.heap.size wr (.slice (some ⟨g, 0, none⟩) n n) n (rus A) ∧ Below lo w wr) (fun _ i _ => n - (intOf i).toNat)
  case atStart => exact ⟨0, _, Nat.zero_le _, rfl, by rw [HR0.out]; rfl, HJ0.out, h, Below.refl _ _⟩
  case round =>
    obtain ⟨k, A, hk, rfl, rfl, hj, hown, hbr⟩ := hrel
    have HJ := Lib.hid hj
    have HAL : Hid (A.length = n) := hj.1.trans HL.out
    by_cases hlt : k < n
    · have hAk := hj.2.2 k (Nat.le_refl _) (by rw [HL.out]; exact hlt)
      have hre := runs_le l (k := k) (by rw [HL.out]; exact hk)
      obtain ⟨b', off', cp', e', _, _, _, hcs⟩ := hown.at
      simp only [Value.slice.injEq, Option.some.injEq, Addr.mk.injEq, and_true, true_and] at e'
      obtain ⟨⟨rfl, rfl⟩, rfl⟩ := e'
      have hkA : k < A.length := by rw [HAL.out]; exact hlt
      obtain ⟨q0, q1, q2, q3⟩ := cells4 hcs hkA
      have hgd : A.getD k U.zero = A[k] := by simp [hkA]
      rw [← hgd, hAk] at q0 q1 q2 q3
      simp only [Nat.zero_add] at q0 q1 q2 q3
      have HN := Lib.hid (joins_new hj (by rw [HL.out]; exact hlt))
      generalize hx : l.getD k V.zero = x at q0 q1 q2 q3 HN
      have HX := Lib.hid hx
      have HM : Hid (∀ m, (runsL (l.take k)).length = m + 1 → 1 ≤ (A.getD m U.zero).k ∧ (A.getD m U.zero).k ≤ k ∧ A.getD m U.zero = lastU (runsL (l.take k)) ∧ ((A.getD m U.zero).v.eqB x = true → Joins l (A.set m ⟨(A.getD m U.zero).v, (A.getD m U.zero).k + 1⟩) (k + 1) ∧ (runsL (l.take (k + 1))).length = m + 1)) := fun m hm => by
        have h1 := joins_k hj (by rw [HL.out]; exact hk) hm
        refine ⟨h1.1, h1.2, ?_, fun he => joins_eq hj (by rw [HL.out]; exact hlt) hm (by rw [HX.out]; exact he)⟩
        rw [joins_last hj hm]
        unfold lastU
        rw [hm]
        rfl
      generalize hee : (runsL (l.take k)).length = ee at hre HN HM
      clear hx hgd hAk hj hcs
      obtain ⟨t1, n1, s1⟩ := x
      simp only at q0 q1 q2 q3
      have ba := below_alloc wr (.cells #[.int .i64 t1, .int .i64 n1, .string s1, .int .i64 1] 57)
      have bt := hbr.alloc hown.lo (.cells #[.int .i64 t1, .int .i64 n1, .string s1, .int .i64 1] 57)
      have F0 := four_new wr ⟨⟨t1, n1, s1⟩, 1⟩ 57
      have O0 := hown.alloc (.cells #[.int .i64 t1, .int .i64 n1, .string s1, .int .i64 1] 57)
      have hszb : (wr.alloc (.cells #[.int .i64 t1, .int .i64 n1, .string s1, .int .i64 1] 57)).heap.size = wr.heap.size + 1 := World.size_alloc _ _
      have O1 : Own 57 4 lo (wr.alloc (.cells #[.int .i64 t1, .int .i64 n1, .string s1, .int .i64 1] 57)).heap.size (wr.alloc (.cells #[.int .i64 t1, .int .i64 n1, .string s1, .int .i64 1] 57)) (.slice (some ⟨g, 0, none⟩) n n) n (rus A) := O0.wide (by rw [hszb]; omega)
      have HGL : Hid (g < wr.heap.size) := by
        obtain ⟨g', c', e', h1, h2, _⟩ := hown
        cases e'
        exact h2
      clear O0 hown hszb
      generalize hwb : wr.alloc (.cells #[.int .i64 t1, .int .i64 n1, .string s1, .int .i64 1] 57) = wb at ba bt F0 O1
      have HWB := Lib.hid hwb
      clear hwb
      cases ee with
      | zero =>
        have HNN := Lib.hid (HN.out (.inl rfl))
        clear HN HM
        go_wp2_with fail
        rw [HWB.out]
        go_quiet (fail)
        have WF : Four (wb.drewN nq) wr.heap.size ⟨⟨t1, n1, s1⟩, 1⟩ := F0
        have WO := O1.drewN nq
        have WB := bt.trans (below_drewN wb lo nq)
        generalize wb.drewN nq = wd at WF WO WB
        have r2 := WO.row
        have hea : 0 < A.length := by rw [HAL.out]; omega
        have R := Lib.hid (stored4 r2 0 ⟨⟨t1, n1, s1⟩, 1⟩ hea)
        obtain ⟨x0, s0⟩ := cellAt_some r2 (0 * 4) (by omega)
        obtain ⟨x1, s1'⟩ := cellAt_some r2 (0 * 4 + 1) (by omega)
        obtain ⟨x2, s2⟩ := cellAt_some r2 (0 * 4 + 2) (by omega)
        obtain ⟨x3, s3⟩ := cellAt_some r2 (0 * 4 + 3) (by omega)
        have f0 := r2.frozenAt (0 * 4)
        have f1 := r2.frozenAt (0 * 4 + 1)
        have f2 := r2.frozenAt (0 * 4 + 2)
        have f3 := r2.frozenAt (0 * 4 + 3)
        obtain ⟨⟨e0, e1, e2, e3⟩, _⟩ := WF
        simp only at e0 e1 e2 e3 R
        clear r2 hea WO q0 q1 q2 q3
        go_wp2
        go_roundw
        case rel =>
          refine ⟨k + 1, A.set 0 ⟨⟨t1, n1, s1⟩, 1⟩, by omega, by go_num, by rw [(HNN.out).2]; go_num, HNN.out.1, ?_, ?_⟩
          · exact ⟨g, n, rfl, HLO.out, (R.out.1.lt g rfl).2, R.out.1⟩
          · exact WB.trans ⟨R.out.2.os, R.out.2.tape, R.out.2.output, R.out.2.size, fun j hj => R.out.2.block j (by have := WB.size; omega) (by have := HLO.out; simp; omega)⟩
        case measure => simp [intOf]; omega
      | succ m =>
        obtain ⟨hm1, hm2, hm3, hm4⟩ := HM.out m rfl
        have HM4 := Lib.hid hm4
        have HM3 := Lib.hid hm3
        obtain ⟨b', off', cp', e', _, _, _, hcs⟩ := O1.at
        simp only [Value.slice.injEq, Option.some.injEq, Addr.mk.injEq, and_true, true_and] at e'
        obtain ⟨⟨rfl, rfl⟩, rfl⟩ := e'
        have hmA : m < A.length := by rw [HAL.out]; omega
        have FA : FourAt wb g (m * 4) (A.getD m U.zero) := by
          obtain ⟨y0, y1, y2, y3⟩ := cells4 hcs hmA
          have hgd : A.getD m U.zero = A[m] := by simp [hmA]
          rw [← hgd] at y0 y1 y2 y3
          simp only [Nat.zero_add] at y0 y1 y2 y3
          exact ⟨y0, y1, y2, y3, O1.row.frozenAt _⟩
        have HSK : Hid (∀ q, rus (A.set m ⟨(A.getD m U.zero).v, q⟩) = (rus A).set (m * 4 + 3) (.int .i64 q)) := fun q => rus_setK A m q hmA
        rw [← HM3.out] at HN
        generalize A.getD m U.zero = y at hm1 hm2 HM4 HN FA HSK
        clear hm3 hm4 HM HM3 hcs hmA
        have HF0 := Lib.hid F0
        obtain ⟨⟨e0, e1, e2, e3⟩, _⟩ := F0
        simp only at e0 e1 e2 e3
        cases he : y.v.eqB ⟨t1, n1, s1⟩ with
        | false =>
          have HC := Lib.hid (fun W (hW : Below wb.heap.size wb W) => takeIn_no g (m * 4) y ⟨⟨t1, n1, s1⟩, 1⟩ W (FA.below hW) he ⟨by omega, by omega⟩ ⟨by show (0 : Int) ≤ 1; omega, by show (1 : Int) ≤ 1048576; omega⟩)
          have HNN := Lib.hid (HN.out (.inr he))
          clear he HM4 HN
          go_wp2_with fail
          rw [HWB.out]
          have hmn : m < n := by omega
          have hwm : IntKind.i64.wrap (m : Int) = (m : Int) := IntWalk.i64_in _ (by omega)
          refine wp_region_held_drew (S := fun W => W.cell? ⟨wr.heap.size, 0, none⟩ = some (.int .i64 t1) ∧ W.cell? ⟨wr.heap.size, 1, none⟩ = some (.int .i64 n1) ∧ W.cell? ⟨wr.heap.size, 2, none⟩ = some (.string s1) ∧ W.cell? ⟨wr.heap.size, 3, none⟩ = some (.int .i64 1)) (by kernel_rfl) ⟨e0, e1, e2, e3⟩ (fun hHeld => ?_)
          refine takeH (i := 0) (d := some 14) (v := .int .i64 ((m : Int) + 1)) rfl rfl (by kernel_rfl) (by kernel_rfl) (by kernel_rfl) (fun _ _ _ h => h) (Or.inl ⟨by rfl, fun W hSw => by obtain ⟨d0, d1, d2, d3⟩ := hSw; go_simp⟩) hHeld ?_
          simp only [put_some, List.set_cons_zero, List.set_cons_succ]
          refine takeH (i := 1) (d := some 15) (v := .bool true) rfl rfl (by kernel_rfl) (by kernel_rfl) (by kernel_rfl) (fun _ _ _ h => h) (Or.inl ⟨by rfl, fun W hSw => by obtain ⟨d0, d1, d2, d3⟩ := hSw; go_simp⟩) hHeld ?_
          simp only [put_some, List.set_cons_zero, List.set_cons_succ]
          refine takeH (i := 2) (d := some 16) (v := .bool true) rfl rfl (by kernel_rfl) (by kernel_rfl) (by kernel_rfl) (fun _ _ _ h => h) (Or.inl ⟨by rfl, fun W hSw => by obtain ⟨d0, d1, d2, d3⟩ := hSw; go_simp⟩) hHeld ?_
          simp only [put_some, List.set_cons_zero, List.set_cons_succ]
          refine takeH (i := 3) (d := some 17) (v := .func (.func 71) #[] #[]) rfl rfl (by kernel_rfl) (by kernel_rfl) (by kernel_rfl) (fun _ _ _ h => h) (Or.inl ⟨by rfl, fun W hSw => by obtain ⟨d0, d1, d2, d3⟩ := hSw; go_simp⟩) hHeld ?_
          simp only [put_some, List.set_cons_zero, List.set_cons_succ]
          refine takeH (i := 4) (d := some 18) (v := .slice (some ⟨g, 0, none⟩) n n) rfl rfl (by kernel_rfl) (by kernel_rfl) (by kernel_rfl) (fun _ _ _ h => h) (Or.inl ⟨by rfl, fun W hSw => by obtain ⟨d0, d1, d2, d3⟩ := hSw; go_simp⟩) hHeld ?_
          simp only [put_some, List.set_cons_zero, List.set_cons_succ]
          refine takeH (i := 5) (d := some 19) (v := .int .i64 ((m : Int) + 1)) rfl rfl (by kernel_rfl) (by kernel_rfl) (by kernel_rfl) (fun _ _ _ h => h) (Or.inl ⟨by rfl, fun W hSw => by obtain ⟨d0, d1, d2, d3⟩ := hSw; go_simp⟩) hHeld ?_
          simp only [put_some, List.set_cons_zero, List.set_cons_succ]
          refine takeH (i := 6) (d := some 20) (v := .int .i64 (m : Int)) rfl rfl (by kernel_rfl) (by kernel_rfl) (by kernel_rfl) (fun _ _ _ h => h) (Or.inl ⟨by rfl, fun W hSw => by obtain ⟨d0, d1, d2, d3⟩ := hSw; go_simp⟩) hHeld ?_
          simp only [put_some, List.set_cons_zero, List.set_cons_succ]
          refine takeH (i := 7) (d := some 21) (v := .pointer (some ⟨g, m * 4, none⟩)) rfl rfl (by kernel_rfl) (by kernel_rfl) (by kernel_rfl) (fun _ _ _ h => h) (Or.inl ⟨by rfl, fun W hSw => by obtain ⟨d0, d1, d2, d3⟩ := hSw; go_simp⟩) hHeld ?_
          simp only [put_some, List.set_cons_zero, List.set_cons_succ]
          refine takeH (i := 8) (d := some 22) (v := .agg #[.int .i64 t1, .int .i64 n1, .string s1, .int .i64 1]) rfl rfl (by kernel_rfl) (by kernel_rfl) (by kernel_rfl) (fun _ _ _ h => h) (Or.inl ⟨by rfl, fun W hSw => by obtain ⟨d0, d1, d2, d3⟩ := hSw; go_simp⟩) hHeld ?_
          simp only [put_some, List.set_cons_zero, List.set_cons_succ]
          refine wpAnyH_ready (rs := [9]) (by kernel_rfl) (by simp) ?_
          refine AllReadyH.cons rfl (fun K hK => ?_) AllReadyH.nil
          go_simp
          refine (HC.out _ (below_drewN wb _ 1)).mono ?_
          rintro e w2 ⟨rfl, hb2⟩
          have hb3 : Below wb.heap.size wb w2 := (below_drewN wb wb.heap.size 1).trans hb2
          refine hK.out _ _ ⟨(hb3.cell (p := ⟨wr.heap.size, 0, none⟩) (lt_of_cell e0)).trans e0, (hb3.cell (p := ⟨wr.heap.size, 1, none⟩) (lt_of_cell e1)).trans e1, (hb3.cell (p := ⟨wr.heap.size, 2, none⟩) (lt_of_cell e2)).trans e2, (hb3.cell (p := ⟨wr.heap.size, 3, none⟩) (lt_of_cell e3)).trans e3⟩ (fun hHeld => ?_)
          clear hK K
          refine takeH (i := 10) (d := some 24) (v := .bool false) rfl rfl (by kernel_rfl) (by kernel_rfl) (by kernel_rfl) (fun _ _ _ h => h) (Or.inl ⟨by rfl, fun W hSw => by go_simp⟩) hHeld ?_
          simp only [put_some, List.set_cons_zero, List.set_cons_succ]
          refine wpAnyH_done (by kernel_rfl) ?_ _
          have WF : Four w2 wr.heap.size ⟨⟨t1, n1, s1⟩, 1⟩ := HF0.out.below hb3
          have WO := (O1.below hb3 (Nat.le_refl _)).wide hb3.size
          have WB := below_then bt hb3 O1.lo
          clear HC hHeld hb2 hb3 FA e0 e1 e2 e3
          have r2 := WO.row
          have hea : m + 1 < A.length := by rw [HAL.out]; omega
          have R := Lib.hid (stored4 r2 (m + 1) ⟨⟨t1, n1, s1⟩, 1⟩ hea)
          obtain ⟨x0, s0⟩ := cellAt_some r2 ((m + 1) * 4) (by omega)
          obtain ⟨x1, s1'⟩ := cellAt_some r2 ((m + 1) * 4 + 1) (by omega)
          obtain ⟨x2, s2⟩ := cellAt_some r2 ((m + 1) * 4 + 2) (by omega)
          obtain ⟨x3, s3⟩ := cellAt_some r2 ((m + 1) * 4 + 3) (by omega)
          have f0 := r2.frozenAt ((m + 1) * 4)
          have f1 := r2.frozenAt ((m + 1) * 4 + 1)
          have f2 := r2.frozenAt ((m + 1) * 4 + 2)
          have f3 := r2.frozenAt ((m + 1) * 4 + 3)
          obtain ⟨⟨e0, e1, e2, e3⟩, _⟩ := WF
          simp only at e0 e1 e2 e3 R
          clear r2 hea WO q0 q1 q2 q3
          go_wp2
          go_roundw
          case rel =>
            refine ⟨k + 1, A.set (m + 1) ⟨⟨t1, n1, s1⟩, 1⟩, by omega, by go_num, by rw [(HNN.out).2]; go_num, HNN.out.1, ?_, ?_⟩
            · exact ⟨g, n, rfl, HLO.out, (R.out.1.lt g rfl).2, R.out.1⟩
            · exact WB.trans ⟨R.out.2.os, R.out.2.tape, R.out.2.output, R.out.2.size, fun j hj => R.out.2.block j (by have := WB.size; omega) (by have := HLO.out; simp; omega)⟩
          case measure => simp [intOf]; omega
        | true =>
          have HC := Lib.hid (fun W (hW : Below wb.heap.size wb W) => takeIn_yes g (m * 4) y ⟨⟨t1, n1, s1⟩, 1⟩ W (FA.below hW) he ⟨by omega, by omega⟩ ⟨by show (0 : Int) ≤ 1; omega, by show (1 : Int) ≤ 1048576; omega⟩)
          have HNN := Lib.hid (HM4.out he)
          clear he HM4 HN
          go_wp2_with fail
          rw [HWB.out]
          have hmn : m < n := by omega
          have hwm : IntKind.i64.wrap (m : Int) = (m : Int) := IntWalk.i64_in _ (by omega)
          refine wp_region_held_drew (S := fun W => W.cell? ⟨wr.heap.size, 0, none⟩ = some (.int .i64 t1) ∧ W.cell? ⟨wr.heap.size, 1, none⟩ = some (.int .i64 n1) ∧ W.cell? ⟨wr.heap.size, 2, none⟩ = some (.string s1) ∧ W.cell? ⟨wr.heap.size, 3, none⟩ = some (.int .i64 1)) (by kernel_rfl) ⟨e0, e1, e2, e3⟩ (fun hHeld => ?_)
          refine takeH (i := 0) (d := some 14) (v := .int .i64 ((m : Int) + 1)) rfl rfl (by kernel_rfl) (by kernel_rfl) (by kernel_rfl) (fun _ _ _ h => h) (Or.inl ⟨by rfl, fun W hSw => by obtain ⟨d0, d1, d2, d3⟩ := hSw; go_simp⟩) hHeld ?_
          simp only [put_some, List.set_cons_zero, List.set_cons_succ]
          refine takeH (i := 1) (d := some 15) (v := .bool true) rfl rfl (by kernel_rfl) (by kernel_rfl) (by kernel_rfl) (fun _ _ _ h => h) (Or.inl ⟨by rfl, fun W hSw => by obtain ⟨d0, d1, d2, d3⟩ := hSw; go_simp⟩) hHeld ?_
          simp only [put_some, List.set_cons_zero, List.set_cons_succ]
          refine takeH (i := 2) (d := some 16) (v := .bool true) rfl rfl (by kernel_rfl) (by kernel_rfl) (by kernel_rfl) (fun _ _ _ h => h) (Or.inl ⟨by rfl, fun W hSw => by obtain ⟨d0, d1, d2, d3⟩ := hSw; go_simp⟩) hHeld ?_
          simp only [put_some, List.set_cons_zero, List.set_cons_succ]
          refine takeH (i := 3) (d := some 17) (v := .func (.func 71) #[] #[]) rfl rfl (by kernel_rfl) (by kernel_rfl) (by kernel_rfl) (fun _ _ _ h => h) (Or.inl ⟨by rfl, fun W hSw => by obtain ⟨d0, d1, d2, d3⟩ := hSw; go_simp⟩) hHeld ?_
          simp only [put_some, List.set_cons_zero, List.set_cons_succ]
          refine takeH (i := 4) (d := some 18) (v := .slice (some ⟨g, 0, none⟩) n n) rfl rfl (by kernel_rfl) (by kernel_rfl) (by kernel_rfl) (fun _ _ _ h => h) (Or.inl ⟨by rfl, fun W hSw => by obtain ⟨d0, d1, d2, d3⟩ := hSw; go_simp⟩) hHeld ?_
          simp only [put_some, List.set_cons_zero, List.set_cons_succ]
          refine takeH (i := 5) (d := some 19) (v := .int .i64 ((m : Int) + 1)) rfl rfl (by kernel_rfl) (by kernel_rfl) (by kernel_rfl) (fun _ _ _ h => h) (Or.inl ⟨by rfl, fun W hSw => by obtain ⟨d0, d1, d2, d3⟩ := hSw; go_simp⟩) hHeld ?_
          simp only [put_some, List.set_cons_zero, List.set_cons_succ]
          refine takeH (i := 6) (d := some 20) (v := .int .i64 (m : Int)) rfl rfl (by kernel_rfl) (by kernel_rfl) (by kernel_rfl) (fun _ _ _ h => h) (Or.inl ⟨by rfl, fun W hSw => by obtain ⟨d0, d1, d2, d3⟩ := hSw; go_simp⟩) hHeld ?_
          simp only [put_some, List.set_cons_zero, List.set_cons_succ]
          refine takeH (i := 7) (d := some 21) (v := .pointer (some ⟨g, m * 4, none⟩)) rfl rfl (by kernel_rfl) (by kernel_rfl) (by kernel_rfl) (fun _ _ _ h => h) (Or.inl ⟨by rfl, fun W hSw => by obtain ⟨d0, d1, d2, d3⟩ := hSw; go_simp⟩) hHeld ?_
          simp only [put_some, List.set_cons_zero, List.set_cons_succ]
          refine takeH (i := 8) (d := some 22) (v := .agg #[.int .i64 t1, .int .i64 n1, .string s1, .int .i64 1]) rfl rfl (by kernel_rfl) (by kernel_rfl) (by kernel_rfl) (fun _ _ _ h => h) (Or.inl ⟨by rfl, fun W hSw => by obtain ⟨d0, d1, d2, d3⟩ := hSw; go_simp⟩) hHeld ?_
          simp only [put_some, List.set_cons_zero, List.set_cons_succ]
          refine wpAnyH_ready (rs := [9]) (by kernel_rfl) (by simp) ?_
          refine AllReadyH.cons rfl (fun K hK => ?_) AllReadyH.nil
          go_simp
          refine (HC.out _ (below_drewN wb _ 1)).mono ?_
          rintro e w2 ⟨rfl, wm, hbm, rfl⟩
          have hb3 : Below wb.heap.size wb wm := (below_drewN wb wb.heap.size 1).trans hbm
          have WO := (O1.below hb3 (Nat.le_refl _)).wide hb3.size
          have WB := below_then bt hb3 O1.lo
          have R := Lib.hid (WO.row.stored (m * 4 + 3) (.int .i64 (y.k + 1)))
          rw [← HSK.out] at R
          have cc : ∀ j x, wb.cell? ⟨wr.heap.size, j, none⟩ = some x → (wm.setCell ⟨g, m * 4 + 3, none⟩ (.int .i64 (y.k + 1))).cell? ⟨wr.heap.size, j, none⟩ = some x := fun j x hx =>
            (World.cell?_of_block (a := ⟨wr.heap.size, j, none⟩) (R.out.2.block wr.heap.size (Nat.lt_of_lt_of_le (lt_of_cell e0) hb3.size) (by have := HGL.out; simp; omega))).trans ((hb3.cell (p := ⟨wr.heap.size, j, none⟩) (lt_of_cell hx)).trans hx)
          refine hK.out _ _ ⟨cc 0 _ e0, cc 1 _ e1, cc 2 _ e2, cc 3 _ e3⟩ (fun hHeld => ?_)
          clear hK K
          refine takeH (i := 10) (d := some 24) (v := .bool true) rfl rfl (by kernel_rfl) (by kernel_rfl) (by kernel_rfl) (fun _ _ _ h => h) (Or.inl ⟨by rfl, fun W hSw => by go_simp⟩) hHeld ?_
          simp only [put_some, List.set_cons_zero, List.set_cons_succ]
          refine wpAnyH_done (by kernel_rfl) ?_ _
          clear HC hHeld hbm hb3 FA e0 e1 e2 e3 cc q0 q1 q2 q3 WO
          go_wp2
          go_roundw
          case rel =>
            refine ⟨k + 1, A.set m ⟨y.v, y.k + 1⟩, by omega, by go_num, by rw [(HNN.out).2]; go_num, HNN.out.1, ?_, ?_⟩
            · exact ⟨g, n, rfl, HLO.out, (R.out.1.lt g rfl).2, R.out.1⟩
            · exact WB.trans ⟨R.out.2.os, R.out.2.tape, R.out.2.output, R.out.2.size, fun j hj => R.out.2.block j (by have := WB.size; omega) (by have := HLO.out; simp; omega)⟩
          case measure => simp [intOf]; omega
    · obtain rfl : k = n := by omega
      have hA1 := hj.2.1
      rw [← HL.out, List.take_length] at hA1
      rw [← HL.out, List.take_length, HL.out]
      have hre := runsL_len l
      rw [HL.out] at hre
      have HRT : Hid (rus (runsL l) = (rus A).take ((runsL l).length * 4)) := by
        show _ = _
        rw [rus_take, hA1]
      generalize hee : (runsL l).length = ee at hre HRT ⊢
      have HEE := Lib.hid hee
      clear hA1 hj hee
      by_cases hlt2 : ee < k
      · have r0 := hown.row
        obtain ⟨ys, r1, r2, r3⟩ := row_cells (Builtin.zeroCells U.zero.agg.cells (k - ee)).toList (ee * 4) wr _ r0
        have R1 := row_shorter r1 (m := ee) (by omega)
        rw [r2, ← HRT.out] at R1
        have RR := Lib.hid R1
        have R3 := Lib.hid r3
        have hcl : ∀ ty, (Builtin.clear_ #[70] ty #[.slice (some ⟨g, ee * 4, none⟩) (k - ee) (k - ee)]).run Try.prog wr = .ok (.tuple #[]) (wr.setCells g (ee * 4) (Builtin.zeroCells U.zero.agg.cells (k - ee)).toList) := fun ty => run_clear_runs wr ty g (ee * 4) (k - ee) (k - ee) (by omega) (fun j hj => by
          obtain ⟨x, hx⟩ := cellAt_some r0 (ee * 4 + j) (by omega)
          rw [hx]
          rfl) (fun j hj => r0.frozenAt _)
        generalize wr.setCells g (ee * 4) (Builtin.zeroCells U.zero.agg.cells (k - ee)).toList = wc at RR R3 hcl
        clear r0 r1 r2 r3 R1
        go_wp2
        go_ret
        rw [HEE.out]
        exact ⟨_, rfl, ⟨g, k, rfl, HLO.out, (RR.out.lt g rfl).2, RR.out⟩, hbr.trans ⟨R3.out.os, R3.out.tape, R3.out.output, R3.out.size, fun j hj => R3.out.block j (by have := hbr.size; omega) (by have := HLO.out; simp; omega)⟩⟩
      · obtain rfl : ee = k := by omega
        have hcl : ∀ ty a c, (Builtin.clear_ #[70] ty #[.slice a 0 c]).run Try.prog wr = .ok (.tuple #[]) wr := fun ty a c => by
          cases a <;> simp [Builtin.clear_, run_underlying Try.elemRunL.ht]
        have hRR : rus (runsL l) = rus A := by
          rw [HRT.out]
          apply List.take_of_length_le
          rw [rus_len, HAL.out]
          omega
        have HRR := Lib.hid hRR
        clear hlt2 hlt hk hre hRR HRT h
        go_wp2_with fail
        go_ret
        rw [HEE.out, HRR.out]
        exact ⟨_, rfl, hown, hbr⟩

end Go.Proofs.Ythniakklkepomaa
