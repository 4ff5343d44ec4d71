/- Texts of this claim, one behind the other: I6r, I6s, I6e, I6d, M6, M9, M13k, S9, S9k. -/
import Derived.Test.YtkofafefnlommaaGreatP10
import Derived.Test.YtkofafefnlommaaGreatP23
import Derived.Deep.RegionLaw
import Derived.Test.YtkofafefnlommaaGreatP24
import Derived.Test.YtkofafefnlommaaGreatP16
import Derived.Test.YtkofafefnlommaaGreatP25

/- The contracts of impl's takeIn, joined, Runs. -/
namespace Go.Proofs.YtkofafefnlommaaGreat
open Go.RowKit Go.Lib

theorem wrapNum {x : Int} (h0 : -9223372036854775808 ≤ x) (h1 : x ≤ 9223372036854775807) : IntKind.i64.wrap x = x := by
  simp only [IntKind.wrap, IntKind.bits, IntKind.signed]
  go_num
/-- A Run that stands somewhere in a block. -/
def FourAt (W : World) (g o : Nat) (u : U) : Prop :=
  W.cell? ⟨g, o, none⟩ = some (.int .i64 u.v.ty) ∧ W.cell? ⟨g, o + 1, none⟩ = some (.int .i64 u.v.n) ∧ W.cell? ⟨g, o + 2, none⟩ = some (.string u.v.s) ∧ W.cell? ⟨g, o + 3, none⟩ = some (.int .i64 u.k) ∧ W.frozen? ⟨g, o + 3, none⟩ = false
theorem FourAt.below {W W' : World} {g o : Nat} {u : U} (h : FourAt W g o u) (hb : Below W.heap.size W W') : FourAt W' g o u := by
  have hlt := lt_of_cell h.1
  exact ⟨(hb.cell (p := ⟨g, o, none⟩) hlt).trans h.1, (hb.cell (p := ⟨g, o + 1, none⟩) hlt).trans h.2.1, (hb.cell (p := ⟨g, o + 2, none⟩) hlt).trans h.2.2.1, (hb.cell (p := ⟨g, o + 3, none⟩) hlt).trans h.2.2.2.1, (hb.frozen (p := ⟨g, o + 3, none⟩) hlt).trans h.2.2.2.2⟩

set_option maxHeartbeats 1000000 in
theorem takeIn_no (g off : Nat) (x y : U) (w : World) (h : FourAt w g off x) (he : x.v.eqB y.v = false) (hx : 0 ≤ x.k ∧ x.k ≤ 1048576) (hy : 0 ≤ y.k ∧ y.k ≤ 1048576) :
    Calls Tryz.prog 175 #[.pointer (some ⟨g, off, none⟩), y.agg] w fun e w' => e = .returned (.bool false) ∧ Below w.heap.size w w' := by
  have ba := below_alloc w (.cells #[.int .i64 y.v.ty, .int .i64 y.v.n, .string y.v.s, .int .i64 y.k] 124)
  have hq := run_neq_val x.v y.v
  rw [he] at hq
  have h4 := h.below ba
  have F0 := four_new w y 124
  obtain ⟨⟨t1, n1, s1⟩, k1⟩ := x
  obtain ⟨⟨t2, n2, s2⟩, k2⟩ := y
  simp only at ba hq h4 F0 hx hy
  have hsz : (w.alloc (.cells #[.int .i64 t2, .int .i64 n2, .string s2, .int .i64 k2] 124)).heap.size = w.heap.size + 1 := World.size_alloc _ _
  generalize hwb : w.alloc (.cells #[.int .i64 t2, .int .i64 n2, .string s2, .int .i64 k2] 124) = wb at ba h4 F0
  have HWB := Lib.hid hwb
  obtain ⟨⟨e0, e1, e2, e3⟩, _⟩ := F0
  obtain ⟨g0, g1, g2, g3, gf⟩ := h4
  simp only at e0 e1 e2 e3 g0 g1 g2 g3
  clear hwb he h hsz
  go_enter Tryz.func175, Tryz.ntmps175
  go_wp2_with fail
  rw [HWB.out]
  go_quiet (fail)
  go_wp2
  go_ret
  exact ⟨rfl, ba.trans (below_drewN _ _ _)⟩
set_option maxHeartbeats 1000000 in
theorem takeIn_yes (g off : Nat) (x y : U) (w : World) (h : FourAt w g off x) (he : x.v.eqB y.v = true) (hx : 0 ≤ x.k ∧ x.k ≤ 1048576) (hy : 0 ≤ y.k ∧ y.k ≤ 1048576) :
    Calls Tryz.prog 175 #[.pointer (some ⟨g, off, none⟩), y.agg] w fun e w' => e = .returned (.bool true) ∧ ∃ wm, Below w.heap.size w wm ∧ w' = wm.setCell ⟨g, off + 3, none⟩ (.int .i64 (x.k + y.k)) := by
  have ba := below_alloc w (.cells #[.int .i64 y.v.ty, .int .i64 y.v.n, .string y.v.s, .int .i64 y.k] 124)
  have hq := run_neq_val x.v y.v
  rw [he] at hq
  have h4 := h.below ba
  have F0 := four_new w y 124
  obtain ⟨⟨t1, n1, s1⟩, k1⟩ := x
  obtain ⟨⟨t2, n2, s2⟩, k2⟩ := y
  simp only at ba hq h4 F0 hx hy
  have hsz : (w.alloc (.cells #[.int .i64 t2, .int .i64 n2, .string s2, .int .i64 k2] 124)).heap.size = w.heap.size + 1 := World.size_alloc _ _
  generalize hwb : w.alloc (.cells #[.int .i64 t2, .int .i64 n2, .string s2, .int .i64 k2] 124) = wb at ba h4 F0
  have HWB := Lib.hid hwb
  obtain ⟨⟨e0, e1, e2, e3⟩, _⟩ := F0
  obtain ⟨g0, g1, g2, g3, gf⟩ := h4
  simp only at e0 e1 e2 e3 g0 g1 g2 g3
  clear hwb he h hsz
  go_enter Tryz.func175, Tryz.ntmps175
  go_wp2_with fail
  rw [HWB.out]
  go_quiet (fail)
  go_wp2
  have b2 := ba.trans (below_drewN wb w.heap.size nq)
  have z3 : (wb.drewN nq).cell? ⟨g, off + 3, none⟩ = some (.int .i64 k1) := g3
  have y3 : (wb.drewN nq).cell? ⟨w.heap.size, 3, none⟩ = some (.int .i64 k2) := e3
  have zf : (wb.drewN nq).frozen? ⟨g, off + 3, none⟩ = false := gf
  have hwr : IntKind.i64.wrap (k1 + k2) = k1 + k2 := wrapNum (by omega) (by omega)
  clear g0 g1 g2 g3 gf e0 e1 e2 e3 hq ba HWB
  generalize wb.drewN nq = wd at b2 z3 y3 zf
  go_region
  go_wp2
  go_ret
  exact ⟨rfl, wd.drew, b2.trans (below_drewN wd w.heap.size 1), rfl⟩

theorem Tryz.elemRunL : ElemT Tryz.prog 156 124 U.zero.agg 4 40 := ⟨Tryz.underlying156, info_parts (by kernel_rfl), rfl, by decide⟩

/-- A list on its way to its runs: k values are in, the first of A are their runs, and what comes is still there. -/
def Joins (l : List V) (A : List U) (k : Nat) : Prop :=
  A.length = l.length ∧ A.take (runsL (l.take k)).length = runsL (l.take k) ∧ ∀ j, k ≤ j → j < l.length → A.getD j U.zero = ⟨l.getD j V.zero, 1⟩
theorem joins_start (l : List V) : Joins l (l.map fun v => ⟨v, 1⟩) 0 := by
  refine ⟨by simp, rfl, fun j _ hj => ?_⟩
  simp [hj]
theorem runs_step {l : List V} {k : Nat} (hk : k < l.length) : runsL (l.take (k + 1)) = addRun (runsL (l.take k)) (l.getD k V.zero) := by
  have e : l.getD k V.zero = l[k] := by simp [hk]
  rw [e, List.take_succ_eq_append_getElem hk, runsL_snoc]
theorem runs_le (l : List V) {k : Nat} (hk : k ≤ l.length) : (runsL (l.take k)).length ≤ k := by
  have := runsL_len (l.take k)
  have e : (l.take k).length = k := by simp; omega
  omega
theorem take_set_snoc {α : Type} (A : List α) (e : Nat) (x : α) (h : e < A.length) : (A.set e x).take (e + 1) = A.take e ++ [x] := by
  rw [List.take_succ_eq_append_getElem (by simpa using h), List.take_set_of_le (Nat.le_refl _)]
  simp
theorem getD_setNe6 {α : Type} (A : List α) {i j : Nat} (x d : α) (h : i ≠ j) : (A.set i x).getD j d = A.getD j d := by
  simp [List.getD, List.getElem?_set_ne h]
theorem joins_new {l : List V} {A : List U} {k : Nat} (h : Joins l A k) (hk : k < l.length) (hne : (runsL (l.take k)).length = 0 ∨ (lastU (runsL (l.take k))).v.eqB (l.getD k V.zero) = false) :
    Joins l (A.set (runsL (l.take k)).length ⟨l.getD k V.zero, 1⟩) (k + 1) ∧ (runsL (l.take (k + 1))).length = (runsL (l.take k)).length + 1 := by
  have e1 : runsL (l.take (k + 1)) = runsL (l.take k) ++ [⟨l.getD k V.zero, 1⟩] := by
    rw [runs_step hk]
    rcases hne with h1 | h1
    · exact addRun_new h1
    · exact addRun_ne h1
  have hle := runs_le l (Nat.le_of_lt hk)
  refine ⟨⟨by simpa using h.1, ?_, fun j hj hjl => ?_⟩, by rw [e1]; simp⟩
  · rw [e1, List.length_append, List.length_singleton, take_set_snoc _ _ _ (by rw [h.1]; omega), h.2.1]
  · rw [getD_setNe6 _ _ _ (by omega)]
    exact h.2.2 j (by omega) hjl
theorem joins_last {l : List V} {A : List U} {k m : Nat} (h : Joins l A k) (hm : (runsL (l.take k)).length = m + 1) : A.getD m U.zero = (runsL (l.take k)).getD m U.zero := by
  have e := h.2.1
  rw [hm] at e
  rw [← e]
  simp [List.getD]
theorem joins_eq {l : List V} {A : List U} {k m : Nat} (h : Joins l A k) (hk : k < l.length) (hm : (runsL (l.take k)).length = m + 1) (heq : (A.getD m U.zero).v.eqB (l.getD k V.zero) = true) :
    Joins l (A.set m ⟨(A.getD m U.zero).v, (A.getD m U.zero).k + 1⟩) (k + 1) ∧ (runsL (l.take (k + 1))).length = m + 1 := by
  have hle := runs_le l (Nat.le_of_lt hk)
  have hA := h.1
  have hx := joins_last h hm
  have e1 : runsL (l.take (k + 1)) = (runsL (l.take k)).set m ⟨(A.getD m U.zero).v, (A.getD m U.zero).k + 1⟩ := by
    rw [runs_step hk, hx]
    exact addRun_eq hm (by rw [← hx]; exact heq)
  refine ⟨⟨by simpa using h.1, ?_, fun j hj hjl => ?_⟩, by rw [e1, List.length_set, hm]⟩
  · rw [e1, List.length_set, hm, take_set_snoc _ _ _ (by omega)]
    have e2 := h.2.1
    rw [hm] at e2
    rw [← e2]
    apply List.ext_getElem
    · simp; omega
    · intro i h1 h2
      simp only [List.length_append, List.length_take, List.length_singleton] at h1
      rw [List.getElem_append, List.getElem_set]
      split
      · rw [if_neg (by simp at *; omega)]
        simp
      · rw [if_pos (by simp at *; omega)]
        simp
  · rw [getD_setNe6 _ _ _ (by omega)]
    exact h.2.2 j (by omega) hjl
theorem joins_k {l : List V} {A : List U} {k m : Nat} (h : Joins l A k) (hk : k ≤ l.length) (hm : (runsL (l.take k)).length = m + 1) : 1 ≤ (A.getD m U.zero).k ∧ (A.getD m U.zero).k ≤ k := by
  rw [joins_last h hm]
  have hlt : m < (runsL (l.take k)).length := by omega
  have e : (runsL (l.take k)).getD m U.zero = (runsL (l.take k))[m] := by simp [hlt]
  have hl : (l.take k).length = k := by simp; omega
  have := runsL_k (l.take k) _ (List.getElem_mem hlt)
  rw [hl] at this
  rw [e]
  exact this

/-- An owned slice whose head alone is kept. -/
theorem rus_take (A : List U) (m : Nat) : (rus A).take (m * 4) = rus (A.take m) := by
  induction A generalizing m with
  | nil => simp [rus]
  | cons a A ih =>
    cases m with
    | zero => simp [rus]
    | succ m =>
      have := ih m
      simp only [rus, List.flatMap_cons, List.take_succ_cons] at this ⊢
      rw [show (m + 1) * 4 = a.cs.length + m * 4 by simp [U.cs]; omega, List.take_length_add_append, this]

theorem run_clear_runs (w : World) (ty : TypeId) (g o n c : Nat) (hn : 0 < n) (hc : ∀ j, j < n * 4 → (w.cell? ⟨g, o + j, none⟩).isSome = true) (hf : ∀ j, j < n * 4 → w.frozen? ⟨g, o + j, none⟩ = false) :
    (Builtin.clear_ #[156] ty #[.slice (some ⟨g, o, none⟩) n c]).run Tryz.prog w = .ok (.tuple #[]) (w.setCells g o (Builtin.zeroCells U.zero.agg.cells n).toList) := by
  have hzl : (Builtin.zeroCells U.zero.agg.cells n).toList.length = n * 4 := by simp [Builtin.zeroCells, U.zero, Value.cells]
  have hst := run_storeCells_cells (P := Tryz.prog) g o (Builtin.zeroCells U.zero.agg.cells n).toList 0 w (by rw [hzl]; simpa using hc) (by rw [hzl]; simpa using hf) (by
    intro v hv
    simp [Builtin.zeroCells] at hv
    obtain ⟨a, _, rfl⟩ := hv
    have h4 : U.zero.agg.cells.size = 4 := rfl
    rw [h4]
    have h5 : a % 4 < 4 := Nat.mod_lt _ (by omega)
    generalize a % 4 = q at h5
    match q, h5 with
    | 0, _ => rfl
    | 1, _ => rfl
    | 2, _ => rfl
    | 3, _ => rfl)
  have hv : ∀ W, (zeroValue 124).run Tryz.prog W = .ok U.zero.agg W := fun W => by
    have hz : Tryz.t124.zero = some U.zero.agg := by kernel_rfl
    simp [zeroValue, hz]
  simp only [Nat.add_zero] at hst
  obtain ⟨m, rfl⟩ : ∃ m, n = m + 1 := ⟨n - 1, by omega⟩
  simp [Builtin.clear_, run_underlying Tryz.elemRunL.ht, hv, hst]

set_option maxHeartbeats 2000000 in
theorem joined (g n : Nat) (l : List V) (w : World) (lo : Nat) (hn : n ≤ 1048576) (hl : l.length = n) (h : Own 124 4 lo w.heap.size w (.slice (some ⟨g, 0, none⟩) n n) n (rus (l.map fun v => ⟨v, 1⟩))) :
    Calls Tryz.prog 174 #[.slice (some ⟨g, 0, none⟩) n n, .func (.func 175) #[] #[]] w fun e w' => ∃ v', e = .returned v' ∧ Own 124 4 lo w'.heap.size w' v' (runsL l).length (rus (runsL l)) ∧ Below lo w w' := by
  have HL := Lib.hid hl
  have HJ0 := Lib.hid (joins_start l)
  have HR0 : Hid ((runsL (l.take 0)).length = 0) := rfl
  have hgl : lo ≤ g := by
    obtain ⟨g', c', e', h1, _⟩ := h
    cases e'
    exact h1
  have HLO := Lib.hid hgl
  have hlow := h.lo
  clear hl hgl
  go_enter Tryz.func174, Tryz.ntmps174
  go_wp2
  go_loopw [5, 10] (fun c i wr => ∃ (k : Nat) (A : List U), k ≤ n ∧ i = .int .i64 k ∧ c = .int .i64 ((runsL (l.take k)).length : Nat) ∧ Joins l A k ∧ Own 124 4 lo wr.heap.size wr (.slice (some ⟨g, 0, none⟩) n n) n (rus A) ∧ Below lo w wr) (fun _ i _ => n - (intOf i).toNat)
  case atStart => exact ⟨0, _, Nat.zero_le _, rfl, by rw [HR0.out]; rfl, HJ0.out, h, Below.refl _ _⟩
  case round =>
    obtain ⟨k, A, hk, rfl, rfl, hj, hown, hbr⟩ := hrel
    have HJ := Lib.hid hj
    have HAL : Hid (A.length = n) := hj.1.trans HL.out
    by_cases hlt : k < n
    · have hAk := hj.2.2 k (Nat.le_refl _) (by rw [HL.out]; exact hlt)
      have hre := runs_le l (k := k) (by rw [HL.out]; exact hk)
      obtain ⟨b', off', cp', e', _, _, _, hcs⟩ := hown.at
      simp only [Value.slice.injEq, Option.some.injEq, Addr.mk.injEq, and_true, true_and] at e'
      obtain ⟨⟨rfl, rfl⟩, rfl⟩ := e'
      have hkA : k < A.length := by rw [HAL.out]; exact hlt
      obtain ⟨q0, q1, q2, q3⟩ := cells4 hcs hkA
      have hgd : A.getD k U.zero = A[k] := by simp [hkA]
      rw [← hgd, hAk] at q0 q1 q2 q3
      simp only [Nat.zero_add] at q0 q1 q2 q3
      have HN := Lib.hid (joins_new hj (by rw [HL.out]; exact hlt))
      generalize hx : l.getD k V.zero = x at q0 q1 q2 q3 HN
      have HX := Lib.hid hx
      have HM : Hid (∀ m, (runsL (l.take k)).length = m + 1 → 1 ≤ (A.getD m U.zero).k ∧ (A.getD m U.zero).k ≤ k ∧ A.getD m U.zero = lastU (runsL (l.take k)) ∧ ((A.getD m U.zero).v.eqB x = true → Joins l (A.set m ⟨(A.getD m U.zero).v, (A.getD m U.zero).k + 1⟩) (k + 1) ∧ (runsL (l.take (k + 1))).length = m + 1)) := fun m hm => by
        have h1 := joins_k hj (by rw [HL.out]; exact hk) hm
        refine ⟨h1.1, h1.2, ?_, fun he => joins_eq hj (by rw [HL.out]; exact hlt) hm (by rw [HX.out]; exact he)⟩
        rw [joins_last hj hm]
        unfold lastU
        rw [hm]
        rfl
      generalize hee : (runsL (l.take k)).length = ee at hre HN HM
      clear hx hgd hAk hj hcs
      obtain ⟨t1, n1, s1⟩ := x
      simp only at q0 q1 q2 q3
      have ba := below_alloc wr (.cells #[.int .i64 t1, .int .i64 n1, .string s1, .int .i64 1] 124)
      have bt := hbr.alloc hown.lo (.cells #[.int .i64 t1, .int .i64 n1, .string s1, .int .i64 1] 124)
      have F0 := four_new wr ⟨⟨t1, n1, s1⟩, 1⟩ 124
      have O0 := hown.alloc (.cells #[.int .i64 t1, .int .i64 n1, .string s1, .int .i64 1] 124)
      have hszb : (wr.alloc (.cells #[.int .i64 t1, .int .i64 n1, .string s1, .int .i64 1] 124)).heap.size = wr.heap.size + 1 := World.size_alloc _ _
      have O1 : Own 124 4 lo (wr.alloc (.cells #[.int .i64 t1, .int .i64 n1, .string s1, .int .i64 1] 124)).heap.size (wr.alloc (.cells #[.int .i64 t1, .int .i64 n1, .string s1, .int .i64 1] 124)) (.slice (some ⟨g, 0, none⟩) n n) n (rus A) := O0.wide (by rw [hszb]; omega)
      have HGL : Hid (g < wr.heap.size) := by
        obtain ⟨g', c', e', h1, h2, _⟩ := hown
        cases e'
        exact h2
      clear O0 hown hszb
      generalize hwb : wr.alloc (.cells #[.int .i64 t1, .int .i64 n1, .string s1, .int .i64 1] 124) = wb at ba bt F0 O1
      have HWB := Lib.hid hwb
      clear hwb
      cases ee with
      | zero =>
        have HNN := Lib.hid (HN.out (.inl rfl))
        clear HN HM
        go_wp2_with fail
        rw [HWB.out]
        go_quiet (fail)
        have WF : Four (wb.drewN nq) wr.heap.size ⟨⟨t1, n1, s1⟩, 1⟩ := F0
        have WO := O1.drewN nq
        have WB := bt.trans (below_drewN wb lo nq)
        generalize wb.drewN nq = wd at WF WO WB
        have r2 := WO.row
        have hea : 0 < A.length := by rw [HAL.out]; omega
        have R := Lib.hid (stored4 r2 0 ⟨⟨t1, n1, s1⟩, 1⟩ hea)
        obtain ⟨x0, s0⟩ := cellAt_some r2 (0 * 4) (by omega)
        obtain ⟨x1, s1'⟩ := cellAt_some r2 (0 * 4 + 1) (by omega)
        obtain ⟨x2, s2⟩ := cellAt_some r2 (0 * 4 + 2) (by omega)
        obtain ⟨x3, s3⟩ := cellAt_some r2 (0 * 4 + 3) (by omega)
        have f0 := r2.frozenAt (0 * 4)
        have f1 := r2.frozenAt (0 * 4 + 1)
        have f2 := r2.frozenAt (0 * 4 + 2)
        have f3 := r2.frozenAt (0 * 4 + 3)
        obtain ⟨⟨e0, e1, e2, e3⟩, _⟩ := WF
        simp only at e0 e1 e2 e3 R
        clear r2 hea WO q0 q1 q2 q3
        go_wp2
        go_roundw
        case rel =>
          refine ⟨k + 1, A.set 0 ⟨⟨t1, n1, s1⟩, 1⟩, by omega, by go_num, by rw [(HNN.out).2]; go_num, HNN.out.1, ?_, ?_⟩
          · exact ⟨g, n, rfl, HLO.out, (R.out.1.lt g rfl).2, R.out.1⟩
          · exact WB.trans ⟨R.out.2.os, R.out.2.tape, R.out.2.output, R.out.2.size, fun j hj => R.out.2.block j (by have := WB.size; omega) (by have := HLO.out; simp; omega)⟩
        case measure => simp [intOf]; omega
      | succ m =>
        obtain ⟨hm1, hm2, hm3, hm4⟩ := HM.out m rfl
        have HM4 := Lib.hid hm4
        have HM3 := Lib.hid hm3
        obtain ⟨b', off', cp', e', _, _, _, hcs⟩ := O1.at
        simp only [Value.slice.injEq, Option.some.injEq, Addr.mk.injEq, and_true, true_and] at e'
        obtain ⟨⟨rfl, rfl⟩, rfl⟩ := e'
        have hmA : m < A.length := by rw [HAL.out]; omega
        have FA : FourAt wb g (m * 4) (A.getD m U.zero) := by
          obtain ⟨y0, y1, y2, y3⟩ := cells4 hcs hmA
          have hgd : A.getD m U.zero = A[m] := by simp [hmA]
          rw [← hgd] at y0 y1 y2 y3
          simp only [Nat.zero_add] at y0 y1 y2 y3
          exact ⟨y0, y1, y2, y3, O1.row.frozenAt _⟩
        have HSK : Hid (∀ q, rus (A.set m ⟨(A.getD m U.zero).v, q⟩) = (rus A).set (m * 4 + 3) (.int .i64 q)) := fun q => rus_setK A m q hmA
        rw [← HM3.out] at HN
        generalize A.getD m U.zero = y at hm1 hm2 HM4 HN FA HSK
        clear hm3 hm4 HM HM3 hcs hmA
        have HF0 := Lib.hid F0
        obtain ⟨⟨e0, e1, e2, e3⟩, _⟩ := F0
        simp only at e0 e1 e2 e3
        cases he : y.v.eqB ⟨t1, n1, s1⟩ with
        | false =>
          have HC := Lib.hid (fun W (hW : Below wb.heap.size wb W) => takeIn_no g (m * 4) y ⟨⟨t1, n1, s1⟩, 1⟩ W (FA.below hW) he ⟨by omega, by omega⟩ ⟨by show (0 : Int) ≤ 1; omega, by show (1 : Int) ≤ 1048576; omega⟩)
          have HNN := Lib.hid (HN.out (.inr he))
          clear he HM4 HN
          go_wp2_with fail
          rw [HWB.out]
          have hmn : m < n := by omega
          have hwm : IntKind.i64.wrap (m : Int) = (m : Int) := IntWalk.i64_in _ (by omega)
          refine wp_region_held_drew (S := fun W => W.cell? ⟨wr.heap.size, 0, none⟩ = some (.int .i64 t1) ∧ W.cell? ⟨wr.heap.size, 1, none⟩ = some (.int .i64 n1) ∧ W.cell? ⟨wr.heap.size, 2, none⟩ = some (.string s1) ∧ W.cell? ⟨wr.heap.size, 3, none⟩ = some (.int .i64 1)) (by kernel_rfl) ⟨e0, e1, e2, e3⟩ (fun hHeld => ?_)
          refine takeH (i := 0) (d := some 14) (v := .int .i64 ((m : Int) + 1)) rfl rfl (by kernel_rfl) (by kernel_rfl) (by kernel_rfl) (fun _ _ _ h => h) (Or.inl ⟨by rfl, fun W hSw => by obtain ⟨d0, d1, d2, d3⟩ := hSw; go_simp⟩) hHeld ?_
          simp only [put_some, List.set_cons_zero, List.set_cons_succ]
          refine takeH (i := 1) (d := some 15) (v := .bool true) rfl rfl (by kernel_rfl) (by kernel_rfl) (by kernel_rfl) (fun _ _ _ h => h) (Or.inl ⟨by rfl, fun W hSw => by obtain ⟨d0, d1, d2, d3⟩ := hSw; go_simp⟩) hHeld ?_
          simp only [put_some, List.set_cons_zero, List.set_cons_succ]
          refine takeH (i := 2) (d := some 16) (v := .bool true) rfl rfl (by kernel_rfl) (by kernel_rfl) (by kernel_rfl) (fun _ _ _ h => h) (Or.inl ⟨by rfl, fun W hSw => by obtain ⟨d0, d1, d2, d3⟩ := hSw; go_simp⟩) hHeld ?_
          simp only [put_some, List.set_cons_zero, List.set_cons_succ]
          refine takeH (i := 3) (d := some 17) (v := .func (.func 175) #[] #[]) rfl rfl (by kernel_rfl) (by kernel_rfl) (by kernel_rfl) (fun _ _ _ h => h) (Or.inl ⟨by rfl, fun W hSw => by obtain ⟨d0, d1, d2, d3⟩ := hSw; go_simp⟩) hHeld ?_
          simp only [put_some, List.set_cons_zero, List.set_cons_succ]
          refine takeH (i := 4) (d := some 18) (v := .slice (some ⟨g, 0, none⟩) n n) rfl rfl (by kernel_rfl) (by kernel_rfl) (by kernel_rfl) (fun _ _ _ h => h) (Or.inl ⟨by rfl, fun W hSw => by obtain ⟨d0, d1, d2, d3⟩ := hSw; go_simp⟩) hHeld ?_
          simp only [put_some, List.set_cons_zero, List.set_cons_succ]
          refine takeH (i := 5) (d := some 19) (v := .int .i64 ((m : Int) + 1)) rfl rfl (by kernel_rfl) (by kernel_rfl) (by kernel_rfl) (fun _ _ _ h => h) (Or.inl ⟨by rfl, fun W hSw => by obtain ⟨d0, d1, d2, d3⟩ := hSw; go_simp⟩) hHeld ?_
          simp only [put_some, List.set_cons_zero, List.set_cons_succ]
          refine takeH (i := 6) (d := some 20) (v := .int .i64 (m : Int)) rfl rfl (by kernel_rfl) (by kernel_rfl) (by kernel_rfl) (fun _ _ _ h => h) (Or.inl ⟨by rfl, fun W hSw => by obtain ⟨d0, d1, d2, d3⟩ := hSw; go_simp⟩) hHeld ?_
          simp only [put_some, List.set_cons_zero, List.set_cons_succ]
          refine takeH (i := 7) (d := some 21) (v := .pointer (some ⟨g, m * 4, none⟩)) rfl rfl (by kernel_rfl) (by kernel_rfl) (by kernel_rfl) (fun _ _ _ h => h) (Or.inl ⟨by rfl, fun W hSw => by obtain ⟨d0, d1, d2, d3⟩ := hSw; go_simp⟩) hHeld ?_
          simp only [put_some, List.set_cons_zero, List.set_cons_succ]
          refine takeH (i := 8) (d := some 22) (v := .agg #[.int .i64 t1, .int .i64 n1, .string s1, .int .i64 1]) rfl rfl (by kernel_rfl) (by kernel_rfl) (by kernel_rfl) (fun _ _ _ h => h) (Or.inl ⟨by rfl, fun W hSw => by obtain ⟨d0, d1, d2, d3⟩ := hSw; go_simp⟩) hHeld ?_
          simp only [put_some, List.set_cons_zero, List.set_cons_succ]
          refine wpAnyH_ready (rs := [9]) (by kernel_rfl) (by simp) ?_
          refine AllReadyH.cons rfl (fun K hK => ?_) AllReadyH.nil
          go_simp
          refine (HC.out _ (below_drewN wb _ 1)).mono ?_
          rintro e w2 ⟨rfl, hb2⟩
          have hb3 : Below wb.heap.size wb w2 := (below_drewN wb wb.heap.size 1).trans hb2
          refine hK.out _ _ ⟨(hb3.cell (p := ⟨wr.heap.size, 0, none⟩) (lt_of_cell e0)).trans e0, (hb3.cell (p := ⟨wr.heap.size, 1, none⟩) (lt_of_cell e1)).trans e1, (hb3.cell (p := ⟨wr.heap.size, 2, none⟩) (lt_of_cell e2)).trans e2, (hb3.cell (p := ⟨wr.heap.size, 3, none⟩) (lt_of_cell e3)).trans e3⟩ (fun hHeld => ?_)
          clear hK K
          refine takeH (i := 10) (d := some 24) (v := .bool false) rfl rfl (by kernel_rfl) (by kernel_rfl) (by kernel_rfl) (fun _ _ _ h => h) (Or.inl ⟨by rfl, fun W hSw => by go_simp⟩) hHeld ?_
          simp only [put_some, List.set_cons_zero, List.set_cons_succ]
          refine wpAnyH_done (by kernel_rfl) ?_ _
          have WF : Four w2 wr.heap.size ⟨⟨t1, n1, s1⟩, 1⟩ := HF0.out.below hb3
          have WO := (O1.below hb3 (Nat.le_refl _)).wide hb3.size
          have WB := below_then bt hb3 O1.lo
          clear HC hHeld hb2 hb3 FA e0 e1 e2 e3
          have r2 := WO.row
          have hea : m + 1 < A.length := by rw [HAL.out]; omega
          have R := Lib.hid (stored4 r2 (m + 1) ⟨⟨t1, n1, s1⟩, 1⟩ hea)
          obtain ⟨x0, s0⟩ := cellAt_some r2 ((m + 1) * 4) (by omega)
          obtain ⟨x1, s1'⟩ := cellAt_some r2 ((m + 1) * 4 + 1) (by omega)
          obtain ⟨x2, s2⟩ := cellAt_some r2 ((m + 1) * 4 + 2) (by omega)
          obtain ⟨x3, s3⟩ := cellAt_some r2 ((m + 1) * 4 + 3) (by omega)
          have f0 := r2.frozenAt ((m + 1) * 4)
          have f1 := r2.frozenAt ((m + 1) * 4 + 1)
          have f2 := r2.frozenAt ((m + 1) * 4 + 2)
          have f3 := r2.frozenAt ((m + 1) * 4 + 3)
          obtain ⟨⟨e0, e1, e2, e3⟩, _⟩ := WF
          simp only at e0 e1 e2 e3 R
          clear r2 hea WO q0 q1 q2 q3
          go_wp2
          go_roundw
          case rel =>
            refine ⟨k + 1, A.set (m + 1) ⟨⟨t1, n1, s1⟩, 1⟩, by omega, by go_num, by rw [(HNN.out).2]; go_num, HNN.out.1, ?_, ?_⟩
            · exact ⟨g, n, rfl, HLO.out, (R.out.1.lt g rfl).2, R.out.1⟩
            · exact WB.trans ⟨R.out.2.os, R.out.2.tape, R.out.2.output, R.out.2.size, fun j hj => R.out.2.block j (by have := WB.size; omega) (by have := HLO.out; simp; omega)⟩
          case measure => simp [intOf]; omega
        | true =>
          have HC := Lib.hid (fun W (hW : Below wb.heap.size wb W) => takeIn_yes g (m * 4) y ⟨⟨t1, n1, s1⟩, 1⟩ W (FA.below hW) he ⟨by omega, by omega⟩ ⟨by show (0 : Int) ≤ 1; omega, by show (1 : Int) ≤ 1048576; omega⟩)
          have HNN := Lib.hid (HM4.out he)
          clear he HM4 HN
          go_wp2_with fail
          rw [HWB.out]
          have hmn : m < n := by omega
          have hwm : IntKind.i64.wrap (m : Int) = (m : Int) := IntWalk.i64_in _ (by omega)
          refine wp_region_held_drew (S := fun W => W.cell? ⟨wr.heap.size, 0, none⟩ = some (.int .i64 t1) ∧ W.cell? ⟨wr.heap.size, 1, none⟩ = some (.int .i64 n1) ∧ W.cell? ⟨wr.heap.size, 2, none⟩ = some (.string s1) ∧ W.cell? ⟨wr.heap.size, 3, none⟩ = some (.int .i64 1)) (by kernel_rfl) ⟨e0, e1, e2, e3⟩ (fun hHeld => ?_)
          refine takeH (i := 0) (d := some 14) (v := .int .i64 ((m : Int) + 1)) rfl rfl (by kernel_rfl) (by kernel_rfl) (by kernel_rfl) (fun _ _ _ h => h) (Or.inl ⟨by rfl, fun W hSw => by obtain ⟨d0, d1, d2, d3⟩ := hSw; go_simp⟩) hHeld ?_
          simp only [put_some, List.set_cons_zero, List.set_cons_succ]
          refine takeH (i := 1) (d := some 15) (v := .bool true) rfl rfl (by kernel_rfl) (by kernel_rfl) (by kernel_rfl) (fun _ _ _ h => h) (Or.inl ⟨by rfl, fun W hSw => by obtain ⟨d0, d1, d2, d3⟩ := hSw; go_simp⟩) hHeld ?_
          simp only [put_some, List.set_cons_zero, List.set_cons_succ]
          refine takeH (i := 2) (d := some 16) (v := .bool true) rfl rfl (by kernel_rfl) (by kernel_rfl) (by kernel_rfl) (fun _ _ _ h => h) (Or.inl ⟨by rfl, fun W hSw => by obtain ⟨d0, d1, d2, d3⟩ := hSw; go_simp⟩) hHeld ?_
          simp only [put_some, List.set_cons_zero, List.set_cons_succ]
          refine takeH (i := 3) (d := some 17) (v := .func (.func 175) #[] #[]) rfl rfl (by kernel_rfl) (by kernel_rfl) (by kernel_rfl) (fun _ _ _ h => h) (Or.inl ⟨by rfl, fun W hSw => by obtain ⟨d0, d1, d2, d3⟩ := hSw; go_simp⟩) hHeld ?_
          simp only [put_some, List.set_cons_zero, List.set_cons_succ]
          refine takeH (i := 4) (d := some 18) (v := .slice (some ⟨g, 0, none⟩) n n) rfl rfl (by kernel_rfl) (by kernel_rfl) (by kernel_rfl) (fun _ _ _ h => h) (Or.inl ⟨by rfl, fun W hSw => by obtain ⟨d0, d1, d2, d3⟩ := hSw; go_simp⟩) hHeld ?_
          simp only [put_some, List.set_cons_zero, List.set_cons_succ]
          refine takeH (i := 5) (d := some 19) (v := .int .i64 ((m : Int) + 1)) rfl rfl (by kernel_rfl) (by kernel_rfl) (by kernel_rfl) (fun _ _ _ h => h) (Or.inl ⟨by rfl, fun W hSw => by obtain ⟨d0, d1, d2, d3⟩ := hSw; go_simp⟩) hHeld ?_
          simp only [put_some, List.set_cons_zero, List.set_cons_succ]
          refine takeH (i := 6) (d := some 20) (v := .int .i64 (m : Int)) rfl rfl (by kernel_rfl) (by kernel_rfl) (by kernel_rfl) (fun _ _ _ h => h) (Or.inl ⟨by rfl, fun W hSw => by obtain ⟨d0, d1, d2, d3⟩ := hSw; go_simp⟩) hHeld ?_
          simp only [put_some, List.set_cons_zero, List.set_cons_succ]
          refine takeH (i := 7) (d := some 21) (v := .pointer (some ⟨g, m * 4, none⟩)) rfl rfl (by kernel_rfl) (by kernel_rfl) (by kernel_rfl) (fun _ _ _ h => h) (Or.inl ⟨by rfl, fun W hSw => by obtain ⟨d0, d1, d2, d3⟩ := hSw; go_simp⟩) hHeld ?_
          simp only [put_some, List.set_cons_zero, List.set_cons_succ]
          refine takeH (i := 8) (d := some 22) (v := .agg #[.int .i64 t1, .int .i64 n1, .string s1, .int .i64 1]) rfl rfl (by kernel_rfl) (by kernel_rfl) (by kernel_rfl) (fun _ _ _ h => h) (Or.inl ⟨by rfl, fun W hSw => by obtain ⟨d0, d1, d2, d3⟩ := hSw; go_simp⟩) hHeld ?_
          simp only [put_some, List.set_cons_zero, List.set_cons_succ]
          refine wpAnyH_ready (rs := [9]) (by kernel_rfl) (by simp) ?_
          refine AllReadyH.cons rfl (fun K hK => ?_) AllReadyH.nil
          go_simp
          refine (HC.out _ (below_drewN wb _ 1)).mono ?_
          rintro e w2 ⟨rfl, wm, hbm, rfl⟩
          have hb3 : Below wb.heap.size wb wm := (below_drewN wb wb.heap.size 1).trans hbm
          have WO := (O1.below hb3 (Nat.le_refl _)).wide hb3.size
          have WB := below_then bt hb3 O1.lo
          have R := Lib.hid (WO.row.stored (m * 4 + 3) (.int .i64 (y.k + 1)))
          rw [← HSK.out] at R
          have cc : ∀ j x, wb.cell? ⟨wr.heap.size, j, none⟩ = some x → (wm.setCell ⟨g, m * 4 + 3, none⟩ (.int .i64 (y.k + 1))).cell? ⟨wr.heap.size, j, none⟩ = some x := fun j x hx =>
            (World.cell?_of_block (a := ⟨wr.heap.size, j, none⟩) (R.out.2.block wr.heap.size (Nat.lt_of_lt_of_le (lt_of_cell e0) hb3.size) (by have := HGL.out; simp; omega))).trans ((hb3.cell (p := ⟨wr.heap.size, j, none⟩) (lt_of_cell hx)).trans hx)
          refine hK.out _ _ ⟨cc 0 _ e0, cc 1 _ e1, cc 2 _ e2, cc 3 _ e3⟩ (fun hHeld => ?_)
          clear hK K
          refine takeH (i := 10) (d := some 24) (v := .bool true) rfl rfl (by kernel_rfl) (by kernel_rfl) (by kernel_rfl) (fun _ _ _ h => h) (Or.inl ⟨by rfl, fun W hSw => by go_simp⟩) hHeld ?_
          simp only [put_some, List.set_cons_zero, List.set_cons_succ]
          refine wpAnyH_done (by kernel_rfl) ?_ _
          clear HC hHeld hbm hb3 FA e0 e1 e2 e3 cc q0 q1 q2 q3 WO
          go_wp2
          go_roundw
          case rel =>
            refine ⟨k + 1, A.set m ⟨y.v, y.k + 1⟩, by omega, by go_num, by rw [(HNN.out).2]; go_num, HNN.out.1, ?_, ?_⟩
            · exact ⟨g, n, rfl, HLO.out, (R.out.1.lt g rfl).2, R.out.1⟩
            · exact WB.trans ⟨R.out.2.os, R.out.2.tape, R.out.2.output, R.out.2.size, fun j hj => R.out.2.block j (by have := WB.size; omega) (by have := HLO.out; simp; omega)⟩
          case measure => simp [intOf]; omega
    · obtain rfl : k = n := by omega
      have hA1 := hj.2.1
      rw [← HL.out, List.take_length] at hA1
      rw [← HL.out, List.take_length, HL.out]
      have hre := runsL_len l
      rw [HL.out] at hre
      have HRT : Hid (rus (runsL l) = (rus A).take ((runsL l).length * 4)) := by
        show _ = _
        rw [rus_take, hA1]
      generalize hee : (runsL l).length = ee at hre HRT ⊢
      have HEE := Lib.hid hee
      clear hA1 hj hee
      by_cases hlt2 : ee < k
      · have r0 := hown.row
        obtain ⟨ys, r1, r2, r3⟩ := row_cells (Builtin.zeroCells U.zero.agg.cells (k - ee)).toList (ee * 4) wr _ r0
        have R1 := row_shorter r1 (m := ee) (by omega)
        rw [r2, ← HRT.out] at R1
        have RR := Lib.hid R1
        have R3 := Lib.hid r3
        have hcl : ∀ ty, (Builtin.clear_ #[156] ty #[.slice (some ⟨g, ee * 4, none⟩) (k - ee) (k - ee)]).run Tryz.prog wr = .ok (.tuple #[]) (wr.setCells g (ee * 4) (Builtin.zeroCells U.zero.agg.cells (k - ee)).toList) := fun ty => run_clear_runs wr ty g (ee * 4) (k - ee) (k - ee) (by omega) (fun j hj => by
          obtain ⟨x, hx⟩ := cellAt_some r0 (ee * 4 + j) (by omega)
          rw [hx]
          rfl) (fun j hj => r0.frozenAt _)
        generalize wr.setCells g (ee * 4) (Builtin.zeroCells U.zero.agg.cells (k - ee)).toList = wc at RR R3 hcl
        clear r0 r1 r2 r3 R1
        go_wp2
        go_ret
        rw [HEE.out]
        exact ⟨_, rfl, ⟨g, k, rfl, HLO.out, (RR.out.lt g rfl).2, RR.out⟩, hbr.trans ⟨R3.out.os, R3.out.tape, R3.out.output, R3.out.size, fun j hj => R3.out.block j (by have := hbr.size; omega) (by have := HLO.out; simp; omega)⟩⟩
      · obtain rfl : ee = k := by omega
        have hcl : ∀ ty a c, (Builtin.clear_ #[156] ty #[.slice a 0 c]).run Tryz.prog wr = .ok (.tuple #[]) wr := fun ty a c => by
          cases a <;> simp [Builtin.clear_, run_underlying Tryz.elemRunL.ht]
        have hRR : rus (runsL l) = rus A := by
          rw [HRT.out]
          apply List.take_of_length_le
          rw [rus_len, HAL.out]
          omega
        have HRR := Lib.hid hRR
        clear hlt2 hlt hk hre hRR HRT h
        go_wp2_with fail
        go_ret
        rw [HEE.out, HRR.out]
        exact ⟨_, rfl, hown, hbr⟩

end Go.Proofs.YtkofafefnlommaaGreat

/- The contracts of impl's Runs, LongestRun. -/
namespace Go.Proofs.YtkofafefnlommaaGreat
open Go.RowKit Go.Lib

set_option maxHeartbeats 1000000 in
theorem iRuns : CRuns := by
  intro u l w hn hss h
  have HJ := Lib.hid (fun g W lo hO => joined g l.length l W lo hn rfl hO)
  generalize hl : l.length = n at h hn HJ
  obtain ⟨a, cap, rfl, hm, HC⟩ := h.vals hl
  unfold maxLen at hm
  have HL := Lib.hid hl
  have HLM : Hid ((l.map fun v => (⟨v, 1⟩ : U)).length = n) := by
    show _ = _
    rw [List.length_map, hl]
  have HG : Hid (∀ k, k < n → (l.map fun v => (⟨v, 1⟩ : U)).getD k U.zero = ⟨l.getD k V.zero, 1⟩) := fun k hk => by
    have hk' : k < l.length := by omega
    simp [hk']
  generalize (l.map fun v => (⟨v, 1⟩ : U)) = m at HJ HLM HG
  clear h hl hss
  go_enter Tryz.func154, Tryz.ntmps154
  go_wp2_with (at_make; refine make_law Tryz.elemRunL rfl _ _ rfl .i64 .i64 _ _ n rfl rfl rfl rfl (by omega) (by unfold maxLen; omega) ?_)
  intro w1 hown1 hb1
  have hown0 : Own 124 4 w.heap.size w1.heap.size w1 (.slice (some ⟨w.heap.size, 0, none⟩) n n) n (rus (halfU m 0)) := by
    have e : rus (halfU m 0) = (madeCells U.zero.cs.toArray (n * 4)).toList := by
      rw [made_flat U.cs U.zero 4 n (by omega) (fun _ => rfl), ← HLM.out]
      simp [halfU, rus]
    rw [e]
    exact hown1
  clear hown1
  go_wp2
  go_loopw [11] (fun i wr => ∃ k : Nat, k ≤ n ∧ i = .int .i64 k ∧ Own 124 4 w.heap.size wr.heap.size wr (.slice (some ⟨w.heap.size, 0, none⟩) n n) n (rus (halfU m k)) ∧ Below w.heap.size w wr) (fun i _ => n - (intOf i).toNat)
  case atStart => exact ⟨0, Nat.zero_le _, rfl, hown0, hb1⟩
  case round =>
    obtain ⟨k, hk, rfl, hown, hbr⟩ := hrel
    by_cases hlt : k < n
    · obtain ⟨b, off, rfl, p0, p1, p2⟩ := HC.out k hlt
      replace p0 := (hbr.cell (p := ⟨b, off + k * 3, none⟩) (lt_of_cell p0)).trans p0
      replace p1 := (hbr.cell (p := ⟨b, off + k * 3 + 1, none⟩) (lt_of_cell p1)).trans p1
      replace p2 := (hbr.cell (p := ⟨b, off + k * 3 + 2, none⟩) (lt_of_cell p2)).trans p2
      have HST := Lib.hid (halfU_set (l := m) (k := k) (by rw [HLM.out]; exact hlt))
      have HHL := Lib.hid (halfU_len (l := m) (k := k) (by rw [HLM.out]; omega))
      rw [HG.out k hlt] at HST
      generalize l.getD k V.zero = x at p0 p1 p2 HST
      obtain ⟨t1, n1, s1⟩ := x
      simp only at p0 p1 p2
      have ba := below_alloc wr (.cells #[.int .i64 t1, .int .i64 n1, .string s1] 77)
      have bt := below_then hbr ba hbr.size
      have O1 := hown.alloc (.cells #[.int .i64 t1, .int .i64 n1, .string s1] 77)
      have r2 := O1.row
      have R := Lib.hid (stored4 r2 k ⟨⟨t1, n1, s1⟩, 1⟩ (by rw [HHL.out, HLM.out]; exact hlt))
      rw [HST.out] at R
      obtain ⟨x0, s0⟩ := cellAt_some r2 (k * 4) (by omega)
      obtain ⟨x1, s1'⟩ := cellAt_some r2 (k * 4 + 1) (by omega)
      obtain ⟨x2, s2⟩ := cellAt_some r2 (k * 4 + 2) (by omega)
      obtain ⟨x3, s3⟩ := cellAt_some r2 (k * 4 + 3) (by omega)
      have f0 := r2.frozenAt (k * 4)
      have f1 := r2.frozenAt (k * 4 + 1)
      have f2 := r2.frozenAt (k * 4 + 2)
      have f3 := r2.frozenAt (k * 4 + 3)
      simp only at R
      clear hown hbr O1 r2 ba
      go_wp2
      go_roundw
      case rel => exact ⟨k + 1, by omega, by go_num, ⟨_, _, rfl, Nat.le_refl _, (R.out.1.lt _ rfl).2, R.out.1⟩, bt.trans ⟨R.out.2.os, R.out.2.tape, R.out.2.output, R.out.2.size, fun j hj => R.out.2.block j (by have := bt.size; omega) (by simp; omega)⟩⟩
      case measure => simp [intOf]; omega
    · obtain rfl : k = n := by omega
      rw [← HLM.out, halfU_all, HLM.out] at hown
      have HJ2 := Lib.hid (HJ.out _ wr w.heap.size hown)
      go_wp2_with fail
      refine HJ2.out.mono ?_
      rintro e w2 ⟨v2, rfl, o2, b2⟩
      have O2 := Lib.hid o2
      have B2 := hbr.trans b2
      clear o2
      obtain ⟨g2, c2, rfl⟩ : ∃ g c, v2 = .slice (some ⟨g, 0, none⟩) (runsL l).length c := by
        obtain ⟨g, c, e, _⟩ := O2.out
        exact ⟨g, c, e⟩
      go_wp2
      go_ret
      exact ⟨_, rfl, O2.out, B2⟩

end Go.Proofs.YtkofafefnlommaaGreat

/- The contract of impl's EncRuns. -/
namespace Go.Proofs.YtkofafefnlommaaGreat
open Go.RowKit Go.Lib


set_option maxHeartbeats 2000000 in
theorem iEncRuns : CEncRuns := by
  intro u l w hn hss h
  have hown0 := own_lit (e := 5) (size := 1) w #[] 0 (Nat.zero_le _) rfl
  have hb0 := below_alloc w (.cells #[] 5)
  have HT := Lib.hid (iTypeOf u l _ hn hss (h.below hb0))
  have HR := Lib.hid (fun W (hW : Below w.heap.size w W) => iRuns u l W hn hss (h.below hW))
  have HE : Hid (encR l = if typeV l = 0 then [] else encU (Num.put [] (runsL l).length) (runsL l)) := rfl
  have HRL := Lib.hid (runsL_len l)
  have HRK := Lib.hid (runsL_k l)
  have HTL : Hid (¬ typeV l = 0 → l.length ≤ 64) := typeV_len
  have HROK : Hid (¬ typeV l = 0 → ∀ u ∈ runsL l, okV u.v = true) := fun h => runsL_all (p := fun v => okV v = true) (fun v hv => by
    obtain ⟨k, hk, rfl⟩ := List.getElem_of_mem hv
    have := typeV_ok h hk
    have e : l.getD k V.zero = l[k] := by simp [hk]
    rw [e] at this
    exact this)
  obtain ⟨a, cap, rfl, _, _⟩ := h
  generalize typeV l = ty at HT HE HTL HROK
  generalize runsL l = r at HR HE HRL HRK HROK
  clear hss
  generalize hln : l.length = n at *
  go_enter Tryz.func132, Tryz.ntmps132
  go_wp2_with fail
  refine HT.out.mono ?_
  rintro e w1 ⟨rfl, b1⟩
  have B1 := below_then hb0 b1 hb0.size
  have O1 := (hown0.below b1 (Nat.le_refl _)).wide b1.size
  clear b1 hb0 hown0 HT
  by_cases ht : ty = 0
  · subst ht
    rw [if_pos rfl] at HE
    go_wp2
    go_ret
    rw [HE.out]
    exact ⟨_, rfl, O1, B1⟩
  · have htb : (ty == 0) = false := by simpa using ht
    have h64 := HTL.out ht
    have hrl := HRL.out
    have HROK2 := Lib.hid (HROK.out ht)
    rw [if_neg ht] at HE
    go_wp2_with fail
    refine (HR.out _ B1).mono ?_
    rintro e w2 ⟨v2, rfl, o2, b2⟩
    have B2 := below_then B1 b2 B1.size
    have O2 := (O1.below b2 (Nat.le_refl _)).wide b2.size
    clear HR b2 O1 B1
    generalize hm : r.length = m at o2 hrl HE
    obtain ⟨g2, c2, rfl, _, _, _⟩ : ∃ g c, v2 = .slice (some ⟨g, 0, none⟩) m c ∧ True ∧ True ∧ True := by
      obtain ⟨g, c, e, _⟩ := o2
      exact ⟨g, c, e, trivial, trivial, trivial⟩
    have HM := Lib.hid hm
    have HS : Hid (∀ k, k < m → encU (Num.put [] (m : Int)) (r.take (k + 1)) = putV (Num.put (encU (Num.put [] (m : Int)) (r.take k)) (r.getD k U.zero).k) (r.getD k U.zero).v) := fun k hk => by
      have hk' : k < r.length := by omega
      have e : r.getD k U.zero = r[k] := by simp [hk']
      rw [e, List.take_succ_eq_append_getElem hk', encU_snoc]
    have HSS : Hid (∀ k, k < m → okV (r.getD k U.zero).v = true ∧ 1 ≤ (r.getD k U.zero).k ∧ (r.getD k U.zero).k ≤ 64) := fun k hk => by
      have hk' : k < r.length := by omega
      have e : r.getD k U.zero = r[k] := by simp [hk']
      rw [e]
      have h1 := HRK.out _ (List.getElem_mem hk')
      exact ⟨HROK2.out _ (List.getElem_mem hk'), by omega, by omega⟩
    have HEL : Hid (∀ k, k ≤ m → (encU (Num.put [] (m : Int)) (r.take k)).length ≤ 5 + 12 * k) := fun k hk => by
      have h1 := encU_len (Num.put [] (m : Int)) (r.take k)
      have h2 := (Num.put_len [] (m : Int)).2
      have e : (r.take k).length = k := by simp; omega
      rw [e] at h1
      simp only [List.length_nil] at h2
      omega
    have HZ : Hid (encU (Num.put [] (m : Int)) (r.take 0) = Num.puts [] [(m : Int)]) := by
      show Num.put [] (m : Int) = _
      exact putNum_puts (by unfold Num.ok; omega)
    clear hm HRK HROK HROK2
    have hl : At 1 (w2.alloc (.cells #[.int .i64 (m : Int)] 3)) (.slice (some ⟨w2.heap.size, 0, none⟩) 1 1) 1 (ints .i64 [(m : Int)]) := (own_lit w2 #[.int .i64 (m : Int)] 1 (by unfold maxLen; omega) rfl).at
    have HA := Lib.hid (appendNums _ _ _ _ 0 1 [] [(m : Int)] _ rfl rfl (by omega) (by omega) (O2.alloc (.cells #[.int .i64 (m : Int)] 3)) hl (fun _ => own_ne O2 (Nat.le_refl _)))
    have o2' := (o2.alloc (.cells #[.int .i64 (m : Int)] 3))
    have NE2 := O2.blocks_ne o2 (by decide)
    go_wp2_with fail
    refine HA.out.mono ?_
    rintro e w3 ⟨v3, rfl, o3, e3⟩
    rw [← HZ.out] at o3
    have B3 : Below w.heap.size w w3 := (B2.alloc O2.lo _).trans (e3.below (O2.alloc _))
    have R3 := (o2'.other e3.grown NE2).wide (Nat.le_trans (by simp) e3.grown.size)
    clear HA hl o2 o2' NE2 e3 B2 O2
    go_wp2
    go_loopw [3, 21] (fun o i wr => ∃ k : Nat, k ≤ m ∧ i = .int .i64 k ∧ Own 5 1 w.heap.size wr.heap.size wr o (encU (Num.put [] (m : Int)) (r.take k)).length (ints .u8 (encU (Num.put [] (m : Int)) (r.take k))) ∧ Own 124 4 w1.heap.size wr.heap.size wr (.slice (some ⟨g2, 0, none⟩) m c2) m (rus r) ∧ Below w.heap.size w wr) (fun _ i _ => m - (intOf i).toNat)
    case atStart => exact ⟨0, Nat.zero_le _, rfl, o3, R3, B3⟩
    case round =>
      obtain ⟨k, hk, rfl, hown, hrr, hbr⟩ := hrel
      by_cases hlt : k < m
      · obtain ⟨b', off', cp', e', _, _, _, hcs⟩ := hrr.at
        simp only [Value.slice.injEq, Option.some.injEq, Addr.mk.injEq, and_true, true_and] at e'
        obtain ⟨⟨rfl, rfl⟩, rfl⟩ := e'
        have hkr : k < r.length := by rw [HM.out]; exact hlt
        obtain ⟨q0, q1, q2, q3⟩ := cells4 hcs hkr
        have hgd : r.getD k U.zero = r[k] := by simp [hkr]
        rw [← hgd] at q0 q1 q2 q3
        simp only [Nat.zero_add] at q0 q1 q2 q3
        have HSK := Lib.hid (HS.out k hlt)
        have hel := HEL.out k hk
        have hss := HSS.out k hlt
        clear hgd hkr hcs
        generalize r.getD k U.zero = x at q0 q1 q2 q3 HSK hss
        have ba := below_alloc wr (.cells #[.int .i64 x.v.ty, .int .i64 x.v.n, .string x.v.s, .int .i64 x.k] 124)
        have F0 := four_new wr x 124
        have NE := hown.blocks_ne hrr (by decide)
        obtain ⟨hok, hx1, hx2⟩ := hss
        generalize encU (Num.put [] (m : Int)) (r.take k) = zs at hown hel HSK
        have hpp : Hid (Num.put zs x.k = Num.puts zs [x.k]) := putNum_puts (by unfold Num.ok; omega)
        have hpl := (Num.put_len zs x.k).2
        have HPV := Lib.hid (fun v hi W (h : Own 5 1 w.heap.size hi W v (Num.put zs x.k).length (ints .u8 (Num.put zs x.k))) => appendValG v w.heap.size hi (Num.put zs x.k).length (Num.put zs x.k) x.v W (by omega) rfl hok h)
        rw [← HSK.out] at HPV
        obtain ⟨g, cp, rfl, hg1, hg2, hrow⟩ := hown
        have hown : Own 5 1 w.heap.size wr.heap.size wr (.slice (some ⟨g, 0, none⟩) zs.length cp) zs.length (ints .u8 zs) := ⟨g, cp, rfl, hg1, hg2, hrow⟩
        have HG2 := Lib.hid hg2
        clear hg1 hg2 hrow hok
        obtain ⟨⟨t1, n1, s1⟩, q⟩ := x
        simp only at q0 q1 q2 q3 HPV ba F0 hx1 hx2 hpp hpl
        have hszb : (wr.alloc (.cells #[.int .i64 t1, .int .i64 n1, .string s1, .int .i64 q] 124)).heap.size = wr.heap.size + 1 := World.size_alloc _ _
        have O1 := hown.alloc (.cells #[.int .i64 t1, .int .i64 n1, .string s1, .int .i64 q] 124)
        have rr1 := hrr.alloc (.cells #[.int .i64 t1, .int .i64 n1, .string s1, .int .i64 q] 124)
        have bt := hbr.alloc hbr.size (.cells #[.int .i64 t1, .int .i64 n1, .string s1, .int .i64 q] 124)
        generalize hwb : wr.alloc (.cells #[.int .i64 t1, .int .i64 n1, .string s1, .int .i64 q] 124) = wb at ba F0 hszb O1 rr1 bt
        have HWB := Lib.hid hwb
        have HSB := Lib.hid hszb
        have HF0 := Lib.hid F0
        have hl : At 1 (wb.drew.alloc (.cells #[.int .i64 q] 3)) (.slice (some ⟨wb.heap.size, 0, none⟩) 1 1) 1 (ints .i64 [q]) := (own_lit wb.drew #[.int .i64 q] 1 (by unfold maxLen; omega) rfl).at
        have HA := Lib.hid (appendNums _ _ _ _ zs.length 1 zs [q] _ rfl rfl (by omega) (by omega) (O1.drew.alloc (.cells #[.int .i64 q] 3)) hl (fun _ => own_ne O1 (by omega)))
        rw [← hpp.out] at HA
        clear hwb hszb hl hown hrr hel hpl hpp
        generalize zs.length = c at *
        go_wp2_with fail
        rw [HWB.out]
        refine wp_region_held_drew (S := fun W => Four W wr.heap.size ⟨⟨t1, n1, s1⟩, q⟩) (by kernel_rfl) F0 (fun hHeld => ?_)
        refine takeH (i := 0) (d := some 25) (v := .slice (some ⟨g, 0, none⟩) c cp) rfl rfl (by kernel_rfl) (by kernel_rfl) (by kernel_rfl) (fun _ _ _ h => h) (Or.inl ⟨by rfl, fun W hSw => by obtain ⟨⟨d0, d1, d2, d3⟩, _⟩ := hSw; go_simp⟩) hHeld ?_
        simp only [put_some, List.set_cons_zero, List.set_cons_succ]
        refine takeH (i := 1) (d := some 26) (v := .pointer (some ⟨wr.heap.size, 3, none⟩)) rfl rfl (by kernel_rfl) (by kernel_rfl) (by kernel_rfl) (fun _ _ _ h => h) (Or.inl ⟨by rfl, fun W hSw => by obtain ⟨⟨d0, d1, d2, d3⟩, _⟩ := hSw; go_simp⟩) hHeld ?_
        simp only [put_some, List.set_cons_zero, List.set_cons_succ]
        refine takeH (i := 2) (d := some 27) (v := .int .i64 q) rfl rfl (by kernel_rfl) (by kernel_rfl) (by kernel_rfl) (fun _ _ _ h => h) (Or.inl ⟨by rfl, fun W hSw => by obtain ⟨⟨d0, d1, d2, d3⟩, _⟩ := hSw; go_simp⟩) hHeld ?_
        simp only [put_some, List.set_cons_zero, List.set_cons_succ]
        refine takeH (i := 5) (d := some 30) (v := .pointer (some ⟨wr.heap.size, 0, none⟩)) rfl rfl (by kernel_rfl) (by kernel_rfl) (by kernel_rfl) (fun _ _ _ h => h) (Or.inl ⟨by rfl, fun W hSw => by obtain ⟨⟨d0, d1, d2, d3⟩, _⟩ := hSw; go_simp⟩) hHeld ?_
        simp only [put_some, List.set_cons_zero, List.set_cons_succ]
        refine takeH (i := 6) (d := some 31) (v := .agg #[.int .i64 t1, .int .i64 n1, .string s1]) rfl rfl (by kernel_rfl) (by kernel_rfl) (by kernel_rfl) (fun _ _ _ h => h) (Or.inl ⟨by rfl, fun W hSw => by obtain ⟨⟨d0, d1, d2, d3⟩, _⟩ := hSw; go_simp⟩) hHeld ?_
        simp only [put_some, List.set_cons_zero, List.set_cons_succ]
        refine wpAnyH_ready (rs := [3]) (by kernel_rfl) (by simp) ?_
        refine AllReadyH.cons rfl (fun K hK => ?_) AllReadyH.nil
        go_simp
        refine hK.out _ _ (hHeld.below (below_alloc wb.drew _)) (fun hHeld => ?_)
        clear hK K
        refine wpAnyH_ready (rs := [4]) (by kernel_rfl) (by simp) ?_
        refine AllReadyH.cons rfl (fun K hK => ?_) AllReadyH.nil
        go_simp
        refine HA.out.mono ?_
        rintro e w4 ⟨v4, rfl, o4, e4⟩
        have hb4 : Below w.heap.size w w4 := ((bt.trans (below_drewN wb w.heap.size 1)).alloc O1.drew.lo _).trans (e4.below (O1.drew.alloc _))
        have E4 : Ext wb.drew w4 (.slice (some ⟨g, 0, none⟩) c cp) v4 := (Ext.alloc _ _).trans e4
        have hne4 : some wr.heap.size ≠ v4.ownBlock := fun hb => by
          rcases E4.blk with h1 | ⟨g', h1, h2⟩
          · rw [← hb] at h1
            have h3 : wr.heap.size = g := by simpa [Value.ownBlock] using h1
            have := HG2.out
            omega
          · rw [← hb] at h1
            obtain rfl : wr.heap.size = g' := by simpa using h1
            have h3 : wb.drew.heap.size = wb.heap.size := rfl
            have := HSB.out
            omega
        have f4 : Four w4 wr.heap.size ⟨⟨t1, n1, s1⟩, q⟩ := Four.ext (W := wb.drew) HF0.out E4 (by
          intro e
          have h3 : wr.heap.size = g := by simpa [Value.ownBlock] using e
          have := HG2.out
          omega)
        have rr4 := (rr1.drew.other E4.grown NE).wide (show wr.heap.size ≤ w4.heap.size by
          have h1 := E4.grown.size
          have h3 : wb.drew.heap.size = wb.heap.size := rfl
          have := HSB.out
          omega)
        have NE4 := o4.blocks_ne rr4 (by decide)
        refine hK.out _ _ f4 (fun hHeld => ?_)
        clear hK K e4 HA
        refine wpAnyH_ready (rs := [7]) (by kernel_rfl) (by simp) ?_
        refine AllReadyH.cons rfl (fun K hK => ?_) AllReadyH.nil
        go_simp
        refine (HPV.out v4 _ w4 o4).mono ?_
        rintro e w5 ⟨v5, rfl, o5, b5, g5⟩
        have hb5 := hb4.trans b5
        have f5 : Four w5 wr.heap.size ⟨⟨t1, n1, s1⟩, q⟩ := by
          have hb := g5.block wr.heap.size (lt_of_cell f4.1.1) hne4
          have hc : ∀ j, w5.cell? ⟨wr.heap.size, j, none⟩ = w4.cell? ⟨wr.heap.size, j, none⟩ := fun j => World.cell?_of_block hb
          have hf : ∀ j, w5.frozen? ⟨wr.heap.size, j, none⟩ = w4.frozen? ⟨wr.heap.size, j, none⟩ := fun j => World.frozen?_of_block hb
          exact ⟨⟨(hc 0).trans f4.1.1, (hc 1).trans f4.1.2.1, (hc 2).trans f4.1.2.2.1, (hc 3).trans f4.1.2.2.2⟩, (hf 0).trans f4.2.1, (hf 1).trans f4.2.2.1, (hf 2).trans f4.2.2.2.1, (hf 3).trans f4.2.2.2.2⟩
        have rr5 := Lib.hid ((rr4.other g5 NE4).wide g5.size)
        have O5 := Lib.hid o5
        obtain ⟨gg5, cp5, hv5⟩ : ∃ g c, v5 = .slice (some ⟨g, 0, none⟩) (encU (Num.put [] (m : Int)) (r.take (k + 1))).length c := by
          obtain ⟨g, c, e, _⟩ := o5
          exact ⟨g, c, e⟩
        refine hK.out _ _ f5 (fun hHeld => ?_)
        clear hK K rr4 o4 o5 NE4 b5 g5 hb4 E4 hne4 f4 f5 HPV rr1 NE
        subst hv5
        generalize hc5 : (encU (Num.put [] (m : Int)) (r.take (k + 1))).length = c5 at O5 ⊢
        have HC5 := Lib.hid hc5
        clear hc5
        refine takeH (i := 8) (d := some 3) (v := .slice (some ⟨gg5, 0, none⟩) c5 cp5) rfl rfl (by kernel_rfl) (by kernel_rfl) (by kernel_rfl) (fun _ _ _ h => h) (Or.inl ⟨by rfl, fun W hSw => by obtain ⟨⟨d0, d1, d2, d3⟩, _⟩ := hSw; go_simp⟩) hHeld ?_
        simp only [put_some, List.set_cons_zero, List.set_cons_succ]
        refine wpAnyH_done (by kernel_rfl) ?_ _
        go_wp2
        go_roundw
        case rel => exact ⟨k + 1, by omega, by go_num, by rw [HC5.out]; exact O5.out, rr5.out, hb5⟩
        case measure => simp [intOf]; omega
      · obtain rfl : k = m := by omega
        rw [← HM.out, List.take_length, HM.out, ← HE.out] at hown
        go_wp2
        go_ret
        exact ⟨_, rfl, hown, hbr⟩

end Go.Proofs.YtkofafefnlommaaGreat

/- The contracts of impl's getRuns, DecRuns. -/
namespace Go.Proofs.YtkofafefnlommaaGreat
open Go.RowKit Go.Lib

/-- The runs at the start of some bytes. -/
def getU (zs : List Int) (ty : Int) : Option (List U) :=
  if (Num.get zs 0).2.2 = true ∧ 0 ≤ (Num.get zs 0).1 ∧ (Num.get zs 0).1 ≤ 64 then decU zs ty (Num.get zs 0).1.toNat (Num.get zs 0).2.1 else none
def RUs (w w' : World) (e : Ending) (r : Option (List U)) : Prop :=
  (r = none → e = .returned (.tuple #[.slice none 0 0, .bool false])) ∧ (∀ l, r = some l → ∃ v', e = .returned (.tuple #[v', .bool true]) ∧ Own 124 4 w.heap.size w'.heap.size w' v' l.length (rus l)) ∧ Below w.heap.size w w'
theorem rus_none {w w' : World} (h : Below w.heap.size w w') : RUs w w' (.returned (.tuple #[.slice none 0 0, .bool false])) none := ⟨fun _ => rfl, fun _ h' => (by cases h'), h⟩
def fillU (pre : List U) (n : Nat) : List U := pre ++ List.replicate (n - pre.length) U.zero
theorem fillU_len {pre : List U} {n : Nat} (h : pre.length ≤ n) : (fillU pre n).length = n := by simp [fillU]; omega
theorem fillU_set {pre : List U} {n : Nat} (x : U) (h : pre.length < n) : (fillU pre n).set pre.length x = fillU (pre ++ [x]) n := by
  unfold fillU
  rw [List.set_append_right _ _ (Nat.le_refl _), Nat.sub_self, show n - pre.length = (n - (pre ++ [x]).length) + 1 by simp; omega, List.replicate_succ, List.set_cons_zero]
  simp
theorem fillU_full {pre : List U} {n : Nat} (h : pre.length = n) : fillU pre n = pre := by simp [fillU, h]

theorem rus_setV (l : List U) (k : Nat) (x : U) (hk : k < l.length) (hx : (l.getD k U.zero).k = x.k) : rus (l.set k x) = (((rus l).set (k * 4) (.int .i64 x.v.ty)).set (k * 4 + 1) (.int .i64 x.v.n)).set (k * 4 + 2) (.string x.v.s) := by
  rw [rus_set l k x hk]
  apply set_same
  have h1 := rus_get (j := 3) hk (by omega)
  have e : l.getD k U.zero = l[k] := by simp [hk]
  rw [e] at hx
  rw [List.getElem?_set_ne (by omega), List.getElem?_set_ne (by omega), List.getElem?_set_ne (by omega), h1]
  simp [U.cs, hx]
/-- The first three cells of Run k of an owned slice, stored anew. -/
theorem stored43 {w : World} {lo : Nat} {e : TypeId} {g n cap : Nat} {l : List U} (h : w.ownsRow lo e 4 (.slice (some ⟨g, 0, none⟩) n cap) n (rus l)) (k : Nat) (x : U) (hk : k < l.length) (hx : (l.getD k U.zero).k = x.k) :
    (((w.setCell ⟨g, k * 4, none⟩ (.int .i64 x.v.ty)).setCell ⟨g, k * 4 + 1, none⟩ (.int .i64 x.v.n)).setCell ⟨g, k * 4 + 2, none⟩ (.string x.v.s)).ownsRow lo e 4 (.slice (some ⟨g, 0, none⟩) n cap) n (rus (l.set k x)) ∧
      w.grownBy (((w.setCell ⟨g, k * 4, none⟩ (.int .i64 x.v.ty)).setCell ⟨g, k * 4 + 1, none⟩ (.int .i64 x.v.n)).setCell ⟨g, k * 4 + 2, none⟩ (.string x.v.s)) (some g) := by
  have s1 := h.stored (k * 4) (.int .i64 x.v.ty)
  have s2 := s1.1.stored (k * 4 + 1) (.int .i64 x.v.n)
  have s3 := s2.1.stored (k * 4 + 2) (.string x.v.s)
  rw [rus_setV l k x hk hx]
  exact ⟨s3.1, (s1.2.trans s2.2).trans s3.2⟩
theorem fillU_setK {pre : List U} {n : Nat} (h : pre.length < n) (m : Int) (x : U) (hx : x.k = m) : ((fillU pre n).set pre.length ⟨((fillU pre n).getD pre.length U.zero).v, m⟩).set pre.length x = fillU (pre ++ [x]) n ∧ (((fillU pre n).set pre.length ⟨((fillU pre n).getD pre.length U.zero).v, m⟩).getD pre.length U.zero).k = x.k := by
  have hl : pre.length < (fillU pre n).length := by rw [fillU_len (by omega)]; exact h
  refine ⟨by rw [List.set_set, fillU_set x h], ?_⟩
  simp [hl, hx]

set_option maxHeartbeats 2000000 in
theorem getRuns (u : Value) (n : Nat) (zs : List Int) (ty : Int) (w : World) (hn : n ≤ 1048576) (hz : zs.length = n) (hby : Num.Bytes zs) (h : At 1 w u n (ints .u8 zs)) :
    Calls Tryz.prog 163 #[u, .int .i64 ty] w fun e w' => RUs w w' e (getU zs ty) := by
  have HG := Lib.hid (fun i W (hW : Below w.heap.size w W) => iGetNum u n zs i W (by omega) hz hby (h.below hW))
  have HV := Lib.hid (fun i W (hW : Below w.heap.size w W) => iGetVal u n zs i ty W hn hz hby (h.below hW))
  have HE : Hid (getU zs ty = if (Num.get zs 0).2.2 = true ∧ 0 ≤ (Num.get zs 0).1 ∧ (Num.get zs 0).1 ≤ 64 then decU zs ty (Num.get zs 0).1.toNat (Num.get zs 0).2.1 else none) := rfl
  have HD : Hid (∀ m i, decU zs ty (m + 1) i = if (Num.get zs i).2.2 = true ∧ (getV zs (Num.get zs i).2.1 ty).2.2 = true then (decU zs ty m (getV zs (Num.get zs i).2.1 ty).2.1).map fun r => ⟨(getV zs (Num.get zs i).2.1 ty).1, (Num.get zs i).1⟩ :: r else none) := fun m i => rfl
  have HG0 := Lib.hid (HG.out 0 w (Below.refl _ _))
  generalize getU zs ty = X at HE
  obtain ⟨b, off, cap, rfl, _, _, _, _⟩ := h
  clear hz hby
  generalize hg : Num.get zs 0 = r0 at HE HG0
  obtain ⟨c, at0, ok⟩ := r0
  simp only [getRes] at HE HG0
  clear hg
  have HX : Hid (X = none → ∀ w', Below w.heap.size w w' → RUs w w' (.returned (.tuple #[.slice none 0 0, .bool false])) X) := fun h w' hw => by
    rw [h]
    exact rus_none hw
  cases ok with
  | false =>
    have HN := Lib.hid (HX.out (HE.out.trans (if_neg (by simp))))
    clear HX HE HD HV HG
    go_enter Tryz.func163, Tryz.ntmps163
    go_wp2_with fail
    refine HG0.out.mono ?_
    rintro e w1 ⟨rfl, rfl⟩
    go_wp2
    go_ret2
    exact HN.out _ (Below.refl _ _)
  | true =>
    by_cases h0 : c < 0
    · have HN := Lib.hid (HX.out (HE.out.trans (if_neg (by omega))))
      clear HX HE HD HV HG
      go_enter Tryz.func163, Tryz.ntmps163
      go_wp2_with fail
      refine HG0.out.mono ?_
      rintro e w1 ⟨rfl, rfl⟩
      go_wp2
      go_ret2
      exact HN.out _ (Below.refl _ _)
    · by_cases h1 : 64 < c
      · have HN := Lib.hid (HX.out (HE.out.trans (if_neg (by omega))))
        clear HX HE HD HV HG
        go_enter Tryz.func163, Tryz.ntmps163
        go_wp2_with fail
        refine HG0.out.mono ?_
        rintro e w1 ⟨rfl, rfl⟩
        go_wp2
        go_ret2
        exact HN.out _ (Below.refl _ _)
      · obtain ⟨C, rfl⟩ := Int.eq_ofNat_of_zero_le (show 0 ≤ c by omega)
        rw [if_pos ⟨rfl, by omega, by omega⟩, Int.toNat_natCast] at HE
        go_enter Tryz.func163, Tryz.ntmps163
        go_wp2_with fail
        refine HG0.out.mono ?_
        rintro e w1 ⟨rfl, rfl⟩
        clear HG0
        go_wp2_with (at_make; refine make_law Tryz.elemRuns rfl _ _ rfl .i64 .i64 _ _ C rfl rfl rfl rfl (by omega) (by unfold maxLen; omega) ?_)
        intro w1 hown1 hb1
        have hown0 : Own 124 4 w.heap.size w1.heap.size w1 (.slice (some ⟨w.heap.size, 0, none⟩) C C) C (rus (fillU [] C)) := by
          have e : rus (fillU [] C) = (madeCells U.zero.cs.toArray (C * 4)).toList := by
            rw [made_flat U.cs U.zero 4 C (by omega) (fun _ => rfl)]
            simp [fillU, rus]
          rw [e]
          exact hown1
        clear hown1
        go_wp2
        go_loopw [7, 31] (fun p i wr => ∃ (j : Nat) (q : Int) (pre : List U), j ≤ C ∧ i = .int .i64 j ∧ p = .int .i64 q ∧ pre.length = j ∧ X = (decU zs ty (C - j) q).map (fun r => pre ++ r) ∧ Own 124 4 w.heap.size wr.heap.size wr (.slice (some ⟨w.heap.size, 0, none⟩) C C) C (rus (fillU pre C)) ∧ Below w.heap.size w wr) (fun _ i _ => C - (intOf i).toNat)
        case atStart => exact ⟨0, at0, [], Nat.zero_le _, rfl, rfl, rfl, by rw [HE.out]; simp, hown0, hb1⟩
        case round =>
          obtain ⟨j, q, pre, hj, rfl, rfl, hpl, hX, hown, hbr⟩ := hrel
          by_cases hlt : j < C
          · have HGj := Lib.hid (HG.out q wr hbr)
            have HXj : Hid (X = (decU zs ty (C - (j + 1) + 1) q).map (fun r => pre ++ r)) := by
              show _ = _
              rw [hX, show C - (j + 1) + 1 = C - j by omega]
            rw [HD.out] at HXj
            have HVj := Lib.hid (fun W hW => HV.out (Num.get zs q).2.1 W hW)
            generalize hr1 : Num.get zs q = r1 at HGj HXj HVj
            obtain ⟨m, nx, is⟩ := r1
            simp only [getRes] at HGj HXj HVj
            have HSETK := Lib.hid (fillU_setK (pre := pre) (n := C) (by omega) m)
            have hfl : pre.length < (fillU pre C).length := by rw [fillU_len (by omega)]; omega
            rw [hpl] at HSETK hfl
            have HPL := Lib.hid hpl
            have r1 := hown.row
            obtain ⟨x3, s3⟩ := cellAt_some r1 (j * 4 + 3) (by omega)
            have f3 := r1.frozenAt (j * 4 + 3)
            have R1 := r1.stored (j * 4 + 3) (.int .i64 m)
            rw [← rus_setK _ j m hfl] at R1
            generalize hL1 : (fillU pre C).set j ⟨((fillU pre C).getD j U.zero).v, m⟩ = L1 at R1 HSETK
            have HLL : Hid (j < L1.length) := by
              show _ < _
              rw [← hL1, List.length_set]
              exact hfl
            have HB1 := Lib.hid (hbr.trans (B := w.heap.size) ⟨R1.2.os, R1.2.tape, R1.2.output, R1.2.size, fun i hi => R1.2.block i (by have := hbr.size; omega) (by simp; omega)⟩)
            have HR1 := Lib.hid R1.1
            clear hr1 hX hfl hpl r1 R1 hL1 hown
            cases is with
            | false =>
              have HN := Lib.hid (HX.out (HXj.out.trans (by rw [if_neg (by simp)]; rfl)))
              clear HSETK HVj HXj
              go_wp2_with fail
              refine HGj.out.mono ?_
              rintro e w2 ⟨rfl, rfl⟩
              clear HGj
              go_wp2
              go_ret2
              exact HN.out _ HB1.out
            | true =>
              generalize hwk : wr.setCell ⟨w.heap.size, j * 4 + 3, none⟩ (.int .i64 m) = wk at HB1 HR1
              have HWK := Lib.hid hwk
              have HV2 := Lib.hid (HVj.out wk HB1.out)
              generalize hr2 : getV zs nx ty = r2 at HXj HV2
              obtain ⟨⟨t2, n2, s2⟩, to, may⟩ := r2
              simp only [rGet] at HXj HV2
              clear hr2 hwk HVj
              go_wp2_with fail
              refine HGj.out.mono ?_
              rintro e w2 ⟨rfl, rfl⟩
              clear HGj
              go_wp2_with fail
              rw [HWK.out]
              refine HV2.out.mono ?_
              rintro e w3 ⟨rfl, hb3⟩
              have O3 := (own_of_row HR1.out (Nat.le_refl _)).below hb3 (Nat.le_refl _)
              have r3 := O3.row
              have HB3 := Lib.hid (below_then HB1.out hb3 HB1.out.size)
              have HSK2 := Lib.hid (HSETK.out ⟨⟨t2, n2, s2⟩, m⟩ rfl)
              have R := Lib.hid (stored43 r3 j ⟨⟨t2, n2, s2⟩, m⟩ HLL.out HSK2.out.2)
              rw [HSK2.out.1] at R
              obtain ⟨y0, z0⟩ := cellAt_some r3 (j * 4) (by omega)
              obtain ⟨y1, z1⟩ := cellAt_some r3 (j * 4 + 1) (by omega)
              obtain ⟨y2, z2⟩ := cellAt_some r3 (j * 4 + 2) (by omega)
              have f0 := r3.frozenAt (j * 4)
              have f1 := r3.frozenAt (j * 4 + 1)
              have f2 := r3.frozenAt (j * 4 + 2)
              simp only at R
              have HB4 := Lib.hid (HB3.out.trans (B := w.heap.size) ⟨R.out.2.os, R.out.2.tape, R.out.2.output, R.out.2.size, fun i hi => R.out.2.block i (by have := HB3.out.size; omega) (by simp; omega)⟩)
              clear HV2 hb3 O3 r3 HSETK HSK2 HLL HR1 s3 f3
              cases may with
              | false =>
                have HN := Lib.hid (HX.out (HXj.out.trans (by rw [if_neg (by simp)]; rfl)))
                go_wp2
                go_ret2
                exact HN.out _ HB4.out
              | true =>
                rw [if_pos (by simp)] at HXj
                go_wp2
                go_roundw
                case rel => exact ⟨j + 1, to, pre ++ [⟨⟨t2, n2, s2⟩, m⟩], by omega, by go_num, rfl, by simp [HPL.out], by rw [HXj.out, Option.map_map]; congr 1; funext r; simp, ⟨_, _, rfl, Nat.le_refl _, (R.out.1.lt _ rfl).2, R.out.1⟩, HB4.out⟩
                case measure => simp [intOf]; omega
          · obtain rfl : j = C := by omega
            rw [fillU_full hpl] at hown
            have hX2 : X = some pre := by
              rw [hX, Nat.sub_self]
              simp [decU]
            have HX2 := Lib.hid hX2
            have HFIN : Hid (RUs w wr (.returned (.tuple #[.slice (some ⟨w.heap.size, 0, none⟩) j j, .bool true])) (some pre)) :=
              ⟨fun h => (by cases h), fun l hl => (by cases hl; exact ⟨_, rfl, by rw [hpl]; exact hown⟩), hbr⟩
            clear hX2 hX hpl HE HX
            go_wp2
            go_ret2
            rw [HX2.out]
            exact HFIN.out


theorem decU_zero (zs : List Int) (ty i : Int) : decU zs ty 0 i = some [] := rfl
theorem decR_none {zs : List Int} {ty k : Int} (hk : Num.inB k 1 64 = false) : decR zs ty k = ([], false) := by
  unfold decR
  rw [if_neg (by rw [hk]; simp)]
theorem decR_get {zs : List Int} {ty k : Int} (hk : Num.inB k 1 64 = true) : decR zs ty k = match getU zs ty with
    | some r => if ((spreadL r).length : Int) = k ∧ encR (spreadL r) = zs then (spreadL r, true) else ([], false)
    | none => ([], false) := by
  unfold decR getU
  obtain ⟨k0, k1⟩ := Num.inB_true.1 hk
  by_cases hok : (Num.get zs 0).2.2 = true
  · by_cases h0 : 0 ≤ (Num.get zs 0).1 ∧ (Num.get zs 0).1 ≤ 64
    · by_cases h1 : (Num.get zs 0).1 = 0
      · have hz : Num.inB (Num.get zs 0).1 1 64 = false := by
          rw [h1]
          rfl
        rw [if_neg (by rw [hz]; simp), if_pos ⟨hok, h0.1, h0.2⟩, h1]
        have e : (spreadL ([] : List U)).length = 0 := rfl
        simp only [Int.toNat_zero, decU_zero, e]
        rw [if_neg (by omega)]
      · rw [if_pos ⟨hok, hk, Num.inB_true.2 ⟨by omega, h0.2⟩⟩, if_pos ⟨hok, h0.1, h0.2⟩]
        cases decU zs ty (Num.get zs 0).1.toNat (Num.get zs 0).2.1 <;> rfl
    · rw [if_neg, if_neg (fun h => h0 h.2)]
      rintro ⟨_, _, h2⟩
      have := Num.inB_true.1 h2
      omega
  · rw [if_neg (fun h => hok h.1), if_neg (fun h => hok h.1)]
theorem decU_sizes {zs : List Int} {ty : Int} : ∀ {n : Nat} {i : Int} {r : List U}, decU zs ty n i = some r → r.length = n ∧ ∀ u ∈ r, u.v.s.size ≤ maxLen
  | 0, i, r, h => by
    simp only [decU, Option.some.injEq] at h
    subst h
    exact ⟨rfl, fun _ h => by cases h⟩
  | n + 1, i, r, h => by
    rw [decU] at h
    split at h
    · cases hd : decU zs ty n (getV zs (Num.get zs i).2.1 ty).2.1 with
      | none => rw [hd] at h; cases h
      | some r' =>
        rw [hd] at h
        simp only [Option.map_some, Option.some.injEq] at h
        subst h
        have ih := decU_sizes hd
        refine ⟨by simp [ih.1], fun u hu => ?_⟩
        rcases List.mem_cons.1 hu with rfl | hu
        · exact getV_size _ _ _
        · exact ih.2 u hu
    · cases h

set_option maxHeartbeats 2000000 in
theorem iDecRuns : CDecRuns := by
  intro u n zs ty k w hn hz hby h
  cases hk : Num.inB k 1 64 with
  | false =>
    rw [decR_none hk]
    have OL := own_lit (e := 77) (size := 3) w #[] 0 (Nat.zero_le _) rfl
    have BL := below_alloc w (.cells #[] 77)
    have HFIN : Hid (RDs w (w.alloc (.cells #[] 77)) (.returned (.tuple #[.slice (some ⟨w.heap.size, 0, none⟩) 0 0, .bool false])) ([], false)) := ⟨_, rfl, OL, BL⟩
    obtain ⟨b, off, cap, rfl, _, _, _, _⟩ := h
    clear hz hby
    by_cases h1 : k < 1
    · clear hk
      go_enter Tryz.func136, Tryz.ntmps136
      go_wp2
      go_ret2
      exact HFIN.out
    · have h2 : 64 < k := by
        by_cases h2 : 64 < k
        · exact h2
        · exfalso
          rw [Num.inB_true.2 ⟨by omega, by omega⟩] at hk
          cases hk
      clear hk
      go_enter Tryz.func136, Tryz.ntmps136
      go_wp2
      go_ret2
      exact HFIN.out
  | true =>
    rw [decR_get hk]
    obtain ⟨k0, k1⟩ := Num.inB_true.1 hk
    have HG := Lib.hid (getRuns u n zs ty w hn hz hby h)
    have HSZ : Hid (∀ r, getU zs ty = some r → r.length ≤ 1048576 ∧ ∀ u ∈ r, u.v.s.size ≤ maxLen) := fun r hr => by
      unfold getU at hr
      split at hr
      · rename_i hc
        have := decU_sizes hr
        exact ⟨by omega, this.2⟩
      · cases hr
    generalize getU zs ty = G at HG HSZ
    cases G with
    | none =>
      have HFIN : Hid (∀ w1, Below w.heap.size w w1 → RDs w (w1.alloc (.cells #[] 77)) (.returned (.tuple #[.slice (some ⟨w1.heap.size, 0, none⟩) 0 0, .bool false])) ([], false)) := fun w1 b1 =>
        ⟨_, rfl, (own_lit (e := 77) (size := 3) w1 #[] 0 (Nat.zero_le _) rfl).lower b1.size, b1.alloc b1.size _⟩
      obtain ⟨b, off, cap, rfl, _, _, _, _⟩ := h
      clear hz hby hk HSZ
      go_enter Tryz.func136, Tryz.ntmps136
      go_wp2_with fail
      refine HG.out.mono ?_
      rintro e w1 ⟨h1, _, b1⟩
      obtain rfl := h1 rfl
      have HF1 := Lib.hid (HFIN.out w1 b1)
      clear h1 HG HFIN
      go_wp2
      go_ret2
      exact HF1.out
    | some r =>
      obtain ⟨hrl, hrs⟩ := HSZ.out r rfl
      have HFIN : Hid (∀ w1, Below w.heap.size w w1 → RDs w (w1.alloc (.cells #[] 77)) (.returned (.tuple #[.slice (some ⟨w1.heap.size, 0, none⟩) 0 0, .bool false])) ([], false)) := fun w1 b1 =>
        ⟨_, rfl, (own_lit (e := 77) (size := 3) w1 #[] 0 (Nat.zero_le _) rfl).lower b1.size, b1.alloc b1.size _⟩
      have HSL := Lib.hid (spreadL_len r)
      have HA := Lib.hid h
      have HZ := Lib.hid hz
      have HBY := Lib.hid hby
      have HRS := Lib.hid hrs
      obtain ⟨b, off, cap, rfl, _, _, _, _⟩ := h
      clear hz hby hk HSZ hrs
      simp only
      have HRES : Hid ((if ((spreadL r).length : Int) = k ∧ encR (spreadL r) = zs then (spreadL r, true) else (([] : List V), false)) = if ((spreadL r).length : Int) = k ∧ encR (spreadL r) = zs then (spreadL r, true) else (([] : List V), false)) := rfl
      generalize hrs : (if ((spreadL r).length : Int) = k ∧ encR (spreadL r) = zs then (spreadL r, true) else (([] : List V), false)) = res at HRES ⊢
      replace HRES := Lib.hid hrs.symm
      clear hrs
      go_enter Tryz.func136, Tryz.ntmps136
      go_wp2_with fail
      refine HG.out.mono ?_
      rintro e w1 ⟨_, h1, b1⟩
      obtain ⟨v1, rfl, o1⟩ := h1 r rfl
      have HSP := Lib.hid (iSpread v1 r w1 hrl HRS.out o1.rd)
      have B1 := Lib.hid b1
      obtain ⟨g1, c1, hv1⟩ : ∃ g c, v1 = .slice (some ⟨g, 0, none⟩) r.length c := by
        obtain ⟨g, c, e, _⟩ := o1
        exact ⟨g, c, e⟩
      subst hv1
      clear h1 HG o1
      generalize r.length = rl at *
      go_wp2_with fail
      refine HSP.out.mono ?_
      rintro e w2 ⟨v2, rfl, o2, b2⟩
      have B2 := below_then b1 b2 b1.size
      have O2 := Lib.hid (o2.lower b1.size)
      have hsl := HSL.out
      have HSV : Hid (∀ v ∈ spreadL r, v.s.size ≤ maxLen) := by
        exact spreadL_all HRS.out
      have HEN := Lib.hid (iEncRuns v2 (spreadL r) w2 (by omega) HSV.out o2.rd)
      generalize hsp : spreadL r = S at *
      have HSP2 := Lib.hid hsp
      generalize hsn : S.length = sn at *
      obtain ⟨g2, c2, hv2⟩ : ∃ g c, v2 = .slice (some ⟨g, 0, none⟩) sn c := by
        obtain ⟨g, c, e, _⟩ := o2
        exact ⟨g, c, e⟩
      subst hv2
      clear o2 b2 HSP
      by_cases hkk : (sn : Int) = k
      · subst hkk
        have hkb : ((sn : Int) != (sn : Int)) = false := by simp
        have HFALSE : Hid (¬ encR S = zs → (if (sn : Int) = sn ∧ encR S = zs then (S, true) else (([] : List V), false)) = ([], false)) := fun h => if_neg (fun h2 => h h2.2)
        have HTRUE : Hid (encR S = zs → (if (sn : Int) = sn ∧ encR S = zs then (S, true) else (([] : List V), false)) = (S, true)) := fun h => if_pos ⟨rfl, h⟩
        have HSN := Lib.hid hsn
        clear hsn hsp
        go_wp2_with fail
        refine HEN.out.mono ?_
        rintro e w3 ⟨v3, rfl, o3, b3⟩
        have B3 := Lib.hid (below_then B2 b3 B2.size)
        have O3 := Lib.hid ((O2.out.below b3 (Nat.le_refl _)).wide b3.size)
        have HQ := Lib.hid (bytesEqual v3 _ _ n (encR S) zs w3 rfl HZ.out (encR_bytes S) HBY.out o3.at (HA.out.below B3.out))
        obtain ⟨g3, c3, hv3⟩ : ∃ g c, v3 = .slice (some ⟨g, 0, none⟩) (encR S).length c := by
          obtain ⟨g, c, e, _⟩ := o3
          exact ⟨g, c, e⟩
        subst hv3
        clear o3 b3 HEN
        generalize (encR S).length = ec at *
        by_cases hes : encR S = zs
        · have HT := Lib.hid (HTRUE.out hes)
          rw [decide_eq_true hes] at HQ
          clear hes HTRUE HFALSE
          go_wp2_with fail
          refine HQ.out.mono ?_
          rintro e w4 ⟨rfl, rfl⟩
          go_wp2
          go_ret2
          rw [HRES.out, HT.out]
          exact ⟨_, rfl, by rw [HSN.out]; exact O3.out, B3.out⟩
        · have HT := Lib.hid (HFALSE.out hes)
          have HF1 := Lib.hid (HFIN.out w3 B3.out)
          rw [decide_eq_false hes] at HQ
          clear hes HTRUE HFALSE
          go_wp2_with fail
          refine HQ.out.mono ?_
          rintro e w4 ⟨rfl, rfl⟩
          go_wp2
          go_ret2
          rw [HRES.out, HT.out]
          exact HF1.out
      · have hkb : ((sn : Int) != k) = true := by simpa using hkk
        have HN : Hid ((if (sn : Int) = k ∧ encR S = zs then (S, true) else (([] : List V), false)) = ([], false)) := if_neg (fun h => hkk h.1)
        have HF1 := Lib.hid (HFIN.out w2 B2)
        have HSN := Lib.hid hsn
        clear hsn hsp
        go_wp2_with fail
        go_ret2
        rw [HRES.out, HN.out]
        exact HF1.out

end Go.Proofs.YtkofafefnlommaaGreat

/- Plain mathematics of chapter 6: what runs spread to, that neighbours differ, that decoding gives back what was encoded. -/
namespace Go.Proofs.YtkofafefnlommaaGreat
open Go.RowKit

theorem last_split {r : List U} {m : Nat} (hm : r.length = m + 1) : r = r.take m ++ [r.getD m U.zero] := by
  have h : m < r.length := by omega
  have e : r.getD m U.zero = r[m] := by simp [h]
  rw [e, ← List.take_succ_eq_append_getElem h, List.take_of_length_le (by omega)]
theorem set_last {r : List U} {m : Nat} (hm : r.length = m + 1) (x : U) : r.set m x = r.take m ++ [x] := by
  have h : m < r.length := by omega
  have h1 := take_set_snoc r m x h
  rw [List.take_of_length_le (by rw [List.length_set]; omega)] at h1
  exact h1
theorem addRun_cases (r : List U) (v : V) : (∃ m, r.length = m + 1 ∧ (r.getD m U.zero).v = v ∧ addRun r v = r.take m ++ [⟨v, (r.getD m U.zero).k + 1⟩]) ∨ ((r.length = 0 ∨ ∃ m, r.length = m + 1 ∧ (r.getD m U.zero).v ≠ v) ∧ addRun r v = r ++ [⟨v, 1⟩]) := by
  by_cases h0 : r.length = 0
  · exact .inr ⟨.inl h0, addRun_new h0⟩
  · obtain ⟨m, hm⟩ : ∃ m, r.length = m + 1 := ⟨r.length - 1, by omega⟩
    have hl : lastU r = r.getD m U.zero := by
      unfold lastU
      rw [show r.length - 1 = m by omega]
    cases he : (r.getD m U.zero).v.eqB v with
    | true =>
      have e := eqB_true.1 he
      refine .inl ⟨m, hm, e, ?_⟩
      rw [addRun_eq hm he, set_last hm, e]
    | false => exact .inr ⟨.inr ⟨m, hm, eqB_false.1 he⟩, addRun_ne (by rw [hl]; exact he)⟩

/-- What runs stand for. -/
def flatU (r : List U) : List V := r.flatMap fun u => List.replicate u.k.toNat u.v
theorem flatU_append (a b : List U) : flatU (a ++ b) = flatU a ++ flatU b := by simp [flatU]
theorem flatU_one (u : U) : flatU [u] = List.replicate u.k.toNat u.v := by simp [flatU]
theorem flatU_cons (u : U) (r : List U) : flatU (u :: r) = List.replicate u.k.toNat u.v ++ flatU r := by simp [flatU]
theorem addRun_pos {r : List U} (h : ∀ u ∈ r, 1 ≤ u.k) (v : V) : ∀ u ∈ addRun r v, 1 ≤ u.k := by
  intro u hu
  rcases addRun_cases r v with ⟨m, hm, hv, e⟩ | ⟨_, e⟩
  · rw [e] at hu
    rcases List.mem_append.1 hu with h1 | h1
    · exact h u (List.mem_of_mem_take h1)
    · have hlt : m < r.length := by omega
      have e2 : r.getD m U.zero = r[m] := by simp [hlt]
      have := h _ (List.getElem_mem hlt)
      rw [← e2] at this
      obtain rfl := List.mem_singleton.1 h1
      show 1 ≤ (r.getD m U.zero).k + 1
      omega
  · rw [e] at hu
    rcases List.mem_append.1 hu with h1 | h1
    · exact h u h1
    · obtain rfl := List.mem_singleton.1 h1
      exact Int.le_refl _
theorem flatU_addRun {r : List U} (h : ∀ u ∈ r, 1 ≤ u.k) (v : V) : flatU (addRun r v) = flatU r ++ [v] := by
  rcases addRun_cases r v with ⟨m, hm, hv, e⟩ | ⟨_, e⟩
  · have hs := last_split hm
    have hlt : m < r.length := by omega
    have e2 : r.getD m U.zero = r[m] := by simp [hlt]
    have hk := h _ (List.getElem_mem hlt)
    rw [← e2] at hk
    rw [e, flatU_append, flatU_one]
    have hf : flatU r = flatU (r.take m) ++ List.replicate (r.getD m U.zero).k.toNat v := by
      rw [hs, flatU_append, flatU_one]
      congr 1
      · congr 1
        rw [← hs]
      · rw [← hs, hv]
    rw [hf, List.append_assoc, show ((r.getD m U.zero).k + 1).toNat = (r.getD m U.zero).k.toNat + 1 by omega]
    show _ ++ List.replicate ((r.getD m U.zero).k.toNat + 1) v = _
    rw [List.replicate_succ']
  · rw [e, flatU_append, flatU_one]
    rfl
theorem flatU_fold (l : List V) : ∀ (r : List U), (∀ u ∈ r, 1 ≤ u.k) → flatU (l.foldl addRun r) = flatU r ++ l := by
  induction l with
  | nil => intro r _; simp
  | cons v l ih =>
    intro r h
    rw [List.foldl_cons, ih _ (addRun_pos h v), flatU_addRun h]
    simp
theorem flatU_runs (l : List V) : flatU (runsL l) = l := by
  have := flatU_fold l [] (fun _ h => by cases h)
  simpa [flatU, runsL] using this
theorem runsL_pos (l : List V) : ∀ u ∈ runsL l, 1 ≤ u.k := fun u hu => (runsL_k l u hu).1
theorem spreadF_flat : ∀ (r : List U) (out : List V), (∀ u ∈ r, 1 ≤ u.k) → out.length + (flatU r).length ≤ 64 → spreadF r out = some (out ++ flatU r)
  | [], out, _, _ => by simp [spreadF, flatU]
  | u :: r, out, hp, hl => by
    have h1 := hp u List.mem_cons_self
    rw [flatU_cons, List.length_append, List.length_replicate] at hl
    rw [spreadF, if_pos ⟨h1, by omega⟩, spreadF_flat r _ (fun x hx => hp x (List.mem_cons_of_mem _ hx)) (by rw [List.length_append, List.length_replicate]; omega), flatU_cons, List.append_assoc]
theorem spread_runs {l : List V} (h : l.length ≤ 64) : spreadL (runsL l) = l := by
  have h1 := spreadF_flat (runsL l) [] (runsL_pos l) (by rw [flatU_runs]; simpa using h)
  unfold spreadL
  rw [h1, flatU_runs]
  simp

/-- The sum of the lengths. -/
def totU (r : List U) : Int := (r.map fun u => u.k).sum
theorem totU_flat : ∀ {r : List U}, (∀ u ∈ r, 1 ≤ u.k) → totU r = ((flatU r).length : Nat)
  | [], _ => rfl
  | u :: r, h => by
    have h1 := h u List.mem_cons_self
    have ih := totU_flat (r := r) (fun x hx => h x (List.mem_cons_of_mem _ hx))
    unfold totU at ih ⊢
    rw [flatU_cons, List.length_append, List.length_replicate, List.map_cons, List.sum_cons, ih]
    omega
theorem totU_runs (l : List V) : totU (runsL l) = (l.length : Nat) := by rw [totU_flat (runsL_pos l), flatU_runs]
theorem totU_take {r : List U} {k : Nat} (h : k < r.length) : totU (r.take (k + 1)) = totU (r.take k) + (r.getD k U.zero).k := by
  have e : r.getD k U.zero = r[k] := by simp [h]
  rw [e, List.take_succ_eq_append_getElem h]
  unfold totU
  rw [List.map_append, List.sum_append]
  simp only [List.map_cons, List.map_nil, List.sum_cons, List.sum_nil, Int.add_zero]

/-- No two neighbours are alike. -/
def ApartV (l : List V) : Prop := ∀ i, i + 1 < l.length → l.getD (i + 1) V.zero ≠ l.getD i V.zero
theorem apart_snoc {l : List V} {v : V} (h : ApartV l) (hv : ∀ m, l.length = m + 1 → l.getD m V.zero ≠ v) : ApartV (l ++ [v]) := by
  intro i hi
  rw [List.length_append, List.length_singleton] at hi
  by_cases hl : i + 1 < l.length
  · have := h i hl
    simp only [List.getD, List.getElem?_append_left hl, List.getElem?_append_left (show i < l.length by omega)] at this ⊢
    exact this
  · have he : i + 1 = l.length := by omega
    have := hv i (by omega)
    intro e
    apply this
    have e1 : (l ++ [v]).getD (i + 1) V.zero = v := by
      rw [he]
      simp [List.getD]
    have e2 : (l ++ [v]).getD i V.zero = l.getD i V.zero := by
      simp only [List.getD, List.getElem?_append_left (show i < l.length by omega)]
    rw [e1, e2] at e
    exact e.symm
theorem map_addRun (r : List U) (v : V) : (addRun r v).map (·.v) = r.map (·.v) ∨ (addRun r v).map (·.v) = r.map (·.v) ++ [v] ∧ ∀ m, r.length = m + 1 → (r.getD m U.zero).v ≠ v := by
  rcases addRun_cases r v with ⟨m, hm, hv, e⟩ | ⟨hne, e⟩
  · left
    rw [e]
    have hs := last_split hm
    conv => rhs; rw [hs]
    rw [List.map_append, List.map_append]
    show _ ++ [v] = _ ++ [(r.getD m U.zero).v]
    rw [hv]
  · right
    refine ⟨by rw [e]; simp, fun m hm => ?_⟩
    rcases hne with h0 | ⟨m', hm', h⟩
    · omega
    · obtain rfl : m = m' := by omega
      exact h
theorem getD_mapV (r : List U) (k : Nat) : (r.map (·.v)).getD k V.zero = (r.getD k U.zero).v := by
  simp only [List.getD, List.getElem?_map]
  cases r[k]? <;> rfl
theorem apart_fold (l : List V) : ∀ (r : List U), ApartV (r.map (·.v)) → ApartV ((l.foldl addRun r).map (·.v)) := by
  induction l with
  | nil => intro r h; exact h
  | cons v l ih =>
    intro r h
    rw [List.foldl_cons]
    apply ih
    rcases map_addRun r v with e | ⟨e, hne⟩
    · rw [e]; exact h
    · rw [e]
      refine apart_snoc h (fun m hm => ?_)
      rw [getD_mapV]
      exact hne m (by simpa using hm)
theorem runs_apart (l : List V) {i : Nat} (hi : i + 1 < (runsL l).length) : ((runsL l).getD (i + 1) U.zero).v.eqB ((runsL l).getD i U.zero).v = false := by
  have h := apart_fold l [] (fun i hi => by simp at hi)
  have := h i (by simpa [runsL] using hi)
  rw [getD_mapV, getD_mapV] at this
  exact eqB_false.2 this
theorem turns_runs (l : List V) : ∀ k, k < l.length → (runsL (l.take (k + 1))).length = turnsK l (k + 1) + 1 ∧ (lastU (runsL (l.take (k + 1)))).v = l.getD k V.zero
  | 0, h => by
    have e : runsL (l.take 1) = [⟨l.getD 0 V.zero, 1⟩] := by
      rw [runs_step h]
      rfl
    rw [e]
    exact ⟨rfl, rfl⟩
  | k + 1, h => by
    obtain ⟨h1, h2⟩ := turns_runs l k (by omega)
    rw [runs_step h]
    rw [show turnsK l (k + 1 + 1) = turnsK l (k + 1) + (if 0 < k + 1 ∧ (l.getD (k + 1) V.zero).eqB (l.getD (k + 1 - 1) V.zero) = false then 1 else 0) from rfl]
    rw [show k + 1 - 1 = k by omega]
    generalize runsL (l.take (k + 1)) = r at h1 h2
    have hl : ∀ m, r.length = m + 1 → r.getD m U.zero = lastU r := fun m hm => by
      unfold lastU
      rw [show r.length - 1 = m by omega]
    rcases addRun_cases r (l.getD (k + 1) V.zero) with ⟨m, hm, hv, e⟩ | ⟨hne, e⟩
    · rw [hl m hm, h2] at hv
      rw [if_neg (fun h => by rw [hv, eqB_true.2 rfl] at h; cases h.2), e]
      have hlen : (r.take m ++ [(⟨l.getD (k + 1) V.zero, (r.getD m U.zero).k + 1⟩ : U)]).length = m + 1 := by
        simp
        omega
      refine ⟨by rw [hlen]; omega, ?_⟩
      unfold lastU
      rw [hlen]
      have : (r.take m).length = m := by simp; omega
      simp [List.getD, this]
    · have hd : l.getD (k + 1) V.zero ≠ l.getD k V.zero := by
        rcases hne with h0 | ⟨m, hm, hx⟩
        · omega
        · rw [hl m hm, h2] at hx
          exact fun e => hx e.symm
      rw [if_pos ⟨by omega, eqB_false.2 hd⟩, e]
      refine ⟨by simp; omega, ?_⟩
      unfold lastU
      simp [List.getD]
theorem runs_turns {l : List V} (h : 0 < l.length) : (runsL l).length = turnsL l + 1 := by
  obtain ⟨k, hk⟩ : ∃ k, l.length = k + 1 := ⟨l.length - 1, by omega⟩
  have := (turns_runs l k (by omega)).1
  rw [List.take_of_length_le (by omega)] at this
  unfold turnsL
  rw [hk]
  exact this

/-! Decoding gives back what was encoded. -/
/-- The bytes of runs. -/
def bodyU (r : List U) : List Int := r.flatMap fun u => Num.grp 4 (Num.zig u.k) ++ valB u.v
theorem bodyU_cons (u : U) (r : List U) : bodyU (u :: r) = Num.grp 4 (Num.zig u.k) ++ (valB u.v ++ bodyU r) := by simp [bodyU]
theorem encU_body : ∀ (r : List U) (b : List Int), (∀ u ∈ r, Num.ok u.k ∧ okV u.v = true) → encU b r = b ++ bodyU r
  | [], b, _ => by simp [encU, bodyU]
  | u :: r, b, h => by
    have h1 := h u List.mem_cons_self
    have ih := encU_body r (putV (Num.put b u.k) u.v) (fun x hx => h x (List.mem_cons_of_mem _ hx))
    have e : encU b (u :: r) = encU (putV (Num.put b u.k) u.v) r := rfl
    rw [e, ih, putV_val h1.2, Num.put_ok h1.1, bodyU_cons]
    simp
theorem decU_body {ty : Int} : ∀ (r : List U) (b rest : List Int), (∀ u ∈ r, Num.ok u.k ∧ okV u.v = true ∧ u.v.ty = ty) → decU (b ++ (bodyU r ++ rest)) ty r.length b.length = some r
  | [], b, rest, _ => rfl
  | u :: r, b, rest, h => by
    have h1 := h u List.mem_cons_self
    have e1 : b ++ (bodyU (u :: r) ++ rest) = b ++ (Num.grp 4 (Num.zig u.k) ++ (valB u.v ++ (bodyU r ++ rest))) := by
      rw [bodyU_cons]
      simp
    have e2 : b ++ (bodyU (u :: r) ++ rest) = (b ++ Num.grp 4 (Num.zig u.k)) ++ (valB u.v ++ (bodyU r ++ rest)) := by
      rw [e1]
      simp
    have e3 : b ++ (bodyU (u :: r) ++ rest) = ((b ++ Num.grp 4 (Num.zig u.k)) ++ valB u.v) ++ (bodyU r ++ rest) := by
      rw [e2]
      simp
    have g1 : Num.get (b ++ (bodyU (u :: r) ++ rest)) b.length = (u.k, ((b ++ Num.grp 4 (Num.zig u.k)).length : Int), true) := by
      rw [e1]
      exact get_grp h1.1
    have g2 : getV (b ++ (bodyU (u :: r) ++ rest)) ((b ++ Num.grp 4 (Num.zig u.k)).length : Int) ty = (u.v, (((b ++ Num.grp 4 (Num.zig u.k)) ++ valB u.v).length : Int), true) := by
      rw [e2, ← h1.2.2]
      exact getV_val h1.2.1 _ _
    have ih := decU_body r ((b ++ Num.grp 4 (Num.zig u.k)) ++ valB u.v) rest (fun x hx => h x (List.mem_cons_of_mem _ hx))
    rw [← e3] at ih
    rw [List.length_cons, decU, g1]
    simp only
    rw [g2]
    simp only [and_self, if_true]
    rw [ih]
    rfl
theorem dec_enc {l : List V} (h : ¬ typeV l = 0) : decR (encR l) (typeV l) l.length = (l, true) := by
  obtain ⟨h1, h64, hall⟩ := typeV_parts h
  have hk : Num.inB (l.length : Int) 1 64 = true := Num.inB_true.2 ⟨by omega, by omega⟩
  have hru : ∀ u ∈ runsL l, Num.ok u.k ∧ okV u.v = true ∧ u.v.ty = typeV l := fun u hu => by
    have k1 := runsL_k l u hu
    have k2 := runsL_all (p := fun v => okV v = true ∧ v.ty = typeV l) hall u hu
    exact ⟨by unfold Num.ok; omega, k2⟩
  have hrl := runsL_len l
  have hpos : 0 < (runsL l).length := by
    rw [runs_turns (by omega)]
    omega
  have hok : Num.ok ((runsL l).length : Int) := by unfold Num.ok; omega
  have he : encR l = [] ++ (Num.grp 4 (Num.zig ((runsL l).length : Int)) ++ bodyU (runsL l)) := by
    unfold encR
    rw [if_neg h, encU_body _ _ (fun u hu => ⟨(hru u hu).1, (hru u hu).2.1⟩), Num.put_ok hok]
    simp
  have hg : Num.get (encR l) 0 = (((runsL l).length : Int), (([] ++ Num.grp 4 (Num.zig ((runsL l).length : Int))).length : Int), true) := by
    rw [he]
    exact get_grp (b := []) hok
  have hd : decU (encR l) (typeV l) (runsL l).length (([] ++ Num.grp 4 (Num.zig ((runsL l).length : Int))).length : Int) = some (runsL l) := by
    have := decU_body (ty := typeV l) (runsL l) ([] ++ Num.grp 4 (Num.zig ((runsL l).length : Int))) [] hru
    rw [List.append_nil, List.append_assoc, ← he] at this
    exact this
  rw [decR_get hk]
  have hgu : getU (encR l) (typeV l) = some (runsL l) := by
    unfold getU
    rw [hg]
    simp only
    rw [if_pos ⟨trivial, by omega, by omega⟩, Int.toNat_natCast, hd]
  rw [hgu]
  simp only
  rw [spread_runs h64, if_pos ⟨rfl, rfl⟩]
theorem decU_ok {zs : List Int} (hb : Num.Bytes zs) {ty : Int} : ∀ {n : Nat} {i : Int} {r : List U}, decU zs ty n i = some r → ∀ u ∈ r, okV u.v = true ∧ u.v.ty = ty
  | 0, i, r, h => by
    simp only [decU, Option.some.injEq] at h
    subst h
    exact fun _ h => by cases h
  | n + 1, i, r, h => by
    rw [decU] at h
    split at h
    · rename_i hc
      cases hd : decU zs ty n (getV zs (Num.get zs i).2.1 ty).2.1 with
      | none => rw [hd] at h; cases h
      | some r' =>
        rw [hd] at h
        simp only [Option.map_some, Option.some.injEq] at h
        subst h
        intro u hu
        rcases List.mem_cons.1 hu with rfl | hu
        · exact getV_ok hb hc.2
        · exact decU_ok hb hd u hu
    · cases h
theorem dec_ok {zs : List Int} (hb : Num.Bytes zs) {ty k : Int} (h : (decR zs ty k).2 = true) : encR (decR zs ty k).1 = zs ∧ ((decR zs ty k).1.length : Int) = k ∧ typeV (decR zs ty k).1 = ty := by
  cases hk : Num.inB k 1 64 with
  | false => rw [decR_none hk] at h; cases h
  | true =>
    have hkk := Num.inB_true.1 hk
    rw [decR_get hk] at h ⊢
    cases hg : getU zs ty with
    | none => rw [hg] at h; cases h
    | some r =>
      rw [hg] at h
      simp only at h ⊢
      split
      · rename_i hc
        refine ⟨hc.2, hc.1, typeV_of (l := spreadL r) (by omega) (by omega) ?_⟩
        have hr : ∀ u ∈ r, okV u.v = true ∧ u.v.ty = ty := by
          unfold getU at hg
          split at hg
          · exact decU_ok hb hg
          · cases hg
        exact spreadL_all (p := fun v => okV v = true ∧ v.ty = ty) hr
      · rename_i hc
        rw [if_neg hc] at h
        cases h

end Go.Proofs.YtkofafefnlommaaGreat

/- Plain mathematics of chapter 9: the kinds of encodings, the shortest one, a column's encoding and its reading. -/
namespace Go.Proofs.YtkofafefnlommaaGreat
open Go.RowKit

/- A value that was read is the bytes that were read. -/
theorem okV_ty {v : V} (h : okV v = true) : v.ty = 1 ∨ v.ty = 2 := by
  unfold okV at h
  split at h
  · left
    assumption
  · right
    simp only [Bool.and_eq_true] at h
    simpa using h.1
theorem typeV_in {l : List V} (h : ¬ typeV l = 0) : Num.inB (typeV l) 1 2 = true := by
  obtain ⟨h1, _, hall⟩ := typeV_parts h
  have h2 := hall _ (List.getElem_mem h1)
  have h3 := okV_ty h2.1
  rw [h2.2] at h3
  exact Num.inB_true.2 ⟨by omega, by omega⟩
theorem sbytes_str {xs : List Int} (h : Num.Bytes xs) : sbytes (strOfNums xs) = xs := strOfNums_inj (sbytes_bytes _) h (str_sbytes _)
theorem getV_take {zs : List Int} (hb : Num.Bytes zs) {i ty : Int} (h : (getV zs i ty).2.2 = true) : putV (zs.take i.toNat) (getV zs i ty).1 = zs.take (getV zs i ty).2.1.toNat := by
  have hok := (getV_ok hb h).1
  rw [putV_val hok]
  unfold getV at h hok ⊢
  split
  · rename_i ht
    rw [if_pos ht] at h hok
    split
    · rename_i hg
      have hp : Num.get zs i = ((Num.get zs i).1, (Num.get zs i).2.1, true) := by rw [← hg]
      have hq := Num.put_get hb hp
      rw [Num.put_ok hq.2.2.2.2.1] at hq
      unfold valB
      rw [if_pos rfl]
      exact hq.2.2.2.2.2
    · rename_i hg
      rw [if_neg hg] at h
      cases h
  · rename_i ht
    rw [if_neg ht] at h hok
    split
    · rename_i hc
      rw [if_pos hc] at h hok
      have hi := Num.inB_true.1 hc.2
      obtain ⟨n, rfl⟩ := Int.eq_ofNat_of_zero_le hi.1
      rw [Int.toNat_natCast] at h hok ⊢
      have hn : n < zs.length := by omega
      unfold getT at h hok ⊢
      split
      · rename_i hd
        have hz := hb _ (List.getElem_mem hn)
        have hg := getDe zs 0 hn
        obtain ⟨m, hm⟩ := Int.eq_ofNat_of_zero_le hz.1
        have hd1 := hd.1
        rw [hg, hm] at hd1
        rw [hg, hm]
        unfold valB
        have hxb : Num.Bytes ((zs.drop (n + 1)).take m) := fun x hx => hb x (List.mem_of_mem_drop (List.mem_of_mem_take hx))
        have hs := sbytes_str hxb
        have hl := sbytes_len (strOfNums ((zs.drop (n + 1)).take m))
        rw [hs, List.length_take, List.length_drop] at hl
        simp only [Int.toNat_natCast]
        rw [if_neg (by decide), hs, ← hl, Nat.min_eq_left (by omega)]
        have e : ((n : Int) + 1 + (m : Int)).toNat = n + 1 + m := by omega
        rw [e, List.take_add, List.take_succ_eq_append_getElem hn, hm]
        simp
      · rename_i hd
        rw [if_neg hd] at h
        cases h
    · rename_i hc
      rw [if_neg hc] at h
      cases h
theorem decL_take {zs : List Int} (hb : Num.Bytes zs) {ty : Int} : ∀ {k : Nat} {i : Int} {r : List V × Int}, decL zs ty k i = some r → r.1.foldl putV (zs.take i.toNat) = zs.take r.2.toNat ∧ r.1.length = k ∧ ∀ v ∈ r.1, okV v = true ∧ v.ty = ty
  | 0, i, r, h => by
    obtain rfl := Option.some.inj h
    exact ⟨rfl, rfl, fun v hv => by cases hv⟩
  | k + 1, i, r, h => by
    unfold decL at h
    split at h
    · rename_i hg
      cases hd : decL zs ty k (getV zs i ty).2.1 with
      | none => rw [hd] at h; cases h
      | some q =>
        rw [hd] at h
        obtain rfl := Option.some.inj h
        obtain ⟨h1, h2, h3⟩ := decL_take hb hd
        refine ⟨?_, by simp [h2], fun v hv => ?_⟩
        · simp only [List.foldl_cons]
          rw [getV_take hb hg]
          exact h1
        · rcases List.mem_cons.1 hv with rfl | hv
          · exact getV_ok hb hg
          · exact h3 v hv
    · cases h
theorem dec_okP {zs : List Int} (hb : Num.Bytes zs) {ty k : Int} (h : (decP zs ty k).2 = true) : encP (decP zs ty k).1 = zs ∧ ((decP zs ty k).1.length : Int) = k ∧ typeV (decP zs ty k).1 = ty := by
  unfold decP at h ⊢
  split
  · rename_i hk
    rw [if_pos hk] at h
    have hkk := Num.inB_true.1 hk
    cases hd : decL zs ty k.toNat 0 with
    | none => rw [hd] at h; cases h
    | some r =>
      rw [hd] at h
      simp only at h ⊢
      split
      · rename_i he
        obtain ⟨h1, h2, h3⟩ := decL_take hb hd
        have hty := typeV_of (by omega) (by omega) h3
        have h0 : ¬ ty = 0 := by
          rintro rfl
          have hp : 0 < r.1.length := by omega
          have := h3 _ (List.getElem_mem hp)
          have h2 := okV_ty this.1
          omega
        refine ⟨?_, by simp only; omega, hty⟩
        unfold encP encAll
        rw [if_neg (by rw [hty]; exact h0)]
        rw [he] at h1
        simpa using h1
      · rename_i he
        rw [if_neg he] at h
        cases h
  · rename_i hk
    rw [if_neg hk] at h
    cases h
theorem dec_encP {l : List V} (h : ¬ typeV l = 0) : decP (encP l) (typeV l) l.length = (l, true) := by
  obtain ⟨h1, h64, hall⟩ := typeV_parts h
  have hk : Num.inB (l.length : Int) 1 64 = true := Num.inB_true.2 ⟨by omega, by omega⟩
  have he : encP l = [] ++ (bodyV l ++ []) := by
    unfold encP
    rw [if_neg h]
    have := putAll_body l [] (fun v hv => (hall v hv).1)
    simpa [putAll, encAll] using this
  have hd : decL (encP l) (typeV l) l.length 0 = some (l, ((encP l).length : Int)) := by
    rw [he]
    have := decL_body l [] [] hall
    simpa using this
  unfold decP
  rw [if_pos hk, Int.toNat_natCast, hd]
  simp
theorem encP_bytes (l : List V) : Num.Bytes (encP l) := by
  have : ∀ (l : List V) (b : List Int), Num.Bytes b → Num.Bytes (l.foldl putV b) := by
    intro l
    induction l with
    | nil => exact fun b hb => hb
    | cons v l ih => exact fun b hb => ih _ (putV_bytes hb v)
  unfold encP
  split
  · exact nil_bytes
  · exact this l [] nil_bytes

/-- EncBy. -/
def encB (k : Int) (l : List V) : List Int := if k = 0 then encP l else if k = 1 then encR l else if k = 2 then encD l else if k = 3 then encF l else []
theorem encB0 (l : List V) : encB 0 l = encP l := rfl
theorem encB1 (l : List V) : encB 1 l = encR l := rfl
theorem encB2 (l : List V) : encB 2 l = encD l := rfl
theorem encB3 (l : List V) : encB 3 l = encF l := rfl
theorem encB_no {k : Int} (h : ¬ (0 ≤ k ∧ k ≤ 3)) (l : List V) : encB k l = [] := by
  unfold encB
  rw [if_neg (by omega), if_neg (by omega), if_neg (by omega), if_neg (by omega)]
theorem encB_bytes (k : Int) (l : List V) : Num.Bytes (encB k l) := by
  unfold encB
  split
  · exact encP_bytes l
  split
  · exact encR_bytes l
  split
  · exact encD_bytes l
  split
  · exact encF_bytes l
  · exact nil_bytes
theorem encB_len (k : Int) (l : List V) : (encB k l).length ≤ 1024 := by
  unfold encB
  split
  · have h1 := encP_len l
    by_cases h : typeV l = 0
    · unfold encP
      rw [if_pos h]
      simp
    · have := typeV_len h
      omega
  split
  · have := encR_len l
    omega
  split
  · exact encD_len l
  split
  · exact encF_len l
  · simp
/-- The best of the kinds 0 to k. -/
def bestK (l : List V) : Nat → Nat
  | 0 => 0
  | k + 1 => if (k + 1 ≠ 3 ∨ typeV l = 1) ∧ (encB ((k + 1 : Nat) : Int) l).length < (encB (bestK l k) l).length then k + 1 else bestK l k
theorem bestK_le (l : List V) : ∀ k, bestK l k ≤ k
  | 0 => Nat.le_refl _
  | k + 1 => by
    have := bestK_le l k
    unfold bestK
    split <;> omega
theorem bestK_min (l : List V) : ∀ {k j : Nat}, j ≤ k → (j ≠ 3 ∨ typeV l = 1) → (encB (bestK l k) l).length ≤ (encB j l).length
  | 0, j, h, _ => by
    obtain rfl : j = 0 := by omega
    exact Nat.le_refl _
  | k + 1, j, h, h3 => by
    by_cases hj : j = k + 1
    · subst hj
      unfold bestK
      split
      · exact Nat.le_refl _
      · rename_i hc
        have : ¬ (encB ((k + 1 : Nat) : Int) l).length < (encB (bestK l k) l).length := fun hl => hc ⟨h3, hl⟩
        omega
    · have ih := bestK_min l (k := k) (j := j) (by omega) h3
      unfold bestK
      split
      · rename_i hc
        have := hc.2
        omega
      · exact ih
/-- BestKind. -/
def bestL (l : List V) : Int := if typeV l = 0 then -1 else bestK l 3
theorem bestL_no {l : List V} (h : typeV l = 0) : bestL l = -1 := if_pos h
theorem bestL_yes {l : List V} (h : ¬ typeV l = 0) : bestL l = bestK l 3 := if_neg h
theorem bestL_in (l : List V) : -1 ≤ bestL l ∧ bestL l ≤ 3 := by
  have := bestK_le l 3
  unfold bestL
  split <;> omega
theorem bestL_int {l : List V} (h : bestL l = 3) : typeV l = 1 := by
  by_cases h0 : typeV l = 0
  · rw [bestL_no h0] at h
    omega
  · rw [bestL_yes h0] at h
    unfold bestK at h
    split at h
    · rename_i hc
      rcases hc.1 with h1 | h1
      · exact absurd rfl h1
      · exact h1
    · have := bestK_le l 2
      omega
/-- EncCol. -/
def encC (l : List V) : List Int := if typeV l = 0 then [] else bestL l :: encB (bestL l) l
theorem encC_no {l : List V} (h : typeV l = 0) : encC l = [] := if_pos h
theorem encC_yes {l : List V} (h : ¬ typeV l = 0) : encC l = bestL l :: encB (bestL l) l := if_neg h
theorem encC_bytes (l : List V) : Num.Bytes (encC l) := by
  unfold encC
  split
  · exact nil_bytes
  · rename_i h
    intro x hx
    rcases List.mem_cons.1 hx with rfl | hx
    · have := bestK_le l 3
      rw [bestL_yes h]
      omega
    · exact encB_bytes _ l x hx
theorem encC_len (l : List V) : (encC l).length ≤ 1025 := by
  have := encB_len (bestL l) l
  unfold encC
  split
  · simp
  · simp
    omega
theorem encC_min {l : List V} (h : ¬ typeV l = 0) {k : Int} (hk : 0 < (encB k l).length) : (encC l).length ≤ (encB k l).length + 1 := by
  rw [encC_yes h, List.length_cons, bestL_yes h]
  by_cases hin : 0 ≤ k ∧ k ≤ 3
  · obtain ⟨j, rfl⟩ := Int.eq_ofNat_of_zero_le hin.1
    have := bestK_min l (k := 3) (j := j) (by omega) (by
      by_cases h3 : j = 3
      · right
        subst h3
        have e : encB ((3 : Nat) : Int) l = encF l := rfl
        rw [e] at hk
        unfold encF at hk
        split at hk
        · assumption
        · simp at hk
      · exact .inl h3)
    omega
  · rw [encB_no hin] at hk
    simp at hk
theorem encC_plain (l : List V) : (encC l).length ≤ (encP l).length + 1 := by
  by_cases h : typeV l = 0
  · rw [encC_no h]
    simp
  · rw [encC_yes h, List.length_cons, bestL_yes h]
    have := bestK_min l (k := 3) (j := 0) (by omega) (.inl (by omega))
    have e : encB ((0 : Nat) : Int) l = encP l := rfl
    rw [e] at this
    omega
/-- Saved. -/
def savedL (l : List V) : Int := ((encP l).length : Int) - ((encC l).length : Int)
/-- The decoder of a kind. -/
def decB (d : Int) (zs : List Int) (ty k : Int) : List V × Bool := if d = 0 then decP zs ty k else if d = 1 then decR zs ty k else if d = 2 then decD zs ty k else if d = 3 then decF zs k else ([], false)
theorem decB_len (d : Int) (zs : List Int) (ty k : Int) : (decB d zs ty k).1.length ≤ 64 := by
  unfold decB
  split
  · exact decP_len zs ty k
  split
  · exact decR_len zs ty k
  split
  · exact decD_len zs ty k
  split
  · exact decF_len zs k
  · simp
theorem decB_ok {zs : List Int} (hb : Num.Bytes zs) {d ty k : Int} (h : (decB d zs ty k).2 = true) : encB d (decB d zs ty k).1 = zs ∧ ((decB d zs ty k).1.length : Int) = k := by
  unfold decB encB at *
  split
  · rename_i h0
    rw [if_pos h0] at h
    exact ⟨(dec_okP hb h).1, (dec_okP hb h).2.1⟩
  rename_i h0
  rw [if_neg h0] at h
  split
  · rename_i h0
    rw [if_pos h0] at h
    exact ⟨(dec_ok hb h).1, (dec_ok hb h).2.1⟩
  rename_i h0
  rw [if_neg h0] at h
  split
  · rename_i h0
    rw [if_pos h0] at h
    exact ⟨(dec_okD hb h).1, (dec_okD hb h).2.1⟩
  rename_i h0
  rw [if_neg h0] at h
  split
  · rename_i h0
    rw [if_pos h0] at h
    exact dec_okF hb h
  · rename_i h0
    rw [if_neg h0] at h
    cases h
/-- DecCol. -/
def decC (zs : List Int) (ty k : Int) : List V × Bool :=
  if zs.length = 0 ∨ Num.inB ty 1 2 = false then ([], false)
  else if (decB (zs.getD 0 0) (zs.drop 1) ty k).2 = true ∧ typeV (decB (zs.getD 0 0) (zs.drop 1) ty k).1 = ty ∧ encC (decB (zs.getD 0 0) (zs.drop 1) ty k).1 = zs then ((decB (zs.getD 0 0) (zs.drop 1) ty k).1, true)
  else ([], false)
theorem decC_len (zs : List Int) (ty k : Int) : (decC zs ty k).1.length ≤ 64 := by
  unfold decC
  split
  · simp
  split
  · exact decB_len _ _ _ _
  · simp
theorem decC_ok {zs : List Int} (hb : Num.Bytes zs) {ty k : Int} (h : (decC zs ty k).2 = true) : encC (decC zs ty k).1 = zs ∧ ((decC zs ty k).1.length : Int) = k ∧ typeV (decC zs ty k).1 = ty := by
  unfold decC at h ⊢
  split
  · rename_i h0
    rw [if_pos h0] at h
    cases h
  rename_i h0
  rw [if_neg h0] at h
  split
  · rename_i h1
    exact ⟨h1.2.2, (decB_ok (fun x hx => hb x (List.mem_of_mem_drop hx)) h1.1).2, h1.2.1⟩
  · rename_i h1
    rw [if_neg h1] at h
    cases h
theorem decC_enc {l : List V} (h : ¬ typeV l = 0) : decC (encC l) (typeV l) l.length = (l, true) := by
  have hin := bestK_le l 3
  have he := encC_yes h
  have hty := typeV_in h
  have h0 : (encC l).getD 0 0 = bestL l := by rw [he]; rfl
  have h1 : (encC l).drop 1 = encB (bestL l) l := by rw [he]; rfl
  have hd : decB (bestL l) (encB (bestL l) l) (typeV l) l.length = (l, true) := by
    have h3 := bestL_int (l := l)
    have hb := bestL_in l
    have hbe := bestL_yes h
    unfold decB encB
    split
    · exact dec_encP h
    split
    · exact dec_enc h
    split
    · exact dec_encD h
    split
    · rename_i e
      exact dec_encF (h3 e)
    · omega
  unfold decC
  rw [if_neg (by rw [he, hty]; simp), h0, h1, hd]
  simp
/-- DecCol as the program goes: the type within the decoder of the kind, the best kind behind it. -/
theorem decC_prog {zs : List Int} (hb : Num.Bytes zs) (h : 0 < zs.length) (ty k : Int) :
    decC zs ty k = if (decB (zs.getD 0 0) (zs.drop 1) ty k).2 = true ∧ (zs.getD 0 0 = 3 → ty = 1) ∧ bestL (decB (zs.getD 0 0) (zs.drop 1) ty k).1 = zs.getD 0 0 then ((decB (zs.getD 0 0) (zs.drop 1) ty k).1, true) else ([], false) := by
  have hbd : Num.Bytes (zs.drop 1) := fun x hx => hb x (List.mem_of_mem_drop hx)
  have hcons : zs = zs.getD 0 0 :: zs.drop 1 := by
    cases zs with
    | nil => simp at h
    | cons x l => simp
  have h0 : 0 ≤ zs.getD 0 0 := by
    rw [getDe zs 0 h]
    exact (hb _ (List.getElem_mem h)).1
  have HOK := decB_ok (d := zs.getD 0 0) (ty := ty) (k := k) hbd
  have HTY : (decB (zs.getD 0 0) (zs.drop 1) ty k).2 = true → zs.getD 0 0 ≠ 3 → typeV (decB (zs.getD 0 0) (zs.drop 1) ty k).1 = ty := by
    intro hr h3
    unfold decB at hr ⊢
    split
    · rename_i e
      rw [if_pos e] at hr
      exact (dec_okP hbd hr).2.2
    rename_i e
    rw [if_neg e] at hr
    split
    · rename_i e
      rw [if_pos e] at hr
      exact (dec_ok hbd hr).2.2
    rename_i e
    rw [if_neg e] at hr
    split
    · rename_i e
      rw [if_pos e] at hr
      exact (dec_okD hbd hr).2.2
    rename_i e
    rw [if_neg e, if_neg h3] at hr
    cases hr
  unfold decC
  generalize zs.getD 0 0 = d at *
  generalize decB d (zs.drop 1) ty k = r at *
  by_cases hc : r.2 = true ∧ (d = 3 → ty = 1) ∧ bestL r.1 = d
  · obtain ⟨h1, h2, h3⟩ := hc
    have ht0 : ¬ typeV r.1 = 0 := fun e => by
      rw [bestL_no e] at h3
      omega
    have hty : typeV r.1 = ty := by
      by_cases e : d = 3
      · rw [h2 e]
        exact bestL_int (h3.trans e)
      · exact HTY h1 e
    have hin : Num.inB ty 1 2 = true := by
      rw [← hty]
      exact typeV_in ht0
    have hl : ¬ (zs.length = 0 ∨ Num.inB ty 1 2 = false) := by
      rw [hin]
      rintro (h5 | h5)
      · omega
      · cases h5
    have he : encC r.1 = zs := by
      rw [encC_yes ht0, h3, (HOK h1).1]
      exact hcons.symm
    rw [if_neg hl, if_pos (⟨h1, h2, h3⟩ : r.2 = true ∧ (d = 3 → ty = 1) ∧ bestL r.1 = d), if_pos ⟨h1, hty, he⟩]
  · rw [if_neg hc]
    split
    · rfl
    split
    · rename_i hn hy
      exfalso
      apply hc
      have ht0 : ¬ typeV r.1 = 0 := fun e => by
        have e2 := hy.2.2
        rw [encC_no e] at e2
        rw [← e2] at h
        simp at h
      have e2 := hy.2.2
      rw [encC_yes ht0, hcons] at e2
      have e3 := (List.cons.inj e2).1
      exact ⟨hy.1, fun e => by rw [← hy.2.1]; exact bestL_int (e3.trans e), e3⟩
    · rfl

/-- KindText. -/
def kindT (n : Int) : ByteArray := if n = 0 then strOfNums [112, 108, 97, 105, 110] else if n = 1 then strOfNums [114, 117, 110, 115] else if n = 2 then strOfNums [100, 105, 99, 116] else if n = 3 then strOfNums [102, 114, 97, 109, 101] else ⟨#[]⟩

end Go.Proofs.YtkofafefnlommaaGreat

/- KindsOf, PutGroup: plain mathematics. -/
namespace Go.Proofs.YtkofafefnlommaaGreat
open Go.RowKit

/-- The kinds of the first j columns. -/
def kindsK (l : List R) (j : Nat) : List Int := (List.range j).map fun (k : Nat) => bestL (colR l (k : Int))
theorem kindsK_succ (l : List R) (j : Nat) : kindsK l (j + 1) = kindsK l j ++ [bestL (colR l (j : Int))] := by
  unfold kindsK
  rw [List.range_succ, List.map_append]
  rfl
theorem kindsK_len (l : List R) (j : Nat) : (kindsK l j).length = j := by simp [kindsK]
/-- KindsOf. -/
def kindsL (zs : List Int) (l : List R) : List Int := if rowsOkL zs l = true ∧ 0 < l.length then kindsK l zs.length else []
theorem kindsL_len (zs : List Int) (l : List R) : (kindsL zs l).length ≤ zs.length := by
  unfold kindsL
  split
  · rw [kindsK_len]; exact Nat.le_refl _
  · simp
theorem kindsL_yes {zs : List Int} {l : List R} (h : rowsOkL zs l = true) (h0 : 0 < l.length) : kindsL zs l = kindsK l zs.length := if_pos ⟨h, h0⟩
theorem kindsL_no {zs : List Int} {l : List R} (h : rowsOkL zs l = false ∨ l.length = 0) : kindsL zs l = [] := by
  unfold kindsL
  rw [if_neg]
  rintro ⟨h1, h2⟩
  rcases h with h | h
  · rw [h] at h1; cases h1
  · omega

/-- The numbers of the rows. -/
def idsL (l : List R) : List Int := l.map (·.id)
theorem idsL_len (l : List R) : (idsL l).length = l.length := by simp [idsL]
theorem idsL_take {l : List R} {j : Nat} (hj : j < l.length) : idsL (l.take (j + 1)) = idsL (l.take j) ++ [(l.getD j R.zero).id] := by
  unfold idsL
  rw [List.take_succ_eq_append_getElem hj, List.map_append]
  simp [hj]
/-- The piece of column k: the length of its encoding, and the encoding. -/
def colP (l : List R) (k : Nat) : List Int := Num.put [] ((encC (colR l (k : Int))).length : Int) ++ encC (colR l (k : Int))
/-- PutGroup's bytes behind j columns. -/
def groupK (l : List R) : Nat → List Int
  | 0 => Num.putL [] (idsL l)
  | j + 1 => groupK l j ++ colP l j
/-- PutGroup. -/
def groupL (zs : List Int) (l : List R) : List Int := if rowsOkL zs l = true then (if l.length = 0 then groupK l 0 else groupK l zs.length) else []
theorem groupL_no {zs : List Int} {l : List R} (h : rowsOkL zs l = false) : groupL zs l = [] := by
  unfold groupL
  rw [h, if_neg (by simp)]
theorem groupL_0 {zs : List Int} {l : List R} (h : rowsOkL zs l = true) (h0 : l.length = 0) : groupL zs l = groupK l 0 := by
  unfold groupL
  rw [if_pos h, if_pos h0]
theorem groupL_yes {zs : List Int} {l : List R} (h : rowsOkL zs l = true) (h0 : l.length ≠ 0) : groupL zs l = groupK l zs.length := by
  unfold groupL
  rw [if_pos h, if_neg h0]
theorem colP_len (l : List R) (k : Nat) : (colP l k).length ≤ 1030 := by
  unfold colP
  have h1 := (Num.put_len [] ((encC (colR l (k : Int))).length : Int)).2
  have h2 := encC_len (colR l (k : Int))
  rw [List.length_append]
  simp at h1
  omega
theorem groupK_len (l : List R) (j : Nat) : (groupK l j).length ≤ 5 + 5 * l.length + 1030 * j := by
  induction j with
  | zero =>
    have h := (Num.putL_len [] (idsL l)).2
    rw [idsL_len] at h
    show (Num.putL [] (idsL l)).length ≤ _
    simp at h
    omega
  | succ j ih =>
    show (groupK l j ++ colP l j).length ≤ _
    have := colP_len l j
    rw [List.length_append]
    omega
theorem put_app (b : List Int) (n : Int) : Num.put b n = b ++ Num.put [] n := by
  by_cases h : Num.ok n
  · rw [Num.put_ok h, Num.put_ok h, List.nil_append]
  · rw [Num.put_no h, Num.put_no h, List.append_nil]
theorem groupK_put (l : List R) (j : Nat) : groupK l (j + 1) = Num.put (groupK l j) ((encC (colR l (j : Int))).length : Int) ++ encC (colR l (j : Int)) := by
  show groupK l j ++ colP l j = _
  rw [put_app, List.append_assoc]
  rfl
theorem colsB_le3 {zs : List Int} (h : colsB zs = true) : 1 ≤ zs.length ∧ zs.length ≤ 3 := by
  unfold colsB at h
  rw [Bool.and_eq_true, Num.inB_true] at h
  have := h.2
  omega
theorem groupL_len (zs : List Int) (l : List R) : (groupL zs l).length ≤ 4096 := by
  cases h : rowsOkL zs l with
  | false =>
    rw [groupL_no h]
    simp
  | true =>
    obtain ⟨h1, h2, _⟩ := rowsOk_true h
    have h3 := colsB_le3 h1
    by_cases h0 : l.length = 0
    · rw [groupL_0 h h0]
      have := groupK_len l 0
      omega
    · rw [groupL_yes h h0]
      have := groupK_len l zs.length
      omega

end Go.Proofs.YtkofafefnlommaaGreat

/- The contracts of the model's EncBy, BestKind, EncCol, Saved. -/
namespace Go.Proofs.YtkofafefnlommaaGreat
open Go.RowKit

theorem own_form {e size lo hi w v n xs} (h : Own e size lo hi w v n xs) : ∃ g c, v = .slice (some ⟨g, 0, none⟩) n c := by
  obtain ⟨g, c, e, _⟩ := h
  exact ⟨g, c, e⟩
set_option maxHeartbeats 1000000 in
theorem sEncBy (u : Value) (k : Int) (l : List V) (w : World) (hn : l.length ≤ 1048576) (hss : ∀ v ∈ l, v.s.size ≤ maxLen) (h : Rd 3 w u l.length (vals l)) :
    Calls Tryz.prog 82 #[.int .i64 k, u] w fun e w' => ∃ v', e = .returned v' ∧ Own 5 1 w.heap.size w'.heap.size w' v' (encB k l).length (ints .u8 (encB k l)) ∧ Below w.heap.size w w' := by
  by_cases h0 : k = 0
  · subst h0
    rw [encB0]
    have H := Lib.hid (sEncPlain u l w hss h)
    clear h hss hn
    go_enter Tryz.func82, Tryz.ntmps82
    go_wp2_with (go_at_call 87; refine H.out.mono ?_; clear H; rintro e w1 ⟨v1, rfl, o1, b1⟩)
    go_ret
    exact ⟨_, rfl, o1, b1⟩
  by_cases h1 : k = 1
  · subst h1
    rw [encB1]
    have H := Lib.hid (sEncRuns u l w hn hss h)
    clear h hss hn
    go_enter Tryz.func82, Tryz.ntmps82
    go_wp2_with (go_at_call 110; refine H.out.mono ?_; clear H; rintro e w1 ⟨v1, rfl, o1, b1⟩)
    go_ret
    exact ⟨_, rfl, o1, b1⟩
  by_cases h2 : k = 2
  · subst h2
    rw [encB2]
    have H := Lib.hid (sEncDict u l w hn hss h)
    clear h hss hn
    go_enter Tryz.func82, Tryz.ntmps82
    go_wp2_with (go_at_call 111; refine H.out.mono ?_; clear H; rintro e w1 ⟨v1, rfl, o1, b1⟩)
    go_ret
    exact ⟨_, rfl, o1, b1⟩
  by_cases h3 : k = 3
  · subst h3
    rw [encB3]
    have H := Lib.hid (sEncFrame u l w hss h)
    clear h hss hn
    go_enter Tryz.func82, Tryz.ntmps82
    go_wp2_with (go_at_call 112; refine H.out.mono ?_; clear H; rintro e w1 ⟨v1, rfl, o1, b1⟩)
    go_ret
    exact ⟨_, rfl, o1, b1⟩
  rw [encB_no (by omega)]
  have O1 := own_lit (e := 5) (size := 1) w #[] 0 (Nat.zero_le _) rfl
  have B1 := below_alloc w (.cells #[] 5)
  have q0 : (k == 0) = false := by simpa using h0
  have q1 : (k == 1) = false := by simpa using h1
  have q2 : (k == 2) = false := by simpa using h2
  have q3 : (k == 3) = false := by simpa using h3
  clear h0 h1 h2 h3 h hss hn
  go_enter Tryz.func82, Tryz.ntmps82
  go_wp2
  go_ret
  exact ⟨_, rfl, O1, B1⟩

set_option maxHeartbeats 2000000 in
theorem sBestKind (u : Value) (l : List V) (w : World) (hn : l.length ≤ 1048576) (hss : ∀ v ∈ l, v.s.size ≤ maxLen) (h : Rd 3 w u l.length (vals l)) :
    Calls Tryz.prog 56 #[u] w fun e w' => e = .returned (.int .i64 (bestL l)) ∧ Below w.heap.size w w' := by
  have HT := Lib.hid (sTypeOf u l w hss h)
  have HP := Lib.hid (fun W (hW : Below w.heap.size w W) => sEncPlain u l W hss (h.below hW))
  have HE := Lib.hid (fun k W (hW : Below w.heap.size w W) => sEncBy u k l W hn hss (h.below hW))
  have HNO : Hid (typeV l = 0 → bestL l = -1) := bestL_no
  have HYES : Hid (¬ typeV l = 0 → bestL l = bestK l 3) := bestL_yes
  have HST : Hid (∀ k, bestK l (k + 1) = if (k + 1 ≠ 3 ∨ typeV l = 1) ∧ (encB ((k + 1 : Nat) : Int) l).length < (encB (bestK l k) l).length then k + 1 else bestK l k) := fun k => rfl
  have HBL : Hid (∀ k, (encB k l).length ≤ 1024) := fun k => encB_len k l
  have HL0 : Hid ((encP l).length = (encB (bestK l 0) l).length) := rfl
  generalize typeV l = ty at HT HNO HYES HST
  generalize bestL l = R at HNO HYES
  clear h hss hn
  go_enter Tryz.func56, Tryz.ntmps56
  go_wp2_with fail
  refine HT.out.mono ?_
  rintro e w1 ⟨rfl, b1⟩
  clear HT
  by_cases ht : ty = 0
  · subst ht
    have HR : Hid ((-1 : Int) = R) := (HNO.out rfl).symm
    clear HNO HYES HST HL0 HBL HP HE
    go_wp2
    go_ret
    exact ⟨ret_int HR.out, b1⟩
  · have htb : (ty == 0) = false := by simpa using ht
    have HR := Lib.hid (HYES.out ht)
    clear ht HNO HYES
    go_wp2_with fail
    refine (HP.out _ b1).mono ?_
    rintro e w2 ⟨v2, rfl, o2, hb2⟩
    have B2 := below_then b1 hb2 b1.size
    obtain ⟨p2, c2, hv2⟩ := own_form o2
    subst hv2
    have hl0 : (encP l).length ≤ 1024 := HBL.out 0
    clear o2 hb2 b1 HP
    generalize (encP l).length = n0 at HL0 hl0 ⊢
    go_wp2_with fail
    go_loopw [4, 5, 6] (fun b x i wr => ∃ (k m : Nat), k ≤ 3 ∧ i = .int .i64 ((k : Int) + 1) ∧ b = .int .i64 (bestK l k) ∧ x = .int .i64 m ∧ m = (encB (bestK l k) l).length ∧ m ≤ 1024 ∧ Below w.heap.size w wr) (fun _ _ i _ => 4 - (intOf i).toNat)
    case atStart => exact ⟨0, n0, Nat.zero_le _, rfl, rfl, rfl, HL0.out, hl0, B2⟩
    case round =>
      obtain ⟨k, m, hk, rfl, rfl, rfl, hm, hm2, hbr⟩ := hrel
      have HM := Lib.hid hm
      clear hm
      by_cases hlt : k < 3
      · have hle : (k : Int) + 1 ≤ 3 := by omega
        have HSK := Lib.hid (HST.out k)
        have HBN := HBL.out ((k + 1 : Nat) : Int)
        have HEK := Lib.hid (HE.out ((k + 1 : Nat) : Int) wr hbr)
        have ek : (((k + 1 : Nat)) : Int) = (k : Int) + 1 := by omega
        rw [← HM.out] at HSK
        have HLN : Hid ((encB ((k + 1 : Nat) : Int) l).length = (encB ((k + 1 : Nat) : Int) l).length) := rfl
        generalize hN : (encB ((k + 1 : Nat) : Int) l).length = N at HSK HBN HEK HLN
        have HN := Lib.hid hN
        clear hN
        rw [ek] at HEK
        generalize hbk : bestK l k = bk at *
        have HBK := Lib.hid hbk
        clear hbk
        go_wp2_with fail
        refine HEK.out.mono ?_
        rintro e w3 ⟨v3, rfl, o3, hb3⟩
        have B3 := below_then hbr hb3 hbr.size
        obtain ⟨p3, c3, hv3⟩ := own_form o3
        subst hv3
        clear o3 hb3 HEK hbr
        have HPOS : Hid ((k + 1 ≠ 3 ∨ ty = 1) → N < m → bestK l (k + 1) = k + 1) := fun a b => by rw [HSK.out, if_pos ⟨a, b⟩]
        have HNEG : Hid (¬ ((k + 1 ≠ 3 ∨ ty = 1) ∧ N < m) → bestK l (k + 1) = bk) := fun a => by rw [HSK.out, if_neg a]
        clear HSK
        by_cases h2 : k = 2
        · subst h2
          by_cases h1 : ty = 1
          · subst h1
            by_cases hNm : N < m
            · have HF := Lib.hid (HPOS.out (.inr rfl) hNm)
              clear HPOS HNEG
              go_wp2
              go_roundw
              case rel => exact ⟨3, N, by omega, by go_num, by rw [HF.out]; go_num, rfl, by rw [HF.out]; exact HN.out.symm, by omega, B3⟩
              case measure => simp [intOf]
            · have HF := Lib.hid (HNEG.out (fun h => hNm h.2))
              clear HPOS HNEG
              go_wp2
              go_roundw
              case rel => exact ⟨3, m, by omega, by go_num, by rw [HF.out], rfl, by rw [HF.out]; exact HM.out, by omega, B3⟩
              case measure => simp [intOf]
          · have h1b : (ty == 1) = false := by simpa using h1
            have HF := Lib.hid (HNEG.out (fun h => h.1.elim (fun a => a rfl) h1))
            clear HPOS HNEG h1
            go_wp2
            go_roundw
            case rel => exact ⟨3, m, by omega, by go_num, by rw [HF.out], rfl, by rw [HF.out]; exact HM.out, by omega, B3⟩
            case measure => simp [intOf]
        · have hne : ((k : Int) + 1 != 3) = true := by simp; omega
          by_cases hNm : N < m
          · have HF := Lib.hid (HPOS.out (.inl (by omega)) hNm)
            clear HPOS HNEG
            go_wp2
            go_roundw
            case rel => exact ⟨k + 1, N, by omega, by go_num, by rw [HF.out]; go_num, rfl, by rw [HF.out]; exact HN.out.symm, by omega, B3⟩
            case measure => simp [intOf]; omega
          · have HF := Lib.hid (HNEG.out (fun h => hNm h.2))
            clear HPOS HNEG
            go_wp2
            go_roundw
            case rel => exact ⟨k + 1, m, by omega, by go_num, by rw [HF.out], rfl, by rw [HF.out]; exact HM.out, by omega, B3⟩
            case measure => simp [intOf]; omega
      · obtain rfl : k = 3 := by omega
        have HRR : Hid (((bestK l 3 : Nat) : Int) = R) := HR.out.symm
        generalize bestK l 3 = bk at HRR ⊢
        clear HM
        go_wp2
        go_ret
        exact ⟨ret_int HRR.out, hbr⟩

set_option maxHeartbeats 2000000 in
theorem sEncCol (u : Value) (l : List V) (w : World) (hn : l.length ≤ 1048576) (hss : ∀ v ∈ l, v.s.size ≤ maxLen) (h : Rd 3 w u l.length (vals l)) :
    Calls Tryz.prog 48 #[u] w fun e w' => ∃ v', e = .returned v' ∧ Own 5 1 w.heap.size w'.heap.size w' v' (encC l).length (ints .u8 (encC l)) ∧ Below w.heap.size w w' := by
  have HB := Lib.hid (sBestKind u l w hn hss h)
  have HE := Lib.hid (fun k W (hW : Below w.heap.size w W) => sEncBy u k l W hn hss (h.below hW))
  have HNO : Hid (typeV l = 0 → bestL l = -1 ∧ encC l = []) := fun h => ⟨bestL_no h, encC_no h⟩
  have HYES : Hid (¬ typeV l = 0 → 0 ≤ bestL l ∧ bestL l ≤ 3 ∧ encC l = bestL l :: encB (bestL l) l) := fun h => ⟨by rw [bestL_yes h]; omega, (bestL_in l).2, encC_yes h⟩
  have HEL := encB_len (bestL l) l
  generalize typeV l = ty at HNO HYES
  generalize encC l = R at HNO HYES ⊢
  generalize bestL l = k at HB HNO HYES HEL
  clear h hss hn
  by_cases ht : ty = 0
  · obtain ⟨rfl, rfl⟩ := HNO.out ht
    clear HNO HYES HEL HE ht
    go_enter Tryz.func48, Tryz.ntmps48
    go_wp2_with fail
    refine HB.out.mono ?_
    rintro e w1 ⟨rfl, b1⟩
    have O1 := own_lit (e := 5) (size := 1) w1 #[] 0 (Nat.zero_le _) rfl
    have B1 := b1.alloc b1.size (.cells #[] 5)
    have z1 := b1.size
    go_wp2
    go_ret
    exact ⟨_, rfl, O1.lower z1, B1⟩
  · obtain ⟨k0, k3, hR⟩ := HYES.out ht
    have HES : Hid (Value.int .u8 k :: ints .u8 (encB k l) = ints .u8 R ∧ 1 + (encB k l).length = R.length) := ⟨by rw [hR]; rfl, by rw [hR, List.length_cons]; omega⟩
    have HEK := Lib.hid (HE.out k)
    clear HNO HYES HE ht hR
    generalize encB k l = X at HES HEK HEL
    generalize X.length = xn at HES HEK HEL
    have hkb : IntKind.u8.wrap k = k := IntWalk.u8_in _ (by omega)
    go_enter Tryz.func48, Tryz.ntmps48
    go_wp2_with fail
    refine HB.out.mono ?_
    rintro e w1 ⟨rfl, b1⟩
    have O1 := own_lit (e := 5) (size := 1) w1 #[.int .u8 k] 1 (by unfold maxLen; omega) rfl
    have B1 := b1.alloc b1.size (.cells #[.int .u8 k] 5)
    have z1 : Hid (w.heap.size ≤ w1.heap.size) := b1.size
    have hb1 := below_alloc w1 (.cells #[.int .u8 k] 5)
    clear HB
    go_wp2_with fail
    refine (HEK.out _ B1).mono ?_
    rintro e w2 ⟨v2, rfl, o2, hb2⟩
    have B2 := below_then B1 hb2 B1.size
    have own2 := (O1.below hb2 (Nat.le_refl _)).wide hb2.size
    obtain ⟨g6, off6, cp6, rfl, hn6, hc6, hl6, hcs6⟩ := o2.at
    have HL6 := Lib.hid hl6
    have HC6 := Lib.hid hcs6
    clear hl6 hcs6 o2 hb2 O1 B1 HEK hb1 b1
    go_wp2_with (at_builtin; refine append_law Tryz.elemBytes rfl _ _ rfl _ _ _ _ _ rfl own2 g6 off6 xn cp6 (ints .u8 X) rfl HL6.out HC6.out (ints_one _ _) (by unfold maxLen; omega) (by omega) ?_)
    intro v7 w7 o7 e7
    have b7 := B2.trans ((e7.below own2).mono z1.out)
    have O7 : Hid (Own 5 1 w.heap.size w7.heap.size w7 v7 R.length (ints .u8 R)) := by
      have := o7.lower z1.out
      rw [← HES.out.1, ← HES.out.2]
      exact this
    clear o7 e7 own2
    go_wp2
    go_ret
    exact ⟨_, rfl, O7.out, b7⟩

end Go.Proofs.YtkofafefnlommaaGreat

/- The contract of the model's KindText. -/
namespace Go.Proofs.YtkofafefnlommaaGreat
open Go.RowKit

theorem kindT_no {n : Int} (h : ¬ (0 ≤ n ∧ n ≤ 3)) : kindT n = ⟨#[]⟩ := by
  unfold kindT
  rw [if_neg (by omega), if_neg (by omega), if_neg (by omega), if_neg (by omega)]

end Go.Proofs.YtkofafefnlommaaGreat
