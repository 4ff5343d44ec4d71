/- Texts of this claim, one behind the other: I6r, I6s, I6e, I6d, M6, Draw6. -/
import Derived.Test.YtcnackecchjckaaP15
import Derived.Deep.RegionLaw
import Derived.Test.YtcnackecchjckaaP13
import Derived.Test.YtcnackecchjckaaP9

/- The contracts of impl's takeIn, joined, Runs. -/
namespace Go.Proofs.Ytcnackecchjckaa
open Go.RowKit Go.Lib

theorem wrapNum {x : Int} (h0 : -9223372036854775808 ≤ x) (h1 : x ≤ 9223372036854775807) : IntKind.i64.wrap x = x := by
  simp only [IntKind.wrap, IntKind.bits, IntKind.signed]
  go_num
/-- A Run that stands somewhere in a block. -/
def FourAt (W : World) (g o : Nat) (u : U) : Prop :=
  W.cell? ⟨g, o, none⟩ = some (.int .i64 u.v.ty) ∧ W.cell? ⟨g, o + 1, none⟩ = some (.int .i64 u.v.n) ∧ W.cell? ⟨g, o + 2, none⟩ = some (.string u.v.s) ∧ W.cell? ⟨g, o + 3, none⟩ = some (.int .i64 u.k) ∧ W.frozen? ⟨g, o + 3, none⟩ = false
theorem FourAt.below {W W' : World} {g o : Nat} {u : U} (h : FourAt W g o u) (hb : Below W.heap.size W W') : FourAt W' g o u := by
  have hlt := lt_of_cell h.1
  exact ⟨(hb.cell (p := ⟨g, o, none⟩) hlt).trans h.1, (hb.cell (p := ⟨g, o + 1, none⟩) hlt).trans h.2.1, (hb.cell (p := ⟨g, o + 2, none⟩) hlt).trans h.2.2.1, (hb.cell (p := ⟨g, o + 3, none⟩) hlt).trans h.2.2.2.1, (hb.frozen (p := ⟨g, o + 3, none⟩) hlt).trans h.2.2.2.2⟩

set_option maxHeartbeats 1000000 in
theorem takeIn_no (g off : Nat) (x y : U) (w : World) (h : FourAt w g off x) (he : x.v.eqB y.v = false) (hx : 0 ≤ x.k ∧ x.k ≤ 1048576) (hy : 0 ≤ y.k ∧ y.k ≤ 1048576) :
    Calls Try.prog 47 #[.pointer (some ⟨g, off, none⟩), y.agg] w fun e w' => e = .returned (.bool false) ∧ Below w.heap.size w w' := by
  have ba := below_alloc w (.cells #[.int .i64 y.v.ty, .int .i64 y.v.n, .string y.v.s, .int .i64 y.k] 36)
  have hq := run_neq_val x.v y.v
  rw [he] at hq
  have h4 := h.below ba
  have F0 := four_new w y 36
  obtain ⟨⟨t1, n1, s1⟩, k1⟩ := x
  obtain ⟨⟨t2, n2, s2⟩, k2⟩ := y
  simp only at ba hq h4 F0 hx hy
  have hsz : (w.alloc (.cells #[.int .i64 t2, .int .i64 n2, .string s2, .int .i64 k2] 36)).heap.size = w.heap.size + 1 := World.size_alloc _ _
  generalize hwb : w.alloc (.cells #[.int .i64 t2, .int .i64 n2, .string s2, .int .i64 k2] 36) = wb at ba h4 F0
  have HWB := Lib.hid hwb
  obtain ⟨⟨e0, e1, e2, e3⟩, _⟩ := F0
  obtain ⟨g0, g1, g2, g3, gf⟩ := h4
  simp only at e0 e1 e2 e3 g0 g1 g2 g3
  clear hwb he h hsz
  go_enter Try.func47, Try.ntmps47
  go_wp2_with fail
  rw [HWB.out]
  go_quiet (fail)
  go_wp2
  go_ret
  exact ⟨rfl, ba.trans (below_drewN _ _ _)⟩
set_option maxHeartbeats 1000000 in
theorem takeIn_yes (g off : Nat) (x y : U) (w : World) (h : FourAt w g off x) (he : x.v.eqB y.v = true) (hx : 0 ≤ x.k ∧ x.k ≤ 1048576) (hy : 0 ≤ y.k ∧ y.k ≤ 1048576) :
    Calls Try.prog 47 #[.pointer (some ⟨g, off, none⟩), y.agg] w fun e w' => e = .returned (.bool true) ∧ ∃ wm, Below w.heap.size w wm ∧ w' = wm.setCell ⟨g, off + 3, none⟩ (.int .i64 (x.k + y.k)) := by
  have ba := below_alloc w (.cells #[.int .i64 y.v.ty, .int .i64 y.v.n, .string y.v.s, .int .i64 y.k] 36)
  have hq := run_neq_val x.v y.v
  rw [he] at hq
  have h4 := h.below ba
  have F0 := four_new w y 36
  obtain ⟨⟨t1, n1, s1⟩, k1⟩ := x
  obtain ⟨⟨t2, n2, s2⟩, k2⟩ := y
  simp only at ba hq h4 F0 hx hy
  have hsz : (w.alloc (.cells #[.int .i64 t2, .int .i64 n2, .string s2, .int .i64 k2] 36)).heap.size = w.heap.size + 1 := World.size_alloc _ _
  generalize hwb : w.alloc (.cells #[.int .i64 t2, .int .i64 n2, .string s2, .int .i64 k2] 36) = wb at ba h4 F0
  have HWB := Lib.hid hwb
  obtain ⟨⟨e0, e1, e2, e3⟩, _⟩ := F0
  obtain ⟨g0, g1, g2, g3, gf⟩ := h4
  simp only at e0 e1 e2 e3 g0 g1 g2 g3
  clear hwb he h hsz
  go_enter Try.func47, Try.ntmps47
  go_wp2_with fail
  rw [HWB.out]
  go_quiet (fail)
  go_wp2
  have b2 := ba.trans (below_drewN wb w.heap.size nq)
  have z3 : (wb.drewN nq).cell? ⟨g, off + 3, none⟩ = some (.int .i64 k1) := g3
  have y3 : (wb.drewN nq).cell? ⟨w.heap.size, 3, none⟩ = some (.int .i64 k2) := e3
  have zf : (wb.drewN nq).frozen? ⟨g, off + 3, none⟩ = false := gf
  have hwr : IntKind.i64.wrap (k1 + k2) = k1 + k2 := wrapNum (by omega) (by omega)
  clear g0 g1 g2 g3 gf e0 e1 e2 e3 hq ba HWB
  generalize wb.drewN nq = wd at b2 z3 y3 zf
  go_region
  go_wp2
  go_ret
  exact ⟨rfl, wd.drew, b2.trans (below_drewN wd w.heap.size 1), rfl⟩

theorem Try.elemRunL : ElemT Try.prog 59 36 U.zero.agg 4 40 := ⟨Try.underlying59, info_parts (by kernel_rfl), rfl, by decide⟩

/-- A list on its way to its runs: k values are in, the first of A are their runs, and what comes is still there. -/
def Joins (l : List V) (A : List U) (k : Nat) : Prop :=
  A.length = l.length ∧ A.take (runsL (l.take k)).length = runsL (l.take k) ∧ ∀ j, k ≤ j → j < l.length → A.getD j U.zero = ⟨l.getD j V.zero, 1⟩
theorem joins_start (l : List V) : Joins l (l.map fun v => ⟨v, 1⟩) 0 := by
  refine ⟨by simp, rfl, fun j _ hj => ?_⟩
  simp [hj]
theorem runs_step {l : List V} {k : Nat} (hk : k < l.length) : runsL (l.take (k + 1)) = addRun (runsL (l.take k)) (l.getD k V.zero) := by
  have e : l.getD k V.zero = l[k] := by simp [hk]
  rw [e, List.take_succ_eq_append_getElem hk, runsL_snoc]
theorem runs_le (l : List V) {k : Nat} (hk : k ≤ l.length) : (runsL (l.take k)).length ≤ k := by
  have := runsL_len (l.take k)
  have e : (l.take k).length = k := by simp; omega
  omega
theorem take_set_snoc {α : Type} (A : List α) (e : Nat) (x : α) (h : e < A.length) : (A.set e x).take (e + 1) = A.take e ++ [x] := by
  rw [List.take_succ_eq_append_getElem (by simpa using h), List.take_set_of_le (Nat.le_refl _)]
  simp
theorem getD_set_ne {α : Type} (A : List α) {i j : Nat} (x d : α) (h : i ≠ j) : (A.set i x).getD j d = A.getD j d := by
  simp [List.getD, List.getElem?_set_ne h]
theorem joins_new {l : List V} {A : List U} {k : Nat} (h : Joins l A k) (hk : k < l.length) (hne : (runsL (l.take k)).length = 0 ∨ (lastU (runsL (l.take k))).v.eqB (l.getD k V.zero) = false) :
    Joins l (A.set (runsL (l.take k)).length ⟨l.getD k V.zero, 1⟩) (k + 1) ∧ (runsL (l.take (k + 1))).length = (runsL (l.take k)).length + 1 := by
  have e1 : runsL (l.take (k + 1)) = runsL (l.take k) ++ [⟨l.getD k V.zero, 1⟩] := by
    rw [runs_step hk]
    rcases hne with h1 | h1
    · exact addRun_new h1
    · exact addRun_ne h1
  have hle := runs_le l (Nat.le_of_lt hk)
  refine ⟨⟨by simpa using h.1, ?_, fun j hj hjl => ?_⟩, by rw [e1]; simp⟩
  · rw [e1, List.length_append, List.length_singleton, take_set_snoc _ _ _ (by rw [h.1]; omega), h.2.1]
  · rw [getD_set_ne _ _ _ (by omega)]
    exact h.2.2 j (by omega) hjl
theorem joins_last {l : List V} {A : List U} {k m : Nat} (h : Joins l A k) (hm : (runsL (l.take k)).length = m + 1) : A.getD m U.zero = (runsL (l.take k)).getD m U.zero := by
  have e := h.2.1
  rw [hm] at e
  rw [← e]
  simp [List.getD]
theorem joins_eq {l : List V} {A : List U} {k m : Nat} (h : Joins l A k) (hk : k < l.length) (hm : (runsL (l.take k)).length = m + 1) (heq : (A.getD m U.zero).v.eqB (l.getD k V.zero) = true) :
    Joins l (A.set m ⟨(A.getD m U.zero).v, (A.getD m U.zero).k + 1⟩) (k + 1) ∧ (runsL (l.take (k + 1))).length = m + 1 := by
  have hle := runs_le l (Nat.le_of_lt hk)
  have hA := h.1
  have hx := joins_last h hm
  have e1 : runsL (l.take (k + 1)) = (runsL (l.take k)).set m ⟨(A.getD m U.zero).v, (A.getD m U.zero).k + 1⟩ := by
    rw [runs_step hk, hx]
    exact addRun_eq hm (by rw [← hx]; exact heq)
  refine ⟨⟨by simpa using h.1, ?_, fun j hj hjl => ?_⟩, by rw [e1, List.length_set, hm]⟩
  · rw [e1, List.length_set, hm, take_set_snoc _ _ _ (by omega)]
    have e2 := h.2.1
    rw [hm] at e2
    rw [← e2]
    apply List.ext_getElem
    · simp; omega
    · intro i h1 h2
      simp only [List.length_append, List.length_take, List.length_singleton] at h1
      rw [List.getElem_append, List.getElem_set]
      split
      · rw [if_neg (by simp at *; omega)]
        simp
      · rw [if_pos (by simp at *; omega)]
        simp
  · rw [getD_set_ne _ _ _ (by omega)]
    exact h.2.2 j (by omega) hjl
theorem joins_k {l : List V} {A : List U} {k m : Nat} (h : Joins l A k) (hk : k ≤ l.length) (hm : (runsL (l.take k)).length = m + 1) : 1 ≤ (A.getD m U.zero).k ∧ (A.getD m U.zero).k ≤ k := by
  rw [joins_last h hm]
  have hlt : m < (runsL (l.take k)).length := by omega
  have e : (runsL (l.take k)).getD m U.zero = (runsL (l.take k))[m] := by simp [hlt]
  have hl : (l.take k).length = k := by simp; omega
  have := runsL_k (l.take k) _ (List.getElem_mem hlt)
  rw [hl] at this
  rw [e]
  exact this

/-- An owned slice whose head alone is kept. -/
theorem row_shorter {w : World} {lo : Nat} {e : TypeId} {size g n cap m : Nat} {xs : List Value} (h : w.ownsRow lo e size (.slice (some ⟨g, 0, none⟩) n cap) n xs) (hm : m ≤ n) : w.ownsRow lo e size (.slice (some ⟨g, 0, none⟩) m cap) m (xs.take (m * size)) := by
  obtain ⟨h1, h2⟩ := h
  have hmul : m * size ≤ n * size := Nat.mul_le_mul_right _ hm
  refine ⟨by rw [List.length_take, h1]; omega, .inr ?_⟩
  rcases h2 with ⟨e, _⟩ | ⟨g', cap', cur, e, a1, a2, a3, a4, a5, a6⟩
  · cases e
  · cases e
    refine ⟨g, cap, cur, rfl, a1, a2, by omega, a4, a5, ?_⟩
    rw [← a6, List.take_take, Nat.min_eq_left hmul]
theorem row_cells {lo : Nat} {e : TypeId} {size g n cap : Nat} : ∀ (vs : List Value) (o : Nat) (w : World) (xs : List Value), w.ownsRow lo e size (.slice (some ⟨g, 0, none⟩) n cap) n xs →
    ∃ ys, (w.setCells g o vs).ownsRow lo e size (.slice (some ⟨g, 0, none⟩) n cap) n ys ∧ ys.take o = xs.take o ∧ w.grownBy (w.setCells g o vs) (some g)
  | [], o, w, xs, h => ⟨xs, h, rfl, grownBy_refl _ _⟩
  | v :: vs, o, w, xs, h => by
    have s1 := h.stored o v
    obtain ⟨ys, h1, h2, h3⟩ := row_cells vs (o + 1) (w.setCell ⟨g, o, none⟩ v) _ s1.1
    refine ⟨ys, h1, ?_, s1.2.trans h3⟩
    have := congrArg (List.take o) h2
    rw [List.take_take, List.take_take, Nat.min_eq_left (by omega), List.take_set_of_le (Nat.le_refl _)] at this
    exact this
theorem rus_take (A : List U) (m : Nat) : (rus A).take (m * 4) = rus (A.take m) := by
  induction A generalizing m with
  | nil => simp [rus]
  | cons a A ih =>
    cases m with
    | zero => simp [rus]
    | succ m =>
      have := ih m
      simp only [rus, List.flatMap_cons, List.take_succ_cons] at this ⊢
      rw [show (m + 1) * 4 = a.cs.length + m * 4 by simp [U.cs]; omega, List.take_length_add_append, this]

theorem run_clear_runs (w : World) (ty : TypeId) (g o n c : Nat) (hn : 0 < n) (hc : ∀ j, j < n * 4 → (w.cell? ⟨g, o + j, none⟩).isSome = true) (hf : ∀ j, j < n * 4 → w.frozen? ⟨g, o + j, none⟩ = false) :
    (Builtin.clear_ #[59] ty #[.slice (some ⟨g, o, none⟩) n c]).run Try.prog w = .ok (.tuple #[]) (w.setCells g o (Builtin.zeroCells U.zero.agg.cells n).toList) := by
  have hzl : (Builtin.zeroCells U.zero.agg.cells n).toList.length = n * 4 := by simp [Builtin.zeroCells, U.zero, Value.cells]
  have hst := run_storeCells_cells (P := Try.prog) g o (Builtin.zeroCells U.zero.agg.cells n).toList 0 w (by rw [hzl]; simpa using hc) (by rw [hzl]; simpa using hf) (by
    intro v hv
    simp [Builtin.zeroCells] at hv
    obtain ⟨a, _, rfl⟩ := hv
    have h4 : U.zero.agg.cells.size = 4 := rfl
    rw [h4]
    have h5 : a % 4 < 4 := Nat.mod_lt _ (by omega)
    generalize a % 4 = q at h5
    match q, h5 with
    | 0, _ => rfl
    | 1, _ => rfl
    | 2, _ => rfl
    | 3, _ => rfl)
  have hv : ∀ W, (zeroValue 36).run Try.prog W = .ok U.zero.agg W := fun W => by
    have hz : Try.t36.zero = some U.zero.agg := by kernel_rfl
    simp [zeroValue, hz]
  simp only [Nat.add_zero] at hst
  obtain ⟨m, rfl⟩ : ∃ m, n = m + 1 := ⟨n - 1, by omega⟩
  simp [Builtin.clear_, run_underlying Try.elemRunL.ht, hv, hst]

set_option maxHeartbeats 2000000 in
theorem joined (g n : Nat) (l : List V) (w : World) (lo : Nat) (hn : n ≤ 1048576) (hl : l.length = n) (h : Own 36 4 lo w.heap.size w (.slice (some ⟨g, 0, none⟩) n n) n (rus (l.map fun v => ⟨v, 1⟩))) :
    Calls Try.prog 46 #[.slice (some ⟨g, 0, none⟩) n n, .func (.func 47) #[] #[]] w fun e w' => ∃ v', e = .returned v' ∧ Own 36 4 lo w'.heap.size w' v' (runsL l).length (rus (runsL l)) ∧ Below lo w w' := by
  have HL := Lib.hid hl
  have HJ0 := Lib.hid (joins_start l)
  have HR0 : Hid ((runsL (l.take 0)).length = 0) := rfl
  have hgl : lo ≤ g := by
    obtain ⟨g', c', e', h1, _⟩ := h
    cases e'
    exact h1
  have HLO := Lib.hid hgl
  have hlow := h.lo
  clear hl hgl
  go_enter Try.func46, Try.ntmps46
  go_wp2
  go_loopw [5, 10] (fun c i wr => ∃ (k : Nat) (A : List U), k ≤ n ∧ i = .int .i64 k ∧ c = .int .i64 ((runsL (l.take k)).length : Nat) ∧ Joins l A k ∧ Own 36 4 lo wr.heap.size wr (.slice (some ⟨g, 0, none⟩) n n) n (rus A) ∧ Below lo w wr) (fun _ i _ => n - (intOf i).toNat)
  case atStart => exact ⟨0, _, Nat.zero_le _, rfl, by rw [HR0.out]; rfl, HJ0.out, h, Below.refl _ _⟩
  case round =>
    obtain ⟨k, A, hk, rfl, rfl, hj, hown, hbr⟩ := hrel
    have HJ := Lib.hid hj
    have HAL : Hid (A.length = n) := hj.1.trans HL.out
    by_cases hlt : k < n
    · have hAk := hj.2.2 k (Nat.le_refl _) (by rw [HL.out]; exact hlt)
      have hre := runs_le l (k := k) (by rw [HL.out]; exact hk)
      obtain ⟨b', off', cp', e', _, _, _, hcs⟩ := hown.at
      simp only [Value.slice.injEq, Option.some.injEq, Addr.mk.injEq, and_true, true_and] at e'
      obtain ⟨⟨rfl, rfl⟩, rfl⟩ := e'
      have hkA : k < A.length := by rw [HAL.out]; exact hlt
      obtain ⟨q0, q1, q2, q3⟩ := cells4 hcs hkA
      have hgd : A.getD k U.zero = A[k] := by simp [hkA]
      rw [← hgd, hAk] at q0 q1 q2 q3
      simp only [Nat.zero_add] at q0 q1 q2 q3
      have HN := Lib.hid (joins_new hj (by rw [HL.out]; exact hlt))
      generalize hx : l.getD k V.zero = x at q0 q1 q2 q3 HN
      have HX := Lib.hid hx
      have HM : Hid (∀ m, (runsL (l.take k)).length = m + 1 → 1 ≤ (A.getD m U.zero).k ∧ (A.getD m U.zero).k ≤ k ∧ A.getD m U.zero = lastU (runsL (l.take k)) ∧ ((A.getD m U.zero).v.eqB x = true → Joins l (A.set m ⟨(A.getD m U.zero).v, (A.getD m U.zero).k + 1⟩) (k + 1) ∧ (runsL (l.take (k + 1))).length = m + 1)) := fun m hm => by
        have h1 := joins_k hj (by rw [HL.out]; exact hk) hm
        refine ⟨h1.1, h1.2, ?_, fun he => joins_eq hj (by rw [HL.out]; exact hlt) hm (by rw [HX.out]; exact he)⟩
        rw [joins_last hj hm]
        unfold lastU
        rw [hm]
        rfl
      generalize hee : (runsL (l.take k)).length = ee at hre HN HM
      clear hx hgd hAk hj hcs
      obtain ⟨t1, n1, s1⟩ := x
      simp only at q0 q1 q2 q3
      have ba := below_alloc wr (.cells #[.int .i64 t1, .int .i64 n1, .string s1, .int .i64 1] 36)
      have bt := hbr.alloc hown.lo (.cells #[.int .i64 t1, .int .i64 n1, .string s1, .int .i64 1] 36)
      have F0 := four_new wr ⟨⟨t1, n1, s1⟩, 1⟩ 36
      have O0 := hown.alloc (.cells #[.int .i64 t1, .int .i64 n1, .string s1, .int .i64 1] 36)
      have hszb : (wr.alloc (.cells #[.int .i64 t1, .int .i64 n1, .string s1, .int .i64 1] 36)).heap.size = wr.heap.size + 1 := World.size_alloc _ _
      have O1 : Own 36 4 lo (wr.alloc (.cells #[.int .i64 t1, .int .i64 n1, .string s1, .int .i64 1] 36)).heap.size (wr.alloc (.cells #[.int .i64 t1, .int .i64 n1, .string s1, .int .i64 1] 36)) (.slice (some ⟨g, 0, none⟩) n n) n (rus A) := O0.wide (by rw [hszb]; omega)
      have HGL : Hid (g < wr.heap.size) := by
        obtain ⟨g', c', e', h1, h2, _⟩ := hown
        cases e'
        exact h2
      clear O0 hown hszb
      generalize hwb : wr.alloc (.cells #[.int .i64 t1, .int .i64 n1, .string s1, .int .i64 1] 36) = wb at ba bt F0 O1
      have HWB := Lib.hid hwb
      clear hwb
      cases ee with
      | zero =>
        have HNN := Lib.hid (HN.out (.inl rfl))
        clear HN HM
        go_wp2_with fail
        rw [HWB.out]
        go_quiet (fail)
        have WF : Four (wb.drewN nq) wr.heap.size ⟨⟨t1, n1, s1⟩, 1⟩ := F0
        have WO := O1.drewN nq
        have WB := bt.trans (below_drewN wb lo nq)
        generalize wb.drewN nq = wd at WF WO WB
        have r2 := WO.row
        have hea : 0 < A.length := by rw [HAL.out]; omega
        have R := Lib.hid (stored4 r2 0 ⟨⟨t1, n1, s1⟩, 1⟩ hea)
        obtain ⟨x0, s0⟩ := cellAt_some r2 (0 * 4) (by omega)
        obtain ⟨x1, s1'⟩ := cellAt_some r2 (0 * 4 + 1) (by omega)
        obtain ⟨x2, s2⟩ := cellAt_some r2 (0 * 4 + 2) (by omega)
        obtain ⟨x3, s3⟩ := cellAt_some r2 (0 * 4 + 3) (by omega)
        have f0 := r2.frozenAt (0 * 4)
        have f1 := r2.frozenAt (0 * 4 + 1)
        have f2 := r2.frozenAt (0 * 4 + 2)
        have f3 := r2.frozenAt (0 * 4 + 3)
        obtain ⟨⟨e0, e1, e2, e3⟩, _⟩ := WF
        simp only at e0 e1 e2 e3 R
        clear r2 hea WO q0 q1 q2 q3
        go_wp2
        go_roundw
        case rel =>
          refine ⟨k + 1, A.set 0 ⟨⟨t1, n1, s1⟩, 1⟩, by omega, by go_num, by rw [(HNN.out).2]; go_num, HNN.out.1, ?_, ?_⟩
          · exact ⟨g, n, rfl, HLO.out, (R.out.1.lt g rfl).2, R.out.1⟩
          · exact WB.trans ⟨R.out.2.os, R.out.2.tape, R.out.2.output, R.out.2.size, fun j hj => R.out.2.block j (by have := WB.size; omega) (by have := HLO.out; simp; omega)⟩
        case measure => simp [intOf]; omega
      | succ m =>
        obtain ⟨hm1, hm2, hm3, hm4⟩ := HM.out m rfl
        have HM4 := Lib.hid hm4
        have HM3 := Lib.hid hm3
        obtain ⟨b', off', cp', e', _, _, _, hcs⟩ := O1.at
        simp only [Value.slice.injEq, Option.some.injEq, Addr.mk.injEq, and_true, true_and] at e'
        obtain ⟨⟨rfl, rfl⟩, rfl⟩ := e'
        have hmA : m < A.length := by rw [HAL.out]; omega
        have FA : FourAt wb g (m * 4) (A.getD m U.zero) := by
          obtain ⟨y0, y1, y2, y3⟩ := cells4 hcs hmA
          have hgd : A.getD m U.zero = A[m] := by simp [hmA]
          rw [← hgd] at y0 y1 y2 y3
          simp only [Nat.zero_add] at y0 y1 y2 y3
          exact ⟨y0, y1, y2, y3, O1.row.frozenAt _⟩
        have HSK : Hid (∀ q, rus (A.set m ⟨(A.getD m U.zero).v, q⟩) = (rus A).set (m * 4 + 3) (.int .i64 q)) := fun q => rus_setK A m q hmA
        rw [← HM3.out] at HN
        generalize A.getD m U.zero = y at hm1 hm2 HM4 HN FA HSK
        clear hm3 hm4 HM HM3 hcs hmA
        have HF0 := Lib.hid F0
        obtain ⟨⟨e0, e1, e2, e3⟩, _⟩ := F0
        simp only at e0 e1 e2 e3
        cases he : y.v.eqB ⟨t1, n1, s1⟩ with
        | false =>
          have HC := Lib.hid (fun W (hW : Below wb.heap.size wb W) => takeIn_no g (m * 4) y ⟨⟨t1, n1, s1⟩, 1⟩ W (FA.below hW) he ⟨by omega, by omega⟩ ⟨by show (0 : Int) ≤ 1; omega, by show (1 : Int) ≤ 1048576; omega⟩)
          have HNN := Lib.hid (HN.out (.inr he))
          clear he HM4 HN
          go_wp2_with fail
          rw [HWB.out]
          have hmn : m < n := by omega
          have hwm : IntKind.i64.wrap (m : Int) = (m : Int) := IntWalk.i64_in _ (by omega)
          refine wp_region_held_drew (S := fun W => W.cell? ⟨wr.heap.size, 0, none⟩ = some (.int .i64 t1) ∧ W.cell? ⟨wr.heap.size, 1, none⟩ = some (.int .i64 n1) ∧ W.cell? ⟨wr.heap.size, 2, none⟩ = some (.string s1) ∧ W.cell? ⟨wr.heap.size, 3, none⟩ = some (.int .i64 1)) (by kernel_rfl) ⟨e0, e1, e2, e3⟩ (fun hHeld => ?_)
          refine takeH (i := 0) (d := some 14) (v := .int .i64 ((m : Int) + 1)) rfl rfl (by kernel_rfl) (by kernel_rfl) (by kernel_rfl) (fun _ _ _ h => h) (Or.inl ⟨by rfl, fun W hSw => by obtain ⟨d0, d1, d2, d3⟩ := hSw; go_simp⟩) hHeld ?_
          simp only [put_some, List.set_cons_zero, List.set_cons_succ]
          refine takeH (i := 1) (d := some 15) (v := .bool true) rfl rfl (by kernel_rfl) (by kernel_rfl) (by kernel_rfl) (fun _ _ _ h => h) (Or.inl ⟨by rfl, fun W hSw => by obtain ⟨d0, d1, d2, d3⟩ := hSw; go_simp⟩) hHeld ?_
          simp only [put_some, List.set_cons_zero, List.set_cons_succ]
          refine takeH (i := 2) (d := some 16) (v := .bool true) rfl rfl (by kernel_rfl) (by kernel_rfl) (by kernel_rfl) (fun _ _ _ h => h) (Or.inl ⟨by rfl, fun W hSw => by obtain ⟨d0, d1, d2, d3⟩ := hSw; go_simp⟩) hHeld ?_
          simp only [put_some, List.set_cons_zero, List.set_cons_succ]
          refine takeH (i := 3) (d := some 17) (v := .func (.func 47) #[] #[]) rfl rfl (by kernel_rfl) (by kernel_rfl) (by kernel_rfl) (fun _ _ _ h => h) (Or.inl ⟨by rfl, fun W hSw => by obtain ⟨d0, d1, d2, d3⟩ := hSw; go_simp⟩) hHeld ?_
          simp only [put_some, List.set_cons_zero, List.set_cons_succ]
          refine takeH (i := 4) (d := some 18) (v := .slice (some ⟨g, 0, none⟩) n n) rfl rfl (by kernel_rfl) (by kernel_rfl) (by kernel_rfl) (fun _ _ _ h => h) (Or.inl ⟨by rfl, fun W hSw => by obtain ⟨d0, d1, d2, d3⟩ := hSw; go_simp⟩) hHeld ?_
          simp only [put_some, List.set_cons_zero, List.set_cons_succ]
          refine takeH (i := 5) (d := some 19) (v := .int .i64 ((m : Int) + 1)) rfl rfl (by kernel_rfl) (by kernel_rfl) (by kernel_rfl) (fun _ _ _ h => h) (Or.inl ⟨by rfl, fun W hSw => by obtain ⟨d0, d1, d2, d3⟩ := hSw; go_simp⟩) hHeld ?_
          simp only [put_some, List.set_cons_zero, List.set_cons_succ]
          refine takeH (i := 6) (d := some 20) (v := .int .i64 (m : Int)) rfl rfl (by kernel_rfl) (by kernel_rfl) (by kernel_rfl) (fun _ _ _ h => h) (Or.inl ⟨by rfl, fun W hSw => by obtain ⟨d0, d1, d2, d3⟩ := hSw; go_simp⟩) hHeld ?_
          simp only [put_some, List.set_cons_zero, List.set_cons_succ]
          refine takeH (i := 7) (d := some 21) (v := .pointer (some ⟨g, m * 4, none⟩)) rfl rfl (by kernel_rfl) (by kernel_rfl) (by kernel_rfl) (fun _ _ _ h => h) (Or.inl ⟨by rfl, fun W hSw => by obtain ⟨d0, d1, d2, d3⟩ := hSw; go_simp⟩) hHeld ?_
          simp only [put_some, List.set_cons_zero, List.set_cons_succ]
          refine takeH (i := 8) (d := some 22) (v := .agg #[.int .i64 t1, .int .i64 n1, .string s1, .int .i64 1]) rfl rfl (by kernel_rfl) (by kernel_rfl) (by kernel_rfl) (fun _ _ _ h => h) (Or.inl ⟨by rfl, fun W hSw => by obtain ⟨d0, d1, d2, d3⟩ := hSw; go_simp⟩) hHeld ?_
          simp only [put_some, List.set_cons_zero, List.set_cons_succ]
          refine wpAnyH_ready (rs := [9]) (by kernel_rfl) (by simp) ?_
          refine AllReadyH.cons rfl (fun K hK => ?_) AllReadyH.nil
          go_simp
          refine (HC.out _ (below_drewN wb _ 1)).mono ?_
          rintro e w2 ⟨rfl, hb2⟩
          have hb3 : Below wb.heap.size wb w2 := (below_drewN wb wb.heap.size 1).trans hb2
          refine hK.out _ _ ⟨(hb3.cell (p := ⟨wr.heap.size, 0, none⟩) (lt_of_cell e0)).trans e0, (hb3.cell (p := ⟨wr.heap.size, 1, none⟩) (lt_of_cell e1)).trans e1, (hb3.cell (p := ⟨wr.heap.size, 2, none⟩) (lt_of_cell e2)).trans e2, (hb3.cell (p := ⟨wr.heap.size, 3, none⟩) (lt_of_cell e3)).trans e3⟩ (fun hHeld => ?_)
          clear hK K
          refine takeH (i := 10) (d := some 24) (v := .bool false) rfl rfl (by kernel_rfl) (by kernel_rfl) (by kernel_rfl) (fun _ _ _ h => h) (Or.inl ⟨by rfl, fun W hSw => by go_simp⟩) hHeld ?_
          simp only [put_some, List.set_cons_zero, List.set_cons_succ]
          refine wpAnyH_done (by kernel_rfl) ?_ _
          have WF : Four w2 wr.heap.size ⟨⟨t1, n1, s1⟩, 1⟩ := HF0.out.below hb3
          have WO := (O1.below hb3 (Nat.le_refl _)).wide hb3.size
          have WB := below_then bt hb3 O1.lo
          clear HC hHeld hb2 hb3 FA e0 e1 e2 e3
          have r2 := WO.row
          have hea : m + 1 < A.length := by rw [HAL.out]; omega
          have R := Lib.hid (stored4 r2 (m + 1) ⟨⟨t1, n1, s1⟩, 1⟩ hea)
          obtain ⟨x0, s0⟩ := cellAt_some r2 ((m + 1) * 4) (by omega)
          obtain ⟨x1, s1'⟩ := cellAt_some r2 ((m + 1) * 4 + 1) (by omega)
          obtain ⟨x2, s2⟩ := cellAt_some r2 ((m + 1) * 4 + 2) (by omega)
          obtain ⟨x3, s3⟩ := cellAt_some r2 ((m + 1) * 4 + 3) (by omega)
          have f0 := r2.frozenAt ((m + 1) * 4)
          have f1 := r2.frozenAt ((m + 1) * 4 + 1)
          have f2 := r2.frozenAt ((m + 1) * 4 + 2)
          have f3 := r2.frozenAt ((m + 1) * 4 + 3)
          obtain ⟨⟨e0, e1, e2, e3⟩, _⟩ := WF
          simp only at e0 e1 e2 e3 R
          clear r2 hea WO q0 q1 q2 q3
          go_wp2
          go_roundw
          case rel =>
            refine ⟨k + 1, A.set (m + 1) ⟨⟨t1, n1, s1⟩, 1⟩, by omega, by go_num, by rw [(HNN.out).2]; go_num, HNN.out.1, ?_, ?_⟩
            · exact ⟨g, n, rfl, HLO.out, (R.out.1.lt g rfl).2, R.out.1⟩
            · exact WB.trans ⟨R.out.2.os, R.out.2.tape, R.out.2.output, R.out.2.size, fun j hj => R.out.2.block j (by have := WB.size; omega) (by have := HLO.out; simp; omega)⟩
          case measure => simp [intOf]; omega
        | true =>
          have HC := Lib.hid (fun W (hW : Below wb.heap.size wb W) => takeIn_yes g (m * 4) y ⟨⟨t1, n1, s1⟩, 1⟩ W (FA.below hW) he ⟨by omega, by omega⟩ ⟨by show (0 : Int) ≤ 1; omega, by show (1 : Int) ≤ 1048576; omega⟩)
          have HNN := Lib.hid (HM4.out he)
          clear he HM4 HN
          go_wp2_with fail
          rw [HWB.out]
          have hmn : m < n := by omega
          have hwm : IntKind.i64.wrap (m : Int) = (m : Int) := IntWalk.i64_in _ (by omega)
          refine wp_region_held_drew (S := fun W => W.cell? ⟨wr.heap.size, 0, none⟩ = some (.int .i64 t1) ∧ W.cell? ⟨wr.heap.size, 1, none⟩ = some (.int .i64 n1) ∧ W.cell? ⟨wr.heap.size, 2, none⟩ = some (.string s1) ∧ W.cell? ⟨wr.heap.size, 3, none⟩ = some (.int .i64 1)) (by kernel_rfl) ⟨e0, e1, e2, e3⟩ (fun hHeld => ?_)
          refine takeH (i := 0) (d := some 14) (v := .int .i64 ((m : Int) + 1)) rfl rfl (by kernel_rfl) (by kernel_rfl) (by kernel_rfl) (fun _ _ _ h => h) (Or.inl ⟨by rfl, fun W hSw => by obtain ⟨d0, d1, d2, d3⟩ := hSw; go_simp⟩) hHeld ?_
          simp only [put_some, List.set_cons_zero, List.set_cons_succ]
          refine takeH (i := 1) (d := some 15) (v := .bool true) rfl rfl (by kernel_rfl) (by kernel_rfl) (by kernel_rfl) (fun _ _ _ h => h) (Or.inl ⟨by rfl, fun W hSw => by obtain ⟨d0, d1, d2, d3⟩ := hSw; go_simp⟩) hHeld ?_
          simp only [put_some, List.set_cons_zero, List.set_cons_succ]
          refine takeH (i := 2) (d := some 16) (v := .bool true) rfl rfl (by kernel_rfl) (by kernel_rfl) (by kernel_rfl) (fun _ _ _ h => h) (Or.inl ⟨by rfl, fun W hSw => by obtain ⟨d0, d1, d2, d3⟩ := hSw; go_simp⟩) hHeld ?_
          simp only [put_some, List.set_cons_zero, List.set_cons_succ]
          refine takeH (i := 3) (d := some 17) (v := .func (.func 47) #[] #[]) rfl rfl (by kernel_rfl) (by kernel_rfl) (by kernel_rfl) (fun _ _ _ h => h) (Or.inl ⟨by rfl, fun W hSw => by obtain ⟨d0, d1, d2, d3⟩ := hSw; go_simp⟩) hHeld ?_
          simp only [put_some, List.set_cons_zero, List.set_cons_succ]
          refine takeH (i := 4) (d := some 18) (v := .slice (some ⟨g, 0, none⟩) n n) rfl rfl (by kernel_rfl) (by kernel_rfl) (by kernel_rfl) (fun _ _ _ h => h) (Or.inl ⟨by rfl, fun W hSw => by obtain ⟨d0, d1, d2, d3⟩ := hSw; go_simp⟩) hHeld ?_
          simp only [put_some, List.set_cons_zero, List.set_cons_succ]
          refine takeH (i := 5) (d := some 19) (v := .int .i64 ((m : Int) + 1)) rfl rfl (by kernel_rfl) (by kernel_rfl) (by kernel_rfl) (fun _ _ _ h => h) (Or.inl ⟨by rfl, fun W hSw => by obtain ⟨d0, d1, d2, d3⟩ := hSw; go_simp⟩) hHeld ?_
          simp only [put_some, List.set_cons_zero, List.set_cons_succ]
          refine takeH (i := 6) (d := some 20) (v := .int .i64 (m : Int)) rfl rfl (by kernel_rfl) (by kernel_rfl) (by kernel_rfl) (fun _ _ _ h => h) (Or.inl ⟨by rfl, fun W hSw => by obtain ⟨d0, d1, d2, d3⟩ := hSw; go_simp⟩) hHeld ?_
          simp only [put_some, List.set_cons_zero, List.set_cons_succ]
          refine takeH (i := 7) (d := some 21) (v := .pointer (some ⟨g, m * 4, none⟩)) rfl rfl (by kernel_rfl) (by kernel_rfl) (by kernel_rfl) (fun _ _ _ h => h) (Or.inl ⟨by rfl, fun W hSw => by obtain ⟨d0, d1, d2, d3⟩ := hSw; go_simp⟩) hHeld ?_
          simp only [put_some, List.set_cons_zero, List.set_cons_succ]
          refine takeH (i := 8) (d := some 22) (v := .agg #[.int .i64 t1, .int .i64 n1, .string s1, .int .i64 1]) rfl rfl (by kernel_rfl) (by kernel_rfl) (by kernel_rfl) (fun _ _ _ h => h) (Or.inl ⟨by rfl, fun W hSw => by obtain ⟨d0, d1, d2, d3⟩ := hSw; go_simp⟩) hHeld ?_
          simp only [put_some, List.set_cons_zero, List.set_cons_succ]
          refine wpAnyH_ready (rs := [9]) (by kernel_rfl) (by simp) ?_
          refine AllReadyH.cons rfl (fun K hK => ?_) AllReadyH.nil
          go_simp
          refine (HC.out _ (below_drewN wb _ 1)).mono ?_
          rintro e w2 ⟨rfl, wm, hbm, rfl⟩
          have hb3 : Below wb.heap.size wb wm := (below_drewN wb wb.heap.size 1).trans hbm
          have WO := (O1.below hb3 (Nat.le_refl _)).wide hb3.size
          have WB := below_then bt hb3 O1.lo
          have R := Lib.hid (WO.row.stored (m * 4 + 3) (.int .i64 (y.k + 1)))
          rw [← HSK.out] at R
          have cc : ∀ j x, wb.cell? ⟨wr.heap.size, j, none⟩ = some x → (wm.setCell ⟨g, m * 4 + 3, none⟩ (.int .i64 (y.k + 1))).cell? ⟨wr.heap.size, j, none⟩ = some x := fun j x hx =>
            (World.cell?_of_block (a := ⟨wr.heap.size, j, none⟩) (R.out.2.block wr.heap.size (Nat.lt_of_lt_of_le (lt_of_cell e0) hb3.size) (by have := HGL.out; simp; omega))).trans ((hb3.cell (p := ⟨wr.heap.size, j, none⟩) (lt_of_cell hx)).trans hx)
          refine hK.out _ _ ⟨cc 0 _ e0, cc 1 _ e1, cc 2 _ e2, cc 3 _ e3⟩ (fun hHeld => ?_)
          clear hK K
          refine takeH (i := 10) (d := some 24) (v := .bool true) rfl rfl (by kernel_rfl) (by kernel_rfl) (by kernel_rfl) (fun _ _ _ h => h) (Or.inl ⟨by rfl, fun W hSw => by go_simp⟩) hHeld ?_
          simp only [put_some, List.set_cons_zero, List.set_cons_succ]
          refine wpAnyH_done (by kernel_rfl) ?_ _
          clear HC hHeld hbm hb3 FA e0 e1 e2 e3 cc q0 q1 q2 q3 WO
          go_wp2
          go_roundw
          case rel =>
            refine ⟨k + 1, A.set m ⟨y.v, y.k + 1⟩, by omega, by go_num, by rw [(HNN.out).2]; go_num, HNN.out.1, ?_, ?_⟩
            · exact ⟨g, n, rfl, HLO.out, (R.out.1.lt g rfl).2, R.out.1⟩
            · exact WB.trans ⟨R.out.2.os, R.out.2.tape, R.out.2.output, R.out.2.size, fun j hj => R.out.2.block j (by have := WB.size; omega) (by have := HLO.out; simp; omega)⟩
          case measure => simp [intOf]; omega
    · obtain rfl : k = n := by omega
      have hA1 := hj.2.1
      rw [← HL.out, List.take_length] at hA1
      rw [← HL.out, List.take_length, HL.out]
      have hre := runsL_len l
      rw [HL.out] at hre
      have HRT : Hid (rus (runsL l) = (rus A).take ((runsL l).length * 4)) := by
        show _ = _
        rw [rus_take, hA1]
      generalize hee : (runsL l).length = ee at hre HRT ⊢
      have HEE := Lib.hid hee
      clear hA1 hj hee
      by_cases hlt2 : ee < k
      · have r0 := hown.row
        obtain ⟨ys, r1, r2, r3⟩ := row_cells (Builtin.zeroCells U.zero.agg.cells (k - ee)).toList (ee * 4) wr _ r0
        have R1 := row_shorter r1 (m := ee) (by omega)
        rw [r2, ← HRT.out] at R1
        have RR := Lib.hid R1
        have R3 := Lib.hid r3
        have hcl : ∀ ty, (Builtin.clear_ #[59] ty #[.slice (some ⟨g, ee * 4, none⟩) (k - ee) (k - ee)]).run Try.prog wr = .ok (.tuple #[]) (wr.setCells g (ee * 4) (Builtin.zeroCells U.zero.agg.cells (k - ee)).toList) := fun ty => run_clear_runs wr ty g (ee * 4) (k - ee) (k - ee) (by omega) (fun j hj => by
          obtain ⟨x, hx⟩ := cellAt_some r0 (ee * 4 + j) (by omega)
          rw [hx]
          rfl) (fun j hj => r0.frozenAt _)
        generalize wr.setCells g (ee * 4) (Builtin.zeroCells U.zero.agg.cells (k - ee)).toList = wc at RR R3 hcl
        clear r0 r1 r2 r3 R1
        go_wp2
        go_ret
        rw [HEE.out]
        exact ⟨_, rfl, ⟨g, k, rfl, HLO.out, (RR.out.lt g rfl).2, RR.out⟩, hbr.trans ⟨R3.out.os, R3.out.tape, R3.out.output, R3.out.size, fun j hj => R3.out.block j (by have := hbr.size; omega) (by have := HLO.out; simp; omega)⟩⟩
      · obtain rfl : ee = k := by omega
        have hcl : ∀ ty a c, (Builtin.clear_ #[59] ty #[.slice a 0 c]).run Try.prog wr = .ok (.tuple #[]) wr := fun ty a c => by
          cases a <;> simp [Builtin.clear_, run_underlying Try.elemRunL.ht]
        have hRR : rus (runsL l) = rus A := by
          rw [HRT.out]
          apply List.take_of_length_le
          rw [rus_len, HAL.out]
          omega
        have HRR := Lib.hid hRR
        clear hlt2 hlt hk hre hRR HRT h
        go_wp2_with fail
        go_ret
        rw [HEE.out, HRR.out]
        exact ⟨_, rfl, hown, hbr⟩

end Go.Proofs.Ytcnackecchjckaa

/- The contracts of impl's Runs, LongestRun. -/
namespace Go.Proofs.Ytcnackecchjckaa
open Go.RowKit Go.Lib

set_option maxHeartbeats 1000000 in
theorem iRuns : CRuns := by
  intro u l w hn hss h
  have HJ := Lib.hid (fun g W lo hO => joined g l.length l W lo hn rfl hO)
  generalize hl : l.length = n at h hn HJ
  obtain ⟨a, cap, rfl, hm, HC⟩ := h.vals hl
  unfold maxLen at hm
  have HL := Lib.hid hl
  have HLM : Hid ((l.map fun v => (⟨v, 1⟩ : U)).length = n) := by
    show _ = _
    rw [List.length_map, hl]
  have HG : Hid (∀ k, k < n → (l.map fun v => (⟨v, 1⟩ : U)).getD k U.zero = ⟨l.getD k V.zero, 1⟩) := fun k hk => by
    have hk' : k < l.length := by omega
    simp [hk']
  generalize (l.map fun v => (⟨v, 1⟩ : U)) = m at HJ HLM HG
  clear h hl hss
  go_enter Try.func13, Try.ntmps13
  go_wp2_with (at_make; refine make_law Try.elemRunL rfl _ _ rfl .i64 .i64 _ _ n rfl rfl rfl rfl (by omega) (by unfold maxLen; omega) ?_)
  intro w1 hown1 hb1
  have hown0 : Own 36 4 w.heap.size w1.heap.size w1 (.slice (some ⟨w.heap.size, 0, none⟩) n n) n (rus (halfU m 0)) := by
    have e : rus (halfU m 0) = (madeCells U.zero.cs.toArray (n * 4)).toList := by
      rw [made_flat U.cs U.zero 4 n (by omega) (fun _ => rfl), ← HLM.out]
      simp [halfU, rus]
    rw [e]
    exact hown1
  clear hown1
  go_wp2
  go_loopw [11] (fun i wr => ∃ k : Nat, k ≤ n ∧ i = .int .i64 k ∧ Own 36 4 w.heap.size wr.heap.size wr (.slice (some ⟨w.heap.size, 0, none⟩) n n) n (rus (halfU m k)) ∧ Below w.heap.size w wr) (fun i _ => n - (intOf i).toNat)
  case atStart => exact ⟨0, Nat.zero_le _, rfl, hown0, hb1⟩
  case round =>
    obtain ⟨k, hk, rfl, hown, hbr⟩ := hrel
    by_cases hlt : k < n
    · obtain ⟨b, off, rfl, p0, p1, p2⟩ := HC.out k hlt
      replace p0 := (hbr.cell (p := ⟨b, off + k * 3, none⟩) (lt_of_cell p0)).trans p0
      replace p1 := (hbr.cell (p := ⟨b, off + k * 3 + 1, none⟩) (lt_of_cell p1)).trans p1
      replace p2 := (hbr.cell (p := ⟨b, off + k * 3 + 2, none⟩) (lt_of_cell p2)).trans p2
      have HST := Lib.hid (halfU_set (l := m) (k := k) (by rw [HLM.out]; exact hlt))
      have HHL := Lib.hid (halfU_len (l := m) (k := k) (by rw [HLM.out]; omega))
      rw [HG.out k hlt] at HST
      generalize l.getD k V.zero = x at p0 p1 p2 HST
      obtain ⟨t1, n1, s1⟩ := x
      simp only at p0 p1 p2
      have ba := below_alloc wr (.cells #[.int .i64 t1, .int .i64 n1, .string s1] 34)
      have bt := below_then hbr ba hbr.size
      have O1 := hown.alloc (.cells #[.int .i64 t1, .int .i64 n1, .string s1] 34)
      have r2 := O1.row
      have R := Lib.hid (stored4 r2 k ⟨⟨t1, n1, s1⟩, 1⟩ (by rw [HHL.out, HLM.out]; exact hlt))
      rw [HST.out] at R
      obtain ⟨x0, s0⟩ := cellAt_some r2 (k * 4) (by omega)
      obtain ⟨x1, s1'⟩ := cellAt_some r2 (k * 4 + 1) (by omega)
      obtain ⟨x2, s2⟩ := cellAt_some r2 (k * 4 + 2) (by omega)
      obtain ⟨x3, s3⟩ := cellAt_some r2 (k * 4 + 3) (by omega)
      have f0 := r2.frozenAt (k * 4)
      have f1 := r2.frozenAt (k * 4 + 1)
      have f2 := r2.frozenAt (k * 4 + 2)
      have f3 := r2.frozenAt (k * 4 + 3)
      simp only at R
      clear hown hbr O1 r2 ba
      go_wp2
      go_roundw
      case rel => exact ⟨k + 1, by omega, by go_num, ⟨_, _, rfl, Nat.le_refl _, (R.out.1.lt _ rfl).2, R.out.1⟩, bt.trans ⟨R.out.2.os, R.out.2.tape, R.out.2.output, R.out.2.size, fun j hj => R.out.2.block j (by have := bt.size; omega) (by simp; omega)⟩⟩
      case measure => simp [intOf]; omega
    · obtain rfl : k = n := by omega
      rw [← HLM.out, halfU_all, HLM.out] at hown
      have HJ2 := Lib.hid (HJ.out _ wr w.heap.size hown)
      go_wp2_with fail
      refine HJ2.out.mono ?_
      rintro e w2 ⟨v2, rfl, o2, b2⟩
      have O2 := Lib.hid o2
      have B2 := hbr.trans b2
      clear o2
      obtain ⟨g2, c2, rfl⟩ : ∃ g c, v2 = .slice (some ⟨g, 0, none⟩) (runsL l).length c := by
        obtain ⟨g, c, e, _⟩ := O2.out
        exact ⟨g, c, e⟩
      go_wp2
      go_ret
      exact ⟨_, rfl, O2.out, B2⟩

set_option maxHeartbeats 1000000 in
theorem iLongestRun : CLongestRun := by
  intro u l w hn hss h
  have HR := Lib.hid (iRuns u l w hn hss h)
  have HE : Hid (longL l = longK (runsL l)) := rfl
  have hrl : (runsL l).length ≤ 1048576 := Nat.le_trans (runsL_len l) hn
  obtain ⟨a, cap, rfl, _, _⟩ := h
  generalize runsL l = r at HR HE hrl
  rw [HE.out]
  clear HE hss
  generalize l.length = n at *
  go_enter Try.func17, Try.ntmps17
  go_wp2_with fail
  refine HR.out.mono ?_
  rintro e w1 ⟨v1, rfl, o1, b1⟩
  generalize hm : r.length = m at o1 hrl
  obtain ⟨a1, c1, rfl, _, HC⟩ := o1.rd.runs hm
  have HM := Lib.hid hm
  have HT : Hid (∀ k, k < m → longK (r.take (k + 1)) = if longK (r.take k) < (r.getD k U.zero).k then (r.getD k U.zero).k else longK (r.take k)) := fun k hk => by
    have hk' : k < r.length := by omega
    have e : r.getD k U.zero = r[k] := by simp [hk']
    rw [e, List.take_succ_eq_append_getElem hk', longK_snoc]
  clear hm HR o1
  go_wp2
  go_loopw [3, 9] (fun c i wr => ∃ k : Nat, k ≤ m ∧ i = .int .i64 k ∧ c = .int .i64 (longK (r.take k)) ∧ Below w1.heap.size w1 wr) (fun _ i _ => m - (intOf i).toNat)
  case atStart => exact ⟨0, Nat.zero_le _, rfl, rfl, Below.refl _ _⟩
  case round =>
    obtain ⟨k, hk, rfl, rfl, hbr⟩ := hrel
    by_cases hlt : k < m
    · obtain ⟨b, off, rfl, c0, c1, c2, c3⟩ := HC.out k hlt wr hbr
      have HTK := Lib.hid (HT.out k hlt)
      generalize r.getD k U.zero = x at c0 c1 c2 c3 HTK
      obtain ⟨⟨t1, n1, s1⟩, q⟩ := x
      simp only at c0 c1 c2 c3 HTK
      generalize longK (r.take k) = z at HTK
      by_cases hzq : z < q
      · rw [if_pos hzq] at HTK
        have hb1 := hbr.alloc hbr.size (.cells #[.int .i64 t1, .int .i64 n1, .string s1, .int .i64 q] 36)
        go_wp2
        go_roundw
        case rel => exact ⟨k + 1, by omega, by go_num, by rw [HTK.out], hb1⟩
        case measure => simp [intOf]; omega
      · rw [if_neg hzq] at HTK
        have hb1 := hbr.alloc hbr.size (.cells #[.int .i64 t1, .int .i64 n1, .string s1, .int .i64 q] 36)
        go_wp2
        go_roundw
        case rel => exact ⟨k + 1, by omega, by go_num, by rw [HTK.out], hb1⟩
        case measure => simp [intOf]; omega
    · obtain rfl : k = m := by omega
      rw [← HM.out, List.take_length, HM.out]
      go_wp2
      go_ret
      exact ⟨rfl, below_then b1 hbr b1.size⟩

end Go.Proofs.Ytcnackecchjckaa

/- The contract of impl's EncRuns. -/
namespace Go.Proofs.Ytcnackecchjckaa
open Go.RowKit Go.Lib

theorem putNum_puts {zs : List Int} {x : Int} (h : Num.ok x) : Num.put zs x = Num.puts zs [x] := by
  rw [Num.puts_one, Num.put_ok h]

set_option maxHeartbeats 2000000 in
theorem iEncRuns : CEncRuns := by
  intro u l w hn hss h
  have hown0 := own_lit (e := 5) (size := 1) w #[] 0 (Nat.zero_le _) rfl
  have hb0 := below_alloc w (.cells #[] 5)
  have HT := Lib.hid (iTypeOf u l _ hn hss (h.below hb0))
  have HR := Lib.hid (fun W (hW : Below w.heap.size w W) => iRuns u l W hn hss (h.below hW))
  have HE : Hid (encR l = if typeV l = 0 then [] else encU (Num.put [] (runsL l).length) (runsL l)) := rfl
  have HRL := Lib.hid (runsL_len l)
  have HRK := Lib.hid (runsL_k l)
  have HTL : Hid (¬ typeV l = 0 → l.length ≤ 64) := typeV_len
  have HROK : Hid (¬ typeV l = 0 → ∀ u ∈ runsL l, okV u.v = true) := fun h => runsL_all (p := fun v => okV v = true) (fun v hv => by
    obtain ⟨k, hk, rfl⟩ := List.getElem_of_mem hv
    have := typeV_ok h hk
    have e : l.getD k V.zero = l[k] := by simp [hk]
    rw [e] at this
    exact this)
  obtain ⟨a, cap, rfl, _, _⟩ := h
  generalize typeV l = ty at HT HE HTL HROK
  generalize runsL l = r at HR HE HRL HRK HROK
  clear hss
  generalize hln : l.length = n at *
  go_enter Try.func14, Try.ntmps14
  go_wp2_with fail
  refine HT.out.mono ?_
  rintro e w1 ⟨rfl, b1⟩
  have B1 := below_then hb0 b1 hb0.size
  have O1 := (hown0.below b1 (Nat.le_refl _)).wide b1.size
  clear b1 hb0 hown0 HT
  by_cases ht : ty = 0
  · subst ht
    rw [if_pos rfl] at HE
    go_wp2
    go_ret
    rw [HE.out]
    exact ⟨_, rfl, O1, B1⟩
  · have htb : (ty == 0) = false := by simpa using ht
    have h64 := HTL.out ht
    have hrl := HRL.out
    have HROK2 := Lib.hid (HROK.out ht)
    rw [if_neg ht] at HE
    go_wp2_with fail
    refine (HR.out _ B1).mono ?_
    rintro e w2 ⟨v2, rfl, o2, b2⟩
    have B2 := below_then B1 b2 B1.size
    have O2 := (O1.below b2 (Nat.le_refl _)).wide b2.size
    clear HR b2 O1 B1
    generalize hm : r.length = m at o2 hrl HE
    obtain ⟨g2, c2, rfl, _, _, _⟩ : ∃ g c, v2 = .slice (some ⟨g, 0, none⟩) m c ∧ True ∧ True ∧ True := by
      obtain ⟨g, c, e, _⟩ := o2
      exact ⟨g, c, e, trivial, trivial, trivial⟩
    have HM := Lib.hid hm
    have HS : Hid (∀ k, k < m → encU (Num.put [] (m : Int)) (r.take (k + 1)) = putV (Num.put (encU (Num.put [] (m : Int)) (r.take k)) (r.getD k U.zero).k) (r.getD k U.zero).v) := fun k hk => by
      have hk' : k < r.length := by omega
      have e : r.getD k U.zero = r[k] := by simp [hk']
      rw [e, List.take_succ_eq_append_getElem hk', encU_snoc]
    have HSS : Hid (∀ k, k < m → okV (r.getD k U.zero).v = true ∧ 1 ≤ (r.getD k U.zero).k ∧ (r.getD k U.zero).k ≤ 64) := fun k hk => by
      have hk' : k < r.length := by omega
      have e : r.getD k U.zero = r[k] := by simp [hk']
      rw [e]
      have h1 := HRK.out _ (List.getElem_mem hk')
      exact ⟨HROK2.out _ (List.getElem_mem hk'), by omega, by omega⟩
    have HEL : Hid (∀ k, k ≤ m → (encU (Num.put [] (m : Int)) (r.take k)).length ≤ 5 + 12 * k) := fun k hk => by
      have h1 := encU_len (Num.put [] (m : Int)) (r.take k)
      have h2 := (Num.put_len [] (m : Int)).2
      have e : (r.take k).length = k := by simp; omega
      rw [e] at h1
      simp only [List.length_nil] at h2
      omega
    have HZ : Hid (encU (Num.put [] (m : Int)) (r.take 0) = Num.puts [] [(m : Int)]) := by
      show Num.put [] (m : Int) = _
      exact putNum_puts (by unfold Num.ok; omega)
    clear hm HRK HROK HROK2
    have hl : At 1 (w2.alloc (.cells #[.int .i64 (m : Int)] 3)) (.slice (some ⟨w2.heap.size, 0, none⟩) 1 1) 1 (ints .i64 [(m : Int)]) := (own_lit w2 #[.int .i64 (m : Int)] 1 (by unfold maxLen; omega) rfl).at
    have HA := Lib.hid (appendNums _ _ _ _ 0 1 [] [(m : Int)] _ rfl rfl (by omega) (by omega) (O2.alloc (.cells #[.int .i64 (m : Int)] 3)) hl (fun _ => own_ne O2 (Nat.le_refl _)))
    have o2' := (o2.alloc (.cells #[.int .i64 (m : Int)] 3))
    have NE2 := O2.blocks_ne o2 (by decide)
    go_wp2_with fail
    refine HA.out.mono ?_
    rintro e w3 ⟨v3, rfl, o3, e3⟩
    rw [← HZ.out] at o3
    have B3 : Below w.heap.size w w3 := (B2.alloc O2.lo _).trans (e3.below (O2.alloc _))
    have R3 := (o2'.other e3.grown NE2).wide (Nat.le_trans (by simp) e3.grown.size)
    clear HA hl o2 o2' NE2 e3 B2 O2
    go_wp2
    go_loopw [3, 21] (fun o i wr => ∃ k : Nat, k ≤ m ∧ i = .int .i64 k ∧ Own 5 1 w.heap.size wr.heap.size wr o (encU (Num.put [] (m : Int)) (r.take k)).length (ints .u8 (encU (Num.put [] (m : Int)) (r.take k))) ∧ Own 36 4 w1.heap.size wr.heap.size wr (.slice (some ⟨g2, 0, none⟩) m c2) m (rus r) ∧ Below w.heap.size w wr) (fun _ i _ => m - (intOf i).toNat)
    case atStart => exact ⟨0, Nat.zero_le _, rfl, o3, R3, B3⟩
    case round =>
      obtain ⟨k, hk, rfl, hown, hrr, hbr⟩ := hrel
      by_cases hlt : k < m
      · obtain ⟨b', off', cp', e', _, _, _, hcs⟩ := hrr.at
        simp only [Value.slice.injEq, Option.some.injEq, Addr.mk.injEq, and_true, true_and] at e'
        obtain ⟨⟨rfl, rfl⟩, rfl⟩ := e'
        have hkr : k < r.length := by rw [HM.out]; exact hlt
        obtain ⟨q0, q1, q2, q3⟩ := cells4 hcs hkr
        have hgd : r.getD k U.zero = r[k] := by simp [hkr]
        rw [← hgd] at q0 q1 q2 q3
        simp only [Nat.zero_add] at q0 q1 q2 q3
        have HSK := Lib.hid (HS.out k hlt)
        have hel := HEL.out k hk
        have hss := HSS.out k hlt
        clear hgd hkr hcs
        generalize r.getD k U.zero = x at q0 q1 q2 q3 HSK hss
        have ba := below_alloc wr (.cells #[.int .i64 x.v.ty, .int .i64 x.v.n, .string x.v.s, .int .i64 x.k] 36)
        have F0 := four_new wr x 36
        have NE := hown.blocks_ne hrr (by decide)
        obtain ⟨hok, hx1, hx2⟩ := hss
        generalize encU (Num.put [] (m : Int)) (r.take k) = zs at hown hel HSK
        have hpp : Hid (Num.put zs x.k = Num.puts zs [x.k]) := putNum_puts (by unfold Num.ok; omega)
        have hpl := (Num.put_len zs x.k).2
        have HPV := Lib.hid (fun v hi W (h : Own 5 1 w.heap.size hi W v (Num.put zs x.k).length (ints .u8 (Num.put zs x.k))) => appendValG v w.heap.size hi (Num.put zs x.k).length (Num.put zs x.k) x.v W (by omega) rfl hok h)
        rw [← HSK.out] at HPV
        obtain ⟨g, cp, rfl, hg1, hg2, hrow⟩ := hown
        have hown : Own 5 1 w.heap.size wr.heap.size wr (.slice (some ⟨g, 0, none⟩) zs.length cp) zs.length (ints .u8 zs) := ⟨g, cp, rfl, hg1, hg2, hrow⟩
        have HG2 := Lib.hid hg2
        clear hg1 hg2 hrow hok
        obtain ⟨⟨t1, n1, s1⟩, q⟩ := x
        simp only at q0 q1 q2 q3 HPV ba F0 hx1 hx2 hpp hpl
        have hszb : (wr.alloc (.cells #[.int .i64 t1, .int .i64 n1, .string s1, .int .i64 q] 36)).heap.size = wr.heap.size + 1 := World.size_alloc _ _
        have O1 := hown.alloc (.cells #[.int .i64 t1, .int .i64 n1, .string s1, .int .i64 q] 36)
        have rr1 := hrr.alloc (.cells #[.int .i64 t1, .int .i64 n1, .string s1, .int .i64 q] 36)
        have bt := hbr.alloc hbr.size (.cells #[.int .i64 t1, .int .i64 n1, .string s1, .int .i64 q] 36)
        generalize hwb : wr.alloc (.cells #[.int .i64 t1, .int .i64 n1, .string s1, .int .i64 q] 36) = wb at ba F0 hszb O1 rr1 bt
        have HWB := Lib.hid hwb
        have HSB := Lib.hid hszb
        have HF0 := Lib.hid F0
        have hl : At 1 (wb.drew.alloc (.cells #[.int .i64 q] 3)) (.slice (some ⟨wb.heap.size, 0, none⟩) 1 1) 1 (ints .i64 [q]) := (own_lit wb.drew #[.int .i64 q] 1 (by unfold maxLen; omega) rfl).at
        have HA := Lib.hid (appendNums _ _ _ _ zs.length 1 zs [q] _ rfl rfl (by omega) (by omega) (O1.drew.alloc (.cells #[.int .i64 q] 3)) hl (fun _ => own_ne O1 (by omega)))
        rw [← hpp.out] at HA
        clear hwb hszb hl hown hrr hel hpl hpp
        generalize zs.length = c at *
        go_wp2_with fail
        rw [HWB.out]
        refine wp_region_held_drew (S := fun W => Four W wr.heap.size ⟨⟨t1, n1, s1⟩, q⟩) (by kernel_rfl) F0 (fun hHeld => ?_)
        refine takeH (i := 0) (d := some 25) (v := .slice (some ⟨g, 0, none⟩) c cp) rfl rfl (by kernel_rfl) (by kernel_rfl) (by kernel_rfl) (fun _ _ _ h => h) (Or.inl ⟨by rfl, fun W hSw => by obtain ⟨⟨d0, d1, d2, d3⟩, _⟩ := hSw; go_simp⟩) hHeld ?_
        simp only [put_some, List.set_cons_zero, List.set_cons_succ]
        refine takeH (i := 1) (d := some 26) (v := .pointer (some ⟨wr.heap.size, 3, none⟩)) rfl rfl (by kernel_rfl) (by kernel_rfl) (by kernel_rfl) (fun _ _ _ h => h) (Or.inl ⟨by rfl, fun W hSw => by obtain ⟨⟨d0, d1, d2, d3⟩, _⟩ := hSw; go_simp⟩) hHeld ?_
        simp only [put_some, List.set_cons_zero, List.set_cons_succ]
        refine takeH (i := 2) (d := some 27) (v := .int .i64 q) rfl rfl (by kernel_rfl) (by kernel_rfl) (by kernel_rfl) (fun _ _ _ h => h) (Or.inl ⟨by rfl, fun W hSw => by obtain ⟨⟨d0, d1, d2, d3⟩, _⟩ := hSw; go_simp⟩) hHeld ?_
        simp only [put_some, List.set_cons_zero, List.set_cons_succ]
        refine takeH (i := 5) (d := some 30) (v := .pointer (some ⟨wr.heap.size, 0, none⟩)) rfl rfl (by kernel_rfl) (by kernel_rfl) (by kernel_rfl) (fun _ _ _ h => h) (Or.inl ⟨by rfl, fun W hSw => by obtain ⟨⟨d0, d1, d2, d3⟩, _⟩ := hSw; go_simp⟩) hHeld ?_
        simp only [put_some, List.set_cons_zero, List.set_cons_succ]
        refine takeH (i := 6) (d := some 31) (v := .agg #[.int .i64 t1, .int .i64 n1, .string s1]) rfl rfl (by kernel_rfl) (by kernel_rfl) (by kernel_rfl) (fun _ _ _ h => h) (Or.inl ⟨by rfl, fun W hSw => by obtain ⟨⟨d0, d1, d2, d3⟩, _⟩ := hSw; go_simp⟩) hHeld ?_
        simp only [put_some, List.set_cons_zero, List.set_cons_succ]
        refine wpAnyH_ready (rs := [3]) (by kernel_rfl) (by simp) ?_
        refine AllReadyH.cons rfl (fun K hK => ?_) AllReadyH.nil
        go_simp
        refine hK.out _ _ (hHeld.below (below_alloc wb.drew _)) (fun hHeld => ?_)
        clear hK K
        refine wpAnyH_ready (rs := [4]) (by kernel_rfl) (by simp) ?_
        refine AllReadyH.cons rfl (fun K hK => ?_) AllReadyH.nil
        go_simp
        refine HA.out.mono ?_
        rintro e w4 ⟨v4, rfl, o4, e4⟩
        have hb4 : Below w.heap.size w w4 := ((bt.trans (below_drewN wb w.heap.size 1)).alloc O1.drew.lo _).trans (e4.below (O1.drew.alloc _))
        have E4 : Ext wb.drew w4 (.slice (some ⟨g, 0, none⟩) c cp) v4 := (Ext.alloc _ _).trans e4
        have hne4 : some wr.heap.size ≠ v4.ownBlock := fun hb => by
          rcases E4.blk with h1 | ⟨g', h1, h2⟩
          · rw [← hb] at h1
            have h3 : wr.heap.size = g := by simpa [Value.ownBlock] using h1
            have := HG2.out
            omega
          · rw [← hb] at h1
            obtain rfl : wr.heap.size = g' := by simpa using h1
            have h3 : wb.drew.heap.size = wb.heap.size := rfl
            have := HSB.out
            omega
        have f4 : Four w4 wr.heap.size ⟨⟨t1, n1, s1⟩, q⟩ := Four.ext (W := wb.drew) HF0.out E4 (by
          intro e
          have h3 : wr.heap.size = g := by simpa [Value.ownBlock] using e
          have := HG2.out
          omega)
        have rr4 := (rr1.drew.other E4.grown NE).wide (show wr.heap.size ≤ w4.heap.size by
          have h1 := E4.grown.size
          have h3 : wb.drew.heap.size = wb.heap.size := rfl
          have := HSB.out
          omega)
        have NE4 := o4.blocks_ne rr4 (by decide)
        refine hK.out _ _ f4 (fun hHeld => ?_)
        clear hK K e4 HA
        refine wpAnyH_ready (rs := [7]) (by kernel_rfl) (by simp) ?_
        refine AllReadyH.cons rfl (fun K hK => ?_) AllReadyH.nil
        go_simp
        refine (HPV.out v4 _ w4 o4).mono ?_
        rintro e w5 ⟨v5, rfl, o5, b5, g5⟩
        have hb5 := hb4.trans b5
        have f5 : Four w5 wr.heap.size ⟨⟨t1, n1, s1⟩, q⟩ := by
          have hb := g5.block wr.heap.size (lt_of_cell f4.1.1) hne4
          have hc : ∀ j, w5.cell? ⟨wr.heap.size, j, none⟩ = w4.cell? ⟨wr.heap.size, j, none⟩ := fun j => World.cell?_of_block hb
          have hf : ∀ j, w5.frozen? ⟨wr.heap.size, j, none⟩ = w4.frozen? ⟨wr.heap.size, j, none⟩ := fun j => World.frozen?_of_block hb
          exact ⟨⟨(hc 0).trans f4.1.1, (hc 1).trans f4.1.2.1, (hc 2).trans f4.1.2.2.1, (hc 3).trans f4.1.2.2.2⟩, (hf 0).trans f4.2.1, (hf 1).trans f4.2.2.1, (hf 2).trans f4.2.2.2.1, (hf 3).trans f4.2.2.2.2⟩
        have rr5 := Lib.hid ((rr4.other g5 NE4).wide g5.size)
        have O5 := Lib.hid o5
        obtain ⟨gg5, cp5, hv5⟩ : ∃ g c, v5 = .slice (some ⟨g, 0, none⟩) (encU (Num.put [] (m : Int)) (r.take (k + 1))).length c := by
          obtain ⟨g, c, e, _⟩ := o5
          exact ⟨g, c, e⟩
        refine hK.out _ _ f5 (fun hHeld => ?_)
        clear hK K rr4 o4 o5 NE4 b5 g5 hb4 E4 hne4 f4 f5 HPV rr1 NE
        subst hv5
        generalize hc5 : (encU (Num.put [] (m : Int)) (r.take (k + 1))).length = c5 at O5 ⊢
        have HC5 := Lib.hid hc5
        clear hc5
        refine takeH (i := 8) (d := some 3) (v := .slice (some ⟨gg5, 0, none⟩) c5 cp5) rfl rfl (by kernel_rfl) (by kernel_rfl) (by kernel_rfl) (fun _ _ _ h => h) (Or.inl ⟨by rfl, fun W hSw => by obtain ⟨⟨d0, d1, d2, d3⟩, _⟩ := hSw; go_simp⟩) hHeld ?_
        simp only [put_some, List.set_cons_zero, List.set_cons_succ]
        refine wpAnyH_done (by kernel_rfl) ?_ _
        go_wp2
        go_roundw
        case rel => exact ⟨k + 1, by omega, by go_num, by rw [HC5.out]; exact O5.out, rr5.out, hb5⟩
        case measure => simp [intOf]; omega
      · obtain rfl : k = m := by omega
        rw [← HM.out, List.take_length, HM.out, ← HE.out] at hown
        go_wp2
        go_ret
        exact ⟨_, rfl, hown, hbr⟩

end Go.Proofs.Ytcnackecchjckaa

/- The contracts of impl's getRuns, DecRuns. -/
namespace Go.Proofs.Ytcnackecchjckaa
open Go.RowKit Go.Lib

/-- The runs at the start of some bytes. -/
def getU (zs : List Int) (ty : Int) : Option (List U) :=
  if (Num.get zs 0).2.2 = true ∧ 0 ≤ (Num.get zs 0).1 ∧ (Num.get zs 0).1 ≤ 64 then decU zs ty (Num.get zs 0).1.toNat (Num.get zs 0).2.1 else none
def RUs (w w' : World) (e : Ending) (r : Option (List U)) : Prop :=
  (r = none → e = .returned (.tuple #[.slice none 0 0, .bool false])) ∧ (∀ l, r = some l → ∃ v', e = .returned (.tuple #[v', .bool true]) ∧ Own 36 4 w.heap.size w'.heap.size w' v' l.length (rus l)) ∧ Below w.heap.size w w'
theorem rus_none {w w' : World} (h : Below w.heap.size w w') : RUs w w' (.returned (.tuple #[.slice none 0 0, .bool false])) none := ⟨fun _ => rfl, fun _ h' => (by cases h'), h⟩
def fillU (pre : List U) (n : Nat) : List U := pre ++ List.replicate (n - pre.length) U.zero
theorem fillU_len {pre : List U} {n : Nat} (h : pre.length ≤ n) : (fillU pre n).length = n := by simp [fillU]; omega
theorem fillU_set {pre : List U} {n : Nat} (x : U) (h : pre.length < n) : (fillU pre n).set pre.length x = fillU (pre ++ [x]) n := by
  unfold fillU
  rw [List.set_append_right _ _ (Nat.le_refl _), Nat.sub_self, show n - pre.length = (n - (pre ++ [x]).length) + 1 by simp; omega, List.replicate_succ, List.set_cons_zero]
  simp
theorem fillU_full {pre : List U} {n : Nat} (h : pre.length = n) : fillU pre n = pre := by simp [fillU, h]

theorem set_same {α : Type} {l : List α} {i : Nat} {x : α} (h : l[i]? = some x) : l.set i x = l := by
  apply List.ext_getElem?
  intro j
  rw [List.getElem?_set]
  split
  · rename_i e
    subst e
    rw [h]
    split
    · rfl
    · rename_i hl
      rw [List.getElem?_eq_none (by omega)] at h
      cases h
  · rfl
theorem rus_setV (l : List U) (k : Nat) (x : U) (hk : k < l.length) (hx : (l.getD k U.zero).k = x.k) : rus (l.set k x) = (((rus l).set (k * 4) (.int .i64 x.v.ty)).set (k * 4 + 1) (.int .i64 x.v.n)).set (k * 4 + 2) (.string x.v.s) := by
  rw [rus_set l k x hk]
  apply set_same
  have h1 := rus_get (j := 3) hk (by omega)
  have e : l.getD k U.zero = l[k] := by simp [hk]
  rw [e] at hx
  rw [List.getElem?_set_ne (by omega), List.getElem?_set_ne (by omega), List.getElem?_set_ne (by omega), h1]
  simp [U.cs, hx]
/-- The first three cells of Run k of an owned slice, stored anew. -/
theorem stored43 {w : World} {lo : Nat} {e : TypeId} {g n cap : Nat} {l : List U} (h : w.ownsRow lo e 4 (.slice (some ⟨g, 0, none⟩) n cap) n (rus l)) (k : Nat) (x : U) (hk : k < l.length) (hx : (l.getD k U.zero).k = x.k) :
    (((w.setCell ⟨g, k * 4, none⟩ (.int .i64 x.v.ty)).setCell ⟨g, k * 4 + 1, none⟩ (.int .i64 x.v.n)).setCell ⟨g, k * 4 + 2, none⟩ (.string x.v.s)).ownsRow lo e 4 (.slice (some ⟨g, 0, none⟩) n cap) n (rus (l.set k x)) ∧
      w.grownBy (((w.setCell ⟨g, k * 4, none⟩ (.int .i64 x.v.ty)).setCell ⟨g, k * 4 + 1, none⟩ (.int .i64 x.v.n)).setCell ⟨g, k * 4 + 2, none⟩ (.string x.v.s)) (some g) := by
  have s1 := h.stored (k * 4) (.int .i64 x.v.ty)
  have s2 := s1.1.stored (k * 4 + 1) (.int .i64 x.v.n)
  have s3 := s2.1.stored (k * 4 + 2) (.string x.v.s)
  rw [rus_setV l k x hk hx]
  exact ⟨s3.1, (s1.2.trans s2.2).trans s3.2⟩
theorem fillU_setK {pre : List U} {n : Nat} (h : pre.length < n) (m : Int) (x : U) (hx : x.k = m) : ((fillU pre n).set pre.length ⟨((fillU pre n).getD pre.length U.zero).v, m⟩).set pre.length x = fillU (pre ++ [x]) n ∧ (((fillU pre n).set pre.length ⟨((fillU pre n).getD pre.length U.zero).v, m⟩).getD pre.length U.zero).k = x.k := by
  have hl : pre.length < (fillU pre n).length := by rw [fillU_len (by omega)]; exact h
  refine ⟨by rw [List.set_set, fillU_set x h], ?_⟩
  simp [hl, hx]

set_option maxHeartbeats 2000000 in
theorem getRuns (u : Value) (n : Nat) (zs : List Int) (ty : Int) (w : World) (hn : n ≤ 1048576) (hz : zs.length = n) (hby : Num.Bytes zs) (h : At 1 w u n (ints .u8 zs)) :
    Calls Try.prog 56 #[u, .int .i64 ty] w fun e w' => RUs w w' e (getU zs ty) := by
  have HG := Lib.hid (fun i W (hW : Below w.heap.size w W) => iGetNum u n zs i W (by omega) hz hby (h.below hW))
  have HV := Lib.hid (fun i W (hW : Below w.heap.size w W) => iGetVal u n zs i ty W hn hz hby (h.below hW))
  have HE : Hid (getU zs ty = if (Num.get zs 0).2.2 = true ∧ 0 ≤ (Num.get zs 0).1 ∧ (Num.get zs 0).1 ≤ 64 then decU zs ty (Num.get zs 0).1.toNat (Num.get zs 0).2.1 else none) := rfl
  have HD : Hid (∀ m i, decU zs ty (m + 1) i = if (Num.get zs i).2.2 = true ∧ (getV zs (Num.get zs i).2.1 ty).2.2 = true then (decU zs ty m (getV zs (Num.get zs i).2.1 ty).2.1).map fun r => ⟨(getV zs (Num.get zs i).2.1 ty).1, (Num.get zs i).1⟩ :: r else none) := fun m i => rfl
  have HG0 := Lib.hid (HG.out 0 w (Below.refl _ _))
  generalize getU zs ty = X at HE
  obtain ⟨b, off, cap, rfl, _, _, _, _⟩ := h
  clear hz hby
  generalize hg : Num.get zs 0 = r0 at HE HG0
  obtain ⟨c, at0, ok⟩ := r0
  simp only [getRes] at HE HG0
  clear hg
  have HX : Hid (X = none → ∀ w', Below w.heap.size w w' → RUs w w' (.returned (.tuple #[.slice none 0 0, .bool false])) X) := fun h w' hw => by
    rw [h]
    exact rus_none hw
  cases ok with
  | false =>
    have HN := Lib.hid (HX.out (HE.out.trans (if_neg (by simp))))
    clear HX HE HD HV HG
    go_enter Try.func56, Try.ntmps56
    go_wp2_with fail
    refine HG0.out.mono ?_
    rintro e w1 ⟨rfl, rfl⟩
    go_wp2
    go_ret2
    exact HN.out _ (Below.refl _ _)
  | true =>
    by_cases h0 : c < 0
    · have HN := Lib.hid (HX.out (HE.out.trans (if_neg (by omega))))
      clear HX HE HD HV HG
      go_enter Try.func56, Try.ntmps56
      go_wp2_with fail
      refine HG0.out.mono ?_
      rintro e w1 ⟨rfl, rfl⟩
      go_wp2
      go_ret2
      exact HN.out _ (Below.refl _ _)
    · by_cases h1 : 64 < c
      · have HN := Lib.hid (HX.out (HE.out.trans (if_neg (by omega))))
        clear HX HE HD HV HG
        go_enter Try.func56, Try.ntmps56
        go_wp2_with fail
        refine HG0.out.mono ?_
        rintro e w1 ⟨rfl, rfl⟩
        go_wp2
        go_ret2
        exact HN.out _ (Below.refl _ _)
      · obtain ⟨C, rfl⟩ := Int.eq_ofNat_of_zero_le (show 0 ≤ c by omega)
        rw [if_pos ⟨rfl, by omega, by omega⟩, Int.toNat_natCast] at HE
        go_enter Try.func56, Try.ntmps56
        go_wp2_with fail
        refine HG0.out.mono ?_
        rintro e w1 ⟨rfl, rfl⟩
        clear HG0
        go_wp2_with (at_make; refine make_law Try.elemRuns rfl _ _ rfl .i64 .i64 _ _ C rfl rfl rfl rfl (by omega) (by unfold maxLen; omega) ?_)
        intro w1 hown1 hb1
        have hown0 : Own 36 4 w.heap.size w1.heap.size w1 (.slice (some ⟨w.heap.size, 0, none⟩) C C) C (rus (fillU [] C)) := by
          have e : rus (fillU [] C) = (madeCells U.zero.cs.toArray (C * 4)).toList := by
            rw [made_flat U.cs U.zero 4 C (by omega) (fun _ => rfl)]
            simp [fillU, rus]
          rw [e]
          exact hown1
        clear hown1
        go_wp2
        go_loopw [7, 31] (fun p i wr => ∃ (j : Nat) (q : Int) (pre : List U), j ≤ C ∧ i = .int .i64 j ∧ p = .int .i64 q ∧ pre.length = j ∧ X = (decU zs ty (C - j) q).map (fun r => pre ++ r) ∧ Own 36 4 w.heap.size wr.heap.size wr (.slice (some ⟨w.heap.size, 0, none⟩) C C) C (rus (fillU pre C)) ∧ Below w.heap.size w wr) (fun _ i _ => C - (intOf i).toNat)
        case atStart => exact ⟨0, at0, [], Nat.zero_le _, rfl, rfl, rfl, by rw [HE.out]; simp, hown0, hb1⟩
        case round =>
          obtain ⟨j, q, pre, hj, rfl, rfl, hpl, hX, hown, hbr⟩ := hrel
          by_cases hlt : j < C
          · have HGj := Lib.hid (HG.out q wr hbr)
            have HXj : Hid (X = (decU zs ty (C - (j + 1) + 1) q).map (fun r => pre ++ r)) := by
              show _ = _
              rw [hX, show C - (j + 1) + 1 = C - j by omega]
            rw [HD.out] at HXj
            have HVj := Lib.hid (fun W hW => HV.out (Num.get zs q).2.1 W hW)
            generalize hr1 : Num.get zs q = r1 at HGj HXj HVj
            obtain ⟨m, nx, is⟩ := r1
            simp only [getRes] at HGj HXj HVj
            have HSETK := Lib.hid (fillU_setK (pre := pre) (n := C) (by omega) m)
            have hfl : pre.length < (fillU pre C).length := by rw [fillU_len (by omega)]; omega
            rw [hpl] at HSETK hfl
            have HPL := Lib.hid hpl
            have r1 := hown.row
            obtain ⟨x3, s3⟩ := cellAt_some r1 (j * 4 + 3) (by omega)
            have f3 := r1.frozenAt (j * 4 + 3)
            have R1 := r1.stored (j * 4 + 3) (.int .i64 m)
            rw [← rus_setK _ j m hfl] at R1
            generalize hL1 : (fillU pre C).set j ⟨((fillU pre C).getD j U.zero).v, m⟩ = L1 at R1 HSETK
            have HLL : Hid (j < L1.length) := by
              show _ < _
              rw [← hL1, List.length_set]
              exact hfl
            have HB1 := Lib.hid (hbr.trans (B := w.heap.size) ⟨R1.2.os, R1.2.tape, R1.2.output, R1.2.size, fun i hi => R1.2.block i (by have := hbr.size; omega) (by simp; omega)⟩)
            have HR1 := Lib.hid R1.1
            clear hr1 hX hfl hpl r1 R1 hL1 hown
            cases is with
            | false =>
              have HN := Lib.hid (HX.out (HXj.out.trans (by rw [if_neg (by simp)]; rfl)))
              clear HSETK HVj HXj
              go_wp2_with fail
              refine HGj.out.mono ?_
              rintro e w2 ⟨rfl, rfl⟩
              clear HGj
              go_wp2
              go_ret2
              exact HN.out _ HB1.out
            | true =>
              generalize hwk : wr.setCell ⟨w.heap.size, j * 4 + 3, none⟩ (.int .i64 m) = wk at HB1 HR1
              have HWK := Lib.hid hwk
              have HV2 := Lib.hid (HVj.out wk HB1.out)
              generalize hr2 : getV zs nx ty = r2 at HXj HV2
              obtain ⟨⟨t2, n2, s2⟩, to, may⟩ := r2
              simp only [rGet] at HXj HV2
              clear hr2 hwk HVj
              go_wp2_with fail
              refine HGj.out.mono ?_
              rintro e w2 ⟨rfl, rfl⟩
              clear HGj
              go_wp2_with fail
              rw [HWK.out]
              refine HV2.out.mono ?_
              rintro e w3 ⟨rfl, hb3⟩
              have O3 := (own_of_row HR1.out (Nat.le_refl _)).below hb3 (Nat.le_refl _)
              have r3 := O3.row
              have HB3 := Lib.hid (below_then HB1.out hb3 HB1.out.size)
              have HSK2 := Lib.hid (HSETK.out ⟨⟨t2, n2, s2⟩, m⟩ rfl)
              have R := Lib.hid (stored43 r3 j ⟨⟨t2, n2, s2⟩, m⟩ HLL.out HSK2.out.2)
              rw [HSK2.out.1] at R
              obtain ⟨y0, z0⟩ := cellAt_some r3 (j * 4) (by omega)
              obtain ⟨y1, z1⟩ := cellAt_some r3 (j * 4 + 1) (by omega)
              obtain ⟨y2, z2⟩ := cellAt_some r3 (j * 4 + 2) (by omega)
              have f0 := r3.frozenAt (j * 4)
              have f1 := r3.frozenAt (j * 4 + 1)
              have f2 := r3.frozenAt (j * 4 + 2)
              simp only at R
              have HB4 := Lib.hid (HB3.out.trans (B := w.heap.size) ⟨R.out.2.os, R.out.2.tape, R.out.2.output, R.out.2.size, fun i hi => R.out.2.block i (by have := HB3.out.size; omega) (by simp; omega)⟩)
              clear HV2 hb3 O3 r3 HSETK HSK2 HLL HR1 s3 f3
              cases may with
              | false =>
                have HN := Lib.hid (HX.out (HXj.out.trans (by rw [if_neg (by simp)]; rfl)))
                go_wp2
                go_ret2
                exact HN.out _ HB4.out
              | true =>
                rw [if_pos (by simp)] at HXj
                go_wp2
                go_roundw
                case rel => exact ⟨j + 1, to, pre ++ [⟨⟨t2, n2, s2⟩, m⟩], by omega, by go_num, rfl, by simp [HPL.out], by rw [HXj.out, Option.map_map]; congr 1; funext r; simp, ⟨_, _, rfl, Nat.le_refl _, (R.out.1.lt _ rfl).2, R.out.1⟩, HB4.out⟩
                case measure => simp [intOf]; omega
          · obtain rfl : j = C := by omega
            rw [fillU_full hpl] at hown
            have hX2 : X = some pre := by
              rw [hX, Nat.sub_self]
              simp [decU]
            have HX2 := Lib.hid hX2
            have HFIN : Hid (RUs w wr (.returned (.tuple #[.slice (some ⟨w.heap.size, 0, none⟩) j j, .bool true])) (some pre)) :=
              ⟨fun h => (by cases h), fun l hl => (by cases hl; exact ⟨_, rfl, by rw [hpl]; exact hown⟩), hbr⟩
            clear hX2 hX hpl HE HX
            go_wp2
            go_ret2
            rw [HX2.out]
            exact HFIN.out

theorem bytesEqual (u v : Value) (n m : Nat) (xs ys : List Int) (w : World) (hxl : xs.length = n) (hyl : ys.length = m) (hx : Num.Bytes xs) (hy : Num.Bytes ys) (h1 : At 1 w u n (ints .u8 xs)) (h2 : At 1 w v m (ints .u8 ys)) :
    Calls Try.prog 57 #[u, v] w fun e w' => e = .returned (.bool (decide (xs = ys))) ∧ w = w' := by
  have k1 := conv_at hxl h1
  have k2 := conv_at hyl h2
  have HX : Hid (((strOfNums xs).toList == (strOfNums ys).toList) = decide (xs = ys)) := by
    show _ = _
    by_cases he : xs = ys
    · subst he
      simp
    · rw [bstr_ne (fun h => he (strOfNums_inj hx hy h)), decide_eq_false he]
  obtain ⟨b1, o1, c1, rfl, _, _, _, _⟩ := h1
  obtain ⟨b2, o2, c2, rfl, _, _, _, _⟩ := h2
  generalize strOfNums xs = s1 at k1 HX
  generalize strOfNums ys = s2 at k2 HX
  generalize decide (xs = ys) = q at HX
  clear hx hy hxl hyl
  go_enter Try.func57, Try.ntmps57
  go_wp2
  go_ret
  exact ⟨ret_bool HX.out, rfl⟩

theorem decU_zero (zs : List Int) (ty i : Int) : decU zs ty 0 i = some [] := rfl
theorem decR_none {zs : List Int} {ty k : Int} (hk : Num.inB k 1 64 = false) : decR zs ty k = ([], false) := by
  unfold decR
  rw [if_neg (by rw [hk]; simp)]
theorem decR_get {zs : List Int} {ty k : Int} (hk : Num.inB k 1 64 = true) : decR zs ty k = match getU zs ty with
    | some r => if ((spreadL r).length : Int) = k ∧ encR (spreadL r) = zs then (spreadL r, true) else ([], false)
    | none => ([], false) := by
  unfold decR getU
  obtain ⟨k0, k1⟩ := Num.inB_true.1 hk
  by_cases hok : (Num.get zs 0).2.2 = true
  · by_cases h0 : 0 ≤ (Num.get zs 0).1 ∧ (Num.get zs 0).1 ≤ 64
    · by_cases h1 : (Num.get zs 0).1 = 0
      · have hz : Num.inB (Num.get zs 0).1 1 64 = false := by
          rw [h1]
          rfl
        rw [if_neg (by rw [hz]; simp), if_pos ⟨hok, h0.1, h0.2⟩, h1]
        have e : (spreadL ([] : List U)).length = 0 := rfl
        simp only [Int.toNat_zero, decU_zero, e]
        rw [if_neg (by omega)]
      · rw [if_pos ⟨hok, hk, Num.inB_true.2 ⟨by omega, h0.2⟩⟩, if_pos ⟨hok, h0.1, h0.2⟩]
        cases decU zs ty (Num.get zs 0).1.toNat (Num.get zs 0).2.1 <;> rfl
    · rw [if_neg, if_neg (fun h => h0 h.2)]
      rintro ⟨_, _, h2⟩
      have := Num.inB_true.1 h2
      omega
  · rw [if_neg (fun h => hok h.1), if_neg (fun h => hok h.1)]
theorem decU_sizes {zs : List Int} {ty : Int} : ∀ {n : Nat} {i : Int} {r : List U}, decU zs ty n i = some r → r.length = n ∧ ∀ u ∈ r, u.v.s.size ≤ maxLen
  | 0, i, r, h => by
    simp only [decU, Option.some.injEq] at h
    subst h
    exact ⟨rfl, fun _ h => by cases h⟩
  | n + 1, i, r, h => by
    rw [decU] at h
    split at h
    · cases hd : decU zs ty n (getV zs (Num.get zs i).2.1 ty).2.1 with
      | none => rw [hd] at h; cases h
      | some r' =>
        rw [hd] at h
        simp only [Option.map_some, Option.some.injEq] at h
        subst h
        have ih := decU_sizes hd
        refine ⟨by simp [ih.1], fun u hu => ?_⟩
        rcases List.mem_cons.1 hu with rfl | hu
        · exact getV_size _ _ _
        · exact ih.2 u hu
    · cases h

set_option maxHeartbeats 2000000 in
theorem iDecRuns : CDecRuns := by
  intro u n zs ty k w hn hz hby h
  cases hk : Num.inB k 1 64 with
  | false =>
    rw [decR_none hk]
    have OL := own_lit (e := 34) (size := 3) w #[] 0 (Nat.zero_le _) rfl
    have BL := below_alloc w (.cells #[] 34)
    have HFIN : Hid (RDs w (w.alloc (.cells #[] 34)) (.returned (.tuple #[.slice (some ⟨w.heap.size, 0, none⟩) 0 0, .bool false])) ([], false)) := ⟨_, rfl, OL, BL⟩
    obtain ⟨b, off, cap, rfl, _, _, _, _⟩ := h
    clear hz hby
    by_cases h1 : k < 1
    · clear hk
      go_enter Try.func24, Try.ntmps24
      go_wp2
      go_ret2
      exact HFIN.out
    · have h2 : 64 < k := by
        by_cases h2 : 64 < k
        · exact h2
        · exfalso
          rw [Num.inB_true.2 ⟨by omega, by omega⟩] at hk
          cases hk
      clear hk
      go_enter Try.func24, Try.ntmps24
      go_wp2
      go_ret2
      exact HFIN.out
  | true =>
    rw [decR_get hk]
    obtain ⟨k0, k1⟩ := Num.inB_true.1 hk
    have HG := Lib.hid (getRuns u n zs ty w hn hz hby h)
    have HSZ : Hid (∀ r, getU zs ty = some r → r.length ≤ 1048576 ∧ ∀ u ∈ r, u.v.s.size ≤ maxLen) := fun r hr => by
      unfold getU at hr
      split at hr
      · rename_i hc
        have := decU_sizes hr
        exact ⟨by omega, this.2⟩
      · cases hr
    generalize getU zs ty = G at HG HSZ
    cases G with
    | none =>
      have HFIN : Hid (∀ w1, Below w.heap.size w w1 → RDs w (w1.alloc (.cells #[] 34)) (.returned (.tuple #[.slice (some ⟨w1.heap.size, 0, none⟩) 0 0, .bool false])) ([], false)) := fun w1 b1 =>
        ⟨_, rfl, (own_lit (e := 34) (size := 3) w1 #[] 0 (Nat.zero_le _) rfl).lower b1.size, b1.alloc b1.size _⟩
      obtain ⟨b, off, cap, rfl, _, _, _, _⟩ := h
      clear hz hby hk HSZ
      go_enter Try.func24, Try.ntmps24
      go_wp2_with fail
      refine HG.out.mono ?_
      rintro e w1 ⟨h1, _, b1⟩
      obtain rfl := h1 rfl
      have HF1 := Lib.hid (HFIN.out w1 b1)
      clear h1 HG HFIN
      go_wp2
      go_ret2
      exact HF1.out
    | some r =>
      obtain ⟨hrl, hrs⟩ := HSZ.out r rfl
      have HFIN : Hid (∀ w1, Below w.heap.size w w1 → RDs w (w1.alloc (.cells #[] 34)) (.returned (.tuple #[.slice (some ⟨w1.heap.size, 0, none⟩) 0 0, .bool false])) ([], false)) := fun w1 b1 =>
        ⟨_, rfl, (own_lit (e := 34) (size := 3) w1 #[] 0 (Nat.zero_le _) rfl).lower b1.size, b1.alloc b1.size _⟩
      have HSL := Lib.hid (spreadL_len r)
      have HA := Lib.hid h
      have HZ := Lib.hid hz
      have HBY := Lib.hid hby
      have HRS := Lib.hid hrs
      obtain ⟨b, off, cap, rfl, _, _, _, _⟩ := h
      clear hz hby hk HSZ hrs
      simp only
      have HRES : Hid ((if ((spreadL r).length : Int) = k ∧ encR (spreadL r) = zs then (spreadL r, true) else (([] : List V), false)) = if ((spreadL r).length : Int) = k ∧ encR (spreadL r) = zs then (spreadL r, true) else (([] : List V), false)) := rfl
      generalize hrs : (if ((spreadL r).length : Int) = k ∧ encR (spreadL r) = zs then (spreadL r, true) else (([] : List V), false)) = res at HRES ⊢
      replace HRES := Lib.hid hrs.symm
      clear hrs
      go_enter Try.func24, Try.ntmps24
      go_wp2_with fail
      refine HG.out.mono ?_
      rintro e w1 ⟨_, h1, b1⟩
      obtain ⟨v1, rfl, o1⟩ := h1 r rfl
      have HSP := Lib.hid (iSpread v1 r w1 hrl HRS.out o1.rd)
      have B1 := Lib.hid b1
      obtain ⟨g1, c1, hv1⟩ : ∃ g c, v1 = .slice (some ⟨g, 0, none⟩) r.length c := by
        obtain ⟨g, c, e, _⟩ := o1
        exact ⟨g, c, e⟩
      subst hv1
      clear h1 HG o1
      generalize r.length = rl at *
      go_wp2_with fail
      refine HSP.out.mono ?_
      rintro e w2 ⟨v2, rfl, o2, b2⟩
      have B2 := below_then b1 b2 b1.size
      have O2 := Lib.hid (o2.lower b1.size)
      have hsl := HSL.out
      have HSV : Hid (∀ v ∈ spreadL r, v.s.size ≤ maxLen) := by
        exact spreadL_all HRS.out
      have HEN := Lib.hid (iEncRuns v2 (spreadL r) w2 (by omega) HSV.out o2.rd)
      generalize hsp : spreadL r = S at *
      have HSP2 := Lib.hid hsp
      generalize hsn : S.length = sn at *
      obtain ⟨g2, c2, hv2⟩ : ∃ g c, v2 = .slice (some ⟨g, 0, none⟩) sn c := by
        obtain ⟨g, c, e, _⟩ := o2
        exact ⟨g, c, e⟩
      subst hv2
      clear o2 b2 HSP
      by_cases hkk : (sn : Int) = k
      · subst hkk
        have hkb : ((sn : Int) != (sn : Int)) = false := by simp
        have HFALSE : Hid (¬ encR S = zs → (if (sn : Int) = sn ∧ encR S = zs then (S, true) else (([] : List V), false)) = ([], false)) := fun h => if_neg (fun h2 => h h2.2)
        have HTRUE : Hid (encR S = zs → (if (sn : Int) = sn ∧ encR S = zs then (S, true) else (([] : List V), false)) = (S, true)) := fun h => if_pos ⟨rfl, h⟩
        have HSN := Lib.hid hsn
        clear hsn hsp
        go_wp2_with fail
        refine HEN.out.mono ?_
        rintro e w3 ⟨v3, rfl, o3, b3⟩
        have B3 := Lib.hid (below_then B2 b3 B2.size)
        have O3 := Lib.hid ((O2.out.below b3 (Nat.le_refl _)).wide b3.size)
        have HQ := Lib.hid (bytesEqual v3 _ _ n (encR S) zs w3 rfl HZ.out (encR_bytes S) HBY.out o3.at (HA.out.below B3.out))
        obtain ⟨g3, c3, hv3⟩ : ∃ g c, v3 = .slice (some ⟨g, 0, none⟩) (encR S).length c := by
          obtain ⟨g, c, e, _⟩ := o3
          exact ⟨g, c, e⟩
        subst hv3
        clear o3 b3 HEN
        generalize (encR S).length = ec at *
        by_cases hes : encR S = zs
        · have HT := Lib.hid (HTRUE.out hes)
          rw [decide_eq_true hes] at HQ
          clear hes HTRUE HFALSE
          go_wp2_with fail
          refine HQ.out.mono ?_
          rintro e w4 ⟨rfl, rfl⟩
          go_wp2
          go_ret2
          rw [HRES.out, HT.out]
          exact ⟨_, rfl, by rw [HSN.out]; exact O3.out, B3.out⟩
        · have HT := Lib.hid (HFALSE.out hes)
          have HF1 := Lib.hid (HFIN.out w3 B3.out)
          rw [decide_eq_false hes] at HQ
          clear hes HTRUE HFALSE
          go_wp2_with fail
          refine HQ.out.mono ?_
          rintro e w4 ⟨rfl, rfl⟩
          go_wp2
          go_ret2
          rw [HRES.out, HT.out]
          exact HF1.out
      · have hkb : ((sn : Int) != k) = true := by simpa using hkk
        have HN : Hid ((if (sn : Int) = k ∧ encR S = zs then (S, true) else (([] : List V), false)) = ([], false)) := if_neg (fun h => hkk h.1)
        have HF1 := Lib.hid (HFIN.out w2 B2)
        have HSN := Lib.hid hsn
        clear hsn hsp
        go_wp2_with fail
        go_ret2
        rw [HRES.out, HN.out]
        exact HF1.out

end Go.Proofs.Ytcnackecchjckaa

/- Plain mathematics of chapter 6: what runs spread to, that neighbours differ, that decoding gives back what was encoded. -/
namespace Go.Proofs.Ytcnackecchjckaa
open Go.RowKit

theorem eqB_true {x y : V} : x.eqB y = true ↔ x = y := by
  obtain ⟨t1, n1, s1⟩ := x
  obtain ⟨t2, n2, s2⟩ := y
  simp only [V.eqB, Bool.and_eq_true, beq_iff_eq, V.mk.injEq]
  constructor
  · rintro ⟨h1, h2, h3⟩
    refine ⟨h1, h2, ?_⟩
    rw [ByteArray.toList_eq, ByteArray.toList_eq] at h3
    apply ByteArray.ext
    exact Array.toList_inj.1 h3
  · rintro ⟨rfl, rfl, rfl⟩
    exact ⟨rfl, rfl, rfl⟩
theorem eqB_false {x y : V} : x.eqB y = false ↔ x ≠ y := by
  constructor
  · intro h e
    rw [eqB_true.2 e] at h
    cases h
  · intro h
    cases hb : x.eqB y with
    | false => rfl
    | true => exact absurd (eqB_true.1 hb) h

theorem last_split {r : List U} {m : Nat} (hm : r.length = m + 1) : r = r.take m ++ [r.getD m U.zero] := by
  have h : m < r.length := by omega
  have e : r.getD m U.zero = r[m] := by simp [h]
  rw [e, ← List.take_succ_eq_append_getElem h, List.take_of_length_le (by omega)]
theorem set_last {r : List U} {m : Nat} (hm : r.length = m + 1) (x : U) : r.set m x = r.take m ++ [x] := by
  have h : m < r.length := by omega
  have h1 := take_set_snoc r m x h
  rw [List.take_of_length_le (by rw [List.length_set]; omega)] at h1
  exact h1
theorem addRun_cases (r : List U) (v : V) : (∃ m, r.length = m + 1 ∧ (r.getD m U.zero).v = v ∧ addRun r v = r.take m ++ [⟨v, (r.getD m U.zero).k + 1⟩]) ∨ ((r.length = 0 ∨ ∃ m, r.length = m + 1 ∧ (r.getD m U.zero).v ≠ v) ∧ addRun r v = r ++ [⟨v, 1⟩]) := by
  by_cases h0 : r.length = 0
  · exact .inr ⟨.inl h0, addRun_new h0⟩
  · obtain ⟨m, hm⟩ : ∃ m, r.length = m + 1 := ⟨r.length - 1, by omega⟩
    have hl : lastU r = r.getD m U.zero := by
      unfold lastU
      rw [show r.length - 1 = m by omega]
    cases he : (r.getD m U.zero).v.eqB v with
    | true =>
      have e := eqB_true.1 he
      refine .inl ⟨m, hm, e, ?_⟩
      rw [addRun_eq hm he, set_last hm, e]
    | false => exact .inr ⟨.inr ⟨m, hm, eqB_false.1 he⟩, addRun_ne (by rw [hl]; exact he)⟩

/-- What runs stand for. -/
def flatU (r : List U) : List V := r.flatMap fun u => List.replicate u.k.toNat u.v
theorem flatU_append (a b : List U) : flatU (a ++ b) = flatU a ++ flatU b := by simp [flatU]
theorem flatU_one (u : U) : flatU [u] = List.replicate u.k.toNat u.v := by simp [flatU]
theorem flatU_cons (u : U) (r : List U) : flatU (u :: r) = List.replicate u.k.toNat u.v ++ flatU r := by simp [flatU]
theorem addRun_pos {r : List U} (h : ∀ u ∈ r, 1 ≤ u.k) (v : V) : ∀ u ∈ addRun r v, 1 ≤ u.k := by
  intro u hu
  rcases addRun_cases r v with ⟨m, hm, hv, e⟩ | ⟨_, e⟩
  · rw [e] at hu
    rcases List.mem_append.1 hu with h1 | h1
    · exact h u (List.mem_of_mem_take h1)
    · have hlt : m < r.length := by omega
      have e2 : r.getD m U.zero = r[m] := by simp [hlt]
      have := h _ (List.getElem_mem hlt)
      rw [← e2] at this
      obtain rfl := List.mem_singleton.1 h1
      show 1 ≤ (r.getD m U.zero).k + 1
      omega
  · rw [e] at hu
    rcases List.mem_append.1 hu with h1 | h1
    · exact h u h1
    · obtain rfl := List.mem_singleton.1 h1
      exact Int.le_refl _
theorem flatU_addRun {r : List U} (h : ∀ u ∈ r, 1 ≤ u.k) (v : V) : flatU (addRun r v) = flatU r ++ [v] := by
  rcases addRun_cases r v with ⟨m, hm, hv, e⟩ | ⟨_, e⟩
  · have hs := last_split hm
    have hlt : m < r.length := by omega
    have e2 : r.getD m U.zero = r[m] := by simp [hlt]
    have hk := h _ (List.getElem_mem hlt)
    rw [← e2] at hk
    rw [e, flatU_append, flatU_one]
    have hf : flatU r = flatU (r.take m) ++ List.replicate (r.getD m U.zero).k.toNat v := by
      rw [hs, flatU_append, flatU_one]
      congr 1
      · congr 1
        rw [← hs]
      · rw [← hs, hv]
    rw [hf, List.append_assoc, show ((r.getD m U.zero).k + 1).toNat = (r.getD m U.zero).k.toNat + 1 by omega]
    show _ ++ List.replicate ((r.getD m U.zero).k.toNat + 1) v = _
    rw [List.replicate_succ']
  · rw [e, flatU_append, flatU_one]
    rfl
theorem flatU_fold (l : List V) : ∀ (r : List U), (∀ u ∈ r, 1 ≤ u.k) → flatU (l.foldl addRun r) = flatU r ++ l := by
  induction l with
  | nil => intro r _; simp
  | cons v l ih =>
    intro r h
    rw [List.foldl_cons, ih _ (addRun_pos h v), flatU_addRun h]
    simp
theorem flatU_runs (l : List V) : flatU (runsL l) = l := by
  have := flatU_fold l [] (fun _ h => by cases h)
  simpa [flatU, runsL] using this
theorem runsL_pos (l : List V) : ∀ u ∈ runsL l, 1 ≤ u.k := fun u hu => (runsL_k l u hu).1
theorem spreadF_flat : ∀ (r : List U) (out : List V), (∀ u ∈ r, 1 ≤ u.k) → out.length + (flatU r).length ≤ 64 → spreadF r out = some (out ++ flatU r)
  | [], out, _, _ => by simp [spreadF, flatU]
  | u :: r, out, hp, hl => by
    have h1 := hp u List.mem_cons_self
    rw [flatU_cons, List.length_append, List.length_replicate] at hl
    rw [spreadF, if_pos ⟨h1, by omega⟩, spreadF_flat r _ (fun x hx => hp x (List.mem_cons_of_mem _ hx)) (by rw [List.length_append, List.length_replicate]; omega), flatU_cons, List.append_assoc]
theorem spread_runs {l : List V} (h : l.length ≤ 64) : spreadL (runsL l) = l := by
  have h1 := spreadF_flat (runsL l) [] (runsL_pos l) (by rw [flatU_runs]; simpa using h)
  unfold spreadL
  rw [h1, flatU_runs]
  simp

/-- The sum of the lengths. -/
def totU (r : List U) : Int := (r.map fun u => u.k).sum
theorem totU_flat : ∀ {r : List U}, (∀ u ∈ r, 1 ≤ u.k) → totU r = ((flatU r).length : Nat)
  | [], _ => rfl
  | u :: r, h => by
    have h1 := h u List.mem_cons_self
    have ih := totU_flat (r := r) (fun x hx => h x (List.mem_cons_of_mem _ hx))
    unfold totU at ih ⊢
    rw [flatU_cons, List.length_append, List.length_replicate, List.map_cons, List.sum_cons, ih]
    omega
theorem totU_runs (l : List V) : totU (runsL l) = (l.length : Nat) := by rw [totU_flat (runsL_pos l), flatU_runs]
theorem totU_take {r : List U} {k : Nat} (h : k < r.length) : totU (r.take (k + 1)) = totU (r.take k) + (r.getD k U.zero).k := by
  have e : r.getD k U.zero = r[k] := by simp [h]
  rw [e, List.take_succ_eq_append_getElem h]
  unfold totU
  rw [List.map_append, List.sum_append]
  simp only [List.map_cons, List.map_nil, List.sum_cons, List.sum_nil, Int.add_zero]

/-- No two neighbours are alike. -/
def ApartV (l : List V) : Prop := ∀ i, i + 1 < l.length → l.getD (i + 1) V.zero ≠ l.getD i V.zero
theorem apart_snoc {l : List V} {v : V} (h : ApartV l) (hv : ∀ m, l.length = m + 1 → l.getD m V.zero ≠ v) : ApartV (l ++ [v]) := by
  intro i hi
  rw [List.length_append, List.length_singleton] at hi
  by_cases hl : i + 1 < l.length
  · have := h i hl
    simp only [List.getD, List.getElem?_append_left hl, List.getElem?_append_left (show i < l.length by omega)] at this ⊢
    exact this
  · have he : i + 1 = l.length := by omega
    have := hv i (by omega)
    intro e
    apply this
    have e1 : (l ++ [v]).getD (i + 1) V.zero = v := by
      rw [he]
      simp [List.getD]
    have e2 : (l ++ [v]).getD i V.zero = l.getD i V.zero := by
      simp only [List.getD, List.getElem?_append_left (show i < l.length by omega)]
    rw [e1, e2] at e
    exact e.symm
theorem map_addRun (r : List U) (v : V) : (addRun r v).map (·.v) = r.map (·.v) ∨ (addRun r v).map (·.v) = r.map (·.v) ++ [v] ∧ ∀ m, r.length = m + 1 → (r.getD m U.zero).v ≠ v := by
  rcases addRun_cases r v with ⟨m, hm, hv, e⟩ | ⟨hne, e⟩
  · left
    rw [e]
    have hs := last_split hm
    conv => rhs; rw [hs]
    rw [List.map_append, List.map_append]
    show _ ++ [v] = _ ++ [(r.getD m U.zero).v]
    rw [hv]
  · right
    refine ⟨by rw [e]; simp, fun m hm => ?_⟩
    rcases hne with h0 | ⟨m', hm', h⟩
    · omega
    · obtain rfl : m = m' := by omega
      exact h
theorem getD_mapV (r : List U) (k : Nat) : (r.map (·.v)).getD k V.zero = (r.getD k U.zero).v := by
  simp only [List.getD, List.getElem?_map]
  cases r[k]? <;> rfl
theorem apart_fold (l : List V) : ∀ (r : List U), ApartV (r.map (·.v)) → ApartV ((l.foldl addRun r).map (·.v)) := by
  induction l with
  | nil => intro r h; exact h
  | cons v l ih =>
    intro r h
    rw [List.foldl_cons]
    apply ih
    rcases map_addRun r v with e | ⟨e, hne⟩
    · rw [e]; exact h
    · rw [e]
      refine apart_snoc h (fun m hm => ?_)
      rw [getD_mapV]
      exact hne m (by simpa using hm)
theorem runs_apart (l : List V) {i : Nat} (hi : i + 1 < (runsL l).length) : ((runsL l).getD (i + 1) U.zero).v.eqB ((runsL l).getD i U.zero).v = false := by
  have h := apart_fold l [] (fun i hi => by simp at hi)
  have := h i (by simpa [runsL] using hi)
  rw [getD_mapV, getD_mapV] at this
  exact eqB_false.2 this
theorem turns_runs (l : List V) : ∀ k, k < l.length → (runsL (l.take (k + 1))).length = turnsK l (k + 1) + 1 ∧ (lastU (runsL (l.take (k + 1)))).v = l.getD k V.zero
  | 0, h => by
    have e : runsL (l.take 1) = [⟨l.getD 0 V.zero, 1⟩] := by
      rw [runs_step h]
      rfl
    rw [e]
    exact ⟨rfl, rfl⟩
  | k + 1, h => by
    obtain ⟨h1, h2⟩ := turns_runs l k (by omega)
    rw [runs_step h]
    rw [show turnsK l (k + 1 + 1) = turnsK l (k + 1) + (if 0 < k + 1 ∧ (l.getD (k + 1) V.zero).eqB (l.getD (k + 1 - 1) V.zero) = false then 1 else 0) from rfl]
    rw [show k + 1 - 1 = k by omega]
    generalize runsL (l.take (k + 1)) = r at h1 h2
    have hl : ∀ m, r.length = m + 1 → r.getD m U.zero = lastU r := fun m hm => by
      unfold lastU
      rw [show r.length - 1 = m by omega]
    rcases addRun_cases r (l.getD (k + 1) V.zero) with ⟨m, hm, hv, e⟩ | ⟨hne, e⟩
    · rw [hl m hm, h2] at hv
      rw [if_neg (fun h => by rw [hv, eqB_true.2 rfl] at h; cases h.2), e]
      have hlen : (r.take m ++ [(⟨l.getD (k + 1) V.zero, (r.getD m U.zero).k + 1⟩ : U)]).length = m + 1 := by
        simp
        omega
      refine ⟨by rw [hlen]; omega, ?_⟩
      unfold lastU
      rw [hlen]
      have : (r.take m).length = m := by simp; omega
      simp [List.getD, this]
    · have hd : l.getD (k + 1) V.zero ≠ l.getD k V.zero := by
        rcases hne with h0 | ⟨m, hm, hx⟩
        · omega
        · rw [hl m hm, h2] at hx
          exact fun e => hx e.symm
      rw [if_pos ⟨by omega, eqB_false.2 hd⟩, e]
      refine ⟨by simp; omega, ?_⟩
      unfold lastU
      simp [List.getD]
theorem runs_turns {l : List V} (h : 0 < l.length) : (runsL l).length = turnsL l + 1 := by
  obtain ⟨k, hk⟩ : ∃ k, l.length = k + 1 := ⟨l.length - 1, by omega⟩
  have := (turns_runs l k (by omega)).1
  rw [List.take_of_length_le (by omega)] at this
  unfold turnsL
  rw [hk]
  exact this

/-! Decoding gives back what was encoded. -/
theorem str_sbytes (s : ByteArray) : strOfNums (sbytes s) = s := by
  unfold strOfNums sbytes
  apply ByteArray.ext
  apply Array.toList_inj.1
  simp only [List.map_map]
  have : ((fun n : Int => UInt8.ofNat n.toNat) ∘ fun b : UInt8 => (b.toNat : Int)) = id := by
    funext b
    simp
  rw [this]
  simp
/-- A value's bytes. -/
def valB (v : V) : List Int := if v.ty = 1 then Num.grp 4 (Num.zig v.n) else (v.s.size : Int) :: sbytes v.s
theorem putV_val {v : V} (h : okV v = true) (zs : List Int) : putV zs v = zs ++ valB v := by
  unfold putV valB
  rw [if_pos h]
  split
  · rename_i ht
    exact Num.put_ok (okV_num h ht)
  · rfl
theorem get_grp {b rest : List Int} {n : Int} (h : Num.ok n) : Num.get (b ++ (Num.grp 4 (Num.zig n) ++ rest)) b.length = (n, ((b ++ Num.grp 4 (Num.zig n)).length : Int), true) := by
  have := Num.get_put (b := b) (rest := rest) h
  rw [Num.put_ok h, List.append_assoc] at this
  exact this
theorem getV_val {v : V} (h : okV v = true) (b rest : List Int) : getV (b ++ (valB v ++ rest)) b.length v.ty = (v, ((b ++ valB v).length : Int), true) := by
  obtain ⟨t, n, s⟩ := v
  unfold valB
  by_cases ht : t = 1
  · subst ht
    have hn := okV_num h rfl
    have hs : s = ⟨#[]⟩ := by
      unfold okV at h
      simp only [if_true, Bool.and_eq_true, beq_iff_eq] at h
      apply ByteArray.ext
      apply Array.eq_empty_of_size_eq_zero
      exact h.2
    subst hs
    simp only [if_true]
    rw [getV_int, get_grp hn]
    simp
  · have hsz := okV_txt h ht
    have h' := h
    unfold okV at h
    simp only [if_neg ht, Bool.and_eq_true, beq_iff_eq] at h
    obtain ⟨rfl, rfl, htx⟩ := h
    simp only [if_neg ht]
    unfold getV
    rw [if_neg ht, if_pos ⟨rfl, Num.inB_true.2 ⟨by omega, by simp; omega⟩⟩]
    unfold getT
    have e0 : (b ++ ((s.size : Int) :: sbytes s ++ rest)).getD (b.length : Int).toNat 0 = (s.size : Int) := by
      rw [Int.toNat_natCast]
      simp [List.getD]
    have e1 : ((b ++ ((s.size : Int) :: sbytes s ++ rest)).drop ((b.length : Int).toNat + 1)).take ((s.size : Int)).toNat = sbytes s := by
      rw [Int.toNat_natCast, Int.toNat_natCast, List.drop_append, List.drop_of_length_le (by omega), List.nil_append, Nat.add_sub_cancel_left]
      simp only [List.cons_append, List.drop_succ_cons, List.drop_zero]
      rw [← sbytes_len s, List.take_left]
    simp only [e0, e1, str_sbytes]
    rw [if_pos ⟨by
      simp only [List.length_append, List.length_cons, sbytes_len, Int.toNat_natCast]
      omega, h'⟩]
    simp only [List.length_append, List.length_cons, sbytes_len, Int.toNat_natCast]
    congr 2
    omega
/-- The bytes of runs. -/
def bodyU (r : List U) : List Int := r.flatMap fun u => Num.grp 4 (Num.zig u.k) ++ valB u.v
theorem bodyU_cons (u : U) (r : List U) : bodyU (u :: r) = Num.grp 4 (Num.zig u.k) ++ (valB u.v ++ bodyU r) := by simp [bodyU]
theorem encU_body : ∀ (r : List U) (b : List Int), (∀ u ∈ r, Num.ok u.k ∧ okV u.v = true) → encU b r = b ++ bodyU r
  | [], b, _ => by simp [encU, bodyU]
  | u :: r, b, h => by
    have h1 := h u List.mem_cons_self
    have ih := encU_body r (putV (Num.put b u.k) u.v) (fun x hx => h x (List.mem_cons_of_mem _ hx))
    have e : encU b (u :: r) = encU (putV (Num.put b u.k) u.v) r := rfl
    rw [e, ih, putV_val h1.2, Num.put_ok h1.1, bodyU_cons]
    simp
theorem decU_body {ty : Int} : ∀ (r : List U) (b rest : List Int), (∀ u ∈ r, Num.ok u.k ∧ okV u.v = true ∧ u.v.ty = ty) → decU (b ++ (bodyU r ++ rest)) ty r.length b.length = some r
  | [], b, rest, _ => rfl
  | u :: r, b, rest, h => by
    have h1 := h u List.mem_cons_self
    have e1 : b ++ (bodyU (u :: r) ++ rest) = b ++ (Num.grp 4 (Num.zig u.k) ++ (valB u.v ++ (bodyU r ++ rest))) := by
      rw [bodyU_cons]
      simp
    have e2 : b ++ (bodyU (u :: r) ++ rest) = (b ++ Num.grp 4 (Num.zig u.k)) ++ (valB u.v ++ (bodyU r ++ rest)) := by
      rw [e1]
      simp
    have e3 : b ++ (bodyU (u :: r) ++ rest) = ((b ++ Num.grp 4 (Num.zig u.k)) ++ valB u.v) ++ (bodyU r ++ rest) := by
      rw [e2]
      simp
    have g1 : Num.get (b ++ (bodyU (u :: r) ++ rest)) b.length = (u.k, ((b ++ Num.grp 4 (Num.zig u.k)).length : Int), true) := by
      rw [e1]
      exact get_grp h1.1
    have g2 : getV (b ++ (bodyU (u :: r) ++ rest)) ((b ++ Num.grp 4 (Num.zig u.k)).length : Int) ty = (u.v, (((b ++ Num.grp 4 (Num.zig u.k)) ++ valB u.v).length : Int), true) := by
      rw [e2, ← h1.2.2]
      exact getV_val h1.2.1 _ _
    have ih := decU_body r ((b ++ Num.grp 4 (Num.zig u.k)) ++ valB u.v) rest (fun x hx => h x (List.mem_cons_of_mem _ hx))
    rw [← e3] at ih
    rw [List.length_cons, decU, g1]
    simp only
    rw [g2]
    simp only [and_self, if_true]
    rw [ih]
    rfl
theorem typeV_parts {l : List V} (h : ¬ typeV l = 0) : 1 ≤ l.length ∧ l.length ≤ 64 ∧ ∀ v ∈ l, okV v = true ∧ v.ty = typeV l := by
  unfold typeV at h ⊢
  by_cases hc : Num.inB l.length 1 64 = true ∧ l.all (ofB (l.getD 0 V.zero).ty) = true
  · rw [if_pos hc]
    have h1 := Num.inB_true.1 hc.1
    refine ⟨by omega, by omega, fun v hv => ?_⟩
    have := List.all_eq_true.1 hc.2 v hv
    unfold ofB at this
    simp only [Bool.and_eq_true, beq_iff_eq] at this
    exact this
  · rw [if_neg hc] at h
    exact absurd rfl h
theorem typeV_of {l : List V} {ty : Int} (h1 : 1 ≤ l.length) (h2 : l.length ≤ 64) (h : ∀ v ∈ l, okV v = true ∧ v.ty = ty) : typeV l = ty := by
  have e0 : l.getD 0 V.zero ∈ l := by
    have hl : 0 < l.length := by omega
    have e : l.getD 0 V.zero = l[0] := by simp [hl]
    rw [e]
    exact List.getElem_mem hl
  unfold typeV
  rw [if_pos, (h _ e0).2]
  refine ⟨Num.inB_true.2 ⟨by omega, by omega⟩, List.all_eq_true.2 (fun v hv => ?_)⟩
  unfold ofB
  rw [(h _ e0).2, (h v hv).1, (h v hv).2]
  simp
theorem dec_enc {l : List V} (h : ¬ typeV l = 0) : decR (encR l) (typeV l) l.length = (l, true) := by
  obtain ⟨h1, h64, hall⟩ := typeV_parts h
  have hk : Num.inB (l.length : Int) 1 64 = true := Num.inB_true.2 ⟨by omega, by omega⟩
  have hru : ∀ u ∈ runsL l, Num.ok u.k ∧ okV u.v = true ∧ u.v.ty = typeV l := fun u hu => by
    have k1 := runsL_k l u hu
    have k2 := runsL_all (p := fun v => okV v = true ∧ v.ty = typeV l) hall u hu
    exact ⟨by unfold Num.ok; omega, k2⟩
  have hrl := runsL_len l
  have hpos : 0 < (runsL l).length := by
    rw [runs_turns (by omega)]
    omega
  have hok : Num.ok ((runsL l).length : Int) := by unfold Num.ok; omega
  have he : encR l = [] ++ (Num.grp 4 (Num.zig ((runsL l).length : Int)) ++ bodyU (runsL l)) := by
    unfold encR
    rw [if_neg h, encU_body _ _ (fun u hu => ⟨(hru u hu).1, (hru u hu).2.1⟩), Num.put_ok hok]
    simp
  have hg : Num.get (encR l) 0 = (((runsL l).length : Int), (([] ++ Num.grp 4 (Num.zig ((runsL l).length : Int))).length : Int), true) := by
    rw [he]
    exact get_grp (b := []) hok
  have hd : decU (encR l) (typeV l) (runsL l).length (([] ++ Num.grp 4 (Num.zig ((runsL l).length : Int))).length : Int) = some (runsL l) := by
    have := decU_body (ty := typeV l) (runsL l) ([] ++ Num.grp 4 (Num.zig ((runsL l).length : Int))) [] hru
    rw [List.append_nil, List.append_assoc, ← he] at this
    exact this
  rw [decR_get hk]
  have hgu : getU (encR l) (typeV l) = some (runsL l) := by
    unfold getU
    rw [hg]
    simp only
    rw [if_pos ⟨trivial, by omega, by omega⟩, Int.toNat_natCast, hd]
  rw [hgu]
  simp only
  rw [spread_runs h64, if_pos ⟨rfl, rfl⟩]
theorem getV_ok {zs : List Int} (hb : Num.Bytes zs) {i ty : Int} (h : (getV zs i ty).2.2 = true) : okV (getV zs i ty).1 = true ∧ (getV zs i ty).1.ty = ty := by
  unfold getV at h ⊢
  split
  · rename_i ht
    subst ht
    rw [if_pos rfl] at h
    split
    · rename_i hg
      have hp : Num.get zs i = ((Num.get zs i).1, (Num.get zs i).2.1, true) := by rw [← hg]
      have := (Num.put_get hb hp).2.2.2.2.1
      refine ⟨?_, rfl⟩
      unfold okV
      simp only [if_true, Bool.and_eq_true]
      exact ⟨Num.okB_true.2 this, rfl⟩
    · rename_i hg
      rw [if_neg hg] at h
      cases h
  · rename_i ht
    rw [if_neg ht] at h
    split
    · rename_i hc
      rw [if_pos hc] at h
      unfold getT at h ⊢
      split
      · rename_i hd
        exact ⟨hd.2, hc.1.symm⟩
      · rename_i hd
        rw [if_neg hd] at h
        cases h
    · rename_i hc
      rw [if_neg hc] at h
      cases h
theorem decU_ok {zs : List Int} (hb : Num.Bytes zs) {ty : Int} : ∀ {n : Nat} {i : Int} {r : List U}, decU zs ty n i = some r → ∀ u ∈ r, okV u.v = true ∧ u.v.ty = ty
  | 0, i, r, h => by
    simp only [decU, Option.some.injEq] at h
    subst h
    exact fun _ h => by cases h
  | n + 1, i, r, h => by
    rw [decU] at h
    split at h
    · rename_i hc
      cases hd : decU zs ty n (getV zs (Num.get zs i).2.1 ty).2.1 with
      | none => rw [hd] at h; cases h
      | some r' =>
        rw [hd] at h
        simp only [Option.map_some, Option.some.injEq] at h
        subst h
        intro u hu
        rcases List.mem_cons.1 hu with rfl | hu
        · exact getV_ok hb hc.2
        · exact decU_ok hb hd u hu
    · cases h
theorem dec_ok {zs : List Int} (hb : Num.Bytes zs) {ty k : Int} (h : (decR zs ty k).2 = true) : encR (decR zs ty k).1 = zs ∧ ((decR zs ty k).1.length : Int) = k ∧ typeV (decR zs ty k).1 = ty := by
  cases hk : Num.inB k 1 64 with
  | false => rw [decR_none hk] at h; cases h
  | true =>
    have hkk := Num.inB_true.1 hk
    rw [decR_get hk] at h ⊢
    cases hg : getU zs ty with
    | none => rw [hg] at h; cases h
    | some r =>
      rw [hg] at h
      simp only at h ⊢
      split
      · rename_i hc
        refine ⟨hc.2, hc.1, typeV_of (l := spreadL r) (by omega) (by omega) ?_⟩
        have hr : ∀ u ∈ r, okV u.v = true ∧ u.v.ty = ty := by
          unfold getU at hg
          split at hg
          · exact decU_ok hb hg
          · cases hg
        exact spreadL_all (p := fun v => okV v = true ∧ v.ty = ty) hr
      · rename_i hc
        rw [if_neg hc] at h
        cases h

end Go.Proofs.Ytcnackecchjckaa

/- The contracts of l5Any, l5Type, DrawRuns, DrawDecRuns, DrawSpread. -/
namespace Go.Proofs.Ytcnackecchjckaa
open Go.RowKit

/-- What l5Any draws. -/
def AnyList (l : List V) : Prop := l.length ≤ 16 ∧ ∀ v ∈ l, Fair v
theorem Drawn.any {l : List V} (h : Drawn l) : AnyList l := by
  obtain ⟨h1, h2, ty, _, h3⟩ := h
  exact ⟨by omega, fun v hv => (h3 v hv).fair⟩
theorem AnyList.sizes {l : List V} (h : AnyList l) : ∀ v ∈ l, v.s.size ≤ maxLen := fun v hv => by
  have := (h.2 v hv).s
  unfold maxLen
  omega

set_option maxHeartbeats 1000000 in
theorem l5Any (c : Code) (g : Nat) (w : World) (h : Cur c g w) :
    Calls Try.prog 45 #[.pointer (some ⟨g, 0, none⟩)] w (DrewVals c g w AnyList) := by
  have hgl := h.lt
  go_enter Try.func45, Try.ntmps45
  go_wp2_with fail
  refine (l5Draw c g _ h).mono ?_
  rintro e w1 ⟨v1, l, rfl, hl, o1, hc1, hg1⟩
  have G1 := (Going.start h).next hc1 hg1
  have HA := Lib.hid hl.any
  have HL15 : Hid (l.length ≤ 15) := hl.2.1
  clear hl hc1 hg1
  generalize hlc : l.length = lc at o1
  have HLC := Lib.hid hlc
  have hl16 : lc ≤ 15 := by rw [← hlc]; exact HL15.out
  clear hlc
  obtain ⟨b2, cp2, rfl⟩ : ∃ b cp, v1 = .slice (some ⟨b, 0, none⟩) lc cp := by
    obtain ⟨b, cp, e, _⟩ := o1
    exact ⟨b, cp, e⟩
  go_wp2_with fail
  refine (l1Below c g _ _ G1.cur).mono ?_
  rintro e w2 ⟨y, rfl, hy, hc2, hg2⟩
  have G2 := G1.next hc2 hg2
  have O2 := (o1.draw hg2 hgl).wide hg2.size
  clear o1 G1 hc2 hg2
  by_cases e0 : y = 0
  · subst e0
    go_wp2_with fail
    refine (l3Any c g _ G2.cur).mono ?_
    rintro e w3 ⟨x, rfl, HX, hc3, hg3⟩
    have G3 := G2.next hc3 hg3
    have O3 := (O2.draw hg3 hgl).wide hg3.size
    obtain ⟨xt, xn, xs⟩ := x
    have HX3 := Lib.hid HX
    have HVA : Hid (vals l ++ V.cs ⟨xt, xn, xs⟩ = vals (l ++ [(⟨xt, xn, xs⟩ : V)])) := by
      show _ = _
      simp [vals]
    clear HX hc3 hg3 O2 G2
    go_wp2_with (at_builtin; refine appendV_law Try.elemVals rfl _ _ rfl _ _ _ _ _ ⟨xt, xn, xs⟩ rfl O3 rfl (by unfold maxLen; omega) (by omega) ?_)
    intro v4 w4 o4 e4
    have G4 := G3.ext O3 (Nat.le_refl _) e4
    rw [HVA.out] at o4
    have O4 := Lib.hid o4
    clear o4 e4 O3 G3
    go_wp2
    go_ret
    refine ⟨_, l ++ [⟨xt, xn, xs⟩], rfl, ⟨?_, ?_⟩, by rw [List.length_append, List.length_singleton, HLC.out]; exact O4.out, G4.cur, G4.grown⟩
    · rw [List.length_append, List.length_singleton, HLC.out]
      omega
    · intro v hv
      rcases List.mem_append.1 hv with h1 | h1
      · exact HA.out.2 v h1
      · obtain rfl := List.mem_singleton.1 h1
        exact HX3.out
  · have b0 : (y == 0) = false := by simp [e0]
    by_cases e1 : y = 1
    · subst e1
      have O3 := (own_lit (e := 34) (size := 3) w2 #[] 0 (Nat.zero_le _) rfl).lower G2.grown.size
      have G3 := G2.alloc (.cells #[] 34)
      clear O2 G2
      go_wp2
      go_ret
      exact ⟨_, [], rfl, ⟨by simp, fun v hv => by cases hv⟩, O3, G3.cur, G3.grown⟩
    · have b1 : (y == 1) = false := by simp [e1]
      clear e0 e1 hy
      go_wp2
      go_ret
      exact ⟨_, l, rfl, HA.out, by rw [HLC.out]; exact O2, G2.cur, G2.grown⟩

set_option maxHeartbeats 1000000 in
theorem l5Type (c : Code) (g : Nat) (u : Value) (n : Nat) (l : List V) (w : World) (hl : l.length = n) (hn : 1 ≤ n) (hn2 : n ≤ 1000) (hf : ∀ v ∈ l, Fair v) (hu : Rd 3 w u n (vals l)) (h : Cur c g w) :
    Calls Try.prog 59 #[.pointer (some ⟨g, 0, none⟩), u] w fun e w' => ∃ ty k : Int, e = .returned (.tuple #[.int .i64 ty, .int .i64 k]) ∧ I64 ty ∧ I64 k ∧ Cur c g w' ∧ w.grownBy w' (some g) := by
  have hgl := h.lt
  obtain ⟨a, cap, rfl, _, HC⟩ := hu.vals hl
  obtain ⟨b, off, rfl, c0, c1, c2⟩ := HC.out 0 (by omega)
  have HT : Hid (I64 (l.getD 0 V.zero).ty) := by
    have hk : 0 < l.length := by omega
    have e : l.getD 0 V.zero = l[0] := by simp [hk]
    rw [e]
    exact (hf _ (List.getElem_mem hk)).ty
  generalize l.getD 0 V.zero = x at c0 c1 c2 HT
  obtain ⟨xt, xn, xs⟩ := x
  simp only [Nat.zero_mul, Nat.add_zero] at c0 c1 c2 HT
  have G0 := Going.start h
  clear hf HC hu
  go_enter Try.func59, Try.ntmps59
  go_wp2_with fail
  refine (l1Below c g _ _ G0.cur).mono ?_
  rintro e w2 ⟨y, rfl, hy, hc2, hg2⟩
  have G2 := G0.next hc2 hg2
  clear G0 hc2 hg2 c0 c1 c2
  by_cases e0 : y = 0
  · subst e0
    go_wp2_with fail
    refine (l1Below c g _ _ G2.cur).mono ?_
    rintro e w3 ⟨z, rfl, hz, hc3, hg3⟩
    have G3 := G2.next hc3 hg3
    have HZ : Hid (I64 z) := ⟨by omega, by omega⟩
    clear hz
    go_wp2
    go_ret2
    exact ⟨_, _, rfl, HZ.out, ⟨by omega, by omega⟩, G3.cur, G3.grown⟩
  · have b0 : (y == 0) = false := by simp [e0]
    by_cases e1 : y = 1
    · subst e1
      go_wp2_with fail
      refine (l1IntLit c g [0, (n : Int) + 1, (n : Int) - 1, 65, -1] 5 w2 rfl (by omega) (by omega) G2.cur _ rfl).mono ?_
      rintro e w3 ⟨z, rfl, hz, hc3, hg3⟩
      have G3 := G2.next hc3 hg3
      have HZ : Hid (I64 z) := by
        simp only [List.mem_cons, List.not_mem_nil, or_false] at hz
        rcases hz with rfl | rfl | rfl | rfl | rfl <;> exact ⟨by omega, by omega⟩
      clear hz
      go_wp2
      go_ret2
      exact ⟨_, _, rfl, HT.out, HZ.out, G3.cur, G3.grown⟩
    · have b1 : (y == 1) = false := by simp [e1]
      clear e0 e1 hy
      go_wp2
      go_ret2
      exact ⟨_, _, rfl, HT.out, ⟨by omega, by omega⟩, G2.cur, G2.grown⟩

theorem drawRuns (c : Code) (w : World) (h : c.In w) :
    Calls Try.prog 12 #[.slice c.a c.len c.cap] w fun e w' => ∃ (v : Value) (l : List V), e = .returned v ∧ AnyList l ∧ Own 34 3 w.heap.size w'.heap.size w' v l.length (vals l) ∧ Below w.heap.size w w' := by
  go_enter Try.func12, Try.ntmps12
  go_wp2_with fail
  refine (l1New c _ h).mono ?_
  rintro e w1 ⟨rfl, hc1, hb1⟩
  go_wp2_with fail
  refine (l5Any c _ _ hc1).mono ?_
  rintro e w2 ⟨v, l, rfl, H, o2, hc2, hg2⟩
  have O2 := o2.lower hb1.size
  go_wp2
  go_ret
  exact ⟨_, l, rfl, H, O2, below_cur hb1 hg2⟩

set_option maxHeartbeats 1000000 in
theorem drawDecRuns (c : Code) (w : World) (h : c.In w) :
    Calls Try.prog 25 #[.slice c.a c.len c.cap] w fun e w' => ∃ (v : Value) (zs : List Int) (ty k : Int), e = .returned (.tuple #[v, .int .i64 ty, .int .i64 k]) ∧ I64 ty ∧ I64 k ∧ Num.Bytes zs ∧ zs.length ≤ 1000 ∧ Own 5 1 w.heap.size w'.heap.size w' v zs.length (ints .u8 zs) ∧ Below w.heap.size w w' := by
  go_enter Try.func25, Try.ntmps25
  go_wp2_with fail
  refine (l1New c _ h).mono ?_
  rintro e w1 ⟨rfl, hc1, hb1⟩
  go_wp2_with fail
  refine (l5Draw c _ _ hc1).mono ?_
  rintro e w2 ⟨v2, l, rfl, hl, o2, hc2, hg2⟩
  have G2 := (Going.start hc1).next hc2 hg2
  have HA := Lib.hid hl.any
  obtain ⟨hl1, hl2, _⟩ := hl
  clear hc2 hg2
  go_wp2_with fail
  refine (l5Type c _ v2 l.length l w2 rfl hl1 (by omega) HA.out.2 o2.rd G2.cur).mono ?_
  rintro e w3 ⟨ty, k, rfl, ht, hk, hc3, hg3⟩
  have G3 := G2.next hc3 hg3
  have O3 := (o2.draw hg3 hc1.lt).wide hg3.size
  clear hc3 hg3 o2 G2
  have HE := Lib.hid (sEncRuns v2 l w3 (by omega) HA.out.sizes O3.rd)
  have HEL := Lib.hid (encR_len l)
  obtain ⟨b2, cp2, rfl⟩ : ∃ b cp, v2 = .slice (some ⟨b, 0, none⟩) l.length cp := by
    obtain ⟨b, cp, e, _⟩ := O3
    exact ⟨b, cp, e⟩
  generalize l.length = lc at *
  go_wp2_with fail
  refine HE.out.mono ?_
  rintro e w4 ⟨v4, rfl, o4, b4⟩
  have G4 := G3.below b4
  have hel := HEL.out
  clear HE G3 O3
  go_wp2_with fail
  refine (l1Bent c _ v4 (encR l).length (encR l) w4 (by omega) rfl (encR_bytes l) o4.at G4.cur).mono ?_
  rintro e w5 ⟨v5, zs, rfl, hby, hzl, o5, hc5, hg5⟩
  have G5 := G4.next hc5 hg5
  have HB5 := Lib.hid (below_cur hb1 G5.grown)
  have O5 := Lib.hid (o5.lower (show w.heap.size ≤ w4.heap.size by
    have h1 := hb1.size
    have h2 := G4.grown.size
    omega))
  have HZ : Hid (zs.length ≤ 1000) := by
    show _ ≤ _
    omega
  have HBY := Lib.hid hby
  obtain ⟨b5, cp5, rfl⟩ : ∃ b cp, v5 = .slice (some ⟨b, 0, none⟩) zs.length cp := by
    obtain ⟨b, cp, e, _⟩ := o5
    exact ⟨b, cp, e⟩
  clear o4 o5 hc5 hg5 hzl G4 G5 b4 hby
  go_wp2
  go_ret3
  exact ⟨_, zs, ty, k, rfl, ht, hk, HBY.out, HZ.out, O5.out, HB5.out⟩

/-- What DrawSpread draws. -/
def AnyRuns (r : List U) : Prop := r.length ≤ 16 ∧ ∀ u ∈ r, u.v.s.size ≤ 7
theorem AnyRuns.sizes {r : List U} (h : AnyRuns r) : ∀ u ∈ r, u.v.s.size ≤ maxLen := fun u hu => by
  have := h.2 u hu
  unfold maxLen
  omega

set_option maxHeartbeats 1000000 in
theorem drawSpread (c : Code) (w : World) (h : c.In w) :
    Calls Try.prog 27 #[.slice c.a c.len c.cap] w fun e w' => ∃ (v : Value) (r : List U), e = .returned v ∧ AnyRuns r ∧ Own 36 4 w.heap.size w'.heap.size w' v r.length (rus r) ∧ Below w.heap.size w w' := by
  go_enter Try.func27, Try.ntmps27
  go_wp2_with fail
  refine (l1New c _ h).mono ?_
  rintro e w1 ⟨rfl, hc1, hb1⟩
  generalize hgg : w.heap.size = g at hc1 hb1 ⊢
  go_wp2_with fail
  refine (l5Draw c _ _ hc1).mono ?_
  rintro e w2 ⟨v2, l, rfl, hl, o2, hc2, hg2⟩
  have G2 := (Going.start hc1).next hc2 hg2
  have HA := Lib.hid hl.any
  obtain ⟨hl1, hl2, _⟩ := hl
  have HR := Lib.hid (sRuns v2 l w2 (by omega) o2.rd)
  have HAR : Hid (AnyRuns (runsL l) ∧ 1 ≤ (runsL l).length ∧ (runsL l).length ≤ 15) := by
    have h1 := runsL_len l
    refine ⟨⟨by omega, runsL_all (p := fun v => v.s.size ≤ 7) (fun v hv => (HA.out.2 v hv).s)⟩, ?_, by omega⟩
    rw [runs_turns (by omega)]
    omega
  obtain ⟨b2, cp2, rfl⟩ : ∃ b cp, v2 = .slice (some ⟨b, 0, none⟩) l.length cp := by
    obtain ⟨b, cp, e, _⟩ := o2
    exact ⟨b, cp, e⟩
  generalize l.length = lc at *
  go_wp2_with fail
  refine HR.out.mono ?_
  rintro e w3 ⟨v3, rfl, o3, b3⟩
  have G3 := G2.below b3
  have O3 := o3.lower G2.grown.size
  clear o3 b3 o2 hc2 hg2 HR
  generalize runsL l = r at O3 HAR
  generalize hrc : r.length = rc at O3 HAR
  have HRC := Lib.hid hrc
  obtain ⟨b3, cp3, rfl⟩ : ∃ b cp, v3 = .slice (some ⟨b, 0, none⟩) rc cp := by
    obtain ⟨b, cp, e, _⟩ := O3
    exact ⟨b, cp, e⟩
  have hr1 := HAR.out.2.1
  have hr2 := HAR.out.2.2
  have HLE := Lib.hid hb1.size
  have HAR0 := Lib.hid HAR.out.1
  clear hrc HAR
  go_wp2_with fail
  refine (l1Below c g _ _ G3.cur).mono ?_
  rintro e w4 ⟨y, rfl, hy, hc4, hg4⟩
  have G4 := G3.next hc4 hg4
  have O4 := (O3.draw hg4 hc1.lt).wide hg4.size
  clear hc4 hg4 O3 G3
  by_cases e0 : y = 0
  · subst e0
    go_wp2_with fail
    refine (l1IntLit c g [0, -1, 64, 65, 9223372036854775807] 5 w4 rfl (by omega) (by omega) G4.cur _ rfl).mono ?_
    rintro e w5 ⟨z, rfl, hz, hc5, hg5⟩
    have G5 := G4.next hc5 hg5
    have O5 := (O4.draw hg5 hc1.lt).wide hg5.size
    have hrl : 0 < r.length := by rw [HRC.out]; omega
    have row := O5.row
    have R := row.stored 3 (.int .i64 z)
    have hset := rus_setK r 0 z hrl
    simp only [Nat.zero_mul, Nat.zero_add] at hset
    rw [← hset] at R
    have HLB : Hid (w1.heap.size ≤ b3) := by
      obtain ⟨g', c', e', h1, _⟩ := O5
      cases e'
      exact h1
    obtain ⟨x3, s3⟩ := cellAt_some row 3 (by omega)
    have f3 := row.frozenAt 3
    have G6 := Lib.hid (G5.set (b := b3) HLB.out 3 (.int .i64 z))
    have HRW := Lib.hid R.1
    have HAN : Hid (AnyRuns (r.set 0 ⟨(r.getD 0 U.zero).v, z⟩)) := by
      refine ⟨by rw [List.length_set]; exact HAR0.out.1, fun u hu => ?_⟩
      rcases List.mem_or_eq_of_mem_set hu with h1 | h1
      · exact HAR0.out.2 u h1
      · subst h1
        have e : r.getD 0 U.zero = r[0] := by simp [hrl]
        show (r.getD 0 U.zero).v.s.size ≤ 7
        rw [e]
        exact HAR0.out.2 _ (List.getElem_mem hrl)
    clear hz hc5 hg5 O4 G4 row R hset hrl O5 G5
    generalize hrs : r.set 0 ⟨(r.getD 0 U.zero).v, z⟩ = rr at HRW HAN
    have HRL : Hid (rr.length = rc) := by
      show _ = _
      rw [← hrs, List.length_set, HRC.out]
    clear hrs
    go_wp2
    go_ret
    refine ⟨_, rr, rfl, HAN.out, ?_, ?_⟩
    · rw [HRL.out]
      have hO : Own 36 4 w1.heap.size _ _ (.slice (some ⟨b3, 0, none⟩) rc cp3) rc (rus rr) := ⟨b3, cp3, rfl, HLB.out, (HRW.out.lt b3 rfl).2, HRW.out⟩
      exact hO.lower HLE.out
    · exact below_cur (hgg ▸ hb1) (hgg ▸ G6.out.grown)
  · have b0 : (y == 0) = false := by simp [e0]
    by_cases e1 : y = 1
    · subst e1
      go_wp2_with fail
      refine (l3Draw c g _ G4.cur).mono ?_
      rintro e w5 ⟨x, rfl, HX, hc5, hg5⟩
      have G5 := G4.next hc5 hg5
      have O5 := (O4.draw hg5 hc1.lt).wide hg5.size
      obtain ⟨xt, xn, xs⟩ := x
      have HX7 : Hid (xs.size ≤ 7) := by
        rcases HX with h1 | h1
        · exact h1.fair.s
        · exact h1.fair.s
      clear HX hc5 hg5 O4 G4
      go_wp2_with fail
      refine (l1Below c g _ _ G5.cur).mono ?_
      rintro e w6 ⟨z, rfl, hz, hc6, hg6⟩
      have G6 := G5.next hc6 hg6
      have O6 := (O5.draw hg6 hc1.lt).wide hg6.size
      have hz2 : 0 ≤ z ∧ z < 3 := by omega
      have HVA : Hid (rus r ++ U.cs ⟨⟨xt, xn, xs⟩, 1 + z⟩ = rus (r ++ [(⟨⟨xt, xn, xs⟩, 1 + z⟩ : U)])) := by
        show _ = _
        simp [rus]
      clear hc6 hg6 O5 G5 hz
      go_wp2_with (at_builtin; refine appendU_law Try.elemRuns rfl _ _ rfl _ _ _ _ _ ⟨⟨xt, xn, xs⟩, 1 + z⟩ rfl O6 rfl (by unfold maxLen; omega) (by omega) ?_)
      intro v7 w7 o7 e7
      have G7 := G6.ext O6 (Nat.le_refl _) e7
      rw [HVA.out] at o7
      have O7 := Lib.hid (o7.lower HLE.out)
      clear o7 e7 O6 G6
      go_wp2
      go_ret
      refine ⟨_, r ++ [⟨⟨xt, xn, xs⟩, 1 + z⟩], rfl, ⟨?_, ?_⟩, by rw [List.length_append, List.length_singleton, HRC.out]; exact O7.out, ?_⟩
      · rw [List.length_append, List.length_singleton, HRC.out]
        omega
      · intro u hu
        rcases List.mem_append.1 hu with h1 | h1
        · exact HAR0.out.2 u h1
        · obtain rfl := List.mem_singleton.1 h1
          exact HX7.out
      · exact below_cur (hgg ▸ hb1) (hgg ▸ G7.grown)
    · have b1 : (y == 1) = false := by simp [e1]
      clear e0 e1 hy
      go_wp2
      go_ret
      refine ⟨_, r, rfl, HAR0.out, by rw [HRC.out]; exact O4.lower HLE.out, ?_⟩
      exact below_cur (hgg ▸ hb1) (hgg ▸ G4.grown)

end Go.Proofs.Ytcnackecchjckaa
