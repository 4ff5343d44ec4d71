/- The contracts of the model's Runs and Turns. -/
import Derived.Test.YthniakklkepomaaU6M
import Derived.Test.YthniakklkepomaaVSpec
import Derived.Test.YthniakklkepomaaS5
import Derived.Test.YthniakklkepomaaOpLaw
import Derived.Test.YthniakklkepomaaL5S
namespace Go.Proofs.Ythniakklkepomaa
open Go.RowKit

/-- append(s, x): x, a Run, has just been laid in a block of its own. -/
theorem appendU_law {P : Program} {t e : TypeId} {z : Value} {bytes : Nat} (T : ElemT P t e z 4 bytes) {w : World} {ops : Array Oper} {rest : List Oper} {o : Oper} {a : Act} {Q : Exit → Act → World → Prop} (hgd : o.guard = none) (s x : Operand)
    (ho : o.op = .call { callee := .builtin .append, args := #[s, x], argTypes := #[t, t] })
    (lo hi : Nat) (v : Value) (n : Nat) (xs : List Value) (u : U) (hs : a.eval s = v) (hown : Own e 4 lo hi w v n xs)
    (hx : a.eval x = .slice (some ⟨w.heap.size, 0, none⟩) 1 1)
    (h63 : n + 1 ≤ maxLen) (hbytes : (n + 1) * bytes ≤ 140737488355328)
    (h : ∀ v' w', Own e 4 lo w'.heap.size w' v' (n + 1) (xs ++ u.cs) → Ext w w' v v' → wpList P ops Q rest (a.put o.dst v') w') : wpList P ops Q (o :: rest) a (w.alloc (.cells #[.int .i64 u.v.ty, .int .i64 u.v.n, .string u.v.s, .int .i64 u.k] e)) := by
  refine append_law T hgd s x ho lo hi v n xs hs (hown.alloc _) w.heap.size 0 1 1 u.cs hx rfl ?_ ?_ h63 hbytes (fun v' w' h1 h2 => h v' w' h1 ((Ext.alloc v _).trans h2))
  · intro j y hj
    match j, hj with
    | 0, hj => simp [U.cs] at hj; subst hj; simp
    | 1, hj => simp [U.cs] at hj; subst hj; simp
    | 2, hj => simp [U.cs] at hj; subst hj; simp
    | 3, hj => simp [U.cs] at hj; subst hj; simp
    | j + 4, hj => simp [U.cs] at hj
  · intro y hy
    simp [U.cs] at hy
    rcases hy with rfl | rfl | rfl | rfl <;> rfl

/-- Runs: one value more. -/
def lastU (r : List U) : U := r.getD (r.length - 1) U.zero
def addRun (r : List U) (v : V) : List U := if 0 < r.length ∧ (lastU r).v.eqB v = true then r.set (r.length - 1) ⟨(lastU r).v, (lastU r).k + 1⟩ else r ++ [⟨v, 1⟩]
def runsL (l : List V) : List U := l.foldl addRun []
theorem runsL_snoc (l : List V) (v : V) : runsL (l ++ [v]) = addRun (runsL l) v := by simp [runsL]
theorem addRun_len (r : List U) (v : V) : r.length ≤ (addRun r v).length ∧ (addRun r v).length ≤ r.length + 1 := by
  unfold addRun
  split
  · simp
  · simp
theorem addRun_k {r : List U} {n : Nat} (h : ∀ u ∈ r, 1 ≤ u.k ∧ u.k ≤ n) (v : V) : ∀ u ∈ addRun r v, 1 ≤ u.k ∧ u.k ≤ (n : Int) + 1 := by
  intro u hu
  unfold addRun at hu
  split at hu
  · rename_i hc
    rcases List.mem_or_eq_of_mem_set hu with hu | rfl
    · have := h u hu
      omega
    · have hm : lastU r ∈ r := by
        unfold lastU
        have hk : r.length - 1 < r.length := by omega
        have e : r.getD (r.length - 1) U.zero = r[r.length - 1] := by simp [hk]
        rw [e]
        exact List.getElem_mem hk
      have := h _ hm
      simp only
      omega
  · rcases List.mem_append.1 hu with hu | hu
    · have := h u hu
      omega
    · rw [List.mem_singleton.1 hu]
      simp only
      omega
theorem runsL_len (l : List V) : (runsL l).length ≤ l.length := by
  have : ∀ (l : List V) (r : List U), (l.foldl addRun r).length ≤ r.length + l.length := by
    intro l
    induction l with
    | nil => intro r; simp
    | cons v l ih =>
      intro r
      have h1 := ih (addRun r v)
      have h2 := (addRun_len r v).2
      simp only [List.foldl_cons, List.length_cons]
      omega
  have := this l []
  simpa [runsL] using this
theorem runsL_k (l : List V) : ∀ u ∈ runsL l, 1 ≤ u.k ∧ u.k ≤ l.length := by
  have : ∀ (n : Nat), n ≤ l.length → ∀ u ∈ runsL (l.take n), 1 ≤ u.k ∧ u.k ≤ (n : Int) := by
    intro n
    induction n with
    | zero => intro _ u hu; simp [runsL] at hu
    | succ n ih =>
      intro hn u hu
      rw [List.take_succ_eq_append_getElem (by omega), runsL_snoc] at hu
      have := addRun_k (ih (by omega)) _ u hu
      omega
  have := this l.length (Nat.le_refl _)
  rw [List.take_length] at this
  exact this
theorem rus_setK (r : List U) (j : Nat) (k : Int) (hj : j < r.length) : rus (r.set j ⟨(r.getD j U.zero).v, k⟩) = (rus r).set (j * 4 + 3) (.int .i64 k) := by
  have e : r.getD j U.zero = r[j] := by simp [hj]
  rw [rus_set r j _ hj, e]
  simp only
  have g0 : (rus r)[j * 4]? = some (.int .i64 r[j].v.ty) := rus_get (j := 0) hj (by omega)
  have g1 : (rus r)[j * 4 + 1]? = some (.int .i64 r[j].v.n) := rus_get (j := 1) hj (by omega)
  have g2 : (rus r)[j * 4 + 2]? = some (.string r[j].v.s) := rus_get (j := 2) hj (by omega)
  have same : ∀ (xs : List Value) (i : Nat) (x : Value), xs[i]? = some x → xs.set i x = xs := by
    intro xs i x h
    obtain ⟨h1, h2⟩ := List.getElem?_eq_some_iff.1 h
    rw [← h2, List.set_getElem_self]
  rw [same _ _ _ g0, same _ _ _ g1, same _ _ _ g2]

theorem addRun_new {r : List U} {v : V} (h : r.length = 0) : addRun r v = r ++ [⟨v, 1⟩] := if_neg (fun h2 => by omega)
theorem addRun_ne {r : List U} {v : V} (h : (lastU r).v.eqB v = false) : addRun r v = r ++ [⟨v, 1⟩] := if_neg (fun h2 => by rw [h] at h2; cases h2.2)
theorem addRun_eq {r : List U} {v : V} {m : Nat} (hm : r.length = m + 1) (h : (r.getD m U.zero).v.eqB v = true) : addRun r v = r.set m ⟨(r.getD m U.zero).v, (r.getD m U.zero).k + 1⟩ := by
  have e : r.length - 1 = m := by omega
  unfold addRun lastU
  rw [e, if_pos ⟨by omega, h⟩]

set_option maxHeartbeats 2000000 in
theorem sRuns (u : Value) (l : List V) (w : World) (hn : l.length ≤ 1048576) (h : Rd 3 w u l.length (vals l)) :
    Calls Try.prog 40 #[u] w fun e w' => ∃ v', e = .returned v' ∧ Own 57 4 w.heap.size w'.heap.size w' v' (runsL l).length (rus (runsL l)) ∧ Below w.heap.size w w' := by
  have hown0 := own_lit (e := 57) (size := 4) w #[] 0 (Nat.zero_le _) rfl
  have hb0 := below_alloc w (.cells #[] 57)
  generalize hl : l.length = n at h hn
  obtain ⟨a, cap, rfl, _, HC⟩ := h.vals hl
  have HL := Lib.hid hl
  have HS : Hid (∀ k, k < n → runsL (l.take (k + 1)) = addRun (runsL (l.take k)) (l.getD k V.zero)) := fun k hk => by
    have hk' : k < l.length := by omega
    have e : l.getD k V.zero = l[k] := by simp [hk']
    rw [e, List.take_succ_eq_append_getElem hk', runsL_snoc]
  have HLEN : Hid (∀ k, k ≤ n → (runsL (l.take k)).length ≤ k ∧ ∀ u ∈ runsL (l.take k), 1 ≤ u.k ∧ u.k ≤ k) := fun k hk => by
    have e : (l.take k).length = k := by simp; omega
    have h1 := runsL_len (l.take k)
    have h2 := runsL_k (l.take k)
    rw [e] at h1 h2
    exact ⟨h1, h2⟩
  clear hl h
  go_enter Try.func40, Try.ntmps40
  go_wp2
  go_loopw [3, 4] (fun o i wr => ∃ k : Nat, k ≤ n ∧ i = .int .i64 k ∧ Own 57 4 w.heap.size wr.heap.size wr o (runsL (l.take k)).length (rus (runsL (l.take k))) ∧ Below w.heap.size w wr) (fun _ i _ => n - (intOf i).toNat)
  case atStart => exact ⟨0, Nat.zero_le _, rfl, hown0, hb0⟩
  case round =>
    obtain ⟨k, hk, rfl, hown, hbr⟩ := hrel
    by_cases hlt : k < n
    · obtain ⟨b, off, rfl, p0, p1, p2⟩ := HC.out k hlt
      have HSK := Lib.hid (HS.out k hlt)
      obtain ⟨hrl, hrk⟩ := HLEN.out k hk
      have HRK := Lib.hid hrk
      clear hrk
      replace p0 := (hbr.cell (p := ⟨b, off + k * 3, none⟩) (lt_of_cell p0)).trans p0
      replace p1 := (hbr.cell (p := ⟨b, off + k * 3 + 1, none⟩) (lt_of_cell p1)).trans p1
      replace p2 := (hbr.cell (p := ⟨b, off + k * 3 + 2, none⟩) (lt_of_cell p2)).trans p2
      generalize l.getD k V.zero = x at p0 p1 p2 HSK
      generalize runsL (l.take k) = r at hown hrl HRK HSK
      have HVA : Hid (rus r ++ U.cs ⟨x, 1⟩ = rus (r ++ [(⟨x, 1⟩ : U)])) := by
        show _ = _
        simp [rus]
      have HLN : Hid ((r ++ [(⟨x, 1⟩ : U)]).length = r.length + 1) := by
        show _ = _
        simp
      obtain ⟨g, cp, rfl, hg1, hg2, hrow⟩ := hown
      have hown : Own 57 4 w.heap.size wr.heap.size wr (.slice (some ⟨g, 0, none⟩) r.length cp) r.length (rus r) := ⟨g, cp, rfl, hg1, hg2, hrow⟩
      clear hg1 hg2 hrow
      obtain ⟨xt, xn, xs⟩ := x
      simp only at p0 p1 p2
      by_cases hr0 : r.length = 0
      · rw [addRun_new hr0] at HSK
        rw [hr0] at hown HLN
        rw [hr0]
        clear hrl hr0 HRK
        go_wp2
        go_quiet (fail)
        go_wp2_with (at_builtin; refine appendU_law Try.elemRuns rfl _ _ rfl _ _ _ _ _ ⟨⟨xt, xn, xs⟩, 1⟩ rfl (hown.drewN _) rfl (by unfold maxLen; omega) (by omega) ?_)
        intro v3 w3 o3 e3
        have b3 := (hbr.trans (below_drewN _ _ _)).trans (e3.below (hown.drewN _))
        rw [HVA.out] at o3
        have O3 := Lib.hid o3
        clear o3 e3 hown p0 p1 p2
        go_wp2
        go_roundw
        case rel => exact ⟨k + 1, by omega, by go_num, by rw [HSK.out, HLN.out]; exact O3.out, b3⟩
        case measure => simp [intOf]; omega
      · obtain ⟨m, hm⟩ : ∃ m, r.length = m + 1 := ⟨r.length - 1, by omega⟩
        have hmr : m < r.length := by omega
        obtain ⟨b', off', cp', e', _, _, _, hcs⟩ := hown.at
        simp only [Value.slice.injEq, Option.some.injEq, Addr.mk.injEq, and_true, true_and] at e'
        obtain ⟨⟨rfl, rfl⟩, rfl⟩ := e'
        obtain ⟨q0, q1, q2, q3⟩ := cells4 hcs hmr
        have hgd : r.getD m U.zero = r[m] := by simp [hmr]
        rw [← hgd] at q0 q1 q2 q3
        simp only [Nat.zero_add] at q0 q1 q2 q3
        have hmem : r.getD m U.zero ∈ r := by rw [hgd]; exact List.getElem_mem hmr
        obtain ⟨hk1, hk2⟩ := HRK.out _ hmem
        have HQ := Lib.hid (fun W => run_eql_val (r.getD m U.zero).v ⟨xt, xn, xs⟩ W)
        have HSE : Hid ((r.getD m U.zero).v.eqB ⟨xt, xn, xs⟩ = true → addRun r ⟨xt, xn, xs⟩ = r.set m ⟨(r.getD m U.zero).v, (r.getD m U.zero).k + 1⟩) := fun h => addRun_eq hm h
        have HSN : Hid ((r.getD m U.zero).v.eqB ⟨xt, xn, xs⟩ = false → addRun r ⟨xt, xn, xs⟩ = r ++ [⟨⟨xt, xn, xs⟩, 1⟩]) := fun h => addRun_ne (by unfold lastU; rw [show r.length - 1 = m by omega]; exact h)
        have HST : Hid (∀ d, ((wr.drewN d).setCell ⟨g, m * 4 + 3, none⟩ (.int .i64 ((r.getD m U.zero).k + 1))).ownsRow w.heap.size 57 4 (.slice (some ⟨g, 0, none⟩) (m + 1) cp) (m + 1) (rus (r.set m ⟨(r.getD m U.zero).v, (r.getD m U.zero).k + 1⟩)) ∧ (wr.drewN d).grownBy ((wr.drewN d).setCell ⟨g, m * 4 + 3, none⟩ (.int .i64 ((r.getD m U.zero).k + 1))) (some g)) := fun d => by
          have hrow := (hown.drewN d).row
          rw [rus_setK r m _ hmr]
          rw [hm] at hrow
          exact hrow.stored (m * 4 + 3) _
        have HFZ : Hid (∀ d, (wr.drewN d).frozen? ⟨g, m * 4 + 3, none⟩ = false) := fun d => (hown.drewN d).row.frozenAt _
        have HBK : Hid (w.heap.size ≤ g) := by
          obtain ⟨g2, c2, e2, h2, _⟩ := hown
          cases e2
          exact h2
        have HLS : Hid ((r.set m ⟨(r.getD m U.zero).v, (r.getD m U.zero).k + 1⟩).length = m + 1) := by
          show _ = _
          rw [List.length_set, hm]
        rw [hm] at hown HLN hrl
        rw [hm]
        clear hcs hgd hmem HRK hr0
        generalize r.getD m U.zero = y at q0 q1 q2 q3 hk1 hk2 HQ HSE HSN HST HLS
        obtain ⟨⟨yt, yn, ys⟩, yk⟩ := y
        simp only at q0 q1 q2 q3 hk1 hk2 HQ HSE HSN HST HLS
        cases he : V.eqB ⟨yt, yn, ys⟩ ⟨xt, xn, xs⟩ with
        | false =>
          rw [he] at HQ
          rw [HSN.out he] at HSK
          have hq := HQ.out
          clear he HSE HSN HST HLS HFZ
          go_wp2
          go_quiet (fail)
          go_wp2_with (at_builtin; refine appendU_law Try.elemRuns rfl _ _ rfl _ _ _ _ _ ⟨⟨xt, xn, xs⟩, 1⟩ rfl (hown.drewN _) rfl (by unfold maxLen; omega) (by omega) ?_)
          intro v3 w3 o3 e3
          have b3 := (hbr.trans (below_drewN _ _ _)).trans (e3.below (hown.drewN _))
          rw [HVA.out] at o3
          have O3 := Lib.hid o3
          clear o3 e3 hown p0 p1 p2
          go_wp2
          go_roundw
          case rel => exact ⟨k + 1, by omega, by go_num, by rw [HSK.out, HLN.out]; exact O3.out, b3⟩
          case measure => simp [intOf]; omega
        | true =>
          rw [he] at HQ
          rw [HSE.out he] at HSK
          have hq := HQ.out
          have z3 : ∀ d, (wr.drewN d).cell? ⟨g, m * 4 + 3, none⟩ = some (.int .i64 yk) := fun d => q3
          have f3 := HFZ.out
          clear he HSE HSN
          go_wp2
          go_quiet (fail)
          go_wp2
          go_roundw
          case rel =>
            refine ⟨k + 1, by omega, by go_num, ?_, ?_⟩
            · rw [HSK.out, HLS.out]
              exact ⟨g, cp, rfl, HBK.out, ((HST.out _).1.lt g rfl).2, (HST.out _).1⟩
            · have R := (HST.out nq).2
              have hB := hbr.trans (below_drewN wr w.heap.size nq)
              exact hB.trans ⟨R.os, R.tape, R.output, R.size, fun j hj => R.block j (by have := hB.size; omega) (by have := HBK.out; simp; omega)⟩
          case measure => simp [intOf]; omega
    · obtain rfl : k = n := by omega
      rw [← HL.out, List.take_length] at hown
      go_wp2
      go_ret
      exact ⟨_, rfl, hown, hbr⟩

end Go.Proofs.Ythniakklkepomaa
