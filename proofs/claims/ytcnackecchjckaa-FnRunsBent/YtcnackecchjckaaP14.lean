/- Texts of this claim, one behind the other: S6, S6b, S5p. -/
import Derived.Test.YtcnackecchjckaaP11
import Derived.Test.YtcnackecchjckaaP12
import Derived.Test.YtcnackecchjckaaP6
import Derived.Test.YtcnackecchjckaaP4

/- The contracts of the model's Runs and Turns. -/
namespace Go.Proofs.Ytcnackecchjckaa
open Go.RowKit

/-- append(s, x): x, a Run, has just been laid in a block of its own. -/
theorem appendU_law {P : Program} {t e : TypeId} {z : Value} {bytes : Nat} (T : ElemT P t e z 4 bytes) {w : World} {ops : Array Oper} {rest : List Oper} {o : Oper} {a : Act} {Q : Exit → Act → World → Prop} (hgd : o.guard = none) (s x : Operand)
    (ho : o.op = .call { callee := .builtin .append, args := #[s, x], argTypes := #[t, t] })
    (lo hi : Nat) (v : Value) (n : Nat) (xs : List Value) (u : U) (hs : a.eval s = v) (hown : Own e 4 lo hi w v n xs)
    (hx : a.eval x = .slice (some ⟨w.heap.size, 0, none⟩) 1 1)
    (h63 : n + 1 ≤ maxLen) (hbytes : (n + 1) * bytes ≤ 140737488355328)
    (h : ∀ v' w', Own e 4 lo w'.heap.size w' v' (n + 1) (xs ++ u.cs) → Ext w w' v v' → wpList P ops Q rest (a.put o.dst v') w') : wpList P ops Q (o :: rest) a (w.alloc (.cells #[.int .i64 u.v.ty, .int .i64 u.v.n, .string u.v.s, .int .i64 u.k] e)) := by
  refine append_law T hgd s x ho lo hi v n xs hs (hown.alloc _) w.heap.size 0 1 1 u.cs hx rfl ?_ ?_ h63 hbytes (fun v' w' h1 h2 => h v' w' h1 ((Ext.alloc v _).trans h2))
  · intro j y hj
    match j, hj with
    | 0, hj => simp [U.cs] at hj; subst hj; simp
    | 1, hj => simp [U.cs] at hj; subst hj; simp
    | 2, hj => simp [U.cs] at hj; subst hj; simp
    | 3, hj => simp [U.cs] at hj; subst hj; simp
    | j + 4, hj => simp [U.cs] at hj
  · intro y hy
    simp [U.cs] at hy
    rcases hy with rfl | rfl | rfl | rfl <;> rfl

/-- Runs: one value more. -/
def lastU (r : List U) : U := r.getD (r.length - 1) U.zero
def addRun (r : List U) (v : V) : List U := if 0 < r.length ∧ (lastU r).v.eqB v = true then r.set (r.length - 1) ⟨(lastU r).v, (lastU r).k + 1⟩ else r ++ [⟨v, 1⟩]
def runsL (l : List V) : List U := l.foldl addRun []
theorem runsL_snoc (l : List V) (v : V) : runsL (l ++ [v]) = addRun (runsL l) v := by simp [runsL]
theorem addRun_len (r : List U) (v : V) : r.length ≤ (addRun r v).length ∧ (addRun r v).length ≤ r.length + 1 := by
  unfold addRun
  split
  · simp
  · simp
theorem addRun_k {r : List U} {n : Nat} (h : ∀ u ∈ r, 1 ≤ u.k ∧ u.k ≤ n) (v : V) : ∀ u ∈ addRun r v, 1 ≤ u.k ∧ u.k ≤ (n : Int) + 1 := by
  intro u hu
  unfold addRun at hu
  split at hu
  · rename_i hc
    rcases List.mem_or_eq_of_mem_set hu with hu | rfl
    · have := h u hu
      omega
    · have hm : lastU r ∈ r := by
        unfold lastU
        have hk : r.length - 1 < r.length := by omega
        have e : r.getD (r.length - 1) U.zero = r[r.length - 1] := by simp [hk]
        rw [e]
        exact List.getElem_mem hk
      have := h _ hm
      simp only
      omega
  · rcases List.mem_append.1 hu with hu | hu
    · have := h u hu
      omega
    · rw [List.mem_singleton.1 hu]
      simp only
      omega
theorem runsL_len (l : List V) : (runsL l).length ≤ l.length := by
  have : ∀ (l : List V) (r : List U), (l.foldl addRun r).length ≤ r.length + l.length := by
    intro l
    induction l with
    | nil => intro r; simp
    | cons v l ih =>
      intro r
      have h1 := ih (addRun r v)
      have h2 := (addRun_len r v).2
      simp only [List.foldl_cons, List.length_cons]
      omega
  have := this l []
  simpa [runsL] using this
theorem runsL_k (l : List V) : ∀ u ∈ runsL l, 1 ≤ u.k ∧ u.k ≤ l.length := by
  have : ∀ (n : Nat), n ≤ l.length → ∀ u ∈ runsL (l.take n), 1 ≤ u.k ∧ u.k ≤ (n : Int) := by
    intro n
    induction n with
    | zero => intro _ u hu; simp [runsL] at hu
    | succ n ih =>
      intro hn u hu
      rw [List.take_succ_eq_append_getElem (by omega), runsL_snoc] at hu
      have := addRun_k (ih (by omega)) _ u hu
      omega
  have := this l.length (Nat.le_refl _)
  rw [List.take_length] at this
  exact this
theorem rus_setK (r : List U) (j : Nat) (k : Int) (hj : j < r.length) : rus (r.set j ⟨(r.getD j U.zero).v, k⟩) = (rus r).set (j * 4 + 3) (.int .i64 k) := by
  have e : r.getD j U.zero = r[j] := by simp [hj]
  rw [rus_set r j _ hj, e]
  simp only
  have g0 : (rus r)[j * 4]? = some (.int .i64 r[j].v.ty) := rus_get (j := 0) hj (by omega)
  have g1 : (rus r)[j * 4 + 1]? = some (.int .i64 r[j].v.n) := rus_get (j := 1) hj (by omega)
  have g2 : (rus r)[j * 4 + 2]? = some (.string r[j].v.s) := rus_get (j := 2) hj (by omega)
  have same : ∀ (xs : List Value) (i : Nat) (x : Value), xs[i]? = some x → xs.set i x = xs := by
    intro xs i x h
    obtain ⟨h1, h2⟩ := List.getElem?_eq_some_iff.1 h
    rw [← h2, List.set_getElem_self]
  rw [same _ _ _ g0, same _ _ _ g1, same _ _ _ g2]

theorem Own.drewN {e size lo hi w v n xs} (h : Own e size lo hi w v n xs) (d : Nat) : Own e size lo hi (w.drewN d) v n xs := by
  obtain ⟨g, cap, rfl, h1, h2, h3⟩ := h
  exact ⟨g, cap, rfl, h1, h2, h3.1, h3.2⟩
theorem addRun_new {r : List U} {v : V} (h : r.length = 0) : addRun r v = r ++ [⟨v, 1⟩] := if_neg (fun h2 => by omega)
theorem addRun_ne {r : List U} {v : V} (h : (lastU r).v.eqB v = false) : addRun r v = r ++ [⟨v, 1⟩] := if_neg (fun h2 => by rw [h] at h2; cases h2.2)
theorem addRun_eq {r : List U} {v : V} {m : Nat} (hm : r.length = m + 1) (h : (r.getD m U.zero).v.eqB v = true) : addRun r v = r.set m ⟨(r.getD m U.zero).v, (r.getD m U.zero).k + 1⟩ := by
  have e : r.length - 1 = m := by omega
  unfold addRun lastU
  rw [e, if_pos ⟨by omega, h⟩]

set_option maxHeartbeats 2000000 in
theorem sRuns (u : Value) (l : List V) (w : World) (hn : l.length ≤ 1048576) (h : Rd 3 w u l.length (vals l)) :
    Calls Try.prog 30 #[u] w fun e w' => ∃ v', e = .returned v' ∧ Own 36 4 w.heap.size w'.heap.size w' v' (runsL l).length (rus (runsL l)) ∧ Below w.heap.size w w' := by
  have hown0 := own_lit (e := 36) (size := 4) w #[] 0 (Nat.zero_le _) rfl
  have hb0 := below_alloc w (.cells #[] 36)
  generalize hl : l.length = n at h hn
  obtain ⟨a, cap, rfl, _, HC⟩ := h.vals hl
  have HL := Lib.hid hl
  have HS : Hid (∀ k, k < n → runsL (l.take (k + 1)) = addRun (runsL (l.take k)) (l.getD k V.zero)) := fun k hk => by
    have hk' : k < l.length := by omega
    have e : l.getD k V.zero = l[k] := by simp [hk']
    rw [e, List.take_succ_eq_append_getElem hk', runsL_snoc]
  have HLEN : Hid (∀ k, k ≤ n → (runsL (l.take k)).length ≤ k ∧ ∀ u ∈ runsL (l.take k), 1 ≤ u.k ∧ u.k ≤ k) := fun k hk => by
    have e : (l.take k).length = k := by simp; omega
    have h1 := runsL_len (l.take k)
    have h2 := runsL_k (l.take k)
    rw [e] at h1 h2
    exact ⟨h1, h2⟩
  clear hl h
  go_enter Try.func30, Try.ntmps30
  go_wp2
  go_loopw [3, 4] (fun o i wr => ∃ k : Nat, k ≤ n ∧ i = .int .i64 k ∧ Own 36 4 w.heap.size wr.heap.size wr o (runsL (l.take k)).length (rus (runsL (l.take k))) ∧ Below w.heap.size w wr) (fun _ i _ => n - (intOf i).toNat)
  case atStart => exact ⟨0, Nat.zero_le _, rfl, hown0, hb0⟩
  case round =>
    obtain ⟨k, hk, rfl, hown, hbr⟩ := hrel
    by_cases hlt : k < n
    · obtain ⟨b, off, rfl, p0, p1, p2⟩ := HC.out k hlt
      have HSK := Lib.hid (HS.out k hlt)
      obtain ⟨hrl, hrk⟩ := HLEN.out k hk
      have HRK := Lib.hid hrk
      clear hrk
      replace p0 := (hbr.cell (p := ⟨b, off + k * 3, none⟩) (lt_of_cell p0)).trans p0
      replace p1 := (hbr.cell (p := ⟨b, off + k * 3 + 1, none⟩) (lt_of_cell p1)).trans p1
      replace p2 := (hbr.cell (p := ⟨b, off + k * 3 + 2, none⟩) (lt_of_cell p2)).trans p2
      generalize l.getD k V.zero = x at p0 p1 p2 HSK
      generalize runsL (l.take k) = r at hown hrl HRK HSK
      have HVA : Hid (rus r ++ U.cs ⟨x, 1⟩ = rus (r ++ [(⟨x, 1⟩ : U)])) := by
        show _ = _
        simp [rus]
      have HLN : Hid ((r ++ [(⟨x, 1⟩ : U)]).length = r.length + 1) := by
        show _ = _
        simp
      obtain ⟨g, cp, rfl, hg1, hg2, hrow⟩ := hown
      have hown : Own 36 4 w.heap.size wr.heap.size wr (.slice (some ⟨g, 0, none⟩) r.length cp) r.length (rus r) := ⟨g, cp, rfl, hg1, hg2, hrow⟩
      clear hg1 hg2 hrow
      obtain ⟨xt, xn, xs⟩ := x
      simp only at p0 p1 p2
      by_cases hr0 : r.length = 0
      · rw [addRun_new hr0] at HSK
        rw [hr0] at hown HLN
        rw [hr0]
        clear hrl hr0 HRK
        go_wp2
        go_quiet (fail)
        go_wp2_with (at_builtin; refine appendU_law Try.elemRuns rfl _ _ rfl _ _ _ _ _ ⟨⟨xt, xn, xs⟩, 1⟩ rfl (hown.drewN _) rfl (by unfold maxLen; omega) (by omega) ?_)
        intro v3 w3 o3 e3
        have b3 := (hbr.trans (below_drewN _ _ _)).trans (e3.below (hown.drewN _))
        rw [HVA.out] at o3
        have O3 := Lib.hid o3
        clear o3 e3 hown p0 p1 p2
        go_wp2
        go_roundw
        case rel => exact ⟨k + 1, by omega, by go_num, by rw [HSK.out, HLN.out]; exact O3.out, b3⟩
        case measure => simp [intOf]; omega
      · obtain ⟨m, hm⟩ : ∃ m, r.length = m + 1 := ⟨r.length - 1, by omega⟩
        have hmr : m < r.length := by omega
        obtain ⟨b', off', cp', e', _, _, _, hcs⟩ := hown.at
        simp only [Value.slice.injEq, Option.some.injEq, Addr.mk.injEq, and_true, true_and] at e'
        obtain ⟨⟨rfl, rfl⟩, rfl⟩ := e'
        obtain ⟨q0, q1, q2, q3⟩ := cells4 hcs hmr
        have hgd : r.getD m U.zero = r[m] := by simp [hmr]
        rw [← hgd] at q0 q1 q2 q3
        simp only [Nat.zero_add] at q0 q1 q2 q3
        have hmem : r.getD m U.zero ∈ r := by rw [hgd]; exact List.getElem_mem hmr
        obtain ⟨hk1, hk2⟩ := HRK.out _ hmem
        have HQ := Lib.hid (fun W => run_eql_val (r.getD m U.zero).v ⟨xt, xn, xs⟩ W)
        have HSE : Hid ((r.getD m U.zero).v.eqB ⟨xt, xn, xs⟩ = true → addRun r ⟨xt, xn, xs⟩ = r.set m ⟨(r.getD m U.zero).v, (r.getD m U.zero).k + 1⟩) := fun h => addRun_eq hm h
        have HSN : Hid ((r.getD m U.zero).v.eqB ⟨xt, xn, xs⟩ = false → addRun r ⟨xt, xn, xs⟩ = r ++ [⟨⟨xt, xn, xs⟩, 1⟩]) := fun h => addRun_ne (by unfold lastU; rw [show r.length - 1 = m by omega]; exact h)
        have HST : Hid (∀ d, ((wr.drewN d).setCell ⟨g, m * 4 + 3, none⟩ (.int .i64 ((r.getD m U.zero).k + 1))).ownsRow w.heap.size 36 4 (.slice (some ⟨g, 0, none⟩) (m + 1) cp) (m + 1) (rus (r.set m ⟨(r.getD m U.zero).v, (r.getD m U.zero).k + 1⟩)) ∧ (wr.drewN d).grownBy ((wr.drewN d).setCell ⟨g, m * 4 + 3, none⟩ (.int .i64 ((r.getD m U.zero).k + 1))) (some g)) := fun d => by
          have hrow := (hown.drewN d).row
          rw [rus_setK r m _ hmr]
          rw [hm] at hrow
          exact hrow.stored (m * 4 + 3) _
        have HFZ : Hid (∀ d, (wr.drewN d).frozen? ⟨g, m * 4 + 3, none⟩ = false) := fun d => (hown.drewN d).row.frozenAt _
        have HBK : Hid (w.heap.size ≤ g) := by
          obtain ⟨g2, c2, e2, h2, _⟩ := hown
          cases e2
          exact h2
        have HLS : Hid ((r.set m ⟨(r.getD m U.zero).v, (r.getD m U.zero).k + 1⟩).length = m + 1) := by
          show _ = _
          rw [List.length_set, hm]
        rw [hm] at hown HLN hrl
        rw [hm]
        clear hcs hgd hmem HRK hr0
        generalize r.getD m U.zero = y at q0 q1 q2 q3 hk1 hk2 HQ HSE HSN HST HLS
        obtain ⟨⟨yt, yn, ys⟩, yk⟩ := y
        simp only at q0 q1 q2 q3 hk1 hk2 HQ HSE HSN HST HLS
        cases he : V.eqB ⟨yt, yn, ys⟩ ⟨xt, xn, xs⟩ with
        | false =>
          rw [he] at HQ
          rw [HSN.out he] at HSK
          have hq := HQ.out
          clear he HSE HSN HST HLS HFZ
          go_wp2
          go_quiet (fail)
          go_wp2_with (at_builtin; refine appendU_law Try.elemRuns rfl _ _ rfl _ _ _ _ _ ⟨⟨xt, xn, xs⟩, 1⟩ rfl (hown.drewN _) rfl (by unfold maxLen; omega) (by omega) ?_)
          intro v3 w3 o3 e3
          have b3 := (hbr.trans (below_drewN _ _ _)).trans (e3.below (hown.drewN _))
          rw [HVA.out] at o3
          have O3 := Lib.hid o3
          clear o3 e3 hown p0 p1 p2
          go_wp2
          go_roundw
          case rel => exact ⟨k + 1, by omega, by go_num, by rw [HSK.out, HLN.out]; exact O3.out, b3⟩
          case measure => simp [intOf]; omega
        | true =>
          rw [he] at HQ
          rw [HSE.out he] at HSK
          have hq := HQ.out
          have z3 : ∀ d, (wr.drewN d).cell? ⟨g, m * 4 + 3, none⟩ = some (.int .i64 yk) := fun d => q3
          have f3 := HFZ.out
          clear he HSE HSN
          go_wp2
          go_quiet (fail)
          go_wp2
          go_roundw
          case rel =>
            refine ⟨k + 1, by omega, by go_num, ?_, ?_⟩
            · rw [HSK.out, HLS.out]
              exact ⟨g, cp, rfl, HBK.out, ((HST.out _).1.lt g rfl).2, (HST.out _).1⟩
            · have R := (HST.out nq).2
              have hB := hbr.trans (below_drewN wr w.heap.size nq)
              exact hB.trans ⟨R.os, R.tape, R.output, R.size, fun j hj => R.block j (by have := hB.size; omega) (by have := HBK.out; simp; omega)⟩
          case measure => simp [intOf]; omega
    · obtain rfl : k = n := by omega
      rw [← HL.out, List.take_length] at hown
      go_wp2
      go_ret
      exact ⟨_, rfl, hown, hbr⟩

end Go.Proofs.Ytcnackecchjckaa

/- The contracts of the model's Turns, LongestRun and Spread. -/
namespace Go.Proofs.Ytcnackecchjckaa
open Go.RowKit

/-- Turns: among the first k values. -/
def turnsK (l : List V) : Nat → Nat
  | 0 => 0
  | k + 1 => turnsK l k + (if 0 < k ∧ (l.getD k V.zero).eqB (l.getD (k - 1) V.zero) = false then 1 else 0)
def turnsL (l : List V) : Nat := turnsK l l.length
theorem turnsK_le (l : List V) : ∀ k, turnsK l k ≤ k
  | 0 => Nat.le_refl _
  | k + 1 => by
    have := turnsK_le l k
    rw [turnsK]
    split <;> omega

set_option maxHeartbeats 1000000 in
theorem sTurns (u : Value) (l : List V) (w : World) (h : Rd 3 w u l.length (vals l)) :
    Calls Try.prog 20 #[u] w fun e w' => e = .returned (.int .i64 (turnsL l : Nat)) ∧ Below w.heap.size w w' := by
  have HE : Hid (turnsL l = turnsK l l.length) := rfl
  generalize hl : l.length = n at h HE
  obtain ⟨a, cap, rfl, hm, HC⟩ := h.vals hl
  unfold maxLen at hm
  have HT : Hid (∀ k, turnsK l (k + 1) = turnsK l k + (if 0 < k ∧ (l.getD k V.zero).eqB (l.getD (k - 1) V.zero) = false then 1 else 0)) := fun k => rfl
  have HLE := Lib.hid (turnsK_le l)
  have H1 : Hid (turnsK l 1 = 0) := rfl
  have H0 : Hid (turnsK l 0 = 0) := rfl
  clear h hl
  rw [HE.out]
  clear HE
  go_enter Try.func20, Try.ntmps20
  go_wp2
  go_loopw [3, 4] (fun c i wr => ∃ k : Nat, 1 ≤ k ∧ (k ≤ n ∨ (n = 0 ∧ k = 1)) ∧ i = .int .i64 k ∧ c = .int .i64 (turnsK l k : Nat) ∧ Below w.heap.size w wr) (fun _ i _ => n - (intOf i).toNat)
  case atStart => exact ⟨1, Nat.le_refl _, by omega, rfl, by rw [H1.out]; rfl, Below.refl _ _⟩
  case round =>
    obtain ⟨k, hk1, hk, rfl, rfl, hbr⟩ := hrel
    by_cases hlt : k < n
    · obtain ⟨j, rfl⟩ : ∃ j, k = j + 1 := ⟨k - 1, by omega⟩
      obtain ⟨b, off, e1, p0, p1, p2⟩ := HC.out (j + 1) hlt
      obtain ⟨b', off', e2, q0, q1, q2⟩ := HC.out j (by omega)
      subst e1
      simp only [Option.some.injEq, Addr.mk.injEq, and_true] at e2
      obtain ⟨rfl, rfl⟩ := e2
      have HTK := Lib.hid (HT.out (j + 1))
      rw [show j + 1 - 1 = j by omega] at HTK
      have hle := HLE.out (j + 1)
      have HQ := Lib.hid (fun W => run_neq_val (l.getD (j + 1) V.zero) (l.getD j V.zero) W)
      generalize turnsK l (j + 1) = c at hle HTK ⊢
      generalize l.getD (j + 1) V.zero = x at p0 p1 p2 HTK HQ
      generalize l.getD j V.zero = y at q0 q1 q2 HTK HQ
      replace p0 := (hbr.cell (p := ⟨b, off + (j + 1) * 3, none⟩) (lt_of_cell p0)).trans p0
      replace p1 := (hbr.cell (p := ⟨b, off + (j + 1) * 3 + 1, none⟩) (lt_of_cell p1)).trans p1
      replace p2 := (hbr.cell (p := ⟨b, off + (j + 1) * 3 + 2, none⟩) (lt_of_cell p2)).trans p2
      replace q0 := (hbr.cell (p := ⟨b, off + j * 3, none⟩) (lt_of_cell q0)).trans q0
      replace q1 := (hbr.cell (p := ⟨b, off + j * 3 + 1, none⟩) (lt_of_cell q1)).trans q1
      replace q2 := (hbr.cell (p := ⟨b, off + j * 3 + 2, none⟩) (lt_of_cell q2)).trans q2
      obtain ⟨t1, n1, s1⟩ := x
      obtain ⟨t2, n2, s2⟩ := y
      simp only at p0 p1 p2 q0 q1 q2
      cases he : V.eqB ⟨t1, n1, s1⟩ ⟨t2, n2, s2⟩ with
      | true =>
        rw [he] at HQ
        rw [he, if_neg (fun h => by cases h.2), Nat.add_zero] at HTK
        have hq := HQ.out
        clear he
        go_wp2
        go_quiet (fail)
        go_wp2
        go_roundw
        case rel => exact ⟨j + 1 + 1, by omega, by omega, by go_num, by rw [HTK.out]; rfl, hbr.trans (below_drewN _ _ _)⟩
        case measure => simp [intOf]; omega
      | false =>
        rw [he] at HQ
        rw [he, if_pos ⟨by omega, rfl⟩] at HTK
        have hq := HQ.out
        clear he
        go_wp2
        go_quiet (fail)
        go_wp2
        go_roundw
        case rel => exact ⟨j + 1 + 1, by omega, by omega, by go_num, by rw [HTK.out]; go_num, hbr.trans (below_drewN _ _ _)⟩
        case measure => simp [intOf]; omega
    · have hkn : turnsK l k = turnsK l n := by
        rcases hk with h | ⟨h1, h2⟩
        · rw [show k = n by omega]
        · rw [h2, h1, H1.out, H0.out]
      rw [hkn]
      go_wp2
      go_ret
      exact ⟨rfl, hbr⟩

/-- LongestRun. -/
def longK (r : List U) : Int := r.foldl (fun n u => if n < u.k then u.k else n) 0
theorem longK_snoc (r : List U) (u : U) : longK (r ++ [u]) = if longK r < u.k then u.k else longK r := by
  unfold longK
  rw [List.foldl_append]
  rfl
def longL (l : List V) : Int := longK (runsL l)

set_option maxHeartbeats 1000000 in
theorem sLongestRun (u : Value) (l : List V) (w : World) (hn : l.length ≤ 1048576) (h : Rd 3 w u l.length (vals l)) :
    Calls Try.prog 18 #[u] w fun e w' => e = .returned (.int .i64 (longL l)) ∧ Below w.heap.size w w' := by
  have HR := Lib.hid (sRuns u l w hn h)
  have HE : Hid (longL l = longK (runsL l)) := rfl
  have hrl : (runsL l).length ≤ 1048576 := Nat.le_trans (runsL_len l) hn
  obtain ⟨a, cap, rfl, _, _⟩ := h
  generalize runsL l = r at HR HE hrl
  rw [HE.out]
  clear HE
  generalize l.length = n at *
  go_enter Try.func18, Try.ntmps18
  go_wp2_with fail
  refine HR.out.mono ?_
  rintro e w1 ⟨v1, rfl, o1, b1⟩
  generalize hm : r.length = m at o1 hrl
  obtain ⟨a1, c1, rfl, _, HC⟩ := o1.rd.runs hm
  have HM := Lib.hid hm
  have HT : Hid (∀ k, k < m → longK (r.take (k + 1)) = if longK (r.take k) < (r.getD k U.zero).k then (r.getD k U.zero).k else longK (r.take k)) := fun k hk => by
    have hk' : k < r.length := by omega
    have e : r.getD k U.zero = r[k] := by simp [hk']
    rw [e, List.take_succ_eq_append_getElem hk', longK_snoc]
  clear hm HR o1
  go_wp2
  go_loopw [3, 5] (fun c i wr => ∃ k : Nat, k ≤ m ∧ i = .int .i64 k ∧ c = .int .i64 (longK (r.take k)) ∧ Below w1.heap.size w1 wr) (fun _ i _ => m - (intOf i).toNat)
  case atStart => exact ⟨0, Nat.zero_le _, rfl, rfl, Below.refl _ _⟩
  case round =>
    obtain ⟨k, hk, rfl, rfl, hbr⟩ := hrel
    by_cases hlt : k < m
    · obtain ⟨b, off, rfl, c0, c1, c2, c3⟩ := HC.out k hlt wr hbr
      have HTK := Lib.hid (HT.out k hlt)
      have HS := Lib.hid (fun W => sMost (longK (r.take k)) (r.getD k U.zero).k W)
      generalize r.getD k U.zero = x at c0 c1 c2 c3 HTK HS
      obtain ⟨⟨t1, n1, s1⟩, q⟩ := x
      simp only at c0 c1 c2 c3 HTK HS
      generalize longK (r.take k) = z at HTK HS
      rw [← HTK.out] at HS
      generalize hz2 : longK (r.take (k + 1)) = z2 at HTK HS
      have HZ2 := Lib.hid hz2
      clear hz2
      go_wp2_with (go_at_call 53; refine (HS.out _).mono ?_; rintro e w' ⟨rfl, rfl⟩)
      go_roundw
      case rel => exact ⟨k + 1, by omega, by go_num, by rw [HZ2.out], hbr⟩
      case measure => simp [intOf]; omega
    · obtain rfl : k = m := by omega
      rw [← HM.out, List.take_length, HM.out]
      go_wp2
      go_ret
      exact ⟨rfl, below_then b1 hbr b1.size⟩

/-- Spread. -/
def spreadF : List U → List V → Option (List V)
  | [], out => some out
  | u :: r, out => if 1 ≤ u.k ∧ u.k ≤ 64 - (out.length : Int) then spreadF r (out ++ List.replicate u.k.toNat u.v) else none
def spreadL (r : List U) : List V := (spreadF r []).getD []
theorem spreadF_len : ∀ {r : List U} {out l : List V}, out.length ≤ 64 → spreadF r out = some l → l.length ≤ 64
  | [], out, l, h, e => by
    simp only [spreadF, Option.some.injEq] at e
    subst e
    exact h
  | u :: r, out, l, h, e => by
    rw [spreadF] at e
    split at e
    · rename_i hc
      refine spreadF_len ?_ e
      simp only [List.length_append, List.length_replicate]
      omega
    · cases e
theorem spreadL_len (r : List U) : (spreadL r).length ≤ 64 := by
  unfold spreadL
  cases h : spreadF r [] with
  | none => simp
  | some l => exact spreadF_len (by simp) h

set_option maxHeartbeats 2000000 in
theorem sSpread (u : Value) (l : List U) (w : World) (h : Rd 4 w u l.length (rus l)) :
    Calls Try.prog 28 #[u] w fun e w' => ∃ v', e = .returned v' ∧ Own 34 3 w.heap.size w'.heap.size w' v' (spreadL l).length (vals (spreadL l)) ∧ Below w.heap.size w w' := by
  have hown0 := own_lit (e := 34) (size := 3) w #[] 0 (Nat.zero_le _) rfl
  have hb0 := below_alloc w (.cells #[] 34)
  have HE : Hid (spreadL l = (spreadF l []).getD []) := rfl
  generalize hl : l.length = n at h
  obtain ⟨a, cap, rfl, hm, HC⟩ := h.runs hl
  unfold maxLen at hm
  have H0 : Hid (spreadF l [] = spreadF (l.drop 0) []) := rfl
  have HST : Hid (∀ k out, k < n → spreadF (l.drop k) out = if 1 ≤ (l.getD k U.zero).k ∧ (l.getD k U.zero).k ≤ 64 - (out.length : Int) then spreadF (l.drop (k + 1)) (out ++ List.replicate (l.getD k U.zero).k.toNat (l.getD k U.zero).v) else none) := fun k out hk => by
    have hk' : k < l.length := by omega
    have e : l.getD k U.zero = l[k] := by simp [hk']
    rw [e, List.drop_eq_getElem_cons hk', spreadF]
  have HFN : Hid (∀ out, spreadF (l.drop n) out = some out) := fun out => by
    rw [List.drop_of_length_le (by omega)]
    rfl
  clear h hl
  go_enter Try.func28, Try.ntmps28
  go_wp2
  go_loopw [3, 4] (fun o i wr => ∃ (k : Nat) (out : List V), k ≤ n ∧ i = .int .i64 k ∧ out.length ≤ 64 ∧ spreadF l [] = spreadF (l.drop k) out ∧ Own 34 3 w.heap.size wr.heap.size wr o out.length (vals out) ∧ Below w.heap.size w wr) (fun _ i _ => n - (intOf i).toNat)
  case atStart => exact ⟨0, [], Nat.zero_le _, rfl, by simp, H0.out, hown0, hb0⟩
  case round =>
    obtain ⟨k, out, hk, rfl, hol, hsp, hown, hbr⟩ := hrel
    by_cases hlt : k < n
    · obtain ⟨b, off, rfl, c0, c1, c2, c3⟩ := HC.out k hlt wr hbr
      have HSK := Lib.hid (hsp.trans (HST.out k out hlt))
      have HCK : Hid (∀ W, Below w.heap.size w W → W.cell? ⟨b, off + k * 4, none⟩ = some (.int .i64 (l.getD k U.zero).v.ty) ∧ W.cell? ⟨b, off + k * 4 + 1, none⟩ = some (.int .i64 (l.getD k U.zero).v.n) ∧ W.cell? ⟨b, off + k * 4 + 2, none⟩ = some (.string (l.getD k U.zero).v.s) ∧ W.cell? ⟨b, off + k * 4 + 3, none⟩ = some (.int .i64 (l.getD k U.zero).k)) := fun W hW => by
        obtain ⟨_, _, e1, d1⟩ := HC.out k hlt W hW
        cases e1
        exact d1
      generalize l.getD k U.zero = x at c0 c1 c2 c3 HSK HCK
      obtain ⟨⟨t1, n1, s1⟩, q⟩ := x
      simp only at c0 c1 c2 c3 HSK HCK
      clear hsp
      obtain ⟨g, cp, rfl, hg1, hg2, hrow⟩ := hown
      have hown : Own 34 3 w.heap.size wr.heap.size wr (.slice (some ⟨g, 0, none⟩) out.length cp) out.length (vals out) := ⟨g, cp, rfl, hg1, hg2, hrow⟩
      clear hg1 hg2 hrow
      by_cases hq1 : q < 1
      · have HF : Hid (spreadL l = []) := by
          show _ = _
          rw [HE.out, HSK.out, if_neg (by omega)]
          rfl
        have OL := own_lit (e := 34) (size := 3) wr #[] 0 (Nat.zero_le _) rfl
        have BL := hbr.alloc hbr.size (.cells #[] 34)
        have hzz := hbr.size
        clear hown HSK
        generalize out.length = c at *
        go_wp2
        go_ret
        rw [HF.out]
        exact ⟨_, rfl, OL.lower hzz, BL⟩
      by_cases hq2 : 64 - (out.length : Int) < q
      · have HF : Hid (spreadL l = []) := by
          show _ = _
          rw [HE.out, HSK.out, if_neg (by omega)]
          rfl
        have OL := own_lit (e := 34) (size := 3) wr #[] 0 (Nat.zero_le _) rfl
        have BL := hbr.alloc hbr.size (.cells #[] 34)
        have hzz := hbr.size
        clear hown HSK
        generalize out.length = c at *
        go_wp2
        go_ret
        rw [HF.out]
        exact ⟨_, rfl, OL.lower hzz, BL⟩
      obtain ⟨Q, rfl⟩ := Int.eq_ofNat_of_zero_le (show 0 ≤ q by omega)
      rw [if_pos ⟨by omega, by omega⟩, Int.toNat_natCast] at HSK
      have HR0 : Hid (out ++ List.replicate 0 (⟨t1, n1, s1⟩ : V) = out) := by
        show _ = _
        simp
      generalize hcc : out.length = c at hown hq2 hol
      have HCC := Lib.hid hcc
      clear hcc
      go_wp2
      go_loopw [3, 5] (fun o i wr' => ∃ j : Nat, j ≤ Q ∧ i = .int .i64 j ∧ Own 34 3 w.heap.size wr'.heap.size wr' o (c + j) (vals (out ++ List.replicate j ⟨t1, n1, s1⟩)) ∧ Below w.heap.size w wr') (fun _ i _ => Q - (intOf i).toNat)
      case atStart => exact ⟨0, Nat.zero_le _, rfl, by rw [HR0.out]; exact hown, hbr⟩
      case round =>
        obtain ⟨j, hj, rfl, hown2, hbr2⟩ := hrel
        obtain ⟨d0, d1, d2, d3⟩ := HCK.out _ hbr2
        by_cases hjl : j < Q
        · have HVA : Hid (vals (out ++ List.replicate j (⟨t1, n1, s1⟩ : V)) ++ V.cs ⟨t1, n1, s1⟩ = vals (out ++ List.replicate (j + 1) (⟨t1, n1, s1⟩ : V))) := by
            show _ = _
            rw [List.replicate_succ', ← List.append_assoc]
            simp [vals]
          go_wp2_with (at_builtin; refine appendV_law Try.elemVals rfl _ _ rfl _ _ _ _ _ ⟨t1, n1, s1⟩ rfl hown2 rfl (by unfold maxLen; omega) (by omega) ?_)
          intro v3 w3 o3 e3
          have b3 := hbr2.trans (e3.below hown2)
          rw [HVA.out] at o3
          have O3 := Lib.hid o3
          clear o3 e3 hown2 d0 d1 d2 d3 c0 c1 c2 c3
          go_wp2
          go_roundw
          case rel => exact ⟨j + 1, by omega, by go_num, O3.out, b3⟩
          case measure => simp [intOf]; omega
        · obtain rfl : j = Q := by omega
          go_wp2
          go_roundw
          case rel => exact ⟨k + 1, out ++ List.replicate j ⟨t1, n1, s1⟩, by omega, by go_num, by simp [HCC.out]; omega, HSK.out, by simp only [List.length_append, List.length_replicate, HCC.out]; exact hown2, hbr2⟩
          case measure => simp [intOf]; omega
    · obtain rfl : k = n := by omega
      have HF : Hid (spreadL l = out) := by
        show _ = _
        rw [HE.out, hsp, HFN.out]
        rfl
      clear hsp
      go_wp2
      go_ret
      rw [HF.out]
      exact ⟨_, rfl, hown, hbr⟩

end Go.Proofs.Ytcnackecchjckaa

/- The contract of the model's PutVal. -/
namespace Go.Proofs.Ytcnackecchjckaa
open Go.RowKit

/-- PutVal. -/
def putV (zs : List Int) (v : V) : List Int := if okV v = true then (if v.ty = 1 then Num.put zs v.n else zs ++ ((v.s.size : Int) :: sbytes v.s)) else zs
theorem okV_txt {v : V} (h : okV v = true) (ht : ¬ v.ty = 1) : v.s.size ≤ 6 := by
  unfold okV at h
  rw [if_neg ht] at h
  simp only [Bool.and_eq_true] at h
  have h2 := h.2.2
  unfold txtB at h2
  simp only [Bool.and_eq_true, decide_eq_true_eq] at h2
  first | exact h2.1 | exact h2.2
theorem putV_len (zs : List Int) (v : V) : zs.length ≤ (putV zs v).length ∧ (putV zs v).length ≤ zs.length + 7 := by
  unfold putV
  split
  · split
    · have := Num.put_len zs v.n
      omega
    · rename_i h ht
      have := okV_txt h ht
      simp only [List.length_append, List.length_cons, sbytes_len]
      omega
  · omega

theorem below_alloc_own {e size lo hi w v n xs} (h : Own e size lo hi w v n xs) (o : Obj) : Below lo w (w.alloc o) := (Below.refl lo w).alloc h.lo o

set_option maxHeartbeats 2000000 in
theorem sPutVal (v : Value) (n : Nat) (zs : List Int) (x : V) (w : World) (hn : n ≤ 1073741824) (hs : x.s.size ≤ maxLen) (hz : zs.length = n) (h : At 1 w v n (ints .u8 zs)) :
    Calls Try.prog 52 #[v, x.agg] w fun e w' => ∃ v', e = .returned v' ∧ Own 5 1 w.heap.size w'.heap.size w' v' (putV zs x).length (ints .u8 (putV zs x)) ∧ Below w.heap.size w w' := by
  have HZ := Lib.hid hz
  clear hz
  obtain ⟨b, off, cap, rfl, h1, h2, h3, hc⟩ := h
  obtain ⟨wb, hwb⟩ : ∃ wb, w.alloc (.cells #[.int .i64 x.ty, .int .i64 x.n, .string x.s] 34) = wb := ⟨_, rfl⟩
  have B0 := below_alloc w (.cells #[.int .i64 x.ty, .int .i64 x.n, .string x.s] 34)
  have HX0 : Hid (wb.cell? ⟨w.heap.size, 0, none⟩ = some (.int .i64 x.ty) ∧ wb.cell? ⟨w.heap.size, 1, none⟩ = some (.int .i64 x.n) ∧ wb.cell? ⟨w.heap.size, 2, none⟩ = some (.string x.s)) := by
    rw [← hwb]
    exact ⟨by simp, by simp, by simp⟩
  have hsz : wb.heap.size = w.heap.size + 1 := by rw [← hwb]; simp
  rw [hwb] at B0
  have hown0 := own_lit (e := 5) (size := 1) wb #[] 0 (Nat.zero_le _) rfl
  have hb0 := below_alloc wb (.cells #[] 5)
  have HC : Hid (∀ j u, (ints .u8 zs)[j]? = some u → (wb.alloc (.cells #[] 5)).cell? ⟨b, off + j, none⟩ = some u) := fun j u hu => by
    have := below_then B0 hb0 B0.size
    exact (this.cell (p := ⟨b, off + j, none⟩) (lt_of_cell (hc j u hu))).trans (hc j u hu)
  have HLZ : Hid ((ints .u8 zs).length = n * 1) := h3
  have HO := Lib.hid (fun W => sValOk x W hs)
  have HE : Hid (putV zs x = if okV x = true then (if x.ty = 1 then Num.put zs x.n else zs ++ ((x.s.size : Int) :: sbytes x.s)) else zs) := rfl
  have HSZ : Hid (okV x = true → ¬ x.ty = 1 → x.s.size ≤ 6) := fun h1 h2 => okV_txt h1 h2
  clear hc h3 hs
  obtain ⟨t, xn, s⟩ := x
  simp only at HX0 HE HSZ hwb
  rw [hsz] at hown0
  go_enter Try.func52, Try.ntmps52
  go_wp2_with (at_builtin; refine append_law Try.elemBytes rfl _ _ rfl _ _ _ _ _ rfl hown0 b off n cap (ints .u8 zs) rfl HLZ.out HC.out (ints_one _ _) (by unfold maxLen; omega) (by omega) ?_)
  intro v1 w1 hown1 hext1
  have R0 : Own 5 1 (w.heap.size + 1) w1.heap.size w1 v1 n (ints .u8 zs) := by simpa using hown1
  have hb1 : Below (w.heap.size + 1) wb w1 := ((Below.refl _ _).alloc (by omega) _).trans (hext1.below hown0)
  have B1 : Below w.heap.size w w1 := B0.trans (hb1.mono (by omega))
  have HX1 : Hid (w1.cell? ⟨w.heap.size, 0, none⟩ = some (.int .i64 t) ∧ w1.cell? ⟨w.heap.size, 1, none⟩ = some (.int .i64 xn) ∧ w1.cell? ⟨w.heap.size, 2, none⟩ = some (.string s)) :=
    ⟨(hb1.cell (p := ⟨w.heap.size, 0, none⟩) (by simp)).trans HX0.out.1, (hb1.cell (p := ⟨w.heap.size, 1, none⟩) (by simp)).trans HX0.out.2.1, (hb1.cell (p := ⟨w.heap.size, 2, none⟩) (by simp)).trans HX0.out.2.2⟩
  obtain ⟨g1, cap1, rfl⟩ : ∃ g cp, v1 = .slice (some ⟨g, 0, none⟩) n cp := by
    obtain ⟨g, cp, e, _⟩ := R0
    exact ⟨g, cp, e⟩
  have hw1 : w.heap.size + 1 ≤ w1.heap.size := by have := hb1.size; omega
  clear hown1 hext1 hown0 hb0 HX0 hb1 B0 HC hwb hsz
  clear wb
  obtain ⟨q0, q1, q2⟩ := HX1.out
  go_wp2_with fail
  refine (HO.out _).mono ?_
  rintro e w2 ⟨rfl, hb2⟩
  have R2 := (R0.below hb2 (Nat.le_refl _)).wide hb2.size
  have B2 := below_then B1 hb2 B1.size
  replace q0 := (hb2.cell (p := ⟨w.heap.size, 0, none⟩) (by simp; omega)).trans q0
  replace q1 := (hb2.cell (p := ⟨w.heap.size, 1, none⟩) (by simp; omega)).trans q1
  replace q2 := (hb2.cell (p := ⟨w.heap.size, 2, none⟩) (by simp; omega)).trans q2
  have hw2 : w.heap.size + 1 ≤ w2.heap.size := by have := hb2.size; omega
  have HLW := Lib.hid hw2
  clear R0 B1 HX1 hb2 hw1 HO
  cases hok : okV ⟨t, xn, s⟩ with
  | false =>
    rw [hok, if_neg (by simp)] at HE
    clear hok HSZ
    go_wp2
    go_ret
    refine ⟨_, rfl, ?_, B2⟩
    rw [HE.out, HZ.out]
    exact R2.lower (by omega)
  | true =>
    rw [hok, if_pos rfl] at HE
    by_cases ht : t = 1
    · subst ht
      rw [if_pos rfl] at HE
      have HP := Lib.hid (sPutNum (.slice (some ⟨g1, 0, none⟩) n cap1) n zs xn w2 hn HZ.out R2.at)
      clear hok HSZ
      go_wp2_with fail
      refine HP.out.mono ?_
      rintro e w3 ⟨v3, rfl, o3, hb3⟩
      have B3 := below_then B2 hb3 B2.size
      rw [← HE.out] at o3
      have O3 := Lib.hid o3
      clear o3 hb3 HP q0 q1 q2
      go_wp2
      go_ret
      exact ⟨_, rfl, O3.out.lower (by have := HLW.out; omega), B3⟩
    · have hs6 := HSZ.out hok ht
      rw [if_neg ht] at HE
      have htb : (t == 1) = false := by simpa using ht
      have hwr : IntKind.u8.wrap (s.size : Int) = s.size := by
        simp only [IntKind.wrap, IntKind.bits, IntKind.signed, Bool.false_and, Bool.false_eq_true, if_false]
        omega
      clear hok HSZ
      go_wp2
      refine wp_region_held_drew (S := fun W => W.cell? ⟨w.heap.size, 2, none⟩ = some (.string s)) (by kernel_rfl) q2 (fun hHeld => ?_)
      refine takeH (i := 0) (d := some 20) (v := .slice (some ⟨g1, 0, none⟩) n cap1) rfl rfl (by kernel_rfl) (by kernel_rfl) (by kernel_rfl) (fun _ _ _ h => h) (Or.inl ⟨by rfl, fun W hSw => by go_simp⟩) hHeld ?_
      simp only [put_some, List.set_cons_zero, List.set_cons_succ]
      refine takeH (i := 1) (d := some 21) (v := .pointer (some ⟨w.heap.size, 2, none⟩)) rfl rfl (by kernel_rfl) (by kernel_rfl) (by kernel_rfl) (fun _ _ _ h => h) (Or.inl ⟨by rfl, fun W hSw => by go_simp⟩) hHeld ?_
      simp only [put_some, List.set_cons_zero, List.set_cons_succ]
      refine takeH (i := 2) (d := some 22) (v := .string s) rfl rfl (by kernel_rfl) (by kernel_rfl) (by kernel_rfl) (fun _ _ _ h => h) (Or.inl ⟨by rfl, fun W hSw => by go_simp⟩) hHeld ?_
      simp only [put_some, List.set_cons_zero, List.set_cons_succ]
      refine takeH (i := 3) (d := some 23) (v := .int .i64 (s.size : Int)) rfl rfl (by kernel_rfl) (by kernel_rfl) (by kernel_rfl) (fun _ _ _ h => h) (Or.inl ⟨by rfl, fun W hSw => by go_simp⟩) hHeld ?_
      simp only [put_some, List.set_cons_zero, List.set_cons_succ]
      refine takeH (i := 4) (d := some 24) (v := .int .u8 (s.size : Int)) rfl rfl (by kernel_rfl) (by kernel_rfl) (by kernel_rfl) (fun _ _ _ h => h) (Or.inl ⟨by rfl, fun W hSw => by go_simp⟩) hHeld ?_
      simp only [put_some, List.set_cons_zero, List.set_cons_succ]
      refine takeH (i := 7) (d := some 27) (v := .pointer (some ⟨w.heap.size, 2, none⟩)) rfl rfl (by kernel_rfl) (by kernel_rfl) (by kernel_rfl) (fun _ _ _ h => h) (Or.inl ⟨by rfl, fun W hSw => by go_simp⟩) hHeld ?_
      simp only [put_some, List.set_cons_zero, List.set_cons_succ]
      refine takeH (i := 8) (d := some 28) (v := .string s) rfl rfl (by kernel_rfl) (by kernel_rfl) (by kernel_rfl) (fun _ _ _ h => h) (Or.inl ⟨by rfl, fun W hSw => by go_simp⟩) hHeld ?_
      simp only [put_some, List.set_cons_zero, List.set_cons_succ]
      refine wpAnyH_ready (rs := [5]) (by kernel_rfl) (by simp) ?_
      refine AllReadyH.cons rfl (fun K hK => ?_) AllReadyH.nil
      go_simp
      refine hK.out _ _ ((below_alloc w2.drew _).cell (p := ⟨w.heap.size, 2, none⟩) (lt_of_cell hHeld) |>.trans hHeld) (fun hHeld => ?_)
      clear hK K
      refine wpAnyH_ready (rs := [6]) (by kernel_rfl) (by simp) ?_
      refine AllReadyH.cons rfl (fun K hK => ?_) AllReadyH.nil
      refine append1_op Try.elemBytes (.tmp 20) (.tmp 25) rfl (w.heap.size + 1) w2.heap.size (.slice (some ⟨g1, 0, none⟩) n cap1) n (ints .u8 zs) (.int .u8 (s.size : Int)) rfl rfl R2.drew rfl (by unfold maxLen; omega) (by omega) ?_
      intro v4 w4 o4 e4
      obtain ⟨g4, cap4, rfl⟩ : ∃ g cp, v4 = .slice (some ⟨g, 0, none⟩) (n + 1) cp := by
        obtain ⟨g, cp, e, _⟩ := o4
        exact ⟨g, cp, e⟩
      have B4 : Below (w.heap.size + 1) w2.drew w4 := ((Below.refl _ _).alloc (by simpa using hw2) _).trans (e4.below (R2.drew.alloc _))
      refine hK.out _ _ ((B4.cell (p := ⟨w.heap.size, 2, none⟩) (by simp)).trans q2) (fun hHeld => ?_)
      clear hK K e4
      refine wpAnyH_ready (rs := [9]) (by kernel_rfl) (by simp) ?_
      refine AllReadyH.cons rfl (fun K hK => ?_) AllReadyH.nil
      refine appendS_op Try.elemBytes Try.underlying9 (.tmp 26) (.tmp 28) rfl (w.heap.size + 1) w4.heap.size (.slice (some ⟨g4, 0, none⟩) (n + 1) cap4) (n + 1) (ints .u8 zs ++ [.int .u8 (s.size : Int)]) s rfl o4 rfl (by unfold maxLen; omega) (by omega) ?_
      intro v5 w5 o5 b5
      obtain ⟨g5, cap5, rfl⟩ : ∃ g cp, v5 = .slice (some ⟨g, 0, none⟩) (n + 1 + s.size) cp := by
        obtain ⟨g, cp, e, _⟩ := o5
        exact ⟨g, cp, e⟩
      have B5 := Lib.hid (B2.drew.trans ((B4.trans b5).mono (Nat.le_succ _)))
      have HC5 : Hid (w5.cell? ⟨w.heap.size, 2, none⟩ = some (.string s)) := (b5.cell (p := ⟨w.heap.size, 2, none⟩) (by simp)).trans hHeld
      have O5 : Hid (Own 5 1 w.heap.size w5.heap.size w5 (.slice (some ⟨g5, 0, none⟩) (n + 1 + s.size) cap5) (putV zs ⟨t, xn, s⟩).length (ints .u8 (putV zs ⟨t, xn, s⟩))) := by
        show Own _ _ _ _ _ _ _ _
        rw [HE.out]
        have e1 : (zs ++ ((s.size : Int) :: sbytes s)).length = n + 1 + s.size := by
          simp only [List.length_append, List.length_cons, sbytes_len, HZ.out]
          omega
        have e2 : ints .u8 (zs ++ ((s.size : Int) :: sbytes s)) = ints .u8 zs ++ [.int .u8 (s.size : Int)] ++ ints .u8 (sbytes s) := by simp [ints]
        rw [e1, e2]
        exact o5.lower (by omega)
      clear o5 b5 B4 o4 hHeld
      go_simp
      refine hK.out _ _ HC5.out (fun hHeld => ?_)
      clear hK K
      refine takeH (i := 10) (d := some 4) (v := .slice (some ⟨g5, 0, none⟩) (n + 1 + s.size) cap5) rfl rfl (by kernel_rfl) (by kernel_rfl) (by kernel_rfl) (fun _ _ _ h => h) (Or.inl ⟨by rfl, fun W hSw => by go_simp⟩) hHeld ?_
      simp only [put_some, List.set_cons_zero, List.set_cons_succ]
      refine wpAnyH_done (by kernel_rfl) ?_ _
      go_wp2
      go_ret
      exact ⟨_, rfl, O5.out, B5.out⟩

end Go.Proofs.Ytcnackecchjckaa
