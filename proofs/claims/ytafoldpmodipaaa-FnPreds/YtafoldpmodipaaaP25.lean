/- Texts of this claim, one behind the other: M11v, M11w, IChance, IChance2, I11, I11m. -/
import Derived.Test.YtafoldpmodipaaaP15
import Derived.Test.YtafoldpmodipaaaP13
import Derived.Test.YtafoldpmodipaaaP4
import Derived.Test.YtafoldpmodipaaaP3
import Derived.Test.YtafoldpmodipaaaP8
import Derived.Test.YtafoldpmodipaaaP16
import Derived.Test.YtafoldpmodipaaaP5

/- Plain mathematics of the visits of a predicate: what is passed on, in which order; where each predicate lies. -/
namespace Go.Proofs.Ytafoldpmodipaaa
open Go.RowKit

/-- The operands that are visited. -/
def T.ops (t : T) : List T := if t.kind = 3 ∨ t.kind = 4 ∨ t.kind = 5 then t.l else []
theorem T.ops_mem {t x : T} (h : x ∈ t.ops) : x ∈ t.l := by
  unfold T.ops at h
  split at h
  · exact h
  · cases h
theorem T.ops_len (t : T) : t.ops.length ≤ t.l.length := by
  unfold T.ops
  split <;> simp
/-- The slice of operands of the i-th of the Preds in u. -/
def kidU (w : World) (u : Value) (i : Nat) : Value :=
  match u with
  | .slice (some a) _ _ => (w.cell? ⟨a.block, a.off + i * 7 + 6, none⟩).getD .nilFunc
  | _ => .nilFunc
/-- A visit: the predicate, its slice of operands, how many of these are done. -/
abbrev Vis := T × Value × Nat
mutual
def T.tr (w : World) : T → Value → List Vis
  | .mk k c o v l, u => (.mk k c o v l, u, 0) :: (if k = 3 ∨ k = 4 ∨ k = 5 then T.trs w l (.mk k c o v l) u 0 else [])
def T.trs (w : World) : List T → T → Value → Nat → List Vis
  | [], _, _, _ => []
  | x :: r, t, u, i => T.tr w x (kidU w u i) ++ (t, u, i + 1) :: T.trs w r t u (i + 1)
end
/-- What comes once d operands of t are done. -/
def T.from (w : World) (t : T) (u : Value) (d : Nat) : List Vis := (t, u, d) :: T.trs w (t.ops.drop d) t u d
theorem T.tr_from (w : World) (t : T) (u : Value) : t.tr w u = t.from w u 0 := by
  obtain ⟨k, c, o, v, l⟩ := t
  by_cases h : k = 3 ∨ k = 4 ∨ k = 5
  · have ho : (T.mk k c o v l).ops = l := if_pos h
    rw [T.tr, T.from, if_pos h, ho, List.drop_zero]
  · have ho : (T.mk k c o v l).ops = [] := if_neg h
    rw [T.tr, T.from, if_neg h, ho, List.drop_nil, T.trs]
theorem T.from_end {w : World} {t : T} {u : Value} {d : Nat} (h : d = t.ops.length) : t.from w u d = [(t, u, d)] := by
  rw [T.from, h, List.drop_length, T.trs]
theorem T.from_step {w : World} {t : T} {u : Value} {d : Nat} (h : d < t.ops.length) : t.from w u d = (t, u, d) :: ((t.ops.getD d T.zero).from w (kidU w u d) 0 ++ t.from w u (d + 1)) := by
  have e : t.ops.getD d T.zero = t.ops[d] := by simp [h]
  rw [T.from, List.drop_eq_getElem_cons h, T.trs, ← e, T.tr_from]
  rfl

/-- A predicate that is being visited: where it lies, and as a visit. -/
structure Fr where
  b : Nat
  o : Nat
  t : T
  u : Value
  d : Nat
/-- What comes, of a path. -/
def rem (w : World) : List Fr → List Vis
  | [] => []
  | f :: r => rem w r ++ f.t.from w f.u f.d
theorem rem_snoc (w : World) : ∀ (fs : List Fr) (f : Fr), rem w (fs ++ [f]) = f.t.from w f.u f.d ++ rem w fs
  | [], f => by simp [rem]
  | g :: fs, f => by
    rw [List.cons_append, rem, rem_snoc w fs f, rem, List.append_assoc]

theorem T.ext' {t t' : T} (h1 : t.kind = t'.kind) (h2 : t.col = t'.col) (h3 : t.op = t'.op) (h4 : t.v = t'.v) (h5 : t.l = t'.l) : t = t' := by
  obtain ⟨k, c, o, v, l⟩ := t
  obtain ⟨k', c', o', v', l'⟩ := t'
  simp only [T.kind, T.col, T.op, T.v, T.l] at h1 h2 h3 h4 h5
  subst h1 h2 h3 h4 h5
  rfl
/-- A Pred lies at ⟨b, o⟩. -/
def LiesAt (w : World) (b o : Nat) (t : T) (u : Value) : Prop := ∀ i x, (t.cs u)[i]? = some x → w.cell? ⟨b, o + i, none⟩ = some x
theorem LiesAt.below {w w' : World} {b o : Nat} {t : T} {u : Value} (h : LiesAt w b o t u) (hb : Below w.heap.size w w') : LiesAt w' b o t u := fun i x hx =>
  (hb.cell (p := ⟨b, o + i, none⟩) (lt_of_cell (h i x hx))).trans (h i x hx)
theorem LiesAt.agree {w w' : World} {b o : Nat} {t : T} {u : Value} (h : LiesAt w b o t u) (hs : w'.heap[b]? = w.heap[b]?) : LiesAt w' b o t u := fun i x hx => (World.cell?_of_block (w := w) hs).trans (h i x hx)
theorem LiesAt.lt {w : World} {b o : Nat} {t : T} {u : Value} (h : LiesAt w b o t u) : b < w.heap.size := lt_of_cell (h 0 _ rfl)
/-- Of one place one tree is read. -/
theorem reads_one {w : World} : ∀ (t : T) (b o : Nat) (u : Value) (t' : T) (u' : Value) (Q Q' : Nat → Prop), LiesAt w b o t u → LiesAt w b o t' u' → RdT Q w t u → RdT Q' w t' u' → t = t' := by
  refine T.induct (fun t ih => ?_)
  intro b o u t' u' Q Q' h h' hr hr'
  have e : ∀ (i : Nat) (x y : Value), (t.cs u)[i]? = some x → (t'.cs u')[i]? = some y → x = y := fun i x y hx hy => by
    have := (h i x hx).symm.trans (h' i y hy)
    simpa using this
  have e0 := e 0 _ _ rfl rfl
  have e1 := e 1 _ _ rfl rfl
  have e2 := e 2 _ _ rfl rfl
  have e3 := e 3 _ _ rfl rfl
  have e4 := e 4 _ _ rfl rfl
  have e5 := e 5 _ _ rfl rfl
  have e6 := e 6 _ _ rfl rfl
  simp only [Value.int.injEq, true_and, Value.string.injEq] at e0 e1 e2 e3 e4 e5
  refine T.ext' e0 e1 e2 (by rcases hv : t.v with ⟨a, b, c⟩; rcases hv' : t'.v with ⟨a', b', c'⟩; rw [hv] at e3 e4 e5; rw [hv'] at e3 e4 e5; simp only at e3 e4 e5; rw [e3, e4, e5]) ?_
  rw [RdT_def] at hr hr'
  obtain ⟨a, cap, rfl, _, hr⟩ := hr
  obtain ⟨a', cap', rfl, _, hr'⟩ := hr'
  simp only [Value.slice.injEq] at e6
  obtain ⟨rfl, hn, rfl⟩ := e6
  rcases hr with hz | ⟨b1, o1, rfl, _, hk⟩
  · have z1 : t.l = [] := List.eq_nil_of_length_eq_zero hz
    have z2 : t'.l = [] := List.eq_nil_of_length_eq_zero (by omega)
    rw [z1, z2]
  rcases hr' with hz | ⟨b2, o2, he, _, hk'⟩
  · have z1 : t.l = [] := List.eq_nil_of_length_eq_zero (by omega)
    have z2 : t'.l = [] := List.eq_nil_of_length_eq_zero hz
    rw [z1, z2]
  simp only [Option.some.injEq, Addr.mk.injEq, and_true] at he
  obtain ⟨rfl, rfl⟩ := he
  rw [RdTs_iff] at hk hk'
  refine List.ext_getElem hn (fun k hk1 hk2 => ?_)
  obtain ⟨v, c1, r1⟩ := hk k hk1
  obtain ⟨v', c2, r2⟩ := hk' k hk2
  have g1 : t.l.getD k T.zero = t.l[k] := by simp [hk1]
  have g2 : t'.l.getD k T.zero = t'.l[k] := by simp [hk2]
  rw [g1] at c1 r1
  rw [g2] at c2 r2
  exact ih _ (List.getElem_mem hk1) _ _ _ _ _ _ _ (fun i x hx => c1 i x hx) (fun i x hx => c2 i x hx) r1 r2

/-- The predicates of a path: each lies where it is said to lie, in a block without frozen cells, and is smaller than those around it. -/
structure Path (Q R : Nat → Prop) (w : World) (fs : List Fr) : Prop where
  lies : ∀ f ∈ fs, LiesAt w f.b f.o f.t f.u ∧ RdT Q w f.t f.u ∧ (Plain w f.b ∧ R f.b) ∧ f.d ≤ f.t.ops.length
  falls : fs.Pairwise (fun g f => f.t.bulk < g.t.bulk)
theorem Path.head {Q R : Nat → Prop} {w : World} {fs : List Fr} {f : Fr} (h : Path Q R w (fs ++ [f])) : Path Q R w fs :=
  ⟨fun g hg => h.lies g (List.mem_append_left _ hg), (List.pairwise_append.1 h.falls).1⟩
/-- The next operand of the last one: where it lies. -/
theorem Path.kid {Q R : Nat → Prop} {w : World} {fs : List Fr} {f : Fr} (hQ : ∀ b, Q b → Plain w b ∧ R b) (h : Path Q R w (fs ++ [f])) (hd : f.d < f.t.ops.length) :
    ∃ b o n cap, f.u = .slice (some ⟨b, o, none⟩) n cap ∧ f.d < n ∧ LiesAt w b (o + f.d * 7) (f.t.ops.getD f.d T.zero) (kidU w f.u f.d) ∧ RdT Q w (f.t.ops.getD f.d T.zero) (kidU w f.u f.d) ∧ (Plain w b ∧ R b) ∧
      (∀ g ∈ fs ++ [f], (f.t.ops.getD f.d T.zero).bulk < g.t.bulk) ∧ (∀ g ∈ fs ++ [f], (⟨g.b, g.o, none⟩ : Addr) ≠ ⟨b, o + f.d * 7, none⟩) := by
  obtain ⟨_, hr, _, _⟩ := h.lies f (List.mem_append_right _ List.mem_cons_self)
  have hle := f.t.ops_len
  have hops : f.t.ops.getD f.d T.zero = f.t.l.getD f.d T.zero := by
    have : f.t.ops = f.t.l := by
      unfold T.ops at hd ⊢
      split
      · rfl
      · rename_i hn
        rw [if_neg hn] at hd
        simp at hd
    rw [this]
  have hdl : f.d < f.t.l.length := by omega
  have hr2 := hr
  rw [RdT_def] at hr
  obtain ⟨a, cap, hu, hn, hr⟩ := hr
  rcases hr with hz | ⟨b, o, rfl, hq, hk⟩
  · omega
  rw [RdTs_iff] at hk
  obtain ⟨v, hc, hv⟩ := hk f.d hdl
  have hkid : kidU w f.u f.d = v := by
    rw [hu]
    unfold kidU
    simp only
    rw [hc 6 v rfl]
    rfl
  have hbulk : ∀ g ∈ fs ++ [f], (f.t.ops.getD f.d T.zero).bulk < g.t.bulk := fun g hg => by
    have h1 : (f.t.ops.getD f.d T.zero).bulk < f.t.bulk := by
      rw [hops]
      exact T.bulk_child (kid_mem hdl)
    rcases List.mem_append.1 hg with hg | hg
    · have := (List.pairwise_append.1 h.falls).2.2 g hg f List.mem_cons_self
      omega
    · rw [List.mem_singleton.1 hg]
      exact h1
  rw [hkid]
  refine ⟨b, o, f.t.l.length, cap, hu, hdl, ?_, ?_, hQ b hq, hbulk, fun g hg e => ?_⟩
  · rw [hops]
    exact hc
  · rw [hops]
    exact hv
  · simp only [Addr.mk.injEq, and_true] at e
    obtain ⟨l1, l2, _, _⟩ := h.lies g hg
    rw [e.1, e.2] at l1
    have := reads_one _ _ _ _ _ _ _ _ l1 (show LiesAt w b (o + f.d * 7) (f.t.l.getD f.d T.zero) v from hc) l2 hv
    have h2 := hbulk g hg
    rw [hops, ← this] at h2
    omega

end Go.Proofs.Ytafoldpmodipaaa

/- Plain mathematics of impl's weigh: the chances of a predicate, and how they come of its visits. -/
namespace Go.Proofs.Ytafoldpmodipaaa
open Go.RowKit

/-- Can it be true, can it be false? -/
abbrev Ch := Bool × Bool
structure Weigh where
  cmp : T → Ch
  ofN : Ch
def Weigh.comb (g : Weigh) (t : T) (l : List Ch) : Ch :=
  if t.kind = 1 then (true, false) else if t.kind = 2 then g.cmp t else if t.kind = 3 then (l.all (·.1), l.any (·.2)) else if t.kind = 4 then (l.any (·.1), l.all (·.2)) else if t.kind = 5 then (match l with | [] => g.ofN | x :: _ => (x.2, x.1)) else (false, true)
mutual
def Weigh.ch (g : Weigh) : T → Ch | .mk k c o v l => g.comb (.mk k c o v l) (Weigh.chs g l)
def Weigh.chs (g : Weigh) : List T → List Ch | [] => [] | t :: r => Weigh.ch g t :: Weigh.chs g r
end
theorem Weigh.chs_map (g : Weigh) : ∀ l : List T, g.chs l = l.map g.ch
  | [] => by rw [Weigh.chs]; rfl
  | t :: r => by rw [Weigh.chs, Weigh.chs_map g r]; rfl
theorem Weigh.ch_def (g : Weigh) (t : T) : g.ch t = g.comb t (t.l.map g.ch) := by
  obtain ⟨k, c, o, v, l⟩ := t
  rw [Weigh.ch, Weigh.chs_map]
  rfl
theorem Weigh.ch_ops (g : Weigh) (t : T) : g.ch t = g.comb t (t.ops.map g.ch) := by
  rw [Weigh.ch_def]
  unfold T.ops
  split
  · rfl
  · rename_i h
    unfold Weigh.comb
    rw [if_neg (show ¬ t.kind = 3 by omega), if_neg (show ¬ t.kind = 4 by omega), if_neg (show ¬ t.kind = 5 by omega), if_neg (show ¬ t.kind = 3 by omega), if_neg (show ¬ t.kind = 4 by omega), if_neg (show ¬ t.kind = 5 by omega)]
theorem Weigh.comb_1 (g : Weigh) {t : T} (l : List Ch) (h : t.kind = 1) : g.comb t l = (true, false) := by simp [Weigh.comb, h]
theorem Weigh.comb_2 (g : Weigh) {t : T} (l : List Ch) (h : t.kind = 2) : g.comb t l = g.cmp t := by simp [Weigh.comb, h]
theorem Weigh.comb_3 (g : Weigh) {t : T} (l : List Ch) (h : t.kind = 3) : g.comb t l = (l.all (·.1), l.any (·.2)) := by simp [Weigh.comb, h]
theorem Weigh.comb_4 (g : Weigh) {t : T} (l : List Ch) (h : t.kind = 4) : g.comb t l = (l.any (·.1), l.all (·.2)) := by simp [Weigh.comb, h]
theorem Weigh.comb_5 (g : Weigh) {t : T} (l : List Ch) (h : t.kind = 5) : g.comb t l = (match l with | [] => g.ofN | x :: _ => (x.2, x.1)) := by
  unfold Weigh.comb
  rw [if_neg (by omega), if_neg (by omega), if_neg (by omega), if_neg (by omega), if_pos h]
theorem Weigh.comb_no (g : Weigh) {t : T} (l : List Ch) (h1 : ¬ t.kind = 1) (h2 : ¬ t.kind = 2) (h3 : ¬ t.kind = 3) (h4 : ¬ t.kind = 4) (h5 : ¬ t.kind = 5) : g.comb t l = (false, true) := by simp [Weigh.comb, h1, h2, h3, h4, h5]

/-- One visit, over the chances that are done. -/
def Weigh.step (g : Weigh) (x : Vis) (D : List Ch) : Option (List Ch) :=
  if x.2.2 < x.1.ops.length then some D else if x.2.2 ≤ D.length then some (D.take (D.length - x.2.2) ++ [g.comb x.1 (D.drop (D.length - x.2.2))]) else none
def Weigh.run (g : Weigh) : List Vis → List Ch → Option (List Ch)
  | [], D => some D
  | x :: r, D => (g.step x D).bind (g.run r)
theorem Weigh.run_append (g : Weigh) : ∀ (a b : List Vis) (D : List Ch), g.run (a ++ b) D = (g.run a D).bind (g.run b)
  | [], b, D => rfl
  | x :: a, b, D => by
    show (g.step x D).bind (g.run (a ++ b)) = ((g.step x D).bind (g.run a)).bind (g.run b)
    cases g.step x D with
    | none => rfl
    | some E => exact g.run_append a b E
theorem Weigh.run_tr (g : Weigh) (w : World) : ∀ (t : T) (u : Value) (D : List Ch), g.run (t.tr w u) D = some (D ++ [g.ch t]) := by
  refine T.induct (fun t ih => ?_)
  have key : ∀ (m d : Nat) (u : Value) (D : List Ch), d + m = t.ops.length → g.run (t.from w u d) (D ++ (t.ops.take d).map g.ch) = some (D ++ [g.ch t]) := by
    intro m
    induction m with
    | zero =>
      intro d u D hd
      rw [T.from_end (by omega)]
      have hl : (t.ops.take d).length = d := by simp; omega
      have ht : t.ops.take d = t.ops := List.take_of_length_le (by omega)
      show (g.step (t, u, d) _).bind _ = _
      unfold Weigh.step
      simp only
      rw [if_neg (by omega), if_pos (by simp; omega), ht]
      have e : (D ++ t.ops.map g.ch).length - d = D.length := by simp; omega
      rw [e, List.take_left, List.drop_left, ← g.ch_ops]
      rfl
    | succ m ihm =>
      intro d u D hd
      have hlt : d < t.ops.length := by omega
      rw [T.from_step hlt]
      show (g.step (t, u, d) _).bind _ = _
      unfold Weigh.step
      simp only
      rw [if_pos hlt, Option.bind_some, g.run_append, ← T.tr_from]
      have e : t.ops.getD d T.zero = t.ops[d] := by simp [hlt]
      rw [e, ih _ (T.ops_mem (List.getElem_mem hlt)), Option.bind_some, List.append_assoc]
      have e2 : (t.ops.take d).map g.ch ++ [g.ch t.ops[d]] = (t.ops.take (d + 1)).map g.ch := by
        rw [List.take_succ_eq_append_getElem hlt, List.map_append]
        rfl
      rw [e2]
      exact ihm (d + 1) u D (by omega)
  intro u D
  rw [T.tr_from]
  have := key t.ops.length 0 u D (by omega)
  simpa using this
/-- What is done after k visits; the next visit. -/
theorem Weigh.run_take (g : Weigh) {L : List Vis} {E : List Ch} (h : g.run L [] = some E) (k : Nat) : ∃ D, g.run (L.take k) [] = some D := by
  rw [← List.take_append_drop k L, g.run_append] at h
  cases hk : g.run (L.take k) [] with
  | none => rw [hk] at h; cases h
  | some D => exact ⟨D, rfl⟩
theorem Weigh.run_next (g : Weigh) {L : List Vis} {E D : List Ch} (h : g.run L [] = some E) {k : Nat} (hk : k < L.length) (hD : g.run (L.take k) [] = some D) (x : Vis) (hx : L.getD k x = x) : ∃ D', g.step x D = some D' ∧ g.run (L.take (k + 1)) [] = some D' := by
  obtain ⟨D', hD'⟩ := g.run_take h (k + 1)
  have e : L[k] = x := by
    have : L.getD k x = L[k] := by simp [hk]
    rw [← this, hx]
  have h2 := hD'
  rw [List.take_succ_eq_append_getElem hk, g.run_append, hD, Option.bind_some, e] at h2
  refine ⟨D', ?_, hD'⟩
  cases hs : g.step x D with
  | none => rw [show g.run [x] D = (g.step x D).bind (g.run []) from rfl, hs] at h2; cases h2
  | some E => rw [show g.run [x] D = (g.step x D).bind (g.run []) from rfl, hs] at h2; exact h2
theorem Weigh.step_len (g : Weigh) {x : Vis} {D D' : List Ch} (h : g.step x D = some D') : D'.length ≤ D.length + 1 := by
  unfold Weigh.step at h
  split at h
  · cases h
    omega
  · split at h
    · cases h
      simp
    · cases h
theorem Weigh.run_len (g : Weigh) : ∀ (L : List Vis) (D E : List Ch), g.run L D = some E → E.length ≤ D.length + L.length
  | [], D, E, h => by cases h; simp
  | x :: r, D, E, h => by
    rw [show g.run (x :: r) D = (g.step x D).bind (g.run r) from rfl] at h
    cases hs : g.step x D with
    | none => rw [hs] at h; cases h
    | some F =>
      rw [hs] at h
      have h1 := g.step_len hs
      have h2 := g.run_len r F E h
      simp only [List.length_cons]
      omega

mutual
theorem tr_len (w : World) : ∀ (t : T) (u : Value), (t.tr w u).length + 1 ≤ 2 * t.bulk
  | .mk k c o v l, u => by
    rw [T.tr, T.bulk]
    have h := trs_len w l (.mk k c o v l) u 0
    split
    · simp only [List.length_cons]
      omega
    · simp only [List.length_cons, List.length_nil]
      omega
theorem trs_len (w : World) : ∀ (l : List T) (t : T) (u : Value) (i : Nat), (T.trs w l t u i).length ≤ 2 * T.bulks l
  | [], t, u, i => by rw [T.trs]; simp
  | x :: r, t, u, i => by
    rw [T.trs, T.bulks]
    have h1 := tr_len w x (kidU w u i)
    have h2 := trs_len w r t u (i + 1)
    simp only [List.length_append, List.length_cons]
    omega
end

theorem mem_from {w : World} {t : T} {u : Value} {x : Vis} : ∀ (m d : Nat), d + m = t.ops.length → x ∈ t.from w u d → (x.1 = t ∧ x.2.1 = u ∧ x.2.2 ≤ t.ops.length) ∨ ∃ k, k < t.ops.length ∧ x ∈ (t.ops.getD k T.zero).tr w (kidU w u k) := by
  intro m
  induction m with
  | zero =>
    intro d hd hx
    rw [T.from_end (by omega)] at hx
    rw [List.mem_singleton.1 hx]
    exact .inl ⟨rfl, rfl, by simp only; omega⟩
  | succ m ih =>
    intro d hd hx
    rw [T.from_step (by omega)] at hx
    rcases List.mem_cons.1 hx with rfl | hx
    · exact .inl ⟨rfl, rfl, by simp only; omega⟩
    · rcases List.mem_append.1 hx with hx | hx
      · rw [← T.tr_from] at hx
        exact .inr ⟨d, by omega, hx⟩
      · exact ih (d + 1) (by omega) hx
theorem mem_tr {w : World} {t : T} {u : Value} {x : Vis} (hx : x ∈ t.tr w u) : (x.1 = t ∧ x.2.1 = u ∧ x.2.2 ≤ t.ops.length) ∨ ∃ k, k < t.ops.length ∧ x ∈ (t.ops.getD k T.zero).tr w (kidU w u k) := by
  rw [T.tr_from] at hx
  exact mem_from t.ops.length 0 (by omega) hx
theorem ops_mem' {t : T} {k : Nat} (hk : k < t.ops.length) : t.ops.getD k T.zero ∈ t.l := by
  have e : t.ops.getD k T.zero = t.ops[k] := by simp [hk]
  rw [e]
  exact T.ops_mem (List.getElem_mem hk)
/-- What holds of a tree and of its subtrees holds of all that is visited. -/
theorem tr_all {P : T → Prop} (hk : ∀ t, P t → ∀ x ∈ t.l, P x) (w : World) : ∀ (t : T) (u : Value), P t → ∀ x ∈ t.tr w u, P x.1 ∧ x.2.2 ≤ x.1.ops.length := by
  refine T.induct (fun t ih => ?_)
  intro u ht x hx
  rcases mem_tr hx with ⟨h1, _, h3⟩ | ⟨k, hk1, hx⟩
  · rw [h1]
    exact ⟨ht, h3⟩
  · exact ih _ (ops_mem' hk1) _ (hk t ht _ (ops_mem' hk1)) x hx
theorem ops_eq {t : T} {k : Nat} (hk : k < t.ops.length) : t.ops = t.l := by
  unfold T.ops at hk ⊢
  split
  · rfl
  · rename_i h
    rw [if_neg h] at hk
    simp at hk
theorem tr_rd {Q : Nat → Prop} {w : World} : ∀ (t : T) (u : Value), RdT Q w t u → ∀ x ∈ t.tr w u, RdT Q w x.1 x.2.1 := by
  refine T.induct (fun t ih => ?_)
  intro u h x hx
  rcases mem_tr hx with ⟨h1, h2, _⟩ | ⟨k, hk1, hx⟩
  · rw [h1, h2]
    exact h
  · refine ih _ (ops_mem' hk1) _ ?_ x hx
    have ho := ops_eq hk1
    have hkl : k < t.l.length := by rw [← ho]; exact hk1
    rw [RdT_def] at h
    obtain ⟨a, cap, rfl, _, h⟩ := h
    rcases h with hz | ⟨b, o, rfl, _, h⟩
    · omega
    · rw [RdTs_iff] at h
      obtain ⟨v, hc, hv⟩ := h k hkl
      have e : kidU w (.slice (some ⟨b, o, none⟩) t.l.length cap) k = v := by
        unfold kidU
        simp only
        rw [hc 6 v rfl]
        rfl
      rw [e, ho]
      exact hv

end Go.Proofs.Ytafoldpmodipaaa

/- The contracts of impl's sure, allOf, someOf, firstTurned. -/
namespace Go.Proofs.Ytafoldpmodipaaa
open Go.RowKit

abbrev chV (c : Ch) : Value := .agg #[.bool c.1, .bool c.2]
def ccs (c : Ch) : List Value := [.bool c.1, .bool c.2]
def chcs (l : List Ch) : List Value := l.flatMap ccs
theorem chcs_len (l : List Ch) : (chcs l).length = l.length * 2 := flat_len ccs 2 (fun _ => rfl) l
theorem Rd.chs {w : World} {u : Value} {n : Nat} {l : List Ch} (h : Rd 2 w u n (chcs l)) (hl : l.length = n) :
    ∃ a cap, u = .slice a n cap ∧ n ≤ maxLen ∧ Hid (∀ k, k < n → ∃ b off, a = some ⟨b, off, none⟩ ∧ w.cell? ⟨b, off + k * 2, none⟩ = some (.bool (l.getD k (false, false)).1) ∧ w.cell? ⟨b, off + k * 2 + 1, none⟩ = some (.bool (l.getD k (false, false)).2)) := by
  obtain ⟨a, cap, rfl, hn, h⟩ := h
  refine ⟨a, cap, rfl, hn, fun k hk => ?_⟩
  have hkl : k < l.length := by omega
  have hgd : l.getD k (false, false) = l[k] := by simp [hkl]
  rw [hgd]
  have g := fun j (hj : j < 2) => flat_get ccs 2 (fun _ => rfl) l k j hkl hj
  rcases h.2 with h0 | ⟨b, off, rfl, hc⟩
  · omega
  · exact ⟨b, off, rfl, hc _ _ ((g 0 (by omega)).trans rfl), hc _ _ ((g 1 (by omega)).trans rfl)⟩

set_option maxHeartbeats 1000000 in
theorem iSure (b : Bool) (w : World) : Calls Try.prog 64 #[.bool b] w fun e w' => e = .returned (chV (b, !b)) ∧ Below w.heap.size w w' := by
  go_enter Try.func64, Try.ntmps64
  go_wp2
  exact bodyPost_ret (v := .agg #[.bool b, .bool (!b)]) (by simp [results, Try.results64, go_sem]) rfl ⟨rfl, below_alloc w _⟩

theorem all_take (l : List Ch) (f : Ch → Bool) {k : Nat} (hk : k < l.length) : (l.take (k + 1)).all f = ((l.take k).all f && f (l.getD k (false, false))) := by
  have e : l.getD k (false, false) = l[k] := by simp [hk]
  rw [e, List.take_succ_eq_append_getElem hk, List.all_append]
  simp
theorem any_take (l : List Ch) (f : Ch → Bool) {k : Nat} (hk : k < l.length) : (l.take (k + 1)).any f = ((l.take k).any f || f (l.getD k (false, false))) := by
  have e : l.getD k (false, false) = l[k] := by simp [hk]
  rw [e, List.take_succ_eq_append_getElem hk, List.any_append]
  simp

set_option maxRecDepth 100000 in
set_option maxHeartbeats 4000000 in
theorem iAllOf (l : List Ch) (n : Nat) (u : Value) (w : World) (hl : l.length = n) (h : Rd 2 w u n (chcs l)) :
    Calls Try.prog 100 #[u] w fun e w' => e = .returned (chV (l.all (·.1), l.any (·.2))) ∧ Below w.heap.size w w' := by
  obtain ⟨a, cap, rfl, hm, HC⟩ := h.chs hl
  unfold maxLen at hm
  have HS1 : Hid (∀ k, k < n → (l.take (k + 1)).all (·.1) = ((l.take k).all (·.1) && (l.getD k (false, false)).1)) := fun k hk => all_take l _ (by omega)
  have HS2 : Hid (∀ k, k < n → (l.take (k + 1)).any (·.2) = ((l.take k).any (·.2) || (l.getD k (false, false)).2)) := fun k hk => any_take l _ (by omega)
  have HE1 : Hid ((l.take n).all (·.1) = l.all (·.1)) := by rw [List.take_of_length_le (by omega)]; rfl
  have HE2 : Hid ((l.take n).any (·.2) = l.any (·.2)) := by rw [List.take_of_length_le (by omega)]; rfl
  have HZ1 : Hid ((l.take 0).all (·.1) = true) := by rw [List.take_zero]; rfl
  have HZ2 : Hid ((l.take 0).any (·.2) = false) := by rw [List.take_zero]; rfl
  generalize hA : (fun k => (l.take k).all (·.1)) = A
  generalize hB : (fun k => (l.take k).any (·.2)) = B
  have eA : ∀ k, (l.take k).all (·.1) = A k := fun k => by rw [← hA]
  have eB : ∀ k, (l.take k).any (·.2) = B k := fun k => by rw [← hB]
  simp only [eA] at HS1 HE1 HZ1
  simp only [eB] at HS2 HE2 HZ2
  generalize l.all (·.1) = RA at HE1 ⊢
  generalize l.any (·.2) = RB at HE2 ⊢
  have B0 := below_alloc w (.cells #[.bool false, .bool false] 103)
  have HSU := Lib.hid (fun W => iSure true W)
  have R0 := blk_new w [.bool false, .bool false] 103
  generalize hw0 : w.alloc (.cells #[.bool false, .bool false] 103) = w0 at B0 R0
  have HW0 := Lib.hid hw0
  clear hw0 h hl hA hB eA eB
  go_enter Try.func100, Try.ntmps100
  go_wp2_with fail
  rw [HW0.out]
  refine (HSU.out _).mono ?_
  rintro e w1 ⟨rfl, b1⟩
  have B1 := below_then B0 b1 B0.size
  have R1 := R0.below b1
  have hlt : w.heap.size < w1.heap.size := R1.lt
  clear b1 R0 HSU B0 HW0
  go_wp2
  go_loopw [5, 9] (fun _ i wr => ∃ k : Nat, k ≤ n ∧ i = .int .i64 k ∧ Blk wr w1.heap.size [.bool (A k), .bool (B k)] ∧ Blk wr w.heap.size [.bool false, .bool false] ∧ Below w.heap.size w wr) (fun _ i _ => n - (intOf i).toNat)
  case atStart =>
    refine ⟨0, Nat.zero_le _, rfl, ?_, R1.below (below_alloc _ _), B1.alloc B1.size _⟩
    rw [HZ1.out, HZ2.out]
    exact blk_new w1 _ _
  case round =>
    obtain ⟨k, hk, rfl, rO, rR, hbr⟩ := hrel
    obtain ⟨o0, g0⟩ := rO 0 _ rfl
    obtain ⟨o1, g1⟩ := rO 1 _ rfl
    have HLT := Lib.hid hlt
    have HBR := Lib.hid hbr
    have HRO := Lib.hid rO
    have HRR := Lib.hid rR
    by_cases hlt2 : k < n
    · obtain ⟨b, off, rfl, p0, p1⟩ := HC.out k hlt2
      have hs1 := HS1.out k hlt2
      have hs2 := HS2.out k hlt2
      generalize l.getD k (false, false) = x at p0 p1 hs1 hs2
      obtain ⟨y, z⟩ := x
      simp only at p0 p1 hs1 hs2
      replace p0 := (hbr.cell (p := ⟨b, off + k * 2, none⟩) (lt_of_cell p0)).trans p0
      replace p1 := (hbr.cell (p := ⟨b, off + k * 2 + 1, none⟩) (lt_of_cell p1)).trans p1
      have HT1 := Lib.hid hs1
      have HT2 := Lib.hid hs2
      have HN : Hid (∀ b1 b2 : Bool, b1 = A (k + 1) → b2 = B (k + 1) → Blk (((wr.alloc (.cells #[.bool y, .bool z] 103)).setCell ⟨w1.heap.size, 0, none⟩ (.bool b1)).setCell ⟨w1.heap.size, 1, none⟩ (.bool b2)) w1.heap.size [.bool (A (k + 1)), .bool (B (k + 1))] ∧ Blk (((wr.alloc (.cells #[.bool y, .bool z] 103)).setCell ⟨w1.heap.size, 0, none⟩ (.bool b1)).setCell ⟨w1.heap.size, 1, none⟩ (.bool b2)) w.heap.size [.bool false, .bool false] ∧ Below w.heap.size w (((wr.alloc (.cells #[.bool y, .bool z] 103)).setCell ⟨w1.heap.size, 0, none⟩ (.bool b1)).setCell ⟨w1.heap.size, 1, none⟩ (.bool b2))) := fun b1 b2 e1 e2 => by
        have hb1 := HBR.out.alloc HBR.out.size (.cells #[.bool y, .bool z] 103)
        have h1 := ((HRO.out.below (below_alloc wr (.cells #[.bool y, .bool z] 103))).set 0 (.bool b1)).set 1 (.bool b2)
        have hne := HLT.out
        have h2 := ((HRR.out.below (below_alloc wr (.cells #[.bool y, .bool z] 103))).other (p := ⟨w1.heap.size, 0, none⟩) (by simp; omega) (.bool b1)).other (p := ⟨w1.heap.size, 1, none⟩) (by simp; omega) (.bool b2)
        rw [← e1, ← e2]
        exact ⟨h1, h2, (hb1.setCell (p := ⟨w1.heap.size, 0, none⟩) (by simp; omega) _).setCell (p := ⟨w1.heap.size, 1, none⟩) (by simp; omega) _⟩
      have hO := HRO.out.below (below_alloc wr (.cells #[.bool y, .bool z] 103))
      replace o0 := (hO 0 _ rfl).1
      replace o1 := (hO 1 _ rfl).1
      replace g0 := (hO 0 _ rfl).2
      replace g1 := (hO 1 _ rfl).2
      clear hs1 hs2 rO rR hbr hlt R1 B1 hO
      generalize A k = Ak at o0 HT1
      generalize B k = Bk at o1 HT2
      cases Ak <;> cases Bk <;>
      · go_wp2
        go_roundw
        case rel => exact ⟨k + 1, by omega, by go_num, HN.out _ _ (by rw [HT1.out]; rfl) (by rw [HT2.out]; rfl)⟩
        case measure => simp [intOf]; omega
    · obtain rfl : k = n := by omega
      rw [HE1.out] at o0
      rw [HE2.out] at o1
      obtain ⟨q0, f0⟩ := rR 0 _ rfl
      obtain ⟨q1, f1⟩ := rR 1 _ rfl
      clear rO rR hbr hlt R1 B1 HRO HRR
      go_wp2
      refine bodyPost_ret (v := .agg #[.bool RA, .bool RB]) (by simp [results, Try.results100, go_sem, *]) rfl ⟨rfl, (HBR.out.setCell (p := ⟨w.heap.size, 0, none⟩) (by simp) _).setCell (p := ⟨w.heap.size, 1, none⟩) (by simp) _⟩

set_option maxRecDepth 100000 in
set_option maxHeartbeats 4000000 in
theorem iSomeOf (l : List Ch) (n : Nat) (u : Value) (w : World) (hl : l.length = n) (h : Rd 2 w u n (chcs l)) :
    Calls Try.prog 101 #[u] w fun e w' => e = .returned (chV (l.any (·.1), l.all (·.2))) ∧ Below w.heap.size w w' := by
  obtain ⟨a, cap, rfl, hm, HC⟩ := h.chs hl
  unfold maxLen at hm
  have HS1 : Hid (∀ k, k < n → (l.take (k + 1)).any (·.1) = ((l.take k).any (·.1) || (l.getD k (false, false)).1)) := fun k hk => any_take l _ (by omega)
  have HS2 : Hid (∀ k, k < n → (l.take (k + 1)).all (·.2) = ((l.take k).all (·.2) && (l.getD k (false, false)).2)) := fun k hk => all_take l _ (by omega)
  have HE1 : Hid ((l.take n).any (·.1) = l.any (·.1)) := by rw [List.take_of_length_le (by omega)]; rfl
  have HE2 : Hid ((l.take n).all (·.2) = l.all (·.2)) := by rw [List.take_of_length_le (by omega)]; rfl
  have HZ1 : Hid ((l.take 0).any (·.1) = false) := by rw [List.take_zero]; rfl
  have HZ2 : Hid ((l.take 0).all (·.2) = true) := by rw [List.take_zero]; rfl
  generalize hA : (fun k => (l.take k).any (·.1)) = A
  generalize hB : (fun k => (l.take k).all (·.2)) = B
  have eA : ∀ k, (l.take k).any (·.1) = A k := fun k => by rw [← hA]
  have eB : ∀ k, (l.take k).all (·.2) = B k := fun k => by rw [← hB]
  simp only [eA] at HS1 HE1 HZ1
  simp only [eB] at HS2 HE2 HZ2
  generalize l.any (·.1) = RA at HE1 ⊢
  generalize l.all (·.2) = RB at HE2 ⊢
  have B0 := below_alloc w (.cells #[.bool false, .bool false] 103)
  have HSU := Lib.hid (fun W => iSure false W)
  have R0 := blk_new w [.bool false, .bool false] 103
  generalize hw0 : w.alloc (.cells #[.bool false, .bool false] 103) = w0 at B0 R0
  have HW0 := Lib.hid hw0
  clear hw0 h hl hA hB eA eB
  go_enter Try.func101, Try.ntmps101
  go_wp2_with fail
  rw [HW0.out]
  refine (HSU.out _).mono ?_
  rintro e w1 ⟨rfl, b1⟩
  have B1 := below_then B0 b1 B0.size
  have R1 := R0.below b1
  have hlt : w.heap.size < w1.heap.size := R1.lt
  clear b1 R0 HSU B0 HW0
  go_wp2
  go_loopw [5, 9] (fun _ i wr => ∃ k : Nat, k ≤ n ∧ i = .int .i64 k ∧ Blk wr w1.heap.size [.bool (A k), .bool (B k)] ∧ Blk wr w.heap.size [.bool false, .bool false] ∧ Below w.heap.size w wr) (fun _ i _ => n - (intOf i).toNat)
  case atStart =>
    refine ⟨0, Nat.zero_le _, rfl, ?_, R1.below (below_alloc _ _), B1.alloc B1.size _⟩
    rw [HZ1.out, HZ2.out]
    exact blk_new w1 _ _
  case round =>
    obtain ⟨k, hk, rfl, rO, rR, hbr⟩ := hrel
    obtain ⟨o0, g0⟩ := rO 0 _ rfl
    obtain ⟨o1, g1⟩ := rO 1 _ rfl
    have HLT := Lib.hid hlt
    have HBR := Lib.hid hbr
    have HRO := Lib.hid rO
    have HRR := Lib.hid rR
    by_cases hlt2 : k < n
    · obtain ⟨b, off, rfl, p0, p1⟩ := HC.out k hlt2
      have hs1 := HS1.out k hlt2
      have hs2 := HS2.out k hlt2
      generalize l.getD k (false, false) = x at p0 p1 hs1 hs2
      obtain ⟨y, z⟩ := x
      simp only at p0 p1 hs1 hs2
      replace p0 := (hbr.cell (p := ⟨b, off + k * 2, none⟩) (lt_of_cell p0)).trans p0
      replace p1 := (hbr.cell (p := ⟨b, off + k * 2 + 1, none⟩) (lt_of_cell p1)).trans p1
      have HT1 := Lib.hid hs1
      have HT2 := Lib.hid hs2
      have HN : Hid (∀ b1 b2 : Bool, b1 = A (k + 1) → b2 = B (k + 1) → Blk (((wr.alloc (.cells #[.bool y, .bool z] 103)).setCell ⟨w1.heap.size, 0, none⟩ (.bool b1)).setCell ⟨w1.heap.size, 1, none⟩ (.bool b2)) w1.heap.size [.bool (A (k + 1)), .bool (B (k + 1))] ∧ Blk (((wr.alloc (.cells #[.bool y, .bool z] 103)).setCell ⟨w1.heap.size, 0, none⟩ (.bool b1)).setCell ⟨w1.heap.size, 1, none⟩ (.bool b2)) w.heap.size [.bool false, .bool false] ∧ Below w.heap.size w (((wr.alloc (.cells #[.bool y, .bool z] 103)).setCell ⟨w1.heap.size, 0, none⟩ (.bool b1)).setCell ⟨w1.heap.size, 1, none⟩ (.bool b2))) := fun b1 b2 e1 e2 => by
        have hb1 := HBR.out.alloc HBR.out.size (.cells #[.bool y, .bool z] 103)
        have h1 := ((HRO.out.below (below_alloc wr (.cells #[.bool y, .bool z] 103))).set 0 (.bool b1)).set 1 (.bool b2)
        have hne := HLT.out
        have h2 := ((HRR.out.below (below_alloc wr (.cells #[.bool y, .bool z] 103))).other (p := ⟨w1.heap.size, 0, none⟩) (by simp; omega) (.bool b1)).other (p := ⟨w1.heap.size, 1, none⟩) (by simp; omega) (.bool b2)
        rw [← e1, ← e2]
        exact ⟨h1, h2, (hb1.setCell (p := ⟨w1.heap.size, 0, none⟩) (by simp; omega) _).setCell (p := ⟨w1.heap.size, 1, none⟩) (by simp; omega) _⟩
      have hO := HRO.out.below (below_alloc wr (.cells #[.bool y, .bool z] 103))
      replace o0 := (hO 0 _ rfl).1
      replace o1 := (hO 1 _ rfl).1
      replace g0 := (hO 0 _ rfl).2
      replace g1 := (hO 1 _ rfl).2
      clear hs1 hs2 rO rR hbr hlt R1 B1 hO
      generalize A k = Ak at o0 HT1
      generalize B k = Bk at o1 HT2
      cases Ak <;> cases Bk <;>
      · go_wp2
        go_roundw
        case rel => exact ⟨k + 1, by omega, by go_num, HN.out _ _ (by rw [HT1.out]; rfl) (by rw [HT2.out]; rfl)⟩
        case measure => simp [intOf]; omega
    · obtain rfl : k = n := by omega
      rw [HE1.out] at o0
      rw [HE2.out] at o1
      obtain ⟨q0, f0⟩ := rR 0 _ rfl
      obtain ⟨q1, f1⟩ := rR 1 _ rfl
      clear rO rR hbr hlt R1 B1 HRO HRR
      go_wp2
      refine bodyPost_ret (v := .agg #[.bool RA, .bool RB]) (by simp [results, Try.results101, go_sem, *]) rfl ⟨rfl, (HBR.out.setCell (p := ⟨w.heap.size, 0, none⟩) (by simp) _).setCell (p := ⟨w.heap.size, 1, none⟩) (by simp) _⟩

end Go.Proofs.Ytafoldpmodipaaa

/- The contract of impl's firstTurned. -/
namespace Go.Proofs.Ytafoldpmodipaaa
open Go.RowKit

def turned (l : List Ch) (o : Ch) : Ch := match l with | [] => o | x :: _ => (x.2, x.1)
set_option maxRecDepth 100000 in
set_option maxHeartbeats 4000000 in
theorem iTurned (l : List Ch) (n : Nat) (u : Value) (o : Ch) (w : World) (hl : l.length = n) (h : Rd 2 w u n (chcs l)) :
    Calls Try.prog 102 #[u, chV o] w fun e w' => e = .returned (chV (turned l o)) ∧ Below w.heap.size w w' := by
  obtain ⟨a, cap, rfl, hm, HC⟩ := h.chs hl
  unfold maxLen at hm
  obtain ⟨oy, on⟩ := o
  have B0 := below_alloc2 w (.cells #[.bool oy, .bool on] 103) (.cells #[.bool false, .bool false] 103)
  have C0 := (blk_new w [.bool oy, .bool on] 103).below (below_alloc _ (.cells #[.bool false, .bool false] 103))
  have C1 := blk_new (w.alloc (.cells #[.bool oy, .bool on] 103)) [.bool false, .bool false] 103
  rw [World.size_alloc] at C1
  generalize hw0 : (w.alloc (.cells #[.bool oy, .bool on] 103)).alloc (.cells #[.bool false, .bool false] 103) = w0 at B0 C0 C1
  have HW0 := Lib.hid hw0
  have q0 := (C0 0 _ rfl).1
  have q1 := (C0 1 _ rfl).1
  obtain ⟨r0, f0⟩ := C1 0 _ rfl
  obtain ⟨r1, f1⟩ := C1 1 _ rfl
  have HL := Lib.hid hl
  clear hw0 h hl C0 C1
  by_cases hn : n = 0
  · subst hn
    have ht : turned l (oy, on) = (oy, on) := by
      rw [List.eq_nil_of_length_eq_zero HL.out]
      rfl
    rw [ht]
    clear ht
    go_enter Try.func102, Try.ntmps102
    go_wp2_with fail
    refine bodyPost_ret (v := .agg #[.bool oy, .bool on]) (by simp [results, Try.results102, go_sem]) rfl ⟨rfl, below_alloc2 w _ _⟩
  · obtain ⟨b, off, rfl, p0, p1⟩ := HC.out 0 (by omega)
    have hpos : 0 < n := by omega
    have ht : turned l (oy, on) = ((l.getD 0 (false, false)).2, (l.getD 0 (false, false)).1) := by
      have := HL.out
      cases l with
      | nil => simp at this; omega
      | cons x r => rfl
    rw [ht]
    generalize l.getD 0 (false, false) = x at p0 p1 ⊢
    obtain ⟨y, z⟩ := x
    simp only [Nat.zero_mul, Nat.add_zero] at p0 p1 ⊢
    replace p0 := (B0.cell (p := ⟨b, off, none⟩) (lt_of_cell p0)).trans p0
    replace p1 := (B0.cell (p := ⟨b, off + 1, none⟩) (lt_of_cell p1)).trans p1
    clear ht
    go_enter Try.func102, Try.ntmps102
    go_wp2_with fail
    rw [HW0.out]
    have hposi : (0 : Int) < (n : Int) := by omega
    have hnz : ¬ (n : Int) = 0 := by omega
    go_wp2
    go_region
    go_wp2
    refine bodyPost_ret (v := .agg #[.bool z, .bool y]) (by simp [results, Try.results102, go_sem, *]) rfl ⟨rfl, ?_⟩
    exact ((B0.drew).setCell (p := ⟨w.heap.size + 1, 0, none⟩) (by simp) _).setCell (p := ⟨w.heap.size + 1, 1, none⟩) (by simp) _

end Go.Proofs.Ytafoldpmodipaaa

/- The contract of the closure of impl's Holds (written by mk_I11.py). -/
namespace Go.Proofs.Ytafoldpmodipaaa
open Go.RowKit

/-- Whatever lies below block b reads as it did. -/
def KeepLt (b : Nat) (w X : World) : Prop := ∀ p v, p.block < b → w.cell? p = some v → X.cell? p = some v
theorem KeepLt.refl (b : Nat) (w : World) : KeepLt b w w := fun _ _ _ h => h
theorem KeepLt.drew {b : Nat} {w X : World} (h : KeepLt b w X) : KeepLt b w X.drew := h
theorem KeepLt.below {b : Nat} {w X Y : World} (h : KeepLt b w X) (hb : Below X.heap.size X Y) : KeepLt b w Y := fun p v hp hv => (hb.cell (lt_of_cell (h p v hp hv))).trans (h p v hp hv)
theorem KeepLt.of_below {b : Nat} {w Y : World} (hb : Below w.heap.size w Y) : KeepLt b w Y := (KeepLt.refl b w).below hb
theorem KeepLt.set {b : Nat} {w X : World} (h : KeepLt b w X) {p : Addr} (hp : b ≤ p.block) (u : Value) : KeepLt b w (X.setCell p u) := fun r v hr hv => (World.cell?_setCell_other _ _ _ _ (fun e => by rw [e] at hp; omega)).trans (h r v hr hv)

set_option maxRecDepth 100000 in
set_option maxHeartbeats 8000000 in
theorem holdsOne (l : List V) (n cap bx : Nat) (a : Option Addr) (x : T) (w : World) (hl : l.length = n) (hv : Rd 3 w (.slice a n cap) n (vals l)) (hbx : w.cell? ⟨bx, 0, none⟩ = some (.slice a n cap)) :
    Calls Try.prog 65 #[.agg #[.int .i64 x.col, .int .i64 x.op, .int .i64 x.v.ty, .int .i64 x.v.n, .string x.v.s], .pointer (some ⟨bx, 0, none⟩)] w fun e w' =>
      e = .returned (chV (Num.inB x.col 0 ((n : Int) - 1) && holdsB x.op (l.getD x.col.toNat V.zero) x.v, !(Num.inB x.col 0 ((n : Int) - 1) && holdsB x.op (l.getD x.col.toNat V.zero) x.v))) ∧ Below w.heap.size w w' := by
  obtain ⟨_, _, e1, _, HV⟩ := hv.vals hl
  cases e1
  have hbl : bx < w.heap.size := lt_of_cell hbx
  obtain ⟨k, c, o, ⟨vt, vn, vs⟩, tl⟩ := x
  simp only [T.col, T.op, T.v]
  have B0 := below_alloc2 w (.cells #[.int .i64 c, .int .i64 o, .int .i64 vt, .int .i64 vn, .string vs] 107) (.cells #[.bool false, .bool false] 103)
  have C0 := (blk_new w [.int .i64 c, .int .i64 o, .int .i64 vt, .int .i64 vn, .string vs] 107).below (below_alloc _ (.cells #[.bool false, .bool false] 103))
  have C1 := blk_new (w.alloc (.cells #[.int .i64 c, .int .i64 o, .int .i64 vt, .int .i64 vn, .string vs] 107)) [.bool false, .bool false] 103
  rw [World.size_alloc] at C1
  have hbx0 := (B0.cell (p := ⟨bx, 0, none⟩) (lt_of_cell hbx)).trans hbx
  generalize hw0 : (w.alloc (.cells #[.int .i64 c, .int .i64 o, .int .i64 vt, .int .i64 vn, .string vs] 107)).alloc (.cells #[.bool false, .bool false] 103) = w0 at B0 C0 C1 hbx0
  have HW0 := Lib.hid hw0
  have c0 := (C0 0 _ rfl).1
  have c1 := (C0 1 _ rfl).1
  have c2 := (C0 2 _ rfl).1
  have c3 := (C0 3 _ rfl).1
  have c4 := (C0 4 _ rfl).1
  clear hw0 C0 hv hbx
  by_cases h0 : c < 0
  · have hi : Num.inB c 0 ((n : Int) - 1) = false := by
      rw [← Bool.not_eq_true, Num.inB_true]
      omega
    have hres : chV (false, !false) = chV (Num.inB c 0 ((n : Int) - 1) && holdsB o (l.getD c.toNat V.zero) ⟨vt, vn, vs⟩, !(Num.inB c 0 ((n : Int) - 1) && holdsB o (l.getD c.toNat V.zero) ⟨vt, vn, vs⟩)) := by rw [hi]; rfl
    rw [← hres]
    clear hi hres
    have hge : ¬ (0 ≤ c) := by omega
    have HC : Hid (∀ X, KeepLt (w.heap.size + 1) w0 X → X.cell? ⟨w.heap.size, 0, none⟩ = some (.int .i64 c) ∧ X.cell? ⟨w.heap.size, 1, none⟩ = some (.int .i64 o) ∧ X.cell? ⟨w.heap.size, 2, none⟩ = some (.int .i64 vt) ∧ X.cell? ⟨w.heap.size, 3, none⟩ = some (.int .i64 vn) ∧ X.cell? ⟨w.heap.size, 4, none⟩ = some (.string vs) ∧ X.cell? ⟨bx, 0, none⟩ = some (.slice a n cap)) := fun X h => ⟨h _ _ (by simp) c0, h _ _ (by simp) c1, h _ _ (by simp) c2, h _ _ (by simp) c3, h _ _ (by simp) c4, h _ _ (by simp; omega) hbx0⟩
    clear c0 c1 c2 c3 c4 hbx0
    go_enter Try.func65, Try.ntmps65
    go_wp2_with fail
    rw [HW0.out]
    refine wp_region_held_drew (S := KeepLt (w.heap.size + 1) w0) (by kernel_rfl) (KeepLt.refl _ _).drew (fun hHeld => ?_)
    refine takeH (i := 0) (d := some 4) (v := .pointer (some ⟨w.heap.size, 0, none⟩)) rfl rfl (by kernel_rfl) (by kernel_rfl) (by kernel_rfl) (fun _ _ _ h => h) (Or.inl ⟨by rfl, fun W hSw => by obtain ⟨d0, d1, d2, d3, d4, d5⟩ := HC.out W hSw; go_simp⟩) hHeld ?_
    simp only [put_some, List.set_cons_zero, List.set_cons_succ]
    refine takeH (i := 1) (d := some 5) (v := .int .i64 c) rfl rfl (by kernel_rfl) (by kernel_rfl) (by kernel_rfl) (fun _ _ _ h => h) (Or.inl ⟨by rfl, fun W hSw => by obtain ⟨d0, d1, d2, d3, d4, d5⟩ := HC.out W hSw; go_simp⟩) hHeld ?_
    simp only [put_some, List.set_cons_zero, List.set_cons_succ]
    refine takeH (i := 2) (d := some 6) (v := .bool false) rfl rfl (by kernel_rfl) (by kernel_rfl) (by kernel_rfl) (fun _ _ _ h => h) (Or.inl ⟨by rfl, fun W hSw => by obtain ⟨d0, d1, d2, d3, d4, d5⟩ := HC.out W hSw; go_simp⟩) hHeld ?_
    simp only [put_some, List.set_cons_zero, List.set_cons_succ]
    refine takeH (i := 3) (d := some 7) (v := .bool false) rfl rfl (by kernel_rfl) (by kernel_rfl) (by kernel_rfl) (fun _ _ _ h => h) (Or.inl ⟨by rfl, fun W hSw => by obtain ⟨d0, d1, d2, d3, d4, d5⟩ := HC.out W hSw; go_simp⟩) hHeld ?_
    simp only [put_some, List.set_cons_zero, List.set_cons_succ]
    refine takeH (i := 4) (d := some 8) (v := undef) rfl rfl (by kernel_rfl) (by kernel_rfl) (by kernel_rfl) (fun _ _ _ h => h) (Or.inr ⟨by rfl, rfl⟩) hHeld ?_
    simp only [put_some, List.set_cons_zero, List.set_cons_succ]
    refine takeH (i := 5) (d := some 9) (v := undef) rfl rfl (by kernel_rfl) (by kernel_rfl) (by kernel_rfl) (fun _ _ _ h => h) (Or.inr ⟨by rfl, rfl⟩) hHeld ?_
    simp only [put_some, List.set_cons_zero, List.set_cons_succ]
    refine takeH (i := 6) (d := some 10) (v := undef) rfl rfl (by kernel_rfl) (by kernel_rfl) (by kernel_rfl) (fun _ _ _ h => h) (Or.inr ⟨by rfl, rfl⟩) hHeld ?_
    simp only [put_some, List.set_cons_zero, List.set_cons_succ]
    refine takeH (i := 7) (d := some 11) (v := undef) rfl rfl (by kernel_rfl) (by kernel_rfl) (by kernel_rfl) (fun _ _ _ h => h) (Or.inr ⟨by rfl, rfl⟩) hHeld ?_
    simp only [put_some, List.set_cons_zero, List.set_cons_succ]
    refine takeH (i := 8) (d := some 12) (v := undef) rfl rfl (by kernel_rfl) (by kernel_rfl) (by kernel_rfl) (fun _ _ _ h => h) (Or.inr ⟨by rfl, rfl⟩) hHeld ?_
    simp only [put_some, List.set_cons_zero, List.set_cons_succ]
    refine takeH (i := 9) (d := some 13) (v := .bool false) rfl rfl (by kernel_rfl) (by kernel_rfl) (by kernel_rfl) (fun _ _ _ h => h) (Or.inl ⟨by rfl, fun W hSw => by obtain ⟨d0, d1, d2, d3, d4, d5⟩ := HC.out W hSw; go_simp⟩) hHeld ?_
    simp only [put_some, List.set_cons_zero, List.set_cons_succ]
    refine takeH (i := 10) (d := some 14) (v := .bool false) rfl rfl (by kernel_rfl) (by kernel_rfl) (by kernel_rfl) (fun _ _ _ h => h) (Or.inl ⟨by rfl, fun W hSw => by obtain ⟨d0, d1, d2, d3, d4, d5⟩ := HC.out W hSw; go_simp⟩) hHeld ?_
    simp only [put_some, List.set_cons_zero, List.set_cons_succ]
    refine takeH (i := 11) (d := some 15) (v := undef) rfl rfl (by kernel_rfl) (by kernel_rfl) (by kernel_rfl) (fun _ _ _ h => h) (Or.inr ⟨by rfl, rfl⟩) hHeld ?_
    simp only [put_some, List.set_cons_zero, List.set_cons_succ]
    refine takeH (i := 12) (d := some 16) (v := undef) rfl rfl (by kernel_rfl) (by kernel_rfl) (by kernel_rfl) (fun _ _ _ h => h) (Or.inr ⟨by rfl, rfl⟩) hHeld ?_
    simp only [put_some, List.set_cons_zero, List.set_cons_succ]
    refine takeH (i := 13) (d := some 17) (v := undef) rfl rfl (by kernel_rfl) (by kernel_rfl) (by kernel_rfl) (fun _ _ _ h => h) (Or.inr ⟨by rfl, rfl⟩) hHeld ?_
    simp only [put_some, List.set_cons_zero, List.set_cons_succ]
    refine takeH (i := 14) (d := some 18) (v := undef) rfl rfl (by kernel_rfl) (by kernel_rfl) (by kernel_rfl) (fun _ _ _ h => h) (Or.inr ⟨by rfl, rfl⟩) hHeld ?_
    simp only [put_some, List.set_cons_zero, List.set_cons_succ]
    refine takeH (i := 15) (d := some 19) (v := undef) rfl rfl (by kernel_rfl) (by kernel_rfl) (by kernel_rfl) (fun _ _ _ h => h) (Or.inr ⟨by rfl, rfl⟩) hHeld ?_
    simp only [put_some, List.set_cons_zero, List.set_cons_succ]
    refine takeH (i := 16) (d := some 20) (v := undef) rfl rfl (by kernel_rfl) (by kernel_rfl) (by kernel_rfl) (fun _ _ _ h => h) (Or.inr ⟨by rfl, rfl⟩) hHeld ?_
    simp only [put_some, List.set_cons_zero, List.set_cons_succ]
    refine takeH (i := 17) (d := some 21) (v := undef) rfl rfl (by kernel_rfl) (by kernel_rfl) (by kernel_rfl) (fun _ _ _ h => h) (Or.inr ⟨by rfl, rfl⟩) hHeld ?_
    simp only [put_some, List.set_cons_zero, List.set_cons_succ]
    refine takeH (i := 18) (d := some 22) (v := undef) rfl rfl (by kernel_rfl) (by kernel_rfl) (by kernel_rfl) (fun _ _ _ h => h) (Or.inr ⟨by rfl, rfl⟩) hHeld ?_
    simp only [put_some, List.set_cons_zero, List.set_cons_succ]
    refine takeH (i := 19) (d := some 23) (v := undef) rfl rfl (by kernel_rfl) (by kernel_rfl) (by kernel_rfl) (fun _ _ _ h => h) (Or.inr ⟨by rfl, rfl⟩) hHeld ?_
    simp only [put_some, List.set_cons_zero, List.set_cons_succ]
    refine takeH (i := 20) (d := some 24) (v := undef) rfl rfl (by kernel_rfl) (by kernel_rfl) (by kernel_rfl) (fun _ _ _ h => h) (Or.inr ⟨by rfl, rfl⟩) hHeld ?_
    simp only [put_some, List.set_cons_zero, List.set_cons_succ]
    refine takeH (i := 21) (d := some 25) (v := .bool false) rfl rfl (by kernel_rfl) (by kernel_rfl) (by kernel_rfl) (fun _ _ _ h => h) (Or.inl ⟨by rfl, fun W hSw => by obtain ⟨d0, d1, d2, d3, d4, d5⟩ := HC.out W hSw; go_simp⟩) hHeld ?_
    simp only [put_some, List.set_cons_zero, List.set_cons_succ]
    have hB' := (Below.refl w0.heap.size w0).drew
    refine wpAnyH_ready (rs := [22]) (by kernel_rfl) (by simp) ?_
    refine AllReadyH.cons rfl (fun K hK => ?_) AllReadyH.nil
    go_simp
    go_at_call 64
    refine (iSure false _).mono ?_
    rintro e w2 ⟨rfl, hb2⟩
    have hB2 : Below w0.heap.size w0 w2 := below_then hB' hb2 hB'.size
    have RX := C1.below hB2
    obtain ⟨r0, f0⟩ := RX 0 _ rfl
    obtain ⟨r1, f1⟩ := RX 1 _ rfl
    have HBE := Lib.hid (((B0.trans (hB2.mono B0.size)).setCell (p := ⟨w.heap.size + 1, 0, none⟩) (by simp) (.bool false)).setCell (p := ⟨w.heap.size + 1, 1, none⟩) (by simp) (.bool true))
    have HKE := Lib.hid ((KeepLt.of_below hB2 : KeepLt (w.heap.size + 1) w0 w2))
    have HRX := Lib.hid ((RX.set 0 (.bool false)).set 1 (.bool true))
    clear hb2 hB2 RX
    go_wp2_with fail
    refine hK.out _ _ HKE.out (fun hHeld => ?_)
    clear hK K
    refine wpAnyH_ready (rs := [23]) (by kernel_rfl) (by simp) ?_
    refine AllReadyH.cons rfl (fun K hK => ?_) AllReadyH.nil
    go_simp
    refine hK.out _ _ ((HKE.out.set (p := ⟨w.heap.size + 1, 0, none⟩) (by simp) _).set (p := ⟨w.heap.size + 1, 1, none⟩) (by simp) _) (fun hHeld => ?_)
    clear hK K
    refine wpAnyH_done (by kernel_rfl) ?_ _
    have z0 := (HRX.out 0 _ rfl).1
    have z1 := (HRX.out 1 _ rfl).1
    go_wp2
    refine bodyPost_ret (v := .agg #[.bool false, .bool true]) (by simp [results, Try.results65, go_sem, *]) rfl ⟨rfl, ?_⟩
    exact HBE.out
  by_cases h1 : (n : Int) ≤ c
  · have hi : Num.inB c 0 ((n : Int) - 1) = false := by
      rw [← Bool.not_eq_true, Num.inB_true]
      omega
    have hres : chV (false, !false) = chV (Num.inB c 0 ((n : Int) - 1) && holdsB o (l.getD c.toNat V.zero) ⟨vt, vn, vs⟩, !(Num.inB c 0 ((n : Int) - 1) && holdsB o (l.getD c.toNat V.zero) ⟨vt, vn, vs⟩)) := by rw [hi]; rfl
    rw [← hres]
    clear hi hres
    have hge : 0 ≤ c := by omega
    have hnl : ¬ c < (n : Int) := by omega
    have HC : Hid (∀ X, KeepLt (w.heap.size + 1) w0 X → X.cell? ⟨w.heap.size, 0, none⟩ = some (.int .i64 c) ∧ X.cell? ⟨w.heap.size, 1, none⟩ = some (.int .i64 o) ∧ X.cell? ⟨w.heap.size, 2, none⟩ = some (.int .i64 vt) ∧ X.cell? ⟨w.heap.size, 3, none⟩ = some (.int .i64 vn) ∧ X.cell? ⟨w.heap.size, 4, none⟩ = some (.string vs) ∧ X.cell? ⟨bx, 0, none⟩ = some (.slice a n cap)) := fun X h => ⟨h _ _ (by simp) c0, h _ _ (by simp) c1, h _ _ (by simp) c2, h _ _ (by simp) c3, h _ _ (by simp) c4, h _ _ (by simp; omega) hbx0⟩
    clear c0 c1 c2 c3 c4 hbx0
    go_enter Try.func65, Try.ntmps65
    go_wp2_with fail
    rw [HW0.out]
    refine wp_region_held_drew (S := KeepLt (w.heap.size + 1) w0) (by kernel_rfl) (KeepLt.refl _ _).drew (fun hHeld => ?_)
    refine takeH (i := 0) (d := some 4) (v := .pointer (some ⟨w.heap.size, 0, none⟩)) rfl rfl (by kernel_rfl) (by kernel_rfl) (by kernel_rfl) (fun _ _ _ h => h) (Or.inl ⟨by rfl, fun W hSw => by obtain ⟨d0, d1, d2, d3, d4, d5⟩ := HC.out W hSw; go_simp⟩) hHeld ?_
    simp only [put_some, List.set_cons_zero, List.set_cons_succ]
    refine takeH (i := 1) (d := some 5) (v := .int .i64 c) rfl rfl (by kernel_rfl) (by kernel_rfl) (by kernel_rfl) (fun _ _ _ h => h) (Or.inl ⟨by rfl, fun W hSw => by obtain ⟨d0, d1, d2, d3, d4, d5⟩ := HC.out W hSw; go_simp⟩) hHeld ?_
    simp only [put_some, List.set_cons_zero, List.set_cons_succ]
    refine takeH (i := 2) (d := some 6) (v := .bool true) rfl rfl (by kernel_rfl) (by kernel_rfl) (by kernel_rfl) (fun _ _ _ h => h) (Or.inl ⟨by rfl, fun W hSw => by obtain ⟨d0, d1, d2, d3, d4, d5⟩ := HC.out W hSw; go_simp⟩) hHeld ?_
    simp only [put_some, List.set_cons_zero, List.set_cons_succ]
    refine takeH (i := 3) (d := some 7) (v := .bool true) rfl rfl (by kernel_rfl) (by kernel_rfl) (by kernel_rfl) (fun _ _ _ h => h) (Or.inl ⟨by rfl, fun W hSw => by obtain ⟨d0, d1, d2, d3, d4, d5⟩ := HC.out W hSw; go_simp⟩) hHeld ?_
    simp only [put_some, List.set_cons_zero, List.set_cons_succ]
    refine takeH (i := 4) (d := some 8) (v := .pointer (some ⟨w.heap.size, 0, none⟩)) rfl rfl (by kernel_rfl) (by kernel_rfl) (by kernel_rfl) (fun _ _ _ h => h) (Or.inl ⟨by rfl, fun W hSw => by obtain ⟨d0, d1, d2, d3, d4, d5⟩ := HC.out W hSw; go_simp⟩) hHeld ?_
    simp only [put_some, List.set_cons_zero, List.set_cons_succ]
    refine takeH (i := 5) (d := some 9) (v := .int .i64 c) rfl rfl (by kernel_rfl) (by kernel_rfl) (by kernel_rfl) (fun _ _ _ h => h) (Or.inl ⟨by rfl, fun W hSw => by obtain ⟨d0, d1, d2, d3, d4, d5⟩ := HC.out W hSw; go_simp⟩) hHeld ?_
    simp only [put_some, List.set_cons_zero, List.set_cons_succ]
    refine takeH (i := 6) (d := some 10) (v := .slice a n cap) rfl rfl (by kernel_rfl) (by kernel_rfl) (by kernel_rfl) (fun _ _ _ h => h) (Or.inl ⟨by rfl, fun W hSw => by obtain ⟨d0, d1, d2, d3, d4, d5⟩ := HC.out W hSw; go_simp⟩) hHeld ?_
    simp only [put_some, List.set_cons_zero, List.set_cons_succ]
    refine takeH (i := 7) (d := some 11) (v := .int .i64 n) rfl rfl (by kernel_rfl) (by kernel_rfl) (by kernel_rfl) (fun _ _ _ h => h) (Or.inl ⟨by rfl, fun W hSw => by obtain ⟨d0, d1, d2, d3, d4, d5⟩ := HC.out W hSw; go_simp⟩) hHeld ?_
    simp only [put_some, List.set_cons_zero, List.set_cons_succ]
    refine takeH (i := 8) (d := some 12) (v := .bool false) rfl rfl (by kernel_rfl) (by kernel_rfl) (by kernel_rfl) (fun _ _ _ h => h) (Or.inl ⟨by rfl, fun W hSw => by obtain ⟨d0, d1, d2, d3, d4, d5⟩ := HC.out W hSw; go_simp⟩) hHeld ?_
    simp only [put_some, List.set_cons_zero, List.set_cons_succ]
    refine takeH (i := 9) (d := some 13) (v := .bool false) rfl rfl (by kernel_rfl) (by kernel_rfl) (by kernel_rfl) (fun _ _ _ h => h) (Or.inl ⟨by rfl, fun W hSw => by obtain ⟨d0, d1, d2, d3, d4, d5⟩ := HC.out W hSw; go_simp⟩) hHeld ?_
    simp only [put_some, List.set_cons_zero, List.set_cons_succ]
    refine takeH (i := 10) (d := some 14) (v := .bool false) rfl rfl (by kernel_rfl) (by kernel_rfl) (by kernel_rfl) (fun _ _ _ h => h) (Or.inl ⟨by rfl, fun W hSw => by obtain ⟨d0, d1, d2, d3, d4, d5⟩ := HC.out W hSw; go_simp⟩) hHeld ?_
    simp only [put_some, List.set_cons_zero, List.set_cons_succ]
    refine takeH (i := 11) (d := some 15) (v := undef) rfl rfl (by kernel_rfl) (by kernel_rfl) (by kernel_rfl) (fun _ _ _ h => h) (Or.inr ⟨by rfl, rfl⟩) hHeld ?_
    simp only [put_some, List.set_cons_zero, List.set_cons_succ]
    refine takeH (i := 12) (d := some 16) (v := undef) rfl rfl (by kernel_rfl) (by kernel_rfl) (by kernel_rfl) (fun _ _ _ h => h) (Or.inr ⟨by rfl, rfl⟩) hHeld ?_
    simp only [put_some, List.set_cons_zero, List.set_cons_succ]
    refine takeH (i := 13) (d := some 17) (v := undef) rfl rfl (by kernel_rfl) (by kernel_rfl) (by kernel_rfl) (fun _ _ _ h => h) (Or.inr ⟨by rfl, rfl⟩) hHeld ?_
    simp only [put_some, List.set_cons_zero, List.set_cons_succ]
    refine takeH (i := 14) (d := some 18) (v := undef) rfl rfl (by kernel_rfl) (by kernel_rfl) (by kernel_rfl) (fun _ _ _ h => h) (Or.inr ⟨by rfl, rfl⟩) hHeld ?_
    simp only [put_some, List.set_cons_zero, List.set_cons_succ]
    refine takeH (i := 15) (d := some 19) (v := undef) rfl rfl (by kernel_rfl) (by kernel_rfl) (by kernel_rfl) (fun _ _ _ h => h) (Or.inr ⟨by rfl, rfl⟩) hHeld ?_
    simp only [put_some, List.set_cons_zero, List.set_cons_succ]
    refine takeH (i := 16) (d := some 20) (v := undef) rfl rfl (by kernel_rfl) (by kernel_rfl) (by kernel_rfl) (fun _ _ _ h => h) (Or.inr ⟨by rfl, rfl⟩) hHeld ?_
    simp only [put_some, List.set_cons_zero, List.set_cons_succ]
    refine takeH (i := 17) (d := some 21) (v := undef) rfl rfl (by kernel_rfl) (by kernel_rfl) (by kernel_rfl) (fun _ _ _ h => h) (Or.inr ⟨by rfl, rfl⟩) hHeld ?_
    simp only [put_some, List.set_cons_zero, List.set_cons_succ]
    refine takeH (i := 18) (d := some 22) (v := undef) rfl rfl (by kernel_rfl) (by kernel_rfl) (by kernel_rfl) (fun _ _ _ h => h) (Or.inr ⟨by rfl, rfl⟩) hHeld ?_
    simp only [put_some, List.set_cons_zero, List.set_cons_succ]
    refine takeH (i := 19) (d := some 23) (v := undef) rfl rfl (by kernel_rfl) (by kernel_rfl) (by kernel_rfl) (fun _ _ _ h => h) (Or.inr ⟨by rfl, rfl⟩) hHeld ?_
    simp only [put_some, List.set_cons_zero, List.set_cons_succ]
    refine takeH (i := 20) (d := some 24) (v := undef) rfl rfl (by kernel_rfl) (by kernel_rfl) (by kernel_rfl) (fun _ _ _ h => h) (Or.inr ⟨by rfl, rfl⟩) hHeld ?_
    simp only [put_some, List.set_cons_zero, List.set_cons_succ]
    refine takeH (i := 21) (d := some 25) (v := .bool false) rfl rfl (by kernel_rfl) (by kernel_rfl) (by kernel_rfl) (fun _ _ _ h => h) (Or.inl ⟨by rfl, fun W hSw => by obtain ⟨d0, d1, d2, d3, d4, d5⟩ := HC.out W hSw; go_simp⟩) hHeld ?_
    simp only [put_some, List.set_cons_zero, List.set_cons_succ]
    have hB' := (Below.refl w0.heap.size w0).drew
    refine wpAnyH_ready (rs := [22]) (by kernel_rfl) (by simp) ?_
    refine AllReadyH.cons rfl (fun K hK => ?_) AllReadyH.nil
    go_simp
    go_at_call 64
    refine (iSure false _).mono ?_
    rintro e w2 ⟨rfl, hb2⟩
    have hB2 : Below w0.heap.size w0 w2 := below_then hB' hb2 hB'.size
    have RX := C1.below hB2
    obtain ⟨r0, f0⟩ := RX 0 _ rfl
    obtain ⟨r1, f1⟩ := RX 1 _ rfl
    have HBE := Lib.hid (((B0.trans (hB2.mono B0.size)).setCell (p := ⟨w.heap.size + 1, 0, none⟩) (by simp) (.bool false)).setCell (p := ⟨w.heap.size + 1, 1, none⟩) (by simp) (.bool true))
    have HKE := Lib.hid ((KeepLt.of_below hB2 : KeepLt (w.heap.size + 1) w0 w2))
    have HRX := Lib.hid ((RX.set 0 (.bool false)).set 1 (.bool true))
    clear hb2 hB2 RX
    go_wp2_with fail
    refine hK.out _ _ HKE.out (fun hHeld => ?_)
    clear hK K
    refine wpAnyH_ready (rs := [23]) (by kernel_rfl) (by simp) ?_
    refine AllReadyH.cons rfl (fun K hK => ?_) AllReadyH.nil
    go_simp
    refine hK.out _ _ ((HKE.out.set (p := ⟨w.heap.size + 1, 0, none⟩) (by simp) _).set (p := ⟨w.heap.size + 1, 1, none⟩) (by simp) _) (fun hHeld => ?_)
    clear hK K
    refine wpAnyH_done (by kernel_rfl) ?_ _
    have z0 := (HRX.out 0 _ rfl).1
    have z1 := (HRX.out 1 _ rfl).1
    go_wp2
    refine bodyPost_ret (v := .agg #[.bool false, .bool true]) (by simp [results, Try.results65, go_sem, *]) rfl ⟨rfl, ?_⟩
    exact HBE.out
  · obtain ⟨q, rfl⟩ : ∃ q : Nat, c = (q : Int) := ⟨c.toNat, by omega⟩
    have hq : q < n := by omega
    have hi : Num.inB (q : Int) 0 ((n : Int) - 1) = true := by
      rw [Num.inB_true]
      omega
    obtain ⟨lb, lo, rfl, p0, p1, p2⟩ := HV.out q hq
    rw [hi, Bool.true_and, Int.toNat_natCast]
    have hlb : lb < w.heap.size := lt_of_cell p0
    have HH := Lib.hid (fun W => iHolds1 o (l.getD q V.zero) ⟨vt, vn, vs⟩ W)
    generalize holdsB o (l.getD q V.zero) ⟨vt, vn, vs⟩ = b at HH ⊢
    generalize l.getD q V.zero = y at p0 p1 p2 HH
    obtain ⟨yt, yn, ys⟩ := y
    simp only at p0 p1 p2 HH
    replace p0 := (B0.cell (p := ⟨lb, lo + q * 3, none⟩) (lt_of_cell p0)).trans p0
    replace p1 := (B0.cell (p := ⟨lb, lo + q * 3 + 1, none⟩) (lt_of_cell p1)).trans p1
    replace p2 := (B0.cell (p := ⟨lb, lo + q * 3 + 2, none⟩) (lt_of_cell p2)).trans p2
    have hq1 : (q : Int) < (n : Int) := by omega
    have hge : (0 : Int) ≤ (q : Int) := by omega
    clear hi HV h0 h1
    have HC : Hid (∀ X, KeepLt (w.heap.size + 1) w0 X → X.cell? ⟨w.heap.size, 0, none⟩ = some (.int .i64 (q : Int)) ∧ X.cell? ⟨w.heap.size, 1, none⟩ = some (.int .i64 o) ∧ X.cell? ⟨w.heap.size, 2, none⟩ = some (.int .i64 vt) ∧ X.cell? ⟨w.heap.size, 3, none⟩ = some (.int .i64 vn) ∧ X.cell? ⟨w.heap.size, 4, none⟩ = some (.string vs) ∧ X.cell? ⟨bx, 0, none⟩ = some (.slice (some ⟨lb, lo, none⟩) n cap) ∧ X.cell? ⟨lb, lo + q * 3, none⟩ = some (.int .i64 yt) ∧ X.cell? ⟨lb, lo + q * 3 + 1, none⟩ = some (.int .i64 yn) ∧ X.cell? ⟨lb, lo + q * 3 + 2, none⟩ = some (.string ys)) := fun X h => ⟨h _ _ (by simp) c0, h _ _ (by simp) c1, h _ _ (by simp) c2, h _ _ (by simp) c3, h _ _ (by simp) c4, h _ _ (by simp; omega) hbx0, h _ _ (by simp; omega) p0, h _ _ (by simp; omega) p1, h _ _ (by simp; omega) p2⟩
    clear c0 c1 c2 c3 c4 hbx0 p0 p1 p2
    go_enter Try.func65, Try.ntmps65
    go_wp2_with fail
    rw [HW0.out]
    refine wp_region_held_drew (S := KeepLt (w.heap.size + 1) w0) (by kernel_rfl) (KeepLt.refl _ _).drew (fun hHeld => ?_)
    refine takeH (i := 0) (d := some 4) (v := .pointer (some ⟨w.heap.size, 0, none⟩)) rfl rfl (by kernel_rfl) (by kernel_rfl) (by kernel_rfl) (fun _ _ _ h => h) (Or.inl ⟨by rfl, fun W hSw => by obtain ⟨d0, d1, d2, d3, d4, d5, d6, d7, d8⟩ := HC.out W hSw; go_simp⟩) hHeld ?_
    simp only [put_some, List.set_cons_zero, List.set_cons_succ]
    refine takeH (i := 1) (d := some 5) (v := .int .i64 (q : Int)) rfl rfl (by kernel_rfl) (by kernel_rfl) (by kernel_rfl) (fun _ _ _ h => h) (Or.inl ⟨by rfl, fun W hSw => by obtain ⟨d0, d1, d2, d3, d4, d5, d6, d7, d8⟩ := HC.out W hSw; go_simp⟩) hHeld ?_
    simp only [put_some, List.set_cons_zero, List.set_cons_succ]
    refine takeH (i := 2) (d := some 6) (v := .bool true) rfl rfl (by kernel_rfl) (by kernel_rfl) (by kernel_rfl) (fun _ _ _ h => h) (Or.inl ⟨by rfl, fun W hSw => by obtain ⟨d0, d1, d2, d3, d4, d5, d6, d7, d8⟩ := HC.out W hSw; go_simp⟩) hHeld ?_
    simp only [put_some, List.set_cons_zero, List.set_cons_succ]
    refine takeH (i := 3) (d := some 7) (v := .bool true) rfl rfl (by kernel_rfl) (by kernel_rfl) (by kernel_rfl) (fun _ _ _ h => h) (Or.inl ⟨by rfl, fun W hSw => by obtain ⟨d0, d1, d2, d3, d4, d5, d6, d7, d8⟩ := HC.out W hSw; go_simp⟩) hHeld ?_
    simp only [put_some, List.set_cons_zero, List.set_cons_succ]
    refine takeH (i := 4) (d := some 8) (v := .pointer (some ⟨w.heap.size, 0, none⟩)) rfl rfl (by kernel_rfl) (by kernel_rfl) (by kernel_rfl) (fun _ _ _ h => h) (Or.inl ⟨by rfl, fun W hSw => by obtain ⟨d0, d1, d2, d3, d4, d5, d6, d7, d8⟩ := HC.out W hSw; go_simp⟩) hHeld ?_
    simp only [put_some, List.set_cons_zero, List.set_cons_succ]
    refine takeH (i := 5) (d := some 9) (v := .int .i64 (q : Int)) rfl rfl (by kernel_rfl) (by kernel_rfl) (by kernel_rfl) (fun _ _ _ h => h) (Or.inl ⟨by rfl, fun W hSw => by obtain ⟨d0, d1, d2, d3, d4, d5, d6, d7, d8⟩ := HC.out W hSw; go_simp⟩) hHeld ?_
    simp only [put_some, List.set_cons_zero, List.set_cons_succ]
    refine takeH (i := 6) (d := some 10) (v := .slice (some ⟨lb, lo, none⟩) n cap) rfl rfl (by kernel_rfl) (by kernel_rfl) (by kernel_rfl) (fun _ _ _ h => h) (Or.inl ⟨by rfl, fun W hSw => by obtain ⟨d0, d1, d2, d3, d4, d5, d6, d7, d8⟩ := HC.out W hSw; go_simp⟩) hHeld ?_
    simp only [put_some, List.set_cons_zero, List.set_cons_succ]
    refine takeH (i := 7) (d := some 11) (v := .int .i64 n) rfl rfl (by kernel_rfl) (by kernel_rfl) (by kernel_rfl) (fun _ _ _ h => h) (Or.inl ⟨by rfl, fun W hSw => by obtain ⟨d0, d1, d2, d3, d4, d5, d6, d7, d8⟩ := HC.out W hSw; go_simp⟩) hHeld ?_
    simp only [put_some, List.set_cons_zero, List.set_cons_succ]
    refine takeH (i := 8) (d := some 12) (v := .bool true) rfl rfl (by kernel_rfl) (by kernel_rfl) (by kernel_rfl) (fun _ _ _ h => h) (Or.inl ⟨by rfl, fun W hSw => by obtain ⟨d0, d1, d2, d3, d4, d5, d6, d7, d8⟩ := HC.out W hSw; go_simp⟩) hHeld ?_
    simp only [put_some, List.set_cons_zero, List.set_cons_succ]
    refine takeH (i := 9) (d := some 13) (v := .bool true) rfl rfl (by kernel_rfl) (by kernel_rfl) (by kernel_rfl) (fun _ _ _ h => h) (Or.inl ⟨by rfl, fun W hSw => by obtain ⟨d0, d1, d2, d3, d4, d5, d6, d7, d8⟩ := HC.out W hSw; go_simp⟩) hHeld ?_
    simp only [put_some, List.set_cons_zero, List.set_cons_succ]
    refine takeH (i := 10) (d := some 14) (v := .bool true) rfl rfl (by kernel_rfl) (by kernel_rfl) (by kernel_rfl) (fun _ _ _ h => h) (Or.inl ⟨by rfl, fun W hSw => by obtain ⟨d0, d1, d2, d3, d4, d5, d6, d7, d8⟩ := HC.out W hSw; go_simp⟩) hHeld ?_
    simp only [put_some, List.set_cons_zero, List.set_cons_succ]
    refine takeH (i := 11) (d := some 15) (v := .pointer (some ⟨w.heap.size, 1, none⟩)) rfl rfl (by kernel_rfl) (by kernel_rfl) (by kernel_rfl) (fun _ _ _ h => h) (Or.inl ⟨by rfl, fun W hSw => by obtain ⟨d0, d1, d2, d3, d4, d5, d6, d7, d8⟩ := HC.out W hSw; go_simp⟩) hHeld ?_
    simp only [put_some, List.set_cons_zero, List.set_cons_succ]
    refine takeH (i := 12) (d := some 16) (v := .int .i64 o) rfl rfl (by kernel_rfl) (by kernel_rfl) (by kernel_rfl) (fun _ _ _ h => h) (Or.inl ⟨by rfl, fun W hSw => by obtain ⟨d0, d1, d2, d3, d4, d5, d6, d7, d8⟩ := HC.out W hSw; go_simp⟩) hHeld ?_
    simp only [put_some, List.set_cons_zero, List.set_cons_succ]
    refine takeH (i := 13) (d := some 17) (v := .slice (some ⟨lb, lo, none⟩) n cap) rfl rfl (by kernel_rfl) (by kernel_rfl) (by kernel_rfl) (fun _ _ _ h => h) (Or.inl ⟨by rfl, fun W hSw => by obtain ⟨d0, d1, d2, d3, d4, d5, d6, d7, d8⟩ := HC.out W hSw; go_simp⟩) hHeld ?_
    simp only [put_some, List.set_cons_zero, List.set_cons_succ]
    refine takeH (i := 14) (d := some 18) (v := .pointer (some ⟨w.heap.size, 0, none⟩)) rfl rfl (by kernel_rfl) (by kernel_rfl) (by kernel_rfl) (fun _ _ _ h => h) (Or.inl ⟨by rfl, fun W hSw => by obtain ⟨d0, d1, d2, d3, d4, d5, d6, d7, d8⟩ := HC.out W hSw; go_simp⟩) hHeld ?_
    simp only [put_some, List.set_cons_zero, List.set_cons_succ]
    refine takeH (i := 15) (d := some 19) (v := .int .i64 (q : Int)) rfl rfl (by kernel_rfl) (by kernel_rfl) (by kernel_rfl) (fun _ _ _ h => h) (Or.inl ⟨by rfl, fun W hSw => by obtain ⟨d0, d1, d2, d3, d4, d5, d6, d7, d8⟩ := HC.out W hSw; go_simp⟩) hHeld ?_
    simp only [put_some, List.set_cons_zero, List.set_cons_succ]
    refine takeH (i := 16) (d := some 20) (v := .pointer (some ⟨lb, lo + q * 3, none⟩)) rfl rfl (by kernel_rfl) (by kernel_rfl) (by kernel_rfl) (fun _ _ _ h => h) (Or.inl ⟨by rfl, fun W hSw => by obtain ⟨d0, d1, d2, d3, d4, d5, d6, d7, d8⟩ := HC.out W hSw; go_simp⟩) hHeld ?_
    simp only [put_some, List.set_cons_zero, List.set_cons_succ]
    refine takeH (i := 17) (d := some 21) (v := .agg #[.int .i64 yt, .int .i64 yn, .string ys]) rfl rfl (by kernel_rfl) (by kernel_rfl) (by kernel_rfl) (fun _ _ _ h => h) (Or.inl ⟨by rfl, fun W hSw => by obtain ⟨d0, d1, d2, d3, d4, d5, d6, d7, d8⟩ := HC.out W hSw; go_simp⟩) hHeld ?_
    simp only [put_some, List.set_cons_zero, List.set_cons_succ]
    refine takeH (i := 18) (d := some 22) (v := .pointer (some ⟨w.heap.size, 2, none⟩)) rfl rfl (by kernel_rfl) (by kernel_rfl) (by kernel_rfl) (fun _ _ _ h => h) (Or.inl ⟨by rfl, fun W hSw => by obtain ⟨d0, d1, d2, d3, d4, d5, d6, d7, d8⟩ := HC.out W hSw; go_simp⟩) hHeld ?_
    simp only [put_some, List.set_cons_zero, List.set_cons_succ]
    refine takeH (i := 19) (d := some 23) (v := .agg #[.int .i64 vt, .int .i64 vn, .string vs]) rfl rfl (by kernel_rfl) (by kernel_rfl) (by kernel_rfl) (fun _ _ _ h => h) (Or.inl ⟨by rfl, fun W hSw => by obtain ⟨d0, d1, d2, d3, d4, d5, d6, d7, d8⟩ := HC.out W hSw; go_simp⟩) hHeld ?_
    simp only [put_some, List.set_cons_zero, List.set_cons_succ]
    refine wpAnyH_ready (rs := [20]) (by kernel_rfl) (by simp) ?_
    refine AllReadyH.cons rfl (fun K hK => ?_) AllReadyH.nil
    go_simp
    go_at_call 66
    refine (HH.out _).mono ?_
    rintro e w1 ⟨rfl, hb1⟩
    have hB' := below_then (Below.refl w0.heap.size w0).drew hb1 (Nat.le_refl _)
    clear hb1
    go_wp2_with fail
    refine hK.out _ _ (KeepLt.of_below hB') (fun hHeld => ?_)
    clear hK K
    refine takeH (i := 21) (d := some 25) (v := .bool b) rfl rfl (by kernel_rfl) (by kernel_rfl) (by kernel_rfl) (fun _ _ _ h => h) (Or.inl ⟨by rfl, fun W hSw => by obtain ⟨d0, d1, d2, d3, d4, d5, d6, d7, d8⟩ := HC.out W hSw; go_simp⟩) hHeld ?_
    simp only [put_some, List.set_cons_zero, List.set_cons_succ]
    refine wpAnyH_ready (rs := [22]) (by kernel_rfl) (by simp) ?_
    refine AllReadyH.cons rfl (fun K hK => ?_) AllReadyH.nil
    go_simp
    go_at_call 64
    refine (iSure b _).mono ?_
    rintro e w2 ⟨rfl, hb2⟩
    have hB2 : Below w0.heap.size w0 w2 := below_then hB' hb2 hB'.size
    have RX := C1.below hB2
    obtain ⟨r0, f0⟩ := RX 0 _ rfl
    obtain ⟨r1, f1⟩ := RX 1 _ rfl
    have HBE := Lib.hid (((B0.trans (hB2.mono B0.size)).setCell (p := ⟨w.heap.size + 1, 0, none⟩) (by simp) (.bool b)).setCell (p := ⟨w.heap.size + 1, 1, none⟩) (by simp) (.bool (!b)))
    have HKE := Lib.hid ((KeepLt.of_below hB2 : KeepLt (w.heap.size + 1) w0 w2))
    have HRX := Lib.hid ((RX.set 0 (.bool b)).set 1 (.bool (!b)))
    clear hb2 hB2 RX
    go_wp2_with fail
    refine hK.out _ _ HKE.out (fun hHeld => ?_)
    clear hK K
    refine wpAnyH_ready (rs := [23]) (by kernel_rfl) (by simp) ?_
    refine AllReadyH.cons rfl (fun K hK => ?_) AllReadyH.nil
    go_simp
    refine hK.out _ _ ((HKE.out.set (p := ⟨w.heap.size + 1, 0, none⟩) (by simp) _).set (p := ⟨w.heap.size + 1, 1, none⟩) (by simp) _) (fun hHeld => ?_)
    clear hK K
    refine wpAnyH_done (by kernel_rfl) ?_ _
    have z0 := (HRX.out 0 _ rfl).1
    have z1 := (HRX.out 1 _ rfl).1
    go_wp2
    refine bodyPost_ret (v := .agg #[.bool b, .bool (!b)]) (by simp [results, Try.results65, go_sem, *]) rfl ⟨rfl, ?_⟩
    exact HBE.out

end Go.Proofs.Ytafoldpmodipaaa

/- The contract of the closure of impl's MayHold. -/
namespace Go.Proofs.Ytafoldpmodipaaa
open Go.RowKit

set_option maxRecDepth 100000 in
set_option maxHeartbeats 8000000 in
theorem mayOne (l : List Zn) (n cap bx : Nat) (a : Option Addr) (c o vt vn : Int) (vs : ByteArray) (w : World) (hl : l.length = n) (hv : Rd 6 w (.slice a n cap) n (zns l)) (hbx : w.cell? ⟨bx, 0, none⟩ = some (.slice a n cap)) :
    Calls Try.prog 69 #[.agg #[.int .i64 c, .int .i64 o, .int .i64 vt, .int .i64 vn, .string vs], .pointer (some ⟨bx, 0, none⟩)] w fun e w' =>
      e = .returned (chV (Num.inB c 0 ((n : Int) - 1) && mayB o (l.getD c.toNat Zn.zero) ⟨vt, vn, vs⟩, !(Num.inB c 0 ((n : Int) - 1)) || mayB (oppI o) (l.getD c.toNat Zn.zero) ⟨vt, vn, vs⟩)) ∧ Below w.heap.size w w' := by
  obtain ⟨_, _, e1, _, HV⟩ := hv.zones hl
  cases e1
  have hbl : bx < w.heap.size := lt_of_cell hbx
  have B0 := below_alloc2 w (.cells #[.int .i64 c, .int .i64 o, .int .i64 vt, .int .i64 vn, .string vs] 107) (.cells #[.bool false, .bool false] 103)
  have C0 := (blk_new w [.int .i64 c, .int .i64 o, .int .i64 vt, .int .i64 vn, .string vs] 107).below (below_alloc _ (.cells #[.bool false, .bool false] 103))
  have C1 := blk_new (w.alloc (.cells #[.int .i64 c, .int .i64 o, .int .i64 vt, .int .i64 vn, .string vs] 107)) [.bool false, .bool false] 103
  rw [World.size_alloc] at C1
  have hbx0 := (B0.cell (p := ⟨bx, 0, none⟩) (lt_of_cell hbx)).trans hbx
  generalize hw0 : (w.alloc (.cells #[.int .i64 c, .int .i64 o, .int .i64 vt, .int .i64 vn, .string vs] 107)).alloc (.cells #[.bool false, .bool false] 103) = w0 at B0 C0 C1 hbx0
  have HW0 := Lib.hid hw0
  have hbx1 := hbx0
  rw [← hw0] at hbx1
  have c0 := (C0 0 _ rfl).1
  have c1 := (C0 1 _ rfl).1
  have c2 := (C0 2 _ rfl).1
  have c3 := (C0 3 _ rfl).1
  have c4 := (C0 4 _ rfl).1
  clear hw0 C0 hv hbx
  cases hin : Num.inB c 0 ((n : Int) - 1) with
  | true =>
    rw [Bool.true_and, Bool.not_true, Bool.false_or]
    rw [Num.inB_true] at hin
    obtain ⟨q, rfl⟩ : ∃ q : Nat, c = (q : Int) := ⟨c.toNat, by omega⟩
    have hq : q < n := by omega
    rw [Int.toNat_natCast]
    obtain ⟨lb, lo, rfl, p0, p1, p2, p3, p4, p5⟩ := HV.out q hq w0 B0
    have HM := Lib.hid (fun W => iMayHold1 o (l.getD q Zn.zero) ⟨vt, vn, vs⟩ W)
    have HN := Lib.hid (fun W => iMayHold1 (oppI o) (l.getD q Zn.zero) ⟨vt, vn, vs⟩ W)
    have HO := Lib.hid (fun W => iOpposite o W)
    generalize mayB o (l.getD q Zn.zero) ⟨vt, vn, vs⟩ = m1 at HM ⊢
    generalize mayB (oppI o) (l.getD q Zn.zero) ⟨vt, vn, vs⟩ = m2 at HN ⊢
    generalize oppI o = o2 at HN HO
    generalize l.getD q Zn.zero = z at p0 p1 p2 p3 p4 p5 HM HN
    obtain ⟨⟨za, zb, zs⟩, ⟨zc, zd, zt⟩⟩ := z
    simp only at p0 p1 p2 p3 p4 p5 HM HN
    have hq1 : (q : Int) < (n : Int) := by omega
    have hge : ¬ (q : Int) < 0 := by omega
    have hnge : ¬ (n : Int) ≤ (q : Int) := by omega
    have HC : Hid (∀ X, Below w0.heap.size w0 X → X.cell? ⟨w.heap.size, 0, none⟩ = some (.int .i64 (q : Int)) ∧ X.cell? ⟨w.heap.size, 1, none⟩ = some (.int .i64 o) ∧ X.cell? ⟨w.heap.size, 2, none⟩ = some (.int .i64 vt) ∧ X.cell? ⟨w.heap.size, 3, none⟩ = some (.int .i64 vn) ∧ X.cell? ⟨w.heap.size, 4, none⟩ = some (.string vs) ∧ X.cell? ⟨bx, 0, none⟩ = some (.slice (some ⟨lb, lo, none⟩) n cap) ∧
        X.cell? ⟨lb, lo + q * 6, none⟩ = some (.int .i64 za) ∧ X.cell? ⟨lb, lo + q * 6 + 1, none⟩ = some (.int .i64 zb) ∧ X.cell? ⟨lb, lo + q * 6 + 2, none⟩ = some (.string zs) ∧ X.cell? ⟨lb, lo + q * 6 + 3, none⟩ = some (.int .i64 zc) ∧ X.cell? ⟨lb, lo + q * 6 + 4, none⟩ = some (.int .i64 zd) ∧ X.cell? ⟨lb, lo + q * 6 + 5, none⟩ = some (.string zt)) := fun X h =>
      ⟨(h.cell (p := ⟨w.heap.size, 0, none⟩) (lt_of_cell c0)).trans c0, (h.cell (p := ⟨w.heap.size, 1, none⟩) (lt_of_cell c1)).trans c1, (h.cell (p := ⟨w.heap.size, 2, none⟩) (lt_of_cell c2)).trans c2, (h.cell (p := ⟨w.heap.size, 3, none⟩) (lt_of_cell c3)).trans c3, (h.cell (p := ⟨w.heap.size, 4, none⟩) (lt_of_cell c4)).trans c4, (h.cell (p := ⟨bx, 0, none⟩) (lt_of_cell hbx0)).trans hbx0,
        (h.cell (p := ⟨lb, lo + q * 6, none⟩) (lt_of_cell p0)).trans p0, (h.cell (p := ⟨lb, lo + q * 6 + 1, none⟩) (lt_of_cell p1)).trans p1, (h.cell (p := ⟨lb, lo + q * 6 + 2, none⟩) (lt_of_cell p2)).trans p2, (h.cell (p := ⟨lb, lo + q * 6 + 3, none⟩) (lt_of_cell p3)).trans p3, (h.cell (p := ⟨lb, lo + q * 6 + 4, none⟩) (lt_of_cell p4)).trans p4, (h.cell (p := ⟨lb, lo + q * 6 + 5, none⟩) (lt_of_cell p5)).trans p5⟩
    have HOUT : Hid (∀ X, Below w0.heap.size w0 X → X.cell? ⟨w.heap.size + 1, 0, none⟩ = some (.bool false) ∧ X.frozen? ⟨w.heap.size + 1, 0, none⟩ = false ∧ X.cell? ⟨w.heap.size + 1, 1, none⟩ = some (.bool false) ∧ X.frozen? ⟨w.heap.size + 1, 1, none⟩ = false) := fun X h => ⟨((C1.below h) 0 _ rfl).1, ((C1.below h) 0 _ rfl).2, ((C1.below h) 1 _ rfl).1, ((C1.below h) 1 _ rfl).2⟩
    have HLB : Hid (lb ≠ w.heap.size + 1) := fun e => by
      subst e
      have h1 := C1 0 _ rfl
      have h2 := C1 1 _ rfl
      match lo + q * 6, p0, p2 with
      | 0, p0, _ => rw [h1.1] at p0; cases p0
      | 1, p0, _ => rw [h2.1] at p0; cases p0
      | r + 2, p0, _ =>
        rw [← HW0.out] at p0
        have : ((w.alloc (.cells #[.int .i64 (q : Int), .int .i64 o, .int .i64 vt, .int .i64 vn, .string vs] 107)).alloc (.cells #[.bool false, .bool false] 103)).cell? ⟨w.heap.size + 1, r + 2, none⟩ = none := by
          rw [World.cell?_alloc_at _ _ _ _ (by simp)]
          rfl
        rw [this] at p0
        cases p0
    have HCS : Hid (∀ X (x y : Value), Below w0.heap.size w0 X → ((X.setCell ⟨w.heap.size + 1, 0, none⟩ x).setCell ⟨w.heap.size + 1, 1, none⟩ y).cell? ⟨w.heap.size, 0, none⟩ = some (.int .i64 (q : Int)) ∧ ((X.setCell ⟨w.heap.size + 1, 0, none⟩ x).setCell ⟨w.heap.size + 1, 1, none⟩ y).cell? ⟨w.heap.size, 1, none⟩ = some (.int .i64 o) ∧ ((X.setCell ⟨w.heap.size + 1, 0, none⟩ x).setCell ⟨w.heap.size + 1, 1, none⟩ y).cell? ⟨w.heap.size, 2, none⟩ = some (.int .i64 vt) ∧ ((X.setCell ⟨w.heap.size + 1, 0, none⟩ x).setCell ⟨w.heap.size + 1, 1, none⟩ y).cell? ⟨w.heap.size, 3, none⟩ = some (.int .i64 vn) ∧ ((X.setCell ⟨w.heap.size + 1, 0, none⟩ x).setCell ⟨w.heap.size + 1, 1, none⟩ y).cell? ⟨w.heap.size, 4, none⟩ = some (.string vs) ∧ ((X.setCell ⟨w.heap.size + 1, 0, none⟩ x).setCell ⟨w.heap.size + 1, 1, none⟩ y).cell? ⟨bx, 0, none⟩ = some (.slice (some ⟨lb, lo, none⟩) n cap) ∧
        ((X.setCell ⟨w.heap.size + 1, 0, none⟩ x).setCell ⟨w.heap.size + 1, 1, none⟩ y).cell? ⟨lb, lo + q * 6, none⟩ = some (.int .i64 za) ∧ ((X.setCell ⟨w.heap.size + 1, 0, none⟩ x).setCell ⟨w.heap.size + 1, 1, none⟩ y).cell? ⟨lb, lo + q * 6 + 1, none⟩ = some (.int .i64 zb) ∧ ((X.setCell ⟨w.heap.size + 1, 0, none⟩ x).setCell ⟨w.heap.size + 1, 1, none⟩ y).cell? ⟨lb, lo + q * 6 + 2, none⟩ = some (.string zs) ∧ ((X.setCell ⟨w.heap.size + 1, 0, none⟩ x).setCell ⟨w.heap.size + 1, 1, none⟩ y).cell? ⟨lb, lo + q * 6 + 3, none⟩ = some (.int .i64 zc) ∧ ((X.setCell ⟨w.heap.size + 1, 0, none⟩ x).setCell ⟨w.heap.size + 1, 1, none⟩ y).cell? ⟨lb, lo + q * 6 + 4, none⟩ = some (.int .i64 zd) ∧ ((X.setCell ⟨w.heap.size + 1, 0, none⟩ x).setCell ⟨w.heap.size + 1, 1, none⟩ y).cell? ⟨lb, lo + q * 6 + 5, none⟩ = some (.string zt)) := fun X x y h => by
      obtain ⟨d0, d1, d2, d3, d4, d5, d6, d7, d8, d9, d10, d11⟩ := HC.out X h
      have key : ∀ (p : Addr) (v : Value), p.block ≠ w.heap.size + 1 → X.cell? p = some v → ((X.setCell ⟨w.heap.size + 1, 0, none⟩ x).setCell ⟨w.heap.size + 1, 1, none⟩ y).cell? p = some v := fun p v hp hv => (World.cell?_setCell_other _ _ _ _ (fun e => hp (by rw [← e]))).trans ((World.cell?_setCell_other _ _ _ _ (fun e => hp (by rw [← e]))).trans hv)
      have hlb := HLB.out
      exact ⟨key _ _ (by simp) d0, key _ _ (by simp) d1, key _ _ (by simp) d2, key _ _ (by simp) d3, key _ _ (by simp) d4, key _ _ (by simp; omega) d5, key _ _ hlb d6, key _ _ hlb d7, key _ _ hlb d8, key _ _ hlb d9, key _ _ hlb d10, key _ _ hlb d11⟩
    have hB' := (Below.refl w0.heap.size w0).drew
    clear hin HV c2 c3 c4 p0 p1 p2 p3 p4 p5 c1
    go_enter Try.func69, Try.ntmps69
    go_wp2_with fail
    rw [HW0.out]
    clear c0 hbx0 hbx1
    go_region_held3 (fun X => X.cell? ⟨w.heap.size, 0, none⟩ = some (.int .i64 (q : Int)) ∧ X.cell? ⟨w.heap.size, 1, none⟩ = some (.int .i64 o) ∧ X.cell? ⟨w.heap.size, 2, none⟩ = some (.int .i64 vt) ∧ X.cell? ⟨w.heap.size, 3, none⟩ = some (.int .i64 vn) ∧ X.cell? ⟨w.heap.size, 4, none⟩ = some (.string vs) ∧ X.cell? ⟨bx, 0, none⟩ = some (.slice (some ⟨lb, lo, none⟩) n cap) ∧
        X.cell? ⟨lb, lo + q * 6, none⟩ = some (.int .i64 za) ∧ X.cell? ⟨lb, lo + q * 6 + 1, none⟩ = some (.int .i64 zb) ∧ X.cell? ⟨lb, lo + q * 6 + 2, none⟩ = some (.string zs) ∧ X.cell? ⟨lb, lo + q * 6 + 3, none⟩ = some (.int .i64 zc) ∧ X.cell? ⟨lb, lo + q * 6 + 4, none⟩ = some (.int .i64 zd) ∧ X.cell? ⟨lb, lo + q * 6 + 5, none⟩ = some (.string zt)) (first | exact HC.out _ hB' | exact HCS.out _ _ _ hB') (first | (go_at_call 70; (with_reducible refine (HM.out _).mono ?_); rintro e wA ⟨rfl, hb⟩; replace hB' := below_then hB' hb hB'.size; obtain ⟨r0, f0, r1, f1⟩ := HOUT.out _ hB') | (go_at_call 70; (with_reducible refine (HN.out _).mono ?_); rintro e wA ⟨rfl, hb⟩; replace hB' := below_then hB' hb hB'.size; obtain ⟨r0, f0, r1, f1⟩ := HOUT.out _ hB') | (go_at_call 71; (with_reducible refine (HO.out _).mono ?_); rintro e wA ⟨rfl, hb⟩; replace hB' := below_then hB' hb hB'.size; obtain ⟨r0, f0, r1, f1⟩ := HOUT.out _ hB'))
    all_goals
      have HBE := Lib.hid (((B0.trans (hB'.mono B0.size)).setCell (p := ⟨w.heap.size + 1, 0, none⟩) (by simp) (.bool m1)).setCell (p := ⟨w.heap.size + 1, 1, none⟩) (by simp) (.bool m2))
      have HRX := Lib.hid (((C1.below hB').set 0 (.bool m1)).set 1 (.bool m2))
      clear hB'
      go_wp2
      have z0 := (HRX.out 0 _ rfl).1
      have z1 := (HRX.out 1 _ rfl).1
      exact bodyPost_ret (v := .agg #[.bool m1, .bool m2]) (by simp [results, Try.results69, go_sem, *]) rfl ⟨rfl, HBE.out⟩
  | false =>
    have hcc : c < 0 ∨ (n : Int) ≤ c := by
      rw [← Bool.not_eq_true, Num.inB_true] at hin
      omega
    have HSU := Lib.hid (fun W => iSure false W)
    show Calls _ _ _ _ fun e w' => e = .returned (.agg #[.bool false, .bool true]) ∧ _
    clear hin HV c1 c2 c3 c4
    by_cases hc0 : c < 0
    · go_enter Try.func69, Try.ntmps69
      go_wp2_with fail
      rw [HW0.out]
      refine (HSU.out _).mono ?_
      rintro e w2 ⟨rfl, hb2⟩
      have HBE := Lib.hid (((B0.trans (hb2.mono B0.size)).setCell (p := ⟨w.heap.size + 1, 0, none⟩) (by simp) (.bool false)).setCell (p := ⟨w.heap.size + 1, 1, none⟩) (by simp) (.bool true))
      obtain ⟨r0, f0⟩ := C1.below hb2 0 _ rfl
      obtain ⟨r1, f1⟩ := C1.below hb2 1 _ rfl
      clear hb2
      go_wp2
      exact bodyPost_ret (v := .agg #[.bool false, .bool true]) (by simp [results, Try.results69, go_sem, *]) rfl ⟨rfl, HBE.out⟩
    · have hc1 : (n : Int) ≤ c := by omega
      go_enter Try.func69, Try.ntmps69
      go_wp2_with fail
      rw [HW0.out]
      refine (HSU.out _).mono ?_
      rintro e w2 ⟨rfl, hb2⟩
      have HBE := Lib.hid (((B0.trans (hb2.mono B0.size)).setCell (p := ⟨w.heap.size + 1, 0, none⟩) (by simp) (.bool false)).setCell (p := ⟨w.heap.size + 1, 1, none⟩) (by simp) (.bool true))
      obtain ⟨r0, f0⟩ := C1.below hb2 0 _ rfl
      obtain ⟨r1, f1⟩ := C1.below hb2 1 _ rfl
      clear hb2
      go_wp2
      exact bodyPost_ret (v := .agg #[.bool false, .bool true]) (by simp [results, Try.results69, go_sem, *]) rfl ⟨rfl, HBE.out⟩

end Go.Proofs.Ytafoldpmodipaaa
