/- Texts of this claim, one behind the other: M11v. -/
import Derived.Test.YtafoldpmodipaaaDoorP13
import Derived.Test.YtafoldpmodipaaaDoorP11

/- Plain mathematics of the visits of a predicate: what is passed on, in which order; where each predicate lies. -/
namespace Go.Proofs.YtafoldpmodipaaaDoor
open Go.RowKit

/-- The operands that are visited. -/
def T.ops (t : T) : List T := if t.kind = 3 ∨ t.kind = 4 ∨ t.kind = 5 then t.l else []
theorem T.ops_mem {t x : T} (h : x ∈ t.ops) : x ∈ t.l := by
  unfold T.ops at h
  split at h
  · exact h
  · cases h
theorem T.ops_len (t : T) : t.ops.length ≤ t.l.length := by
  unfold T.ops
  split <;> simp
/-- The slice of operands of the i-th of the Preds in u. -/
def kidU (w : World) (u : Value) (i : Nat) : Value :=
  match u with
  | .slice (some a) _ _ => (w.cell? ⟨a.block, a.off + i * 7 + 6, none⟩).getD .nilFunc
  | _ => .nilFunc
/-- A visit: the predicate, its slice of operands, how many of these are done. -/
abbrev Vis := T × Value × Nat
mutual
def T.tr (w : World) : T → Value → List Vis
  | .mk k c o v l, u => (.mk k c o v l, u, 0) :: (if k = 3 ∨ k = 4 ∨ k = 5 then T.trs w l (.mk k c o v l) u 0 else [])
def T.trs (w : World) : List T → T → Value → Nat → List Vis
  | [], _, _, _ => []
  | x :: r, t, u, i => T.tr w x (kidU w u i) ++ (t, u, i + 1) :: T.trs w r t u (i + 1)
end
/-- What comes once d operands of t are done. -/
def T.from (w : World) (t : T) (u : Value) (d : Nat) : List Vis := (t, u, d) :: T.trs w (t.ops.drop d) t u d
theorem T.tr_from (w : World) (t : T) (u : Value) : t.tr w u = t.from w u 0 := by
  obtain ⟨k, c, o, v, l⟩ := t
  by_cases h : k = 3 ∨ k = 4 ∨ k = 5
  · have ho : (T.mk k c o v l).ops = l := if_pos h
    rw [T.tr, T.from, if_pos h, ho, List.drop_zero]
  · have ho : (T.mk k c o v l).ops = [] := if_neg h
    rw [T.tr, T.from, if_neg h, ho, List.drop_nil, T.trs]
theorem T.from_end {w : World} {t : T} {u : Value} {d : Nat} (h : d = t.ops.length) : t.from w u d = [(t, u, d)] := by
  rw [T.from, h, List.drop_length, T.trs]
theorem T.from_step {w : World} {t : T} {u : Value} {d : Nat} (h : d < t.ops.length) : t.from w u d = (t, u, d) :: ((t.ops.getD d T.zero).from w (kidU w u d) 0 ++ t.from w u (d + 1)) := by
  have e : t.ops.getD d T.zero = t.ops[d] := by simp [h]
  rw [T.from, List.drop_eq_getElem_cons h, T.trs, ← e, T.tr_from]
  rfl

/-- A predicate that is being visited: where it lies, and as a visit. -/
structure Fr where
  b : Nat
  o : Nat
  t : T
  u : Value
  d : Nat
/-- What comes, of a path. -/
def rem (w : World) : List Fr → List Vis
  | [] => []
  | f :: r => rem w r ++ f.t.from w f.u f.d
theorem rem_snoc (w : World) : ∀ (fs : List Fr) (f : Fr), rem w (fs ++ [f]) = f.t.from w f.u f.d ++ rem w fs
  | [], f => by simp [rem]
  | g :: fs, f => by
    rw [List.cons_append, rem, rem_snoc w fs f, rem, List.append_assoc]

theorem T.ext' {t t' : T} (h1 : t.kind = t'.kind) (h2 : t.col = t'.col) (h3 : t.op = t'.op) (h4 : t.v = t'.v) (h5 : t.l = t'.l) : t = t' := by
  obtain ⟨k, c, o, v, l⟩ := t
  obtain ⟨k', c', o', v', l'⟩ := t'
  simp only [T.kind, T.col, T.op, T.v, T.l] at h1 h2 h3 h4 h5
  subst h1 h2 h3 h4 h5
  rfl
/-- A Pred lies at ⟨b, o⟩. -/
def LiesAt (w : World) (b o : Nat) (t : T) (u : Value) : Prop := ∀ i x, (t.cs u)[i]? = some x → w.cell? ⟨b, o + i, none⟩ = some x
theorem LiesAt.below {w w' : World} {b o : Nat} {t : T} {u : Value} (h : LiesAt w b o t u) (hb : Below w.heap.size w w') : LiesAt w' b o t u := fun i x hx =>
  (hb.cell (p := ⟨b, o + i, none⟩) (lt_of_cell (h i x hx))).trans (h i x hx)
theorem LiesAt.agree {w w' : World} {b o : Nat} {t : T} {u : Value} (h : LiesAt w b o t u) (hs : w'.heap[b]? = w.heap[b]?) : LiesAt w' b o t u := fun i x hx => (World.cell?_of_block (w := w) hs).trans (h i x hx)
theorem LiesAt.lt {w : World} {b o : Nat} {t : T} {u : Value} (h : LiesAt w b o t u) : b < w.heap.size := lt_of_cell (h 0 _ rfl)
/-- Of one place one tree is read. -/
theorem reads_one {w : World} : ∀ (t : T) (b o : Nat) (u : Value) (t' : T) (u' : Value) (Q Q' : Nat → Prop), LiesAt w b o t u → LiesAt w b o t' u' → RdT Q w t u → RdT Q' w t' u' → t = t' := by
  refine T.induct (fun t ih => ?_)
  intro b o u t' u' Q Q' h h' hr hr'
  have e : ∀ (i : Nat) (x y : Value), (t.cs u)[i]? = some x → (t'.cs u')[i]? = some y → x = y := fun i x y hx hy => by
    have := (h i x hx).symm.trans (h' i y hy)
    simpa using this
  have e0 := e 0 _ _ rfl rfl
  have e1 := e 1 _ _ rfl rfl
  have e2 := e 2 _ _ rfl rfl
  have e3 := e 3 _ _ rfl rfl
  have e4 := e 4 _ _ rfl rfl
  have e5 := e 5 _ _ rfl rfl
  have e6 := e 6 _ _ rfl rfl
  simp only [Value.int.injEq, true_and, Value.string.injEq] at e0 e1 e2 e3 e4 e5
  refine T.ext' e0 e1 e2 (by rcases hv : t.v with ⟨a, b, c⟩; rcases hv' : t'.v with ⟨a', b', c'⟩; rw [hv] at e3 e4 e5; rw [hv'] at e3 e4 e5; simp only at e3 e4 e5; rw [e3, e4, e5]) ?_
  rw [RdT_def] at hr hr'
  obtain ⟨a, cap, rfl, _, hr⟩ := hr
  obtain ⟨a', cap', rfl, _, hr'⟩ := hr'
  simp only [Value.slice.injEq] at e6
  obtain ⟨rfl, hn, rfl⟩ := e6
  rcases hr with hz | ⟨b1, o1, rfl, _, hk⟩
  · have z1 : t.l = [] := List.eq_nil_of_length_eq_zero hz
    have z2 : t'.l = [] := List.eq_nil_of_length_eq_zero (by omega)
    rw [z1, z2]
  rcases hr' with hz | ⟨b2, o2, he, _, hk'⟩
  · have z1 : t.l = [] := List.eq_nil_of_length_eq_zero (by omega)
    have z2 : t'.l = [] := List.eq_nil_of_length_eq_zero hz
    rw [z1, z2]
  simp only [Option.some.injEq, Addr.mk.injEq, and_true] at he
  obtain ⟨rfl, rfl⟩ := he
  rw [RdTs_iff] at hk hk'
  refine List.ext_getElem hn (fun k hk1 hk2 => ?_)
  obtain ⟨v, c1, r1⟩ := hk k hk1
  obtain ⟨v', c2, r2⟩ := hk' k hk2
  have g1 : t.l.getD k T.zero = t.l[k] := by simp [hk1]
  have g2 : t'.l.getD k T.zero = t'.l[k] := by simp [hk2]
  rw [g1] at c1 r1
  rw [g2] at c2 r2
  exact ih _ (List.getElem_mem hk1) _ _ _ _ _ _ _ (fun i x hx => c1 i x hx) (fun i x hx => c2 i x hx) r1 r2

/-- The predicates of a path: each lies where it is said to lie, in a block without frozen cells, and is smaller than those around it. -/
structure Path (Q R : Nat → Prop) (w : World) (fs : List Fr) : Prop where
  lies : ∀ f ∈ fs, LiesAt w f.b f.o f.t f.u ∧ RdT Q w f.t f.u ∧ (Plain w f.b ∧ R f.b) ∧ f.d ≤ f.t.ops.length
  falls : fs.Pairwise (fun g f => f.t.bulk < g.t.bulk)
theorem Path.head {Q R : Nat → Prop} {w : World} {fs : List Fr} {f : Fr} (h : Path Q R w (fs ++ [f])) : Path Q R w fs :=
  ⟨fun g hg => h.lies g (List.mem_append_left _ hg), (List.pairwise_append.1 h.falls).1⟩
/-- The next operand of the last one: where it lies. -/
theorem Path.kid {Q R : Nat → Prop} {w : World} {fs : List Fr} {f : Fr} (hQ : ∀ b, Q b → Plain w b ∧ R b) (h : Path Q R w (fs ++ [f])) (hd : f.d < f.t.ops.length) :
    ∃ b o n cap, f.u = .slice (some ⟨b, o, none⟩) n cap ∧ f.d < n ∧ LiesAt w b (o + f.d * 7) (f.t.ops.getD f.d T.zero) (kidU w f.u f.d) ∧ RdT Q w (f.t.ops.getD f.d T.zero) (kidU w f.u f.d) ∧ (Plain w b ∧ R b) ∧
      (∀ g ∈ fs ++ [f], (f.t.ops.getD f.d T.zero).bulk < g.t.bulk) ∧ (∀ g ∈ fs ++ [f], (⟨g.b, g.o, none⟩ : Addr) ≠ ⟨b, o + f.d * 7, none⟩) := by
  obtain ⟨_, hr, _, _⟩ := h.lies f (List.mem_append_right _ List.mem_cons_self)
  have hle := f.t.ops_len
  have hops : f.t.ops.getD f.d T.zero = f.t.l.getD f.d T.zero := by
    have : f.t.ops = f.t.l := by
      unfold T.ops at hd ⊢
      split
      · rfl
      · rename_i hn
        rw [if_neg hn] at hd
        simp at hd
    rw [this]
  have hdl : f.d < f.t.l.length := by omega
  have hr2 := hr
  rw [RdT_def] at hr
  obtain ⟨a, cap, hu, hn, hr⟩ := hr
  rcases hr with hz | ⟨b, o, rfl, hq, hk⟩
  · omega
  rw [RdTs_iff] at hk
  obtain ⟨v, hc, hv⟩ := hk f.d hdl
  have hkid : kidU w f.u f.d = v := by
    rw [hu]
    unfold kidU
    simp only
    rw [hc 6 v rfl]
    rfl
  have hbulk : ∀ g ∈ fs ++ [f], (f.t.ops.getD f.d T.zero).bulk < g.t.bulk := fun g hg => by
    have h1 : (f.t.ops.getD f.d T.zero).bulk < f.t.bulk := by
      rw [hops]
      exact T.bulk_child (kid_mem hdl)
    rcases List.mem_append.1 hg with hg | hg
    · have := (List.pairwise_append.1 h.falls).2.2 g hg f List.mem_cons_self
      omega
    · rw [List.mem_singleton.1 hg]
      exact h1
  rw [hkid]
  refine ⟨b, o, f.t.l.length, cap, hu, hdl, ?_, ?_, hQ b hq, hbulk, fun g hg e => ?_⟩
  · rw [hops]
    exact hc
  · rw [hops]
    exact hv
  · simp only [Addr.mk.injEq, and_true] at e
    obtain ⟨l1, l2, _, _⟩ := h.lies g hg
    rw [e.1, e.2] at l1
    have := reads_one _ _ _ _ _ _ _ _ l1 (show LiesAt w b (o + f.d * 7) (f.t.l.getD f.d T.zero) v from hc) l2 hv
    have h2 := hbulk g hg
    rw [hops, ← this] at h2
    omega

end Go.Proofs.YtafoldpmodipaaaDoor
