/- Texts of this claim, one behind the other: ZLoop. -/
import Derived.Test.YtafoldpmodipaaaDoorP2
import Derived.RangeFuncNested
import Derived.RangeFuncBound
import Derived.RangeFuncCalls
import Derived.RangeFuncLeaves

/- A range over a function whose iterator has memory of its own, which it writes between two rounds: the iterator's contract (SeqZ) and the law of the loop. Each party says which blocks are its own, and leaves the other's alone. -/
namespace Go.Proofs.YtafoldpmodipaaaDoor
open Go.RowKit

/-- The iterator's step: its own blocks, Z, may turn; it may lay new ones, of which some become its own. -/
structure Moves (B : Nat) (Z : Nat → Prop) (W : World) (Z' : Nat → Prop) (W' : World) : Prop where
  os : W'.os = W.os
  tape : W'.tape = W.tape
  output : W'.output = W.output
  size : W.heap.size ≤ W'.heap.size
  same : ∀ b, b < W.heap.size → ¬ Z b → W'.heap[b]? = W.heap[b]?
  grow : ∀ b, Z' b → Z b ∨ W.heap.size ≤ b
  own : ∀ b, Z b → B ≤ b ∧ b < W.heap.size
  own' : ∀ b, Z' b → B ≤ b ∧ b < W'.heap.size

/-- The blocks R lie as they lay. -/
structure Agree (R : Nat → Prop) (W W' : World) : Prop where
  size : W.heap.size ≤ W'.heap.size
  same : ∀ b, R b → W'.heap[b]? = W.heap[b]?
theorem Agree.refl (R : Nat → Prop) (W : World) : Agree R W W := ⟨Nat.le_refl _, fun _ _ => rfl⟩
theorem Agree.trans {R : Nat → Prop} {U V W : World} (h : Agree R U V) (k : Agree R V W) : Agree R U W := ⟨Nat.le_trans h.size k.size, fun b hb => (k.same b hb).trans (h.same b hb)⟩
theorem Agree.of_below {R : Nat → Prop} {W W' : World} (h : Below W.heap.size W W') (hR : ∀ b, R b → b < W.heap.size) : Agree R W W' := ⟨h.size, fun b hb => h.block b (hR b hb)⟩
/-- The round's step: the iterator's blocks lie as they lay, and what it reads. -/
structure Leaves (R Z : Nat → Prop) (W W' : World) : Prop where
  read : Agree R W W'
  same : ∀ b, Z b → W'.heap[b]? = W.heap[b]?
theorem Leaves.refl (R Z : Nat → Prop) (W : World) : Leaves R Z W W := ⟨Agree.refl _ _, fun _ _ => rfl⟩
theorem Leaves.trans {R Z : Nat → Prop} {U V W : World} (h : Leaves R Z U V) (k : Leaves R Z V W) : Leaves R Z U W := ⟨h.read.trans k.read, fun b hb => (k.same b hb).trans (h.same b hb)⟩

theorem Moves.put {B : Nat} {Z : Nat → Prop} {W : World} {l : Nat} (o : Obj) (hz : Z l) (own : ∀ b, Z b → B ≤ b ∧ b < W.heap.size) : Moves B Z W Z (W.putObj l o) :=
  ⟨rfl, rfl, rfl, by simp, fun b _ hn => World.putObj_heap_other (fun e => hn (e ▸ hz)), fun b h => .inl h, own, fun b h => by simpa using own b h⟩

/-- The contract of an iterator that calls its rounds N times, the k-th time with encs k. -/
def SeqZ (F : Fence) (n : Nat) (P : Program) (g : Nat) (lb : Array Value) (encs : Nat → Array Value) (N : Nat) (R : Nat → Prop) (w0 : World) : Prop :=
  ∀ (l : Nat) (J : Nat → (Nat → Prop) → World → Prop) (W : World), Agree R w0 W → (∀ k Z Z' A A', J k Z A → Moves W.heap.size Z A Z' A' → J k Z' A') →
    (∀ k Z A, J k Z A → (∀ b, Z b → W.heap.size ≤ b ∧ b < A.heap.size) → k < N → YieldAt F (n - 1) P l (encs k) A fun e A' => e = .returned (.bool true) ∧ J (k + 1) Z A' ∧ Leaves R Z A A') →
    J 0 (fun _ => False) W →
    CallsIn F n P g (#[.func (.yield l) #[] #[]] ++ lb) W fun e W' => (∃ v, e = .returned v) ∧ ∃ Z, (∀ b, Z b → W.heap.size ≤ b ∧ b < W'.heap.size) ∧ J N Z W'

/-- How the body of a round is left: at its end alone. -/
def zPost (R : Nat → Prop) (I : Nat → (Nat → Prop) → World → Prop) (k : Nat) (Z : Nat → Prop) (W : World) : Exit → Act → World → Prop
  | .normal, _, W' => Leaves R Z W W' ∧ I (k + 1) Z W'
  | .ret, _, _ => False
  | .exit _, _, _ => False
  | .goto _, _, _ => False
  | .panic _, _, _ => False
  | .outgrown, _, _ => False

variable {F : Fence} {n : Nat} {P : Program}

theorem wpIn_rangeFunc_Z {g : Operand} {ps : Array Tmp} {assign body : Code} {Q : Exit → Act → World → Prop} {a : Act} {w : World}
    (hro : F.round = none) (h1 : 1 ≤ n) {gf : Nat} {lb : Array Value} (hg : a.eval g = .func (.func gf) #[] lb) (hFg : F.fn gf) (eg : ∀ args w, (callFunc gf args).run P w = .ok (.enter gf args) w)
    {encs : Nat → Array Value} {N : Nat} {R : Nat → Prop} {w0 : World} (hseq : SeqZ F (n - 1) P gf lb encs N R w0) (hb0 : Agree R w0 w) (hRl : ∀ b, R b → b < w.heap.size) (hps : ∀ k, (encs k).size = ps.size)
    (I : Nat → (Nat → Prop) → World → Prop) (hI : ∀ k Z Z' A A', I k Z A → Moves w.heap.size Z A Z' A' → I k Z' A') (h0 : I 0 (fun _ => False) w) (a₁ : Nat → Act)
    (hassign : ∀ (l k : Nat) (W : World) (K : Act → World → Prop), K (a₁ k) W →
      assign.wpIn (F.inRound l) (n - 1 - 1) P (Exit.then K (fun _ _ _ => False)) { tmps := (ps.zip (encs k)).foldl (fun t (p, v) => t.setIfInBounds p v) a.tmps, defers := [] } W)
    (hbody : ∀ (l k : Nat) (Z : Nat → Prop) (W : World), I k Z W → (∀ b, Z b → w.heap.size ≤ b ∧ b < W.heap.size) → k < N → body.wpIn (F.inRound l) (n - 1 - 1) P (zPost R I k Z W) (a₁ k) W)
    (hdone : ∀ (D : Nat) (Z : Nat → Prop) (W : World), I N Z W → (∀ b, Z b → w.heap.size ≤ b ∧ b < W.heap.size) → Z D → W.heap[D]? = some (.deferred (some [])) → Q .normal { a with defers := { target := .collected D, args := #[] } :: a.defers } W) :
    (Code.rangeFunc g ps assign body).wpIn F n P Q a w := by
  refine wpIn_rangeFunc (fun fn hfn => ?_)
  rw [hro]
  obtain ⟨Rc, hR⟩ : ∃ Rc : LoopState → Loop, Rc = fun st => { state := st, pending := none, fn, tmps := a.tmps, params := ps, assign, body, defers := w.heap.size } := ⟨_, rfl⟩
  obtain ⟨W1, hW1⟩ : ∃ W1, (w.alloc (.deferred (some []))).alloc (.loop (Rc .ready)) = W1 := ⟨_, rfl⟩
  have hs1 : W1.heap.size = w.heap.size + 2 := by rw [← hW1]; simp
  have hL1 : W1.heap[w.heap.size + 1]? = some (.loop (Rc .ready)) := by
    rw [← hW1]
    have := World.alloc_heap_new (w.alloc (.deferred (some []))) (.loop (Rc .ready))
    rwa [World.size_alloc] at this
  have hK1 : W1.heap[w.heap.size]? = some (.deferred (some [])) := by
    rw [← hW1]
    exact (Below.heap_alloc _ _ _ (by simp)).trans (World.alloc_heap_new w _)
  have hBw : Below w.heap.size w W1 := by
    rw [← hW1]
    exact ((Below.refl _ w).alloc (Nat.le_refl _) _).alloc (by simp) _
  have hb1 : Agree R w0 W1 := hb0.trans (.of_below hBw hRl)
  obtain ⟨Zb, hZb⟩ : ∃ Zb : Nat → Prop, Zb = fun b => b = w.heap.size ∨ b = w.heap.size + 1 := ⟨_, rfl⟩
  have zl : Zb (w.heap.size + 1) := by rw [hZb]; exact .inr rfl
  have zk : Zb w.heap.size := by rw [hZb]; exact .inl rfl
  have zb : ∀ b, Zb b → w.heap.size ≤ b ∧ b < w.heap.size + 2 := fun b h => by rw [hZb] at h; rcases h with rfl | rfl <;> omega
  have hI1 : I 0 (fun b => False ∨ Zb b) W1 := hI _ _ _ _ _ h0 ⟨hBw.os, hBw.tape, hBw.output, hBw.size, fun b hb _ => hBw.block b hb, fun b h => .inr (h.elim False.elim (fun h => (zb b h).1)), fun b h => h.elim, fun b h => h.elim False.elim (fun h => by have := zb b h; omega)⟩
  refine ⟨w.heap.size + 1, [{ target := .collected w.heap.size, args := #[] }], W1, { target := .fn (.func gf) lb, args := #[.func (.yield (w.heap.size + 1)) #[] #[]] }, W1, gf,
    #[.func (.yield (w.heap.size + 1)) #[] #[]] ++ lb, W1, by rw [← hW1, hR]; exact run_enterLoop_outer _ _ _ _ _, by simp only [resolve, hg]; simp [go_sem], fun f' hf' => by simp [Target.leads] at hf'; subst hf'; exact hFg, by simp [invoke, go_sem, eg], fun _ => h1, ?_⟩
  refine (hseq (w.heap.size + 1) (fun k Z A => I k (fun b => Z b ∨ Zb b) A ∧ A.heap[w.heap.size + 1]? = some (.loop (Rc .ready)) ∧ A.heap[w.heap.size]? = some (.deferred (some []))) W1 hb1 ?_ ?_ ⟨hI1, hL1, hK1⟩).mono ?_
  · -- the iterator's steps
    rintro k Z Z' A A' ⟨hi, hl, hk⟩ hm
    have hlt : w.heap.size + 1 < A.heap.size := (Array.getElem?_eq_some_iff.1 hl).1
    have nz : ∀ b, Zb b → ¬ Z b := fun b h h' => by
      have := (hm.own b h').1
      have := zb b h
      omega
    have hsz := hm.size
    refine ⟨hI _ _ _ _ _ hi ⟨hm.os, hm.tape, hm.output, hm.size, fun b hb hn => hm.same b hb (fun h => hn (.inl h)), fun b h => h.elim (fun h => (hm.grow b h).imp .inl id) (fun h => .inl (.inr h)), fun b h => ?_, fun b h => ?_⟩, (hm.same _ hlt (nz _ zl)).trans hl, (hm.same _ (by omega) (nz _ zk)).trans hk⟩
    · rcases h with h | h
      · have := hm.own b h
        omega
      · have := zb b h
        omega
    · rcases h with h | h
      · have := hm.own' b h
        omega
      · have := zb b h
        omega
  · -- one round
    rintro k Z A ⟨hi, hl, hk⟩ hin hlen
    have hlt : w.heap.size + 1 < A.heap.size := (Array.getElem?_eq_some_iff.1 hl).1
    have hoz : ∀ b, (Z b ∨ Zb b) → w.heap.size ≤ b ∧ b < A.heap.size := fun b h => by
      rcases h with h | h
      · have := hin b h
        omega
      · have := zb b h
        omega
    have hy := run_yield (P := P) (args := encs k) hl (by rw [hR]; exact hps k)
    rw [hR] at hy
    refine ⟨fn, _, assign, body, hy, roundIn_of_wpIn hfn (hassign _ k A _ ⟨_, run_beginRound hl (by rw [hR]), ?_⟩)⟩
    clear hy
    have hl2 : (A.putObj (w.heap.size + 1) (.loop { Rc .ready with state := .busy })).heap[w.heap.size + 1]? = some (.loop { Rc .ready with state := .busy }) := World.putObj_heap_same hlt
    have hoz2 : ∀ b, (Z b ∨ Zb b) → w.heap.size ≤ b ∧ b < (A.putObj (w.heap.size + 1) (.loop { Rc .ready with state := .busy })).heap.size := fun b h => by simpa using hoz b h
    have hsm2 : ∀ b, b ≠ w.heap.size + 1 → (A.putObj (w.heap.size + 1) (.loop { Rc .ready with state := .busy })).heap[b]? = A.heap[b]? := fun b hb => World.putObj_heap_other hb
    refine wpIn_mono (hbody _ k (fun b => Z b ∨ Zb b) _ (hI _ _ _ _ _ hi (Moves.put _ (.inr zl) hoz)) hoz2 hlen) ?_
    rintro e a3 W3 hp
    cases e with
    | normal =>
      obtain ⟨hlv, hi3⟩ := hp
      have hl3 := (hlv.same _ (.inr zl)).trans hl2
      have hk3 := ((hlv.same _ (.inr zk)).trans (hsm2 _ (by omega))).trans hk
      have hlt3 : w.heap.size + 1 < W3.heap.size := (Array.getElem?_eq_some_iff.1 hl3).1
      have hr := run_endRound (P := P) none hl3
      rw [show ({ ({ Rc .ready with state := .busy } : Loop) with state := if (none : Option Code).isNone then .ready else .done, pending := none } : Loop) = Rc .ready by rw [hR]; rfl] at hr
      have hs3 : A.heap.size ≤ W3.heap.size := by simpa using hlv.read.size
      have hoz3 : ∀ b, (Z b ∨ Zb b) → w.heap.size ≤ b ∧ b < W3.heap.size := fun b h => by
        have := hoz b h
        omega
      refine ⟨_, _, hr, rfl, ⟨hI _ _ _ _ _ hi3 (Moves.put _ (.inr zl) hoz3), World.putObj_heap_same hlt3, (World.putObj_heap_other (by omega)).trans hk3⟩, ?_, ?_⟩
      · have hne : ∀ b, R b → b ≠ w.heap.size + 1 := fun b hb e => by
          have := hRl b hb
          omega
        exact ⟨by simpa using hs3, fun b hb => (World.putObj_heap_other (hne b hb)).trans ((hlv.read.same b hb).trans (hsm2 b (hne b hb)))⟩
      · intro b hb
        have hne : b ≠ w.heap.size + 1 := by
          have := (hin b hb).1
          omega
        exact (World.putObj_heap_other hne).trans ((hlv.same b (.inl hb)).trans (hsm2 b hne))
    | ret => exact hp.elim
    | exit id => exact hp.elim
    | goto t => exact hp.elim
    | panic c => exact hp.elim
    | outgrown => exact hp.elim
  · -- behind the iterator
    rintro e W2 ⟨⟨v, rfl⟩, Z, hin, hi, hl, hk⟩
    have hlt : w.heap.size + 1 < W2.heap.size := (Array.getElem?_eq_some_iff.1 hl).1
    have hoz : ∀ b, (Z b ∨ Zb b) → w.heap.size ≤ b ∧ b < W2.heap.size := fun b h => by
      rcases h with h | h
      · have := hin b h
        omega
      · have := zb b h
        omega
    have he := run_endLoop (P := P) hl (by rw [hR]; simp)
    have hpn : (Rc .ready).pending = none := by rw [hR]
    rw [hpn] at he
    exact ⟨none, _, he, hdone _ (fun b => Z b ∨ Zb b) _ (hI _ _ _ _ _ hi (Moves.put _ (.inr zl) hoz)) (fun b h => by simpa using hoz b h) (.inr zk) ((World.putObj_heap_other (by omega)).trans hk)⟩

end Go.Proofs.YtafoldpmodipaaaDoor
