/- Slices that are read, nil ones too. -/
import Derived.Test.YtkofafefnlommaaVTo
namespace Go.Proofs.Ytkofafefnlommaa
open Go.RowKit

theorem ArgS.below {c : Nat} {w w' : World} {a : Option Addr} {len : Nat} {xs : List Value} (h : ArgS c w a len xs) (hb : Below w.heap.size w w') : ArgS c w' a len xs := by
  refine ⟨h.1, h.2.imp id ?_⟩
  rintro ⟨b, off, rfl, hc⟩
  exact ⟨b, off, rfl, fun j u hu => (hb.cell (p := ⟨b, off + j, none⟩) (lt_of_cell (hc j u hu))).trans (hc j u hu)⟩

/-- u is a slice of n elements, nil or not, that reads as the cells xs, c of them an element. -/
def Rd (c : Nat) (w : World) (u : Value) (n : Nat) (xs : List Value) : Prop := ∃ a cap, u = .slice a n cap ∧ n ≤ maxLen ∧ ArgS c w a n xs
theorem Rd.below {c : Nat} {w w' : World} {u : Value} {n : Nat} {xs : List Value} (h : Rd c w u n xs) (hb : Below w.heap.size w w') : Rd c w' u n xs := by
  obtain ⟨a, cap, rfl, hn, hx⟩ := h
  exact ⟨a, cap, rfl, hn, hx.below hb⟩
theorem Rd.len {c : Nat} {w : World} {u : Value} {n : Nat} {xs : List Value} (h : Rd c w u n xs) : n ≤ maxLen := by
  obtain ⟨a, cap, rfl, hn, hx⟩ := h
  exact hn
theorem Rd.of_arg {c : Nat} {w : World} {a : Option Addr} {n cap : Nat} {xs : List Value} (hn : n ≤ maxLen) (h : ArgS c w a n xs) : Rd c w (.slice a n cap) n xs := ⟨a, cap, rfl, hn, h⟩
theorem At.rd {c : Nat} {w : World} {u : Value} {n : Nat} {xs : List Value} (h : At c w u n xs) : Rd c w u n xs := by
  obtain ⟨b, off, cap, rfl, h1, h2, h3, h4⟩ := h
  exact ⟨_, _, rfl, Nat.le_trans h1 h2, h3, .inr ⟨b, off, rfl, h4⟩⟩
theorem AtN.rd {c : Nat} {w : World} {u : Value} {n : Nat} {xs : List Value} (h : AtN c w u n xs) : Rd c w u n xs := by
  rcases h with ⟨rfl, rfl, rfl⟩ | h
  · exact ⟨_, _, rfl, Nat.zero_le _, by simp, .inl rfl⟩
  · exact h.rd
theorem Own.rd {e size lo hi w v n xs} (h : Own e size lo hi w v n xs) : Rd size w v n xs := h.at.rd
/-- The slice of Vals, for a walk: its k-th element. -/
theorem Rd.vals {w : World} {u : Value} {n : Nat} {l : List V} (h : Rd 3 w u n (vals l)) (hl : l.length = n) :
    ∃ a cap, u = .slice a n cap ∧ n ≤ maxLen ∧ Hid (∀ k, k < n → ∃ b off, a = some ⟨b, off, none⟩ ∧ w.cell? ⟨b, off + k * 3, none⟩ = some (.int .i64 (l.getD k V.zero).ty) ∧ w.cell? ⟨b, off + k * 3 + 1, none⟩ = some (.int .i64 (l.getD k V.zero).n) ∧ w.cell? ⟨b, off + k * 3 + 2, none⟩ = some (.string (l.getD k V.zero).s)) := by
  obtain ⟨a, cap, rfl, hn, _, hx⟩ := h
  refine ⟨a, cap, rfl, hn, fun k hk => ?_⟩
  rcases hx with h0 | ⟨b, off, rfl, hc⟩
  · omega
  · have hk' : k < l.length := by omega
    have e : l.getD k V.zero = l[k] := by simp [hk']
    rw [e]
    exact ⟨b, off, rfl, cells3 hc hk'⟩
/-- The slice of integers, for a walk: its k-th element. -/
theorem Rd.ints {kd : IntKind} {w : World} {u : Value} {n : Nat} {zs : List Int} (h : Rd 1 w u n (ints kd zs)) (hl : zs.length = n) :
    ∃ a cap, u = .slice a n cap ∧ n ≤ maxLen ∧ Hid (∀ k, k < n → ∃ b off, a = some ⟨b, off, none⟩ ∧ w.cell? ⟨b, off + k, none⟩ = some (.int kd (zs.getD k 0))) := by
  obtain ⟨a, cap, rfl, hn, _, hx⟩ := h
  refine ⟨a, cap, rfl, hn, fun k hk => ?_⟩
  rcases hx with h0 | ⟨b, off, rfl, hc⟩
  · omega
  · exact ⟨b, off, rfl, hc k _ (ints_get (by omega))⟩

/-- Only blocks from lo to hi have changed. -/
def Within (lo hi : Nat) (w w' : World) : Prop := w'.os = w.os ∧ w'.tape = w.tape ∧ w'.output = w.output ∧ w.heap.size ≤ w'.heap.size ∧ ∀ j, j < w.heap.size → (j < lo ∨ hi ≤ j) → w'.heap[j]? = w.heap[j]?
theorem Within.refl (lo hi : Nat) (w : World) : Within lo hi w w := ⟨rfl, rfl, rfl, Nat.le_refl _, fun _ _ _ => rfl⟩
theorem Within.of_grown {lo hi : Nat} {w w' : World} {row : Option Nat} (h : w.grownBy w' row) (hr : ∀ g, row = some g → lo ≤ g ∧ g < hi) : Within lo hi w w' :=
  ⟨h.os, h.tape, h.output, h.size, fun j hj hjr => h.block j hj (fun e => by have := hr j e.symm; omega)⟩
theorem Within.trans {lo hi : Nat} {w w' w'' : World} (h : Within lo hi w w') (k : Within lo hi w' w'') : Within lo hi w w'' :=
  ⟨k.1.trans h.1, k.2.1.trans h.2.1, k.2.2.1.trans h.2.2.1, Nat.le_trans h.2.2.2.1 k.2.2.2.1, fun j hj hr => (k.2.2.2.2 j (Nat.lt_of_lt_of_le hj h.2.2.2.1) hr).trans (h.2.2.2.2 j hj hr)⟩
theorem Within.below {lo hi B : Nat} {w w' : World} (h : Within lo hi w w') (hB : B ≤ lo) (hs : B ≤ w.heap.size) : Below B w w' :=
  ⟨h.1, h.2.1, h.2.2.1, h.2.2.2.1, fun k hk => h.2.2.2.2 k (by omega) (.inl (by omega))⟩

theorem Own.other {e size lo hi w w' v n xs} {row : Option Nat} (h : Own e size lo hi w v n xs) (hg : w.grownBy w' row) (hne : row ≠ v.ownBlock) : Own e size lo hi w' v n xs := by
  obtain ⟨g, cap, rfl, h1, h2, h3⟩ := h
  exact ⟨g, cap, rfl, h1, h2, h3.kept hg (Or.inr fun e => hne e.symm)⟩
theorem Own.within {e size lo hi lo' hi' w w' v n xs} (h : Own e size lo hi w v n xs) (hw : Within lo' hi' w w') (hr : hi ≤ lo' ∨ hi' ≤ lo) : Own e size lo hi w' v n xs := by
  obtain ⟨g, cap, rfl, h1, h2, h3⟩ := h
  have hlt := (h3.lt g rfl).2
  obtain ⟨h4, h5⟩ := h3
  refine ⟨g, cap, rfl, h1, h2, h4, ?_⟩
  rcases h5 with ⟨h', _⟩ | ⟨g', cap', cur, h', hbg, hg, r⟩
  · simp at h'
  · simp only [Value.slice.injEq, Option.some.injEq, Addr.mk.injEq, and_true, true_and] at h'
    obtain ⟨rfl, rfl⟩ := h'
    exact .inr ⟨g, cap, cur, rfl, hbg, (hw.2.2.2.2 g hlt (by omega)).trans hg, r⟩
theorem Own.blocks_ne {e e' size size' lo hi lo' hi' w v v' n n' xs xs'} (h : Own e size lo hi w v n xs) (k : Own e' size' lo' hi' w v' n' xs') (hne : e ≠ e') : v.ownBlock ≠ v'.ownBlock := by
  obtain ⟨g, cap, rfl, _, _, _, h5⟩ := h
  obtain ⟨g', cap', rfl, _, _, _, k5⟩ := k
  rcases h5 with ⟨h', _⟩ | ⟨_, _, cur, h', _, hg, _⟩
  · simp at h'
  rcases k5 with ⟨k', _⟩ | ⟨_, _, cur', k', _, kg, _⟩
  · simp at k'
  simp only [Value.slice.injEq, Option.some.injEq, Addr.mk.injEq, and_true, true_and] at h' k'
  obtain ⟨rfl, rfl⟩ := h'
  obtain ⟨rfl, rfl⟩ := k'
  intro e0
  simp only [Value.ownBlock, Option.some.injEq] at e0
  subst e0
  rw [hg] at kg
  simp only [Option.some.injEq, Obj.cells.injEq] at kg
  exact hne kg.2.1

/-- append(s, x): x, a Val, has just been laid in a block of its own. -/
theorem appendV_law {P : Program} {t e : TypeId} {z : Value} {bytes : Nat} (T : ElemT P t e z 3 bytes) {w : World} {ops : Array Oper} {rest : List Oper} {o : Oper} {a : Act} {Q : Exit → Act → World → Prop} (hgd : o.guard = none) (s x : Operand)
    (ho : o.op = .call { callee := .builtin .append, args := #[s, x], argTypes := #[t, t] })
    (lo hi : Nat) (v : Value) (n : Nat) (xs : List Value) (u : V) (hs : a.eval s = v) (hown : Own e 3 lo hi w v n xs)
    (hx : a.eval x = .slice (some ⟨w.heap.size, 0, none⟩) 1 1)
    (h63 : n + 1 ≤ maxLen) (hbytes : (n + 1) * bytes ≤ 140737488355328)
    (h : ∀ v' w', Own e 3 lo w'.heap.size w' v' (n + 1) (xs ++ u.cs) → Ext w w' v v' → wpList P ops Q rest (a.put o.dst v') w') : wpList P ops Q (o :: rest) a (w.alloc (.cells #[.int .i64 u.ty, .int .i64 u.n, .string u.s] e)) := by
  refine append_law T hgd s x ho lo hi v n xs hs (hown.alloc _) w.heap.size 0 1 1 u.cs hx rfl ?_ ?_ h63 hbytes (fun v' w' h1 h2 => h v' w' h1 ((Ext.alloc v _).trans h2))
  · intro j y hj
    match j, hj with
    | 0, hj => simp [V.cs] at hj; subst hj; simp
    | 1, hj => simp [V.cs] at hj; subst hj; simp
    | 2, hj => simp [V.cs] at hj; subst hj; simp
    | j + 3, hj => simp [V.cs] at hj
  · intro y hy
    simp [V.cs] at hy
    rcases hy with rfl | rfl | rfl <;> rfl

/-- Two lists, element by element. -/
def all2 {α β : Type} (f : α → β → Bool) : List α → List β → Bool
  | [], [] => true
  | a :: l, b :: r => f a b && all2 f l r
  | _, _ => false
theorem all2_len {α β : Type} {f : α → β → Bool} {l : List α} {r : List β} (h : l.length ≠ r.length) : all2 f l r = false := by
  induction l generalizing r with
  | nil => cases r with
    | nil => simp at h
    | cons => rfl
  | cons a l ih => cases r with
    | nil => rfl
    | cons b r => rw [all2, ih (by simpa using h), Bool.and_false]
theorem all2_all {α β : Type} {f : α → β → Bool} {l : List α} {r : List β} (x : α) (y : β) (hn : l.length = r.length) (h : ∀ k, k < l.length → f (l.getD k x) (r.getD k y) = true) : all2 f l r = true := by
  induction l generalizing r with
  | nil => cases r with
    | nil => rfl
    | cons => simp at hn
  | cons a l ih => cases r with
    | nil => simp at hn
    | cons b r =>
      rw [all2, ih (by simpa using hn) (fun k hk => by simpa using h (k + 1) (by simpa using hk)), Bool.and_true]
      simpa using h 0 (by simp)
theorem all2_no {α β : Type} {f : α → β → Bool} {l : List α} {r : List β} (x : α) (y : β) {k : Nat} (hk : k < l.length) (hn : l.length = r.length) (h : f (l.getD k x) (r.getD k y) = false) : all2 f l r = false := by
  induction l generalizing r k with
  | nil => simp at hk
  | cons a l ih => cases r with
    | nil => simp at hn
    | cons b r =>
      cases k with
      | zero =>
        simp only [List.getD_cons_zero] at h
        rw [all2, h, Bool.false_and]
      | succ k => rw [all2, ih (k := k) (by simpa using hk) (by simpa using hn) (by simpa using h), Bool.and_false]

end Go.Proofs.Ytkofafefnlommaa
