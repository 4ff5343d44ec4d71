/- Texts of this claim, one behind the other: M7. -/
import Derived.Test.YtkofafefnlommaaP12

/- Plain mathematics of chapter 7: the order of Vals, the dictionary of a list, the places of values. -/
namespace Go.Proofs.Ytkofafefnlommaa
open Go.RowKit

theorem getDe {α : Type} (l : List α) (d : α) {i : Nat} (h : i < l.length) : l.getD i d = l[i] := by simp [h]
theorem bl_irrefl : ∀ x : List UInt8, Op.bytesLess x x = false
  | [] => rfl
  | a :: x => by simp [Op.bytesLess, bl_irrefl x]
theorem bl_trans : ∀ x y z : List UInt8, Op.bytesLess x y = true → Op.bytesLess y z = true → Op.bytesLess x z = true
  | _, _, [], _, h => by simp [Op.bytesLess] at h
  | [], _, _ :: _, _, _ => rfl
  | _ :: _, [], _ :: _, h, _ => by simp [Op.bytesLess] at h
  | a :: x, b :: y, c :: z, h, k => by
    simp only [Op.bytesLess, Bool.or_eq_true, decide_eq_true_eq, Bool.and_eq_true, beq_iff_eq] at h k ⊢
    rcases h with h | ⟨rfl, h⟩
    · rcases k with k | ⟨rfl, k⟩
      · exact .inl (UInt8.lt_trans h k)
      · exact .inl h
    · rcases k with k | ⟨rfl, k⟩
      · exact .inl k
      · exact .inr ⟨rfl, bl_trans x y z h k⟩
theorem bl_tri : ∀ x y : List UInt8, Op.bytesLess x y = false → Op.bytesLess y x = false → x = y
  | [], [], _, _ => rfl
  | [], _ :: _, h, _ => by simp [Op.bytesLess] at h
  | _ :: _, [], _, h => by simp [Op.bytesLess] at h
  | a :: x, b :: y, h, k => by
    simp only [Op.bytesLess, Bool.or_eq_false_iff, decide_eq_false_iff_not, Bool.and_eq_false_iff, beq_eq_false_iff_ne] at h k
    have e : a = b := UInt8.le_antisymm (UInt8.not_lt.1 k.1) (UInt8.not_lt.1 h.1)
    subst e
    rw [bl_tri x y (h.2.resolve_left (fun f => f rfl)) (k.2.resolve_left (fun f => f rfl))]

theorem lessV_iff (a b : V) : lessV a b = true ↔ a.ty < b.ty ∨ (a.ty = b.ty ∧ (a.n < b.n ∨ (a.n = b.n ∧ Op.bytesLess a.s.toList b.s.toList = true))) := by
  unfold lessV
  by_cases h1 : a.ty = b.ty
  · by_cases h2 : a.n = b.n
    · simp [h1, h2]
    · simp [h1, h2]
  · simp [h1]
theorem lessV_irrefl (a : V) : lessV a a = false := by
  cases h : lessV a a with
  | false => rfl
  | true =>
    rw [lessV_iff, bl_irrefl] at h
    rcases h with h | ⟨_, h | ⟨_, h⟩⟩
    · omega
    · omega
    · cases h
theorem lessV_trans {a b c : V} (h : lessV a b = true) (k : lessV b c = true) : lessV a c = true := by
  rw [lessV_iff] at h k ⊢
  rcases h with h | ⟨h1, h | ⟨h2, h⟩⟩
  · rcases k with k | ⟨k1, k⟩
    · exact .inl (by omega)
    · exact .inl (by omega)
  · rcases k with k | ⟨k1, k | ⟨k2, k⟩⟩
    · exact .inl (by omega)
    · exact .inr ⟨by omega, .inl (by omega)⟩
    · exact .inr ⟨by omega, .inl (by omega)⟩
  · rcases k with k | ⟨k1, k | ⟨k2, k⟩⟩
    · exact .inl (by omega)
    · exact .inr ⟨by omega, .inl (by omega)⟩
    · exact .inr ⟨by omega, .inr ⟨by omega, bl_trans _ _ _ h k⟩⟩
theorem lessV_tri {a b : V} (h : lessV a b = false) (k : lessV b a = false) : a = b := by
  have h' : ¬ lessV a b = true := by rw [h]; simp
  have k' : ¬ lessV b a = true := by rw [k]; simp
  rw [lessV_iff] at h' k'
  have e1 : a.ty = b.ty := by omega
  have e2 : a.n = b.n := by
    have p1 : ¬ a.n < b.n := fun f => h' (.inr ⟨e1, .inl f⟩)
    have p2 : ¬ b.n < a.n := fun f => k' (.inr ⟨e1.symm, .inl f⟩)
    omega
  have b1 : Op.bytesLess a.s.toList b.s.toList = false := by
    cases hb : Op.bytesLess a.s.toList b.s.toList with
    | false => rfl
    | true => exact absurd (.inr ⟨e1, .inr ⟨e2, hb⟩⟩) h'
  have b2 : Op.bytesLess b.s.toList a.s.toList = false := by
    cases hb : Op.bytesLess b.s.toList a.s.toList with
    | false => rfl
    | true => exact absurd (.inr ⟨e1.symm, .inr ⟨e2.symm, hb⟩⟩) k'
  have e3 := bl_tri _ _ b1 b2
  obtain ⟨t1, n1, s1⟩ := a
  obtain ⟨t2, n2, s2⟩ := b
  simp only at e1 e2 e3
  subst e1 e2
  rw [ByteArray.toList_eq, ByteArray.toList_eq] at e3
  rw [ByteArray.ext (Array.toList_inj.1 e3)]
theorem lessV_asymm {a b : V} (h : lessV a b = true) : lessV b a = false := by
  cases k : lessV b a with
  | false => rfl
  | true =>
    have := lessV_trans h k
    rw [lessV_irrefl] at this
    cases this
theorem lessV_ntrans {a b c : V} (h : lessV a b = false) (k : lessV b c = false) : lessV a c = false := by
  cases hc : lessV a c with
  | false => rfl
  | true =>
    cases h2 : lessV b a with
    | true => rw [lessV_trans h2 hc] at k; cases k
    | false =>
      rw [lessV_tri h h2] at hc
      rw [hc] at k
      cases k

/-- Ascending, and no two alike. -/
def Asc (d : List V) : Prop := d.Pairwise fun a b => lessV a b = true
theorem asc_unique : ∀ {a b : List V}, Asc a → Asc b → (∀ x, x ∈ a ↔ x ∈ b) → a = b
  | [], [], _, _, _ => rfl
  | [], y :: b, _, _, h => by have := (h y).2 List.mem_cons_self; cases this
  | x :: a, [], _, _, h => by have := (h x).1 List.mem_cons_self; cases this
  | x :: a, y :: b, ha, hb, h => by
    obtain ⟨ha1, ha2⟩ := List.pairwise_cons.1 ha
    obtain ⟨hb1, hb2⟩ := List.pairwise_cons.1 hb
    have e : x = y := by
      rcases List.mem_cons.1 ((h x).1 List.mem_cons_self) with e | e
      · exact e
      · rcases List.mem_cons.1 ((h y).2 List.mem_cons_self) with e' | e'
        · exact e'.symm
        · have := lessV_asymm (hb1 x e)
          rw [ha1 y e'] at this
          cases this
    subst e
    rw [asc_unique ha2 hb2 (fun z => ?_)]
    constructor
    · intro hz
      rcases List.mem_cons.1 ((h z).1 (List.mem_cons_of_mem _ hz)) with e | e
      · subst e
        have := ha1 z hz
        rw [lessV_irrefl] at this
        cases this
      · exact e
    · intro hz
      rcases List.mem_cons.1 ((h z).2 (List.mem_cons_of_mem _ hz)) with e | e
      · subst e
        have := hb1 z hz
        rw [lessV_irrefl] at this
        cases this
      · exact e

/-- Where v belongs in d. -/
def cutV : List V → V → Nat
  | [], _ => 0
  | x :: r, v => if lessV x v = true then cutV r v + 1 else 0
theorem cutV_le : ∀ (d : List V) (v : V), cutV d v ≤ d.length
  | [], _ => Nat.le_refl _
  | x :: r, v => by
    unfold cutV
    split
    · have := cutV_le r v
      simp only [List.length_cons]
      omega
    · exact Nat.zero_le _
theorem cutV_step : ∀ {d : List V} {v : V} {j : Nat}, j ≤ cutV d v → j < d.length → lessV (d.getD j V.zero) v = true → j + 1 ≤ cutV d v
  | [], _, j, _, h, _ => by simp at h
  | x :: r, v, 0, _, _, h => by
    have h' : lessV x v = true := h
    unfold cutV
    rw [if_pos h']
    omega
  | x :: r, v, j + 1, h1, h2, h3 => by
    unfold cutV at h1 ⊢
    split
    · rename_i hx
      rw [if_pos hx] at h1
      have := cutV_step (d := r) (v := v) (j := j) (by omega) (by simpa using h2) (by simpa using h3)
      omega
    · rename_i hx
      rw [if_neg hx] at h1
      omega
theorem cutV_stop : ∀ {d : List V} {v : V} {j : Nat}, j ≤ cutV d v → (j = d.length ∨ lessV (d.getD j V.zero) v = false) → j = cutV d v
  | [], _, j, h, _ => by simp only [cutV] at h ⊢; omega
  | x :: r, v, 0, _, h => by
    have h' : ¬ lessV x v = true := by
      rcases h with h | h
      · simp at h
      · rw [show (x :: r).getD 0 V.zero = x from rfl] at h
        rw [h]
        simp
    unfold cutV
    rw [if_neg h']
  | x :: r, v, j + 1, h1, h2 => by
    unfold cutV at h1 ⊢
    split
    · rename_i hx
      rw [if_pos hx] at h1
      rw [← cutV_stop (d := r) (v := v) (j := j) (by omega) (h2.imp (fun h => by simpa using h) (fun h => by simpa using h))]
    · rename_i hx
      rw [if_neg hx] at h1
      omega

/-- A value laid into a dictionary. -/
def insV : List V → V → List V
  | [], v => [v]
  | x :: r, v => if lessV x v = true then x :: insV r v else if x.eqB v = true then x :: r else v :: x :: r
theorem insV_new : ∀ {d : List V} {v : V}, (cutV d v = d.length ∨ (d.getD (cutV d v) V.zero).eqB v = false) → insV d v = (d.take (cutV d v) ++ [v]) ++ d.drop (cutV d v)
  | [], v, _ => rfl
  | x :: r, v, h => by
    unfold insV
    by_cases hx : lessV x v = true
    · have hc : cutV (x :: r) v = cutV r v + 1 := by rw [cutV, if_pos hx]
      rw [hc] at h ⊢
      rw [if_pos hx, insV_new (h.imp (fun h => by simpa using h) (fun h => by simpa using h))]
      simp
    · have hc : cutV (x :: r) v = 0 := by rw [cutV, if_neg hx]
      rw [hc] at h ⊢
      have he : x.eqB v = false := by
        rcases h with h | h
        · simp at h
        · exact h
      rw [if_neg hx, he]
      rfl
theorem insV_old : ∀ {d : List V} {v : V}, cutV d v < d.length → (d.getD (cutV d v) V.zero).eqB v = true → insV d v = d
  | [], _, h, _ => by simp at h
  | x :: r, v, h1, h2 => by
    unfold insV
    by_cases hx : lessV x v = true
    · have hc : cutV (x :: r) v = cutV r v + 1 := by rw [cutV, if_pos hx]
      rw [hc] at h1 h2
      rw [if_pos hx, insV_old (by simpa using h1) (by simpa using h2)]
    · have hc : cutV (x :: r) v = 0 := by rw [cutV, if_neg hx]
      rw [hc] at h2
      have he : x.eqB v = true := h2
      rw [if_neg hx, if_pos he]
theorem mem_ins : ∀ {d : List V} {v x : V}, x ∈ insV d v ↔ x ∈ d ∨ x = v
  | [], v, x => by simp [insV]
  | y :: r, v, x => by
    unfold insV
    split
    · rw [List.mem_cons, mem_ins (d := r), List.mem_cons, or_assoc]
    · split
      · rename_i he
        have he' := eqB_true.1 he
        subst he'
        constructor
        · exact .inl
        · rintro (h | rfl)
          · exact h
          · exact List.mem_cons_self
      · simp only [List.mem_cons]
        constructor
        · rintro (h | h | h)
          · exact .inr h
          · exact .inl (.inl h)
          · exact .inl (.inr h)
        · rintro ((h | h) | h)
          · exact .inr (.inl h)
          · exact .inr (.inr h)
          · exact .inl h
theorem asc_ins : ∀ {d : List V} {v : V}, Asc d → Asc (insV d v)
  | [], v, _ => List.pairwise_singleton _ _
  | x :: r, v, h => by
    obtain ⟨h1, h2⟩ := List.pairwise_cons.1 h
    unfold insV
    split
    · rename_i hx
      refine List.pairwise_cons.2 ⟨fun y hy => ?_, asc_ins h2⟩
      rcases mem_ins.1 hy with hy | rfl
      · exact h1 y hy
      · exact hx
    · rename_i hx
      split
      · exact h
      · rename_i he
        have hxv : lessV v x = true := by
          cases k : lessV v x with
          | true => rfl
          | false => exact absurd (eqB_true.2 (lessV_tri (by simpa using hx) k)) he
        refine List.pairwise_cons.2 ⟨fun y hy => ?_, h⟩
        rcases List.mem_cons.1 hy with rfl | hy
        · exact hxv
        · exact lessV_trans hxv (h1 y hy)
theorem ins_len (d : List V) (v : V) : (insV d v).length ≤ d.length + 1 := by
  induction d with
  | nil => simp [insV]
  | cons x r ih =>
    unfold insV
    split
    · simp only [List.length_cons]; omega
    · split <;> simp

/-- Dict. -/
def dictL (l : List V) : List V := l.foldl insV []
theorem dict_snoc (l : List V) (v : V) : dictL (l ++ [v]) = insV (dictL l) v := by simp [dictL]
theorem dict_fold : ∀ (l d : List V), Asc d → Asc (l.foldl insV d) ∧ (∀ x, x ∈ l.foldl insV d ↔ x ∈ d ∨ x ∈ l) ∧ (l.foldl insV d).length ≤ d.length + l.length
  | [], d, h => ⟨h, by simp, by simp⟩
  | v :: l, d, h => by
    obtain ⟨h1, h2, h3⟩ := dict_fold l (insV d v) (asc_ins h)
    refine ⟨h1, fun x => ?_, ?_⟩
    · rw [List.foldl_cons, h2, mem_ins, List.mem_cons, or_assoc]
    · have := ins_len d v
      simp only [List.foldl_cons, List.length_cons]
      omega
theorem asc_dict (l : List V) : Asc (dictL l) := (dict_fold l [] List.Pairwise.nil).1
theorem mem_dict {l : List V} {x : V} : x ∈ dictL l ↔ x ∈ l := by
  have := (dict_fold l [] List.Pairwise.nil).2.1 x
  simpa [dictL] using this
theorem dict_len (l : List V) : (dictL l).length ≤ l.length := by
  have := (dict_fold l [] List.Pairwise.nil).2.2
  simpa [dictL] using this

/-- What is left of the first j elements when each that equals the one ahead of it goes. -/
def compK (l : List V) : Nat → List V
  | 0 => []
  | j + 1 => if j = 0 ∨ (l.getD j V.zero).eqB (l.getD (j - 1) V.zero) = false then compK l j ++ [l.getD j V.zero] else compK l j
theorem compK_len (l : List V) (j : Nat) : (compK l j).length ≤ j := by
  induction j with
  | zero => exact Nat.le_refl _
  | succ j ih =>
    unfold compK
    split
    · simp; omega
    · omega
theorem compK_pos (l : List V) {j : Nat} (h : 0 < j) : 0 < (compK l j).length := by
  induction j with
  | zero => omega
  | succ j ih =>
    unfold compK
    split
    · simp
    · rename_i hn
      have : j ≠ 0 := fun e => hn (.inl e)
      exact ih (by omega)
theorem compK_mem (l : List V) {j : Nat} (hj : j ≤ l.length) (x : V) : x ∈ compK l j ↔ ∃ i, i < j ∧ l.getD i V.zero = x := by
  induction j with
  | zero => simp [compK]
  | succ j ih =>
    have ih := ih (by omega)
    unfold compK
    split
    · rw [List.mem_append, ih, List.mem_singleton]
      constructor
      · rintro (⟨i, hi, e⟩ | e)
        · exact ⟨i, by omega, e⟩
        · exact ⟨j, by omega, e.symm⟩
      · rintro ⟨i, hi, e⟩
        by_cases hij : i = j
        · subst hij; exact .inr e.symm
        · exact .inl ⟨i, by omega, e⟩
    · rename_i hn
      have hj0 : j ≠ 0 := fun e => hn (.inl e)
      have he : (l.getD j V.zero).eqB (l.getD (j - 1) V.zero) = true := by
        cases hb : (l.getD j V.zero).eqB (l.getD (j - 1) V.zero) with
        | true => rfl
        | false => exact absurd (.inr hb) hn
      have he' := eqB_true.1 he
      rw [ih]
      constructor
      · rintro ⟨i, hi, e⟩
        exact ⟨i, by omega, e⟩
      · rintro ⟨i, hi, e⟩
        by_cases hij : i = j
        · subst hij; exact ⟨i - 1, by omega, he'.symm.trans e⟩
        · exact ⟨i, by omega, e⟩
/-- No later one is less than an earlier one. -/
def Rising (l : List V) : Prop := ∀ i j, i < j → j < l.length → lessV (l.getD j V.zero) (l.getD i V.zero) = false
theorem compK_asc {l : List V} (h : Rising l) : ∀ {j : Nat}, j ≤ l.length → Asc (compK l j)
  | 0, _ => List.Pairwise.nil
  | j + 1, hj => by
    have ih := compK_asc h (j := j) (by omega)
    unfold compK
    split
    · rename_i hc
      refine List.pairwise_append.2 ⟨ih, List.pairwise_singleton _ _, fun x hx y hy => ?_⟩
      rw [List.mem_singleton.1 hy]
      obtain ⟨i, hi, rfl⟩ := (compK_mem l (by omega) x).1 hx
      have hne : (l.getD j V.zero).eqB (l.getD (j - 1) V.zero) = false := by
        rcases hc with hc | hc
        · omega
        · exact hc
      cases k : lessV (l.getD i V.zero) (l.getD j V.zero) with
      | true => rfl
      | false =>
        exfalso
        have e1 := lessV_tri k (h i j hi (by omega))
        apply eqB_false.1 hne
        by_cases hij : i = j - 1
        · rw [← hij]; exact e1.symm
        · have k1 := h (j - 1) j (by omega) (by omega)
          have k2 := h i (j - 1) (by omega) (by omega)
          rw [e1] at k2
          exact lessV_tri k1 k2
    · exact ih
/-- The values of l, sorted, with each that equals the one ahead of it gone: the dictionary. -/
theorem comp_dict {l s : List V} (hp : s.Perm l) (h : Rising s) : compK s s.length = dictL l := by
  refine asc_unique (compK_asc h (Nat.le_refl _)) (asc_dict l) (fun x => ?_)
  rw [compK_mem s (Nat.le_refl _), mem_dict, ← hp.mem_iff]
  constructor
  · rintro ⟨i, hi, rfl⟩
    rw [getDe _ _ hi]
    exact List.getElem_mem hi
  · intro hx
    obtain ⟨i, hi, e⟩ := List.getElem_of_mem hx
    exact ⟨i, hi, by rw [getDe _ _ hi, e]⟩
theorem compK_all {l : List V} : ∀ {j : Nat}, j ≤ l.length → (∀ i, 0 < i → i < j → (l.getD i V.zero).eqB (l.getD (i - 1) V.zero) = false) → compK l j = l.take j
  | 0, _, _ => rfl
  | j + 1, hj, h => by
    have ih := compK_all (l := l) (j := j) (by omega) (fun i h0 h1 => h i h0 (by omega))
    have hlt : j < l.length := by omega
    rw [compK, if_pos, ih, List.take_succ_eq_append_getElem hlt, getDe _ _ hlt]
    by_cases h0 : j = 0
    · exact .inl h0
    · exact .inr (h j (by omega) (by omega))

/-- InDict. -/
def inD : List V → V → Option Nat
  | [], _ => none
  | x :: r, v => if x.eqB v = true then some 0 else (inD r v).map (· + 1)
def inI (d : List V) (v : V) : Int := match inD d v with | some i => i | none => -1
theorem inD_some : ∀ {d : List V} {v : V} {i : Nat}, inD d v = some i → i < d.length ∧ d.getD i V.zero = v ∧ ∀ j, j < i → (d.getD j V.zero).eqB v = false
  | [], v, i, h => by simp [inD] at h
  | x :: r, v, i, h => by
    unfold inD at h
    split at h
    · rename_i he
      cases h
      exact ⟨by simp, eqB_true.1 he, fun j hj => by omega⟩
    · rename_i he
      obtain ⟨k, hk, rfl⟩ := Option.map_eq_some_iff.1 h
      obtain ⟨h1, h2, h3⟩ := inD_some hk
      refine ⟨by simpa using h1, by simpa using h2, fun j hj => ?_⟩
      cases j with
      | zero => simpa using he
      | succ j => simpa using h3 j (by omega)
theorem inD_none : ∀ {d : List V} {v : V}, inD d v = none ↔ ∀ j, j < d.length → (d.getD j V.zero).eqB v = false
  | [], v => by simp [inD]
  | x :: r, v => by
    unfold inD
    split
    · rename_i he
      constructor
      · intro h; cases h
      · intro h
        have := h 0 (by simp)
        rw [show (x :: r).getD 0 V.zero = x from rfl, he] at this
        cases this
    · rename_i he
      rw [Option.map_eq_none_iff, inD_none]
      constructor
      · intro h j hj
        cases j with
        | zero => simpa using he
        | succ j => simpa using h j (by simpa using hj)
      · intro h j hj
        have := h (j + 1) (by simpa using hj)
        simpa using this
theorem inD_first {d : List V} {v : V} {i : Nat} (h1 : i < d.length) (h2 : (d.getD i V.zero).eqB v = true) (h3 : ∀ j, j < i → (d.getD j V.zero).eqB v = false) : inD d v = some i := by
  cases h : inD d v with
  | none => rw [inD_none.1 h i h1] at h2; cases h2
  | some k =>
    obtain ⟨k1, k2, k3⟩ := inD_some h
    by_cases hik : i < k
    · rw [k3 i hik] at h2; cases h2
    · by_cases hki : k < i
      · have := h3 k hki
        rw [k2] at this
        rw [eqB_true.2 rfl] at this
        cases this
      · rw [show k = i by omega]
theorem inD_mem {d : List V} {v : V} (h : v ∈ d) : ∃ i, inD d v = some i := by
  cases e : inD d v with
  | some i => exact ⟨i, rfl⟩
  | none =>
    obtain ⟨i, hi, he⟩ := List.getElem_of_mem h
    have := inD_none.1 e i hi
    rw [getDe _ _ hi, he, eqB_true.2 rfl] at this
    cases this

/-- Places. -/
def placesL (d l : List V) : List Int × Bool := if l.all (fun v => (inD d v).isSome) = true then (l.map (inI d), true) else ([], false)
/-- Picked. -/
def pickB (d : List V) (x : Int) : Bool := decide (0 ≤ x ∧ x < (d.length : Int))
def pickedL (d : List V) (p : List Int) : List V × Bool := if p.all (pickB d) = true then (p.map (fun x => d.getD x.toNat V.zero), true) else ([], false)
theorem places_len (d l : List V) : (placesL d l).1.length ≤ l.length := by
  unfold placesL
  split <;> simp
theorem picked_len (d : List V) (p : List Int) : (pickedL d p).1.length ≤ p.length := by
  unfold pickedL
  split <;> simp
theorem places_no {d l : List V} {k : Nat} (hk : k < l.length) (h : inD d (l.getD k V.zero) = none) : placesL d l = ([], false) := by
  refine if_neg fun ha => ?_
  have := List.all_eq_true.1 ha l[k] (List.getElem_mem hk)
  rw [getDe _ _ hk] at h
  rw [h] at this
  cases this
theorem places_yes {d l : List V} (h : ∀ k, k < l.length → (inD d (l.getD k V.zero)).isSome = true) : placesL d l = (l.map (inI d), true) := by
  refine if_pos (List.all_eq_true.2 fun v hv => ?_)
  obtain ⟨i, hi, rfl⟩ := List.getElem_of_mem hv
  have := h i hi
  rwa [getDe _ _ hi] at this
theorem picked_no {d : List V} {p : List Int} {k : Nat} (hk : k < p.length) (h : pickB d (p.getD k 0) = false) : pickedL d p = ([], false) := by
  refine if_neg fun ha => ?_
  have := List.all_eq_true.1 ha p[k] (List.getElem_mem hk)
  rw [getDe _ _ hk] at h
  rw [h] at this
  cases this
theorem picked_yes {d : List V} {p : List Int} (h : ∀ k, k < p.length → pickB d (p.getD k 0) = true) : pickedL d p = (p.map (fun x => d.getD x.toNat V.zero), true) := by
  refine if_pos (List.all_eq_true.2 fun v hv => ?_)
  obtain ⟨i, hi, rfl⟩ := List.getElem_of_mem hv
  have := h i hi
  rwa [getDe _ _ hi] at this
theorem places_mem {d l : List V} (h : ∀ v ∈ l, v ∈ d) : placesL d l = (l.map (inI d), true) :=
  places_yes fun k hk => by
    obtain ⟨i, hi⟩ := inD_mem (h (l.getD k V.zero) (by rw [getDe _ _ hk]; exact List.getElem_mem hk))
    rw [hi]
    rfl
theorem inI_some {d : List V} {v : V} {i : Nat} (h : inD d v = some i) : inI d v = i := by unfold inI; rw [h]
theorem inI_none {d : List V} {v : V} (h : inD d v = none) : inI d v = -1 := by unfold inI; rw [h]
/-- What is picked at the places of l is l. -/
theorem picked_places {d l : List V} (h : ∀ v ∈ l, v ∈ d) : pickedL d (l.map (inI d)) = (l, true) := by
  have key : ∀ v ∈ l, ∃ i, inI d v = (i : Nat) ∧ i < d.length ∧ d.getD i V.zero = v := fun v hv => by
    obtain ⟨i, hi⟩ := inD_mem (h v hv)
    exact ⟨i, inI_some hi, (inD_some hi).1, (inD_some hi).2.1⟩
  unfold pickedL
  rw [if_pos]
  · refine Prod.ext ?_ rfl
    show (l.map (inI d)).map _ = l
    rw [List.map_map]
    conv => rhs; rw [← List.map_id l]
    refine List.map_congr_left fun v hv => ?_
    obtain ⟨i, h1, h2, h3⟩ := key v hv
    show d.getD (inI d v).toNat V.zero = v
    rw [h1, Int.toNat_natCast, h3]
  · refine List.all_eq_true.2 fun x hx => ?_
    obtain ⟨v, hv, rfl⟩ := List.mem_map.1 hx
    obtain ⟨i, h1, h2, h3⟩ := key v hv
    rw [h1]
    exact decide_eq_true ⟨by omega, by omega⟩

end Go.Proofs.Ytkofafefnlommaa
