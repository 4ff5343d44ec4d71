/- Texts of this claim, one behind the other: Mem, Bytes, Ints, Blk. -/
import Derived.Test.YtkofafefnlommaaRows
import Derived.WalkKit
import Derived.WalkSpells
import Derived.Lib.Hide
import Derived.SizedLaws
import Derived.Deep.QuietTactic
import Derived.BigQuiet
import Derived.Laws.AppendOwnNone

/- Memory: slices that a call has made (Own) and slices that are only read (At). Plain lemmas over the library's 'ownsRow', 'grownBy' and 'Below'. -/
namespace Go.Proofs.Ytkofafefnlommaa
open Go.RowKit

theorem ret_int {k : IntKind} {a b : Int} (h : a = b) : Ending.returned (.int k a) = .returned (.int k b) := by rw [h]
theorem ret_bool {a b : Bool} (h : a = b) : Ending.returned (.bool a) = .returned (.bool b) := by rw [h]

/-- v is a slice of n elements (of type e, 'size' cells each) at the head of a block of the call's own, numbered from lo on and below hi; its cells are xs. -/
def Own (e : TypeId) (size lo hi : Nat) (w : World) (v : Value) (n : Nat) (xs : List Value) : Prop :=
  ∃ g cap, v = .slice (some ⟨g, 0, none⟩) n cap ∧ lo ≤ g ∧ g < hi ∧ w.ownsRow lo e size v n xs

/-- v is a slice of n elements that reads as the cells xs. -/
def At (size : Nat) (w : World) (v : Value) (n : Nat) (xs : List Value) : Prop :=
  ∃ b off cap, v = .slice (some ⟨b, off, none⟩) n cap ∧ n ≤ cap ∧ cap ≤ maxLen ∧ xs.length = n * size ∧ ∀ j u, xs[j]? = some u → w.cell? ⟨b, off + j, none⟩ = some u

theorem Own.at {e size lo hi w v n xs} (h : Own e size lo hi w v n xs) : At size w v n xs := by
  obtain ⟨g, cap, rfl, h1, h2, h3⟩ := h
  have h3' := h3
  rcases h3.2 with ⟨h', _⟩ | ⟨g', cap', cur, h', _, hg, hn, hm, _, _⟩
  · simp at h'
  · simp only [Value.slice.injEq, Option.some.injEq, Addr.mk.injEq, and_true, true_and] at h'
    obtain ⟨rfl, rfl⟩ := h'
    refine ⟨g, 0, cap, rfl, hn, hm, h3.1, fun j u hu => ?_⟩
    have hj : j < n * size := by rw [← h3.1]; exact (List.getElem?_eq_some_iff.1 hu).1
    have := h3'.cellAt j hj
    rw [hu] at this
    simpa using this

theorem lt_of_cell {w : World} {a : Addr} {u : Value} (h : w.cell? a = some u) : a.block < w.heap.size := by
  by_cases hlt : a.block < w.heap.size
  · exact hlt
  · exfalso
    have hn : w.heap[a.block]? = none := Array.getElem?_eq_none (by omega)
    simp [World.cell?, hn] at h

theorem At.below {size w w' v n xs} (h : At size w v n xs) (hb : Below w.heap.size w w') : At size w' v n xs := by
  obtain ⟨b, off, cap, rfl, h1, h2, h3, h4⟩ := h
  refine ⟨b, off, cap, rfl, h1, h2, h3, fun j u hu => ?_⟩
  have hc := h4 j u hu
  rw [hb.cell (p := ⟨b, off + j, none⟩) (lt_of_cell hc)]
  exact hc

theorem At.grown {size w w' v n xs} {row : Option Nat} (h : At size w v n xs) (hg : w.grownBy w' row) (hr : v.ownBlock ≠ row) : At size w' v n xs := by
  obtain ⟨b, off, cap, rfl, h1, h2, h3, h4⟩ := h
  refine ⟨b, off, cap, rfl, h1, h2, h3, fun j u hu => ?_⟩
  have hc := h4 j u hu
  rw [World.cell?_of_block (w := w) (hg.block b (lt_of_cell hc) (fun e => hr (by simpa [Value.ownBlock] using e)))]
  exact hc

theorem Own.below {e size lo hi B w w' v n xs} (h : Own e size lo hi w v n xs) (hb : Below B w w') (hB : hi ≤ B) : Own e size lo hi w' v n xs := by
  obtain ⟨g, cap, rfl, h1, h2, h3, h4⟩ := h
  refine ⟨g, cap, rfl, h1, h2, h3, ?_⟩
  rcases h4 with ⟨h', _⟩ | ⟨g', cap', cur, h', hbg, hg, r⟩
  · simp at h'
  · simp only [Value.slice.injEq, Option.some.injEq, Addr.mk.injEq, and_true, true_and] at h'
    obtain ⟨rfl, rfl⟩ := h'
    exact Or.inr ⟨g, cap, cur, rfl, hbg, by rw [hb.block g (by omega)]; exact hg, r⟩

theorem Own.grown {e size lo hi w w' v n xs} {row : Option Nat} (h : Own e size lo hi w v n xs) (hg : w.grownBy w' row) (hr : ∀ g, row = some g → g < lo ∨ hi ≤ g) : Own e size lo hi w' v n xs := by
  obtain ⟨g, cap, rfl, h1, h2, h3⟩ := h
  refine ⟨g, cap, rfl, h1, h2, h3.kept hg (Or.inr fun e => ?_)⟩
  have := hr g (by simpa [Value.ownBlock] using e.symm)
  omega

theorem Own.wide {e size lo hi hi' w v n xs} (h : Own e size lo hi w v n xs) (hh : hi ≤ hi') : Own e size lo hi' w v n xs := by
  obtain ⟨g, cap, rfl, h1, h2, h3⟩ := h
  exact ⟨g, cap, rfl, h1, by omega, h3⟩

theorem below_of_grown {w w' : World} (h : w.grownBy w' none) : Below w.heap.size w w' :=
  ⟨h.os, h.tape, h.output, h.size, fun k hk => h.block k hk (by simp)⟩
theorem grown_of_below {w w' : World} (h : Below w.heap.size w w') : w.grownBy w' none :=
  ⟨h.os, h.tape, h.output, h.size, fun k hk _ => h.block k hk⟩
theorem below_grown_own {e size lo hi w w' v n xs} {B : Nat} (h : Own e size lo hi w v n xs) (hg : w.grownBy w' v.ownBlock) (hB : B ≤ lo) (hs : B ≤ w.heap.size) : Below B w w' := by
  obtain ⟨g, cap, rfl, h1, h2, h3⟩ := h
  refine (Below.refl B w).grown hg hs (fun k hk => ?_)
  simp [Value.ownBlock] at hk
  omega
theorem below_drewN (w : World) (B n : Nat) : Below B w (w.drewN n) := ⟨rfl, rfl, rfl, Nat.le_refl _, fun _ _ => rfl⟩

def ints (k : IntKind) (zs : List Int) : List Value := zs.map (Value.int k)
theorem ints_len (k : IntKind) (zs : List Int) : (ints k zs).length = zs.length := by simp [ints]
theorem ints_get {k : IntKind} {zs : List Int} {j : Nat} (h : j < zs.length) : (ints k zs)[j]? = some (.int k (zs.getD j 0)) := by simp [ints, h]
theorem ints_append (k : IntKind) (a b : List Int) : ints k (a ++ b) = ints k a ++ ints k b := by simp [ints]
theorem ints_one (k : IntKind) (zs : List Int) : ∀ u ∈ ints k zs, u.oneCell' = true := by
  intro u hu
  simp [ints] at hu
  obtain ⟨x, _, rfl⟩ := hu
  rfl
theorem At.cell {k : IntKind} {w : World} {b off n : Nat} {zs : List Int} (h : ∀ j u, (ints k zs)[j]? = some u → w.cell? ⟨b, off + j, none⟩ = some u) (hn : zs.length = n) {i : Nat} (hi : i < n) : w.cell? ⟨b, off + i, none⟩ = some (.int k (zs.getD i 0)) :=
  h i _ (ints_get (by omega))

/-- What a slice argument of integers is: it reads as zs. -/
def Arg (k : IntKind) (w : World) (a : Option Addr) (len : Nat) (zs : List Int) : Prop :=
  zs.length = len ∧ (len = 0 ∨ ∃ b off, a = some ⟨b, off, none⟩ ∧ ∀ i, i < len → w.cell? ⟨b, off + i, none⟩ = some (.int k (zs.getD i 0)))

/-- The cells of a copy of zs after i rounds. -/
def half (k : IntKind) (zs : List Int) (i : Nat) : List Value := ints k (zs.take i) ++ List.replicate (zs.length - i) (.int k 0)
theorem half_zero (k : IntKind) (zs : List Int) : half k zs 0 = List.replicate zs.length (.int k 0) := by simp [half, ints]
theorem half_all (k : IntKind) (zs : List Int) : half k zs zs.length = ints k zs := by simp [half]
theorem half_set {k : IntKind} {zs : List Int} {i : Nat} (h : i < zs.length) : (half k zs i).set i (.int k (zs.getD i 0)) = half k zs (i + 1) := by
  have hl : (ints k (zs.take i)).length = i := by simp [ints]; omega
  unfold half
  rw [List.set_append_right _ _ (by omega), hl, Nat.sub_self, show zs.length - i = (zs.length - (i + 1)) + 1 by omega, List.replicate_succ, List.set_cons_zero,
    List.take_succ_eq_append_getElem h, ints_append]
  simp [ints, h]

theorem half_get {k : IntKind} {zs : List Int} {i : Nat} (h : i < zs.length) : (half k zs i)[i]? = some (.int k 0) := by
  have hl : (ints k (zs.take i)).length = i := by simp [ints]; omega
  unfold half
  rw [List.getElem?_append_right (by omega), hl, Nat.sub_self, List.getElem?_replicate, if_pos (by omega)]

/-- The marks that a law writes: s, s + 1, .., as the kind holds them. -/
def marks (k : IntKind) (s : Int) (n : Nat) : List Int := (List.range n).map fun (i : Nat) => k.wrap (s + (i : Int))
theorem marks_len (k : IntKind) (s : Int) (n : Nat) : (marks k s n).length = n := by simp [marks]
theorem marks_get {k : IntKind} {s : Int} {n i : Nat} (h : i < n) : (marks k s n).getD i 0 = k.wrap (s + i) := by simp [marks, h]
/-- The cells after i marks. -/
def marked (k : IntKind) (s : Int) (xs : List Value) (i : Nat) : List Value := ints k (marks k s i) ++ xs.drop i
theorem marked_zero (k : IntKind) (s : Int) (xs : List Value) : marked k s xs 0 = xs := by simp [marked, marks, ints]
theorem marked_all (k : IntKind) (s : Int) (xs : List Value) : marked k s xs xs.length = ints k (marks k s xs.length) := by simp [marked]
theorem marked_get {k : IntKind} {s : Int} {xs : List Value} {i : Nat} (h : i < xs.length) : (marked k s xs i)[i]? = some xs[i] := by
  have hl : (ints k (marks k s i)).length = i := by simp [ints, marks]
  unfold marked
  rw [List.getElem?_append_right (by omega), hl, Nat.sub_self]
  simp [h]
theorem marked_set {k : IntKind} {s : Int} {xs : List Value} {i : Nat} (h : i < xs.length) : (marked k s xs i).set i (.int k (k.wrap (s + i))) = marked k s xs (i + 1) := by
  have hl : (ints k (marks k s i)).length = i := by simp [ints, marks]
  unfold marked
  rw [List.set_append_right _ _ (by omega), hl, Nat.sub_self, List.drop_eq_getElem_cons h, List.set_cons_zero]
  simp [marks, ints, List.range_succ]

/-- As At, or nil. -/
def AtN (size : Nat) (w : World) (v : Value) (n : Nat) (xs : List Value) : Prop := (v = .slice none 0 0 ∧ n = 0 ∧ xs = []) ∨ At size w v n xs
theorem AtN.below {size w w' v n xs} (h : AtN size w v n xs) (hb : Below w.heap.size w w') : AtN size w' v n xs := h.imp id (fun h => h.below hb)

theorem Own.lo {e size lo hi w v n xs} (h : Own e size lo hi w v n xs) : lo ≤ w.heap.size := by
  obtain ⟨g, cap, rfl, h1, h2, h3⟩ := h
  have := (h3.lt g rfl).2
  omega
theorem Own.row {e size lo hi w v n xs} (h : Own e size lo hi w v n xs) : w.ownsRow lo e size v n xs := by
  obtain ⟨g, cap, rfl, h1, h2, h3⟩ := h
  exact h3
theorem Own.len {e size lo hi w v n xs} (h : Own e size lo hi w v n xs) : xs.length = n * size := h.row.1
/-- Behind an append to what is owned. -/
theorem Own.append {e size lo hi w w' v v' n m xs ys} (h : Own e size lo hi w v n xs) (h' : w'.ownsRow lo e size v' m ys) {p : Prop} (hn : v' = .slice none 0 0 ↔ v = .slice none 0 0 ∧ p) : Own e size lo w'.heap.size w' v' m ys := by
  obtain ⟨g, cap, rfl, h1, h2, h3⟩ := h
  have hne : v' ≠ .slice none 0 0 := fun e => by simpa using (hn.1 e).1
  rcases h'.2 with ⟨e, _⟩ | ⟨g', cap', cur, rfl, hb, hr⟩
  · exact absurd e hne
  · exact ⟨g', cap', rfl, hb, (h'.lt g' rfl).2, h'⟩
theorem Own.appended {e size lo hi w w' v v' n m xs ys} (_h : Own e size lo hi w v n xs) (h' : w'.ownsRow lo e size v' m ys) (hne : ¬ v' = .slice none 0 0) : Own e size lo w'.heap.size w' v' m ys := by
  rcases h'.2 with ⟨e, _⟩ | ⟨g', cap', cur, rfl, hb, hr⟩
  · exact absurd e hne
  · exact ⟨g', cap', rfl, hb, (h'.lt g' rfl).2, h'⟩
theorem one_int (k : IntKind) (x : Int) : ∀ u ∈ [Value.int k x], u.oneCell' = true := by
  intro u hu; simp at hu; subst hu; rfl
theorem addr_add (b off j : Nat) : (⟨b, off, none⟩ : Addr).add j = ⟨b, off + j, none⟩ := by simp [Addr.add]
/-- The cells of a slice that was read, as an append law asks for them, in a later world. -/
theorem cells_later {w w1 : World} {b off : Nat} {xs : List Value} (hb : Below w.heap.size w w1) (hc : ∀ j u, xs[j]? = some u → w.cell? ⟨b, off + j, none⟩ = some u) : ∀ j u, xs[j]? = some u → w1.cell? ((⟨b, off, none⟩ : Addr).add j) = some u := fun j u hu => by
  rw [addr_add]
  exact (hb.cell (p := ⟨b, off + j, none⟩) (lt_of_cell (hc j u hu))).trans (hc j u hu)
theorem Own.block {e size lo hi w v n xs} (h : Own e size lo hi w v n xs) : ∀ k, v.ownBlock = some k → lo ≤ k := by
  obtain ⟨g, cap, rfl, h1, h2, h3⟩ := h
  intro k hk
  simp [Value.ownBlock] at hk
  omega
theorem Own.notNil {e size lo hi w v n xs} (h : Own e size lo hi w v n xs) : v ≠ .slice none 0 0 := by
  obtain ⟨g, cap, rfl, h1, h2, h3⟩ := h
  simp
theorem cell_new (w : World) (u : Value) (t : TypeId) : ∀ j x, [u][j]? = some x → (w.alloc (.cells #[u] t)).cell? ((⟨w.heap.size, 0, none⟩ : Addr).add j) = some x := by
  intro j x hj
  match j, hj with
  | 0, hj => simp at hj; subst hj; simp [Addr.add]

/-! ### What an append to an owned slice leaves -/

/-- From w (where v was owned) to w' (where v' is): old blocks other than v's own are as they were; v' lies in v's block or in a new one. -/
structure Ext (w w' : World) (v v' : Value) : Prop where
  grown : w.grownBy w' v.ownBlock
  blk : v'.ownBlock = v.ownBlock ∨ ∃ g, v'.ownBlock = some g ∧ w.heap.size ≤ g

theorem grownBy_refl (w : World) (row : Option Nat) : w.grownBy w row := ⟨rfl, rfl, rfl, Nat.le_refl _, fun _ _ _ => rfl⟩
theorem Ext.refl (w : World) (v : Value) : Ext w w v v := ⟨grownBy_refl _ _, .inl rfl⟩
theorem Ext.trans {w w1 w2 : World} {v v1 v2 : Value} (h : Ext w w1 v v1) (k : Ext w1 w2 v1 v2) : Ext w w2 v v2 := by
  have hs := h.grown.size
  refine ⟨⟨k.grown.os.trans h.grown.os, k.grown.tape.trans h.grown.tape, k.grown.output.trans h.grown.output, Nat.le_trans hs k.grown.size, fun i hi hne => ?_⟩, ?_⟩
  · refine (k.grown.block i (by omega) (fun e => ?_)).trans (h.grown.block i hi hne)
    rcases h.blk with hb | ⟨g, hb, hg⟩
    · exact hne (e.trans hb)
    · rw [hb] at e; simp at e; omega
  · rcases k.blk with hk | ⟨g, hk, hg⟩
    · rcases h.blk with hb | ⟨g, hb, hg⟩
      · exact .inl (hk.trans hb)
      · exact .inr ⟨g, hk.trans hb, hg⟩
    · exact .inr ⟨g, hk, by omega⟩
theorem Ext.of_below {w w1 : World} (v : Value) (h : Below w.heap.size w w1) : Ext w w1 v v :=
  ⟨⟨h.os, h.tape, h.output, h.size, fun k hk _ => h.block k hk⟩, .inl rfl⟩
theorem below_alloc (w : World) (o : Obj) : Below w.heap.size w (w.alloc o) := (Below.refl _ _).alloc (Nat.le_refl _) _
theorem Ext.alloc {w : World} (v : Value) (o : Obj) : Ext w (w.alloc o) v v := .of_below v (below_alloc w o)
/-- What an Ext does to old memory below the block of v. -/
theorem Ext.below {e size lo hi w w' v v' n xs} (h : Ext w w' v v') (ho : Own e size lo hi w v n xs) : Below lo w w' :=
  (Below.refl lo w).grown h.grown ho.lo ho.block
theorem At.ext {size w w' v v' u n xs} (h : At size w u n xs) (k : Ext w w' v v') (hne : u.ownBlock ≠ v.ownBlock) : At size w' u n xs := h.grown k.grown hne

/-- A slice type's facts: its element's zero value, cells and bytes. -/
structure ElemT (P : Program) (t e : TypeId) (z : Value) (size bytes : Nat) : Prop where
  ht : P.underlying t = some (.slice e)
  info : ∃ i, P.info? e = some i ∧ i.zero = some z ∧ i.size = size ∧ i.bytes = bytes
  hzs : z.cells.size = size
  hsz : 0 < size

theorem append_block {P : Program} (w : World) (t ty e : TypeId) (z : Value) (size bytes : Nat) (T : ElemT P t e z size bytes) (lo hi : Nat) (v : Value) (n : Nat) (xs : List Value) (hown : Own e size lo hi w v n xs)
    (a : Addr) (m c : Nat) (news : List Value) (hl : news.length = m * size) (hnews : ∀ j u, news[j]? = some u → w.cell? (a.add j) = some u) (h1 : ∀ u ∈ news, u.oneCell' = true)
    (h63 : n + m ≤ maxLen) (hbytes : (n + m) * bytes ≤ 140737488355328) :
    ∃ v' w', (Builtin.append_ #[t, t] ty #[v, .slice (some a) m c]).run P w = .ok v' w' ∧ Own e size lo w'.heap.size w' v' (n + m) (xs ++ news) ∧ Ext w w' v v' := by
  obtain ⟨i, hi', hz, hs, hb⟩ := T.info
  obtain ⟨v', w', hr, h2, h3, h4⟩ := run_append_own (P := P) w lo t ty e i z size bytes T.ht hi' hz hs hb T.hzs T.hsz v n xs hown.row a m c news hl hnews h1 h63 hbytes hown.lo
  refine ⟨v', w', hr, hown.append h2 h4, h3, ?_⟩
  subst hs hb
  obtain ⟨g, cap, rfl, hg1, hg2, hrow⟩ := hown
  by_cases hroom : n + m ≤ cap
  · obtain ⟨w2, hr2, _, _⟩ := run_append_fits (P := P) (w := w) lo t ty e i i.size T.ht hi' rfl g n cap xs hrow a m c news hl hnews h1 hroom
    rw [hr] at hr2
    injection hr2 with e1 e2
    rw [e1]
    exact .inl rfl
  · have hsmall : n + m ≤ 9223372036854775807 := by simp only [maxLen] at h63; omega
    have hr2 := run_append_grow (P := P) w t ty e i z T.ht hi' hz ⟨g, 0, none⟩ n cap xs hrow.1 (hrow.cells (g := g) rfl) a m c news hl hnews (by omega) (by omega) (growslice_fits (by omega) hbytes)
    rw [hr] at hr2
    injection hr2 with e1 e2
    rw [e1]
    exact .inr ⟨w.heap.size, rfl, Nat.le_refl _⟩

/-- append(s, x...), s owned, x read at ⟨b, off⟩. -/
theorem append_law {P : Program} {t e : TypeId} {z : Value} {size bytes : Nat} (T : ElemT P t e z size bytes) {w : World} {ops : Array Oper} {rest : List Oper} {o : Oper} {a : Act} {Q : Exit → Act → World → Prop} (hgd : o.guard = none) (s x : Operand)
    (ho : o.op = .call { callee := .builtin .append, args := #[s, x], argTypes := #[t, t] })
    (lo hi : Nat) (v : Value) (n : Nat) (xs : List Value) (hs : a.eval s = v) (hown : Own e size lo hi w v n xs)
    (b off m c : Nat) (news : List Value) (hx : a.eval x = .slice (some ⟨b, off, none⟩) m c) (hl : news.length = m * size) (hnews : ∀ j u, news[j]? = some u → w.cell? ⟨b, off + j, none⟩ = some u) (h1 : ∀ u ∈ news, u.oneCell' = true)
    (h63 : n + m ≤ maxLen) (hbytes : (n + m) * bytes ≤ 140737488355328)
    (h : ∀ v' w', Own e size lo w'.heap.size w' v' (n + m) (xs ++ news) → Ext w w' v v' → wpList P ops Q rest (a.put o.dst v') w') : wpList P ops Q (o :: rest) a w := by
  refine wpList_plain hgd fun K hK => ?_
  obtain ⟨v', w', hr, h2, h3⟩ := append_block w t o.type e z size bytes T lo hi v n xs hown ⟨b, off, none⟩ m c news hl (fun j u hu => by rw [addr_add]; exact hnews j u hu) h1 h63 hbytes
  unfold Oper.wp execOp
  simp only [ho, resolve, invoke, builtin, Sem.run_bind, Sem.run_pure, Result.andThen_ok, List.map_toArray, List.map_cons, List.map_nil, hs, hx, hr]
  exact hK _ _ (h v' w' h2 h3)

theorem Own.alloc {e size lo hi w v n xs} (h : Own e size lo hi w v n xs) (o : Obj) : Own e size lo hi (w.alloc o) v n xs := by
  obtain ⟨g, cap, rfl, h1, h2, h3⟩ := h
  exact ⟨g, cap, rfl, h1, h2, h3.alloc o⟩
theorem Own.drew {e size lo hi w v n xs} (h : Own e size lo hi w v n xs) : Own e size lo hi w.drew v n xs := by
  obtain ⟨g, cap, rfl, h1, h2, h3⟩ := h
  exact ⟨g, cap, rfl, h1, h2, h3.1, h3.2⟩
/-- append(s, x): x, one cell, has just been laid in a block of its own. -/
theorem append1_law {P : Program} {t e : TypeId} {z : Value} {bytes : Nat} (T : ElemT P t e z 1 bytes) {w : World} {ops : Array Oper} {rest : List Oper} {o : Oper} {a : Act} {Q : Exit → Act → World → Prop} (hgd : o.guard = none) (s x : Operand)
    (ho : o.op = .call { callee := .builtin .append, args := #[s, x], argTypes := #[t, t] })
    (lo hi : Nat) (v : Value) (n : Nat) (xs : List Value) (u : Value) (hu : u.oneCell' = true) (hs : a.eval s = v) (hown : Own e 1 lo hi w v n xs)
    (hx : a.eval x = .slice (some ⟨w.heap.size, 0, none⟩) 1 1)
    (h63 : n + 1 ≤ maxLen) (hbytes : (n + 1) * bytes ≤ 140737488355328)
    (h : ∀ v' w', Own e 1 lo w'.heap.size w' v' (n + 1) (xs ++ [u]) → Ext w w' v v' → wpList P ops Q rest (a.put o.dst v') w') : wpList P ops Q (o :: rest) a (w.alloc (.cells #[u] e)) := by
  refine append_law T hgd s x ho lo hi v n xs hs (hown.alloc _) w.heap.size 0 1 1 [u] hx rfl ?_ ?_ h63 hbytes (fun v' w' h1 h2 => h v' w' h1 ((Ext.alloc v _).trans h2))
  · intro j y hj
    have := cell_new w u e j y hj
    rw [addr_add] at this
    exact this
  · intro y hy; simp at hy; subst hy; exact hu
/-- append(s, nil...). -/
theorem append_nil_law {P : Program} {t e : TypeId} {z : Value} {size bytes : Nat} (T : ElemT P t e z size bytes) {w : World} {ops : Array Oper} {rest : List Oper} {o : Oper} {a : Act} {Q : Exit → Act → World → Prop} (hgd : o.guard = none) (s x : Operand)
    (ho : o.op = .call { callee := .builtin .append, args := #[s, x], argTypes := #[t, t] })
    (lo hi : Nat) (v : Value) (n : Nat) (xs : List Value) (hs : a.eval s = v) (hown : Own e size lo hi w v n xs) (hx : a.eval x = .slice none 0 0)
    (h : wpList P ops Q rest (a.put o.dst v) w) : wpList P ops Q (o :: rest) a w := by
  obtain ⟨i, hi', _⟩ := T.info
  exact wpList_append_own_none hgd s x t ho lo e i size T.ht hi' v n xs hs hown.row hx h
/-- make([]T, 0, n). -/
theorem make0_law {P : Program} {t e : TypeId} {z : Value} {size bytes : Nat} (T : ElemT P t e z size bytes) {w : World} {ops : Array Oper} {rest : List Oper} {o : Oper} {a : Act} {Q : Exit → Act → World → Prop}
    (hg : o.guard = none) (l c : Operand) (hop : o.op = Op.makeSlice t l c) (kl kc : IntKind) (C : Int) (n : Nat) (hl : a.eval l = .int kl 0) (hc : a.eval c = .int kc C) (hC : C = (n : Int)) (b2 : bytes * n ≤ 281474976710656) (b3 : n ≤ maxLen)
    (hK : ∀ w', Own e size w.heap.size w'.heap.size w' (.slice (some ⟨w.heap.size, 0, none⟩) 0 n) 0 [] → Below w.heap.size w w' → wpList P ops Q rest (a.put o.dst (.slice (some ⟨w.heap.size, 0, none⟩) 0 n)) w') :
    wpList P ops Q (o :: rest) a w := by
  obtain ⟨i, hi', hz, hs, hb⟩ := T.info
  exact wpList_make_own w hg l c t hop w.heap.size e i z size T.ht hi' hz hs kl kc C n hl hc hC (by rw [hb]; exact b2) b3 (Nat.le_refl _) fun w' h1 h2 => hK w' ⟨_, _, rfl, Nat.le_refl _, (h1.lt _ rfl).2, h1⟩ (below_of_grown h2)
/-- A literal slice of cells, just laid. -/
theorem own_lit {e : TypeId} {size : Nat} (w : World) (cs : Array Value) (n : Nat) (hm : n ≤ maxLen) (hs : cs.size = n * size) :
    Own e size w.heap.size (w.alloc (.cells cs e)).heap.size (w.alloc (.cells cs e)) (.slice (some ⟨w.heap.size, 0, none⟩) n n) n cs.toList :=
  ⟨_, _, rfl, Nat.le_refl _, by simp, World.ownsRow_lit w cs n (Nat.le_refl _) hm hs⟩

theorem Try.elemBytes : ElemT Try.prog 22 5 (.int .u8 0) 1 1 := ⟨Try.underlying22, info_parts (by kernel_rfl), rfl, by decide⟩
theorem Try.elemInts : ElemT Try.prog 30 3 (.int .i64 0) 1 8 := ⟨Try.underlying30, info_parts (by kernel_rfl), rfl, by decide⟩

/-- What the row's reading says of a slice argument of integers. -/
theorem len_of_row {k : IntKind} {w : World} {a : Option Addr} {len cap : Nat} {zs : List Int}
    (h : (a = none ∧ len = 0 ∧ cap = 0 ∧ zs = []) ∨ ∃ x, a = some x ∧ len ≤ cap ∧ cap ≤ maxLen ∧ zs.length = cap ∧ (∀ i, i < zs.length → w.cell? (x.add i) = some (.int k (zs.getD i 0))) ∧ ∀ n ∈ zs, (Lit.int k n).wf = true) : len ≤ maxLen := by
  rcases h with ⟨rfl, rfl, rfl, rfl⟩ | ⟨x, rfl, h1, h2, h3, h4, h5⟩
  · exact Nat.zero_le _
  · exact Nat.le_trans h1 h2
theorem arg_of_row {k : IntKind} {w : World} {a : Option Addr} {len cap : Nat} {zs : List Int}
    (h : (a = none ∧ len = 0 ∧ cap = 0 ∧ zs = []) ∨ ∃ x, a = some x ∧ len ≤ cap ∧ cap ≤ maxLen ∧ zs.length = cap ∧ (∀ i, i < zs.length → w.cell? (x.add i) = some (.int k (zs.getD i 0))) ∧ ∀ n ∈ zs, (Lit.int k n).wf = true) :
    Arg k w a len (zs.take len) ∧ ∀ n ∈ zs.take len, (Lit.int k n).wf = true := by
  rcases h with ⟨rfl, rfl, rfl, rfl⟩ | ⟨x, rfl, h1, h2, h3, h4, h5⟩
  · exact ⟨⟨rfl, .inl rfl⟩, by simp⟩
  · refine ⟨⟨by simp; omega, ?_⟩, fun n hn => h5 n (List.mem_of_mem_take hn)⟩
    by_cases h0 : len = 0
    · exact .inl h0
    · obtain ⟨b, off, spot⟩ := x
      have hc := h4 0 (by omega)
      have hspot : spot = none := by simpa [Addr.add] using World.cell?_spot hc
      subst hspot
      refine .inr ⟨b, off, rfl, fun i hi => ?_⟩
      have := h4 i (by omega)
      rw [addr_add] at this
      rw [this]
      simp [hi]
theorem Arg.below {k w w' a len zs} (h : Arg k w a len zs) (hb : Below w.heap.size w w') : Arg k w' a len zs := by
  refine ⟨h.1, h.2.imp id ?_⟩
  rintro ⟨b, off, rfl, hc⟩
  exact ⟨b, off, rfl, fun i hi => (hb.cell (p := ⟨b, off + i, none⟩) (lt_of_cell (hc i hi))).trans (hc i hi)⟩
theorem Arg.lower {k w w' a len zs} {B : Nat} (h : Arg k w a len zs) (hB : w.heap.size ≤ B) (hb : Below B w w') : Arg k w' a len zs := h.below (hb.mono hB)
theorem below_then {B : Nat} {w w1 w2 : World} (h : Below B w w1) (k : Below w1.heap.size w1 w2) (hB : B ≤ w1.heap.size) : Below B w w2 := h.trans (k.mono hB)

/-- What is owned stays so while another owned slice is written. -/
theorem Own.apart {e e' size size' lo hi lo' hi' w w' v v' n n' xs xs'} (h : Own e size lo hi w v n xs) (k : Own e' size' lo' hi' w v' n' xs') (hd : hi ≤ lo' ∨ hi' ≤ lo) (hg : w.grownBy w' v'.ownBlock) : Own e size lo hi w' v n xs := by
  refine h.grown hg (fun g hr => ?_)
  obtain ⟨g', cap, rfl, h1, h2, h3⟩ := k
  simp [Value.ownBlock] at hr
  omega

theorem Own.lower {e size lo lo' hi w v n xs} (h : Own e size lo hi w v n xs) (hl : lo' ≤ lo) : Own e size lo' hi w v n xs := by
  obtain ⟨g, cap, rfl, h1, h2, h3, h4⟩ := h
  refine ⟨g, cap, rfl, by omega, h2, h3, ?_⟩
  rcases h4 with h' | ⟨g', cap', cur, h', hbg, r⟩
  · exact .inl h'
  · exact .inr ⟨g', cap', cur, h', by omega, r⟩
theorem At.lt {w : World} {v : Value} {n : Nat} {xs : List Value} (h : At 1 w v n xs) (h0 : 0 < n) : ∀ b, v.ownBlock = some b → b < w.heap.size := by
  obtain ⟨b, off, cap, rfl, h1, h2, h3, h4⟩ := h
  intro b' hb
  simp [Value.ownBlock] at hb
  subst hb
  exact lt_of_cell (h4 0 xs[0] (by rw [List.getElem?_eq_getElem]))
theorem ne_of_own {e size lo hi w0 w u v n m xs ys} (h : At 1 w0 u m ys) (hl : w0.heap.size ≤ lo) (k : Own e size lo hi w v n xs) : 0 < m → u.ownBlock ≠ v.ownBlock := by
  intro h0 e
  obtain ⟨g, cap, rfl, h1, h2, h3⟩ := k
  have := h.lt h0 g (by rw [e]; rfl)
  omega

/-- make([]T, n). -/
theorem make_law {P : Program} {t e : TypeId} {z : Value} {size bytes : Nat} (T : ElemT P t e z size bytes) {w : World} {ops : Array Oper} {rest : List Oper} {o : Oper} {a : Act} {Q : Exit → Act → World → Prop}
    (hg : o.guard = none) (l c : Operand) (hop : o.op = Op.makeSlice t l c) (kl kc : IntKind) (L C : Int) (n : Nat) (hl : a.eval l = .int kl L) (hc : a.eval c = .int kc C) (hL : L = (n : Int)) (hC : C = (n : Int)) (b2 : bytes * n ≤ 281474976710656) (b3 : n ≤ maxLen)
    (hK : ∀ w', Own e size w.heap.size w'.heap.size w' (.slice (some ⟨w.heap.size, 0, none⟩) n n) n (madeCells z.cells (n * size)).toList → Below w.heap.size w w' → wpList P ops Q rest (a.put o.dst (.slice (some ⟨w.heap.size, 0, none⟩) n n)) w') :
    wpList P ops Q (o :: rest) a w := by
  obtain ⟨i, hi', hz, hs, hb⟩ := T.info
  exact wpList_make_full w hg l c t hop w.heap.size e i z size T.ht hi' hz hs kl kc L C n hl hc hL hC (by rw [hb]; exact b2) b3 (Nat.le_refl _) fun w' h1 h2 => hK w' ⟨_, _, rfl, Nat.le_refl _, (h1.lt _ rfl).2, h1⟩ (below_of_grown h2)
theorem made_ints (k : IntKind) (n : Nat) : (madeCells (Value.int k 0).cells (n * 1)).toList = List.replicate n (.int k 0) := by
  rw [Nat.mul_one]; exact toList_madeCells_one _ _
/-- A slice made whole and filled from its head: j elements of n are in. -/
def filled (k : IntKind) (pre : List Int) (n : Nat) : List Value := ints k pre ++ List.replicate (n - pre.length) (.int k 0)
theorem filled_nil (k : IntKind) (n : Nat) : filled k [] n = List.replicate n (.int k 0) := by simp [filled, ints]
theorem filled_get {k : IntKind} {pre : List Int} {n : Nat} (h : pre.length < n) : (filled k pre n)[pre.length]? = some (.int k 0) := by
  unfold filled
  rw [List.getElem?_append_right (by simp [ints]), List.getElem?_replicate, if_pos (by simp [ints]; omega)]
theorem filled_set {k : IntKind} {pre : List Int} {n : Nat} (x : Int) (h : pre.length < n) : (filled k pre n).set pre.length (.int k x) = filled k (pre ++ [x]) n := by
  unfold filled
  rw [List.set_append_right _ _ (by simp [ints]), ints_len, Nat.sub_self, show n - pre.length = (n - (pre ++ [x]).length) + 1 by simp; omega, List.replicate_succ, List.set_cons_zero, ints_append]
  simp [ints]
theorem filled_all {k : IntKind} {pre : List Int} {n : Nat} (h : pre.length = n) : filled k pre n = ints k pre := by simp [filled, h]

end Go.Proofs.Ytkofafefnlommaa

/- The contracts of the laws' own helpers over []uint8: toByteS, eqByteS, markByteS, heldByteS. -/
namespace Go.Proofs.Ytkofafefnlommaa
open Go.RowKit

theorem Try.info5 : (Try.prog.info? 5).map (fun i => (i.zero, i.size, i.bytes)) = some (some (.int .u8 0), 1, 1) := by kernel_rfl

end Go.Proofs.Ytkofafefnlommaa

/- The contracts of the laws' own helpers over []int: toIntS, eqIntS, markIntS, heldIntS. -/
namespace Go.Proofs.Ytkofafefnlommaa
open Go.RowKit

theorem Try.info3 : (Try.prog.info? 3).map (fun i => (i.zero, i.size, i.bytes)) = some (some (.int .i64 0), 1, 8) := by kernel_rfl

set_option maxHeartbeats 400000 in
theorem toIntS (a : Option Addr) (len cap : Nat) (zs : List Int) (w : World) (hle : len ≤ 1073741824) (h : Arg .i64 w a len zs) :
    Calls Try.prog 23 #[.slice a len cap] w fun e w' => ∃ v, e = .returned v ∧ Own 3 1 w.heap.size w'.heap.size w' v len (ints .i64 zs) ∧ Below w.heap.size w w' := by
  obtain ⟨hl, h⟩ := h
  obtain ⟨i0, hi, hz0, hz1, hz2⟩ := info_parts Try.info3
  rcases h with h0 | ⟨b, off, rfl, hc⟩
  · subst h0
    obtain rfl : zs = [] := List.length_eq_zero_iff.1 hl
    go_enter Try.func23, Try.ntmps23
    go_wp2_with (at_make; refine wpList_make_full _ rfl _ _ 30 rfl w.heap.size 3 i0 (.int .i64 0) 1 Try.underlying30 hi hz0 hz1 .i64 .i64 _ _ 0 rfl rfl rfl rfl (by rw [hz2]; omega) (by unfold maxLen; omega) (Nat.le_refl _) ?_)
    intro w1 hown hg
    have hsz : w.heap.size < w1.heap.size := (hown.lt w.heap.size rfl).2
    go_wp2
    refine wp_loop_rounds 1 ?_
    rw [rounds_succ]
    go_wp2
    go_ret
    exact ⟨_, rfl, ⟨_, _, rfl, Nat.le_refl _, hsz, by simpa [madeCells, ints] using hown⟩, below_of_grown hg⟩
  · have HL := Lib.hid hl
    go_enter Try.func23, Try.ntmps23
    go_wp2_with (at_make; refine wpList_make_full _ rfl _ _ 30 rfl w.heap.size 3 i0 (.int .i64 0) 1 Try.underlying30 hi hz0 hz1 .i64 .i64 _ _ len rfl rfl rfl rfl (by rw [hz2]; omega) (by unfold maxLen; omega) (Nat.le_refl _) ?_)
    intro w1 hown hg
    have hsz : w.heap.size < w1.heap.size := (hown.lt w.heap.size rfl).2
    have hb := below_of_grown hg
    have hown0 : w1.ownsRow w.heap.size 3 1 (.slice (some ⟨w.heap.size, 0, none⟩) len len) len (half .i64 zs 0) := by
      rw [half_zero, HL.out]
      simpa [Value.cells, toList_madeCells_one] using hown
    clear hown hg hl
    go_wp2
    go_loopw [4] (fun i wr => ∃ k : Nat, k ≤ len ∧ i = .int .i64 k ∧ wr.ownsRow w.heap.size 3 1 (.slice (some ⟨w.heap.size, 0, none⟩) len len) len (half .i64 zs k) ∧ Below w.heap.size w wr) (fun i _ => len - (intOf i).toNat)
    case atStart => exact ⟨0, Nat.zero_le _, rfl, hown0, hb⟩
    case round =>
      obtain ⟨k, hk, rfl, hownr, hbr⟩ := hrel
      by_cases hlt : k < len
      · have hbl : b < w.heap.size := lt_of_cell (hc k hlt)
        have hcx : wr.cell? ⟨b, off + k, none⟩ = some (.int .i64 (zs.getD k 0)) := (hbr.cell (by exact hbl)).trans (hc k hlt)
        have hcw : wr.cell? ⟨w.heap.size, k, none⟩ = some (.int .i64 0) := (hownr.cellAt k (by omega)).trans (half_get (by have := HL.out; omega))
        have hfr := hownr.frozenAt k
        have hst := hownr.stored k (.int .i64 (zs.getD k 0))
        rw [half_set (by have := HL.out; omega)] at hst
        have R := Lib.hid hst
        clear hst
        go_wp2
        go_roundw
        case rel => exact ⟨k + 1, by omega, by go_num, R.out.1, hbr.setCell (Nat.le_refl _) _⟩
        case measure => simp [intOf]; omega
      · obtain rfl : k = len := by omega
        have hsz2 := hbr.size
        go_wp2
        go_ret
        have e : half .i64 zs k = ints .i64 zs := by rw [← HL.out]; exact half_all _ _
        rw [e] at hownr
        exact ⟨_, rfl, ⟨_, _, rfl, Nat.le_refl _, (hownr.lt _ rfl).2, hownr⟩, hbr⟩

set_option maxHeartbeats 400000 in
theorem eqIntS (a b : Value) (n : Nat) (zs : List Int) (w : World) (hz : zs.length = n) (ha : At 1 w a n (ints .i64 zs)) (hb : At 1 w b n (ints .i64 zs)) :
    Calls Try.prog 26 #[a, b] w fun e w' => e = .returned (.bool true) ∧ Below w.heap.size w w' := by
  obtain ⟨b1, o1, c1, rfl, hn1, hm1, hl1, hc1⟩ := ha
  obtain ⟨b2, o2, c2, rfl, hn2, hm2, hl2, hc2⟩ := hb
  have HZ := Lib.hid hz
  clear hz hl1 hl2
  unfold maxLen at hm1
  have hne : ((n : Int) != (n : Int)) = false := by simp
  go_enter Try.func26, Try.ntmps26
  go_wp2
  go_loopw [5] (fun i wr => ∃ k : Nat, k ≤ n ∧ i = .int .i64 k ∧ ∃ d, wr = w.drewN d) (fun i _ => n - (intOf i).toNat)
  case atStart => exact ⟨0, Nat.zero_le _, rfl, 0, rfl⟩
  case round =>
    obtain ⟨k, hk, rfl, d, rfl⟩ := hrel
    by_cases hlt : k < n
    · have h1 : w.cell? ⟨b1, o1 + k, none⟩ = some (.int .i64 (zs.getD k 0)) := At.cell hc1 HZ.out hlt
      have h2 : w.cell? ⟨b2, o2 + k, none⟩ = some (.int .i64 (zs.getD k 0)) := At.cell hc2 HZ.out hlt
      clear hc1 hc2
      generalize zs.getD k 0 = z at h1 h2
      have hzz : (z != z) = false := by simp
      go_wp2
      go_quiet (fail)
      go_wp2
      go_roundw
      case rel => exact ⟨k + 1, by omega, by go_num, _, rfl⟩
      case measure => simp [intOf]; omega
    · go_wp2
      go_ret
      exact ⟨rfl, below_drewN _ _ _⟩

set_option maxHeartbeats 400000 in
theorem markIntS (v : Value) (n lo hi : Nat) (xs : List Value) (s : Int) (w : World) (h0 : 0 ≤ s) (hs : s ≤ 1073741824) (hn : n ≤ 1073741824) (h : Own 3 1 lo hi w v n xs) :
    Calls Try.prog 32 #[v, .int .i64 s] w fun e w' => e = .returned (.int .i64 (s + n)) ∧ Own 3 1 lo hi w' v n (ints .i64 (marks .i64 s n)) ∧ w.grownBy w' v.ownBlock := by
  obtain ⟨g, cap, rfl, hlo, hhi, hown⟩ := h
  have HX : Hid (xs.length = n) := by have := hown.1; rw [Nat.mul_one] at this; exact this
  go_enter Try.func32, Try.ntmps32
  go_wp2
  go_loopw [1, 5] (fun q i wr => ∃ k : Nat, k ≤ n ∧ i = .int .i64 k ∧ q = .int .i64 (s + k) ∧ wr.ownsRow lo 3 1 (.slice (some ⟨g, 0, none⟩) n cap) n (marked .i64 s xs k) ∧ w.grownBy wr (some g)) (fun _ i _ => n - (intOf i).toNat)
  case atStart => exact ⟨0, Nat.zero_le _, rfl, by simp, by rw [marked_zero]; exact hown, ⟨rfl, rfl, rfl, Nat.le_refl _, fun _ _ _ => rfl⟩⟩
  case round =>
    obtain ⟨k, hk, rfl, rfl, hownr, hgr⟩ := hrel
    by_cases hlt : k < n
    · have hkx : k < xs.length := by have := HX.out; omega
      have hcw : wr.cell? ⟨g, k, none⟩ = some xs[k] := (hownr.cellAt k (by omega)).trans (marked_get hkx)
      have hfr := hownr.frozenAt k
      have hst := hownr.stored k (.int .i64 (IntKind.wrap .i64 (s + k)))
      rw [marked_set hkx] at hst
      try rw [IntWalk.i64_in (s + (k : Int)) (by omega)] at hst
      have R := Lib.hid hst
      clear hst
      generalize xs[k] = old at hcw
      go_wp2
      go_roundw
      case rel => exact ⟨k + 1, by omega, by go_num, by go_num, R.out.1, hgr.trans R.out.2⟩
      case measure => simp [intOf]; omega
    · obtain rfl : k = n := by omega
      have e : marked .i64 s xs k = ints .i64 (marks .i64 s k) := by rw [← HX.out]; exact marked_all _ _ _
      rw [e] at hownr
      go_wp2
      go_ret
      exact ⟨rfl, ⟨_, _, rfl, hlo, hhi, hownr⟩, hgr⟩

end Go.Proofs.Ytkofafefnlommaa

/- A block of cells that may be written, whatever its size. -/
namespace Go.Proofs.Ytkofafefnlommaa
open Go.RowKit

/-- Block b holds the cells cs, from its start on, and they may be written. -/
def Blk (W : World) (b : Nat) (cs : List Value) : Prop := ∀ i x, cs[i]? = some x → W.cell? ⟨b, i, none⟩ = some x ∧ W.frozen? ⟨b, i, none⟩ = false
theorem Blk.below {W W' : World} {b : Nat} {cs : List Value} (h : Blk W b cs) (hb : Below W.heap.size W W') : Blk W' b cs := fun i x hx =>
  ⟨(hb.cell (p := ⟨b, i, none⟩) (lt_of_cell (h i x hx).1)).trans (h i x hx).1, (hb.frozen (p := ⟨b, i, none⟩) (lt_of_cell (h i x hx).1)).trans (h i x hx).2⟩
theorem Blk.grown {W W' : World} {b : Nat} {row : Option Nat} {cs : List Value} (h : Blk W b cs) (hg : W.grownBy W' row) (hne : some b ≠ row) : Blk W' b cs := fun i x hx => by
  have hb := hg.block b (lt_of_cell (h i x hx).1) hne
  exact ⟨(World.cell?_of_block hb).trans (h i x hx).1, (World.frozen?_of_block hb).trans (h i x hx).2⟩
theorem Blk.draw {W W' : World} {b g : Nat} {cs : List Value} (h : Blk W b cs) (hg : W.grownBy W' (some g)) (hne : b ≠ g) : Blk W' b cs := h.grown hg (fun e => hne (by simpa using e))
theorem Blk.lt {W : World} {b : Nat} {x : Value} {cs : List Value} (h : Blk W b (x :: cs)) : b < W.heap.size := lt_of_cell (h 0 x rfl).1
theorem blk_new (w : World) (cs : List Value) (e : TypeId) : Blk (w.alloc (.cells cs.toArray e)) w.heap.size cs := fun i x hx => by
  constructor
  · rw [World.cell?_alloc_at _ _ _ _ rfl]
    simpa using hx
  · rw [World.frozen?_alloc_at _ _ _ _ rfl]
theorem Blk.other {W : World} {b : Nat} {cs : List Value} (h : Blk W b cs) {p : Addr} (hp : p.block ≠ b) (u : Value) : Blk (W.setCell p u) b cs := fun i x hx => by
  have hne : p ≠ ⟨b, i, none⟩ := fun e => hp (by rw [e])
  exact ⟨(World.cell?_setCell_other _ _ _ _ hne).trans (h i x hx).1, (World.frozen?_setCell _ _ _ _).trans (h i x hx).2⟩
theorem Blk.set {W : World} {b : Nat} {cs : List Value} (h : Blk W b cs) (k : Nat) (u : Value) : Blk (W.setCell ⟨b, k, none⟩ u) b (cs.set k u) := fun i x hx => by
  rw [List.getElem?_set] at hx
  by_cases hk : k = i
  · subst hk
    rw [if_pos rfl] at hx
    split at hx
    · rename_i hlt
      obtain rfl : u = x := by simpa using hx
      have h0 := h k _ (List.getElem?_eq_getElem hlt)
      exact ⟨World.cell?_setCell_same _ _ _ h0.1, (World.frozen?_setCell _ _ _ _).trans h0.2⟩
    · cases hx
  · rw [if_neg hk] at hx
    exact ⟨(World.cell?_setCell_other _ _ _ _ (fun e => hk (by injection e))).trans (h i x hx).1, (World.frozen?_setCell _ _ _ _).trans (h i x hx).2⟩

end Go.Proofs.Ytkofafefnlommaa
