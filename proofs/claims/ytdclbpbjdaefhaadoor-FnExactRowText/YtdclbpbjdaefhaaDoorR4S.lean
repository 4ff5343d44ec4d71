/- The laws' own helpers over slices of Rows: szRowS, toRowS, eqRowS. -/
import Derived.Test.YtdclbpbjdaefhaaDoorR4
namespace Go.Proofs.YtdclbpbjdaefhaaDoor
open Go.RowKit

/-- A Row and the slice value that holds its values. -/
abbrev P := R × Value
def P.cs (p : P) : List Value := [.int .i64 p.1.id, p.2]
def P.zero : P := (⟨0, []⟩, .slice none 0 0)
/-- The cells of a list of Rows. -/
def prs (ps : List P) : List Value := ps.flatMap P.cs
theorem prs_len (ps : List P) : (prs ps).length = ps.length * 2 := flat_len P.cs 2 (fun _ => rfl) ps
theorem prs_get {ps : List P} {k j : Nat} (hk : k < ps.length) (hj : j < 2) : (prs ps)[k * 2 + j]? = (P.cs ps[k])[j]? := flat_get P.cs 2 (fun _ => rfl) ps k j hk hj
/-- v is a slice of Rows. -/
def RdRs (w : World) (v : Value) (ps : List P) : Prop := Rd 2 w v ps.length (prs ps) ∧ ∀ p ∈ ps, p.1.rd w p.2
theorem RdRs.below {w w' : World} {v : Value} {ps : List P} (h : RdRs w v ps) (hb : Below w.heap.size w w') : RdRs w' v ps := ⟨h.1.below hb, fun p hp => (h.2 p hp).below hb⟩
theorem cells2 {w : World} {b off : Nat} {ps : List P} (hc : ∀ j u, (prs ps)[j]? = some u → w.cell? ⟨b, off + j, none⟩ = some u) {k : Nat} (hk : k < ps.length) :
    w.cell? ⟨b, off + k * 2, none⟩ = some (.int .i64 ps[k].1.id) ∧ w.cell? ⟨b, off + k * 2 + 1, none⟩ = some ps[k].2 :=
  ⟨hc (k * 2) _ (prs_get (j := 0) hk (by omega)), hc (k * 2 + 1) _ (prs_get (j := 1) hk (by omega))⟩
/-- For a walk: the k-th Row, in every later world. -/
theorem RdRs.walk {w : World} {v : Value} {ps : List P} (h : RdRs w v ps) {n : Nat} (hl : ps.length = n) :
    ∃ a cap, v = .slice a n cap ∧ n ≤ maxLen ∧ Hid (∀ k, k < n → ∀ W, Below w.heap.size w W → ∃ b off, a = some ⟨b, off, none⟩ ∧ W.cell? ⟨b, off + k * 2, none⟩ = some (.int .i64 (ps.getD k P.zero).1.id) ∧ W.cell? ⟨b, off + k * 2 + 1, none⟩ = some (ps.getD k P.zero).2 ∧ (ps.getD k P.zero).1.rd W (ps.getD k P.zero).2) := by
  obtain ⟨⟨a, cap, rfl, hn, _, hx⟩, hi⟩ := h
  subst hl
  refine ⟨a, cap, rfl, hn, fun k hk W hW => ?_⟩
  rcases hx with h0 | ⟨b, off, rfl, hc⟩
  · omega
  · have e : ps.getD k P.zero = ps[k] := by simp [hk]
    rw [e]
    have c2 := cells2 hc hk
    exact ⟨b, off, rfl, (hW.cell (p := ⟨b, off + k * 2, none⟩) (lt_of_cell c2.1)).trans c2.1, (hW.cell (p := ⟨b, off + k * 2 + 1, none⟩) (lt_of_cell c2.2)).trans c2.2, (hi _ (List.getElem_mem hk)).below hW⟩

/-- What the sizes of a list of Rows come to. -/
def bulkR (ps : List P) : Nat := (ps.map fun p => p.1.l.length + bulk p.1.l).sum
theorem bulkR_take_succ (ps : List P) (k : Nat) (h : k < ps.length) : bulkR (ps.take (k + 1)) = bulkR (ps.take k) + ((ps.getD k P.zero).1.l.length + bulk (ps.getD k P.zero).1.l) := by
  have e : ps.getD k P.zero = ps[k] := by simp [h]
  unfold bulkR
  rw [e, List.take_succ_eq_append_getElem h, List.map_append, List.sum_append]
  simp

theorem prs_set (l : List P) (k : Nat) (p : P) (hk : k < l.length) : prs (l.set k p) = ((prs l).set (k * 2) (.int .i64 p.1.id)).set (k * 2 + 1) p.2 := by
  have hl := prs_len l
  apply List.ext_getElem?
  intro i
  unfold prs at hl ⊢
  rw [flat_set P.cs 2 (fun _ => rfl) l k p hk i]
  simp only [List.getElem?_set, List.length_set]
  by_cases h1 : k * 2 + 1 = i
  · subst h1
    rw [if_pos (by omega), if_pos rfl, if_pos (by omega), show k * 2 + 1 - k * 2 = 1 by omega]
    rfl
  · by_cases h0 : k * 2 = i
    · subst h0
      rw [if_pos (by omega), if_neg (by omega), if_pos rfl, if_pos (by omega), Nat.sub_self]
      rfl
    · rw [if_neg (by omega), if_neg h1, if_neg h0]
/-- The cells of Row k of an owned slice, stored anew. -/
theorem stored2 {w : World} {lo : Nat} {e : TypeId} {g n cap : Nat} {l : List P} (h : w.ownsRow lo e 2 (.slice (some ⟨g, 0, none⟩) n cap) n (prs l)) (k : Nat) (p : P) (hk : k < l.length) :
    ((w.setCell ⟨g, k * 2, none⟩ (.int .i64 p.1.id)).setCell ⟨g, k * 2 + 1, none⟩ p.2).ownsRow lo e 2 (.slice (some ⟨g, 0, none⟩) n cap) n (prs (l.set k p)) ∧
      w.grownBy ((w.setCell ⟨g, k * 2, none⟩ (.int .i64 p.1.id)).setCell ⟨g, k * 2 + 1, none⟩ p.2) (some g) := by
  have s1 := h.stored (k * 2) (.int .i64 p.1.id)
  have s2 := s1.1.stored (k * 2 + 1) p.2
  rw [prs_set l k p hk]
  exact ⟨s2.1, s1.2.trans s2.2⟩
/-- v is a slice of Rows of the call's own, blocks lo to hi. -/
def OwnRs (lo hi : Nat) (w : World) (v : Value) (ps : List P) : Prop :=
  Own 29 2 lo hi w v ps.length (prs ps) ∧ (∀ p ∈ ps, Own 42 3 lo hi w p.2 p.1.l.length (vals p.1.l)) ∧ (ps.map fun p => p.2.ownBlock).Nodup
theorem OwnRs.rd {lo hi : Nat} {w : World} {v : Value} {ps : List P} (h : OwnRs lo hi w v ps) : RdRs w v ps := ⟨h.1.rd, fun p hp => (h.2.1 p hp).rd⟩
theorem OwnRs.below {lo hi B : Nat} {w w' : World} {v : Value} {ps : List P} (h : OwnRs lo hi w v ps) (hb : Below B w w') (hB : hi ≤ B) : OwnRs lo hi w' v ps := ⟨h.1.below hb hB, fun p hp => (h.2.1 p hp).below hb hB, h.2.2⟩
theorem fill_set {α : Type} (qs : List α) (x z : α) (n k : Nat) (hq : qs.length = k) (hk : k < n) : (qs ++ List.replicate (n - k) z).set k x = (qs ++ [x]) ++ List.replicate (n - (k + 1)) z := by
  rw [List.set_append_right _ _ (by omega), hq, Nat.sub_self, show n - k = (n - (k + 1)) + 1 by omega, List.replicate_succ, List.set_cons_zero, List.append_assoc]
  rfl

theorem getD_fst (ps : List P) (k : Nat) : (ps.getD k P.zero).1 = (ps.map (·.1)).getD k P.zero.1 := by
  by_cases h : k < ps.length
  · simp [h]
  · simp [h]

end Go.Proofs.YtdclbpbjdaefhaaDoor
