/- Runs: what they are, and the laws' own helpers over one Run and over slices of them. -/
import Derived.Test.YthniakklkepomaaVText
namespace Go.Proofs.Ythniakklkepomaa
open Go.RowKit

/-- A Run: a value, and how often. -/
structure U where
  v : V
  k : Int
abbrev U.agg (u : U) : Value := .agg #[.int .i64 u.v.ty, .int .i64 u.v.n, .string u.v.s, .int .i64 u.k]
def U.cs (u : U) : List Value := [.int .i64 u.v.ty, .int .i64 u.v.n, .string u.v.s, .int .i64 u.k]
def U.zero : U := ⟨V.zero, 0⟩
/-- The cells of a list of Runs. -/
def rus (l : List U) : List Value := l.flatMap U.cs
theorem rus_len (l : List U) : (rus l).length = l.length * 4 := flat_len U.cs 4 (fun _ => rfl) l
theorem rus_get {l : List U} {k j : Nat} (hk : k < l.length) (hj : j < 4) : (rus l)[k * 4 + j]? = l[k].cs[j]? := flat_get U.cs 4 (fun _ => rfl) l k j hk hj
theorem cells4 {w : World} {b off : Nat} {l : List U} (hc : ∀ j u, (rus l)[j]? = some u → w.cell? ⟨b, off + j, none⟩ = some u) {k : Nat} (hk : k < l.length) :
    w.cell? ⟨b, off + k * 4, none⟩ = some (.int .i64 l[k].v.ty) ∧ w.cell? ⟨b, off + k * 4 + 1, none⟩ = some (.int .i64 l[k].v.n) ∧ w.cell? ⟨b, off + k * 4 + 2, none⟩ = some (.string l[k].v.s) ∧ w.cell? ⟨b, off + k * 4 + 3, none⟩ = some (.int .i64 l[k].k) :=
  ⟨hc (k * 4) _ (rus_get (j := 0) hk (by omega)), hc (k * 4 + 1) _ (rus_get (j := 1) hk (by omega)), hc (k * 4 + 2) _ (rus_get (j := 2) hk (by omega)), hc (k * 4 + 3) _ (rus_get (j := 3) hk (by omega))⟩
/-- The slice of Runs, for a walk: its k-th element, in every later world. -/
theorem Rd.runs {w : World} {u : Value} {n : Nat} {l : List U} (h : Rd 4 w u n (rus l)) (hl : l.length = n) :
    ∃ a cap, u = .slice a n cap ∧ n ≤ maxLen ∧ Hid (∀ k, k < n → ∀ W, Below w.heap.size w W → ∃ b off, a = some ⟨b, off, none⟩ ∧ W.cell? ⟨b, off + k * 4, none⟩ = some (.int .i64 (l.getD k U.zero).v.ty) ∧ W.cell? ⟨b, off + k * 4 + 1, none⟩ = some (.int .i64 (l.getD k U.zero).v.n) ∧ W.cell? ⟨b, off + k * 4 + 2, none⟩ = some (.string (l.getD k U.zero).v.s) ∧ W.cell? ⟨b, off + k * 4 + 3, none⟩ = some (.int .i64 (l.getD k U.zero).k)) := by
  obtain ⟨a, cap, rfl, hn, _, hx⟩ := h
  refine ⟨a, cap, rfl, hn, fun k hk W hW => ?_⟩
  rcases hx with h0 | ⟨b, off, rfl, hc⟩
  · omega
  · have hk' : k < l.length := by omega
    have e : l.getD k U.zero = l[k] := by simp [hk']
    rw [e]
    have c := cells4 hc hk'
    exact ⟨b, off, rfl, (hW.cell (p := ⟨b, off + k * 4, none⟩) (lt_of_cell c.1)).trans c.1, (hW.cell (p := ⟨b, off + k * 4 + 1, none⟩) (lt_of_cell c.2.1)).trans c.2.1, (hW.cell (p := ⟨b, off + k * 4 + 2, none⟩) (lt_of_cell c.2.2.1)).trans c.2.2.1, (hW.cell (p := ⟨b, off + k * 4 + 3, none⟩) (lt_of_cell c.2.2.2)).trans c.2.2.2⟩

theorem Try.elemRuns : ElemT Try.prog 53 57 U.zero.agg 4 40 := ⟨Try.underlying53, info_parts (by kernel_rfl), rfl, by decide⟩
theorem rus_set (l : List U) (k : Nat) (x : U) (hk : k < l.length) : rus (l.set k x) = ((((rus l).set (k * 4) (.int .i64 x.v.ty)).set (k * 4 + 1) (.int .i64 x.v.n)).set (k * 4 + 2) (.string x.v.s)).set (k * 4 + 3) (.int .i64 x.k) := by
  have hl := rus_len l
  apply List.ext_getElem?
  intro i
  unfold rus at hl ⊢
  rw [flat_set U.cs 4 (fun _ => rfl) l k x hk i]
  simp only [List.getElem?_set, List.length_set]
  by_cases h3 : k * 4 + 3 = i
  · subst h3
    rw [if_pos (by omega), if_pos rfl, if_pos (by omega), show k * 4 + 3 - k * 4 = 3 by omega]
    rfl
  · by_cases h2 : k * 4 + 2 = i
    · subst h2
      rw [if_pos (by omega), if_neg (by omega), if_pos rfl, if_pos (by omega), show k * 4 + 2 - k * 4 = 2 by omega]
      rfl
    · by_cases h1 : k * 4 + 1 = i
      · subst h1
        rw [if_pos (by omega), if_neg (by omega), if_neg (by omega), if_pos rfl, if_pos (by omega), show k * 4 + 1 - k * 4 = 1 by omega]
        rfl
      · by_cases h0 : k * 4 = i
        · subst h0
          rw [if_pos (by omega), if_neg (by omega), if_neg (by omega), if_neg (by omega), if_pos rfl, if_pos (by omega), Nat.sub_self]
          rfl
        · rw [if_neg (by omega), if_neg h3, if_neg h2, if_neg h1, if_neg h0]
/-- The cells of Run k of an owned slice, stored anew. -/
theorem stored4 {w : World} {lo : Nat} {e : TypeId} {g n cap : Nat} {l : List U} (h : w.ownsRow lo e 4 (.slice (some ⟨g, 0, none⟩) n cap) n (rus l)) (k : Nat) (x : U) (hk : k < l.length) :
    ((((w.setCell ⟨g, k * 4, none⟩ (.int .i64 x.v.ty)).setCell ⟨g, k * 4 + 1, none⟩ (.int .i64 x.v.n)).setCell ⟨g, k * 4 + 2, none⟩ (.string x.v.s)).setCell ⟨g, k * 4 + 3, none⟩ (.int .i64 x.k)).ownsRow lo e 4 (.slice (some ⟨g, 0, none⟩) n cap) n (rus (l.set k x)) ∧
      w.grownBy ((((w.setCell ⟨g, k * 4, none⟩ (.int .i64 x.v.ty)).setCell ⟨g, k * 4 + 1, none⟩ (.int .i64 x.v.n)).setCell ⟨g, k * 4 + 2, none⟩ (.string x.v.s)).setCell ⟨g, k * 4 + 3, none⟩ (.int .i64 x.k)) (some g) := by
  have s1 := h.stored (k * 4) (.int .i64 x.v.ty)
  have s2 := s1.1.stored (k * 4 + 1) (.int .i64 x.v.n)
  have s3 := s2.1.stored (k * 4 + 2) (.string x.v.s)
  have s4 := s3.1.stored (k * 4 + 3) (.int .i64 x.k)
  rw [rus_set l k x hk]
  exact ⟨s4.1, ((s1.2.trans s2.2).trans s3.2).trans s4.2⟩

/-- Four cells of a block that may be written. -/
def Four (W : World) (b : Nat) (u : U) : Prop :=
  (W.cell? ⟨b, 0, none⟩ = some (.int .i64 u.v.ty) ∧ W.cell? ⟨b, 1, none⟩ = some (.int .i64 u.v.n) ∧ W.cell? ⟨b, 2, none⟩ = some (.string u.v.s) ∧ W.cell? ⟨b, 3, none⟩ = some (.int .i64 u.k)) ∧
  W.frozen? ⟨b, 0, none⟩ = false ∧ W.frozen? ⟨b, 1, none⟩ = false ∧ W.frozen? ⟨b, 2, none⟩ = false ∧ W.frozen? ⟨b, 3, none⟩ = false
theorem Four.below {W W' : World} {b : Nat} {u : U} (h : Four W b u) (hb : Below W.heap.size W W') : Four W' b u := by
  have hlt := lt_of_cell h.1.1
  exact ⟨⟨(hb.cell (p := ⟨b, 0, none⟩) hlt).trans h.1.1, (hb.cell (p := ⟨b, 1, none⟩) hlt).trans h.1.2.1, (hb.cell (p := ⟨b, 2, none⟩) hlt).trans h.1.2.2.1, (hb.cell (p := ⟨b, 3, none⟩) hlt).trans h.1.2.2.2⟩,
    (hb.frozen (p := ⟨b, 0, none⟩) hlt).trans h.2.1, (hb.frozen (p := ⟨b, 1, none⟩) hlt).trans h.2.2.1, (hb.frozen (p := ⟨b, 2, none⟩) hlt).trans h.2.2.2.1, (hb.frozen (p := ⟨b, 3, none⟩) hlt).trans h.2.2.2.2⟩
theorem four_new (w : World) (u : U) (e : TypeId) : Four (w.alloc (.cells #[.int .i64 u.v.ty, .int .i64 u.v.n, .string u.v.s, .int .i64 u.k] e)) w.heap.size u :=
  ⟨⟨by simp, by simp, by simp, by simp⟩, by simp, by simp, by simp, by simp⟩

/-- What the sizes of a list of Runs come to. -/
def bulkU (l : List U) : Nat := (l.map fun u => u.v.s.size).sum
theorem bulkU_take_succ (l : List U) (k : Nat) (h : k < l.length) : bulkU (l.take (k + 1)) = bulkU (l.take k) + (l.getD k U.zero).v.s.size := by
  have e : l.getD k U.zero = l[k] := by simp [h]
  unfold bulkU
  rw [e, List.take_succ_eq_append_getElem h, List.map_append, List.sum_append]
  simp

/-- A copy of l after k rounds. -/
def halfU (l : List U) (k : Nat) : List U := l.take k ++ List.replicate (l.length - k) U.zero
theorem halfU_len {l : List U} {k : Nat} (h : k ≤ l.length) : (halfU l k).length = l.length := by simp [halfU]; omega
theorem halfU_all (l : List U) : halfU l l.length = l := by simp [halfU]
theorem halfU_set {l : List U} {k : Nat} (h : k < l.length) : (halfU l k).set k (l.getD k U.zero) = halfU l (k + 1) := by
  have e : l.getD k U.zero = l[k] := by simp [h]
  have hl : (l.take k).length = k := by simp; omega
  unfold halfU
  rw [e, List.set_append_right _ _ (by omega), hl, Nat.sub_self, show l.length - k = (l.length - (k + 1)) + 1 by omega, List.replicate_succ, List.set_cons_zero, List.take_succ_eq_append_getElem h, List.append_assoc]
  rfl

end Go.Proofs.Ythniakklkepomaa
