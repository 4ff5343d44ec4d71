/- The exact laws of chapter 4 that do no text, walked; the program's own contracts come as hypotheses. -/
import Derived.Test.YtkofafefnlommaaS4b
import Derived.Test.YtkofafefnlommaaR4M
import Derived.Test.YtkofafefnlommaaInts
namespace Go.Proofs.Ytkofafefnlommaa
open Go.RowKit

def CColsOk : Prop := ∀ (u : Value) (zs : List Int) (w : World), zs.length ≤ 1048576 → Rd 1 w u zs.length (ints .i64 zs) → Calls Try.prog 54 #[u] w fun e w' => e = .returned (.bool (colsB zs)) ∧ Below w.heap.size w w'
def CFitsCols : Prop := ∀ (u v : Value) (zs : List Int) (l : List V) (w : World), zs.length ≤ 1048576 → l.length ≤ 1048576 → (∀ v ∈ l, v.s.size ≤ maxLen) → Rd 1 w u zs.length (ints .i64 zs) → Rd 3 w v l.length (vals l) → Calls Try.prog 72 #[u, v] w fun e w' => e = .returned (.bool (fitsB zs l)) ∧ Below w.heap.size w w'
def CRowOk : Prop := ∀ (u v : Value) (zs : List Int) (r : R) (w : World), zs.length ≤ 1048576 → r.l.length ≤ 1048576 → (∀ v ∈ r.l, v.s.size ≤ maxLen) → Rd 1 w u zs.length (ints .i64 zs) → r.rd w v → Calls Try.prog 55 #[u, r.agg v] w fun e w' => e = .returned (.bool (rowB zs r)) ∧ Below w.heap.size w w'
theorem bulkR_mem {ps : List P} {p : P} (h : p ∈ ps) : p.1.l.length ≤ bulkR ps := by
  induction ps with
  | nil => cases h
  | cons q ps ih =>
    have e : bulkR (q :: ps) = q.1.l.length + bulk q.1.l + bulkR ps := by simp [bulkR]
    rcases List.mem_cons.1 h with rfl | h
    · omega
    · have := ih h
      omega
theorem rlen_le (ps : List P) : rlen ps ≤ 3 * (ps.length + bulkR ps) := by
  induction ps with
  | nil => simp [rlen]
  | cons q ps ih =>
    have e : bulkR (q :: ps) = q.1.l.length + bulk q.1.l + bulkR ps := by simp [bulkR]
    simp only [rlen, List.length_cons]
    omega
theorem rlen_fst {ps qs : List P} (h : qs.map (·.1) = ps.map (·.1)) : rlen qs = rlen ps := by
  induction qs generalizing ps with
  | nil => cases ps with
    | nil => rfl
    | cons => cases h
  | cons q qs ih => cases ps with
    | nil => cases h
    | cons p ps =>
      simp only [List.map_cons, List.cons.injEq] at h
      rw [rlen, rlen, h.1, ih h.2]
theorem len_fst {ps qs : List P} (h : qs.map (·.1) = ps.map (·.1)) : qs.length = ps.length := by simpa using congrArg List.length h
theorem small_fst {ps qs : List P} {N : Nat} (h : qs.map (·.1) = ps.map (·.1)) (hp : ∀ p ∈ ps, p.1.l.length ≤ N) : ∀ q ∈ qs, q.1.l.length ≤ N := by
  intro q hq
  have : q.1 ∈ ps.map (·.1) := by
    rw [← h]
    exact List.mem_map.2 ⟨q, hq, rfl⟩
  obtain ⟨p, hp', e⟩ := List.mem_map.1 this
  rw [← e]
  exact hp p hp'

end Go.Proofs.Ytkofafefnlommaa
