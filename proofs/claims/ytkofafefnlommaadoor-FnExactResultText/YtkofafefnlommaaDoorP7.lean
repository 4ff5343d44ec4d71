/- Texts of this claim, one behind the other: Plain. -/
import Derived.Test.YtkofafefnlommaaDoorP3
import Derived.RangeFuncRecord

/- Blocks of cells of which none is frozen. -/
namespace Go.Proofs.YtkofafefnlommaaDoor
open Go.RowKit

/-- A block of cells of which none is frozen. -/
def Plain (w : World) (b : Nat) : Prop := ∃ cur e, w.heap[b]? = some (.cells cur e (0, 0))
theorem Plain.lt {w : World} {b : Nat} (h : Plain w b) : b < w.heap.size := by
  obtain ⟨c, e, h⟩ := h
  exact (Array.getElem?_eq_some_iff.1 h).1
theorem Plain.of {w w' : World} {b : Nat} (h : Plain w b) (he : w'.heap[b]? = w.heap[b]?) : Plain w' b := by
  obtain ⟨c, e, h⟩ := h
  exact ⟨c, e, he.trans h⟩
theorem Plain.below {w w' : World} {b : Nat} (h : Plain w b) (hb : Below w.heap.size w w') : Plain w' b := h.of (hb.block b h.lt)
theorem Plain.alloc {w : World} {b : Nat} (h : Plain w b) (o : Obj) : Plain (w.alloc o) b := h.of (Below.heap_alloc _ _ _ h.lt)
theorem Plain.setCell {w : World} {b : Nat} (h : Plain w b) (p : Addr) (u : Value) : Plain (w.setCell p u) b := by
  by_cases hp : b = p.block
  · obtain ⟨c, e, h⟩ := h
    have : ∃ c', (w.setCell p u).heap[b]? = some (.cells c' e (0, 0)) := by
      unfold World.setCell
      rw [hp, Array.getElem?_modify, if_pos rfl, ← hp, h]
      exact ⟨_, rfl⟩
    obtain ⟨c', h'⟩ := this
    exact ⟨c', e, h'⟩
  · exact h.of (Below.heap_setCell _ _ _ _ hp)
theorem plain_new (w : World) (cs : Array Value) (e : TypeId) : Plain (w.alloc (.cells cs e)) w.heap.size := ⟨cs, e, World.alloc_heap_new _ _⟩
theorem plain_own {e : TypeId} {size lo hi : Nat} {w : World} {v : Value} {n : Nat} {xs : List Value} (h : Own e size lo hi w v n xs) {b : Nat} (hb : v.ownBlock = some b) : Plain w b := by
  obtain ⟨g, cap, rfl, _, _, _, h3⟩ := h
  obtain rfl : g = b := by simpa [Value.ownBlock] using hb
  rcases h3 with ⟨h', _⟩ | ⟨g', cap', cur, h', _, hg, _⟩
  · simp at h'
  · simp only [Value.slice.injEq, Option.some.injEq, Addr.mk.injEq, and_true, true_and] at h'
    obtain ⟨rfl, rfl⟩ := h'
    exact ⟨cur, e, hg⟩

end Go.Proofs.YtkofafefnlommaaDoor
