/- A Val in a block of the call's own. -/
import Derived.Test.YthniakklkepomaaVTo
namespace Go.Proofs.Ythniakklkepomaa
open Go.RowKit

/-- A Val in a block of the call's own. -/
def Held (W : World) (b : Nat) (v : V) : Prop :=
  (W.cell? ⟨b, 0, none⟩ = some (.int .i64 v.ty) ∧ W.cell? ⟨b, 1, none⟩ = some (.int .i64 v.n) ∧ W.cell? ⟨b, 2, none⟩ = some (.string v.s)) ∧
  W.frozen? ⟨b, 0, none⟩ = false ∧ W.frozen? ⟨b, 1, none⟩ = false ∧ W.frozen? ⟨b, 2, none⟩ = false
theorem Held.below {W W' : World} {b : Nat} {v : V} (h : Held W b v) (hb : Below W.heap.size W W') : Held W' b v := by
  have hlt := lt_of_cell h.1.1
  exact ⟨⟨(hb.cell (p := ⟨b, 0, none⟩) hlt).trans h.1.1, (hb.cell (p := ⟨b, 1, none⟩) hlt).trans h.1.2.1, (hb.cell (p := ⟨b, 2, none⟩) hlt).trans h.1.2.2⟩,
    (hb.frozen (p := ⟨b, 0, none⟩) hlt).trans h.2.1, (hb.frozen (p := ⟨b, 1, none⟩) hlt).trans h.2.2.1, (hb.frozen (p := ⟨b, 2, none⟩) hlt).trans h.2.2.2⟩
theorem held_new (w : World) (v : V) (e : TypeId) : Held (w.alloc (.cells #[.int .i64 v.ty, .int .i64 v.n, .string v.s] e)) w.heap.size v :=
  ⟨⟨by simp, by simp, by simp⟩, by simp, by simp, by simp⟩

theorem Held.other {W : World} {b : Nat} {v : V} (h : Held W b v) {p : Addr} (hp : p.block ≠ b) (u : Value) : Held (W.setCell p u) b v := by
  have hne : ∀ o, p ≠ ⟨b, o, none⟩ := fun o e => hp (by rw [e])
  refine ⟨⟨?_, ?_, ?_⟩, ?_, ?_, ?_⟩
  · rw [World.cell?_setCell_other _ _ _ _ (hne 0)]; exact h.1.1
  · rw [World.cell?_setCell_other _ _ _ _ (hne 1)]; exact h.1.2.1
  · rw [World.cell?_setCell_other _ _ _ _ (hne 2)]; exact h.1.2.2
  · rw [World.frozen?_setCell]; exact h.2.1
  · rw [World.frozen?_setCell]; exact h.2.2.1
  · rw [World.frozen?_setCell]; exact h.2.2.2
theorem Held.setN {W : World} {b : Nat} {v : V} (h : Held W b v) (n : Int) : Held (W.setCell ⟨b, 1, none⟩ (.int .i64 n)) b ⟨v.ty, n, v.s⟩ := by
  refine ⟨⟨?_, ?_, ?_⟩, ?_, ?_, ?_⟩
  · rw [World.cell?_setCell_other _ _ _ _ (by simp)]; exact h.1.1
  · exact World.cell?_setCell_same _ _ _ h.1.2.1
  · rw [World.cell?_setCell_other _ _ _ _ (by simp)]; exact h.1.2.2
  · rw [World.frozen?_setCell]; exact h.2.1
  · rw [World.frozen?_setCell]; exact h.2.2.1
  · rw [World.frozen?_setCell]; exact h.2.2.2

end Go.Proofs.Ythniakklkepomaa
