/- Owned slices: a shorter one; cells written one behind the other. -/
import Derived.Test.YthniakklkepomaaVSlice
namespace Go.Proofs.Ythniakklkepomaa
open Go.RowKit

theorem row_shorter {w : World} {lo : Nat} {e : TypeId} {size g n cap m : Nat} {xs : List Value} (h : w.ownsRow lo e size (.slice (some ⟨g, 0, none⟩) n cap) n xs) (hm : m ≤ n) : w.ownsRow lo e size (.slice (some ⟨g, 0, none⟩) m cap) m (xs.take (m * size)) := by
  obtain ⟨h1, h2⟩ := h
  have hmul : m * size ≤ n * size := Nat.mul_le_mul_right _ hm
  refine ⟨by rw [List.length_take, h1]; omega, .inr ?_⟩
  rcases h2 with ⟨e, _⟩ | ⟨g', cap', cur, e, a1, a2, a3, a4, a5, a6⟩
  · cases e
  · cases e
    refine ⟨g, cap, cur, rfl, a1, a2, by omega, a4, a5, ?_⟩
    rw [← a6, List.take_take, Nat.min_eq_left hmul]
theorem row_cells {lo : Nat} {e : TypeId} {size g n cap : Nat} : ∀ (vs : List Value) (o : Nat) (w : World) (xs : List Value), w.ownsRow lo e size (.slice (some ⟨g, 0, none⟩) n cap) n xs →
    ∃ ys, (w.setCells g o vs).ownsRow lo e size (.slice (some ⟨g, 0, none⟩) n cap) n ys ∧ ys.take o = xs.take o ∧ w.grownBy (w.setCells g o vs) (some g)
  | [], o, w, xs, h => ⟨xs, h, rfl, grownBy_refl _ _⟩
  | v :: vs, o, w, xs, h => by
    have s1 := h.stored o v
    obtain ⟨ys, h1, h2, h3⟩ := row_cells vs (o + 1) (w.setCell ⟨g, o, none⟩ v) _ s1.1
    refine ⟨ys, h1, ?_, s1.2.trans h3⟩
    have := congrArg (List.take o) h2
    rw [List.take_take, List.take_take, Nat.min_eq_left (by omega), List.take_set_of_le (Nat.le_refl _)] at this
    exact this

end Go.Proofs.Ythniakklkepomaa
