/- Texts of this claim, one behind the other: IUnpack. -/
import Derived.Test.YthniakklkepomaaP13
import Derived.IntWalk
import Derived.Deep.RegionLaw

/- The contract of impl's UnpackBits. -/
namespace Go.Proofs.Ythniakklkepomaa
open Go.RowKit

theorem own_set_same {e lo hi w v n} {xs : List Value} {i : Nat} {x : Value} (h : Own e 1 lo hi w v n xs) (hx : xs[i]? = some x) : Own e 1 lo hi w v n (xs.set i x) := by
  have e : xs.set i x = xs := by
    obtain ⟨hi, rfl⟩ := List.getElem?_eq_some_iff.1 hx
    exact List.set_getElem_self hi
  rw [e]
  exact h
theorem made_filled (K : Nat) : (madeCells #[.int .i64 0] K).toList = filled .i64 [] K := by
  have e := made_ints .i64 K
  rw [Nat.mul_one] at e
  rw [filled_nil]
  exact e

end Go.Proofs.Ythniakklkepomaa
