/- The contract of the model's GetNum. -/
import Derived.Test.YthniakklkepomaaGet
import Derived.Test.YthniakklkepomaaBitsI
import Derived.OpenShut
namespace Go.Proofs.Ythniakklkepomaa
open Go.RowKit


theorem rd_or {x c : Int} {k : Nat} (hk : k < 5) (hx0 : 0 ≤ x) (hx1 : x < 128 ^ k) (hc0 : 0 ≤ c) (hc1 : c ≤ 255) :
    bits .or .i64 x (wrap64 (bits .and .i64 c 127 * 2 ^ (7 * k))) = x + c % 128 * 128 ^ k := by
  rw [and127 c hc0 (by omega)]
  have h5 : k = 0 ∨ k = 1 ∨ k = 2 ∨ k = 3 ∨ k = 4 := by omega
  rcases h5 with rfl | rfl | rfl | rfl | rfl <;> simp only [Nat.mul_zero, Nat.reduceMul, Int.reducePow] at hx1 ⊢
  · rw [IntWalk.wrap64_in _ (by omega)]; exact or_join x (c % 128) 0 hx0 (by omega) (by omega) (by omega) (by omega)
  · rw [IntWalk.wrap64_in _ (by omega)]; exact or_join x (c % 128) 7 hx0 (by omega) (by omega) (by omega) (by omega)
  · rw [IntWalk.wrap64_in _ (by omega)]; exact or_join x (c % 128) 14 hx0 (by omega) (by omega) (by omega) (by omega)
  · rw [IntWalk.wrap64_in _ (by omega)]; exact or_join x (c % 128) 21 hx0 (by omega) (by omega) (by omega) (by omega)
  · rw [IntWalk.wrap64_in _ (by omega)]; exact or_join x (c % 128) 28 hx0 (by omega) (by omega) (by omega) (by omega)

end Go.Proofs.Ythniakklkepomaa
