/- The contracts of impl's GetVal and DecPlain. -/
import Derived.Test.YthniakklkepomaaI5b
import Derived.Test.YthniakklkepomaaI5c
namespace Go.Proofs.Ythniakklkepomaa
open Go.RowKit

/-- A list that is filled from its start on. -/
def fillV (pre : List V) (K : Nat) : List V := pre ++ List.replicate (K - pre.length) V.zero
theorem fillV_len {pre : List V} {K : Nat} (h : pre.length ≤ K) : (fillV pre K).length = K := by
  simp [fillV]
  omega
theorem fillV_set {pre : List V} {K : Nat} (x : V) (h : pre.length < K) : (fillV pre K).set pre.length x = fillV (pre ++ [x]) K := by
  unfold fillV
  rw [List.set_append_right _ _ (Nat.le_refl _), Nat.sub_self, show K - pre.length = (K - (pre ++ [x]).length) + 1 by simp; omega, List.replicate_succ, List.set_cons_zero]
  simp
theorem fillV_all {pre : List V} {K : Nat} (h : pre.length = K) : fillV pre K = pre := by simp [fillV, h]

end Go.Proofs.Ythniakklkepomaa
