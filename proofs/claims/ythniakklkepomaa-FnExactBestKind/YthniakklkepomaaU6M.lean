/- The laws' own helpers over slices of Runs: markRunS, heldRunS. -/
import Derived.Test.YthniakklkepomaaU6
namespace Go.Proofs.Ythniakklkepomaa
open Go.RowKit

/-- What markRunS leaves. -/
def umark (m : Nat) : U := ⟨⟨m, (m : Int) + 1, mtext (m + 2)⟩, (m : Int) + 3⟩
def umarks (s n : Nat) : List U := (List.range n).map fun j => umark (s + 4 * j)
theorem umarks_len (s n : Nat) : (umarks s n).length = n := by simp [umarks]
theorem umarks_get {s n k : Nat} (h : k < n) : (umarks s n).getD k U.zero = umark (s + 4 * k) := by simp [umarks, h]
theorem umarks_set {s k m : Nat} {l : List U} (h : k < l.length) (hm : s + 4 * k = m) : (umarks s k ++ l.drop k).set k (umark m) = umarks s (k + 1) ++ l.drop (k + 1) := by
  subst hm
  rw [List.set_append_right _ _ (by rw [umarks_len]; exact Nat.le_refl _), umarks_len, Nat.sub_self, List.drop_eq_getElem_cons h, List.set_cons_zero]
  unfold umarks
  rw [List.range_succ, List.map_append, List.append_assoc]
  rfl

end Go.Proofs.Ythniakklkepomaa
