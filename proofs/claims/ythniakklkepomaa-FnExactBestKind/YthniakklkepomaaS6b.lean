/- The contracts of the model's Turns, LongestRun and Spread. -/
import Derived.Test.YthniakklkepomaaS6
namespace Go.Proofs.Ythniakklkepomaa
open Go.RowKit

/-- Turns: among the first k values. -/
def turnsK (l : List V) : Nat → Nat
  | 0 => 0
  | k + 1 => turnsK l k + (if 0 < k ∧ (l.getD k V.zero).eqB (l.getD (k - 1) V.zero) = false then 1 else 0)
def turnsL (l : List V) : Nat := turnsK l l.length
theorem turnsK_le (l : List V) : ∀ k, turnsK l k ≤ k
  | 0 => Nat.le_refl _
  | k + 1 => by
    have := turnsK_le l k
    rw [turnsK]
    split <;> omega

/-- LongestRun. -/
def longK (r : List U) : Int := r.foldl (fun n u => if n < u.k then u.k else n) 0
theorem longK_snoc (r : List U) (u : U) : longK (r ++ [u]) = if longK r < u.k then u.k else longK r := by
  unfold longK
  rw [List.foldl_append]
  rfl
def longL (l : List V) : Int := longK (runsL l)

/-- Spread. -/
def spreadF : List U → List V → Option (List V)
  | [], out => some out
  | u :: r, out => if 1 ≤ u.k ∧ u.k ≤ 64 - (out.length : Int) then spreadF r (out ++ List.replicate u.k.toNat u.v) else none
def spreadL (r : List U) : List V := (spreadF r []).getD []
theorem spreadF_len : ∀ {r : List U} {out l : List V}, out.length ≤ 64 → spreadF r out = some l → l.length ≤ 64
  | [], out, l, h, e => by
    simp only [spreadF, Option.some.injEq] at e
    subst e
    exact h
  | u :: r, out, l, h, e => by
    rw [spreadF] at e
    split at e
    · rename_i hc
      refine spreadF_len ?_ e
      simp only [List.length_append, List.length_replicate]
      omega
    · cases e
theorem spreadL_len (r : List U) : (spreadL r).length ≤ 64 := by
  unfold spreadL
  cases h : spreadF r [] with
  | none => simp
  | some l => exact spreadF_len (by simp) h

end Go.Proofs.Ythniakklkepomaa
