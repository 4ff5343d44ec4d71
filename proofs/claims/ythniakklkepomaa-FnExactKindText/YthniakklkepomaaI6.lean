/- The contracts of impl's Turns, Spread (with spreadLength). -/
import Derived.Test.YthniakklkepomaaLaw6
import Derived.Test.YthniakklkepomaaI5
namespace Go.Proofs.Ythniakklkepomaa
open Go.RowKit Go.Lib

theorem Four.ext {W W' : World} {b : Nat} {u : U} {v v' : Value} (h : Four W b u) (k : Ext W W' v v') (hne : some b ≠ v.ownBlock) : Four W' b u := by
  have hb := k.grown.block b (lt_of_cell h.1.1) hne
  have hc : ∀ j, W'.cell? ⟨b, j, none⟩ = W.cell? ⟨b, j, none⟩ := fun j => World.cell?_of_block hb
  have hf : ∀ j, W'.frozen? ⟨b, j, none⟩ = W.frozen? ⟨b, j, none⟩ := fun j => World.frozen?_of_block hb
  exact ⟨⟨(hc 0).trans h.1.1, (hc 1).trans h.1.2.1, (hc 2).trans h.1.2.2.1, (hc 3).trans h.1.2.2.2⟩, (hf 0).trans h.2.1, (hf 1).trans h.2.2.1, (hf 2).trans h.2.2.2.1, (hf 3).trans h.2.2.2.2⟩

/-- The sum of the lengths, if each is right. -/
def sumK : List U → Nat → Option Nat
  | [], k => some k
  | u :: r, k => if 1 ≤ u.k ∧ u.k ≤ 64 - (k : Int) then sumK r (k + u.k.toNat) else none
theorem sumK_spread : ∀ (r : List U) (out : List V), sumK r out.length = (spreadF r out).map List.length
  | [], out => rfl
  | u :: r, out => by
    rw [sumK, spreadF]
    split
    · rw [← sumK_spread r, List.length_append, List.length_replicate]
    · rfl

end Go.Proofs.Ythniakklkepomaa
