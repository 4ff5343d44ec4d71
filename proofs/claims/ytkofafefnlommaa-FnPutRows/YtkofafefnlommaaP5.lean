/- Texts of this claim, one behind the other: Take. -/
import Derived.Test.YtkofafefnlommaaP3
import Derived.Deep.RegionHeld3

/- For regions that draw their order, taken by hand (where a guarded part is off). -/
namespace Go.Proofs.Ytkofafefnlommaa
open Go.RowKit

/-- Take operation i first (its temporary named): as the library's own law. -/
theorem takeH {P : Program} {md : Region.Mode} {ops : Array Oper} {Q : Exit → Act → World → Prop} {S : World → Prop} {i : Nat} {oi : Oper} {d : Option Tmp} {v : Value} {fuel : Nat} {listed : Array Bool} {a : Act} {w : World} (hi : ops[i]? = some oi) (hd : oi.dst = d)
    (hs : Region.noSelect ops = true) (hf : Region.free md ops listed i = true) (hr : (Region.ready md ops listed).contains i = true)
    (hQ : ∀ c a w, Q (.panic c) (a.put d v) w → Q (.panic c) a w) (hy : YieldsIf P ops S oi v a) (hS : S w)
    (h : wpAnyH P md ops Q S fuel (listed.setIfInBounds i true) (a.put d v) w) : wpAnyH P md ops Q S (fuel + 1) listed a w := by
  subst hd
  exact wpAnyH_take hi hs hf hr hQ hy hS h
theorem put_some (l : List Value) (ds : List Deferred) (d : Tmp) (v : Value) : Act.put ⟨l.toArray, ds⟩ (some d) v = ⟨(l.set d v).toArray, ds⟩ := by
  simp [Act.put]

end Go.Proofs.Ytkofafefnlommaa
