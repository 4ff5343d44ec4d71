/- Texts of this claim, one behind the other: OpenZ. -/
import Derived.Test.YtcokmjdehclhkaaP9
import Derived.Test.YtcokmjdehclhkaaP11
import Derived.ChangeSame

/- Reading a Zone: what the row's reading says of it. -/
namespace Go.Proofs.Ytcokmjdehclhkaa
open Go.RowKit Go.ChangeShapes Go.WideShapes Go.Deep

section
variable {H : Type} {enc : TypeId × Value → H} {w : World} {base : Nat} {spare : Nat → Bool} {held : Bool} {fuel : Nat} {cs : List Value} {x : DataW H × List MemPlace}

/-- A Zone that the row reads. -/
def Zn.wf (z : Zn) : Prop := z.lo.wf ∧ z.hi.wf

set_option maxRecDepth 100000 in
theorem trod_zone (h : DataW.trod enc Try.prog w base spare held fuel 53 cs = some x) : ∃ z : Zn, cs = z.cs ∧ z.wf := by
  obtain ⟨y0, y1, n, _, hl, h0, h1⟩ := trod_struct2 Try.underlying53 h
  have hl6 : cs.length = 6 := hl.trans (by kernel_rfl)
  have ev : Try.prog.cellsOf 48 = 3 := by kernel_rfl
  match cs, hl6 with
  | [c0, c1, c2, c3, c4, c5], _ =>
    simp only [ev, List.drop_zero, List.drop_succ_cons, List.take_succ_cons, List.take_zero] at h0 h1
    obtain ⟨v, hv, wv⟩ := trod_val h0
    obtain ⟨u, hu, wu⟩ := trod_val h1
    obtain ⟨t, m, s⟩ := v
    obtain ⟨t', m', s'⟩ := u
    simp only [V.cs, List.cons.injEq, and_true] at hv hu
    obtain ⟨rfl, rfl, rfl⟩ := hv
    obtain ⟨rfl, rfl, rfl⟩ := hu
    exact ⟨⟨⟨t, m, s⟩, ⟨t', m', s'⟩⟩, rfl, wv, wu⟩
end

end Go.Proofs.Ytcokmjdehclhkaa
