/- Texts of this claim, one behind the other: OpenZ, OpenZs, OpenR. -/
import Derived.Test.YtpinoemckapbhaaP9
import Derived.Test.YtpinoemckapbhaaP13
import Derived.ChangeSame
import Derived.Test.YtpinoemckapbhaaP14
import Derived.Test.YtpinoemckapbhaaP15

/- Reading a Zone: what the row's reading says of it. -/
namespace Go.Proofs.Ytpinoemckapbhaa
open Go.RowKit Go.ChangeShapes Go.WideShapes Go.Deep

section
variable {H : Type} {enc : TypeId × Value → H} {w : World} {base : Nat} {spare : Nat → Bool} {held : Bool} {fuel : Nat} {cs : List Value} {x : DataW H × List MemPlace}

/-- A Zone that the row reads. -/
def Zn.wf (z : Zn) : Prop := z.lo.wf ∧ z.hi.wf

set_option maxRecDepth 100000 in
theorem trod_zone (h : DataW.trod enc Try.prog w base spare held fuel 113 cs = some x) : ∃ z : Zn, cs = z.cs ∧ z.wf := by
  obtain ⟨y0, y1, n, _, hl, h0, h1⟩ := trod_struct2 Try.underlying113 h
  have hl6 : cs.length = 6 := hl.trans (by kernel_rfl)
  have ev : Try.prog.cellsOf 45 = 3 := by kernel_rfl
  match cs, hl6 with
  | [c0, c1, c2, c3, c4, c5], _ =>
    simp only [ev, List.drop_zero, List.drop_succ_cons, List.take_succ_cons, List.take_zero] at h0 h1
    obtain ⟨v, hv, wv⟩ := trod_val h0
    obtain ⟨u, hu, wu⟩ := trod_val h1
    obtain ⟨t, m, s⟩ := v
    obtain ⟨t', m', s'⟩ := u
    simp only [V.cs, List.cons.injEq, and_true] at hv hu
    obtain ⟨rfl, rfl, rfl⟩ := hv
    obtain ⟨rfl, rfl, rfl⟩ := hu
    exact ⟨⟨⟨t, m, s⟩, ⟨t', m', s'⟩⟩, rfl, wv, wu⟩
end

end Go.Proofs.Ytpinoemckapbhaa

/- Reading slices of Zones: what the row's reading says of them. -/
namespace Go.Proofs.Ytpinoemckapbhaa
open Go.RowKit Go.ChangeShapes Go.WideShapes Go.Deep

section
variable {H : Type} {enc : TypeId × Value → H} {w : World} {base : Nat} {spare : Nat → Bool} {held : Bool} {fuel : Nat} {cs : List Value} {x : DataW H × List MemPlace}

set_option maxRecDepth 100000 in
theorem trod_zones (h : DataW.trod enc Try.prog w base spare held fuel 68 cs = some x) :
    ∃ a len cap, cs = [.slice a len cap] ∧ len ≤ maxLen ∧ ∃ l : List Zn, l.length = len ∧ (∀ z ∈ l, z.wf) ∧ ArgS 6 w a len (zns l) :=
  trod_flat (f := Zn.cs) (Q := Zn.wf) (fun _ => rfl) Try.underlying68 (by kernel_rfl) (fun _ _ _ h => trod_zone h) (by omega) h
end

end Go.Proofs.Ytpinoemckapbhaa

/- What the row's reading says of arguments of the types Row and []Row. -/
namespace Go.Proofs.Ytpinoemckapbhaa
open Go.RowKit Go.ChangeShapes Go.WideShapes Go.Deep

section
variable {H : Type} {enc : TypeId × Value → H} {w : World} {base : Nat} {spare : Nat → Bool} {held : Bool} {fuel : Nat} {cs : List Value} {x : DataW H × List MemPlace}

/-- A Row that the row reads. -/
def P.wf (w : World) (p : P) : Prop := p.1.rd w p.2 ∧ (∀ v ∈ p.1.l, v.wf) ∧ (Lit.int .i64 p.1.id).wf = true

set_option maxRecDepth 100000 in
theorem trod_row (h : DataW.trod enc Try.prog w base spare held fuel 105 cs = some x) : ∃ p : P, cs = P.cs p ∧ P.wf w p := by
  obtain ⟨y0, y1, n, _, hl, h0, h1⟩ := trod_struct2 Try.underlying105 h
  have hl2 : cs.length = 2 := hl.trans (by kernel_rfl)
  have e3 : Try.prog.cellsOf 3 = 1 := by kernel_rfl
  have e9 : Try.prog.cellsOf 55 = 1 := by kernel_rfl
  match cs, hl2 with
  | [c0, c1], _ =>
    simp only [e3, e9, List.drop_zero, List.drop_succ_cons, List.take_succ_cons, List.take_zero] at h0 h1
    obtain ⟨t, ht, _, wt⟩ := DataW.trod_int Try.underlying3 h0
    obtain ⟨a, len, cap, hs, hle, l, hll, hq, harg⟩ := trod_vals h1
    simp only [List.cons.injEq, and_true] at ht hs
    subst ht hs hll
    exact ⟨(⟨t, l⟩, .slice a l.length cap), rfl, ⟨a, cap, rfl, hle, harg⟩, hq, wt⟩

set_option maxRecDepth 100000 in
theorem trod_rows (h : DataW.trod enc Try.prog w base spare held fuel 60 cs = some x) :
    ∃ a len cap, cs = [.slice a len cap] ∧ len ≤ maxLen ∧ ∃ l : List P, l.length = len ∧ (∀ p ∈ l, P.wf w p) ∧ ArgS 2 w a len (prs l) :=
  trod_flat (f := P.cs) (Q := P.wf w) (fun _ => rfl) Try.underlying60 (by kernel_rfl) (fun _ _ _ h => trod_row h) (by omega) h
/-- The argument, read. -/
theorem rows_arg {a : Option Addr} {len cap : Nat} {ps : List P} (hle : len ≤ maxLen) (hl : ps.length = len) (hq : ∀ p ∈ ps, P.wf w p) (h : ArgS 2 w a len (prs ps)) : RdRs w (.slice a len cap) ps := by
  subst hl
  exact ⟨⟨a, cap, rfl, hle, h⟩, fun p hp => (hq p hp).1⟩
end

end Go.Proofs.Ytpinoemckapbhaa
