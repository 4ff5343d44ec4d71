/- Texts of this claim, one behind the other: OpenR. -/
import Derived.Test.YtkofafefnlommaaDoorP12
import Derived.Test.YtkofafefnlommaaDoorP15

/- What the row's reading says of arguments of the types Row and []Row. -/
namespace Go.Proofs.YtkofafefnlommaaDoor
open Go.RowKit Go.ChangeShapes Go.WideShapes Go.Deep

section
variable {H : Type} {enc : TypeId × Value → H} {w : World} {base : Nat} {spare : Nat → Bool} {held : Bool} {fuel : Nat} {cs : List Value} {x : DataW H × List MemPlace}

/-- A Row that the row reads. -/
def P.wf (w : World) (p : P) : Prop := p.1.rd w p.2 ∧ (∀ v ∈ p.1.l, v.wf) ∧ (Lit.int .i64 p.1.id).wf = true

set_option maxRecDepth 100000 in
theorem trod_row (h : DataW.trod enc Tryd.prog w base spare held fuel 131 cs = some x) : ∃ p : P, cs = P.cs p ∧ P.wf w p := by
  obtain ⟨y0, y1, n, _, hl, h0, h1⟩ := trod_struct2 Tryd.underlying131 h
  have hl2 : cs.length = 2 := hl.trans (by kernel_rfl)
  have e3 : Tryd.prog.cellsOf 3 = 1 := by kernel_rfl
  have e9 : Tryd.prog.cellsOf 129 = 1 := by kernel_rfl
  match cs, hl2 with
  | [c0, c1], _ =>
    simp only [e3, e9, List.drop_zero, List.drop_succ_cons, List.take_succ_cons, List.take_zero] at h0 h1
    obtain ⟨t, ht, _, wt⟩ := DataW.trod_int Tryd.underlying3 h0
    obtain ⟨a, len, cap, hs, hle, l, hll, hq, harg⟩ := trod_vals h1
    simp only [List.cons.injEq, and_true] at ht hs
    subst ht hs hll
    exact ⟨(⟨t, l⟩, .slice a l.length cap), rfl, ⟨a, cap, rfl, hle, harg⟩, hq, wt⟩

set_option maxRecDepth 100000 in
theorem trod_rows (h : DataW.trod enc Tryd.prog w base spare held fuel 39 cs = some x) :
    ∃ a len cap, cs = [.slice a len cap] ∧ len ≤ maxLen ∧ ∃ l : List P, l.length = len ∧ (∀ p ∈ l, P.wf w p) ∧ ArgS 2 w a len (prs l) :=
  trod_flat (f := P.cs) (Q := P.wf w) (fun _ => rfl) Tryd.underlying39 (by kernel_rfl) (fun _ _ _ h => trod_row h) (by omega) h
/-- The argument, read. -/
theorem rows_arg {a : Option Addr} {len cap : Nat} {ps : List P} (hle : len ≤ maxLen) (hl : ps.length = len) (hq : ∀ p ∈ ps, P.wf w p) (h : ArgS 2 w a len (prs ps)) : RdRs w (.slice a len cap) ps := by
  subst hl
  exact ⟨⟨a, cap, rfl, hle, h⟩, fun p hp => (hq p hp).1⟩
end

end Go.Proofs.YtkofafefnlommaaDoor
