/- Reading slices of Runs: what the row's reading says of them. -/
import Derived.Test.YtcnackecchjckaaOpen
import Derived.Test.YtcnackecchjckaaU6
import Derived.ChangeSame
namespace Go.Proofs.Ytcnackecchjckaa
open Go.RowKit Go.ChangeShapes Go.WideShapes Go.Deep

section
variable {H : Type} {enc : TypeId × Value → H} {w : World} {base : Nat} {spare : Nat → Bool} {held : Bool} {fuel : Nat} {cs : List Value} {x : DataW H × List MemPlace}

/-- A Run that the row reads. -/
def U.wf (u : U) : Prop := u.v.wf ∧ (Lit.int .i64 u.k).wf = true

set_option maxRecDepth 100000 in
theorem trod_run (h : DataW.trod enc Try.prog w base spare held fuel 91 cs = some x) : ∃ u : U, cs = u.cs ∧ u.wf := by
  obtain ⟨y0, y1, n, _, hl, h0, h1⟩ := trod_struct2 Try.underlying91 h
  have hl4 : cs.length = 4 := hl.trans (by kernel_rfl)
  have e3 : Try.prog.cellsOf 3 = 1 := by kernel_rfl
  have ev : Try.prog.cellsOf 84 = 3 := by kernel_rfl
  match cs, hl4 with
  | [c0, c1, c2, c3], _ =>
    simp only [e3, ev, List.drop_zero, List.drop_succ_cons, List.take_succ_cons, List.take_zero] at h0 h1
    obtain ⟨v, hv, wv⟩ := trod_val h0
    obtain ⟨q, hq, _, wq⟩ := DataW.trod_int Try.underlying3 h1
    obtain ⟨t, m, s⟩ := v
    simp only [V.cs, List.cons.injEq, and_true] at hv hq
    obtain ⟨rfl, rfl, rfl⟩ := hv
    subst hq
    exact ⟨⟨⟨t, m, s⟩, q⟩, rfl, wv, wq⟩

set_option maxRecDepth 100000 in
theorem trod_runs (h : DataW.trod enc Try.prog w base spare held fuel 49 cs = some x) :
    ∃ a len cap, cs = [.slice a len cap] ∧ len ≤ maxLen ∧ ∃ l : List U, l.length = len ∧ (∀ u ∈ l, u.wf) ∧ ArgS 4 w a len (rus l) :=
  trod_flat (f := U.cs) (Q := U.wf) (fun _ => rfl) Try.underlying49 (by kernel_rfl) (fun _ _ _ h => trod_run h) (by omega) h
/-- The argument, read. -/
theorem runs_arg {a : Option Addr} {len cap : Nat} {l : List U} (hle : len ≤ maxLen) (hl : l.length = len) (h : ArgS 4 w a len (rus l)) : Rd 4 w (.slice a len cap) l.length (rus l) := by
  subst hl
  exact ⟨a, cap, rfl, hle, h⟩
end

end Go.Proofs.Ytcnackecchjckaa
