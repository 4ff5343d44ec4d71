/-
  No cell of these rows narrows 'for every input' (looked for: loops, veiled, ifaces, maps, wideKeys, modest, calm, conditions, laid).
  DERIVED. THE GIVEN ROWS OF THIS SEAT. 5 by the template 'for every input the law returns true; each argument reads behind the call as it read before'; 0 by the template 'total and deterministic' (their statements: YthniakklkepomaaTotals.lean).
  GIVEN WITH THE SEED: the statements are not yours to turn. If you find one false, say at which input.
  Laid BY PROGRAM, IN A SANDBOX (cutbox-rows.mjs): the forced cells as the released guide's own fill.sh prints them over the translation 279242db8d60aa4f… (all of the seat's roots in one cut). By AI agents, Wed Nov 11 2026. No macro, syntax, notation, axiom, sorry.
-/
import Derived.Test.YthniakklkepomaaChecked
import GoSem.Claim
import GoSem.ClaimJoined
import GoSem.ClaimMapViews
import Derived.JoinedTies
import Derived.KernelRfl
namespace Go.Proofs.Ythniakklkepomaa
/- THE CELL 'sum', in the pinned program and in every row, IS THE sha256 OF THE DUMP (.gsa) THAT YthniakklkepomaaProg.lean LOADS. Nothing in Lean hashes anything: it is a label: what it is worth is what the hold of that sum in a sandbox is worth. -/
noncomputable def Try.pinned : Pinned := { name := "ythniakklkepomaa", sum := "279242db8d60aa4f48ae500c579b5d30a3b8a042e49c9821b42031638072e03e", checked := Try.checked }
namespace Rows
def none {H : Type} : Left H := { results := [], args := [] }

/-- 'laws.FnExactEncBy': WHATEVER THE INPUT: true; the input reads as it did. -/
def fnExactEncBySpec : ChangeSpec := { name := "fnExactEncBy", fn := fun _ => fun
  | [d1, d2] => { results := [.lit (.bool true)], args := [d1, d2] }
  | _ => none }
def fnExactEncByRow : OpenClaim := { program := "ythniakklkepomaa", sum := "279242db8d60aa4f48ae500c579b5d30a3b8a042e49c9821b42031638072e03e", func := "loop.example/g00496/laws.FnExactEncBy", spec := "fnExactEncBy", unfollowed := true, recurses := true, plainKeys := false, apart := false }
def FnExactEncBySaid : Prop := fnExactEncByRow.holds Try.pinned (OpenSpec.ofChange fnExactEncBySpec)

/-- ITS FALSE NEIGHBOUR: 'it returns false'. Refute it at one input. -/
def fnExactEncByWrong : ChangeSpec := { name := "fnExactEncBy", fn := fun _ => fun
  | [d1, d2] => { results := [.lit (.bool false)], args := [d1, d2] }
  | _ => none }
def FnExactEncByWrongFalsely : Prop := fnExactEncByRow.holds Try.pinned (OpenSpec.ofChange fnExactEncByWrong)

/-- 'laws.FnExactBestKind': WHATEVER THE INPUT: true; the input reads as it did. -/
def fnExactBestKindSpec : ChangeSpec := { name := "fnExactBestKind", fn := fun _ => fun
  | [d] => { results := [.lit (.bool true)], args := [d] }
  | _ => none }
def fnExactBestKindRow : OpenClaim := { program := "ythniakklkepomaa", sum := "279242db8d60aa4f48ae500c579b5d30a3b8a042e49c9821b42031638072e03e", func := "loop.example/g00496/laws.FnExactBestKind", spec := "fnExactBestKind", unfollowed := true, recurses := true, plainKeys := false, apart := false }
def FnExactBestKindSaid : Prop := fnExactBestKindRow.holds Try.pinned (OpenSpec.ofChange fnExactBestKindSpec)

/-- ITS FALSE NEIGHBOUR: 'it returns false'. Refute it at one input. -/
def fnExactBestKindWrong : ChangeSpec := { name := "fnExactBestKind", fn := fun _ => fun
  | [d] => { results := [.lit (.bool false)], args := [d] }
  | _ => none }
def FnExactBestKindWrongFalsely : Prop := fnExactBestKindRow.holds Try.pinned (OpenSpec.ofChange fnExactBestKindWrong)

/-- 'laws.FnExactEncCol': WHATEVER THE INPUT: true; the input reads as it did. -/
def fnExactEncColSpec : ChangeSpec := { name := "fnExactEncCol", fn := fun _ => fun
  | [d] => { results := [.lit (.bool true)], args := [d] }
  | _ => none }
def fnExactEncColRow : OpenClaim := { program := "ythniakklkepomaa", sum := "279242db8d60aa4f48ae500c579b5d30a3b8a042e49c9821b42031638072e03e", func := "loop.example/g00496/laws.FnExactEncCol", spec := "fnExactEncCol", unfollowed := true, recurses := true, plainKeys := false, apart := false }
def FnExactEncColSaid : Prop := fnExactEncColRow.holds Try.pinned (OpenSpec.ofChange fnExactEncColSpec)

/-- ITS FALSE NEIGHBOUR: 'it returns false'. Refute it at one input. -/
def fnExactEncColWrong : ChangeSpec := { name := "fnExactEncCol", fn := fun _ => fun
  | [d] => { results := [.lit (.bool false)], args := [d] }
  | _ => none }
def FnExactEncColWrongFalsely : Prop := fnExactEncColRow.holds Try.pinned (OpenSpec.ofChange fnExactEncColWrong)

/-- 'laws.FnExactKindText': WHATEVER THE INPUT: true; the input reads as it did. -/
def fnExactKindTextSpec : ChangeSpec := { name := "fnExactKindText", fn := fun _ => fun
  | [d] => { results := [.lit (.bool true)], args := [d] }
  | _ => none }
def fnExactKindTextRow : OpenClaim := { program := "ythniakklkepomaa", sum := "279242db8d60aa4f48ae500c579b5d30a3b8a042e49c9821b42031638072e03e", func := "loop.example/g00496/laws.FnExactKindText", spec := "fnExactKindText", plainKeys := false, apart := false }
def FnExactKindTextSaid : Prop := fnExactKindTextRow.holds Try.pinned (OpenSpec.ofChange fnExactKindTextSpec)

/-- ITS FALSE NEIGHBOUR: 'it returns false'. Refute it at one input. -/
def fnExactKindTextWrong : ChangeSpec := { name := "fnExactKindText", fn := fun _ => fun
  | [d] => { results := [.lit (.bool false)], args := [d] }
  | _ => none }
def FnExactKindTextWrongFalsely : Prop := fnExactKindTextRow.holds Try.pinned (OpenSpec.ofChange fnExactKindTextWrong)

/-- 'laws.FnExactSaved': WHATEVER THE INPUT: true; the input reads as it did. -/
def fnExactSavedSpec : ChangeSpec := { name := "fnExactSaved", fn := fun _ => fun
  | [d] => { results := [.lit (.bool true)], args := [d] }
  | _ => none }
def fnExactSavedRow : OpenClaim := { program := "ythniakklkepomaa", sum := "279242db8d60aa4f48ae500c579b5d30a3b8a042e49c9821b42031638072e03e", func := "loop.example/g00496/laws.FnExactSaved", spec := "fnExactSaved", unfollowed := true, recurses := true, plainKeys := false, apart := false }
def FnExactSavedSaid : Prop := fnExactSavedRow.holds Try.pinned (OpenSpec.ofChange fnExactSavedSpec)

/-- ITS FALSE NEIGHBOUR: 'it returns false'. Refute it at one input. -/
def fnExactSavedWrong : ChangeSpec := { name := "fnExactSaved", fn := fun _ => fun
  | [d] => { results := [.lit (.bool false)], args := [d] }
  | _ => none }
def FnExactSavedWrongFalsely : Prop := fnExactSavedRow.holds Try.pinned (OpenSpec.ofChange fnExactSavedWrong)

/- THE SECOND FORM. 'bulk': how many values and letters a reading holds, each counted each time it is reached (what is shared counts as often as it is met; a slice's spare places count too). A statement '..UptoSaid' is the law's where the arguments, and the package variables that the reading takes, are together of bulk at most 1048576: NARROWER than '..Said'. Prove '..Said' where nothing that the law and all that it calls make is longer than what came in: it says more and counts as full. Else prove '..UptoSaid'. A law counts once. -/
mutual
def uptoBulk {H : Type} : DataW H → Nat
  | .lit (.string bytes) => bytes.length + 1
  | .lit _ => 1
  | .nil => 1
  | .ptr d => uptoBulk d + 1
  | .slice elems spare => uptoBulkAll elems + uptoBulkAll spare + 1
  | .agg parts => uptoBulkAll parts + 1
  | .iface _ d => uptoBulk d + 1
  | .map entries => uptoBulkEntries entries + 1
  | .held _ => 1
def uptoBulkAll {H : Type} : List (DataW H) → Nat
  | [] => 0
  | d :: r => uptoBulk d + uptoBulkAll r
def uptoBulkEntries {H : Type} : List (Lit × DataW H) → Nat
  | [] => 0
  | x :: r => uptoBulkEntry x + uptoBulkEntries r
def uptoBulkEntry {H : Type} : Lit × DataW H → Nat
  | (.string bytes, d) => bytes.length + uptoBulk d + 1
  | (_, d) => uptoBulk d + 1
 end
def uptoSmall : (H : Type) → List (DataW H) → Bool := fun _ ds => decide (uptoBulkAll ds ≤ 1048576)
def OpenSpec.upto (s : _root_.Go.ChangeSpec) : _root_.Go.OpenSpec := { _root_.Go.OpenSpec.ofChange s with cond := some uptoSmall }

/-- 'laws.FnExactEncBy', WHERE WHAT IT READS IS OF BULK AT MOST 1048576: true; the input reads as it did. -/
def fnExactEncByUptoRow : OpenClaim := { program := "ythniakklkepomaa", sum := "279242db8d60aa4f48ae500c579b5d30a3b8a042e49c9821b42031638072e03e", func := "loop.example/g00496/laws.FnExactEncBy", spec := "fnExactEncBy", unfollowed := true, recurses := true, plainKeys := false, apart := false, narrowed := true }
def FnExactEncByUptoSaid : Prop := fnExactEncByUptoRow.holds Try.pinned (OpenSpec.upto fnExactEncBySpec)

/-- 'laws.FnExactBestKind', WHERE WHAT IT READS IS OF BULK AT MOST 1048576: true; the input reads as it did. -/
def fnExactBestKindUptoRow : OpenClaim := { program := "ythniakklkepomaa", sum := "279242db8d60aa4f48ae500c579b5d30a3b8a042e49c9821b42031638072e03e", func := "loop.example/g00496/laws.FnExactBestKind", spec := "fnExactBestKind", unfollowed := true, recurses := true, plainKeys := false, apart := false, narrowed := true }
def FnExactBestKindUptoSaid : Prop := fnExactBestKindUptoRow.holds Try.pinned (OpenSpec.upto fnExactBestKindSpec)

/-- 'laws.FnExactEncCol', WHERE WHAT IT READS IS OF BULK AT MOST 1048576: true; the input reads as it did. -/
def fnExactEncColUptoRow : OpenClaim := { program := "ythniakklkepomaa", sum := "279242db8d60aa4f48ae500c579b5d30a3b8a042e49c9821b42031638072e03e", func := "loop.example/g00496/laws.FnExactEncCol", spec := "fnExactEncCol", unfollowed := true, recurses := true, plainKeys := false, apart := false, narrowed := true }
def FnExactEncColUptoSaid : Prop := fnExactEncColUptoRow.holds Try.pinned (OpenSpec.upto fnExactEncColSpec)

/-- 'laws.FnExactKindText', WHERE WHAT IT READS IS OF BULK AT MOST 1048576: true; the input reads as it did. -/
def fnExactKindTextUptoRow : OpenClaim := { program := "ythniakklkepomaa", sum := "279242db8d60aa4f48ae500c579b5d30a3b8a042e49c9821b42031638072e03e", func := "loop.example/g00496/laws.FnExactKindText", spec := "fnExactKindText", plainKeys := false, apart := false, narrowed := true }
def FnExactKindTextUptoSaid : Prop := fnExactKindTextUptoRow.holds Try.pinned (OpenSpec.upto fnExactKindTextSpec)

/-- 'laws.FnExactSaved', WHERE WHAT IT READS IS OF BULK AT MOST 1048576: true; the input reads as it did. -/
def fnExactSavedUptoRow : OpenClaim := { program := "ythniakklkepomaa", sum := "279242db8d60aa4f48ae500c579b5d30a3b8a042e49c9821b42031638072e03e", func := "loop.example/g00496/laws.FnExactSaved", spec := "fnExactSaved", unfollowed := true, recurses := true, plainKeys := false, apart := false, narrowed := true }
def FnExactSavedUptoSaid : Prop := fnExactSavedUptoRow.holds Try.pinned (OpenSpec.upto fnExactSavedSpec)

end Rows
end Go.Proofs.Ythniakklkepomaa
