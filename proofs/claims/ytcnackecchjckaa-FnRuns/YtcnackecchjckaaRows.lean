/-
  No cell of these rows narrows 'for every input' (looked for: loops, veiled, ifaces, maps, wideKeys, modest, calm, conditions, laid).
  DERIVED. THE GIVEN ROWS OF THIS SEAT. 8 by the template 'for every input the law returns true; each argument reads behind the call as it read before'; 0 by the template 'total and deterministic' (their statements: YtcnackecchjckaaTotals.lean).
  GIVEN WITH THE SEED: the statements are not yours to turn. If you find one false, say at which input.
  Laid BY PROGRAM, IN A SANDBOX (cutbox-rows.mjs): the forced cells as the released guide's own fill.sh prints them over the translation 1cda06b2715ba38a… (all of the seat's roots in one cut). By AI agents, Wed Nov 11 2026. No macro, syntax, notation, axiom, sorry.
-/
import Derived.Test.YtcnackecchjckaaChecked
import GoSem.Claim
import GoSem.ClaimJoined
import GoSem.ClaimMapViews
import Derived.JoinedTies
import Derived.KernelRfl
namespace Go.Proofs.Ytcnackecchjckaa
/- THE CELL 'sum', in the pinned program and in every row, IS THE sha256 OF THE DUMP (.gsa) THAT YtcnackecchjckaaProg.lean LOADS. Nothing in Lean hashes anything: it is a label: what it is worth is what the hold of that sum in a sandbox is worth. -/
noncomputable def Try.pinned : Pinned := { name := "ytcnackecchjckaa", sum := "1cda06b2715ba38a2e8ef814164d94a6c7acc67da4afb9c54e119cde85d8d77f", checked := Try.checked }
namespace Rows
def none {H : Type} : Left H := { results := [], args := [] }

/-- 'laws.FnRuns': WHATEVER THE INPUT: true; the input reads as it did. -/
def fnRunsSpec : ChangeSpec := { name := "fnRuns", fn := fun _ => fun
  | [d] => { results := [.lit (.bool true)], args := [d] }
  | _ => none }
def fnRunsRow : OpenClaim := { program := "ytcnackecchjckaa", sum := "1cda06b2715ba38a2e8ef814164d94a6c7acc67da4afb9c54e119cde85d8d77f", func := "loop.example/g00496/laws.FnRuns", spec := "fnRuns", unfollowed := true, recurses := true, apart := false }
def FnRunsSaid : Prop := fnRunsRow.holds Try.pinned (OpenSpec.ofChange fnRunsSpec)

/-- ITS FALSE NEIGHBOUR: 'it returns false'. Refute it at one input. -/
def fnRunsWrong : ChangeSpec := { name := "fnRuns", fn := fun _ => fun
  | [d] => { results := [.lit (.bool false)], args := [d] }
  | _ => none }
def FnRunsWrongFalsely : Prop := fnRunsRow.holds Try.pinned (OpenSpec.ofChange fnRunsWrong)

/-- 'laws.FnRunsBent': WHATEVER THE INPUT: true; the input reads as it did. -/
def fnRunsBentSpec : ChangeSpec := { name := "fnRunsBent", fn := fun _ => fun
  | [d] => { results := [.lit (.bool true)], args := [d] }
  | _ => none }
def fnRunsBentRow : OpenClaim := { program := "ytcnackecchjckaa", sum := "1cda06b2715ba38a2e8ef814164d94a6c7acc67da4afb9c54e119cde85d8d77f", func := "loop.example/g00496/laws.FnRunsBent", spec := "fnRunsBent", unfollowed := true, recurses := true, apart := false }
def FnRunsBentSaid : Prop := fnRunsBentRow.holds Try.pinned (OpenSpec.ofChange fnRunsBentSpec)

/-- ITS FALSE NEIGHBOUR: 'it returns false'. Refute it at one input. -/
def fnRunsBentWrong : ChangeSpec := { name := "fnRunsBent", fn := fun _ => fun
  | [d] => { results := [.lit (.bool false)], args := [d] }
  | _ => none }
def FnRunsBentWrongFalsely : Prop := fnRunsBentRow.holds Try.pinned (OpenSpec.ofChange fnRunsBentWrong)

/-- 'laws.FnExactRuns': WHATEVER THE INPUT: true; the input reads as it did. -/
def fnExactRunsSpec : ChangeSpec := { name := "fnExactRuns", fn := fun _ => fun
  | [d] => { results := [.lit (.bool true)], args := [d] }
  | _ => none }
def fnExactRunsRow : OpenClaim := { program := "ytcnackecchjckaa", sum := "1cda06b2715ba38a2e8ef814164d94a6c7acc67da4afb9c54e119cde85d8d77f", func := "loop.example/g00496/laws.FnExactRuns", spec := "fnExactRuns", unfollowed := true, recurses := true, apart := false }
def FnExactRunsSaid : Prop := fnExactRunsRow.holds Try.pinned (OpenSpec.ofChange fnExactRunsSpec)

/-- ITS FALSE NEIGHBOUR: 'it returns false'. Refute it at one input. -/
def fnExactRunsWrong : ChangeSpec := { name := "fnExactRuns", fn := fun _ => fun
  | [d] => { results := [.lit (.bool false)], args := [d] }
  | _ => none }
def FnExactRunsWrongFalsely : Prop := fnExactRunsRow.holds Try.pinned (OpenSpec.ofChange fnExactRunsWrong)

/-- 'laws.FnExactSpread': WHATEVER THE INPUT: true; the input reads as it did. -/
def fnExactSpreadSpec : ChangeSpec := { name := "fnExactSpread", fn := fun _ => fun
  | [d] => { results := [.lit (.bool true)], args := [d] }
  | _ => none }
def fnExactSpreadRow : OpenClaim := { program := "ytcnackecchjckaa", sum := "1cda06b2715ba38a2e8ef814164d94a6c7acc67da4afb9c54e119cde85d8d77f", func := "loop.example/g00496/laws.FnExactSpread", spec := "fnExactSpread", apart := false }
def FnExactSpreadSaid : Prop := fnExactSpreadRow.holds Try.pinned (OpenSpec.ofChange fnExactSpreadSpec)

/-- ITS FALSE NEIGHBOUR: 'it returns false'. Refute it at one input. -/
def fnExactSpreadWrong : ChangeSpec := { name := "fnExactSpread", fn := fun _ => fun
  | [d] => { results := [.lit (.bool false)], args := [d] }
  | _ => none }
def FnExactSpreadWrongFalsely : Prop := fnExactSpreadRow.holds Try.pinned (OpenSpec.ofChange fnExactSpreadWrong)

/-- 'laws.FnExactEncRuns': WHATEVER THE INPUT: true; the input reads as it did. -/
def fnExactEncRunsSpec : ChangeSpec := { name := "fnExactEncRuns", fn := fun _ => fun
  | [d] => { results := [.lit (.bool true)], args := [d] }
  | _ => none }
def fnExactEncRunsRow : OpenClaim := { program := "ytcnackecchjckaa", sum := "1cda06b2715ba38a2e8ef814164d94a6c7acc67da4afb9c54e119cde85d8d77f", func := "loop.example/g00496/laws.FnExactEncRuns", spec := "fnExactEncRuns", unfollowed := true, recurses := true, apart := false }
def FnExactEncRunsSaid : Prop := fnExactEncRunsRow.holds Try.pinned (OpenSpec.ofChange fnExactEncRunsSpec)

/-- ITS FALSE NEIGHBOUR: 'it returns false'. Refute it at one input. -/
def fnExactEncRunsWrong : ChangeSpec := { name := "fnExactEncRuns", fn := fun _ => fun
  | [d] => { results := [.lit (.bool false)], args := [d] }
  | _ => none }
def FnExactEncRunsWrongFalsely : Prop := fnExactEncRunsRow.holds Try.pinned (OpenSpec.ofChange fnExactEncRunsWrong)

/-- 'laws.FnExactDecRuns': WHATEVER THE INPUT: true; the input reads as it did. -/
def fnExactDecRunsSpec : ChangeSpec := { name := "fnExactDecRuns", fn := fun _ => fun
  | [d1, d2, d3] => { results := [.lit (.bool true)], args := [d1, d2, d3] }
  | _ => none }
def fnExactDecRunsRow : OpenClaim := { program := "ytcnackecchjckaa", sum := "1cda06b2715ba38a2e8ef814164d94a6c7acc67da4afb9c54e119cde85d8d77f", func := "loop.example/g00496/laws.FnExactDecRuns", spec := "fnExactDecRuns", unfollowed := true, recurses := true, apart := false }
def FnExactDecRunsSaid : Prop := fnExactDecRunsRow.holds Try.pinned (OpenSpec.ofChange fnExactDecRunsSpec)

/-- ITS FALSE NEIGHBOUR: 'it returns false'. Refute it at one input. -/
def fnExactDecRunsWrong : ChangeSpec := { name := "fnExactDecRuns", fn := fun _ => fun
  | [d1, d2, d3] => { results := [.lit (.bool false)], args := [d1, d2, d3] }
  | _ => none }
def FnExactDecRunsWrongFalsely : Prop := fnExactDecRunsRow.holds Try.pinned (OpenSpec.ofChange fnExactDecRunsWrong)

/-- 'laws.FnExactLongestRun': WHATEVER THE INPUT: true; the input reads as it did. -/
def fnExactLongestRunSpec : ChangeSpec := { name := "fnExactLongestRun", fn := fun _ => fun
  | [d] => { results := [.lit (.bool true)], args := [d] }
  | _ => none }
def fnExactLongestRunRow : OpenClaim := { program := "ytcnackecchjckaa", sum := "1cda06b2715ba38a2e8ef814164d94a6c7acc67da4afb9c54e119cde85d8d77f", func := "loop.example/g00496/laws.FnExactLongestRun", spec := "fnExactLongestRun", unfollowed := true, recurses := true, apart := false }
def FnExactLongestRunSaid : Prop := fnExactLongestRunRow.holds Try.pinned (OpenSpec.ofChange fnExactLongestRunSpec)

/-- ITS FALSE NEIGHBOUR: 'it returns false'. Refute it at one input. -/
def fnExactLongestRunWrong : ChangeSpec := { name := "fnExactLongestRun", fn := fun _ => fun
  | [d] => { results := [.lit (.bool false)], args := [d] }
  | _ => none }
def FnExactLongestRunWrongFalsely : Prop := fnExactLongestRunRow.holds Try.pinned (OpenSpec.ofChange fnExactLongestRunWrong)

/-- 'laws.FnExactTurns': WHATEVER THE INPUT: true; the input reads as it did. -/
def fnExactTurnsSpec : ChangeSpec := { name := "fnExactTurns", fn := fun _ => fun
  | [d] => { results := [.lit (.bool true)], args := [d] }
  | _ => none }
def fnExactTurnsRow : OpenClaim := { program := "ytcnackecchjckaa", sum := "1cda06b2715ba38a2e8ef814164d94a6c7acc67da4afb9c54e119cde85d8d77f", func := "loop.example/g00496/laws.FnExactTurns", spec := "fnExactTurns", apart := false }
def FnExactTurnsSaid : Prop := fnExactTurnsRow.holds Try.pinned (OpenSpec.ofChange fnExactTurnsSpec)

/-- ITS FALSE NEIGHBOUR: 'it returns false'. Refute it at one input. -/
def fnExactTurnsWrong : ChangeSpec := { name := "fnExactTurns", fn := fun _ => fun
  | [d] => { results := [.lit (.bool false)], args := [d] }
  | _ => none }
def FnExactTurnsWrongFalsely : Prop := fnExactTurnsRow.holds Try.pinned (OpenSpec.ofChange fnExactTurnsWrong)

/- THE SECOND FORM. 'bulk': how many values and letters a reading holds, each counted each time it is reached (what is shared counts as often as it is met; a slice's spare places count too). A statement '..UptoSaid' is the law's where the arguments, and the package variables that the reading takes, are together of bulk at most 1048576: NARROWER than '..Said'. Prove '..Said' where nothing that the law and all that it calls make is longer than what came in: it says more and counts as full. Else prove '..UptoSaid'. A law counts once. -/
mutual
def uptoBulk {H : Type} : DataW H → Nat
  | .lit (.string bytes) => bytes.length + 1
  | .lit _ => 1
  | .nil => 1
  | .ptr d => uptoBulk d + 1
  | .slice elems spare => uptoBulkAll elems + uptoBulkAll spare + 1
  | .agg parts => uptoBulkAll parts + 1
  | .iface _ d => uptoBulk d + 1
  | .map entries => uptoBulkEntries entries + 1
  | .held _ => 1
def uptoBulkAll {H : Type} : List (DataW H) → Nat
  | [] => 0
  | d :: r => uptoBulk d + uptoBulkAll r
def uptoBulkEntries {H : Type} : List (Lit × DataW H) → Nat
  | [] => 0
  | x :: r => uptoBulkEntry x + uptoBulkEntries r
def uptoBulkEntry {H : Type} : Lit × DataW H → Nat
  | (.string bytes, d) => bytes.length + uptoBulk d + 1
  | (_, d) => uptoBulk d + 1
 end
def uptoSmall : (H : Type) → List (DataW H) → Bool := fun _ ds => decide (uptoBulkAll ds ≤ 1048576)
def OpenSpec.upto (s : _root_.Go.ChangeSpec) : _root_.Go.OpenSpec := { _root_.Go.OpenSpec.ofChange s with cond := some uptoSmall }

/-- 'laws.FnRuns', WHERE WHAT IT READS IS OF BULK AT MOST 1048576: true; the input reads as it did. -/
def fnRunsUptoRow : OpenClaim := { program := "ytcnackecchjckaa", sum := "1cda06b2715ba38a2e8ef814164d94a6c7acc67da4afb9c54e119cde85d8d77f", func := "loop.example/g00496/laws.FnRuns", spec := "fnRuns", unfollowed := true, recurses := true, apart := false, narrowed := true }
def FnRunsUptoSaid : Prop := fnRunsUptoRow.holds Try.pinned (OpenSpec.upto fnRunsSpec)

/-- 'laws.FnRunsBent', WHERE WHAT IT READS IS OF BULK AT MOST 1048576: true; the input reads as it did. -/
def fnRunsBentUptoRow : OpenClaim := { program := "ytcnackecchjckaa", sum := "1cda06b2715ba38a2e8ef814164d94a6c7acc67da4afb9c54e119cde85d8d77f", func := "loop.example/g00496/laws.FnRunsBent", spec := "fnRunsBent", unfollowed := true, recurses := true, apart := false, narrowed := true }
def FnRunsBentUptoSaid : Prop := fnRunsBentUptoRow.holds Try.pinned (OpenSpec.upto fnRunsBentSpec)

/-- 'laws.FnExactRuns', WHERE WHAT IT READS IS OF BULK AT MOST 1048576: true; the input reads as it did. -/
def fnExactRunsUptoRow : OpenClaim := { program := "ytcnackecchjckaa", sum := "1cda06b2715ba38a2e8ef814164d94a6c7acc67da4afb9c54e119cde85d8d77f", func := "loop.example/g00496/laws.FnExactRuns", spec := "fnExactRuns", unfollowed := true, recurses := true, apart := false, narrowed := true }
def FnExactRunsUptoSaid : Prop := fnExactRunsUptoRow.holds Try.pinned (OpenSpec.upto fnExactRunsSpec)

/-- 'laws.FnExactSpread', WHERE WHAT IT READS IS OF BULK AT MOST 1048576: true; the input reads as it did. -/
def fnExactSpreadUptoRow : OpenClaim := { program := "ytcnackecchjckaa", sum := "1cda06b2715ba38a2e8ef814164d94a6c7acc67da4afb9c54e119cde85d8d77f", func := "loop.example/g00496/laws.FnExactSpread", spec := "fnExactSpread", apart := false, narrowed := true }
def FnExactSpreadUptoSaid : Prop := fnExactSpreadUptoRow.holds Try.pinned (OpenSpec.upto fnExactSpreadSpec)

/-- 'laws.FnExactEncRuns', WHERE WHAT IT READS IS OF BULK AT MOST 1048576: true; the input reads as it did. -/
def fnExactEncRunsUptoRow : OpenClaim := { program := "ytcnackecchjckaa", sum := "1cda06b2715ba38a2e8ef814164d94a6c7acc67da4afb9c54e119cde85d8d77f", func := "loop.example/g00496/laws.FnExactEncRuns", spec := "fnExactEncRuns", unfollowed := true, recurses := true, apart := false, narrowed := true }
def FnExactEncRunsUptoSaid : Prop := fnExactEncRunsUptoRow.holds Try.pinned (OpenSpec.upto fnExactEncRunsSpec)

/-- 'laws.FnExactDecRuns', WHERE WHAT IT READS IS OF BULK AT MOST 1048576: true; the input reads as it did. -/
def fnExactDecRunsUptoRow : OpenClaim := { program := "ytcnackecchjckaa", sum := "1cda06b2715ba38a2e8ef814164d94a6c7acc67da4afb9c54e119cde85d8d77f", func := "loop.example/g00496/laws.FnExactDecRuns", spec := "fnExactDecRuns", unfollowed := true, recurses := true, apart := false, narrowed := true }
def FnExactDecRunsUptoSaid : Prop := fnExactDecRunsUptoRow.holds Try.pinned (OpenSpec.upto fnExactDecRunsSpec)

/-- 'laws.FnExactLongestRun', WHERE WHAT IT READS IS OF BULK AT MOST 1048576: true; the input reads as it did. -/
def fnExactLongestRunUptoRow : OpenClaim := { program := "ytcnackecchjckaa", sum := "1cda06b2715ba38a2e8ef814164d94a6c7acc67da4afb9c54e119cde85d8d77f", func := "loop.example/g00496/laws.FnExactLongestRun", spec := "fnExactLongestRun", unfollowed := true, recurses := true, apart := false, narrowed := true }
def FnExactLongestRunUptoSaid : Prop := fnExactLongestRunUptoRow.holds Try.pinned (OpenSpec.upto fnExactLongestRunSpec)

/-- 'laws.FnExactTurns', WHERE WHAT IT READS IS OF BULK AT MOST 1048576: true; the input reads as it did. -/
def fnExactTurnsUptoRow : OpenClaim := { program := "ytcnackecchjckaa", sum := "1cda06b2715ba38a2e8ef814164d94a6c7acc67da4afb9c54e119cde85d8d77f", func := "loop.example/g00496/laws.FnExactTurns", spec := "fnExactTurns", apart := false, narrowed := true }
def FnExactTurnsUptoSaid : Prop := fnExactTurnsUptoRow.holds Try.pinned (OpenSpec.upto fnExactTurnsSpec)

end Rows
end Go.Proofs.Ytcnackecchjckaa
