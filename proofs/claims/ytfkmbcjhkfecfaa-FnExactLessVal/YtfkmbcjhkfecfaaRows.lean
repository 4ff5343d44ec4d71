/-
  No cell of these rows narrows 'for every input' (looked for: loops, veiled, ifaces, maps, wideKeys, modest, calm, conditions, laid).
  DERIVED. THE GIVEN ROWS OF THIS SEAT. 5 by the template 'for every input the law returns true; each argument reads behind the call as it read before'; 0 by the template 'total and deterministic' (their statements: YtfkmbcjhkfecfaaTotals.lean).
  GIVEN WITH THE SEED: the statements are not yours to turn. If you find one false, say at which input.
  Laid BY PROGRAM, IN A SANDBOX (cutbox-rows.mjs): the forced cells as the released guide's own fill.sh prints them over the translation 7c6f23d23899c688… (all of the seat's roots in one cut). By AI agents, Wed Nov 11 2026. No macro, syntax, notation, axiom, sorry.
-/
import Derived.Test.YtfkmbcjhkfecfaaChecked
import GoSem.Claim
import GoSem.ClaimJoined
import GoSem.ClaimMapViews
import Derived.JoinedTies
import Derived.KernelRfl
namespace Go.Proofs.Ytfkmbcjhkfecfaa
/- THE CELL 'sum', in the pinned program and in every row, IS THE sha256 OF THE DUMP (.gsa) THAT YtfkmbcjhkfecfaaProg.lean LOADS. Nothing in Lean hashes anything: it is a label: what it is worth is what the hold of that sum in a sandbox is worth. -/
noncomputable def Try.pinned : Pinned := { name := "ytfkmbcjhkfecfaa", sum := "7c6f23d23899c688c52a1abc83adf6ca97b3538289620af4dd1d947ccb9c9d56", checked := Try.checked }
namespace Rows
def none {H : Type} : Left H := { results := [], args := [] }

/-- 'laws.FnExactValOk': WHATEVER THE INPUT: true; the input reads as it did. -/
def fnExactValOkSpec : ChangeSpec := { name := "fnExactValOk", fn := fun _ => fun
  | [d] => { results := [.lit (.bool true)], args := [d] }
  | _ => none }
def fnExactValOkRow : OpenClaim := { program := "ytfkmbcjhkfecfaa", sum := "7c6f23d23899c688c52a1abc83adf6ca97b3538289620af4dd1d947ccb9c9d56", func := "loop.example/g00496/laws.FnExactValOk", spec := "fnExactValOk", apart := false }
def FnExactValOkSaid : Prop := fnExactValOkRow.holds Try.pinned (OpenSpec.ofChange fnExactValOkSpec)

/-- ITS FALSE NEIGHBOUR: 'it returns false'. Refute it at one input. -/
def fnExactValOkWrong : ChangeSpec := { name := "fnExactValOk", fn := fun _ => fun
  | [d] => { results := [.lit (.bool false)], args := [d] }
  | _ => none }
def FnExactValOkWrongFalsely : Prop := fnExactValOkRow.holds Try.pinned (OpenSpec.ofChange fnExactValOkWrong)

/-- 'laws.FnExactLessVal': WHATEVER THE INPUT: true; the input reads as it did. -/
def fnExactLessValSpec : ChangeSpec := { name := "fnExactLessVal", fn := fun _ => fun
  | [d1, d2] => { results := [.lit (.bool true)], args := [d1, d2] }
  | _ => none }
def fnExactLessValRow : OpenClaim := { program := "ytfkmbcjhkfecfaa", sum := "7c6f23d23899c688c52a1abc83adf6ca97b3538289620af4dd1d947ccb9c9d56", func := "loop.example/g00496/laws.FnExactLessVal", spec := "fnExactLessVal", apart := false }
def FnExactLessValSaid : Prop := fnExactLessValRow.holds Try.pinned (OpenSpec.ofChange fnExactLessValSpec)

/-- ITS FALSE NEIGHBOUR: 'it returns false'. Refute it at one input. -/
def fnExactLessValWrong : ChangeSpec := { name := "fnExactLessVal", fn := fun _ => fun
  | [d1, d2] => { results := [.lit (.bool false)], args := [d1, d2] }
  | _ => none }
def FnExactLessValWrongFalsely : Prop := fnExactLessValRow.holds Try.pinned (OpenSpec.ofChange fnExactLessValWrong)

/-- 'laws.FnExactSameVals': WHATEVER THE INPUT: true; the input reads as it did. -/
def fnExactSameValsSpec : ChangeSpec := { name := "fnExactSameVals", fn := fun _ => fun
  | [d1, d2] => { results := [.lit (.bool true)], args := [d1, d2] }
  | _ => none }
def fnExactSameValsRow : OpenClaim := { program := "ytfkmbcjhkfecfaa", sum := "7c6f23d23899c688c52a1abc83adf6ca97b3538289620af4dd1d947ccb9c9d56", func := "loop.example/g00496/laws.FnExactSameVals", spec := "fnExactSameVals", apart := false }
def FnExactSameValsSaid : Prop := fnExactSameValsRow.holds Try.pinned (OpenSpec.ofChange fnExactSameValsSpec)

/-- ITS FALSE NEIGHBOUR: 'it returns false'. Refute it at one input. -/
def fnExactSameValsWrong : ChangeSpec := { name := "fnExactSameVals", fn := fun _ => fun
  | [d1, d2] => { results := [.lit (.bool false)], args := [d1, d2] }
  | _ => none }
def FnExactSameValsWrongFalsely : Prop := fnExactSameValsRow.holds Try.pinned (OpenSpec.ofChange fnExactSameValsWrong)

/-- 'laws.FnExactNumsOf': WHATEVER THE INPUT: true; the input reads as it did. -/
def fnExactNumsOfSpec : ChangeSpec := { name := "fnExactNumsOf", fn := fun _ => fun
  | [d] => { results := [.lit (.bool true)], args := [d] }
  | _ => none }
def fnExactNumsOfRow : OpenClaim := { program := "ytfkmbcjhkfecfaa", sum := "7c6f23d23899c688c52a1abc83adf6ca97b3538289620af4dd1d947ccb9c9d56", func := "loop.example/g00496/laws.FnExactNumsOf", spec := "fnExactNumsOf", apart := false }
def FnExactNumsOfSaid : Prop := fnExactNumsOfRow.holds Try.pinned (OpenSpec.ofChange fnExactNumsOfSpec)

/-- ITS FALSE NEIGHBOUR: 'it returns false'. Refute it at one input. -/
def fnExactNumsOfWrong : ChangeSpec := { name := "fnExactNumsOf", fn := fun _ => fun
  | [d] => { results := [.lit (.bool false)], args := [d] }
  | _ => none }
def FnExactNumsOfWrongFalsely : Prop := fnExactNumsOfRow.holds Try.pinned (OpenSpec.ofChange fnExactNumsOfWrong)

/-- 'laws.FnExactTextsOf': WHATEVER THE INPUT: true; the input reads as it did. -/
def fnExactTextsOfSpec : ChangeSpec := { name := "fnExactTextsOf", fn := fun _ => fun
  | [d] => { results := [.lit (.bool true)], args := [d] }
  | _ => none }
def fnExactTextsOfRow : OpenClaim := { program := "ytfkmbcjhkfecfaa", sum := "7c6f23d23899c688c52a1abc83adf6ca97b3538289620af4dd1d947ccb9c9d56", func := "loop.example/g00496/laws.FnExactTextsOf", spec := "fnExactTextsOf", apart := false }
def FnExactTextsOfSaid : Prop := fnExactTextsOfRow.holds Try.pinned (OpenSpec.ofChange fnExactTextsOfSpec)

/-- ITS FALSE NEIGHBOUR: 'it returns false'. Refute it at one input. -/
def fnExactTextsOfWrong : ChangeSpec := { name := "fnExactTextsOf", fn := fun _ => fun
  | [d] => { results := [.lit (.bool false)], args := [d] }
  | _ => none }
def FnExactTextsOfWrongFalsely : Prop := fnExactTextsOfRow.holds Try.pinned (OpenSpec.ofChange fnExactTextsOfWrong)

/- THE SECOND FORM. 'bulk': how many values and letters a reading holds, each counted each time it is reached (what is shared counts as often as it is met; a slice's spare places count too). A statement '..UptoSaid' is the law's where the arguments, and the package variables that the reading takes, are together of bulk at most 1048576: NARROWER than '..Said'. Prove '..Said' where nothing that the law and all that it calls make is longer than what came in: it says more and counts as full. Else prove '..UptoSaid'. A law counts once. -/
mutual
def uptoBulk {H : Type} : DataW H → Nat
  | .lit (.string bytes) => bytes.length + 1
  | .lit _ => 1
  | .nil => 1
  | .ptr d => uptoBulk d + 1
  | .slice elems spare => uptoBulkAll elems + uptoBulkAll spare + 1
  | .agg parts => uptoBulkAll parts + 1
  | .iface _ d => uptoBulk d + 1
  | .map entries => uptoBulkEntries entries + 1
  | .held _ => 1
def uptoBulkAll {H : Type} : List (DataW H) → Nat
  | [] => 0
  | d :: r => uptoBulk d + uptoBulkAll r
def uptoBulkEntries {H : Type} : List (Lit × DataW H) → Nat
  | [] => 0
  | x :: r => uptoBulkEntry x + uptoBulkEntries r
def uptoBulkEntry {H : Type} : Lit × DataW H → Nat
  | (.string bytes, d) => bytes.length + uptoBulk d + 1
  | (_, d) => uptoBulk d + 1
 end
def uptoSmall : (H : Type) → List (DataW H) → Bool := fun _ ds => decide (uptoBulkAll ds ≤ 1048576)
def OpenSpec.upto (s : _root_.Go.ChangeSpec) : _root_.Go.OpenSpec := { _root_.Go.OpenSpec.ofChange s with cond := some uptoSmall }

/-- 'laws.FnExactValOk', WHERE WHAT IT READS IS OF BULK AT MOST 1048576: true; the input reads as it did. -/
def fnExactValOkUptoRow : OpenClaim := { program := "ytfkmbcjhkfecfaa", sum := "7c6f23d23899c688c52a1abc83adf6ca97b3538289620af4dd1d947ccb9c9d56", func := "loop.example/g00496/laws.FnExactValOk", spec := "fnExactValOk", apart := false, narrowed := true }
def FnExactValOkUptoSaid : Prop := fnExactValOkUptoRow.holds Try.pinned (OpenSpec.upto fnExactValOkSpec)

/-- 'laws.FnExactLessVal', WHERE WHAT IT READS IS OF BULK AT MOST 1048576: true; the input reads as it did. -/
def fnExactLessValUptoRow : OpenClaim := { program := "ytfkmbcjhkfecfaa", sum := "7c6f23d23899c688c52a1abc83adf6ca97b3538289620af4dd1d947ccb9c9d56", func := "loop.example/g00496/laws.FnExactLessVal", spec := "fnExactLessVal", apart := false, narrowed := true }
def FnExactLessValUptoSaid : Prop := fnExactLessValUptoRow.holds Try.pinned (OpenSpec.upto fnExactLessValSpec)

/-- 'laws.FnExactSameVals', WHERE WHAT IT READS IS OF BULK AT MOST 1048576: true; the input reads as it did. -/
def fnExactSameValsUptoRow : OpenClaim := { program := "ytfkmbcjhkfecfaa", sum := "7c6f23d23899c688c52a1abc83adf6ca97b3538289620af4dd1d947ccb9c9d56", func := "loop.example/g00496/laws.FnExactSameVals", spec := "fnExactSameVals", apart := false, narrowed := true }
def FnExactSameValsUptoSaid : Prop := fnExactSameValsUptoRow.holds Try.pinned (OpenSpec.upto fnExactSameValsSpec)

/-- 'laws.FnExactNumsOf', WHERE WHAT IT READS IS OF BULK AT MOST 1048576: true; the input reads as it did. -/
def fnExactNumsOfUptoRow : OpenClaim := { program := "ytfkmbcjhkfecfaa", sum := "7c6f23d23899c688c52a1abc83adf6ca97b3538289620af4dd1d947ccb9c9d56", func := "loop.example/g00496/laws.FnExactNumsOf", spec := "fnExactNumsOf", apart := false, narrowed := true }
def FnExactNumsOfUptoSaid : Prop := fnExactNumsOfUptoRow.holds Try.pinned (OpenSpec.upto fnExactNumsOfSpec)

/-- 'laws.FnExactTextsOf', WHERE WHAT IT READS IS OF BULK AT MOST 1048576: true; the input reads as it did. -/
def fnExactTextsOfUptoRow : OpenClaim := { program := "ytfkmbcjhkfecfaa", sum := "7c6f23d23899c688c52a1abc83adf6ca97b3538289620af4dd1d947ccb9c9d56", func := "loop.example/g00496/laws.FnExactTextsOf", spec := "fnExactTextsOf", apart := false, narrowed := true }
def FnExactTextsOfUptoSaid : Prop := fnExactTextsOfUptoRow.holds Try.pinned (OpenSpec.upto fnExactTextsOfSpec)

end Rows
end Go.Proofs.Ytfkmbcjhkfecfaa
