/-
  No cell of these rows narrows 'for every input' (looked for: loops, veiled, ifaces, maps, wideKeys, modest, calm, conditions, laid).
  DERIVED. THE GIVEN ROWS OF THIS SEAT. 7 by the template 'for every input the law returns true; each argument reads behind the call as it read before'; 0 by the template 'total and deterministic' (their statements: YtoidpibdjijamaaTotals.lean).
  GIVEN WITH THE SEED: the statements are not yours to turn. If you find one false, say at which input.
  Laid BY PROGRAM, IN A SANDBOX (cutbox-rows.mjs): the forced cells as the released guide's own fill.sh prints them over the translation 6c2fb550f0745cbd… (all of the seat's roots in one cut). By AI agents, Wed Nov 11 2026. No macro, syntax, notation, axiom, sorry.
-/
import Derived.Test.YtoidpibdjijamaaChecked
import GoSem.Claim
import GoSem.ClaimJoined
import GoSem.ClaimMapViews
import Derived.JoinedTies
import Derived.KernelRfl
namespace Go.Proofs.Ytoidpibdjijamaa
/- THE CELL 'sum', in the pinned program and in every row, IS THE sha256 OF THE DUMP (.gsa) THAT YtoidpibdjijamaaProg.lean LOADS. Nothing in Lean hashes anything: it is a label: what it is worth is what the hold of that sum in a sandbox is worth. -/
noncomputable def Try.pinned : Pinned := { name := "ytoidpibdjijamaa", sum := "6c2fb550f0745cbda9f0301978d950783887a0c48e9ebede266daf6dd08d4373", checked := Try.checked }
namespace Rows
def none {H : Type} : Left H := { results := [], args := [] }

/-- 'laws.FnDicts': WHATEVER THE INPUT: true; the input reads as it did. -/
def fnDictsSpec : ChangeSpec := { name := "fnDicts", fn := fun _ => fun
  | [d] => { results := [.lit (.bool true)], args := [d] }
  | _ => none }
def fnDictsRow : OpenClaim := { program := "ytoidpibdjijamaa", sum := "6c2fb550f0745cbda9f0301978d950783887a0c48e9ebede266daf6dd08d4373", func := "loop.example/g00496/laws.FnDicts", spec := "fnDicts", unfollowed := true, recurses := true, plainKeys := false, apart := false }
def FnDictsSaid : Prop := fnDictsRow.holds Try.pinned (OpenSpec.ofChange fnDictsSpec)

/-- ITS FALSE NEIGHBOUR: 'it returns false'. Refute it at one input. -/
def fnDictsWrong : ChangeSpec := { name := "fnDicts", fn := fun _ => fun
  | [d] => { results := [.lit (.bool false)], args := [d] }
  | _ => none }
def FnDictsWrongFalsely : Prop := fnDictsRow.holds Try.pinned (OpenSpec.ofChange fnDictsWrong)

/-- 'laws.FnExactDict': WHATEVER THE INPUT: true; the input reads as it did. -/
def fnExactDictSpec : ChangeSpec := { name := "fnExactDict", fn := fun _ => fun
  | [d] => { results := [.lit (.bool true)], args := [d] }
  | _ => none }
def fnExactDictRow : OpenClaim := { program := "ytoidpibdjijamaa", sum := "6c2fb550f0745cbda9f0301978d950783887a0c48e9ebede266daf6dd08d4373", func := "loop.example/g00496/laws.FnExactDict", spec := "fnExactDict", unfollowed := true, recurses := true, plainKeys := false, apart := false }
def FnExactDictSaid : Prop := fnExactDictRow.holds Try.pinned (OpenSpec.ofChange fnExactDictSpec)

/-- ITS FALSE NEIGHBOUR: 'it returns false'. Refute it at one input. -/
def fnExactDictWrong : ChangeSpec := { name := "fnExactDict", fn := fun _ => fun
  | [d] => { results := [.lit (.bool false)], args := [d] }
  | _ => none }
def FnExactDictWrongFalsely : Prop := fnExactDictRow.holds Try.pinned (OpenSpec.ofChange fnExactDictWrong)

/-- 'laws.FnExactInDict': WHATEVER THE INPUT: true; the input reads as it did. -/
def fnExactInDictSpec : ChangeSpec := { name := "fnExactInDict", fn := fun _ => fun
  | [d1, d2] => { results := [.lit (.bool true)], args := [d1, d2] }
  | _ => none }
def fnExactInDictRow : OpenClaim := { program := "ytoidpibdjijamaa", sum := "6c2fb550f0745cbda9f0301978d950783887a0c48e9ebede266daf6dd08d4373", func := "loop.example/g00496/laws.FnExactInDict", spec := "fnExactInDict", plainKeys := false, apart := false }
def FnExactInDictSaid : Prop := fnExactInDictRow.holds Try.pinned (OpenSpec.ofChange fnExactInDictSpec)

/-- ITS FALSE NEIGHBOUR: 'it returns false'. Refute it at one input. -/
def fnExactInDictWrong : ChangeSpec := { name := "fnExactInDict", fn := fun _ => fun
  | [d1, d2] => { results := [.lit (.bool false)], args := [d1, d2] }
  | _ => none }
def FnExactInDictWrongFalsely : Prop := fnExactInDictRow.holds Try.pinned (OpenSpec.ofChange fnExactInDictWrong)

/-- 'laws.FnExactPlaces': WHATEVER THE INPUT: true; the input reads as it did. -/
def fnExactPlacesSpec : ChangeSpec := { name := "fnExactPlaces", fn := fun _ => fun
  | [d1, d2] => { results := [.lit (.bool true)], args := [d1, d2] }
  | _ => none }
def fnExactPlacesRow : OpenClaim := { program := "ytoidpibdjijamaa", sum := "6c2fb550f0745cbda9f0301978d950783887a0c48e9ebede266daf6dd08d4373", func := "loop.example/g00496/laws.FnExactPlaces", spec := "fnExactPlaces", unfollowed := true, recurses := true, plainKeys := false, apart := false }
def FnExactPlacesSaid : Prop := fnExactPlacesRow.holds Try.pinned (OpenSpec.ofChange fnExactPlacesSpec)

/-- ITS FALSE NEIGHBOUR: 'it returns false'. Refute it at one input. -/
def fnExactPlacesWrong : ChangeSpec := { name := "fnExactPlaces", fn := fun _ => fun
  | [d1, d2] => { results := [.lit (.bool false)], args := [d1, d2] }
  | _ => none }
def FnExactPlacesWrongFalsely : Prop := fnExactPlacesRow.holds Try.pinned (OpenSpec.ofChange fnExactPlacesWrong)

/-- 'laws.FnExactPicked': WHATEVER THE INPUT: true; the input reads as it did. -/
def fnExactPickedSpec : ChangeSpec := { name := "fnExactPicked", fn := fun _ => fun
  | [d1, d2] => { results := [.lit (.bool true)], args := [d1, d2] }
  | _ => none }
def fnExactPickedRow : OpenClaim := { program := "ytoidpibdjijamaa", sum := "6c2fb550f0745cbda9f0301978d950783887a0c48e9ebede266daf6dd08d4373", func := "loop.example/g00496/laws.FnExactPicked", spec := "fnExactPicked", plainKeys := false, apart := false }
def FnExactPickedSaid : Prop := fnExactPickedRow.holds Try.pinned (OpenSpec.ofChange fnExactPickedSpec)

/-- ITS FALSE NEIGHBOUR: 'it returns false'. Refute it at one input. -/
def fnExactPickedWrong : ChangeSpec := { name := "fnExactPicked", fn := fun _ => fun
  | [d1, d2] => { results := [.lit (.bool false)], args := [d1, d2] }
  | _ => none }
def FnExactPickedWrongFalsely : Prop := fnExactPickedRow.holds Try.pinned (OpenSpec.ofChange fnExactPickedWrong)

/-- 'laws.FnExactEncDict': WHATEVER THE INPUT: true; the input reads as it did. -/
def fnExactEncDictSpec : ChangeSpec := { name := "fnExactEncDict", fn := fun _ => fun
  | [d] => { results := [.lit (.bool true)], args := [d] }
  | _ => none }
def fnExactEncDictRow : OpenClaim := { program := "ytoidpibdjijamaa", sum := "6c2fb550f0745cbda9f0301978d950783887a0c48e9ebede266daf6dd08d4373", func := "loop.example/g00496/laws.FnExactEncDict", spec := "fnExactEncDict", unfollowed := true, recurses := true, plainKeys := false, apart := false }
def FnExactEncDictSaid : Prop := fnExactEncDictRow.holds Try.pinned (OpenSpec.ofChange fnExactEncDictSpec)

/-- ITS FALSE NEIGHBOUR: 'it returns false'. Refute it at one input. -/
def fnExactEncDictWrong : ChangeSpec := { name := "fnExactEncDict", fn := fun _ => fun
  | [d] => { results := [.lit (.bool false)], args := [d] }
  | _ => none }
def FnExactEncDictWrongFalsely : Prop := fnExactEncDictRow.holds Try.pinned (OpenSpec.ofChange fnExactEncDictWrong)

/-- 'laws.FnExactDecDict': WHATEVER THE INPUT: true; the input reads as it did. -/
def fnExactDecDictSpec : ChangeSpec := { name := "fnExactDecDict", fn := fun _ => fun
  | [d1, d2, d3] => { results := [.lit (.bool true)], args := [d1, d2, d3] }
  | _ => none }
def fnExactDecDictRow : OpenClaim := { program := "ytoidpibdjijamaa", sum := "6c2fb550f0745cbda9f0301978d950783887a0c48e9ebede266daf6dd08d4373", func := "loop.example/g00496/laws.FnExactDecDict", spec := "fnExactDecDict", unfollowed := true, recurses := true, plainKeys := false, apart := false }
def FnExactDecDictSaid : Prop := fnExactDecDictRow.holds Try.pinned (OpenSpec.ofChange fnExactDecDictSpec)

/-- ITS FALSE NEIGHBOUR: 'it returns false'. Refute it at one input. -/
def fnExactDecDictWrong : ChangeSpec := { name := "fnExactDecDict", fn := fun _ => fun
  | [d1, d2, d3] => { results := [.lit (.bool false)], args := [d1, d2, d3] }
  | _ => none }
def FnExactDecDictWrongFalsely : Prop := fnExactDecDictRow.holds Try.pinned (OpenSpec.ofChange fnExactDecDictWrong)

/- THE SECOND FORM. 'bulk': how many values and letters a reading holds, each counted each time it is reached (what is shared counts as often as it is met; a slice's spare places count too). A statement '..UptoSaid' is the law's where the arguments, and the package variables that the reading takes, are together of bulk at most 1048576: NARROWER than '..Said'. Prove '..Said' where nothing that the law and all that it calls make is longer than what came in: it says more and counts as full. Else prove '..UptoSaid'. A law counts once. -/
mutual
def uptoBulk {H : Type} : DataW H → Nat
  | .lit (.string bytes) => bytes.length + 1
  | .lit _ => 1
  | .nil => 1
  | .ptr d => uptoBulk d + 1
  | .slice elems spare => uptoBulkAll elems + uptoBulkAll spare + 1
  | .agg parts => uptoBulkAll parts + 1
  | .iface _ d => uptoBulk d + 1
  | .map entries => uptoBulkEntries entries + 1
  | .held _ => 1
def uptoBulkAll {H : Type} : List (DataW H) → Nat
  | [] => 0
  | d :: r => uptoBulk d + uptoBulkAll r
def uptoBulkEntries {H : Type} : List (Lit × DataW H) → Nat
  | [] => 0
  | x :: r => uptoBulkEntry x + uptoBulkEntries r
def uptoBulkEntry {H : Type} : Lit × DataW H → Nat
  | (.string bytes, d) => bytes.length + uptoBulk d + 1
  | (_, d) => uptoBulk d + 1
 end
def uptoSmall : (H : Type) → List (DataW H) → Bool := fun _ ds => decide (uptoBulkAll ds ≤ 1048576)
def OpenSpec.upto (s : _root_.Go.ChangeSpec) : _root_.Go.OpenSpec := { _root_.Go.OpenSpec.ofChange s with cond := some uptoSmall }

/-- 'laws.FnDicts', WHERE WHAT IT READS IS OF BULK AT MOST 1048576: true; the input reads as it did. -/
def fnDictsUptoRow : OpenClaim := { program := "ytoidpibdjijamaa", sum := "6c2fb550f0745cbda9f0301978d950783887a0c48e9ebede266daf6dd08d4373", func := "loop.example/g00496/laws.FnDicts", spec := "fnDicts", unfollowed := true, recurses := true, plainKeys := false, apart := false, narrowed := true }
def FnDictsUptoSaid : Prop := fnDictsUptoRow.holds Try.pinned (OpenSpec.upto fnDictsSpec)

/-- 'laws.FnExactDict', WHERE WHAT IT READS IS OF BULK AT MOST 1048576: true; the input reads as it did. -/
def fnExactDictUptoRow : OpenClaim := { program := "ytoidpibdjijamaa", sum := "6c2fb550f0745cbda9f0301978d950783887a0c48e9ebede266daf6dd08d4373", func := "loop.example/g00496/laws.FnExactDict", spec := "fnExactDict", unfollowed := true, recurses := true, plainKeys := false, apart := false, narrowed := true }
def FnExactDictUptoSaid : Prop := fnExactDictUptoRow.holds Try.pinned (OpenSpec.upto fnExactDictSpec)

/-- 'laws.FnExactInDict', WHERE WHAT IT READS IS OF BULK AT MOST 1048576: true; the input reads as it did. -/
def fnExactInDictUptoRow : OpenClaim := { program := "ytoidpibdjijamaa", sum := "6c2fb550f0745cbda9f0301978d950783887a0c48e9ebede266daf6dd08d4373", func := "loop.example/g00496/laws.FnExactInDict", spec := "fnExactInDict", plainKeys := false, apart := false, narrowed := true }
def FnExactInDictUptoSaid : Prop := fnExactInDictUptoRow.holds Try.pinned (OpenSpec.upto fnExactInDictSpec)

/-- 'laws.FnExactPlaces', WHERE WHAT IT READS IS OF BULK AT MOST 1048576: true; the input reads as it did. -/
def fnExactPlacesUptoRow : OpenClaim := { program := "ytoidpibdjijamaa", sum := "6c2fb550f0745cbda9f0301978d950783887a0c48e9ebede266daf6dd08d4373", func := "loop.example/g00496/laws.FnExactPlaces", spec := "fnExactPlaces", unfollowed := true, recurses := true, plainKeys := false, apart := false, narrowed := true }
def FnExactPlacesUptoSaid : Prop := fnExactPlacesUptoRow.holds Try.pinned (OpenSpec.upto fnExactPlacesSpec)

/-- 'laws.FnExactPicked', WHERE WHAT IT READS IS OF BULK AT MOST 1048576: true; the input reads as it did. -/
def fnExactPickedUptoRow : OpenClaim := { program := "ytoidpibdjijamaa", sum := "6c2fb550f0745cbda9f0301978d950783887a0c48e9ebede266daf6dd08d4373", func := "loop.example/g00496/laws.FnExactPicked", spec := "fnExactPicked", plainKeys := false, apart := false, narrowed := true }
def FnExactPickedUptoSaid : Prop := fnExactPickedUptoRow.holds Try.pinned (OpenSpec.upto fnExactPickedSpec)

/-- 'laws.FnExactEncDict', WHERE WHAT IT READS IS OF BULK AT MOST 1048576: true; the input reads as it did. -/
def fnExactEncDictUptoRow : OpenClaim := { program := "ytoidpibdjijamaa", sum := "6c2fb550f0745cbda9f0301978d950783887a0c48e9ebede266daf6dd08d4373", func := "loop.example/g00496/laws.FnExactEncDict", spec := "fnExactEncDict", unfollowed := true, recurses := true, plainKeys := false, apart := false, narrowed := true }
def FnExactEncDictUptoSaid : Prop := fnExactEncDictUptoRow.holds Try.pinned (OpenSpec.upto fnExactEncDictSpec)

/-- 'laws.FnExactDecDict', WHERE WHAT IT READS IS OF BULK AT MOST 1048576: true; the input reads as it did. -/
def fnExactDecDictUptoRow : OpenClaim := { program := "ytoidpibdjijamaa", sum := "6c2fb550f0745cbda9f0301978d950783887a0c48e9ebede266daf6dd08d4373", func := "loop.example/g00496/laws.FnExactDecDict", spec := "fnExactDecDict", unfollowed := true, recurses := true, plainKeys := false, apart := false, narrowed := true }
def FnExactDecDictUptoSaid : Prop := fnExactDecDictUptoRow.holds Try.pinned (OpenSpec.upto fnExactDecDictSpec)

end Rows
end Go.Proofs.Ytoidpibdjijamaa
