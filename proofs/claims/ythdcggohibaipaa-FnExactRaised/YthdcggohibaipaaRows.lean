/-
  No cell of these rows narrows 'for every input' (looked for: loops, veiled, ifaces, maps, wideKeys, modest, calm, conditions, laid).
  DERIVED. THE GIVEN ROWS OF THIS SEAT. 8 by the template 'for every input the law returns true; each argument reads behind the call as it read before'; 0 by the template 'total and deterministic' (their statements: YthdcggohibaipaaTotals.lean).
  GIVEN WITH THE SEED: the statements are not yours to turn. If you find one false, say at which input.
  Laid BY PROGRAM, IN A SANDBOX (cutbox-rows.mjs): the forced cells as the released guide's own fill.sh prints them over the translation 0f7f3d397098f056… (all of the seat's roots in one cut). By AI agents, Wed Nov 11 2026. No macro, syntax, notation, axiom, sorry.
-/
import Derived.Test.YthdcggohibaipaaChecked
import GoSem.Claim
import GoSem.ClaimJoined
import GoSem.ClaimMapViews
import Derived.JoinedTies
import Derived.KernelRfl
namespace Go.Proofs.Ythdcggohibaipaa
/- THE CELL 'sum', in the pinned program and in every row, IS THE sha256 OF THE DUMP (.gsa) THAT YthdcggohibaipaaProg.lean LOADS. Nothing in Lean hashes anything: it is a label: what it is worth is what the hold of that sum in a sandbox is worth. -/
noncomputable def Try.pinned : Pinned := { name := "ythdcggohibaipaa", sum := "0f7f3d397098f056f1dfd0f19a337be3f254e4be64bb62989ea0c524b897785c", checked := Try.checked }
namespace Rows
def none {H : Type} : Left H := { results := [], args := [] }

/-- 'laws.FnFrames': WHATEVER THE INPUT: true; the input reads as it did. -/
def fnFramesSpec : ChangeSpec := { name := "fnFrames", fn := fun _ => fun
  | [d] => { results := [.lit (.bool true)], args := [d] }
  | _ => none }
def fnFramesRow : OpenClaim := { program := "ythdcggohibaipaa", sum := "0f7f3d397098f056f1dfd0f19a337be3f254e4be64bb62989ea0c524b897785c", func := "loop.example/g00496/laws.FnFrames", spec := "fnFrames", unfollowed := true, recurses := true, apart := false }
def FnFramesSaid : Prop := fnFramesRow.holds Try.pinned (OpenSpec.ofChange fnFramesSpec)

/-- ITS FALSE NEIGHBOUR: 'it returns false'. Refute it at one input. -/
def fnFramesWrong : ChangeSpec := { name := "fnFrames", fn := fun _ => fun
  | [d] => { results := [.lit (.bool false)], args := [d] }
  | _ => none }
def FnFramesWrongFalsely : Prop := fnFramesRow.holds Try.pinned (OpenSpec.ofChange fnFramesWrong)

/-- 'laws.FnFramesBent': WHATEVER THE INPUT: true; the input reads as it did. -/
def fnFramesBentSpec : ChangeSpec := { name := "fnFramesBent", fn := fun _ => fun
  | [d] => { results := [.lit (.bool true)], args := [d] }
  | _ => none }
def fnFramesBentRow : OpenClaim := { program := "ythdcggohibaipaa", sum := "0f7f3d397098f056f1dfd0f19a337be3f254e4be64bb62989ea0c524b897785c", func := "loop.example/g00496/laws.FnFramesBent", spec := "fnFramesBent", unfollowed := true, recurses := true, apart := false }
def FnFramesBentSaid : Prop := fnFramesBentRow.holds Try.pinned (OpenSpec.ofChange fnFramesBentSpec)

/-- ITS FALSE NEIGHBOUR: 'it returns false'. Refute it at one input. -/
def fnFramesBentWrong : ChangeSpec := { name := "fnFramesBent", fn := fun _ => fun
  | [d] => { results := [.lit (.bool false)], args := [d] }
  | _ => none }
def FnFramesBentWrongFalsely : Prop := fnFramesBentRow.holds Try.pinned (OpenSpec.ofChange fnFramesBentWrong)

/-- 'laws.FnExactBase': WHATEVER THE INPUT: true; the input reads as it did. -/
def fnExactBaseSpec : ChangeSpec := { name := "fnExactBase", fn := fun _ => fun
  | [d] => { results := [.lit (.bool true)], args := [d] }
  | _ => none }
def fnExactBaseRow : OpenClaim := { program := "ythdcggohibaipaa", sum := "0f7f3d397098f056f1dfd0f19a337be3f254e4be64bb62989ea0c524b897785c", func := "loop.example/g00496/laws.FnExactBase", spec := "fnExactBase", apart := false }
def FnExactBaseSaid : Prop := fnExactBaseRow.holds Try.pinned (OpenSpec.ofChange fnExactBaseSpec)

/-- ITS FALSE NEIGHBOUR: 'it returns false'. Refute it at one input. -/
def fnExactBaseWrong : ChangeSpec := { name := "fnExactBase", fn := fun _ => fun
  | [d] => { results := [.lit (.bool false)], args := [d] }
  | _ => none }
def FnExactBaseWrongFalsely : Prop := fnExactBaseRow.holds Try.pinned (OpenSpec.ofChange fnExactBaseWrong)

/-- 'laws.FnExactOffsets': WHATEVER THE INPUT: true; the input reads as it did. -/
def fnExactOffsetsSpec : ChangeSpec := { name := "fnExactOffsets", fn := fun _ => fun
  | [d] => { results := [.lit (.bool true)], args := [d] }
  | _ => none }
def fnExactOffsetsRow : OpenClaim := { program := "ythdcggohibaipaa", sum := "0f7f3d397098f056f1dfd0f19a337be3f254e4be64bb62989ea0c524b897785c", func := "loop.example/g00496/laws.FnExactOffsets", spec := "fnExactOffsets", unfollowed := true, recurses := true, apart := false }
def FnExactOffsetsSaid : Prop := fnExactOffsetsRow.holds Try.pinned (OpenSpec.ofChange fnExactOffsetsSpec)

/-- ITS FALSE NEIGHBOUR: 'it returns false'. Refute it at one input. -/
def fnExactOffsetsWrong : ChangeSpec := { name := "fnExactOffsets", fn := fun _ => fun
  | [d] => { results := [.lit (.bool false)], args := [d] }
  | _ => none }
def FnExactOffsetsWrongFalsely : Prop := fnExactOffsetsRow.holds Try.pinned (OpenSpec.ofChange fnExactOffsetsWrong)

/-- 'laws.FnExactEncFrame': WHATEVER THE INPUT: true; the input reads as it did. -/
def fnExactEncFrameSpec : ChangeSpec := { name := "fnExactEncFrame", fn := fun _ => fun
  | [d] => { results := [.lit (.bool true)], args := [d] }
  | _ => none }
def fnExactEncFrameRow : OpenClaim := { program := "ythdcggohibaipaa", sum := "0f7f3d397098f056f1dfd0f19a337be3f254e4be64bb62989ea0c524b897785c", func := "loop.example/g00496/laws.FnExactEncFrame", spec := "fnExactEncFrame", unfollowed := true, recurses := true, apart := false }
def FnExactEncFrameSaid : Prop := fnExactEncFrameRow.holds Try.pinned (OpenSpec.ofChange fnExactEncFrameSpec)

/-- ITS FALSE NEIGHBOUR: 'it returns false'. Refute it at one input. -/
def fnExactEncFrameWrong : ChangeSpec := { name := "fnExactEncFrame", fn := fun _ => fun
  | [d] => { results := [.lit (.bool false)], args := [d] }
  | _ => none }
def FnExactEncFrameWrongFalsely : Prop := fnExactEncFrameRow.holds Try.pinned (OpenSpec.ofChange fnExactEncFrameWrong)

/-- 'laws.FnExactDecFrame': WHATEVER THE INPUT: true; the input reads as it did. -/
def fnExactDecFrameSpec : ChangeSpec := { name := "fnExactDecFrame", fn := fun _ => fun
  | [d1, d2] => { results := [.lit (.bool true)], args := [d1, d2] }
  | _ => none }
def fnExactDecFrameRow : OpenClaim := { program := "ythdcggohibaipaa", sum := "0f7f3d397098f056f1dfd0f19a337be3f254e4be64bb62989ea0c524b897785c", func := "loop.example/g00496/laws.FnExactDecFrame", spec := "fnExactDecFrame", unfollowed := true, recurses := true, apart := false }
def FnExactDecFrameSaid : Prop := fnExactDecFrameRow.holds Try.pinned (OpenSpec.ofChange fnExactDecFrameSpec)

/-- ITS FALSE NEIGHBOUR: 'it returns false'. Refute it at one input. -/
def fnExactDecFrameWrong : ChangeSpec := { name := "fnExactDecFrame", fn := fun _ => fun
  | [d1, d2] => { results := [.lit (.bool false)], args := [d1, d2] }
  | _ => none }
def FnExactDecFrameWrongFalsely : Prop := fnExactDecFrameRow.holds Try.pinned (OpenSpec.ofChange fnExactDecFrameWrong)

/-- 'laws.FnExactRaised': WHATEVER THE INPUT: true; the input reads as it did. -/
def fnExactRaisedSpec : ChangeSpec := { name := "fnExactRaised", fn := fun _ => fun
  | [d1, d2] => { results := [.lit (.bool true)], args := [d1, d2] }
  | _ => none }
def fnExactRaisedRow : OpenClaim := { program := "ythdcggohibaipaa", sum := "0f7f3d397098f056f1dfd0f19a337be3f254e4be64bb62989ea0c524b897785c", func := "loop.example/g00496/laws.FnExactRaised", spec := "fnExactRaised", apart := false }
def FnExactRaisedSaid : Prop := fnExactRaisedRow.holds Try.pinned (OpenSpec.ofChange fnExactRaisedSpec)

/-- ITS FALSE NEIGHBOUR: 'it returns false'. Refute it at one input. -/
def fnExactRaisedWrong : ChangeSpec := { name := "fnExactRaised", fn := fun _ => fun
  | [d1, d2] => { results := [.lit (.bool false)], args := [d1, d2] }
  | _ => none }
def FnExactRaisedWrongFalsely : Prop := fnExactRaisedRow.holds Try.pinned (OpenSpec.ofChange fnExactRaisedWrong)

/-- 'laws.FnExactReach': WHATEVER THE INPUT: true; the input reads as it did. -/
def fnExactReachSpec : ChangeSpec := { name := "fnExactReach", fn := fun _ => fun
  | [d] => { results := [.lit (.bool true)], args := [d] }
  | _ => none }
def fnExactReachRow : OpenClaim := { program := "ythdcggohibaipaa", sum := "0f7f3d397098f056f1dfd0f19a337be3f254e4be64bb62989ea0c524b897785c", func := "loop.example/g00496/laws.FnExactReach", spec := "fnExactReach", unfollowed := true, recurses := true, apart := false }
def FnExactReachSaid : Prop := fnExactReachRow.holds Try.pinned (OpenSpec.ofChange fnExactReachSpec)

/-- ITS FALSE NEIGHBOUR: 'it returns false'. Refute it at one input. -/
def fnExactReachWrong : ChangeSpec := { name := "fnExactReach", fn := fun _ => fun
  | [d] => { results := [.lit (.bool false)], args := [d] }
  | _ => none }
def FnExactReachWrongFalsely : Prop := fnExactReachRow.holds Try.pinned (OpenSpec.ofChange fnExactReachWrong)

/- THE SECOND FORM. 'bulk': how many values and letters a reading holds, each counted each time it is reached (what is shared counts as often as it is met; a slice's spare places count too). A statement '..UptoSaid' is the law's where the arguments, and the package variables that the reading takes, are together of bulk at most 1048576: NARROWER than '..Said'. Prove '..Said' where nothing that the law and all that it calls make is longer than what came in: it says more and counts as full. Else prove '..UptoSaid'. A law counts once. -/
mutual
def uptoBulk {H : Type} : DataW H → Nat
  | .lit (.string bytes) => bytes.length + 1
  | .lit _ => 1
  | .nil => 1
  | .ptr d => uptoBulk d + 1
  | .slice elems spare => uptoBulkAll elems + uptoBulkAll spare + 1
  | .agg parts => uptoBulkAll parts + 1
  | .iface _ d => uptoBulk d + 1
  | .map entries => uptoBulkEntries entries + 1
  | .held _ => 1
def uptoBulkAll {H : Type} : List (DataW H) → Nat
  | [] => 0
  | d :: r => uptoBulk d + uptoBulkAll r
def uptoBulkEntries {H : Type} : List (Lit × DataW H) → Nat
  | [] => 0
  | x :: r => uptoBulkEntry x + uptoBulkEntries r
def uptoBulkEntry {H : Type} : Lit × DataW H → Nat
  | (.string bytes, d) => bytes.length + uptoBulk d + 1
  | (_, d) => uptoBulk d + 1
 end
def uptoSmall : (H : Type) → List (DataW H) → Bool := fun _ ds => decide (uptoBulkAll ds ≤ 1048576)
def OpenSpec.upto (s : _root_.Go.ChangeSpec) : _root_.Go.OpenSpec := { _root_.Go.OpenSpec.ofChange s with cond := some uptoSmall }

/-- 'laws.FnFrames', WHERE WHAT IT READS IS OF BULK AT MOST 1048576: true; the input reads as it did. -/
def fnFramesUptoRow : OpenClaim := { program := "ythdcggohibaipaa", sum := "0f7f3d397098f056f1dfd0f19a337be3f254e4be64bb62989ea0c524b897785c", func := "loop.example/g00496/laws.FnFrames", spec := "fnFrames", unfollowed := true, recurses := true, apart := false, narrowed := true }
def FnFramesUptoSaid : Prop := fnFramesUptoRow.holds Try.pinned (OpenSpec.upto fnFramesSpec)

/-- 'laws.FnFramesBent', WHERE WHAT IT READS IS OF BULK AT MOST 1048576: true; the input reads as it did. -/
def fnFramesBentUptoRow : OpenClaim := { program := "ythdcggohibaipaa", sum := "0f7f3d397098f056f1dfd0f19a337be3f254e4be64bb62989ea0c524b897785c", func := "loop.example/g00496/laws.FnFramesBent", spec := "fnFramesBent", unfollowed := true, recurses := true, apart := false, narrowed := true }
def FnFramesBentUptoSaid : Prop := fnFramesBentUptoRow.holds Try.pinned (OpenSpec.upto fnFramesBentSpec)

/-- 'laws.FnExactBase', WHERE WHAT IT READS IS OF BULK AT MOST 1048576: true; the input reads as it did. -/
def fnExactBaseUptoRow : OpenClaim := { program := "ythdcggohibaipaa", sum := "0f7f3d397098f056f1dfd0f19a337be3f254e4be64bb62989ea0c524b897785c", func := "loop.example/g00496/laws.FnExactBase", spec := "fnExactBase", apart := false, narrowed := true }
def FnExactBaseUptoSaid : Prop := fnExactBaseUptoRow.holds Try.pinned (OpenSpec.upto fnExactBaseSpec)

/-- 'laws.FnExactOffsets', WHERE WHAT IT READS IS OF BULK AT MOST 1048576: true; the input reads as it did. -/
def fnExactOffsetsUptoRow : OpenClaim := { program := "ythdcggohibaipaa", sum := "0f7f3d397098f056f1dfd0f19a337be3f254e4be64bb62989ea0c524b897785c", func := "loop.example/g00496/laws.FnExactOffsets", spec := "fnExactOffsets", unfollowed := true, recurses := true, apart := false, narrowed := true }
def FnExactOffsetsUptoSaid : Prop := fnExactOffsetsUptoRow.holds Try.pinned (OpenSpec.upto fnExactOffsetsSpec)

/-- 'laws.FnExactEncFrame', WHERE WHAT IT READS IS OF BULK AT MOST 1048576: true; the input reads as it did. -/
def fnExactEncFrameUptoRow : OpenClaim := { program := "ythdcggohibaipaa", sum := "0f7f3d397098f056f1dfd0f19a337be3f254e4be64bb62989ea0c524b897785c", func := "loop.example/g00496/laws.FnExactEncFrame", spec := "fnExactEncFrame", unfollowed := true, recurses := true, apart := false, narrowed := true }
def FnExactEncFrameUptoSaid : Prop := fnExactEncFrameUptoRow.holds Try.pinned (OpenSpec.upto fnExactEncFrameSpec)

/-- 'laws.FnExactDecFrame', WHERE WHAT IT READS IS OF BULK AT MOST 1048576: true; the input reads as it did. -/
def fnExactDecFrameUptoRow : OpenClaim := { program := "ythdcggohibaipaa", sum := "0f7f3d397098f056f1dfd0f19a337be3f254e4be64bb62989ea0c524b897785c", func := "loop.example/g00496/laws.FnExactDecFrame", spec := "fnExactDecFrame", unfollowed := true, recurses := true, apart := false, narrowed := true }
def FnExactDecFrameUptoSaid : Prop := fnExactDecFrameUptoRow.holds Try.pinned (OpenSpec.upto fnExactDecFrameSpec)

/-- 'laws.FnExactRaised', WHERE WHAT IT READS IS OF BULK AT MOST 1048576: true; the input reads as it did. -/
def fnExactRaisedUptoRow : OpenClaim := { program := "ythdcggohibaipaa", sum := "0f7f3d397098f056f1dfd0f19a337be3f254e4be64bb62989ea0c524b897785c", func := "loop.example/g00496/laws.FnExactRaised", spec := "fnExactRaised", apart := false, narrowed := true }
def FnExactRaisedUptoSaid : Prop := fnExactRaisedUptoRow.holds Try.pinned (OpenSpec.upto fnExactRaisedSpec)

/-- 'laws.FnExactReach', WHERE WHAT IT READS IS OF BULK AT MOST 1048576: true; the input reads as it did. -/
def fnExactReachUptoRow : OpenClaim := { program := "ythdcggohibaipaa", sum := "0f7f3d397098f056f1dfd0f19a337be3f254e4be64bb62989ea0c524b897785c", func := "loop.example/g00496/laws.FnExactReach", spec := "fnExactReach", unfollowed := true, recurses := true, apart := false, narrowed := true }
def FnExactReachUptoSaid : Prop := fnExactReachUptoRow.holds Try.pinned (OpenSpec.upto fnExactReachSpec)

end Rows
end Go.Proofs.Ythdcggohibaipaa
