/-
  NARROWER THAN 'FOR EVERY INPUT', by the rows' own cells (each row's printed sentence says how): FnExactPredOk: loops · FnExactHolds: loops · FnExactMayHold: loops.
  DERIVED. THE GIVEN ROWS OF THIS SEAT. 5 by the template 'for every input the law returns true; each argument reads behind the call as it read before'; 0 by the template 'total and deterministic' (their statements: YtpinoemckapbhaaTotals.lean).
  GIVEN WITH THE SEED: the statements are not yours to turn. If you find one false, say at which input.
  Laid BY PROGRAM, IN A SANDBOX (cutbox-rows.mjs): the forced cells as the released guide's own fill.sh prints them over the translation ba39a99d07c182d3… (all of the seat's roots in one cut). By AI agents, Wed Nov 11 2026. No macro, syntax, notation, axiom, sorry.
-/
import Derived.Test.YtpinoemckapbhaaChecked
import GoSem.Claim
import GoSem.ClaimJoined
import GoSem.ClaimMapViews
import Derived.JoinedTies
import Derived.KernelRfl
namespace Go.Proofs.Ytpinoemckapbhaa
/- THE CELL 'sum', in the pinned program and in every row, IS THE sha256 OF THE DUMP (.gsa) THAT YtpinoemckapbhaaProg.lean LOADS. Nothing in Lean hashes anything: it is a label: what it is worth is what the hold of that sum in a sandbox is worth. -/
noncomputable def Try.pinned : Pinned := { name := "ytpinoemckapbhaa", sum := "ba39a99d07c182d370ae787e22e43f4930cd6ab85a02728eb9e3336bb6fed9b7", checked := Try.checked }
namespace Rows
def none {H : Type} : Left H := { results := [], args := [] }

/-- 'laws.FnPreds': WHATEVER THE INPUT: true; the input reads as it did. -/
def fnPredsSpec : ChangeSpec := { name := "fnPreds", fn := fun _ => fun
  | [d] => { results := [.lit (.bool true)], args := [d] }
  | _ => none }
def fnPredsRow : OpenClaim := { program := "ytpinoemckapbhaa", sum := "ba39a99d07c182d370ae787e22e43f4930cd6ab85a02728eb9e3336bb6fed9b7", func := "loop.example/g00496/laws.FnPreds", spec := "fnPreds", unfollowed := true, recurses := true, apart := false }
def FnPredsSaid : Prop := fnPredsRow.holds Try.pinned (OpenSpec.ofChange fnPredsSpec)

/-- ITS FALSE NEIGHBOUR: 'it returns false'. Refute it at one input. -/
def fnPredsWrong : ChangeSpec := { name := "fnPreds", fn := fun _ => fun
  | [d] => { results := [.lit (.bool false)], args := [d] }
  | _ => none }
def FnPredsWrongFalsely : Prop := fnPredsRow.holds Try.pinned (OpenSpec.ofChange fnPredsWrong)

/-- 'laws.FnExactPredOk': WHATEVER THE INPUT: true; the input reads as it did. -/
def fnExactPredOkSpec : ChangeSpec := { name := "fnExactPredOk", fn := fun _ => fun
  | [d1, d2] => { results := [.lit (.bool true)], args := [d1, d2] }
  | _ => none }
def fnExactPredOkRow : OpenClaim := { program := "ytpinoemckapbhaa", sum := "ba39a99d07c182d370ae787e22e43f4930cd6ab85a02728eb9e3336bb6fed9b7", func := "loop.example/g00496/laws.FnExactPredOk", spec := "fnExactPredOk", recurses := true, loops := true, apart := false }
def FnExactPredOkSaid : Prop := fnExactPredOkRow.holds Try.pinned (OpenSpec.ofChange fnExactPredOkSpec)

/-- ITS FALSE NEIGHBOUR: 'it returns false'. Refute it at one input. -/
def fnExactPredOkWrong : ChangeSpec := { name := "fnExactPredOk", fn := fun _ => fun
  | [d1, d2] => { results := [.lit (.bool false)], args := [d1, d2] }
  | _ => none }
def FnExactPredOkWrongFalsely : Prop := fnExactPredOkRow.holds Try.pinned (OpenSpec.ofChange fnExactPredOkWrong)

/-- 'laws.FnExactHolds': WHATEVER THE INPUT: true; the input reads as it did. -/
def fnExactHoldsSpec : ChangeSpec := { name := "fnExactHolds", fn := fun _ => fun
  | [d1, d2] => { results := [.lit (.bool true)], args := [d1, d2] }
  | _ => none }
def fnExactHoldsRow : OpenClaim := { program := "ytpinoemckapbhaa", sum := "ba39a99d07c182d370ae787e22e43f4930cd6ab85a02728eb9e3336bb6fed9b7", func := "loop.example/g00496/laws.FnExactHolds", spec := "fnExactHolds", unfollowed := true, recurses := true, loops := true, apart := false }
def FnExactHoldsSaid : Prop := fnExactHoldsRow.holds Try.pinned (OpenSpec.ofChange fnExactHoldsSpec)

/-- ITS FALSE NEIGHBOUR: 'it returns false'. Refute it at one input. -/
def fnExactHoldsWrong : ChangeSpec := { name := "fnExactHolds", fn := fun _ => fun
  | [d1, d2] => { results := [.lit (.bool false)], args := [d1, d2] }
  | _ => none }
def FnExactHoldsWrongFalsely : Prop := fnExactHoldsRow.holds Try.pinned (OpenSpec.ofChange fnExactHoldsWrong)

/-- 'laws.FnExactZones': WHATEVER THE INPUT: true; the input reads as it did. -/
def fnExactZonesSpec : ChangeSpec := { name := "fnExactZones", fn := fun _ => fun
  | [d] => { results := [.lit (.bool true)], args := [d] }
  | _ => none }
def fnExactZonesRow : OpenClaim := { program := "ytpinoemckapbhaa", sum := "ba39a99d07c182d370ae787e22e43f4930cd6ab85a02728eb9e3336bb6fed9b7", func := "loop.example/g00496/laws.FnExactZones", spec := "fnExactZones", apart := false }
def FnExactZonesSaid : Prop := fnExactZonesRow.holds Try.pinned (OpenSpec.ofChange fnExactZonesSpec)

/-- ITS FALSE NEIGHBOUR: 'it returns false'. Refute it at one input. -/
def fnExactZonesWrong : ChangeSpec := { name := "fnExactZones", fn := fun _ => fun
  | [d] => { results := [.lit (.bool false)], args := [d] }
  | _ => none }
def FnExactZonesWrongFalsely : Prop := fnExactZonesRow.holds Try.pinned (OpenSpec.ofChange fnExactZonesWrong)

/-- 'laws.FnExactMayHold': WHATEVER THE INPUT: true; the input reads as it did. -/
def fnExactMayHoldSpec : ChangeSpec := { name := "fnExactMayHold", fn := fun _ => fun
  | [d1, d2] => { results := [.lit (.bool true)], args := [d1, d2] }
  | _ => none }
def fnExactMayHoldRow : OpenClaim := { program := "ytpinoemckapbhaa", sum := "ba39a99d07c182d370ae787e22e43f4930cd6ab85a02728eb9e3336bb6fed9b7", func := "loop.example/g00496/laws.FnExactMayHold", spec := "fnExactMayHold", unfollowed := true, recurses := true, loops := true, apart := false }
def FnExactMayHoldSaid : Prop := fnExactMayHoldRow.holds Try.pinned (OpenSpec.ofChange fnExactMayHoldSpec)

/-- ITS FALSE NEIGHBOUR: 'it returns false'. Refute it at one input. -/
def fnExactMayHoldWrong : ChangeSpec := { name := "fnExactMayHold", fn := fun _ => fun
  | [d1, d2] => { results := [.lit (.bool false)], args := [d1, d2] }
  | _ => none }
def FnExactMayHoldWrongFalsely : Prop := fnExactMayHoldRow.holds Try.pinned (OpenSpec.ofChange fnExactMayHoldWrong)

/- THE SECOND FORM. 'bulk': how many values and letters a reading holds, each counted each time it is reached (what is shared counts as often as it is met; a slice's spare places count too). A statement '..UptoSaid' is the law's where the arguments, and the package variables that the reading takes, are together of bulk at most 1048576: NARROWER than '..Said'. Prove '..Said' where nothing that the law and all that it calls make is longer than what came in: it says more and counts as full. Else prove '..UptoSaid'. A law counts once. -/
mutual
def uptoBulk {H : Type} : DataW H → Nat
  | .lit (.string bytes) => bytes.length + 1
  | .lit _ => 1
  | .nil => 1
  | .ptr d => uptoBulk d + 1
  | .slice elems spare => uptoBulkAll elems + uptoBulkAll spare + 1
  | .agg parts => uptoBulkAll parts + 1
  | .iface _ d => uptoBulk d + 1
  | .map entries => uptoBulkEntries entries + 1
  | .held _ => 1
def uptoBulkAll {H : Type} : List (DataW H) → Nat
  | [] => 0
  | d :: r => uptoBulk d + uptoBulkAll r
def uptoBulkEntries {H : Type} : List (Lit × DataW H) → Nat
  | [] => 0
  | x :: r => uptoBulkEntry x + uptoBulkEntries r
def uptoBulkEntry {H : Type} : Lit × DataW H → Nat
  | (.string bytes, d) => bytes.length + uptoBulk d + 1
  | (_, d) => uptoBulk d + 1
 end
def uptoSmall : (H : Type) → List (DataW H) → Bool := fun _ ds => decide (uptoBulkAll ds ≤ 1048576)
def OpenSpec.upto (s : _root_.Go.ChangeSpec) : _root_.Go.OpenSpec := { _root_.Go.OpenSpec.ofChange s with cond := some uptoSmall }

/-- 'laws.FnPreds', WHERE WHAT IT READS IS OF BULK AT MOST 1048576: true; the input reads as it did. -/
def fnPredsUptoRow : OpenClaim := { program := "ytpinoemckapbhaa", sum := "ba39a99d07c182d370ae787e22e43f4930cd6ab85a02728eb9e3336bb6fed9b7", func := "loop.example/g00496/laws.FnPreds", spec := "fnPreds", unfollowed := true, recurses := true, apart := false, narrowed := true }
def FnPredsUptoSaid : Prop := fnPredsUptoRow.holds Try.pinned (OpenSpec.upto fnPredsSpec)

/-- 'laws.FnExactPredOk', WHERE WHAT IT READS IS OF BULK AT MOST 1048576: true; the input reads as it did. -/
def fnExactPredOkUptoRow : OpenClaim := { program := "ytpinoemckapbhaa", sum := "ba39a99d07c182d370ae787e22e43f4930cd6ab85a02728eb9e3336bb6fed9b7", func := "loop.example/g00496/laws.FnExactPredOk", spec := "fnExactPredOk", recurses := true, loops := true, apart := false, narrowed := true }
def FnExactPredOkUptoSaid : Prop := fnExactPredOkUptoRow.holds Try.pinned (OpenSpec.upto fnExactPredOkSpec)

/-- 'laws.FnExactHolds', WHERE WHAT IT READS IS OF BULK AT MOST 1048576: true; the input reads as it did. -/
def fnExactHoldsUptoRow : OpenClaim := { program := "ytpinoemckapbhaa", sum := "ba39a99d07c182d370ae787e22e43f4930cd6ab85a02728eb9e3336bb6fed9b7", func := "loop.example/g00496/laws.FnExactHolds", spec := "fnExactHolds", unfollowed := true, recurses := true, loops := true, apart := false, narrowed := true }
def FnExactHoldsUptoSaid : Prop := fnExactHoldsUptoRow.holds Try.pinned (OpenSpec.upto fnExactHoldsSpec)

/-- 'laws.FnExactZones', WHERE WHAT IT READS IS OF BULK AT MOST 1048576: true; the input reads as it did. -/
def fnExactZonesUptoRow : OpenClaim := { program := "ytpinoemckapbhaa", sum := "ba39a99d07c182d370ae787e22e43f4930cd6ab85a02728eb9e3336bb6fed9b7", func := "loop.example/g00496/laws.FnExactZones", spec := "fnExactZones", apart := false, narrowed := true }
def FnExactZonesUptoSaid : Prop := fnExactZonesUptoRow.holds Try.pinned (OpenSpec.upto fnExactZonesSpec)

/-- 'laws.FnExactMayHold', WHERE WHAT IT READS IS OF BULK AT MOST 1048576: true; the input reads as it did. -/
def fnExactMayHoldUptoRow : OpenClaim := { program := "ytpinoemckapbhaa", sum := "ba39a99d07c182d370ae787e22e43f4930cd6ab85a02728eb9e3336bb6fed9b7", func := "loop.example/g00496/laws.FnExactMayHold", spec := "fnExactMayHold", unfollowed := true, recurses := true, loops := true, apart := false, narrowed := true }
def FnExactMayHoldUptoSaid : Prop := fnExactMayHoldUptoRow.holds Try.pinned (OpenSpec.upto fnExactMayHoldSpec)

end Rows
end Go.Proofs.Ytpinoemckapbhaa
