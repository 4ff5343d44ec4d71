/-
  No cell of these rows narrows 'for every input' (looked for: loops, veiled, ifaces, maps, wideKeys, modest, calm, conditions, laid).
  DERIVED. THE GIVEN ROWS OF THIS SEAT. 3 by the template 'for every input the law returns true; each argument reads behind the call as it read before'; 0 by the template 'total and deterministic' (their statements: YthniakklkepomaaGreatTotals.lean).
  GIVEN WITH THE SEED: the statements are not yours to turn. If you find one false, say at which input.
  Laid BY PROGRAM, IN A SANDBOX (cutbox-rows.mjs): the forced cells as the released guide's own fill.sh prints them over the translation f9002ba64368b327… (all of the seat's roots in one cut). By AI agents, Wed Nov 11 2026. No macro, syntax, notation, axiom, sorry.
-/
import Derived.Test.YthniakklkepomaaGreatChecked
import GoSem.Claim
import GoSem.ClaimJoined
import GoSem.ClaimMapViews
import Derived.JoinedTies
import Derived.KernelRfl
namespace Go.Proofs.YthniakklkepomaaGreat
/- THE CELL 'sum', in the pinned program and in every row, IS THE sha256 OF THE DUMP (.gsa) THAT YthniakklkepomaaGreatProg.lean LOADS. Nothing in Lean hashes anything: it is a label: what it is worth is what the hold of that sum in a sandbox is worth. -/
noncomputable def Tryz.pinned : Pinned := { name := "ythniakklkepomaagreat", sum := "f9002ba64368b327055c90bc6f9d6637e67609406bcab9bf857275dda78e44f2", checked := Tryz.checked }
namespace Rows
def none {H : Type} : Left H := { results := [], args := [] }

/-- 'laws.FnCols': WHATEVER THE INPUT: true; the input reads as it did. -/
def fnColsSpec : ChangeSpec := { name := "fnCols", fn := fun _ => fun
  | [d] => { results := [.lit (.bool true)], args := [d] }
  | _ => none }
def fnColsRow : OpenClaim := { program := "ythniakklkepomaagreat", sum := "f9002ba64368b327055c90bc6f9d6637e67609406bcab9bf857275dda78e44f2", func := "loop.example/g00496/laws.FnCols", spec := "fnCols", unfollowed := true, recurses := true, plainKeys := false, apart := false }
def FnColsSaid : Prop := fnColsRow.holds Tryz.pinned (OpenSpec.ofChange fnColsSpec)

/-- ITS FALSE NEIGHBOUR: 'it returns false'. Refute it at one input. -/
def fnColsWrong : ChangeSpec := { name := "fnCols", fn := fun _ => fun
  | [d] => { results := [.lit (.bool false)], args := [d] }
  | _ => none }
def FnColsWrongFalsely : Prop := fnColsRow.holds Tryz.pinned (OpenSpec.ofChange fnColsWrong)

/-- 'laws.FnColsBent': WHATEVER THE INPUT: true; the input reads as it did. -/
def fnColsBentSpec : ChangeSpec := { name := "fnColsBent", fn := fun _ => fun
  | [d] => { results := [.lit (.bool true)], args := [d] }
  | _ => none }
def fnColsBentRow : OpenClaim := { program := "ythniakklkepomaagreat", sum := "f9002ba64368b327055c90bc6f9d6637e67609406bcab9bf857275dda78e44f2", func := "loop.example/g00496/laws.FnColsBent", spec := "fnColsBent", unfollowed := true, recurses := true, plainKeys := false, apart := false }
def FnColsBentSaid : Prop := fnColsBentRow.holds Tryz.pinned (OpenSpec.ofChange fnColsBentSpec)

/-- ITS FALSE NEIGHBOUR: 'it returns false'. Refute it at one input. -/
def fnColsBentWrong : ChangeSpec := { name := "fnColsBent", fn := fun _ => fun
  | [d] => { results := [.lit (.bool false)], args := [d] }
  | _ => none }
def FnColsBentWrongFalsely : Prop := fnColsBentRow.holds Tryz.pinned (OpenSpec.ofChange fnColsBentWrong)

/-- 'laws.FnExactDecCol': WHATEVER THE INPUT: true; the input reads as it did. -/
def fnExactDecColSpec : ChangeSpec := { name := "fnExactDecCol", fn := fun _ => fun
  | [d1, d2, d3] => { results := [.lit (.bool true)], args := [d1, d2, d3] }
  | _ => none }
def fnExactDecColRow : OpenClaim := { program := "ythniakklkepomaagreat", sum := "f9002ba64368b327055c90bc6f9d6637e67609406bcab9bf857275dda78e44f2", func := "loop.example/g00496/laws.FnExactDecCol", spec := "fnExactDecCol", unfollowed := true, recurses := true, plainKeys := false, apart := false }
def FnExactDecColSaid : Prop := fnExactDecColRow.holds Tryz.pinned (OpenSpec.ofChange fnExactDecColSpec)

/-- ITS FALSE NEIGHBOUR: 'it returns false'. Refute it at one input. -/
def fnExactDecColWrong : ChangeSpec := { name := "fnExactDecCol", fn := fun _ => fun
  | [d1, d2, d3] => { results := [.lit (.bool false)], args := [d1, d2, d3] }
  | _ => none }
def FnExactDecColWrongFalsely : Prop := fnExactDecColRow.holds Tryz.pinned (OpenSpec.ofChange fnExactDecColWrong)

/- THE SECOND FORM. 'bulk': how many values and letters a reading holds, each counted each time it is reached (what is shared counts as often as it is met; a slice's spare places count too). A statement '..UptoSaid' is the law's where the arguments, and the package variables that the reading takes, are together of bulk at most 1048576: NARROWER than '..Said'. Prove '..Said' where nothing that the law and all that it calls make is longer than what came in: it says more and counts as full. Else prove '..UptoSaid'. A law counts once. -/
mutual
def uptoBulk {H : Type} : DataW H → Nat
  | .lit (.string bytes) => bytes.length + 1
  | .lit _ => 1
  | .nil => 1
  | .ptr d => uptoBulk d + 1
  | .slice elems spare => uptoBulkAll elems + uptoBulkAll spare + 1
  | .agg parts => uptoBulkAll parts + 1
  | .iface _ d => uptoBulk d + 1
  | .map entries => uptoBulkEntries entries + 1
  | .held _ => 1
def uptoBulkAll {H : Type} : List (DataW H) → Nat
  | [] => 0
  | d :: r => uptoBulk d + uptoBulkAll r
def uptoBulkEntries {H : Type} : List (Lit × DataW H) → Nat
  | [] => 0
  | x :: r => uptoBulkEntry x + uptoBulkEntries r
def uptoBulkEntry {H : Type} : Lit × DataW H → Nat
  | (.string bytes, d) => bytes.length + uptoBulk d + 1
  | (_, d) => uptoBulk d + 1
 end
def uptoSmall : (H : Type) → List (DataW H) → Bool := fun _ ds => decide (uptoBulkAll ds ≤ 1048576)
def OpenSpec.upto (s : _root_.Go.ChangeSpec) : _root_.Go.OpenSpec := { _root_.Go.OpenSpec.ofChange s with cond := some uptoSmall }

/-- 'laws.FnCols', WHERE WHAT IT READS IS OF BULK AT MOST 1048576: true; the input reads as it did. -/
def fnColsUptoRow : OpenClaim := { program := "ythniakklkepomaagreat", sum := "f9002ba64368b327055c90bc6f9d6637e67609406bcab9bf857275dda78e44f2", func := "loop.example/g00496/laws.FnCols", spec := "fnCols", unfollowed := true, recurses := true, plainKeys := false, apart := false, narrowed := true }
def FnColsUptoSaid : Prop := fnColsUptoRow.holds Tryz.pinned (OpenSpec.upto fnColsSpec)

/-- 'laws.FnColsBent', WHERE WHAT IT READS IS OF BULK AT MOST 1048576: true; the input reads as it did. -/
def fnColsBentUptoRow : OpenClaim := { program := "ythniakklkepomaagreat", sum := "f9002ba64368b327055c90bc6f9d6637e67609406bcab9bf857275dda78e44f2", func := "loop.example/g00496/laws.FnColsBent", spec := "fnColsBent", unfollowed := true, recurses := true, plainKeys := false, apart := false, narrowed := true }
def FnColsBentUptoSaid : Prop := fnColsBentUptoRow.holds Tryz.pinned (OpenSpec.upto fnColsBentSpec)

/-- 'laws.FnExactDecCol', WHERE WHAT IT READS IS OF BULK AT MOST 1048576: true; the input reads as it did. -/
def fnExactDecColUptoRow : OpenClaim := { program := "ythniakklkepomaagreat", sum := "f9002ba64368b327055c90bc6f9d6637e67609406bcab9bf857275dda78e44f2", func := "loop.example/g00496/laws.FnExactDecCol", spec := "fnExactDecCol", unfollowed := true, recurses := true, plainKeys := false, apart := false, narrowed := true }
def FnExactDecColUptoSaid : Prop := fnExactDecColUptoRow.holds Tryz.pinned (OpenSpec.upto fnExactDecColSpec)

end Rows
end Go.Proofs.YthniakklkepomaaGreat
