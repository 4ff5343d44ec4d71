/-
  No cell of these rows narrows 'for every input' (looked for: loops, veiled, ifaces, maps, wideKeys, modest, calm, conditions, laid).
  DERIVED. THE GIVEN ROWS OF THIS SEAT. 9 by the template 'for every input the law returns true; each argument reads behind the call as it read before'; 0 by the template 'total and deterministic' (their statements: YthbnnjajgfgnoaaTotals.lean).
  GIVEN WITH THE SEED: the statements are not yours to turn. If you find one false, say at which input.
  Laid BY PROGRAM, IN A SANDBOX (cutbox-rows.mjs): the forced cells as the released guide's own fill.sh prints them over the translation 83b87f00f57bf593… (all of the seat's roots in one cut). By AI agents, Wed Nov 11 2026. No macro, syntax, notation, axiom, sorry.
-/
import Derived.Test.YthbnnjajgfgnoaaChecked
import GoSem.Claim
import GoSem.ClaimJoined
import GoSem.ClaimMapViews
import Derived.JoinedTies
import Derived.KernelRfl
namespace Go.Proofs.Ythbnnjajgfgnoaa
/- THE CELL 'sum', in the pinned program and in every row, IS THE sha256 OF THE DUMP (.gsa) THAT YthbnnjajgfgnoaaProg.lean LOADS. Nothing in Lean hashes anything: it is a label: what it is worth is what the hold of that sum in a sandbox is worth. -/
noncomputable def Try.pinned : Pinned := { name := "ythbnnjajgfgnoaa", sum := "83b87f00f57bf593175da2ddca7593adef56c93bf7bfec24524c14617ac5662e", checked := Try.checked }
namespace Rows
def none {H : Type} : Left H := { results := [], args := [] }

/-- 'laws.FnNums': WHATEVER THE INPUT: true; the input reads as it did. -/
def fnNumsSpec : ChangeSpec := { name := "fnNums", fn := fun _ => fun
  | [d] => { results := [.lit (.bool true)], args := [d] }
  | _ => none }
def fnNumsRow : OpenClaim := { program := "ythbnnjajgfgnoaa", sum := "83b87f00f57bf593175da2ddca7593adef56c93bf7bfec24524c14617ac5662e", func := "loop.example/g00496/laws.FnNums", spec := "fnNums", apart := false }
def FnNumsSaid : Prop := fnNumsRow.holds Try.pinned (OpenSpec.ofChange fnNumsSpec)

/-- ITS FALSE NEIGHBOUR: 'it returns false'. Refute it at one input. -/
def fnNumsWrong : ChangeSpec := { name := "fnNums", fn := fun _ => fun
  | [d] => { results := [.lit (.bool false)], args := [d] }
  | _ => none }
def FnNumsWrongFalsely : Prop := fnNumsRow.holds Try.pinned (OpenSpec.ofChange fnNumsWrong)

/-- 'laws.FnNumsBent': WHATEVER THE INPUT: true; the input reads as it did. -/
def fnNumsBentSpec : ChangeSpec := { name := "fnNumsBent", fn := fun _ => fun
  | [d] => { results := [.lit (.bool true)], args := [d] }
  | _ => none }
def fnNumsBentRow : OpenClaim := { program := "ythbnnjajgfgnoaa", sum := "83b87f00f57bf593175da2ddca7593adef56c93bf7bfec24524c14617ac5662e", func := "loop.example/g00496/laws.FnNumsBent", spec := "fnNumsBent", apart := false }
def FnNumsBentSaid : Prop := fnNumsBentRow.holds Try.pinned (OpenSpec.ofChange fnNumsBentSpec)

/-- ITS FALSE NEIGHBOUR: 'it returns false'. Refute it at one input. -/
def fnNumsBentWrong : ChangeSpec := { name := "fnNumsBent", fn := fun _ => fun
  | [d] => { results := [.lit (.bool false)], args := [d] }
  | _ => none }
def FnNumsBentWrongFalsely : Prop := fnNumsBentRow.holds Try.pinned (OpenSpec.ofChange fnNumsBentWrong)

/-- 'laws.FnNumLists': WHATEVER THE INPUT: true; the input reads as it did. -/
def fnNumListsSpec : ChangeSpec := { name := "fnNumLists", fn := fun _ => fun
  | [d] => { results := [.lit (.bool true)], args := [d] }
  | _ => none }
def fnNumListsRow : OpenClaim := { program := "ythbnnjajgfgnoaa", sum := "83b87f00f57bf593175da2ddca7593adef56c93bf7bfec24524c14617ac5662e", func := "loop.example/g00496/laws.FnNumLists", spec := "fnNumLists", apart := false }
def FnNumListsSaid : Prop := fnNumListsRow.holds Try.pinned (OpenSpec.ofChange fnNumListsSpec)

/-- ITS FALSE NEIGHBOUR: 'it returns false'. Refute it at one input. -/
def fnNumListsWrong : ChangeSpec := { name := "fnNumLists", fn := fun _ => fun
  | [d] => { results := [.lit (.bool false)], args := [d] }
  | _ => none }
def FnNumListsWrongFalsely : Prop := fnNumListsRow.holds Try.pinned (OpenSpec.ofChange fnNumListsWrong)

/-- 'laws.FnExactZigZag': WHATEVER THE INPUT: true; the input reads as it did. -/
def fnExactZigZagSpec : ChangeSpec := { name := "fnExactZigZag", fn := fun _ => fun
  | [d] => { results := [.lit (.bool true)], args := [d] }
  | _ => none }
def fnExactZigZagRow : OpenClaim := { program := "ythbnnjajgfgnoaa", sum := "83b87f00f57bf593175da2ddca7593adef56c93bf7bfec24524c14617ac5662e", func := "loop.example/g00496/laws.FnExactZigZag", spec := "fnExactZigZag", apart := false }
def FnExactZigZagSaid : Prop := fnExactZigZagRow.holds Try.pinned (OpenSpec.ofChange fnExactZigZagSpec)

/-- ITS FALSE NEIGHBOUR: 'it returns false'. Refute it at one input. -/
def fnExactZigZagWrong : ChangeSpec := { name := "fnExactZigZag", fn := fun _ => fun
  | [d] => { results := [.lit (.bool false)], args := [d] }
  | _ => none }
def FnExactZigZagWrongFalsely : Prop := fnExactZigZagRow.holds Try.pinned (OpenSpec.ofChange fnExactZigZagWrong)

/-- 'laws.FnExactZagZig': WHATEVER THE INPUT: true; the input reads as it did. -/
def fnExactZagZigSpec : ChangeSpec := { name := "fnExactZagZig", fn := fun _ => fun
  | [d] => { results := [.lit (.bool true)], args := [d] }
  | _ => none }
def fnExactZagZigRow : OpenClaim := { program := "ythbnnjajgfgnoaa", sum := "83b87f00f57bf593175da2ddca7593adef56c93bf7bfec24524c14617ac5662e", func := "loop.example/g00496/laws.FnExactZagZig", spec := "fnExactZagZig", apart := false }
def FnExactZagZigSaid : Prop := fnExactZagZigRow.holds Try.pinned (OpenSpec.ofChange fnExactZagZigSpec)

/-- ITS FALSE NEIGHBOUR: 'it returns false'. Refute it at one input. -/
def fnExactZagZigWrong : ChangeSpec := { name := "fnExactZagZig", fn := fun _ => fun
  | [d] => { results := [.lit (.bool false)], args := [d] }
  | _ => none }
def FnExactZagZigWrongFalsely : Prop := fnExactZagZigRow.holds Try.pinned (OpenSpec.ofChange fnExactZagZigWrong)

/-- 'laws.FnExactPutNum': WHATEVER THE INPUT: true; the input reads as it did. -/
def fnExactPutNumSpec : ChangeSpec := { name := "fnExactPutNum", fn := fun _ => fun
  | [d1, d2] => { results := [.lit (.bool true)], args := [d1, d2] }
  | _ => none }
def fnExactPutNumRow : OpenClaim := { program := "ythbnnjajgfgnoaa", sum := "83b87f00f57bf593175da2ddca7593adef56c93bf7bfec24524c14617ac5662e", func := "loop.example/g00496/laws.FnExactPutNum", spec := "fnExactPutNum", apart := false }
def FnExactPutNumSaid : Prop := fnExactPutNumRow.holds Try.pinned (OpenSpec.ofChange fnExactPutNumSpec)

/-- ITS FALSE NEIGHBOUR: 'it returns false'. Refute it at one input. -/
def fnExactPutNumWrong : ChangeSpec := { name := "fnExactPutNum", fn := fun _ => fun
  | [d1, d2] => { results := [.lit (.bool false)], args := [d1, d2] }
  | _ => none }
def FnExactPutNumWrongFalsely : Prop := fnExactPutNumRow.holds Try.pinned (OpenSpec.ofChange fnExactPutNumWrong)

/-- 'laws.FnExactGetNum': WHATEVER THE INPUT: true; the input reads as it did. -/
def fnExactGetNumSpec : ChangeSpec := { name := "fnExactGetNum", fn := fun _ => fun
  | [d1, d2] => { results := [.lit (.bool true)], args := [d1, d2] }
  | _ => none }
def fnExactGetNumRow : OpenClaim := { program := "ythbnnjajgfgnoaa", sum := "83b87f00f57bf593175da2ddca7593adef56c93bf7bfec24524c14617ac5662e", func := "loop.example/g00496/laws.FnExactGetNum", spec := "fnExactGetNum", apart := false }
def FnExactGetNumSaid : Prop := fnExactGetNumRow.holds Try.pinned (OpenSpec.ofChange fnExactGetNumSpec)

/-- ITS FALSE NEIGHBOUR: 'it returns false'. Refute it at one input. -/
def fnExactGetNumWrong : ChangeSpec := { name := "fnExactGetNum", fn := fun _ => fun
  | [d1, d2] => { results := [.lit (.bool false)], args := [d1, d2] }
  | _ => none }
def FnExactGetNumWrongFalsely : Prop := fnExactGetNumRow.holds Try.pinned (OpenSpec.ofChange fnExactGetNumWrong)

/-- 'laws.FnExactPutNums': WHATEVER THE INPUT: true; the input reads as it did. -/
def fnExactPutNumsSpec : ChangeSpec := { name := "fnExactPutNums", fn := fun _ => fun
  | [d1, d2] => { results := [.lit (.bool true)], args := [d1, d2] }
  | _ => none }
def fnExactPutNumsRow : OpenClaim := { program := "ythbnnjajgfgnoaa", sum := "83b87f00f57bf593175da2ddca7593adef56c93bf7bfec24524c14617ac5662e", func := "loop.example/g00496/laws.FnExactPutNums", spec := "fnExactPutNums", apart := false }
def FnExactPutNumsSaid : Prop := fnExactPutNumsRow.holds Try.pinned (OpenSpec.ofChange fnExactPutNumsSpec)

/-- ITS FALSE NEIGHBOUR: 'it returns false'. Refute it at one input. -/
def fnExactPutNumsWrong : ChangeSpec := { name := "fnExactPutNums", fn := fun _ => fun
  | [d1, d2] => { results := [.lit (.bool false)], args := [d1, d2] }
  | _ => none }
def FnExactPutNumsWrongFalsely : Prop := fnExactPutNumsRow.holds Try.pinned (OpenSpec.ofChange fnExactPutNumsWrong)

/-- 'laws.FnExactGetNums': WHATEVER THE INPUT: true; the input reads as it did. -/
def fnExactGetNumsSpec : ChangeSpec := { name := "fnExactGetNums", fn := fun _ => fun
  | [d1, d2] => { results := [.lit (.bool true)], args := [d1, d2] }
  | _ => none }
def fnExactGetNumsRow : OpenClaim := { program := "ythbnnjajgfgnoaa", sum := "83b87f00f57bf593175da2ddca7593adef56c93bf7bfec24524c14617ac5662e", func := "loop.example/g00496/laws.FnExactGetNums", spec := "fnExactGetNums", apart := false }
def FnExactGetNumsSaid : Prop := fnExactGetNumsRow.holds Try.pinned (OpenSpec.ofChange fnExactGetNumsSpec)

/-- ITS FALSE NEIGHBOUR: 'it returns false'. Refute it at one input. -/
def fnExactGetNumsWrong : ChangeSpec := { name := "fnExactGetNums", fn := fun _ => fun
  | [d1, d2] => { results := [.lit (.bool false)], args := [d1, d2] }
  | _ => none }
def FnExactGetNumsWrongFalsely : Prop := fnExactGetNumsRow.holds Try.pinned (OpenSpec.ofChange fnExactGetNumsWrong)

/- THE SECOND FORM. 'bulk': how many values and letters a reading holds, each counted each time it is reached (what is shared counts as often as it is met; a slice's spare places count too). A statement '..UptoSaid' is the law's where the arguments, and the package variables that the reading takes, are together of bulk at most 1048576: NARROWER than '..Said'. Prove '..Said' where nothing that the law and all that it calls make is longer than what came in: it says more and counts as full. Else prove '..UptoSaid'. A law counts once. -/
mutual
def uptoBulk {H : Type} : DataW H → Nat
  | .lit (.string bytes) => bytes.length + 1
  | .lit _ => 1
  | .nil => 1
  | .ptr d => uptoBulk d + 1
  | .slice elems spare => uptoBulkAll elems + uptoBulkAll spare + 1
  | .agg parts => uptoBulkAll parts + 1
  | .iface _ d => uptoBulk d + 1
  | .map entries => uptoBulkEntries entries + 1
  | .held _ => 1
def uptoBulkAll {H : Type} : List (DataW H) → Nat
  | [] => 0
  | d :: r => uptoBulk d + uptoBulkAll r
def uptoBulkEntries {H : Type} : List (Lit × DataW H) → Nat
  | [] => 0
  | x :: r => uptoBulkEntry x + uptoBulkEntries r
def uptoBulkEntry {H : Type} : Lit × DataW H → Nat
  | (.string bytes, d) => bytes.length + uptoBulk d + 1
  | (_, d) => uptoBulk d + 1
 end
def uptoSmall : (H : Type) → List (DataW H) → Bool := fun _ ds => decide (uptoBulkAll ds ≤ 1048576)
def OpenSpec.upto (s : _root_.Go.ChangeSpec) : _root_.Go.OpenSpec := { _root_.Go.OpenSpec.ofChange s with cond := some uptoSmall }

/-- 'laws.FnNums', WHERE WHAT IT READS IS OF BULK AT MOST 1048576: true; the input reads as it did. -/
def fnNumsUptoRow : OpenClaim := { program := "ythbnnjajgfgnoaa", sum := "83b87f00f57bf593175da2ddca7593adef56c93bf7bfec24524c14617ac5662e", func := "loop.example/g00496/laws.FnNums", spec := "fnNums", apart := false, narrowed := true }
def FnNumsUptoSaid : Prop := fnNumsUptoRow.holds Try.pinned (OpenSpec.upto fnNumsSpec)

/-- 'laws.FnNumsBent', WHERE WHAT IT READS IS OF BULK AT MOST 1048576: true; the input reads as it did. -/
def fnNumsBentUptoRow : OpenClaim := { program := "ythbnnjajgfgnoaa", sum := "83b87f00f57bf593175da2ddca7593adef56c93bf7bfec24524c14617ac5662e", func := "loop.example/g00496/laws.FnNumsBent", spec := "fnNumsBent", apart := false, narrowed := true }
def FnNumsBentUptoSaid : Prop := fnNumsBentUptoRow.holds Try.pinned (OpenSpec.upto fnNumsBentSpec)

/-- 'laws.FnNumLists', WHERE WHAT IT READS IS OF BULK AT MOST 1048576: true; the input reads as it did. -/
def fnNumListsUptoRow : OpenClaim := { program := "ythbnnjajgfgnoaa", sum := "83b87f00f57bf593175da2ddca7593adef56c93bf7bfec24524c14617ac5662e", func := "loop.example/g00496/laws.FnNumLists", spec := "fnNumLists", apart := false, narrowed := true }
def FnNumListsUptoSaid : Prop := fnNumListsUptoRow.holds Try.pinned (OpenSpec.upto fnNumListsSpec)

/-- 'laws.FnExactZigZag', WHERE WHAT IT READS IS OF BULK AT MOST 1048576: true; the input reads as it did. -/
def fnExactZigZagUptoRow : OpenClaim := { program := "ythbnnjajgfgnoaa", sum := "83b87f00f57bf593175da2ddca7593adef56c93bf7bfec24524c14617ac5662e", func := "loop.example/g00496/laws.FnExactZigZag", spec := "fnExactZigZag", apart := false, narrowed := true }
def FnExactZigZagUptoSaid : Prop := fnExactZigZagUptoRow.holds Try.pinned (OpenSpec.upto fnExactZigZagSpec)

/-- 'laws.FnExactZagZig', WHERE WHAT IT READS IS OF BULK AT MOST 1048576: true; the input reads as it did. -/
def fnExactZagZigUptoRow : OpenClaim := { program := "ythbnnjajgfgnoaa", sum := "83b87f00f57bf593175da2ddca7593adef56c93bf7bfec24524c14617ac5662e", func := "loop.example/g00496/laws.FnExactZagZig", spec := "fnExactZagZig", apart := false, narrowed := true }
def FnExactZagZigUptoSaid : Prop := fnExactZagZigUptoRow.holds Try.pinned (OpenSpec.upto fnExactZagZigSpec)

/-- 'laws.FnExactPutNum', WHERE WHAT IT READS IS OF BULK AT MOST 1048576: true; the input reads as it did. -/
def fnExactPutNumUptoRow : OpenClaim := { program := "ythbnnjajgfgnoaa", sum := "83b87f00f57bf593175da2ddca7593adef56c93bf7bfec24524c14617ac5662e", func := "loop.example/g00496/laws.FnExactPutNum", spec := "fnExactPutNum", apart := false, narrowed := true }
def FnExactPutNumUptoSaid : Prop := fnExactPutNumUptoRow.holds Try.pinned (OpenSpec.upto fnExactPutNumSpec)

/-- 'laws.FnExactGetNum', WHERE WHAT IT READS IS OF BULK AT MOST 1048576: true; the input reads as it did. -/
def fnExactGetNumUptoRow : OpenClaim := { program := "ythbnnjajgfgnoaa", sum := "83b87f00f57bf593175da2ddca7593adef56c93bf7bfec24524c14617ac5662e", func := "loop.example/g00496/laws.FnExactGetNum", spec := "fnExactGetNum", apart := false, narrowed := true }
def FnExactGetNumUptoSaid : Prop := fnExactGetNumUptoRow.holds Try.pinned (OpenSpec.upto fnExactGetNumSpec)

/-- 'laws.FnExactPutNums', WHERE WHAT IT READS IS OF BULK AT MOST 1048576: true; the input reads as it did. -/
def fnExactPutNumsUptoRow : OpenClaim := { program := "ythbnnjajgfgnoaa", sum := "83b87f00f57bf593175da2ddca7593adef56c93bf7bfec24524c14617ac5662e", func := "loop.example/g00496/laws.FnExactPutNums", spec := "fnExactPutNums", apart := false, narrowed := true }
def FnExactPutNumsUptoSaid : Prop := fnExactPutNumsUptoRow.holds Try.pinned (OpenSpec.upto fnExactPutNumsSpec)

/-- 'laws.FnExactGetNums', WHERE WHAT IT READS IS OF BULK AT MOST 1048576: true; the input reads as it did. -/
def fnExactGetNumsUptoRow : OpenClaim := { program := "ythbnnjajgfgnoaa", sum := "83b87f00f57bf593175da2ddca7593adef56c93bf7bfec24524c14617ac5662e", func := "loop.example/g00496/laws.FnExactGetNums", spec := "fnExactGetNums", apart := false, narrowed := true }
def FnExactGetNumsUptoSaid : Prop := fnExactGetNumsUptoRow.holds Try.pinned (OpenSpec.upto fnExactGetNumsSpec)

end Rows
end Go.Proofs.Ythbnnjajgfgnoaa
