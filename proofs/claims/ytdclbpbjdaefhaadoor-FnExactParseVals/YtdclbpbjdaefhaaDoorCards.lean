/-
  DERIVED. GIVEN WITH THE SEED: THE CARDS: each row of YtdclbpbjdaefhaaDoorRows.lean that lists a variable, with what it lists TIED to the program's text (the seventh form; the later family's looks); each row that meets fmt, with fmt's text TOLD by the authors' own Lean function (tested against real Go, not proved from fmt's source: count such statements apart). THE CARD IS WHAT COUNTS. Prove the row's statement (the work); the ties are given (YtdclbpbjdaefhaaDoorTie.lean); close each card by the builder's one call (the guide's Derived/Test/ToyasCard.lean, 'card_holds'). Laid BY PROGRAM, IN A SANDBOX (cutbox-door.mjs). By AI agents, Wed Nov 11 2026. No macro, syntax, notation, axiom, sorry.
-/
import Derived.Test.YtdclbpbjdaefhaaDoorRows
import GoSem.ClaimSeven
namespace Go.Proofs.YtdclbpbjdaefhaaDoor
namespace Rows

/-- THE TIED CARD OF 'laws.FnExactRowText'. -/
def fnExactRowTextCard : Claim7 := { stood := { row := fnExactRowTextRow, standIns := [], harness := (true, "5e0032f45ab01138d59a0121b77a5725d9b5f3fad235e4ac0913efdbff2d0707"), looks := true }, kinds := [], alts := [], laidByText := true, laidKinds := [.data, .data, .data], laidTests := true, laidLooks := .later }
def FnExactRowTextCardSaid : Prop := Claim7.holds Tryd.pinned (.plain (OpenSpec.ofChange fnExactRowTextSpec)) fnExactRowTextCard

/-- THE TIED CARD OF 'laws.FnExactParseVals'. -/
def fnExactParseValsCard : Claim7 := { stood := { row := fnExactParseValsRow, standIns := [], harness := (true, "5e0032f45ab01138d59a0121b77a5725d9b5f3fad235e4ac0913efdbff2d0707"), looks := true }, kinds := [], alts := [], laidByText := true, laidKinds := [.data, .data, .data, .sentinel, .sentinel], laidTests := true, laidLooks := .later }
def FnExactParseValsCardSaid : Prop := Claim7.holds Tryd.pinned (.plain (OpenSpec.ofChange fnExactParseValsSpec)) fnExactParseValsCard

/-- THE SECOND FORM's CARD OF 'laws.FnExactRowText'. -/
def fnExactRowTextUptoCard : Claim7 := { stood := { row := fnExactRowTextUptoRow, standIns := [], harness := (true, "5e0032f45ab01138d59a0121b77a5725d9b5f3fad235e4ac0913efdbff2d0707"), looks := true }, kinds := [], alts := [], laidByText := true, laidKinds := [.data, .data, .data], laidTests := true, laidLooks := .later }
def FnExactRowTextUptoCardSaid : Prop := Claim7.holds Tryd.pinned (.plain (OpenSpec.upto fnExactRowTextSpec)) fnExactRowTextUptoCard

/-- THE SECOND FORM's CARD OF 'laws.FnExactParseVals'. -/
def fnExactParseValsUptoCard : Claim7 := { stood := { row := fnExactParseValsUptoRow, standIns := [], harness := (true, "5e0032f45ab01138d59a0121b77a5725d9b5f3fad235e4ac0913efdbff2d0707"), looks := true }, kinds := [], alts := [], laidByText := true, laidKinds := [.data, .data, .data, .sentinel, .sentinel], laidTests := true, laidLooks := .later }
def FnExactParseValsUptoCardSaid : Prop := Claim7.holds Tryd.pinned (.plain (OpenSpec.upto fnExactParseValsSpec)) fnExactParseValsUptoCard
end Rows
end Go.Proofs.YtdclbpbjdaefhaaDoor
