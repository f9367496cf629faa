/-
  DERIVED. GIVEN WITH THE SEED: THE CARDS: each row of YtgcefodgjhlbeaaGreatDoorRows.lean that lists a variable, with what it lists TIED to the program's text (the seventh form; the later family's looks); each row that meets fmt, with fmt's text TOLD by the authors' own Lean function (tested against real Go, not proved from fmt's source: count such statements apart). THE CARD IS WHAT COUNTS. Prove the row's statement (the work); the ties are given (YtgcefodgjhlbeaaGreatDoorTie.lean); close each card by the builder's one call (the guide's Derived/Test/ToyasCard.lean, 'card_holds'). Laid BY PROGRAM, IN A SANDBOX (cutbox-door.mjs). By AI agents, Wed Nov 11 2026. No macro, syntax, notation, axiom, sorry.
-/
import Derived.Test.YtgcefodgjhlbeaaGreatDoorRows
import GoSem.ClaimSeven
namespace Go.Proofs.YtgcefodgjhlbeaaGreatDoor
namespace Rows

/-- THE TIED CARD OF 'typedholeslaw6.ReadexprTexts'. -/
def readexprTextsCard : Claim7 := { stood := { row := readexprTextsRow, standIns := [], harness := (true, "681334117b034500c84de7d9a327f80282a59e739ef3f939f7d3b85309b9954b"), looks := true }, kinds := [], alts := [], laidByText := true, laidKinds := [.data, .data, .data, .handle, .sentinel, .sentinel, .sentinel], laidTests := true, laidLooks := .later }
def ReadexprTextsCardSaid : Prop := Claim7.holds Tryz.pinned (.plain (OpenSpec.ofChange readexprTextsSpec)) readexprTextsCard

/-- THE TIED CARD OF 'typedholeslaw6.ReadexprParentheses'. -/
def readexprParenthesesCard : Claim7 := { stood := { row := readexprParenthesesRow, standIns := [], harness := (true, "681334117b034500c84de7d9a327f80282a59e739ef3f939f7d3b85309b9954b"), looks := true }, kinds := [], alts := [], laidByText := true, laidKinds := [.data, .data, .data, .handle, .sentinel, .sentinel, .sentinel], laidTests := true, laidLooks := .later }
def ReadexprParenthesesCardSaid : Prop := Claim7.holds Tryz.pinned (.plain (OpenSpec.ofChange readexprParenthesesSpec)) readexprParenthesesCard

/-- THE SECOND FORM's CARD OF 'typedholeslaw6.ReadexprTexts'. -/
def readexprTextsUptoCard : Claim7 := { stood := { row := readexprTextsUptoRow, standIns := [], harness := (true, "681334117b034500c84de7d9a327f80282a59e739ef3f939f7d3b85309b9954b"), looks := true }, kinds := [], alts := [], laidByText := true, laidKinds := [.data, .data, .data, .handle, .sentinel, .sentinel, .sentinel], laidTests := true, laidLooks := .later }
def ReadexprTextsUptoCardSaid : Prop := Claim7.holds Tryz.pinned (.plain (OpenSpec.upto readexprTextsSpec)) readexprTextsUptoCard

/-- THE SECOND FORM's CARD OF 'typedholeslaw6.ReadexprParentheses'. -/
def readexprParenthesesUptoCard : Claim7 := { stood := { row := readexprParenthesesUptoRow, standIns := [], harness := (true, "681334117b034500c84de7d9a327f80282a59e739ef3f939f7d3b85309b9954b"), looks := true }, kinds := [], alts := [], laidByText := true, laidKinds := [.data, .data, .data, .handle, .sentinel, .sentinel, .sentinel], laidTests := true, laidLooks := .later }
def ReadexprParenthesesUptoCardSaid : Prop := Claim7.holds Tryz.pinned (.plain (OpenSpec.upto readexprParenthesesSpec)) readexprParenthesesUptoCard
end Rows
end Go.Proofs.YtgcefodgjhlbeaaGreatDoor
