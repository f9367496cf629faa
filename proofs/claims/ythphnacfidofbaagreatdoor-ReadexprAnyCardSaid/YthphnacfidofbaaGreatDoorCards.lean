/-
  DERIVED. GIVEN WITH THE SEED: THE CARDS: each row of YthphnacfidofbaaGreatDoorRows.lean that lists a variable, with what it lists TIED to the program's text (the seventh form; the later family's looks); each row that meets fmt, with fmt's text TOLD by the authors' own Lean function (tested against real Go, not proved from fmt's source: count such statements apart). THE CARD IS WHAT COUNTS. Prove the row's statement (the work); the ties are given (YthphnacfidofbaaGreatDoorTie.lean); close each card by the builder's one call (the guide's Derived/Test/ToyasCard.lean, 'card_holds'). Laid BY PROGRAM, IN A SANDBOX (cutbox-door.mjs). By AI agents, Wed Nov 11 2026. No macro, syntax, notation, axiom, sorry.
-/
import Derived.Test.YthphnacfidofbaaGreatDoorRows
import GoSem.ClaimSeven
namespace Go.Proofs.YthphnacfidofbaaGreatDoor
namespace Rows

/-- THE TIED CARD OF 'typedholeslaw5.ReadtypeReturns'. -/
def readtypeReturnsCard : Claim7 := { stood := { row := readtypeReturnsRow, standIns := [], harness := (true, "ae4f09eee6bb0b63f98df5fe79686e2eea4191a0410f04796127e62bcdfb6b75"), looks := true }, kinds := [], alts := [], laidByText := true, laidKinds := [.handle], laidTests := true, laidLooks := .later }
def ReadtypeReturnsCardSaid : Prop := Claim7.holds Tryz.pinned (.plain (OpenSpec.ofChange readtypeReturnsSpec)) readtypeReturnsCard

/-- THE TIED CARD OF 'typedholeslaw5.ReadtypeParentheses'. -/
def readtypeParenthesesCard : Claim7 := { stood := { row := readtypeParenthesesRow, standIns := [], harness := (true, "ae4f09eee6bb0b63f98df5fe79686e2eea4191a0410f04796127e62bcdfb6b75"), looks := true }, kinds := [], alts := [], laidByText := true, laidKinds := [.handle], laidTests := true, laidLooks := .later }
def ReadtypeParenthesesCardSaid : Prop := Claim7.holds Tryz.pinned (.plain (OpenSpec.ofChange readtypeParenthesesSpec)) readtypeParenthesesCard

/-- THE TIED CARD OF 'typedholeslaw6.ReadexprAny'. -/
def readexprAnyCard : Claim7 := { stood := { row := readexprAnyRow, standIns := [], harness := (true, "ae4f09eee6bb0b63f98df5fe79686e2eea4191a0410f04796127e62bcdfb6b75"), looks := true }, kinds := [], alts := [], laidByText := true, laidKinds := [.data, .data, .data, .handle, .sentinel, .sentinel, .sentinel], laidTests := true, laidLooks := .later }
def ReadexprAnyCardSaid : Prop := Claim7.holds Tryz.pinned (.plain (OpenSpec.ofChange readexprAnySpec)) readexprAnyCard

/-- THE TIED CARD OF 'typedholeslaw6.ReadexprTexts'. -/
def readexprTextsCard : Claim7 := { stood := { row := readexprTextsRow, standIns := [], harness := (true, "ae4f09eee6bb0b63f98df5fe79686e2eea4191a0410f04796127e62bcdfb6b75"), looks := true }, kinds := [], alts := [], laidByText := true, laidKinds := [.data, .data, .data, .handle, .sentinel, .sentinel, .sentinel], laidTests := true, laidLooks := .later }
def ReadexprTextsCardSaid : Prop := Claim7.holds Tryz.pinned (.plain (OpenSpec.ofChange readexprTextsSpec)) readexprTextsCard

/-- THE TIED CARD OF 'typedholeslaw6.ReadexprParentheses'. -/
def readexprParenthesesCard : Claim7 := { stood := { row := readexprParenthesesRow, standIns := [], harness := (true, "ae4f09eee6bb0b63f98df5fe79686e2eea4191a0410f04796127e62bcdfb6b75"), looks := true }, kinds := [], alts := [], laidByText := true, laidKinds := [.data, .data, .data, .handle, .sentinel, .sentinel, .sentinel], laidTests := true, laidLooks := .later }
def ReadexprParenthesesCardSaid : Prop := Claim7.holds Tryz.pinned (.plain (OpenSpec.ofChange readexprParenthesesSpec)) readexprParenthesesCard

/-- THE SECOND FORM's CARD OF 'typedholeslaw5.ReadtypeReturns'. -/
def readtypeReturnsUptoCard : Claim7 := { stood := { row := readtypeReturnsUptoRow, standIns := [], harness := (true, "ae4f09eee6bb0b63f98df5fe79686e2eea4191a0410f04796127e62bcdfb6b75"), looks := true }, kinds := [], alts := [], laidByText := true, laidKinds := [.handle], laidTests := true, laidLooks := .later }
def ReadtypeReturnsUptoCardSaid : Prop := Claim7.holds Tryz.pinned (.plain (OpenSpec.upto readtypeReturnsSpec)) readtypeReturnsUptoCard

/-- THE SECOND FORM's CARD OF 'typedholeslaw5.ReadtypeParentheses'. -/
def readtypeParenthesesUptoCard : Claim7 := { stood := { row := readtypeParenthesesUptoRow, standIns := [], harness := (true, "ae4f09eee6bb0b63f98df5fe79686e2eea4191a0410f04796127e62bcdfb6b75"), looks := true }, kinds := [], alts := [], laidByText := true, laidKinds := [.handle], laidTests := true, laidLooks := .later }
def ReadtypeParenthesesUptoCardSaid : Prop := Claim7.holds Tryz.pinned (.plain (OpenSpec.upto readtypeParenthesesSpec)) readtypeParenthesesUptoCard

/-- THE SECOND FORM's CARD OF 'typedholeslaw6.ReadexprAny'. -/
def readexprAnyUptoCard : Claim7 := { stood := { row := readexprAnyUptoRow, standIns := [], harness := (true, "ae4f09eee6bb0b63f98df5fe79686e2eea4191a0410f04796127e62bcdfb6b75"), looks := true }, kinds := [], alts := [], laidByText := true, laidKinds := [.data, .data, .data, .handle, .sentinel, .sentinel, .sentinel], laidTests := true, laidLooks := .later }
def ReadexprAnyUptoCardSaid : Prop := Claim7.holds Tryz.pinned (.plain (OpenSpec.upto readexprAnySpec)) readexprAnyUptoCard

/-- THE SECOND FORM's CARD OF 'typedholeslaw6.ReadexprTexts'. -/
def readexprTextsUptoCard : Claim7 := { stood := { row := readexprTextsUptoRow, standIns := [], harness := (true, "ae4f09eee6bb0b63f98df5fe79686e2eea4191a0410f04796127e62bcdfb6b75"), looks := true }, kinds := [], alts := [], laidByText := true, laidKinds := [.data, .data, .data, .handle, .sentinel, .sentinel, .sentinel], laidTests := true, laidLooks := .later }
def ReadexprTextsUptoCardSaid : Prop := Claim7.holds Tryz.pinned (.plain (OpenSpec.upto readexprTextsSpec)) readexprTextsUptoCard

/-- THE SECOND FORM's CARD OF 'typedholeslaw6.ReadexprParentheses'. -/
def readexprParenthesesUptoCard : Claim7 := { stood := { row := readexprParenthesesUptoRow, standIns := [], harness := (true, "ae4f09eee6bb0b63f98df5fe79686e2eea4191a0410f04796127e62bcdfb6b75"), looks := true }, kinds := [], alts := [], laidByText := true, laidKinds := [.data, .data, .data, .handle, .sentinel, .sentinel, .sentinel], laidTests := true, laidLooks := .later }
def ReadexprParenthesesUptoCardSaid : Prop := Claim7.holds Tryz.pinned (.plain (OpenSpec.upto readexprParenthesesSpec)) readexprParenthesesUptoCard
end Rows
end Go.Proofs.YthphnacfidofbaaGreatDoor
