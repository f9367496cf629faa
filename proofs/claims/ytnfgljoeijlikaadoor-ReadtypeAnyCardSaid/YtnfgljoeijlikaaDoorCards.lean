/-
  DERIVED. GIVEN WITH THE SEED: THE CARDS: each row of YtnfgljoeijlikaaDoorRows.lean that lists a variable, with what it lists TIED to the program's text (the seventh form; the later family's looks); each row that meets fmt, with fmt's text TOLD by the authors' own Lean function (tested against real Go, not proved from fmt's source: count such statements apart). THE CARD IS WHAT COUNTS. Prove the row's statement (the work); the ties are given (YtnfgljoeijlikaaDoorTie.lean); close each card by the builder's one call (the guide's Derived/Test/ToyasCard.lean, 'card_holds'). Laid BY PROGRAM, IN A SANDBOX (cutbox-door.mjs). By AI agents, Wed Nov 11 2026. No macro, syntax, notation, axiom, sorry.
-/
import Derived.Test.YtnfgljoeijlikaaDoorRows
import GoSem.ClaimSeven
namespace Go.Proofs.YtnfgljoeijlikaaDoor
namespace Rows

/-- THE TIED CARD OF 'typedholeslaw5.ReadtypeAny'. -/
def readtypeAnyCard : Claim7 := { stood := { row := readtypeAnyRow, standIns := [], harness := (true, "ab530fc15a101bf8ea3f5242decc3b07af79be28b488c4a62df7258df87bc614"), looks := true }, kinds := [], alts := [], laidByText := true, laidKinds := [.handle], laidTests := true, laidLooks := .later }
def ReadtypeAnyCardSaid : Prop := Claim7.holds Tryd.pinned (.plain (OpenSpec.ofChange readtypeAnySpec)) readtypeAnyCard

/-- THE TIED CARD OF 'typedholeslaw5.ReadtypeStarts'. -/
def readtypeStartsCard : Claim7 := { stood := { row := readtypeStartsRow, standIns := [], harness := (true, "ab530fc15a101bf8ea3f5242decc3b07af79be28b488c4a62df7258df87bc614"), looks := true }, kinds := [], alts := [], laidByText := true, laidKinds := [.handle], laidTests := true, laidLooks := .later }
def ReadtypeStartsCardSaid : Prop := Claim7.holds Tryd.pinned (.plain (OpenSpec.ofChange readtypeStartsSpec)) readtypeStartsCard

/-- THE SECOND FORM's CARD OF 'typedholeslaw5.ReadtypeAny'. -/
def readtypeAnyUptoCard : Claim7 := { stood := { row := readtypeAnyUptoRow, standIns := [], harness := (true, "ab530fc15a101bf8ea3f5242decc3b07af79be28b488c4a62df7258df87bc614"), looks := true }, kinds := [], alts := [], laidByText := true, laidKinds := [.handle], laidTests := true, laidLooks := .later }
def ReadtypeAnyUptoCardSaid : Prop := Claim7.holds Tryd.pinned (.plain (OpenSpec.upto readtypeAnySpec)) readtypeAnyUptoCard

/-- THE SECOND FORM's CARD OF 'typedholeslaw5.ReadtypeStarts'. -/
def readtypeStartsUptoCard : Claim7 := { stood := { row := readtypeStartsUptoRow, standIns := [], harness := (true, "ab530fc15a101bf8ea3f5242decc3b07af79be28b488c4a62df7258df87bc614"), looks := true }, kinds := [], alts := [], laidByText := true, laidKinds := [.handle], laidTests := true, laidLooks := .later }
def ReadtypeStartsUptoCardSaid : Prop := Claim7.holds Tryd.pinned (.plain (OpenSpec.upto readtypeStartsSpec)) readtypeStartsUptoCard
end Rows
end Go.Proofs.YtnfgljoeijlikaaDoor
