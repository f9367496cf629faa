/-
  NARROWER THAN 'FOR EVERY INPUT', by the rows' own cells (each row's printed sentence says how): SubstValid: loops.
  DERIVED. THE GIVEN ROWS OF THIS SEAT. 5 by the template 'for every input the law returns true; each argument reads behind the call as it read before'; 0 by the template 'total and deterministic' (their statements: YtmjdddmfhakabaaTotals.lean).
  GIVEN WITH THE SEED: the statements are not yours to turn. If you find one false, say at which input.
  Laid BY PROGRAM, IN A SANDBOX (cutbox-rows.mjs): the forced cells as the released guide's own fill.sh prints them over the translation b8fb40f37b51d209… (all of the seat's roots in one cut). By AI agents, Wed Nov 11 2026. No macro, syntax, notation, axiom, sorry.
-/
import Derived.Test.YtmjdddmfhakabaaChecked
import GoSem.Claim
import GoSem.ClaimJoined
import GoSem.ClaimMapViews
import Derived.JoinedTies
import Derived.KernelRfl
namespace Go.Proofs.Ytmjdddmfhakabaa
/- THE CELL 'sum', in the pinned program and in every row, IS THE sha256 OF THE DUMP (.gsa) THAT YtmjdddmfhakabaaProg.lean LOADS. Nothing in Lean hashes anything: it is a label: what it is worth is what the hold of that sum in a sandbox is worth. -/
noncomputable def Try.pinned : Pinned := { name := "ytmjdddmfhakabaa", sum := "b8fb40f37b51d2099e6ae8d0b452dcb84dbd4db0aed101be4db4c480cd2d54d1", checked := Try.checked }
namespace Rows
def none {H : Type} : Left H := { results := [], args := [] }

/-- 'typedholeslaw13.SubstComposes': WHATEVER THE INPUT: true; the input reads as it did. -/
def substComposesSpec : ChangeSpec := { name := "substComposes", fn := fun _ => fun
  | [d1, d2] => { results := [.lit (.bool true)], args := [d1, d2] }
  | _ => none }
def substComposesRow : OpenClaim := { program := "ytmjdddmfhakabaa", sum := "b8fb40f37b51d2099e6ae8d0b452dcb84dbd4db0aed101be4db4c480cd2d54d1", func := "typedholes/typedholeslaw13.SubstComposes", spec := "substComposes", unfollowed := true, recurses := true, apart := false }
def SubstComposesSaid : Prop := substComposesRow.holds Try.pinned (OpenSpec.ofChange substComposesSpec)

/-- ITS FALSE NEIGHBOUR: 'it returns false'. Refute it at one input. -/
def substComposesWrong : ChangeSpec := { name := "substComposes", fn := fun _ => fun
  | [d1, d2] => { results := [.lit (.bool false)], args := [d1, d2] }
  | _ => none }
def SubstComposesWrongFalsely : Prop := substComposesRow.holds Try.pinned (OpenSpec.ofChange substComposesWrong)

/-- 'typedholeslaw13.SubstAssociates': WHATEVER THE INPUT: true; the input reads as it did. -/
def substAssociatesSpec : ChangeSpec := { name := "substAssociates", fn := fun _ => fun
  | [d1, d2] => { results := [.lit (.bool true)], args := [d1, d2] }
  | _ => none }
def substAssociatesRow : OpenClaim := { program := "ytmjdddmfhakabaa", sum := "b8fb40f37b51d2099e6ae8d0b452dcb84dbd4db0aed101be4db4c480cd2d54d1", func := "typedholes/typedholeslaw13.SubstAssociates", spec := "substAssociates", unfollowed := true, recurses := true, apart := false }
def SubstAssociatesSaid : Prop := substAssociatesRow.holds Try.pinned (OpenSpec.ofChange substAssociatesSpec)

/-- ITS FALSE NEIGHBOUR: 'it returns false'. Refute it at one input. -/
def substAssociatesWrong : ChangeSpec := { name := "substAssociates", fn := fun _ => fun
  | [d1, d2] => { results := [.lit (.bool false)], args := [d1, d2] }
  | _ => none }
def SubstAssociatesWrongFalsely : Prop := substAssociatesRow.holds Try.pinned (OpenSpec.ofChange substAssociatesWrong)

/-- 'typedholeslaw13.SubstValid': WHATEVER THE INPUT: true; the input reads as it did. -/
def substValidSpec : ChangeSpec := { name := "substValid", fn := fun _ => fun
  | [d1, d2, d3] => { results := [.lit (.bool true)], args := [d1, d2, d3] }
  | _ => none }
def substValidRow : OpenClaim := { program := "ytmjdddmfhakabaa", sum := "b8fb40f37b51d2099e6ae8d0b452dcb84dbd4db0aed101be4db4c480cd2d54d1", func := "typedholes/typedholeslaw13.SubstValid", spec := "substValid", unfollowed := true, recurses := true, loops := true, apart := false }
def SubstValidSaid : Prop := substValidRow.holds Try.pinned (OpenSpec.ofChange substValidSpec)

/-- ITS FALSE NEIGHBOUR: 'it returns false'. Refute it at one input. -/
def substValidWrong : ChangeSpec := { name := "substValid", fn := fun _ => fun
  | [d1, d2, d3] => { results := [.lit (.bool false)], args := [d1, d2, d3] }
  | _ => none }
def SubstValidWrongFalsely : Prop := substValidRow.holds Try.pinned (OpenSpec.ofChange substValidWrong)

/-- 'typedholeslaw13.SubstEqual': WHATEVER THE INPUT: true; the input reads as it did. -/
def substEqualSpec : ChangeSpec := { name := "substEqual", fn := fun _ => fun
  | [d1, d2, d3] => { results := [.lit (.bool true)], args := [d1, d2, d3] }
  | _ => none }
def substEqualRow : OpenClaim := { program := "ytmjdddmfhakabaa", sum := "b8fb40f37b51d2099e6ae8d0b452dcb84dbd4db0aed101be4db4c480cd2d54d1", func := "typedholes/typedholeslaw13.SubstEqual", spec := "substEqual", unfollowed := true, recurses := true, apart := false }
def SubstEqualSaid : Prop := substEqualRow.holds Try.pinned (OpenSpec.ofChange substEqualSpec)

/-- ITS FALSE NEIGHBOUR: 'it returns false'. Refute it at one input. -/
def substEqualWrong : ChangeSpec := { name := "substEqual", fn := fun _ => fun
  | [d1, d2, d3] => { results := [.lit (.bool false)], args := [d1, d2, d3] }
  | _ => none }
def SubstEqualWrongFalsely : Prop := substEqualRow.holds Try.pinned (OpenSpec.ofChange substEqualWrong)

/-- 'typedholeslaw13.SubstFactors': WHATEVER THE INPUT: true; the input reads as it did. -/
def substFactorsSpec : ChangeSpec := { name := "substFactors", fn := fun _ => fun
  | [d1, d2] => { results := [.lit (.bool true)], args := [d1, d2] }
  | _ => none }
def substFactorsRow : OpenClaim := { program := "ytmjdddmfhakabaa", sum := "b8fb40f37b51d2099e6ae8d0b452dcb84dbd4db0aed101be4db4c480cd2d54d1", func := "typedholes/typedholeslaw13.SubstFactors", spec := "substFactors", unfollowed := true, recurses := true, apart := false }
def SubstFactorsSaid : Prop := substFactorsRow.holds Try.pinned (OpenSpec.ofChange substFactorsSpec)

/-- ITS FALSE NEIGHBOUR: 'it returns false'. Refute it at one input. -/
def substFactorsWrong : ChangeSpec := { name := "substFactors", fn := fun _ => fun
  | [d1, d2] => { results := [.lit (.bool false)], args := [d1, d2] }
  | _ => none }
def SubstFactorsWrongFalsely : Prop := substFactorsRow.holds Try.pinned (OpenSpec.ofChange substFactorsWrong)

/- THE SECOND FORM. 'bulk': how many values and letters a reading holds, each counted each time it is reached (what is shared counts as often as it is met; a slice's spare places count too). A statement '..UptoSaid' is the law's where the arguments, and the package variables that the reading takes, are together of bulk at most 1048576: NARROWER than '..Said'. Prove '..Said' where nothing that the law and all that it calls make is longer than what came in: it says more and counts as full. Else prove '..UptoSaid'. A law counts once. -/
mutual
def uptoBulk {H : Type} : DataW H → Nat
  | .lit (.string bytes) => bytes.length + 1
  | .lit _ => 1
  | .nil => 1
  | .ptr d => uptoBulk d + 1
  | .slice elems spare => uptoBulkAll elems + uptoBulkAll spare + 1
  | .agg parts => uptoBulkAll parts + 1
  | .iface _ d => uptoBulk d + 1
  | .map entries => uptoBulkEntries entries + 1
  | .held _ => 1
def uptoBulkAll {H : Type} : List (DataW H) → Nat
  | [] => 0
  | d :: r => uptoBulk d + uptoBulkAll r
def uptoBulkEntries {H : Type} : List (Lit × DataW H) → Nat
  | [] => 0
  | x :: r => uptoBulkEntry x + uptoBulkEntries r
def uptoBulkEntry {H : Type} : Lit × DataW H → Nat
  | (.string bytes, d) => bytes.length + uptoBulk d + 1
  | (_, d) => uptoBulk d + 1
 end
def uptoSmall : (H : Type) → List (DataW H) → Bool := fun _ ds => decide (uptoBulkAll ds ≤ 1048576)
def OpenSpec.upto (s : _root_.Go.ChangeSpec) : _root_.Go.OpenSpec := { _root_.Go.OpenSpec.ofChange s with cond := some uptoSmall }

/-- 'typedholeslaw13.SubstComposes', WHERE WHAT IT READS IS OF BULK AT MOST 1048576: true; the input reads as it did. -/
def substComposesUptoRow : OpenClaim := { program := "ytmjdddmfhakabaa", sum := "b8fb40f37b51d2099e6ae8d0b452dcb84dbd4db0aed101be4db4c480cd2d54d1", func := "typedholes/typedholeslaw13.SubstComposes", spec := "substComposes", unfollowed := true, recurses := true, apart := false, narrowed := true }
def SubstComposesUptoSaid : Prop := substComposesUptoRow.holds Try.pinned (OpenSpec.upto substComposesSpec)

/-- 'typedholeslaw13.SubstAssociates', WHERE WHAT IT READS IS OF BULK AT MOST 1048576: true; the input reads as it did. -/
def substAssociatesUptoRow : OpenClaim := { program := "ytmjdddmfhakabaa", sum := "b8fb40f37b51d2099e6ae8d0b452dcb84dbd4db0aed101be4db4c480cd2d54d1", func := "typedholes/typedholeslaw13.SubstAssociates", spec := "substAssociates", unfollowed := true, recurses := true, apart := false, narrowed := true }
def SubstAssociatesUptoSaid : Prop := substAssociatesUptoRow.holds Try.pinned (OpenSpec.upto substAssociatesSpec)

/-- 'typedholeslaw13.SubstValid', WHERE WHAT IT READS IS OF BULK AT MOST 1048576: true; the input reads as it did. -/
def substValidUptoRow : OpenClaim := { program := "ytmjdddmfhakabaa", sum := "b8fb40f37b51d2099e6ae8d0b452dcb84dbd4db0aed101be4db4c480cd2d54d1", func := "typedholes/typedholeslaw13.SubstValid", spec := "substValid", unfollowed := true, recurses := true, loops := true, apart := false, narrowed := true }
def SubstValidUptoSaid : Prop := substValidUptoRow.holds Try.pinned (OpenSpec.upto substValidSpec)

/-- 'typedholeslaw13.SubstEqual', WHERE WHAT IT READS IS OF BULK AT MOST 1048576: true; the input reads as it did. -/
def substEqualUptoRow : OpenClaim := { program := "ytmjdddmfhakabaa", sum := "b8fb40f37b51d2099e6ae8d0b452dcb84dbd4db0aed101be4db4c480cd2d54d1", func := "typedholes/typedholeslaw13.SubstEqual", spec := "substEqual", unfollowed := true, recurses := true, apart := false, narrowed := true }
def SubstEqualUptoSaid : Prop := substEqualUptoRow.holds Try.pinned (OpenSpec.upto substEqualSpec)

/-- 'typedholeslaw13.SubstFactors', WHERE WHAT IT READS IS OF BULK AT MOST 1048576: true; the input reads as it did. -/
def substFactorsUptoRow : OpenClaim := { program := "ytmjdddmfhakabaa", sum := "b8fb40f37b51d2099e6ae8d0b452dcb84dbd4db0aed101be4db4c480cd2d54d1", func := "typedholes/typedholeslaw13.SubstFactors", spec := "substFactors", unfollowed := true, recurses := true, apart := false, narrowed := true }
def SubstFactorsUptoSaid : Prop := substFactorsUptoRow.holds Try.pinned (OpenSpec.upto substFactorsSpec)

end Rows
end Go.Proofs.Ytmjdddmfhakabaa
