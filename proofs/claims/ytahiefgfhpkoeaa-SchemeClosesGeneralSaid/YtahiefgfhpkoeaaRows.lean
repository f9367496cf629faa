/-
  NARROWER THAN 'FOR EVERY INPUT', by the rows' own cells (each row's printed sentence says how): SchemeValid: loops.
  DERIVED. THE GIVEN ROWS OF THIS SEAT. 6 by the template 'for every input the law returns true; each argument reads behind the call as it read before'; 0 by the template 'total and deterministic' (their statements: YtahiefgfhpkoeaaTotals.lean).
  GIVEN WITH THE SEED: the statements are not yours to turn. If you find one false, say at which input.
  Laid BY PROGRAM, IN A SANDBOX (cutbox-rows.mjs): the forced cells as the released guide's own fill.sh prints them over the translation acb1bab628a786fe… (all of the seat's roots in one cut). By AI agents, Wed Nov 11 2026. No macro, syntax, notation, axiom, sorry.
-/
import Derived.Test.YtahiefgfhpkoeaaChecked
import GoSem.Claim
import GoSem.ClaimJoined
import GoSem.ClaimMapViews
import Derived.JoinedTies
import Derived.KernelRfl
namespace Go.Proofs.Ytahiefgfhpkoeaa
/- THE CELL 'sum', in the pinned program and in every row, IS THE sha256 OF THE DUMP (.gsa) THAT YtahiefgfhpkoeaaProg.lean LOADS. Nothing in Lean hashes anything: it is a label: what it is worth is what the hold of that sum in a sandbox is worth. -/
noncomputable def Try.pinned : Pinned := { name := "ytahiefgfhpkoeaa", sum := "acb1bab628a786fec496e7996b4ac5b4c525ba813cc6ee7c0a8065b30634e25d", checked := Try.checked }
namespace Rows
def none {H : Type} : Left H := { results := [], args := [] }

/-- 'typedholeslaw14.SchemeValid': WHATEVER THE INPUT: true; the input reads as it did. -/
def schemeValidSpec : ChangeSpec := { name := "schemeValid", fn := fun _ => fun
  | [d1, d2, d3, d4] => { results := [.lit (.bool true)], args := [d1, d2, d3, d4] }
  | _ => none }
def schemeValidRow : OpenClaim := { program := "ytahiefgfhpkoeaa", sum := "acb1bab628a786fec496e7996b4ac5b4c525ba813cc6ee7c0a8065b30634e25d", func := "typedholes/typedholeslaw14.SchemeValid", spec := "schemeValid", unfollowed := true, recurses := true, loops := true, apart := false }
def SchemeValidSaid : Prop := schemeValidRow.holds Try.pinned (OpenSpec.ofChange schemeValidSpec)

/-- ITS FALSE NEIGHBOUR: 'it returns false'. Refute it at one input. -/
def schemeValidWrong : ChangeSpec := { name := "schemeValid", fn := fun _ => fun
  | [d1, d2, d3, d4] => { results := [.lit (.bool false)], args := [d1, d2, d3, d4] }
  | _ => none }
def SchemeValidWrongFalsely : Prop := schemeValidRow.holds Try.pinned (OpenSpec.ofChange schemeValidWrong)

/-- 'typedholeslaw14.SchemeCloses': WHATEVER THE INPUT: true; the input reads as it did. -/
def schemeClosesSpec : ChangeSpec := { name := "schemeCloses", fn := fun _ => fun
  | [d1, d2, d3] => { results := [.lit (.bool true)], args := [d1, d2, d3] }
  | _ => none }
def schemeClosesRow : OpenClaim := { program := "ytahiefgfhpkoeaa", sum := "acb1bab628a786fec496e7996b4ac5b4c525ba813cc6ee7c0a8065b30634e25d", func := "typedholes/typedholeslaw14.SchemeCloses", spec := "schemeCloses", unfollowed := true, recurses := true, apart := false }
def SchemeClosesSaid : Prop := schemeClosesRow.holds Try.pinned (OpenSpec.ofChange schemeClosesSpec)

/-- ITS FALSE NEIGHBOUR: 'it returns false'. Refute it at one input. -/
def schemeClosesWrong : ChangeSpec := { name := "schemeCloses", fn := fun _ => fun
  | [d1, d2, d3] => { results := [.lit (.bool false)], args := [d1, d2, d3] }
  | _ => none }
def SchemeClosesWrongFalsely : Prop := schemeClosesRow.holds Try.pinned (OpenSpec.ofChange schemeClosesWrong)

/-- 'typedholeslaw14.SchemeInstances': WHATEVER THE INPUT: true; the input reads as it did. -/
def schemeInstancesSpec : ChangeSpec := { name := "schemeInstances", fn := fun _ => fun
  | [d1, d2] => { results := [.lit (.bool true)], args := [d1, d2] }
  | _ => none }
def schemeInstancesRow : OpenClaim := { program := "ytahiefgfhpkoeaa", sum := "acb1bab628a786fec496e7996b4ac5b4c525ba813cc6ee7c0a8065b30634e25d", func := "typedholes/typedholeslaw14.SchemeInstances", spec := "schemeInstances", unfollowed := true, recurses := true, apart := false }
def SchemeInstancesSaid : Prop := schemeInstancesRow.holds Try.pinned (OpenSpec.ofChange schemeInstancesSpec)

/-- ITS FALSE NEIGHBOUR: 'it returns false'. Refute it at one input. -/
def schemeInstancesWrong : ChangeSpec := { name := "schemeInstances", fn := fun _ => fun
  | [d1, d2] => { results := [.lit (.bool false)], args := [d1, d2] }
  | _ => none }
def SchemeInstancesWrongFalsely : Prop := schemeInstancesRow.holds Try.pinned (OpenSpec.ofChange schemeInstancesWrong)

/-- 'typedholeslaw14.SchemeGeneral': WHATEVER THE INPUT: true; the input reads as it did. -/
def schemeGeneralSpec : ChangeSpec := { name := "schemeGeneral", fn := fun _ => fun
  | [d1, d2] => { results := [.lit (.bool true)], args := [d1, d2] }
  | _ => none }
def schemeGeneralRow : OpenClaim := { program := "ytahiefgfhpkoeaa", sum := "acb1bab628a786fec496e7996b4ac5b4c525ba813cc6ee7c0a8065b30634e25d", func := "typedholes/typedholeslaw14.SchemeGeneral", spec := "schemeGeneral", unfollowed := true, recurses := true, apart := false }
def SchemeGeneralSaid : Prop := schemeGeneralRow.holds Try.pinned (OpenSpec.ofChange schemeGeneralSpec)

/-- ITS FALSE NEIGHBOUR: 'it returns false'. Refute it at one input. -/
def schemeGeneralWrong : ChangeSpec := { name := "schemeGeneral", fn := fun _ => fun
  | [d1, d2] => { results := [.lit (.bool false)], args := [d1, d2] }
  | _ => none }
def SchemeGeneralWrongFalsely : Prop := schemeGeneralRow.holds Try.pinned (OpenSpec.ofChange schemeGeneralWrong)

/-- 'typedholeslaw14.SchemeClosesGeneral': WHATEVER THE INPUT: true; the input reads as it did. -/
def schemeClosesGeneralSpec : ChangeSpec := { name := "schemeClosesGeneral", fn := fun _ => fun
  | [d1, d2] => { results := [.lit (.bool true)], args := [d1, d2] }
  | _ => none }
def schemeClosesGeneralRow : OpenClaim := { program := "ytahiefgfhpkoeaa", sum := "acb1bab628a786fec496e7996b4ac5b4c525ba813cc6ee7c0a8065b30634e25d", func := "typedholes/typedholeslaw14.SchemeClosesGeneral", spec := "schemeClosesGeneral", unfollowed := true, recurses := true, apart := false }
def SchemeClosesGeneralSaid : Prop := schemeClosesGeneralRow.holds Try.pinned (OpenSpec.ofChange schemeClosesGeneralSpec)

/-- ITS FALSE NEIGHBOUR: 'it returns false'. Refute it at one input. -/
def schemeClosesGeneralWrong : ChangeSpec := { name := "schemeClosesGeneral", fn := fun _ => fun
  | [d1, d2] => { results := [.lit (.bool false)], args := [d1, d2] }
  | _ => none }
def SchemeClosesGeneralWrongFalsely : Prop := schemeClosesGeneralRow.holds Try.pinned (OpenSpec.ofChange schemeClosesGeneralWrong)

/-- 'typedholeslaw14.SchemeFree': WHATEVER THE INPUT: true; the input reads as it did. -/
def schemeFreeSpec : ChangeSpec := { name := "schemeFree", fn := fun _ => fun
  | [d1, d2] => { results := [.lit (.bool true)], args := [d1, d2] }
  | _ => none }
def schemeFreeRow : OpenClaim := { program := "ytahiefgfhpkoeaa", sum := "acb1bab628a786fec496e7996b4ac5b4c525ba813cc6ee7c0a8065b30634e25d", func := "typedholes/typedholeslaw14.SchemeFree", spec := "schemeFree", unfollowed := true, recurses := true, apart := false }
def SchemeFreeSaid : Prop := schemeFreeRow.holds Try.pinned (OpenSpec.ofChange schemeFreeSpec)

/-- ITS FALSE NEIGHBOUR: 'it returns false'. Refute it at one input. -/
def schemeFreeWrong : ChangeSpec := { name := "schemeFree", fn := fun _ => fun
  | [d1, d2] => { results := [.lit (.bool false)], args := [d1, d2] }
  | _ => none }
def SchemeFreeWrongFalsely : Prop := schemeFreeRow.holds Try.pinned (OpenSpec.ofChange schemeFreeWrong)

/- THE SECOND FORM. 'bulk': how many values and letters a reading holds, each counted each time it is reached (what is shared counts as often as it is met; a slice's spare places count too). A statement '..UptoSaid' is the law's where the arguments, and the package variables that the reading takes, are together of bulk at most 1048576: NARROWER than '..Said'. Prove '..Said' where nothing that the law and all that it calls make is longer than what came in: it says more and counts as full. Else prove '..UptoSaid'. A law counts once. -/
mutual
def uptoBulk {H : Type} : DataW H → Nat
  | .lit (.string bytes) => bytes.length + 1
  | .lit _ => 1
  | .nil => 1
  | .ptr d => uptoBulk d + 1
  | .slice elems spare => uptoBulkAll elems + uptoBulkAll spare + 1
  | .agg parts => uptoBulkAll parts + 1
  | .iface _ d => uptoBulk d + 1
  | .map entries => uptoBulkEntries entries + 1
  | .held _ => 1
def uptoBulkAll {H : Type} : List (DataW H) → Nat
  | [] => 0
  | d :: r => uptoBulk d + uptoBulkAll r
def uptoBulkEntries {H : Type} : List (Lit × DataW H) → Nat
  | [] => 0
  | x :: r => uptoBulkEntry x + uptoBulkEntries r
def uptoBulkEntry {H : Type} : Lit × DataW H → Nat
  | (.string bytes, d) => bytes.length + uptoBulk d + 1
  | (_, d) => uptoBulk d + 1
 end
def uptoSmall : (H : Type) → List (DataW H) → Bool := fun _ ds => decide (uptoBulkAll ds ≤ 1048576)
def OpenSpec.upto (s : _root_.Go.ChangeSpec) : _root_.Go.OpenSpec := { _root_.Go.OpenSpec.ofChange s with cond := some uptoSmall }

/-- 'typedholeslaw14.SchemeValid', WHERE WHAT IT READS IS OF BULK AT MOST 1048576: true; the input reads as it did. -/
def schemeValidUptoRow : OpenClaim := { program := "ytahiefgfhpkoeaa", sum := "acb1bab628a786fec496e7996b4ac5b4c525ba813cc6ee7c0a8065b30634e25d", func := "typedholes/typedholeslaw14.SchemeValid", spec := "schemeValid", unfollowed := true, recurses := true, loops := true, apart := false, narrowed := true }
def SchemeValidUptoSaid : Prop := schemeValidUptoRow.holds Try.pinned (OpenSpec.upto schemeValidSpec)

/-- 'typedholeslaw14.SchemeCloses', WHERE WHAT IT READS IS OF BULK AT MOST 1048576: true; the input reads as it did. -/
def schemeClosesUptoRow : OpenClaim := { program := "ytahiefgfhpkoeaa", sum := "acb1bab628a786fec496e7996b4ac5b4c525ba813cc6ee7c0a8065b30634e25d", func := "typedholes/typedholeslaw14.SchemeCloses", spec := "schemeCloses", unfollowed := true, recurses := true, apart := false, narrowed := true }
def SchemeClosesUptoSaid : Prop := schemeClosesUptoRow.holds Try.pinned (OpenSpec.upto schemeClosesSpec)

/-- 'typedholeslaw14.SchemeInstances', WHERE WHAT IT READS IS OF BULK AT MOST 1048576: true; the input reads as it did. -/
def schemeInstancesUptoRow : OpenClaim := { program := "ytahiefgfhpkoeaa", sum := "acb1bab628a786fec496e7996b4ac5b4c525ba813cc6ee7c0a8065b30634e25d", func := "typedholes/typedholeslaw14.SchemeInstances", spec := "schemeInstances", unfollowed := true, recurses := true, apart := false, narrowed := true }
def SchemeInstancesUptoSaid : Prop := schemeInstancesUptoRow.holds Try.pinned (OpenSpec.upto schemeInstancesSpec)

/-- 'typedholeslaw14.SchemeGeneral', WHERE WHAT IT READS IS OF BULK AT MOST 1048576: true; the input reads as it did. -/
def schemeGeneralUptoRow : OpenClaim := { program := "ytahiefgfhpkoeaa", sum := "acb1bab628a786fec496e7996b4ac5b4c525ba813cc6ee7c0a8065b30634e25d", func := "typedholes/typedholeslaw14.SchemeGeneral", spec := "schemeGeneral", unfollowed := true, recurses := true, apart := false, narrowed := true }
def SchemeGeneralUptoSaid : Prop := schemeGeneralUptoRow.holds Try.pinned (OpenSpec.upto schemeGeneralSpec)

/-- 'typedholeslaw14.SchemeClosesGeneral', WHERE WHAT IT READS IS OF BULK AT MOST 1048576: true; the input reads as it did. -/
def schemeClosesGeneralUptoRow : OpenClaim := { program := "ytahiefgfhpkoeaa", sum := "acb1bab628a786fec496e7996b4ac5b4c525ba813cc6ee7c0a8065b30634e25d", func := "typedholes/typedholeslaw14.SchemeClosesGeneral", spec := "schemeClosesGeneral", unfollowed := true, recurses := true, apart := false, narrowed := true }
def SchemeClosesGeneralUptoSaid : Prop := schemeClosesGeneralUptoRow.holds Try.pinned (OpenSpec.upto schemeClosesGeneralSpec)

/-- 'typedholeslaw14.SchemeFree', WHERE WHAT IT READS IS OF BULK AT MOST 1048576: true; the input reads as it did. -/
def schemeFreeUptoRow : OpenClaim := { program := "ytahiefgfhpkoeaa", sum := "acb1bab628a786fec496e7996b4ac5b4c525ba813cc6ee7c0a8065b30634e25d", func := "typedholes/typedholeslaw14.SchemeFree", spec := "schemeFree", unfollowed := true, recurses := true, apart := false, narrowed := true }
def SchemeFreeUptoSaid : Prop := schemeFreeUptoRow.holds Try.pinned (OpenSpec.upto schemeFreeSpec)

end Rows
end Go.Proofs.Ytahiefgfhpkoeaa
