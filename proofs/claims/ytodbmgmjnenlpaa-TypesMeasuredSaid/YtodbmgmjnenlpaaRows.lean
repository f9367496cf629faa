/-
  NARROWER THAN 'FOR EVERY INPUT', by the rows' own cells (each row's printed sentence says how): TypesValid: loops · TypesEqual: loops · TypesMeasured: loops · TypesOrdered: loops.
  DERIVED. THE GIVEN ROWS OF THIS SEAT. 5 by the template 'for every input the law returns true; each argument reads behind the call as it read before'; 0 by the template 'total and deterministic' (their statements: YtodbmgmjnenlpaaTotals.lean).
  GIVEN WITH THE SEED: the statements are not yours to turn. If you find one false, say at which input.
  Laid BY PROGRAM, IN A SANDBOX (cutbox-rows.mjs): the forced cells as the released guide's own fill.sh prints them over the translation a666d6bf33b40e79… (all of the seat's roots in one cut). By AI agents, Wed Nov 11 2026. No macro, syntax, notation, axiom, sorry.
-/
import Derived.Test.YtodbmgmjnenlpaaChecked
import GoSem.Claim
import GoSem.ClaimJoined
import GoSem.ClaimMapViews
import Derived.JoinedTies
import Derived.KernelRfl
namespace Go.Proofs.Ytodbmgmjnenlpaa
/- THE CELL 'sum', in the pinned program and in every row, IS THE sha256 OF THE DUMP (.gsa) THAT YtodbmgmjnenlpaaProg.lean LOADS. Nothing in Lean hashes anything: it is a label: what it is worth is what the hold of that sum in a sandbox is worth. -/
noncomputable def Try.pinned : Pinned := { name := "ytodbmgmjnenlpaa", sum := "a666d6bf33b40e79d3954f4830ac84237fe53fd58a90b52a029b467e069f25a6", checked := Try.checked }
namespace Rows
def none {H : Type} : Left H := { results := [], args := [] }

/-- 'typedholeslaw3.TypesValid': WHATEVER THE INPUT: true; the input reads as it did. -/
def typesValidSpec : ChangeSpec := { name := "typesValid", fn := fun _ => fun
  | [d1, d2, d3, d4, d5, d6] => { results := [.lit (.bool true)], args := [d1, d2, d3, d4, d5, d6] }
  | _ => none }
def typesValidRow : OpenClaim := { program := "ytodbmgmjnenlpaa", sum := "a666d6bf33b40e79d3954f4830ac84237fe53fd58a90b52a029b467e069f25a6", func := "typedholes/typedholeslaw3.TypesValid", spec := "typesValid", unfollowed := true, recurses := true, loops := true, plainKeys := false, apart := false }
def TypesValidSaid : Prop := typesValidRow.holds Try.pinned (OpenSpec.ofChange typesValidSpec)

/-- ITS FALSE NEIGHBOUR: 'it returns false'. Refute it at one input. -/
def typesValidWrong : ChangeSpec := { name := "typesValid", fn := fun _ => fun
  | [d1, d2, d3, d4, d5, d6] => { results := [.lit (.bool false)], args := [d1, d2, d3, d4, d5, d6] }
  | _ => none }
def TypesValidWrongFalsely : Prop := typesValidRow.holds Try.pinned (OpenSpec.ofChange typesValidWrong)

/-- 'typedholeslaw3.TypesEqual': WHATEVER THE INPUT: true; the input reads as it did. -/
def typesEqualSpec : ChangeSpec := { name := "typesEqual", fn := fun _ => fun
  | [d1, d2, d3, d4] => { results := [.lit (.bool true)], args := [d1, d2, d3, d4] }
  | _ => none }
def typesEqualRow : OpenClaim := { program := "ytodbmgmjnenlpaa", sum := "a666d6bf33b40e79d3954f4830ac84237fe53fd58a90b52a029b467e069f25a6", func := "typedholes/typedholeslaw3.TypesEqual", spec := "typesEqual", unfollowed := true, recurses := true, loops := true, plainKeys := false, apart := false }
def TypesEqualSaid : Prop := typesEqualRow.holds Try.pinned (OpenSpec.ofChange typesEqualSpec)

/-- ITS FALSE NEIGHBOUR: 'it returns false'. Refute it at one input. -/
def typesEqualWrong : ChangeSpec := { name := "typesEqual", fn := fun _ => fun
  | [d1, d2, d3, d4] => { results := [.lit (.bool false)], args := [d1, d2, d3, d4] }
  | _ => none }
def TypesEqualWrongFalsely : Prop := typesEqualRow.holds Try.pinned (OpenSpec.ofChange typesEqualWrong)

/-- 'typedholeslaw3.TypesMeasured': WHATEVER THE INPUT: true; the input reads as it did. -/
def typesMeasuredSpec : ChangeSpec := { name := "typesMeasured", fn := fun _ => fun
  | [d1, d2, d3, d4] => { results := [.lit (.bool true)], args := [d1, d2, d3, d4] }
  | _ => none }
def typesMeasuredRow : OpenClaim := { program := "ytodbmgmjnenlpaa", sum := "a666d6bf33b40e79d3954f4830ac84237fe53fd58a90b52a029b467e069f25a6", func := "typedholes/typedholeslaw3.TypesMeasured", spec := "typesMeasured", unfollowed := true, recurses := true, loops := true, plainKeys := false, apart := false }
def TypesMeasuredSaid : Prop := typesMeasuredRow.holds Try.pinned (OpenSpec.ofChange typesMeasuredSpec)

/-- ITS FALSE NEIGHBOUR: 'it returns false'. Refute it at one input. -/
def typesMeasuredWrong : ChangeSpec := { name := "typesMeasured", fn := fun _ => fun
  | [d1, d2, d3, d4] => { results := [.lit (.bool false)], args := [d1, d2, d3, d4] }
  | _ => none }
def TypesMeasuredWrongFalsely : Prop := typesMeasuredRow.holds Try.pinned (OpenSpec.ofChange typesMeasuredWrong)

/-- 'typedholeslaw3.TypesReplaced': WHATEVER THE INPUT: true; the input reads as it did. -/
def typesReplacedSpec : ChangeSpec := { name := "typesReplaced", fn := fun _ => fun
  | [d1, d2, d3] => { results := [.lit (.bool true)], args := [d1, d2, d3] }
  | _ => none }
def typesReplacedRow : OpenClaim := { program := "ytodbmgmjnenlpaa", sum := "a666d6bf33b40e79d3954f4830ac84237fe53fd58a90b52a029b467e069f25a6", func := "typedholes/typedholeslaw3.TypesReplaced", spec := "typesReplaced", unfollowed := true, recurses := true, plainKeys := false, apart := false }
def TypesReplacedSaid : Prop := typesReplacedRow.holds Try.pinned (OpenSpec.ofChange typesReplacedSpec)

/-- ITS FALSE NEIGHBOUR: 'it returns false'. Refute it at one input. -/
def typesReplacedWrong : ChangeSpec := { name := "typesReplaced", fn := fun _ => fun
  | [d1, d2, d3] => { results := [.lit (.bool false)], args := [d1, d2, d3] }
  | _ => none }
def TypesReplacedWrongFalsely : Prop := typesReplacedRow.holds Try.pinned (OpenSpec.ofChange typesReplacedWrong)

/-- 'typedholeslaw3.TypesOrdered': WHATEVER THE INPUT: true; the input reads as it did. -/
def typesOrderedSpec : ChangeSpec := { name := "typesOrdered", fn := fun _ => fun
  | [d1, d2, d3] => { results := [.lit (.bool true)], args := [d1, d2, d3] }
  | _ => none }
def typesOrderedRow : OpenClaim := { program := "ytodbmgmjnenlpaa", sum := "a666d6bf33b40e79d3954f4830ac84237fe53fd58a90b52a029b467e069f25a6", func := "typedholes/typedholeslaw3.TypesOrdered", spec := "typesOrdered", unfollowed := true, recurses := true, loops := true, plainKeys := false, apart := false }
def TypesOrderedSaid : Prop := typesOrderedRow.holds Try.pinned (OpenSpec.ofChange typesOrderedSpec)

/-- ITS FALSE NEIGHBOUR: 'it returns false'. Refute it at one input. -/
def typesOrderedWrong : ChangeSpec := { name := "typesOrdered", fn := fun _ => fun
  | [d1, d2, d3] => { results := [.lit (.bool false)], args := [d1, d2, d3] }
  | _ => none }
def TypesOrderedWrongFalsely : Prop := typesOrderedRow.holds Try.pinned (OpenSpec.ofChange typesOrderedWrong)

/- THE SECOND FORM. 'bulk': how many values and letters a reading holds, each counted each time it is reached (what is shared counts as often as it is met; a slice's spare places count too). A statement '..UptoSaid' is the law's where the arguments, and the package variables that the reading takes, are together of bulk at most 1048576: NARROWER than '..Said'. Prove '..Said' where nothing that the law and all that it calls make is longer than what came in: it says more and counts as full. Else prove '..UptoSaid'. A law counts once. -/
mutual
def uptoBulk {H : Type} : DataW H → Nat
  | .lit (.string bytes) => bytes.length + 1
  | .lit _ => 1
  | .nil => 1
  | .ptr d => uptoBulk d + 1
  | .slice elems spare => uptoBulkAll elems + uptoBulkAll spare + 1
  | .agg parts => uptoBulkAll parts + 1
  | .iface _ d => uptoBulk d + 1
  | .map entries => uptoBulkEntries entries + 1
  | .held _ => 1
def uptoBulkAll {H : Type} : List (DataW H) → Nat
  | [] => 0
  | d :: r => uptoBulk d + uptoBulkAll r
def uptoBulkEntries {H : Type} : List (Lit × DataW H) → Nat
  | [] => 0
  | x :: r => uptoBulkEntry x + uptoBulkEntries r
def uptoBulkEntry {H : Type} : Lit × DataW H → Nat
  | (.string bytes, d) => bytes.length + uptoBulk d + 1
  | (_, d) => uptoBulk d + 1
 end
def uptoSmall : (H : Type) → List (DataW H) → Bool := fun _ ds => decide (uptoBulkAll ds ≤ 1048576)
def OpenSpec.upto (s : _root_.Go.ChangeSpec) : _root_.Go.OpenSpec := { _root_.Go.OpenSpec.ofChange s with cond := some uptoSmall }

/-- 'typedholeslaw3.TypesValid', WHERE WHAT IT READS IS OF BULK AT MOST 1048576: true; the input reads as it did. -/
def typesValidUptoRow : OpenClaim := { program := "ytodbmgmjnenlpaa", sum := "a666d6bf33b40e79d3954f4830ac84237fe53fd58a90b52a029b467e069f25a6", func := "typedholes/typedholeslaw3.TypesValid", spec := "typesValid", unfollowed := true, recurses := true, loops := true, plainKeys := false, apart := false, narrowed := true }
def TypesValidUptoSaid : Prop := typesValidUptoRow.holds Try.pinned (OpenSpec.upto typesValidSpec)

/-- 'typedholeslaw3.TypesEqual', WHERE WHAT IT READS IS OF BULK AT MOST 1048576: true; the input reads as it did. -/
def typesEqualUptoRow : OpenClaim := { program := "ytodbmgmjnenlpaa", sum := "a666d6bf33b40e79d3954f4830ac84237fe53fd58a90b52a029b467e069f25a6", func := "typedholes/typedholeslaw3.TypesEqual", spec := "typesEqual", unfollowed := true, recurses := true, loops := true, plainKeys := false, apart := false, narrowed := true }
def TypesEqualUptoSaid : Prop := typesEqualUptoRow.holds Try.pinned (OpenSpec.upto typesEqualSpec)

/-- 'typedholeslaw3.TypesMeasured', WHERE WHAT IT READS IS OF BULK AT MOST 1048576: true; the input reads as it did. -/
def typesMeasuredUptoRow : OpenClaim := { program := "ytodbmgmjnenlpaa", sum := "a666d6bf33b40e79d3954f4830ac84237fe53fd58a90b52a029b467e069f25a6", func := "typedholes/typedholeslaw3.TypesMeasured", spec := "typesMeasured", unfollowed := true, recurses := true, loops := true, plainKeys := false, apart := false, narrowed := true }
def TypesMeasuredUptoSaid : Prop := typesMeasuredUptoRow.holds Try.pinned (OpenSpec.upto typesMeasuredSpec)

/-- 'typedholeslaw3.TypesReplaced', WHERE WHAT IT READS IS OF BULK AT MOST 1048576: true; the input reads as it did. -/
def typesReplacedUptoRow : OpenClaim := { program := "ytodbmgmjnenlpaa", sum := "a666d6bf33b40e79d3954f4830ac84237fe53fd58a90b52a029b467e069f25a6", func := "typedholes/typedholeslaw3.TypesReplaced", spec := "typesReplaced", unfollowed := true, recurses := true, plainKeys := false, apart := false, narrowed := true }
def TypesReplacedUptoSaid : Prop := typesReplacedUptoRow.holds Try.pinned (OpenSpec.upto typesReplacedSpec)

/-- 'typedholeslaw3.TypesOrdered', WHERE WHAT IT READS IS OF BULK AT MOST 1048576: true; the input reads as it did. -/
def typesOrderedUptoRow : OpenClaim := { program := "ytodbmgmjnenlpaa", sum := "a666d6bf33b40e79d3954f4830ac84237fe53fd58a90b52a029b467e069f25a6", func := "typedholes/typedholeslaw3.TypesOrdered", spec := "typesOrdered", unfollowed := true, recurses := true, loops := true, plainKeys := false, apart := false, narrowed := true }
def TypesOrderedUptoSaid : Prop := typesOrderedUptoRow.holds Try.pinned (OpenSpec.upto typesOrderedSpec)

end Rows
end Go.Proofs.Ytodbmgmjnenlpaa
