/- The contracts of the counts of nodes and of the package's Depth. -/
import Derived.Test.YtejlhfjhpminjaaTyDepth
namespace Go.Proofs.Ytejlhfjhpminjaa
open Go.RowKit Go.Sort Go.Shelf Go.Maps Mth

theorem nodesL_append (x y : List Ty) : nodesL (x ++ y) = nodesL x + nodesL y := by
  induction x with
  | nil => simp [nodesL]
  | cons t x ih => simp only [List.cons_append, nodesL, ih]; omega
def CntAt (P : Program) (f : Nat) (g : Ty → Nat) (T : Ty) : Prop := g T ≤ 1000000 → ∀ (v : Value) (S : Nat → Prop) (w : World), Rep w S T v →
  Calls P f #[v] w fun e w' => e = .returned (.int .i64 (g T : Int)) ∧ Below w.heap.size w w'

end Go.Proofs.Ytejlhfjhpminjaa
