/- The contract of the reference's Depth. -/
import Derived.Test.YtejlhfjhpminjaaTyMake
import Derived.Test.YtejlhfjhpminjaaTyCon
namespace Go.Proofs.Ytejlhfjhpminjaa
open Go.RowKit Go.Sort Go.Shelf Go.Maps Mth

mutual
def dep : Ty → Nat
  | .mk _ _ _ _ ts => depL ts
def depL : List Ty → Nat
  | [] => 0
  | t :: ts => max (dep t + 1) (depL ts)
end
theorem depL_append (x y : List Ty) : depL (x ++ y) = max (depL x) (depL y) := by
  induction x with
  | nil => simp [depL]
  | cons t x ih => simp only [List.cons_append, depL, ih]; omega
theorem depL_take (l : List Ty) (j : Nat) : depL (l.take j) ≤ depL l := by
  have := depL_append (l.take j) (l.drop j)
  rw [List.take_append_drop] at this
  omega
def DepAt (P : Program) (f : Nat) (T : Ty) : Prop := dep T ≤ 1000000 → ∀ (v : Value) (S : Nat → Prop) (w : World), Rep w S T v →
  Calls P f #[v] w fun e w' => e = .returned (.int .i64 (dep T : Int)) ∧ Below w.heap.size w w'

end Go.Proofs.Ytejlhfjhpminjaa
