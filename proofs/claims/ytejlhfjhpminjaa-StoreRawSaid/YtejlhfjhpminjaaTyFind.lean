/- The contracts of IndexFunc and ContainsFunc at types. -/
import Derived.Test.YtejlhfjhpminjaaTyEq3
namespace Go.Proofs.Ytejlhfjhpminjaa
open Go.RowKit Go.Sort Go.Shelf Mth

/-- What is asked of a predicate that is handed over. -/
def PredOf (P : Program) (g : Nat) (lb : Array Value) (p : Ty → Bool) (w : World) (T : Ty) : Prop :=
  ∀ (v : Value) (S : Nat → Prop) (w' : World), Below w.heap.size w w' → Rep w' S T v → Calls P g (#[v] ++ lb) w' fun e w'' => e = .returned (.bool (p T)) ∧ Below w'.heap.size w' w''
theorem any_step {p : Ty → Bool} {l : List Ty} {j : Nat} {t : Ty} (h : l[j]? = some t) : (l.drop j).any p = (p t || (l.drop (j + 1)).any p) := by
  obtain ⟨hl, e⟩ := List.getElem?_eq_some_iff.1 h
  rw [List.drop_eq_getElem_cons hl, e]
  rfl

end Go.Proofs.Ytejlhfjhpminjaa
