/- The contracts of the reader's Atom and Type, by the fuel. -/
import Derived.Test.YtafpngmfhajedaaTyPType
namespace Go.Proofs.Ytafpngmfhajedaa
open Go.RowKit Go.Sort Go.Shelf Go.Maps Mth

theorem pAt_none (fid : Nat) (ts : List Tok) (i : Nat) : PAt fid ts i none := fun T j h => by cases h
theorem reader_all (ts : List Tok) (hok : TkOk ts) : ∀ f, f ≤ 1000 → Hid (∀ g, g ≤ f → ∀ i, PAt 112 ts i (pAtom g ts i)) ∧ Hid (∀ g, g ≤ f → ∀ i, PAt 114 ts i (pType g ts i)) := by
  intro f
  induction f with
  | zero =>
    intro _
    refine ⟨fun g hg i => ?_, fun g hg i => ?_⟩
    · obtain rfl : g = 0 := Nat.le_zero.1 hg
      unfold pAtom; exact pAt_none _ _ _
    · obtain rfl : g = 0 := Nat.le_zero.1 hg
      unfold pType; exact pAt_none _ _ _
  | succ f ih =>
    intro hf
    obtain ⟨hA, hT⟩ := ih (by omega)
    refine ⟨fun g hg i => ?_, fun g hg i => ?_⟩
    · by_cases h : g ≤ f
      · exact hA.out g h i
      · obtain rfl : g = f + 1 := by omega
        exact pAtom_of ts hok i f (hT.out f (Nat.le_refl _) (i + 1))
    · by_cases h : g ≤ f
      · exact hT.out g h i
      · obtain rfl : g = f + 1 := by omega
        exact pType_of ts hok f (by omega) hA hT i
theorem atom_any (ts : List Tok) (hok : TkOk ts) (f : Nat) (hf : f ≤ 1000) (i : Nat) : PAt 112 ts i (pAtom f ts i) := (reader_all ts hok f hf).1.out f (Nat.le_refl _) i
theorem type_any (ts : List Tok) (hok : TkOk ts) (f : Nat) (hf : f ≤ 1000) (i : Nat) : PAt 114 ts i (pType f ts i) := (reader_all ts hok f hf).2.out f (Nat.le_refl _) i
end Go.Proofs.Ytafpngmfhajedaa
