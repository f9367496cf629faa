import Derived.Test.YtljgpgmaceackaaQX38
import Derived.Test.YtljgpgmaceackaaQX39
import Derived.Test.YtljgpgmaceackaaQX34
import Derived.Test.YtljgpgmaceackaaQX33
import Derived.Test.YtljgpgmaceackaaQX30
/- The reference's Expr and Atom return what the package's return. -/
namespace Go.Proofs.Ytljgpgmaceackaa
open Go.RowKit Go.Maps Mth

theorem zAt_none (fid : FuncId) (more : Array Value) (ts : List Tok) (s : St) : ZAt fid more ts s none := fun T j h => by cases h
theorem zAll_any (ts : List Tok) (hok : TkOk ts) (hv : TkVal ts) : ∀ f, f ≤ 900000 → (∀ g, g ≤ f → ∀ s, ZAt 46 #[] ts s (zRead g ts s)) ∧ (∀ g, g ≤ f → ∀ s, ZAt 67 #[] ts s (zAtom g ts s)) ∧ (∀ g, g ≤ f → ∀ s p, ZAt 66 #[.int .i64 p] ts s (zCas g ts s p)) := by
  intro f
  induction f with
  | zero =>
    intro _
    refine ⟨fun g hg s => ?_, fun g hg s => ?_, fun g hg s p => ?_⟩
    all_goals
      obtain rfl : g = 0 := by omega
    · simp only [zRead]; exact zAt_none _ _ _ _
    · simp only [zAtom]; exact zAt_none _ _ _ _
    · simp only [zCas]; exact zAt_none _ _ _ _
  | succ f ih =>
    intro hf
    obtain ⟨i1, i2, i3⟩ := ih (by omega)
    have hl := hok.1
    refine ⟨fun g hg s => ?_, fun g hg s => ?_, fun g hg s p => ?_⟩
    · by_cases h : g ≤ f
      · exact i1 g h s
      · obtain rfl : g = f + 1 := by omega
        exact zRead_of ts hok hv s f (by omega) i1 i2 i3
    · by_cases h : g ≤ f
      · exact i2 g h s
      · obtain rfl : g = f + 1 := by omega
        exact zAtom_of ts hok hv s f (by omega) (by omega) i1
    · by_cases h : g ≤ f
      · exact i3 g h s p
      · obtain rfl : g = f + 1 := by omega
        exact zCas_of ts hok s p f (by omega) i1
end Go.Proofs.Ytljgpgmaceackaa
