import Derived.Test.YtgfjcpeeoapjlaaQV15
import Derived.Test.YtgfjcpeeoapjlaaQV16
import Derived.Test.YtgfjcpeeoapjlaaQV10
import Derived.Test.YtgfjcpeeoapjlaaQV11
/- The reference's Expr and Atom return what the package's return. -/
namespace Go.Proofs.Ytgfjcpeeoapjlaa
open Go.RowKit Go.Maps Mth

theorem zAt_none (fid : FuncId) (more : Array Value) (ts : List Tok) (s : St) : ZAt fid more ts s none := fun T j h => by cases h
theorem zAll_any (ts : List Tok) (hok : TkOk ts) (hv : TkVal ts) : ∀ f, f ≤ 900000 → (∀ g, g ≤ f → ∀ s, ZAt 52 #[] ts s (zRead g ts s)) ∧ (∀ g, g ≤ f → ∀ s, ZAt 72 #[] ts s (zAtom g ts s)) ∧ (∀ g, g ≤ f → ∀ s p, ZAt 71 #[.int .i64 p] ts s (zCas g ts s p)) := by
  intro f
  induction f with
  | zero =>
    intro _
    refine ⟨fun g hg s => ?_, fun g hg s => ?_, fun g hg s p => ?_⟩
    all_goals
      obtain rfl : g = 0 := by omega
    · simp only [zRead]; exact zAt_none _ _ _ _
    · simp only [zAtom]; exact zAt_none _ _ _ _
    · simp only [zCas]; exact zAt_none _ _ _ _
  | succ f ih =>
    intro hf
    obtain ⟨i1, i2, i3⟩ := ih (by omega)
    have hl := hok.1
    refine ⟨fun g hg s => ?_, fun g hg s => ?_, fun g hg s p => ?_⟩
    · by_cases h : g ≤ f
      · exact i1 g h s
      · obtain rfl : g = f + 1 := by omega
        exact zRead_of ts hok hv s f (by omega) i1 i2 i3
    · by_cases h : g ≤ f
      · exact i2 g h s
      · obtain rfl : g = f + 1 := by omega
        exact zAtom_of ts hok hv s f (by omega) (by omega) i1
    · by_cases h : g ≤ f
      · exact i3 g h s p
      · obtain rfl : g = f + 1 := by omega
        exact zCas_of ts hok s p f (by omega) i1
theorem resY_same {T T' : Ex} {s s' : St} (h : EqS T s T' s') : resY T' s' = resY T s := by
  rcases h.cases with ⟨h1, h2, h3⟩ | ⟨h1, rfl, rfl, -⟩
  · unfold resY; rw [h1, h2, h3]; rfl
  · rfl
theorem resY_bnd {T : Ex} {s : St} (h : bndE T = true) : bndE (resY T s).T = true := by
  unfold resY
  split
  · rfl
  · exact h
theorem rdE_bnd (ts : List Tok) (hok : TkOk ts) (k : Int) : bndE (rdE ts k).T = true := by
  have hl := hok.1
  unfold rdE rdOfY
  split
  · rename_i T s h
    exact resY_bnd ((ybds ts _ (by omega)).expr _ _ _ h)
  · rfl
theorem rdEA_bnd (ts : List Tok) (hok : TkOk ts) (k : Int) : bndE (rdEA ts k).T = true := by
  have hl := hok.1
  unfold rdEA rdOfY
  split
  · rename_i T s h
    exact resY_bnd ((ybds ts _ (by omega)).atom _ _ _ h)
  · rfl
end Go.Proofs.Ytgfjcpeeoapjlaa
