/- The reference's Expr and Atom return what the package's return. -/
import Derived.Test.YthphnacfidofbaaGreatDoorExX4
import Derived.Test.YthphnacfidofbaaGreatDoorExX5
import Derived.Test.YthphnacfidofbaaGreatDoorExX6
import Derived.Test.YthphnacfidofbaaGreatDoorExMg
namespace Go.Proofs.YthphnacfidofbaaGreatDoor
open Go.RowKit Go.Maps Mth

theorem zAt_none (fid : FuncId) (more : Array Value) (ts : List Tok) (s : St) : ZAt fid more ts s none := fun T j h => by cases h
theorem zAll_any (ts : List Tok) (hok : TkOk ts) (hv : TkVal ts) : ∀ f, f ≤ 900000 → (∀ g, g ≤ f → ∀ s, ZAt 52 #[] ts s (zRead g ts s)) ∧ (∀ g, g ≤ f → ∀ s, ZAt 54 #[] ts s (zAtom g ts s)) ∧ (∀ g, g ≤ f → ∀ s p, ZAt 86 #[.int .i64 p] ts s (zCas g ts s p)) := by
  intro f
  induction f with
  | zero =>
    intro _
    refine ⟨fun g hg s => ?_, fun g hg s => ?_, fun g hg s p => ?_⟩
    all_goals
      obtain rfl : g = 0 := by omega
    · simp only [zRead]; exact zAt_none _ _ _ _
    · simp only [zAtom]; exact zAt_none _ _ _ _
    · simp only [zCas]; exact zAt_none _ _ _ _
  | succ f ih =>
    intro hf
    obtain ⟨i1, i2, i3⟩ := ih (by omega)
    have hl := hok.1
    refine ⟨fun g hg s => ?_, fun g hg s => ?_, fun g hg s p => ?_⟩
    · by_cases h : g ≤ f
      · exact i1 g h s
      · obtain rfl : g = f + 1 := by omega
        exact zRead_of ts hok hv s f (by omega) i1 i2 i3
    · by_cases h : g ≤ f
      · exact i2 g h s
      · obtain rfl : g = f + 1 := by omega
        exact zAtom_of ts hok hv s f (by omega) (by omega) i1
    · by_cases h : g ≤ f
      · exact i3 g h s p
      · obtain rfl : g = f + 1 := by omega
        exact zCas_of ts hok s p f (by omega) i1
theorem resY_same {T T' : Ex} {s s' : St} (h : EqS T s T' s') : resY T' s' = resY T s := by
  rcases h.cases with ⟨h1, h2, h3⟩ | ⟨h1, rfl, rfl, -⟩
  · unfold resY; rw [h1, h2, h3]; rfl
  · rfl
theorem rfExpr_any (ts : List Tok) (hok : TkOk ts) (hv : TkVal ts) (S : Nat → Prop) (lv : Value) (k : Int) (w : World) (h : TokAt w S lv ts) :
    Calls Tryz.prog 24 #[lv, .int .i64 k] w fun e w' => ∃ v, e = .returned v ∧ ResEAt w' (fun c => w.heap.size ≤ c) (rdE ts k) v ∧ Below w.heap.size w w' := by
  have hl := hok.1
  have hm := mu_le ts ⟨startAt ts k, false, 0⟩
  obtain ⟨T, s', hr, -⟩ := (yends ts (6 * ts.length + 6)).expr ⟨startAt ts k, false, 0⟩ (by omega)
  obtain ⟨T', s1', hz, hE⟩ := (same_ex ts hv (6 * ts.length + 6)).expr ⟨startAt ts k, false, 0⟩ T s' (fun _ => rfl) hr
  have e : rdE ts k = resY T' s1' := by unfold rdE; rw [hr, resY_same hE]; rfl
  rw [e]
  exact zExprCall ts hok S lv k T' s1' _ hz ((zAll_any ts hok hv (6 * ts.length + 6) (by omega)).1 _ (Nat.le_refl _) _) w h
theorem rfExprAtom_any (ts : List Tok) (hok : TkOk ts) (hv : TkVal ts) (S : Nat → Prop) (lv : Value) (k : Int) (w : World) (h : TokAt w S lv ts) :
    Calls Tryz.prog 26 #[lv, .int .i64 k] w fun e w' => ∃ v, e = .returned v ∧ ResEAt w' (fun c => w.heap.size ≤ c) (rdEA ts k) v ∧ Below w.heap.size w w' := by
  have hl := hok.1
  have hm := mu_le ts ⟨startAt ts k, false, 0⟩
  obtain ⟨T, s', hr, -, -⟩ := (yends ts (6 * ts.length + 6)).atom ⟨startAt ts k, false, 0⟩ (by omega)
  obtain ⟨T', s1', hz, hE⟩ := (same_ex ts hv (6 * ts.length + 6)).atom ⟨startAt ts k, false, 0⟩ T s' (fun _ => rfl) hr
  have e : rdEA ts k = resY T' s1' := by unfold rdEA; rw [hr, resY_same hE]; rfl
  rw [e]
  exact zAtomCall ts hok S lv k T' s1' _ hz ((zAll_any ts hok hv (6 * ts.length + 6) (by omega)).2.1 _ (Nat.le_refl _) _) w h
theorem resY_bnd {T : Ex} {s : St} (h : bndE T = true) : bndE (resY T s).T = true := by
  unfold resY
  split
  · rfl
  · exact h
theorem rdE_bnd (ts : List Tok) (hok : TkOk ts) (k : Int) : bndE (rdE ts k).T = true := by
  have hl := hok.1
  unfold rdE rdOfY
  split
  · rename_i T s h
    exact resY_bnd ((ybds ts _ (by omega)).expr _ _ _ h)
  · rfl
theorem rdEA_bnd (ts : List Tok) (hok : TkOk ts) (k : Int) : bndE (rdEA ts k).T = true := by
  have hl := hok.1
  unfold rdEA rdOfY
  split
  · rename_i T s h
    exact resY_bnd ((ybds ts _ (by omega)).atom _ _ _ h)
  · rfl
end Go.Proofs.YthphnacfidofbaaGreatDoor
