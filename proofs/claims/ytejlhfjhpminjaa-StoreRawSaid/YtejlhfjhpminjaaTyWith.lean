/- The contract of withArgs. -/
import Derived.Test.YtejlhfjhpminjaaTyFill
import Derived.Test.YtejlhfjhpminjaaTyVal2
namespace Go.Proofs.Ytejlhfjhpminjaa
open Go.RowKit Go.Sort Go.Shelf Mth

/-- What is asked of a change that is handed over; the blocks of S0 are those that it may put in. -/
def MapOf (P : Program) (g : Nat) (lb : Array Value) (f : Ty → Ty) (w : World) (S0 : Nat → Prop) (T : Ty) : Prop :=
  ∀ (v : Value) (S : Nat → Prop) (w' : World), (∀ b, S0 b → S b) → (∀ b, w'.heap.size ≤ b → S b) → Below w.heap.size w w' → Rep w' S T v →
    Calls P g (#[v] ++ lb) w' fun e w'' => ∃ u, e = .returned u ∧ Rep w'' S (f T) u ∧ Below w'.heap.size w' w''

theorem setCell_grown (w : World) (a : Addr) (v : Value) : w.grownBy (w.setCell a v) (some a.block) :=
  ⟨rfl, rfl, rfl, by simp [World.setCell], fun k _ hk => Below.heap_setCell _ _ _ _ (fun e => hk (by rw [e]))⟩
theorem with_start {w w1 : World} {c0 c1 c2 c3 c4 : Value} {m : Nat} {xs : List Value} (S : Nat → Prop)
    (hown : w1.ownsRow (w.heap.size + 1 + 1) 31 5 (.slice (some ⟨((w.alloc (.cells #[c0, c1, c2, c3, c4] 31)).alloc (.cells #[.int .i64 0, .string ⟨#[]⟩, .int .i64 0, .int .i64 0, .slice none 0 0] 31)).heap.size, 0, none⟩) m m) m xs)
    (hg : ((w.alloc (.cells #[c0, c1, c2, c3, c4] 31)).alloc (.cells #[.int .i64 0, .string ⟨#[]⟩, .int .i64 0, .int .i64 0, .slice none 0 0] 31)).grownBy w1 none) :
    Hid (RowT w1 (w.heap.size + 1 + 1) (fun b => S b ∧ b ≠ w.heap.size ∧ b ≠ w.heap.size + 1) (.slice (some ⟨w.heap.size + 1 + 1, 0, none⟩) 0 m) []) ∧ Below w.heap.size w w1 ∧ Hid (Box w1 w.heap.size c0 c1 c2 c3 c4) ∧ Hid (Zero w1 (w.heap.size + 1)) ∧ w.heap.size + 1 + 1 < w1.heap.size := by
  simp only [World.size_alloc] at hown
  have hrow : RowT w1 (w.heap.size + 1 + 1) (fun b => S b ∧ b ≠ w.heap.size ∧ b ≠ w.heap.size + 1) (.slice (some ⟨w.heap.size + 1 + 1, 0, none⟩) 0 m) [] := rowT_start hown
  refine ⟨hrow, Below.grown (((Below.refl _ w).alloc (Nat.le_refl _) _).alloc (by simp) _) hg (by simp; omega) (fun j hj => by cases hj), ?_, ?_, (hrow.lt (w.heap.size + 1 + 1) rfl).2⟩
  · exact Box.kept (by unfold Box; rw [heap_at, if_neg (by simp), heap_at, if_pos rfl]) (hg.block _ (by simp; omega) (by simp))
  · exact Box.kept (by unfold Box; rw [heap_at, if_pos (by simp)]) (hg.block _ (by simp) (by simp))
end Go.Proofs.Ytejlhfjhpminjaa
