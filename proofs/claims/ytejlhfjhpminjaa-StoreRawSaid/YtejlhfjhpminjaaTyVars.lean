/- The contract of the package's Vars. -/
import Derived.Test.YtejlhfjhpminjaaTyNk
import Derived.Test.YtejlhfjhpminjaaTyInts
namespace Go.Proofs.Ytejlhfjhpminjaa
open Go.RowKit Go.Sort Go.Shelf Go.Maps Mth

/-- Each once, in the order in which they occur first. -/
def ded : List Int → List Int → List Int
  | acc, [] => acc
  | acc, x :: l => if acc.contains x then ded acc l else ded (acc ++ [x]) l
def varsOf (l : List Ty) : List Int := ded [] ((nkL 1 l).map Ty.i)
theorem ded_snoc (x : Int) : ∀ (l acc : List Int), ded acc (l ++ [x]) = if (ded acc l).contains x then ded acc l else ded acc l ++ [x] := by
  intro l
  induction l with
  | nil => intro acc; rfl
  | cons y l ih => intro acc; simp only [List.cons_append, ded]; split <;> exact ih _
theorem ded_len (l : List Int) : ∀ acc, (ded acc l).length ≤ acc.length + l.length := by
  induction l with
  | nil => intro acc; simp [ded]
  | cons x l ih =>
    intro acc
    simp only [ded]
    split
    · have := ih acc; simp; omega
    · have := ih (acc ++ [x]); simp at this ⊢; omega

theorem Try.intKey : Keyed Try.prog 3 := int_keyed Try.underlying3
theorem Try.zeroBool (w : World) : (zeroValue 4).run Try.prog w = .ok (.bool false) w := by kernel_rfl
theorem ids_snoc {l : List Ty} {j : Nat} {T : Ty} (h : l[j]? = some T) : ded [] ((l.take (j + 1)).map Ty.i) = if (ded [] ((l.take j).map Ty.i)).contains T.i then ded [] ((l.take j).map Ty.i) else ded [] ((l.take j).map Ty.i) ++ [T.i] := by
  rw [List.take_add_one, h, Option.toList, List.map_append, List.map_singleton, ded_snoc]

theorem grown_fresh {a b c : World} {r row : Option Nat} (h : a.grownBy b r) (k : b.grownBy c row) (hr : ∀ i, row = some i → a.heap.size ≤ i) : a.grownBy c r :=
  ⟨k.os.trans h.os, k.tape.trans h.tape, k.output.trans h.output, Nat.le_trans h.size k.size, fun i hi hne => (k.block i (Nat.lt_of_lt_of_le hi h.size) (fun e => by have := hr i e.symm; omega)).trans (h.block i hi hne)⟩
theorem RepL.bound {w : World} {S : Nat → Prop} {l : List Ty} {v : Value} (h : RepL w S l v) : RepL w (fun b => S b ∧ b < w.heap.size) l v := by
  obtain ⟨a, cap, hv, hc, hj⟩ := h
  refine ⟨a, cap, hv, hc, fun j T hT => ?_⟩
  obtain ⟨ad, x, h1, h2, h3, h4⟩ := hj j T hT
  exact ⟨ad, x, h1, ⟨h2, h3.lt⟩, h3, h4.bound⟩
end Go.Proofs.Ytejlhfjhpminjaa
