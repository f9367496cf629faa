/- Rows of tokens. -/
import Derived.Test.YtahiefgfhpkoeaaRfKind
import Derived.OwnWalk
import Derived.Laws.AppendOwn
import Derived.Deep.RegionHeld3
import Derived.Deep.QuietTactic
import Derived.BigQuiet
namespace Go.Proofs.Ytahiefgfhpkoeaa
open Go.RowKit Mth

/-- A token's cells. -/
def cells3 (t : Tok) : List Value := [.int .i64 t.kind, .string ⟨t.text.toArray⟩, .int .i64 t.pos]
def row3 (l : List Tok) : List Value := l.flatMap cells3
theorem row3_snoc (l : List Tok) (t : Tok) : row3 (l ++ [t]) = row3 l ++ cells3 t := by simp [row3]
theorem Try.info126 : (Try.prog.info? 126).map (fun i => (i.zero, i.size, i.bytes)) = some (some (.agg #[.int .i64 0, .string ByteArray.empty, .int .i64 0]), 3, 32) := by kernel_rfl
/-- What Scan hands back. -/
def ScanOut (l : List UInt8) (w : World) (e : Ending) (w' : World) : Prop :=
  ∃ v, e = .returned (.tuple #[v, .agg #[.int .i64 (ferr l), .int .i64 (fpos l)]]) ∧ w'.ownsRow (w.heap.size + 1) 126 3 v (ftoks l).length (row3 (ftoks l)) ∧ Below w.heap.size w w'
/-- The cells of the result's fault, while the loop runs. -/
theorem fault_cells {w wr : World} (h : Below (w.heap.size + 1) (w.alloc (.cells #[.int .i64 0, .int .i64 0] 91)) wr) :
    wr.cell? ⟨w.heap.size, 0, none⟩ = some (.int .i64 0) ∧ wr.cell? ⟨w.heap.size, 1, none⟩ = some (.int .i64 0) ∧
      wr.frozen? ⟨w.heap.size, 0, none⟩ = false ∧ wr.frozen? ⟨w.heap.size, 1, none⟩ = false := by
  refine ⟨?_, ?_, ?_, ?_⟩
  · rw [h.cell (p := ⟨w.heap.size, 0, none⟩) (by simp)]; simp
  · rw [h.cell (p := ⟨w.heap.size, 1, none⟩) (by simp)]; simp
  · rw [h.frozen (p := ⟨w.heap.size, 0, none⟩) (by simp)]; simp
  · rw [h.frozen (p := ⟨w.heap.size, 1, none⟩) (by simp)]; simp
theorem fault_read0 {b : Nat} {w : World} {x : Value} (h : w.cell? ⟨b, 0, none⟩ = some x) (u : Value) : (w.setCell ⟨b, 0, none⟩ u).cell? ⟨b, 0, none⟩ = some u := World.cell?_setCell_same _ _ _ h
theorem fault_read1 {b : Nat} {w : World} {x : Value} (h : w.cell? ⟨b, 1, none⟩ = some x) (u v : Value) : ((w.setCell ⟨b, 0, none⟩ u).setCell ⟨b, 1, none⟩ v).cell? ⟨b, 1, none⟩ = some v :=
  World.cell?_setCell_same _ _ _ (u := x) ((World.cell?_setCell_other _ _ _ _ (by simp)).trans h)
theorem fault_below {w wr : World} (h : Below (w.heap.size + 1) (w.alloc (.cells #[.int .i64 0, .int .i64 0] 91)) wr) : Below w.heap.size w wr :=
  ((Below.refl _ _).alloc (Nat.le_refl _) _).trans (h.mono (by omega))
theorem three_new {w : World} {a b c : Value} {t : TypeId} : ∀ (j : Nat) (u : Value), [a, b, c][j]? = some u → (w.alloc (.cells #[a, b, c] t)).cell? ((⟨w.heap.size, 0, none⟩ : Addr).add j) = some u := by
  intro j u hj
  rcases j with _ | _ | _ | j
  · simp at hj; subst hj; simp [Addr.add]
  · simp at hj; subst hj; simp [Addr.add]
  · simp at hj; subst hj; simp [Addr.add]
  · simp at hj
theorem three_one {k p : Int} {t : ByteArray} : ∀ u ∈ [Value.int .i64 k, .string t, .int .i64 p], u.oneCell' = true := by
  intro u hu
  simp at hu
  rcases hu with h | h | h <;> subst h <;> rfl
/-- A token's cells, as the walk makes them. -/
theorem cells3_ext (s : ByteArray) (k n : Nat) (K : Int) : cells3 ⟨K, ((bl s).drop k).take n, k⟩ = [.int .i64 K, .string (s.extract k (k + n)), .int .i64 k] := by
  have h : s.extract k (k + n) = ⟨(((bl s).drop k).take n).toArray⟩ := bl_eq.2 ((bl_extract _ _ _).trans ((congrArg (fun m => ((bl s).drop k).take m) (Nat.add_sub_cancel_left k n)).trans (bl_mk _).symm))
  unfold cells3
  rw [h]
end Go.Proofs.Ytahiefgfhpkoeaa
