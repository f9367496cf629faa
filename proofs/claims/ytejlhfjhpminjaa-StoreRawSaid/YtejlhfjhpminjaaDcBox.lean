/- A struct of any number of cells in a block of its own. -/
import Derived.Test.YtejlhfjhpminjaaTyEls
import Derived.Laws.Tables
namespace Go.Proofs.Ytejlhfjhpminjaa
open Go.RowKit Go.Maps Mth

def BoxC (t : TypeId) (w : World) (B : Nat) (c : List Value) : Prop := w.heap[B]? = some (.cells c.toArray t (0, 0))
theorem BoxC.kept {t : TypeId} {w w' : World} {B : Nat} {c : List Value} (h : BoxC t w B c) (hb : w'.heap[B]? = w.heap[B]?) : BoxC t w' B c := by unfold BoxC at *; rw [hb, h]
theorem BoxC.lt {t : TypeId} {w : World} {B : Nat} {c : List Value} (h : BoxC t w B c) : B < w.heap.size := (Array.getElem?_eq_some_iff.1 h).1
theorem BoxC.lift {t : TypeId} {w w' : World} {B : Nat} {c : List Value} (h : BoxC t w B c) (hb : Below w.heap.size w w') : BoxC t w' B c := h.kept (hb.block _ h.lt)
theorem BoxC.grown {t : TypeId} {w w' : World} {B : Nat} {c : List Value} {row : Option Nat} (h : BoxC t w B c) (hg : w.grownBy w' row) (hne : some B ≠ row) : BoxC t w' B c := h.kept (hg.block _ h.lt hne)
theorem BoxC.made (t : TypeId) (w : World) (c : List Value) : BoxC t (w.alloc (.cells c.toArray t)) w.heap.size c := heap_alloc_new w _
theorem BoxC.cell {t : TypeId} {w : World} {B : Nat} {c : List Value} (h : BoxC t w B c) (m : Nat) (u : Value) (hu : c[m]? = some u) : w.cell? ⟨B, m, none⟩ = some u := by
  unfold BoxC at h
  simp [World.cell?, h, hu]
theorem BoxC.free {t : TypeId} {w : World} {B : Nat} {c : List Value} (h : BoxC t w B c) (m : Nat) : w.frozen? ⟨B, m, none⟩ = false := by
  unfold BoxC at h
  simp [World.frozen?, h]
theorem BoxC.set {t : TypeId} {w : World} {B : Nat} {c : List Value} (h : BoxC t w B c) (m : Nat) (v : Value) :
    BoxC t (w.setCell ⟨B, m, none⟩ v) B (c.set m v) ∧ w.grownBy (w.setCell ⟨B, m, none⟩ v) (some B) ∧ (w.setCell ⟨B, m, none⟩ v).heap.size = w.heap.size := by
  obtain ⟨h1, h2⟩ := set1 h m v
  refine ⟨?_, h2⟩
  unfold BoxC
  rw [h1]
  simp
theorem BoxC.row {t : TypeId} {w : World} {B : Nat} {c : List Value} (h : BoxC t w B c) (c' : List Value) :
    BoxC t (w.setRow B c'.toArray) B c' ∧ w.grownBy (w.setRow B c'.toArray) (some B) ∧ (w.setRow B c'.toArray).heap.size = w.heap.size := by
  refine ⟨?_, ⟨rfl, rfl, rfl, by simp [World.setRow], fun k _ hk => ?_⟩, by simp [World.setRow]⟩
  · unfold BoxC at *
    simp [World.setRow, Array.getElem?_modify, h]
  · have hne : ¬ B = k := fun e => hk (by rw [e])
    simp [World.setRow, Array.getElem?_modify, hne]
/-- A whole struct is stored into its block. -/
theorem wpList_storeC {t : TypeId} {w : World} {ops : Array Oper} {rest : List Oper} {o : Oper} {a : Act} {Q : Exit → Act → World → Prop} (hgd : o.guard = none) (p x : Operand) (ho : o.op = Op.store t p x)
    (B : Nat) (c c' : List Value) (hB : BoxC t w B c) (hp : a.eval p = .pointer (some ⟨B, 0, none⟩)) (hx : a.eval x = .agg c'.toArray) (hi : (Try.prog.info? t).map (·.size) = some c'.length) (hl : c.length = c'.length) (h1 : ∀ u ∈ c', u.oneCell' = true)
    (hK : ∀ w', BoxC t w' B c' → w.grownBy w' (some B) → w'.heap.size = w.heap.size → wpList Try.prog ops Q rest (a.put o.dst undef) w') :
    wpList Try.prog ops Q (o :: rest) a w := by
  refine wpList_store_row hgd t p x ho B c'.toArray hp hx t c.toArray hB (by simpa using hi) (by simpa using hl) (Array.all_eq_true_iff_forall_mem.2 fun v hv => h1 v (by simpa using hv)) ?_
  obtain ⟨h1, h2, h3⟩ := hB.row c'
  exact hK _ h1 h2 h3
end Go.Proofs.Ytejlhfjhpminjaa
