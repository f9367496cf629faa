/- The reference's Type and Atom: what they return. -/
import Derived.Test.YtbbplpmjpadgiaaGreatDoorTyXAll
namespace Go.Proofs.YtbbplpmjpadgiaaGreatDoor
open Go.RowKit Go.Maps Mth

/-- The two variables of the results: a type, an error. -/
structure Outs (w : World) (V : World) : Prop where
  typ : Zero V w.heap.size
  flt : V.heap[w.heap.size + 1]? = some (.cells #[.int .i64 0, .int .i64 0] 40 (0, 0))
  low : Below w.heap.size w V
  size : w.heap.size + 2 ≤ V.heap.size
theorem outs_new (w : World) : Outs w ((w.alloc (.cells #[.int .i64 0, .string ⟨#[]⟩, .int .i64 0, .int .i64 0, .slice none 0 0] 30)).alloc (.cells #[.int .i64 0, .int .i64 0] 40)) := by
  refine ⟨?_, ?_, ((Below.refl _ w).alloc (Nat.le_refl _) _).alloc (by simp) _, by simp⟩
  · show Box _ _ _ _ _ _ _
    unfold Box; rw [heap_at, if_neg (by simp), heap_at, if_pos rfl]
  · rw [heap_at, if_pos (by simp)]
theorem Outs.lift {w V V' : World} (h : Outs w V) (hb : Below V.heap.size V V') : Outs w V' :=
  ⟨Box.lift h.typ hb, by rw [hb.block _ (Array.getElem?_eq_some_iff.1 h.flt).1]; exact h.flt, h.low.trans (hb.mono h.low.size), Nat.le_trans h.size hb.size⟩
theorem Outs.grown {w V V' : World} {b : Nat} (h : Outs w V) (hb : w.heap.size + 2 ≤ b) (hg : V.grownBy V' (some b)) : Outs w V' :=
  ⟨Box.grown h.typ hg (by intro e; have := Option.some.inj e; omega), by rw [hg.block _ (Array.getElem?_eq_some_iff.1 h.flt).1 (by intro e; have := Option.some.inj e; omega)]; exact h.flt, Below.grown h.low hg h.low.size (fun k hk => by have := Option.some.inj hk; omega), Nat.le_trans h.size hg.size⟩
theorem Outs.fcells {w V : World} (h : Outs w V) : V.cell? ⟨w.heap.size + 1, 0, none⟩ = some (.int .i64 0) ∧ V.cell? ⟨w.heap.size + 1, 1, none⟩ = some (.int .i64 0) ∧ V.frozen? ⟨w.heap.size + 1, 0, none⟩ = false ∧ V.frozen? ⟨w.heap.size + 1, 1, none⟩ = false := by
  have hF := h.flt
  refine ⟨by simp [World.cell?, hF], by simp [World.cell?, hF], by simp [World.frozen?, hF], by simp [World.frozen?, hF]⟩
/-- The results, stored. -/
theorem Outs.fin {w V : World} (h : Outs w V) (v0 v1 v2 v3 v4 e0 e1 : Value) :
    Box (((((((V.setCell ⟨w.heap.size, 0, none⟩ v0).setCell ⟨w.heap.size, 1, none⟩ v1).setCell ⟨w.heap.size, 2, none⟩ v2).setCell ⟨w.heap.size, 3, none⟩ v3).setCell ⟨w.heap.size, 4, none⟩ v4).setCell ⟨w.heap.size + 1, 0, none⟩ e0).setCell ⟨w.heap.size + 1, 1, none⟩ e1) w.heap.size v0 v1 v2 v3 v4 ∧
    (((((((V.setCell ⟨w.heap.size, 0, none⟩ v0).setCell ⟨w.heap.size, 1, none⟩ v1).setCell ⟨w.heap.size, 2, none⟩ v2).setCell ⟨w.heap.size, 3, none⟩ v3).setCell ⟨w.heap.size, 4, none⟩ v4).setCell ⟨w.heap.size + 1, 0, none⟩ e0).setCell ⟨w.heap.size + 1, 1, none⟩ e1).cell? ⟨w.heap.size + 1, 0, none⟩ = some e0 ∧
    (((((((V.setCell ⟨w.heap.size, 0, none⟩ v0).setCell ⟨w.heap.size, 1, none⟩ v1).setCell ⟨w.heap.size, 2, none⟩ v2).setCell ⟨w.heap.size, 3, none⟩ v3).setCell ⟨w.heap.size, 4, none⟩ v4).setCell ⟨w.heap.size + 1, 0, none⟩ e0).setCell ⟨w.heap.size + 1, 1, none⟩ e1).cell? ⟨w.heap.size + 1, 1, none⟩ = some e1 ∧
    Below w.heap.size w (((((((V.setCell ⟨w.heap.size, 0, none⟩ v0).setCell ⟨w.heap.size, 1, none⟩ v1).setCell ⟨w.heap.size, 2, none⟩ v2).setCell ⟨w.heap.size, 3, none⟩ v3).setCell ⟨w.heap.size, 4, none⟩ v4).setCell ⟨w.heap.size + 1, 0, none⟩ e0).setCell ⟨w.heap.size + 1, 1, none⟩ e1) ∧
    ∀ c, w.heap.size + 2 ≤ c → c < V.heap.size → (((((((V.setCell ⟨w.heap.size, 0, none⟩ v0).setCell ⟨w.heap.size, 1, none⟩ v1).setCell ⟨w.heap.size, 2, none⟩ v2).setCell ⟨w.heap.size, 3, none⟩ v3).setCell ⟨w.heap.size, 4, none⟩ v4).setCell ⟨w.heap.size + 1, 0, none⟩ e0).setCell ⟨w.heap.size + 1, 1, none⟩ e1).heap[c]? = V.heap[c]? := by
  obtain ⟨hB, hG, hS⟩ := set5 h.typ v0 v1 v2 v3 v4
  have hn2 : w.heap.size + 1 < V.heap.size := (Array.getElem?_eq_some_iff.1 h.flt).1
  have hF := (hG.block (w.heap.size + 1) hn2 (by intro e; have := Option.some.inj e; omega)).trans h.flt
  have hL := Below.grown h.low hG h.low.size (fun k hk => by have := Option.some.inj hk; omega)
  generalize (((((V.setCell ⟨w.heap.size, 0, none⟩ v0).setCell ⟨w.heap.size, 1, none⟩ v1).setCell ⟨w.heap.size, 2, none⟩ v2).setCell ⟨w.heap.size, 3, none⟩ v3).setCell ⟨w.heap.size, 4, none⟩ v4) = V1 at *
  obtain ⟨a0, g0, -⟩ := set1 hF 0 e0
  obtain ⟨a1, g1, -⟩ := set1 a0 1 e1
  have g01 := grown_trans g0 g1
  have hB' : Box ((V1.setCell ⟨w.heap.size + 1, 0, none⟩ e0).setCell ⟨w.heap.size + 1, 1, none⟩ e1) w.heap.size v0 v1 v2 v3 v4 := hB.kept (g01.block _ hB.lt (by intro e; have := Option.some.inj e; omega))
  have hL' := Below.grown hL g01 hL.size (fun k hk => by have := Option.some.inj hk; omega)
  generalize (V1.setCell ⟨w.heap.size + 1, 0, none⟩ e0).setCell ⟨w.heap.size + 1, 1, none⟩ e1 = V2 at *
  refine ⟨hB', ?_, ?_, hL', fun c hc hlt => ?_⟩
  · simp [World.cell?, a1]
  · simp [World.cell?, a1]
  · rw [g01.block c (Nat.lt_of_lt_of_le hlt hG.size) (by intro e; have := Option.some.inj e; omega), hG.block c hlt (by intro e; have := Option.some.inj e; omega)]
end Go.Proofs.YtbbplpmjpadgiaaGreatDoor
