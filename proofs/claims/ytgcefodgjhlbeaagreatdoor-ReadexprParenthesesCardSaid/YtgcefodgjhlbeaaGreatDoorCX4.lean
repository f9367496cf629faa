import Derived.Test.YtgcefodgjhlbeaaGreatDoorCX3
import Derived.Test.YtgcefodgjhlbeaaGreatDoorCX4a
import Derived.Test.YtgcefodgjhlbeaaGreatDoorCE2
import Derived.Deep.LoopGhost
/- The reference's reader of expressions: Read. -/
namespace Go.Proofs.YtgcefodgjhlbeaaGreatDoor
open Go.RowKit Go.Maps Mth

theorem EX.zall {w v : World} {b R0 R1 : Nat} {ts : List Tok} {s : St} {c : List Value} (h : EX w v b R0 R1 ts s c) : v.cell? ⟨R0, 0, none⟩ = some (.int .i64 0) ∧ v.cell? ⟨R0, 1, none⟩ = some (.int .i64 0) ∧ v.cell? ⟨R0, 2, none⟩ = some (.string ⟨#[]⟩) ∧ v.cell? ⟨R0, 3, none⟩ = some (.int .i64 0) ∧ v.cell? ⟨R0, 4, none⟩ = some (.slice none 0 0) ∧ v.cell? ⟨R0, 5, none⟩ = some (.slice none 0 0) ∧ v.cell? ⟨R0, 6, none⟩ = some (.int .i64 0) ∧ v.cell? ⟨R0, 7, none⟩ = some (.string ⟨#[]⟩) ∧ v.cell? ⟨R0, 8, none⟩ = some (.int .i64 0) ∧ v.cell? ⟨R0, 9, none⟩ = some (.int .i64 0) ∧ v.cell? ⟨R0, 10, none⟩ = some (.slice none 0 0) :=
  ⟨h.res.cell 0 _ rfl, h.res.cell 1 _ rfl, h.res.cell 2 _ rfl, h.res.cell 3 _ rfl, h.res.cell 4 _ rfl, h.res.cell 5 _ rfl, h.res.cell 6 _ rfl, h.res.cell 7 _ rfl, h.res.cell 8 _ rfl, h.res.cell 9 _ rfl, h.res.cell 10 _ rfl⟩
/-- The result of a let is stored. -/
theorem AX.loc {w v : World} {b R0 R1 base : Nat} {ts : List Tok} {s : St} {c : List Value} {a : Ex} (h : AX w v b R0 R1 ts s c a) {u : Ex} {k : List Value} (hu : RepE v (fun g => R0 < g ∧ g ≠ R1) u k) (kk p : Int) (nm : ByteArray) (hn : nm.size ≤ maxLen) (hbase : base ≤ w.heap.size) (V : World)
    (hV : V = (((((((((((v.setCell ⟨R0, 0, none⟩ (.int .i64 kk)).setCell ⟨R0, 1, none⟩ (.int .i64 p)).setCell ⟨R0, 2, none⟩ (.string nm)).setCell ⟨R0, 3, none⟩ (.int .i64 0)).setCell ⟨R0, 4, none⟩ (.slice (some ⟨v.heap.size, 0, none⟩) 2 2)).setCell ⟨R0, 5, none⟩ (.slice none 0 0)).setCell ⟨R0, 6, none⟩ (.int .i64 0)).setCell ⟨R0, 7, none⟩ (.string ⟨#[]⟩)).setCell ⟨R0, 8, none⟩ (.int .i64 0)).setCell ⟨R0, 9, none⟩ (.int .i64 0)).setCell ⟨R0, 10, none⟩ (.slice none 0 0)).alloc (.cells (c ++ k).toArray 34)) :
    BoxC 34 V R0 [.int .i64 kk, .int .i64 p, .string nm, .int .i64 0, .slice (some ⟨v.heap.size, 0, none⟩) 2 2, .slice none 0 0, .int .i64 0, .string ⟨#[]⟩, .int .i64 0, .int .i64 0, .slice none 0 0] ∧ RepE V (fun g => base ≤ g) (.mk kk p nm 0 zTy [a, u] []) [.int .i64 kk, .int .i64 p, .string nm, .int .i64 0, .slice (some ⟨v.heap.size, 0, none⟩) 2 2, .slice none 0 0, .int .i64 0, .string ⟨#[]⟩, .int .i64 0, .int .i64 0, .slice none 0 0] ∧ RdX V b ts s ∧ w.grownBy V (some b) := by
  have h0 := h.eb.h0
  have hlt := h.eb.lt
  have h01 := h.eb.h1
  obtain ⟨h1, h2, h3⟩ := BoxC.set11s (show BoxC 34 v R0 [.int .i64 0, .int .i64 0, .string ⟨#[]⟩, .int .i64 0, .slice none 0 0, .slice none 0 0, .int .i64 0, .string ⟨#[]⟩, .int .i64 0, .int .i64 0, .slice none 0 0] from h.eb.res) (.int .i64 kk) (.int .i64 p) (.string nm) (.int .i64 0) (.slice (some ⟨v.heap.size, 0, none⟩) 2 2) (.slice none 0 0) (.int .i64 0) (.string ⟨#[]⟩) (.int .i64 0) (.int .i64 0) (.slice none 0 0)
  have hrep := h.rep.kept (S' := fun g => R0 < g ∧ g ≠ R1) (fun _ h => h) (fun g hg hl => h2.block g hl (by intro e; have := Option.some.inj e; omega))
  have hu' := hu.kept (S' := fun g => R0 < g ∧ g ≠ R1) (fun _ h => h) (fun g hg hl => h2.block g hl (by intro e; have := Option.some.inj e; omega))
  obtain ⟨hr1, hr2⟩ := h.eb.pb.fin h2
  generalize (((((((((((v.setCell ⟨R0, 0, none⟩ (.int .i64 kk)).setCell ⟨R0, 1, none⟩ (.int .i64 p)).setCell ⟨R0, 2, none⟩ (.string nm)).setCell ⟨R0, 3, none⟩ (.int .i64 0)).setCell ⟨R0, 4, none⟩ (.slice (some ⟨v.heap.size, 0, none⟩) 2 2)).setCell ⟨R0, 5, none⟩ (.slice none 0 0)).setCell ⟨R0, 6, none⟩ (.int .i64 0)).setCell ⟨R0, 7, none⟩ (.string ⟨#[]⟩)).setCell ⟨R0, 8, none⟩ (.int .i64 0)).setCell ⟨R0, 9, none⟩ (.int .i64 0)).setCell ⟨R0, 10, none⟩ (.slice none 0 0)) = W at *
  subst hV
  have hb : Below W.heap.size W (W.alloc (.cells (c ++ k).toArray 34)) := (Below.refl _ W).alloc (Nat.le_refl _) _
  exact ⟨h1.lift hb, repE_kids kk p nm 0 hn (two_newE hrep hu' 34 v.heap.size h3.symm (fun g hg => by omega) (by omega)), hr1.lift hb, grown_trans hr2 (below_grown_some hb b)⟩
end Go.Proofs.YtgcefodgjhlbeaaGreatDoor
