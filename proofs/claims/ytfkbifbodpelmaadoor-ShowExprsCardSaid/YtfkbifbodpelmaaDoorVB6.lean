import Derived.Test.YtfkbifbodpelmaaDoorVB3
import Derived.Test.YtfkbifbodpelmaaDoorVB1
import Derived.Test.YtfkbifbodpelmaaDoorVA2
import Derived.Deep.LoopGhost
import Derived.LoopTactic
import Derived.Lib.QuietBelow
import Derived.Deep.RegionHeld3
/- The contracts of chapter 4's reference: Children. -/
namespace Go.Proofs.YtfkbifbodpelmaaDoor
open Go.RowKit Go.Maps Mth

theorem slG_lift {α : Type} {E : El α} {w w' : World} {S : Nat → Prop} {xs : List α} {v : Value} (h : SlG E w S xs v) (hb : Below w.heap.size w w') : SlG E w' S xs v := SlG.kept (fun _ h => h) (fun g _ hl => hb.block g hl) h
/-- The cells of an arm's body, as a walk meets them. -/
theorem body11 {w : World} {ad : Addr} {j : Nat} {v0 v1 v2 c0 c1 c2 c3 c4 c5 c6 c7 c8 c9 c10 : Value} (h : ∀ (m : Nat) (u : Value), [v0, v1, v2, c0, c1, c2, c3, c4, c5, c6, c7, c8, c9, c10][m]? = some u → w.cell? (ad.add (j * 14 + m)) = some u) :
    w.cell? ⟨(ad.add (j * 14)).block, (ad.add (j * 14)).off + 3, none⟩ = some c0 ∧ w.cell? ⟨(ad.add (j * 14)).block, (ad.add (j * 14)).off + 3 + 1, none⟩ = some c1 ∧ w.cell? ⟨(ad.add (j * 14)).block, (ad.add (j * 14)).off + 3 + 2, none⟩ = some c2 ∧ w.cell? ⟨(ad.add (j * 14)).block, (ad.add (j * 14)).off + 3 + 3, none⟩ = some c3 ∧ w.cell? ⟨(ad.add (j * 14)).block, (ad.add (j * 14)).off + 3 + 4, none⟩ = some c4 ∧ w.cell? ⟨(ad.add (j * 14)).block, (ad.add (j * 14)).off + 3 + 5, none⟩ = some c5 ∧ w.cell? ⟨(ad.add (j * 14)).block, (ad.add (j * 14)).off + 3 + 6, none⟩ = some c6 ∧ w.cell? ⟨(ad.add (j * 14)).block, (ad.add (j * 14)).off + 3 + 7, none⟩ = some c7 ∧ w.cell? ⟨(ad.add (j * 14)).block, (ad.add (j * 14)).off + 3 + 8, none⟩ = some c8 ∧ w.cell? ⟨(ad.add (j * 14)).block, (ad.add (j * 14)).off + 3 + 9, none⟩ = some c9 ∧ w.cell? ⟨(ad.add (j * 14)).block, (ad.add (j * 14)).off + 3 + 10, none⟩ = some c10 := by
  refine ⟨?_, ?_, ?_, ?_, ?_, ?_, ?_, ?_, ?_, ?_, ?_⟩
  all_goals (try rw [Nat.add_assoc _ 3]); rw [add_add' _ _ _ (by omega)]
  · exact h 3 _ rfl
  · exact h 4 _ rfl
  · exact h 5 _ rfl
  · exact h 6 _ rfl
  · exact h 7 _ rfl
  · exact h 8 _ rfl
  · exact h 9 _ rfl
  · exact h 10 _ rfl
  · exact h 11 _ rfl
  · exact h 12 _ rfl
  · exact h 13 _ rfl
end Go.Proofs.YtfkbifbodpelmaaDoor

/- Chapter 4's reference: Equal on expressions that are the same up to places. -/
namespace Go.Proofs.YtfkbifbodpelmaaDoor
open Go.RowKit Go.Maps Mth

/-- The two variables. -/
structure B2 (w V : World) (B : Nat) (c d : List Value) : Prop where
  one : BoxC 37 V B c
  two : BoxC 37 V (B + 1) d
  low : Below w.heap.size w V
theorem B2.lift {w V V' : World} {B : Nat} {c d : List Value} (h : B2 w V B c d) (hb : Below V.heap.size V V') : B2 w V' B c d := ⟨h.one.lift hb, h.two.lift hb, h.low.trans (hb.mono h.low.size)⟩
/-- The arm's own cells, as a walk meets them. -/
theorem arm3 {w : World} {ad : Addr} {j : Nat} {v0 v1 v2 : Value} {cb : List Value} (h : ∀ (m : Nat) (u : Value), (v0 :: v1 :: v2 :: cb)[m]? = some u → w.cell? (ad.add (j * 14 + m)) = some u) :
    w.cell? (ad.add (j * 14)) = some v0 ∧ w.cell? ⟨(ad.add (j * 14)).block, (ad.add (j * 14)).off + 1, none⟩ = some v1 ∧ w.cell? ⟨(ad.add (j * 14)).block, (ad.add (j * 14)).off + 2, none⟩ = some v2 := by
  refine ⟨h 0 _ rfl, ?_, ?_⟩
  all_goals rw [add_add' _ _ _ (by omega)]
  · exact h 1 _ rfl
  · exact h 2 _ rfl
end Go.Proofs.YtfkbifbodpelmaaDoor
