import Derived.Test.YtfkbifbodpelmaaDoorVB2
import Derived.Test.YtfkbifbodpelmaaDoorVA2
import Derived.Deep.RegionHeld3
import Derived.Deep.RegionLaw
import Derived.Deep.LoopGhost
import Derived.Deep.MidRow
import Derived.Deep.DeepCutAuto
/- The package's reader of expressions: a function, a held expression. -/
namespace Go.Proofs.YtfkbifbodpelmaaDoor
open Go.RowKit Go.Maps Mth

end Go.Proofs.YtfkbifbodpelmaaDoor

/- The package's reader of expressions: a held expression, the choice among the forms. -/
namespace Go.Proofs.YtfkbifbodpelmaaDoor
open Go.RowKit Go.Maps Mth

theorem RepE.imp_lt {w : World} {n R : Nat} {T : Ex} {c : List Value} (h : RepE w (fun g => n ≤ g) T c) (hn : R < n) : RepE w (fun g => R < g) T c := h.imp fun _ hg => Nat.lt_of_lt_of_le hn hg

end Go.Proofs.YtfkbifbodpelmaaDoor

/- The package's reader of expressions: an atom. -/
namespace Go.Proofs.YtfkbifbodpelmaaDoor
open Go.RowKit Go.Maps Mth

/-- Eleven cells that are stored one by one. -/
theorem BoxC.set11 {t : TypeId} {w : World} {B : Nat} {c0 c1 c2 c3 c4 c5 c6 c7 c8 c9 c10 : Value} (h : BoxC t w B [c0, c1, c2, c3, c4, c5, c6, c7, c8, c9, c10]) (v0 v1 v2 v3 v4 v5 v6 v7 v8 v9 v10 : Value) :
    BoxC t (((((((((((w.setCell ⟨B, 0, none⟩ v0).setCell ⟨B, 1, none⟩ v1).setCell ⟨B, 2, none⟩ v2).setCell ⟨B, 3, none⟩ v3).setCell ⟨B, 4, none⟩ v4).setCell ⟨B, 5, none⟩ v5).setCell ⟨B, 6, none⟩ v6).setCell ⟨B, 7, none⟩ v7).setCell ⟨B, 8, none⟩ v8).setCell ⟨B, 9, none⟩ v9).setCell ⟨B, 10, none⟩ v10) B [v0, v1, v2, v3, v4, v5, v6, v7, v8, v9, v10] ∧ w.grownBy (((((((((((w.setCell ⟨B, 0, none⟩ v0).setCell ⟨B, 1, none⟩ v1).setCell ⟨B, 2, none⟩ v2).setCell ⟨B, 3, none⟩ v3).setCell ⟨B, 4, none⟩ v4).setCell ⟨B, 5, none⟩ v5).setCell ⟨B, 6, none⟩ v6).setCell ⟨B, 7, none⟩ v7).setCell ⟨B, 8, none⟩ v8).setCell ⟨B, 9, none⟩ v9).setCell ⟨B, 10, none⟩ v10) (some B) := by
  obtain ⟨a0, g0, -⟩ := h.set 0 v0
  obtain ⟨a1, g1, -⟩ := a0.set 1 v1
  obtain ⟨a2, g2, -⟩ := a1.set 2 v2
  obtain ⟨a3, g3, -⟩ := a2.set 3 v3
  obtain ⟨a4, g4, -⟩ := a3.set 4 v4
  obtain ⟨a5, g5, -⟩ := a4.set 5 v5
  obtain ⟨a6, g6, -⟩ := a5.set 6 v6
  obtain ⟨a7, g7, -⟩ := a6.set 7 v7
  obtain ⟨a8, g8, -⟩ := a7.set 8 v8
  obtain ⟨a9, g9, -⟩ := a8.set 9 v9
  obtain ⟨a10, g10, -⟩ := a9.set 10 v10
  exact ⟨a10, grown_trans (grown_trans (grown_trans (grown_trans (grown_trans (grown_trans (grown_trans (grown_trans (grown_trans (grown_trans g0 g1) g2) g3) g4) g5) g6) g7) g8) g9) g10⟩
theorem BoxC.free11 {t : TypeId} {w : World} {B : Nat} {c : List Value} (h : BoxC t w B c) : w.frozen? ⟨B, 0, none⟩ = false ∧ w.frozen? ⟨B, 1, none⟩ = false ∧ w.frozen? ⟨B, 2, none⟩ = false ∧ w.frozen? ⟨B, 3, none⟩ = false ∧ w.frozen? ⟨B, 4, none⟩ = false ∧ w.frozen? ⟨B, 5, none⟩ = false ∧ w.frozen? ⟨B, 6, none⟩ = false ∧ w.frozen? ⟨B, 7, none⟩ = false ∧ w.frozen? ⟨B, 8, none⟩ = false ∧ w.frozen? ⟨B, 9, none⟩ = false ∧ w.frozen? ⟨B, 10, none⟩ = false :=
  ⟨h.free 0, h.free 1, h.free 2, h.free 3, h.free 4, h.free 5, h.free 6, h.free 7, h.free 8, h.free 9, h.free 10⟩
end Go.Proofs.YtfkbifbodpelmaaDoor

/- The package's reader of expressions: a let. -/
namespace Go.Proofs.YtfkbifbodpelmaaDoor
open Go.RowKit Go.Maps Mth

end Go.Proofs.YtfkbifbodpelmaaDoor

/- The package's reader of expressions: an applied expression. -/
namespace Go.Proofs.YtfkbifbodpelmaaDoor
open Go.RowKit Go.Maps Mth

theorem BoxC.set11s {t : TypeId} {w : World} {B : Nat} {c0 c1 c2 c3 c4 c5 c6 c7 c8 c9 c10 : Value} (h : BoxC t w B [c0, c1, c2, c3, c4, c5, c6, c7, c8, c9, c10]) (v0 v1 v2 v3 v4 v5 v6 v7 v8 v9 v10 : Value) :
    BoxC t (((((((((((w.setCell ⟨B, 0, none⟩ v0).setCell ⟨B, 1, none⟩ v1).setCell ⟨B, 2, none⟩ v2).setCell ⟨B, 3, none⟩ v3).setCell ⟨B, 4, none⟩ v4).setCell ⟨B, 5, none⟩ v5).setCell ⟨B, 6, none⟩ v6).setCell ⟨B, 7, none⟩ v7).setCell ⟨B, 8, none⟩ v8).setCell ⟨B, 9, none⟩ v9).setCell ⟨B, 10, none⟩ v10) B [v0, v1, v2, v3, v4, v5, v6, v7, v8, v9, v10] ∧ w.grownBy (((((((((((w.setCell ⟨B, 0, none⟩ v0).setCell ⟨B, 1, none⟩ v1).setCell ⟨B, 2, none⟩ v2).setCell ⟨B, 3, none⟩ v3).setCell ⟨B, 4, none⟩ v4).setCell ⟨B, 5, none⟩ v5).setCell ⟨B, 6, none⟩ v6).setCell ⟨B, 7, none⟩ v7).setCell ⟨B, 8, none⟩ v8).setCell ⟨B, 9, none⟩ v9).setCell ⟨B, 10, none⟩ v10) (some B) ∧ (((((((((((w.setCell ⟨B, 0, none⟩ v0).setCell ⟨B, 1, none⟩ v1).setCell ⟨B, 2, none⟩ v2).setCell ⟨B, 3, none⟩ v3).setCell ⟨B, 4, none⟩ v4).setCell ⟨B, 5, none⟩ v5).setCell ⟨B, 6, none⟩ v6).setCell ⟨B, 7, none⟩ v7).setCell ⟨B, 8, none⟩ v8).setCell ⟨B, 9, none⟩ v9).setCell ⟨B, 10, none⟩ v10).heap.size = w.heap.size := by
  obtain ⟨h1, h2⟩ := h.set11 v0 v1 v2 v3 v4 v5 v6 v7 v8 v9 v10
  exact ⟨h1, h2, by simp [World.setCell]⟩
end Go.Proofs.YtfkbifbodpelmaaDoor

/- The package's reader of expressions: an arm. -/
namespace Go.Proofs.YtfkbifbodpelmaaDoor
open Go.RowKit Go.Maps Mth

/-- Cells stored one behind the other. -/
theorem BoxC.mid {t : TypeId} {B : Nat} : ∀ (d : List Value) (o : Nat) (w : World) (c : List Value), BoxC t w B c → o + d.length ≤ c.length →
    BoxC t (w.setCells B o d) B (c.take o ++ d ++ c.drop (o + d.length)) ∧ w.grownBy (w.setCells B o d) (some B) := by
  intro d
  induction d with
  | nil =>
    intro o w c h _
    refine ⟨?_, below_grown_some (Below.refl _ w) B⟩
    simpa [World.setCells] using h
  | cons v d ih =>
    intro o w c h hl
    simp only [List.length_cons] at hl
    obtain ⟨h1, h2, -⟩ := h.set o v
    obtain ⟨h3, h4⟩ := ih (o + 1) _ _ h1 (by simp; omega)
    refine ⟨?_, grown_trans h2 h4⟩
    have e : (c.set o v).take (o + 1) ++ d ++ (c.set o v).drop (o + 1 + d.length) = c.take o ++ (v :: d) ++ c.drop (o + (d.length + 1)) := by
      have e1 : (c.set o v).take (o + 1) = c.take o ++ [v] := by
        rw [List.set_eq_take_append_cons_drop, if_pos (by omega)]
        have ht : (c.take o).length = o := by rw [List.length_take]; omega
        rw [List.take_append, ht, List.take_of_length_le (by omega)]
        simp
      have e2 : (c.set o v).drop (o + 1 + d.length) = c.drop (o + (d.length + 1)) := by
        rw [List.drop_set_of_lt (by omega)]
        congr 1; omega
      rw [e1, e2]; simp
    rw [e] at h3
    exact h3
theorem wpList_storeM {t ty : TypeId} {w : World} {ops : Array Oper} {rest : List Oper} {o : Oper} {a : Act} {Q : Exit → Act → World → Prop} (hgd : o.guard = none) (p x : Operand) (ho : o.op = Op.store ty p x)
    (B off : Nat) (c d : List Value) (hB : BoxC t w B c) (hp : a.eval p = .pointer (some ⟨B, off, none⟩)) (hx : a.eval x = .agg d.toArray) (hi : (Tryd.prog.info? ty).map (·.size) = some d.length) (hl : off + d.length ≤ c.length) (h1 : ∀ u ∈ d, u.oneCell' = true)
    (hK : ∀ w', BoxC t w' B (c.take off ++ d ++ c.drop (off + d.length)) → w.grownBy w' (some B) → wpList Tryd.prog ops Q rest (a.put o.dst undef) w') :
    wpList Tryd.prog ops Q (o :: rest) a w := by
  refine wpList_store_mid hgd ty p x ho B off d.toArray hp hx (fun j hj => ?_) (by simpa using hi) (Array.all_eq_true_iff_forall_mem.2 fun v hv => h1 v (by simpa using hv)) ?_
  · have hj' : j < d.length := by simpa using hj
    exact ⟨by rw [hB.cell (off + j) _ (List.getElem?_eq_getElem (by omega))]; rfl, hB.free _⟩
  · obtain ⟨h2, h3⟩ := BoxC.mid d off w c hB hl
    have := hK _ h2 h3
    simpa using this

theorem row_str {w w' : World} {base : Nat} {S : Nat → Prop} {v : Value} {xs : List ByteArray} {row : Option Nat} (h : RowG StrE w base S v xs) (hg : w.grownBy w' row) (hv : v.ownBlock = none ∨ v.ownBlock ≠ row) : RowG StrE w' base S v xs := by
  obtain ⟨L, hown, hl, hr⟩ := h
  exact ⟨L, hown.kept hg hv, hl, hr⟩
theorem step_push_str {w : World} {ops : Array Oper} {o : Oper} {a : Act} {K : Act → World → Prop} {Q : Exit → Act → World → Prop} {E' : Prop} (tx : ByteArray) {base : Nat} {sa : Option Addr} {n sc : Nat} {acc : List ByteArray} (hrow : RowG StrE w base (fun _ => False) (.slice sa n sc) acc)
    (hgd : o.guard = none) (s x : Operand) (ho : o.op = .call { callee := .builtin .append, args := #[s, x], argTypes := #[61, 61] }) (hs : a.eval s = .slice sa n sc) (nn : Nat) (hnn : nn = w.heap.size) (hx : a.eval x = .slice (some ⟨nn, 0, none⟩) 1 1)
    (N : Nat) (hN : N = acc.length + 1) (hb : N ≤ 1000000) (hbase : base ≤ w.heap.size)
    (hK : ∀ (a' : Option Addr) (c' : Nat) (w' : World), RowG StrE w' base (fun _ => False) (.slice a' N c') (acc ++ [tx]) → w.grownBy w' (Value.slice sa n sc).ownBlock → K (a.put o.dst (.slice a' N c')) w') :
    if Region.wanted o (yielded ops a.tmps) = true then Oper.wp Tryd.prog o a (w.alloc (.cells #[.string tx] 9)) K Q else E' := by
  subst hnn
  have hba : Below w.heap.size w (w.alloc (.cells #[.string tx] 9)) := (Below.refl _ w).alloc (Nat.le_refl _) _
  have hlt := fun k e => RowG.lt hrow k e
  exact step_pushG StrE hgd s x ho base (fun _ => False) (.slice sa n sc) acc hs (hrow.lift hba) w.heap.size 9 [.string tx] (heap_alloc_new w _) hx tx rfl N hN hb (Nat.le_trans hbase hba.size) fun a' c' w' h1 h2 => hK a' c' w' h1 (grown_trans (World.grownBy_alloc w _ _) h2)
theorem BoxC.all14 {t : TypeId} {w : World} {B : Nat} {c0 c1 c2 c3 c4 c5 c6 c7 c8 c9 c10 c11 c12 c13 : Value} (h : BoxC t w B [c0, c1, c2, c3, c4, c5, c6, c7, c8, c9, c10, c11, c12, c13]) :
    w.cell? ⟨B, 0, none⟩ = some c0 ∧ w.cell? ⟨B, 1, none⟩ = some c1 ∧ w.cell? ⟨B, 2, none⟩ = some c2 ∧ w.cell? ⟨B, 3, none⟩ = some c3 ∧ w.cell? ⟨B, 4, none⟩ = some c4 ∧ w.cell? ⟨B, 5, none⟩ = some c5 ∧ w.cell? ⟨B, 6, none⟩ = some c6 ∧ w.cell? ⟨B, 7, none⟩ = some c7 ∧ w.cell? ⟨B, 8, none⟩ = some c8 ∧ w.cell? ⟨B, 9, none⟩ = some c9 ∧ w.cell? ⟨B, 10, none⟩ = some c10 ∧ w.cell? ⟨B, 11, none⟩ = some c11 ∧ w.cell? ⟨B, 12, none⟩ = some c12 ∧ w.cell? ⟨B, 13, none⟩ = some c13 :=
  ⟨h.cell 0 _ rfl, h.cell 1 _ rfl, h.cell 2 _ rfl, h.cell 3 _ rfl, h.cell 4 _ rfl, h.cell 5 _ rfl, h.cell 6 _ rfl, h.cell 7 _ rfl, h.cell 8 _ rfl, h.cell 9 _ rfl, h.cell 10 _ rfl, h.cell 11 _ rfl, h.cell 12 _ rfl, h.cell 13 _ rfl⟩
end Go.Proofs.YtfkbifbodpelmaaDoor

/- The package's reader of expressions: a case. -/
namespace Go.Proofs.YtfkbifbodpelmaaDoor
open Go.RowKit Go.Maps Mth

end Go.Proofs.YtfkbifbodpelmaaDoor

/- The package's reader of expressions: what stands in parentheses. -/
namespace Go.Proofs.YtfkbifbodpelmaaDoor
open Go.RowKit Go.Maps Mth

end Go.Proofs.YtfkbifbodpelmaaDoor

/- The package's reader of expressions: a type behind a colon. -/
namespace Go.Proofs.YtfkbifbodpelmaaDoor
open Go.RowKit Go.Maps Mth

section
variable {W w2 : World} {S : Nat → Prop} {c0 c1 c2 c3 c4 : Value} {e p : Int} {T : Ty} (hb : Below W.heap.size W w2) (hrep : Rep w2 S T (.agg #[c0, c1, c2, c3, c4]))
include hb hrep
end
section
variable {x w2 : World}
end

theorem hz1 (x : World) (o : Obj) : x.heap.size < (x.alloc o).drew.heap.size := by show _ < (x.alloc o).heap.size; simp
theorem hz2 (x : World) (o o' : Obj) : x.heap.size + 1 < ((x.alloc o).alloc o').drew.heap.size := by show _ < ((x.alloc o).alloc o').heap.size; simp
end Go.Proofs.YtfkbifbodpelmaaDoor

/- The package's reader of expressions ends: fuel that is enough. -/
namespace Go.Proofs.YtfkbifbodpelmaaDoor
open Go.RowKit Mth

end Go.Proofs.YtfkbifbodpelmaaDoor

/- Plain facts: no expression that is read has too many kids or arms. -/
namespace Go.Proofs.YtfkbifbodpelmaaDoor
open Go.RowKit Mth

/-! An expression without its places. -/
mutual
def strip : Ex → Ex
  | .mk k _ n m t kids arms => .mk k 0 n m t (stripL kids) (stripA arms)
def stripL : List Ex → List Ex
  | [] => []
  | e :: l => strip e :: stripL l
def stripA : List (AH × Ex) → List (AH × Ex)
  | [] => []
  | (h, e) :: l => (⟨0, h.con, h.vars⟩, strip e) :: stripA l
end
end Go.Proofs.YtfkbifbodpelmaaDoor
