/- What a loop holds that appends types to the arguments of a struct of its own. -/
import Derived.Test.YtahiefgfhpkoeaaTyPType
import Derived.Test.YtahiefgfhpkoeaaTyRepl
namespace Go.Proofs.Ytahiefgfhpkoeaa
open Go.RowKit Go.Sort Go.Shelf Go.Maps Mth

/-- The argument's struct, the result's, the struct that is filled, and its row. -/
structure OSt (w : World) (S : Nat → Prop) (a0 a1 a2 a3 a4 c0 c1 c2 c3 : Value) (old sv : Value) (acc : List Ty) (v : World) : Prop where
  a : Box v w.heap.size a0 a1 a2 a3 a4
  r : Zero v (w.heap.size + 1)
  box : Box v (w.heap.size + 2) c0 c1 c2 c3 old
  row : RowG TyE v (w.heap.size + 3) S sv acc
  low : Below w.heap.size w v
  size : w.heap.size + 3 ≤ v.heap.size
section
variable {w v v' : World} {S : Nat → Prop} {a0 a1 a2 a3 a4 c0 c1 c2 c3 old sv : Value} {acc : List Ty}
theorem OSt.lift (h : OSt w S a0 a1 a2 a3 a4 c0 c1 c2 c3 old sv acc v) (hb : Below v.heap.size v v') : OSt w S a0 a1 a2 a3 a4 c0 c1 c2 c3 old sv acc v' :=
  ⟨Box.lift h.a hb, Box.lift h.r hb, Box.lift h.box hb, h.row.lift hb, h.low.trans (hb.mono h.low.size), Nat.le_trans h.size hb.size⟩
theorem OSt.cell (h : OSt w S a0 a1 a2 a3 a4 c0 c1 c2 c3 old sv acc v) : v.cell? ⟨w.heap.size + 2, 4, none⟩ = some old := h.box.cells.2.2.2.2
theorem OSt.arg (h : OSt w S a0 a1 a2 a3 a4 c0 c1 c2 c3 old sv acc v) : v.cell? ⟨w.heap.size, 4, none⟩ = some a4 := h.a.cells.2.2.2.2
theorem OSt.cellA (h : OSt w S a0 a1 a2 a3 a4 c0 c1 c2 c3 old sv acc v) (o : Obj) : (v.alloc o).cell? ⟨w.heap.size + 2, 4, none⟩ = some old := (h.lift ((Below.refl _ v).alloc (Nat.le_refl _) o)).cell
theorem OSt.frozen (h : OSt w S a0 a1 a2 a3 a4 c0 c1 c2 c3 old sv acc v) : v.frozen? ⟨w.heap.size + 2, 4, none⟩ = false := h.box.frozen.2.2.2.2
/-- The field is stored. -/
theorem OSt.stored (hS : ¬ S (w.heap.size + 2)) (h : OSt w S a0 a1 a2 a3 a4 c0 c1 c2 c3 old sv acc v) : OSt w S a0 a1 a2 a3 a4 c0 c1 c2 c3 sv sv acc (v.setCell ⟨w.heap.size + 2, 4, none⟩ sv) := by
  obtain ⟨e1, e2, e3⟩ := set1 h.box 4 sv
  refine ⟨Box.grown h.a e2 (by intro e; have := Option.some.inj e; omega), Box.grown h.r e2 (by intro e; have := Option.some.inj e; omega), ?_, h.row.kept e2 (h.row.off (by omega)) (fun c hc e => by have := Option.some.inj e; subst this; exact hS hc), Below.grown h.low e2 h.low.size (fun k hk => by cases hk; omega), by rw [e3]; exact h.size⟩
  unfold Box
  rw [e1]
  simp
theorem step_pushO (h : OSt w S a0 a1 a2 a3 a4 c0 c1 c2 c3 old sv acc v) (x : Ty) (c : List Value) (hx : TyE.rep v (fun c => S c ∧ some c ≠ sv.ownBlock) x c) (X : Array Value) (hX : X = c.toArray)
    {ops : Array Oper} {o : Oper} {a : Act} {K : Act → World → Prop} {Q : Exit → Act → World → Prop} {E' : Prop} (Z : TypeId) (hgd : o.guard = none) (s y : Operand)
    (ho : o.op = .call { callee := .builtin .append, args := #[s, y], argTypes := #[23, 23] })
    (hs : a.eval s = sv) (nn : Nat) (hnn : nn = v.heap.size) (hy : a.eval y = .slice (some ⟨nn, 0, none⟩) 1 1) (N : Nat) (hN : N = acc.length + 1) (hb : N ≤ 1000000)
    (hK : ∀ (a' : Option Addr) (c' : Nat) (v3 : World), OSt w S a0 a1 a2 a3 a4 c0 c1 c2 c3 old (.slice a' N c') (acc ++ [x]) v3 → K (a.put o.dst (.slice a' N c')) v3) :
    if Region.wanted o (yielded ops a.tmps) = true then Oper.wp Try.prog o a (v.alloc (.cells X Z)) K Q else E' := by
  subst hnn hX
  have hba : Below v.heap.size v (v.alloc (.cells c.toArray Z)) := (Below.refl _ v).alloc (Nat.le_refl _) _
  have hA := h.lift hba
  have hlt := fun k e => RowG.lt h.row k e
  refine step_pushG TyE hgd s y ho (w.heap.size + 3) S sv acc hs hA.row v.heap.size Z c (heap_alloc_new v _) hy x (TyE.kept (fun _ h => h) (fun b _ hlt => hba.block b hlt) hx) N hN hb (Nat.le_trans h.size hba.size) ?_
  intro a' c' v3 hrow3 hg3
  exact hK a' c' v3 ⟨Box.grown hA.a hg3 (fun e => by have := (hlt _ e.symm).1; omega), Box.grown hA.r hg3 (fun e => by have := (hlt _ e.symm).1; omega), Box.grown hA.box hg3 (fun e => by have := (hlt _ e.symm).1; omega), hrow3, Below.grown hA.low hg3 hA.low.size (fun k hk => by have := (hlt k hk).1; omega), Nat.le_trans hA.size hg3.size⟩
end
end Go.Proofs.Ytahiefgfhpkoeaa
