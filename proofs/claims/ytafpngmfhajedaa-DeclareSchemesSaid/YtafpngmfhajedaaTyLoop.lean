/- What a loop of the reader that appends to a field holds. -/
import Derived.Test.YtafpngmfhajedaaTyPAll
import Derived.Test.YtafpngmfhajedaaTyEls
namespace Go.Proofs.Ytafpngmfhajedaa
open Go.RowKit Go.Sort Go.Shelf Go.Maps Mth

/-- J is kept where no block is touched but the reader's, the box's and those from base on. -/
structure JOk (w : World) (b D base : Nat) (J : World → Prop) : Prop where
  hb : b < w.heap.size
  hD : w.heap.size ≤ D
  hbase : D < base
  keep : ∀ v v' row, J v → v.grownBy v' row → (∀ R, row = some R → R = b ∨ R = D ∨ base ≤ R) → J v'
structure PSt {α : Type} (E : El α) (w : World) (D base : Nat) (T : TypeId) (J : World → Prop) (v : World) (b q : Nat) (ts : List Tok) (d : Array Value) (m : Nat) (old sv : Value) (acc : List α) : Prop where
  rd : RdT v b ts q
  box : v.heap[D]? = some (.cells d T (0, 0))
  at_ : d[m]? = some old
  row : RowG E v base (fun c => base ≤ c) sv acc
  oth : J v
  grown : w.grownBy v (some b)
  size : base ≤ v.heap.size

section
variable {α : Type} {E : El α} {w : World} {D base : Nat} {T : TypeId} {J : World → Prop} {v v' : World} {b q q' : Nat} {ts : List Tok} {d : Array Value} {m : Nat} {old sv : Value} {acc : List α}
theorem PSt.call (hJ : JOk w b D base J) (h : PSt E w D base T J v b q ts d m old sv acc) (hr : RdT v' b ts q') (hg : v.grownBy v' (some b)) : PSt E w D base T J v' b q' ts d m old sv acc :=
  have h1 := hJ.hb
  have h2 := hJ.hD
  have h3 := hJ.hbase
  ⟨hr, (hg.block D (Nat.lt_of_lt_of_le h3 h.size) (fun e => by have := Option.some.inj e; omega)).trans h.box, h.at_, h.row.kept hg (h.row.off (by omega)) (fun c hc e => by have := Option.some.inj e; omega), hJ.keep _ _ _ h.oth hg (fun R e => .inl (Option.some.inj e).symm), grown_trans h.grown hg, Nat.le_trans h.size hg.size⟩
theorem PSt.lift (hJ : JOk w b D base J) (h : PSt E w D base T J v b q ts d m old sv acc) (hb : Below v.heap.size v v') : PSt E w D base T J v' b q ts d m old sv acc :=
  h.call hJ (h.rd.lift hb) (grown_of_below hb _)
theorem PSt.drew (hJ : JOk w b D base J) (h : PSt E w D base T J v b q ts d m old sv acc) : PSt E w D base T J v.drew b q ts d m old sv acc := h.lift hJ (Below.refl _ v).drew
theorem cell_of_block {v : World} {D : Nat} {d : Array Value} {T : TypeId} {m : Nat} {x : Value} (h : v.heap[D]? = some (.cells d T (0, 0))) (hm : d[m]? = some x) : v.cell? ⟨D, m, none⟩ = some x ∧ v.frozen? ⟨D, m, none⟩ = false := by
  constructor
  · simp [World.cell?, h, hm]
  · simp [World.frozen?, h]
theorem PSt.cell (h : PSt E w D base T J v b q ts d m old sv acc) : v.cell? ⟨D, m, none⟩ = some old := (cell_of_block h.box h.at_).1
theorem PSt.frozen (h : PSt E w D base T J v b q ts d m old sv acc) : v.frozen? ⟨D, m, none⟩ = false := (cell_of_block h.box h.at_).2
theorem PSt.cellA (hJ : JOk w b D base J) (h : PSt E w D base T J v b q ts d m old sv acc) (o : Obj) : (v.alloc o).cell? ⟨D, m, none⟩ = some old := (h.lift hJ ((Below.refl _ v).alloc (Nat.le_refl _) o)).cell
theorem PSt.cellD (hJ : JOk w b D base J) (h : PSt E w D base T J v b q ts d m old sv acc) (o : Obj) : (v.drew.alloc o).cell? ⟨D, m, none⟩ = some old := (h.lift hJ ((Below.refl _ v).drew.alloc (Nat.le_refl _) o)).cell
theorem step_pushP (hJ : JOk w b D base J) (h : PSt E w D base T J v b q ts d m old sv acc) (x : α) (c : List Value) (hx : E.rep v (fun c => base ≤ c ∧ some c ≠ sv.ownBlock) x c) (X : Array Value) (hX : X = c.toArray)
    {ops : Array Oper} {o : Oper} {a : Act} {K : Act → World → Prop} {Q : Exit → Act → World → Prop} {E' : Prop} (Z : TypeId) (hgd : o.guard = none) (s y : Operand)
    (ho : o.op = .call { callee := .builtin .append, args := #[s, y], argTypes := #[E.t, E.t] })
    (hs : a.eval s = sv) (nn : Nat) (hnn : nn = v.heap.size) (hy : a.eval y = .slice (some ⟨nn, 0, none⟩) 1 1) (N : Nat) (hN : N = acc.length + 1) (hb : N ≤ 1000000)
    (hK : ∀ (a' : Option Addr) (c' : Nat) (v3 : World), PSt E w D base T J v3 b q ts d m old (.slice a' N c') (acc ++ [x]) → K (a.put o.dst (.slice a' N c')) v3) :
    if Region.wanted o (yielded ops a.tmps) = true then Oper.wp Try.prog o a (v.alloc (.cells X Z)) K Q else E' := by
  subst hnn hX
  have hba : Below v.heap.size v (v.alloc (.cells c.toArray Z)) := (Below.refl _ v).alloc (Nat.le_refl _) _
  have hA := h.lift hJ hba
  have hlt := fun k e => RowG.lt h.row k e
  have h1 := hJ.hb
  have h2 := hJ.hD
  have h3 := hJ.hbase
  refine step_pushG E hgd s y ho base (fun c => base ≤ c) sv acc hs hA.row v.heap.size Z c (heap_alloc_new v _) hy x (E.kept (fun _ h => h) (fun b _ hlt => hba.block b hlt) hx) N hN hb (Nat.le_trans h.size hba.size) ?_
  intro a' c' v3 hrow3 hg3
  refine hK a' c' v3 ⟨?_, (hg3.block D (Nat.lt_of_lt_of_le h3 hA.size) (fun e => by have := (hlt _ e.symm).1; omega)).trans hA.box, hA.at_, hrow3, hJ.keep _ _ _ hA.oth hg3 (fun R e => .inr (.inr (hlt R e).1)), ?_, Nat.le_trans hA.size hg3.size⟩
  · cases hv : sv.ownBlock with
    | none => rw [hv] at hg3; exact hA.rd.lift ⟨hg3.os, hg3.tape, hg3.output, hg3.size, fun i hi => hg3.block i hi (by simp)⟩
    | some R => rw [hv] at hg3; exact hA.rd.other (by have := (hlt R hv).1; omega) hg3
  · exact grown_fresh hA.grown hg3 fun R e => by have := (hlt R e).1; omega
/-- The same in a plain region. -/
theorem wpList_pushP (hJ : JOk w b D base J) (h : PSt E w D base T J v b q ts d m old sv acc) (x : α) (c : List Value) (hx : E.rep v (fun c => base ≤ c ∧ some c ≠ sv.ownBlock) x c) (X : Array Value) (hX : X = c.toArray)
    {ops : Array Oper} {rest : List Oper} {o : Oper} {a : Act} {Q : Exit → Act → World → Prop} (Z : TypeId) (hgd : o.guard = none) (s y : Operand)
    (ho : o.op = .call { callee := .builtin .append, args := #[s, y], argTypes := #[E.t, E.t] })
    (hs : a.eval s = sv) (nn : Nat) (hnn : nn = v.heap.size) (hy : a.eval y = .slice (some ⟨nn, 0, none⟩) 1 1) (N : Nat) (hN : N = acc.length + 1) (hb : N ≤ 1000000)
    (hK : ∀ (a' : Option Addr) (c' : Nat) (v3 : World), PSt E w D base T J v3 b q ts d m old (.slice a' N c') (acc ++ [x]) → wpList Try.prog ops Q rest (a.put o.dst (.slice a' N c')) v3) :
    wpList Try.prog ops Q (o :: rest) a (v.alloc (.cells X Z)) := by
  subst hnn hX
  have hba : Below v.heap.size v (v.alloc (.cells c.toArray Z)) := (Below.refl _ v).alloc (Nat.le_refl _) _
  have hA := h.lift hJ hba
  have hlt := fun k e => RowG.lt h.row k e
  have h1 := hJ.hb
  have h2 := hJ.hD
  have h3 := hJ.hbase
  refine wpList_pushG E hgd s y ho base (fun c => base ≤ c) sv acc hs hA.row v.heap.size Z c (heap_alloc_new v _) hy x (E.kept (fun _ h => h) (fun b _ hlt => hba.block b hlt) hx) N hN hb (Nat.le_trans h.size hba.size) ?_
  intro a' c' v3 hrow3 hg3
  refine hK a' c' v3 ⟨?_, (hg3.block D (Nat.lt_of_lt_of_le h3 hA.size) (fun e => by have := (hlt _ e.symm).1; omega)).trans hA.box, hA.at_, hrow3, hJ.keep _ _ _ hA.oth hg3 (fun R e => .inr (.inr (hlt R e).1)), ?_, Nat.le_trans hA.size hg3.size⟩
  · cases hv : sv.ownBlock with
    | none => rw [hv] at hg3; exact hA.rd.lift ⟨hg3.os, hg3.tape, hg3.output, hg3.size, fun i hi => hg3.block i hi (by simp)⟩
    | some R => rw [hv] at hg3; exact hA.rd.other (by have := (hlt R hv).1; omega) hg3
  · exact grown_fresh hA.grown hg3 fun R e => by have := (hlt R e).1; omega
theorem PSt.stored (hJ : JOk w b D base J) (h : PSt E w D base T J v b q ts d m old sv acc) : PSt E w D base T J (v.setCell ⟨D, m, none⟩ sv) b q ts (d.setIfInBounds m sv) m sv sv acc := by
  obtain ⟨e1, e2, e3⟩ := set1 h.box m sv
  have h1 := hJ.hb
  have h2 := hJ.hD
  have h3 := hJ.hbase
  have hlt := fun k e => RowG.lt h.row k e
  have hm : m < d.size := by
    have := h.at_
    rw [Array.getElem?_eq_some_iff] at this
    exact this.1
  refine ⟨h.rd.other (by omega) e2, e1, ?_, h.row.kept e2 (h.row.off (by omega)) (fun c hc e => by have := Option.some.inj e; omega), hJ.keep _ _ _ h.oth e2 (fun R e => .inr (.inl (Option.some.inj e).symm)), grown_fresh h.grown e2 fun R e => by have := Option.some.inj e; omega, by rw [e3]; exact h.size⟩
  simp [hm]
end
end Go.Proofs.Ytafpngmfhajedaa
