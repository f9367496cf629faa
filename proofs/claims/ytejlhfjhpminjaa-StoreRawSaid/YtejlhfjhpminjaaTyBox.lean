/- A struct of five cells in a block of its own: what is stored there. -/
import Derived.Test.YtejlhfjhpminjaaTyRow
import Derived.Handy
import Derived.LoopTactic
namespace Go.Proofs.Ytejlhfjhpminjaa
open Go.RowKit Mth

/-- Block B is a struct with these cells. -/
def Box (w : World) (B : Nat) (c0 c1 c2 c3 c4 : Value) : Prop := w.heap[B]? = some (.cells #[c0, c1, c2, c3, c4] 31 (0, 0))
theorem Box.cells {w : World} {B : Nat} {c0 c1 c2 c3 c4 : Value} (h : Box w B c0 c1 c2 c3 c4) :
    (w.cell? ⟨B, 0, none⟩ = some c0 ∧ w.cell? ⟨B, 1, none⟩ = some c1 ∧ w.cell? ⟨B, 2, none⟩ = some c2 ∧ w.cell? ⟨B, 3, none⟩ = some c3 ∧ w.cell? ⟨B, 4, none⟩ = some c4) := by
  unfold Box at h
  simp [World.cell?, h]
theorem Box.frozen {w : World} {B : Nat} {c0 c1 c2 c3 c4 : Value} (h : Box w B c0 c1 c2 c3 c4) :
    (w.frozen? ⟨B, 0, none⟩ = false ∧ w.frozen? ⟨B, 1, none⟩ = false ∧ w.frozen? ⟨B, 2, none⟩ = false ∧ w.frozen? ⟨B, 3, none⟩ = false ∧ w.frozen? ⟨B, 4, none⟩ = false) := by
  unfold Box at h
  simp [World.frozen?, h]
theorem Box.made (w : World) (c0 c1 c2 c3 c4 : Value) : Box (w.alloc (.cells #[c0, c1, c2, c3, c4] 31)) w.heap.size c0 c1 c2 c3 c4 := heap_alloc_new w _
/-- Block B is a struct of zeros. -/
def Zero (w : World) (B : Nat) : Prop := Box w B (.int .i64 0) (.string ⟨#[]⟩) (.int .i64 0) (.int .i64 0) (.slice none 0 0)
theorem heap_at (w : World) (o : Obj) (k : Nat) : (w.alloc o).heap[k]? = if k = w.heap.size then some o else w.heap[k]? := by
  show (w.heap.push o)[k]? = _
  rw [Array.getElem?_push]
theorem Box.kept {w w' : World} {B : Nat} {c0 c1 c2 c3 c4 : Value} (h : Box w B c0 c1 c2 c3 c4) (hb : w'.heap[B]? = w.heap[B]?) : Box w' B c0 c1 c2 c3 c4 := by unfold Box at *; rw [hb, h]
theorem Box.lt {w : World} {B : Nat} {c0 c1 c2 c3 c4 : Value} (h : Box w B c0 c1 c2 c3 c4) : B < w.heap.size := (Array.getElem?_eq_some_iff.1 h).1
theorem Box.lift {w w' : World} {B : Nat} {c0 c1 c2 c3 c4 : Value} (h : Box w B c0 c1 c2 c3 c4) (hb : Below w.heap.size w w') : Box w' B c0 c1 c2 c3 c4 := h.kept (hb.block _ h.lt)

theorem set1 {w : World} {B : Nat} {cs : Array Value} {t : TypeId} (h : w.heap[B]? = some (.cells cs t (0, 0))) (m : Nat) (v : Value) :
    (w.setCell ⟨B, m, none⟩ v).heap[B]? = some (.cells (cs.setIfInBounds m v) t (0, 0)) ∧ w.grownBy (w.setCell ⟨B, m, none⟩ v) (some B) ∧ (w.setCell ⟨B, m, none⟩ v).heap.size = w.heap.size := by
  refine ⟨?_, ⟨rfl, rfl, rfl, by simp [World.setCell], fun k _ hk => Below.heap_setCell _ _ _ _ (fun e => hk (by rw [e]))⟩, by simp [World.setCell]⟩
  simp [World.setCell, Array.getElem?_modify, h]
theorem grown_trans {a b c : World} {r : Option Nat} (h : a.grownBy b r) (k : b.grownBy c r) : a.grownBy c r :=
  ⟨k.os.trans h.os, k.tape.trans h.tape, k.output.trans h.output, Nat.le_trans h.size k.size, fun i hi hr => (k.block i (Nat.lt_of_lt_of_le hi h.size) hr).trans (h.block i hi hr)⟩
theorem set5 {w : World} {B : Nat} {c0 c1 c2 c3 c4 : Value} (h : Box w B c0 c1 c2 c3 c4) (v0 v1 v2 v3 v4 : Value) :
    Box (((((w.setCell ⟨B, 0, none⟩ v0).setCell ⟨B, 1, none⟩ v1).setCell ⟨B, 2, none⟩ v2).setCell ⟨B, 3, none⟩ v3).setCell ⟨B, 4, none⟩ v4) B v0 v1 v2 v3 v4 ∧
    w.grownBy (((((w.setCell ⟨B, 0, none⟩ v0).setCell ⟨B, 1, none⟩ v1).setCell ⟨B, 2, none⟩ v2).setCell ⟨B, 3, none⟩ v3).setCell ⟨B, 4, none⟩ v4) (some B) ∧
    (((((w.setCell ⟨B, 0, none⟩ v0).setCell ⟨B, 1, none⟩ v1).setCell ⟨B, 2, none⟩ v2).setCell ⟨B, 3, none⟩ v3).setCell ⟨B, 4, none⟩ v4).heap.size = w.heap.size := by
  obtain ⟨a0, g0, s0⟩ := set1 h 0 v0
  obtain ⟨a1, g1, s1⟩ := set1 a0 1 v1
  obtain ⟨a2, g2, s2⟩ := set1 a1 2 v2
  obtain ⟨a3, g3, s3⟩ := set1 a2 3 v3
  obtain ⟨a4, g4, s4⟩ := set1 a3 4 v4
  refine ⟨?_, grown_trans (grown_trans (grown_trans (grown_trans g0 g1) g2) g3) g4, by rw [s4, s3, s2, s1, s0]⟩
  unfold Box
  rw [a4]
  simp

theorem wpList_store5 {w : World} {ops : Array Oper} {rest : List Oper} {o : Oper} {a : Act} {Q : Exit → Act → World → Prop} (hgd : o.guard = none) (p x : Operand) (ho : o.op = Op.store 31 p x)
    (B : Nat) (c0 c1 c2 c3 c4 : Value) (hB : Box w B c0 c1 c2 c3 c4) (hp : a.eval p = .pointer (some ⟨B, 0, none⟩)) (k : Int) (n : ByteArray) (i h : Int) (sa : Option Addr) (sn sc : Nat)
    (hx : a.eval x = .agg #[.int .i64 k, .string n, .int .i64 i, .int .i64 h, .slice sa sn sc])
    (hK : ∀ w', Box w' B (.int .i64 k) (.string n) (.int .i64 i) (.int .i64 h) (.slice sa sn sc) → w.grownBy w' (some B) → w'.heap.size = w.heap.size → wpList Try.prog ops Q rest (a.put o.dst undef) w') :
    wpList Try.prog ops Q (o :: rest) a w := by
  obtain ⟨h0, h1, h2, h3, h4⟩ := hB.cells
  obtain ⟨f0, f1, f2, f3, f4⟩ := hB.frozen
  refine wpList_plain hgd fun K hK' => ?_
  unfold Oper.wp
  simp only [execOp, ho, hp, hx]
  simp [go_sem, h0, h1, h2, h3, h4, f0, f1, f2, f3, f4]
  exact hK' _ _ (hK _ (set5 hB _ _ _ _ _).1 (set5 hB _ _ _ _ _).2.1 (set5 hB _ _ _ _ _).2.2)
/-- One value that was just laid. -/
theorem one_new {w : World} {a0 a1 a2 a3 a4 : Value} (Z : TypeId) (n : Nat) (hn : n = w.heap.size) : Five (w.alloc (.cells #[a0, a1, a2, a3, a4] Z)) ⟨n, 0, none⟩ 0 (.agg #[a0, a1, a2, a3, a4]) := by
  subst hn
  exact ⟨a0, a1, a2, a3, a4, rfl, by simp [Addr.add], by simp [Addr.add], by simp [Addr.add], by simp [Addr.add], by simp [Addr.add]⟩
/-- One append of one value that was laid for it. -/
theorem wpList_push1 {W : World} {Z : TypeId} {k : Int} {n : ByteArray} {i h : Int} {sa : Option Addr} {sn sc : Nat} {ops : Array Oper} {rest : List Oper} {o : Oper} {a : Act} {Q : Exit → Act → World → Prop} (hgd : o.guard = none) (s x : Operand)
    (ho : o.op = .call { callee := .builtin .append, args := #[s, x], argTypes := #[29, 29] })
    (base : Nat) (S : Nat → Prop) (v : Value) (ts : List Ty) (hs : a.eval s = v) (hrow : RowT W base S v ts)
    (nn : Nat) (hnn : nn = W.heap.size) (hx : a.eval x = .slice (some ⟨nn, 0, none⟩) 1 1) (T : Ty) (hT : Rep W (fun b => S b ∧ some b ≠ v.ownBlock) T (.agg #[.int .i64 k, .string n, .int .i64 i, .int .i64 h, .slice sa sn sc]))
    (N : Nat) (hN : N = ts.length + 1) (hb : N ≤ 1000000) (hbase : base ≤ W.heap.size)
    (hK : ∀ (a' : Option Addr) (c' : Nat) (w' : World), RowT w' base S (.slice a' N c') (ts ++ [T]) → W.grownBy w' v.ownBlock → wpList Try.prog ops Q rest (a.put o.dst (.slice a' N c')) w') :
    wpList Try.prog ops Q (o :: rest) a (W.alloc (.cells #[.int .i64 k, .string n, .int .i64 i, .int .i64 h, .slice sa sn sc] Z)) := by
  have hbl : Below W.heap.size W (W.alloc (.cells #[.int .i64 k, .string n, .int .i64 i, .int .i64 h, .slice sa sn sc] Z)) := (Below.refl _ W).alloc (Nat.le_refl _) _
  refine wpList_pushT hgd s x ho base S v ts hs (hrow.lift hbl) ⟨nn, 0, none⟩ 1 1 hx [T] rfl (fun j U hj => ?_) N hN hb (Nat.le_trans hbase hbl.size) (fun a' c' w' h1 h2 _ => hK a' c' w' h1 (grown_trans (World.grownBy_alloc W _ _) h2))
  cases j with
  | zero =>
    simp at hj; subst hj
    exact ⟨_, one_new Z nn hnn, hT.lift hbl⟩
  | succ j => simp at hj
end Go.Proofs.Ytejlhfjhpminjaa
