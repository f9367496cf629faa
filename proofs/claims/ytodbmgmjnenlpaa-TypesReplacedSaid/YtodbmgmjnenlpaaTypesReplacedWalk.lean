/- The law TypesReplaced returns true at every input; two rows that grow side by side. -/
import Derived.Test.YtodbmgmjnenlpaaTyMade
import Derived.Test.YtodbmgmjnenlpaaTyRepl
import Derived.Test.YtodbmgmjnenlpaaTyPType
import Derived.Test.YtodbmgmjnenlpaaTyOpenT
import Derived.Test.YtodbmgmjnenlpaaTyFirst
import Derived.Test.YtodbmgmjnenlpaaTyEq2
import Derived.Test.YtodbmgmjnenlpaaTyKit
import Derived.Deep.CutBlock
import Derived.Deep.LoopGhost
import Derived.Deep.RegionHeld3
namespace Go.Proofs.Ytodbmgmjnenlpaa
open Go.RowKit Go.Sort Go.Shelf Go.Maps Mth

theorem elInfo_as : (Try.prog.info? 49).map (fun i => (i.zero, i.size, i.bytes)) = some (some (.agg #[.int .i64 0, .int .i64 0, .string ByteArray.empty, .int .i64 0, .int .i64 0, .slice none 0 0]), 6, 72) := by kernel_rfl
/-- Assignments as elements. -/
def AsE : El (Int × Ty) where
  k := 6
  by_ := 72
  e := 49
  t := 47
  rep w S p c := ∃ c', c = .int .i64 p.1 :: c' ∧ Rep w S p.2 (.agg c'.toArray)
  hk := by decide
  und := Try.underlying47
  info := by obtain ⟨i, h0, h1, h2, h3⟩ := info_parts elInfo_as; exact ⟨i, _, h0, h1, h2, h3, rfl⟩
  hby := by decide
  len h := by
    obtain ⟨c', rfl, h⟩ := h
    obtain ⟨h1, h2⟩ := h.cells
    refine ⟨by simp [h1], fun u hu => ?_⟩
    rcases List.mem_cons.1 hu with rfl | hu
    · rfl
    · exact h2 u hu
  kept h1 h2 h := by
    obtain ⟨c', e, h⟩ := h
    exact ⟨c', e, h.kept h1 h2⟩
  bound h := by
    obtain ⟨c', e, h⟩ := h
    exact ⟨c', e, h.bound⟩
theorem slG_asL {w : World} {S : Nat → Prop} {xs : List (Int × Ty)} {v : Value} (h : SlG AsE w S xs v) : AsL w S xs v := by
  obtain ⟨a, cap, hv, hc, hj⟩ := h
  refine ⟨a, cap, hv, hc, fun j p hp => ?_⟩
  obtain ⟨ad, c, h1, h2, h3, c', rfl, h4⟩ := hj j p hp
  obtain ⟨k, n, i, hm, s, -, e, -, -⟩ := h4.open
  have e' : c' = [.int .i64 k, .string n, .int .i64 i, .int .i64 hm, s] := by simpa using e
  subst e'
  refine ⟨ad, k, n, i, hm, s, h1, h2, ⟨h3 0 _ rfl, ?_, ?_, ?_, ?_, ?_⟩, h4⟩
  · rw [add_add' _ _ _ (by omega)]; exact h3 1 _ rfl
  · rw [add_add' _ _ _ (by omega)]; exact h3 2 _ rfl
  · rw [add_add' _ _ _ (by omega)]; exact h3 3 _ rfl
  · rw [add_add' _ _ _ (by omega)]; exact h3 4 _ rfl
  · rw [add_add' _ _ _ (by omega)]; exact h3 5 _ rfl
theorem RowG.weaken {α : Type} {E : El α} {w : World} {base : Nat} {S S' : Nat → Prop} {v : Value} {xs : List α} (h : RowG E w base S v xs) (hS : ∀ b, S b → b < w.heap.size → some b ≠ v.ownBlock → S' b) : RowG E w base S' v xs := by
  obtain ⟨L, hown, hl, hr⟩ := h
  refine ⟨L, hown, hl, fun j x hj => ?_⟩
  obtain ⟨c, hc, hrep⟩ := hr j x hj
  exact ⟨c, hc, E.kept (fun b hb => ⟨hS b hb.1.1 hb.2 hb.1.2, hb.1.2⟩) (fun _ _ _ => rfl) (E.bound hrep)⟩
/-- One append at a step of a region that draws its order; where the new row lies. -/
theorem step_pushH {α : Type} {w : World} {ops : Array Oper} {o : Oper} {a : Act} {K : Act → World → Prop} {Q : Exit → Act → World → Prop} {E' : Prop} (E : El α) (hgd : o.guard = none) (s x : Operand)
    (ho : o.op = .call { callee := .builtin .append, args := #[s, x], argTypes := #[E.t, E.t] })
    (base : Nat) (S : Nat → Prop) (v : Value) (xs : List α) (hs : a.eval s = v) (hrow : RowG E w base S v xs)
    (B : Nat) (Z : TypeId) (c : List Value) (hB : w.heap[B]? = some (.cells c.toArray Z (0, 0))) (hx : a.eval x = .slice (some ⟨B, 0, none⟩) 1 1) (y : α) (hy : E.rep w (fun b => S b ∧ some b ≠ v.ownBlock) y c)
    (N : Nat) (hN : N = xs.length + 1) (hb : N ≤ 1000000) (hbase : base ≤ w.heap.size)
    (hK : ∀ (a' : Option Addr) (c' : Nat) (w' : World), RowG E w' base S (.slice a' N c') (xs ++ [y]) → w.grownBy w' v.ownBlock → ((Value.slice a' N c').ownBlock = v.ownBlock ∨ (Value.slice a' N c').ownBlock = some w.heap.size) → K (a.put o.dst (.slice a' N c')) w') :
    if Region.wanted o (yielded ops a.tmps) = true then Oper.wp Try.prog o a w K Q else E' := by
  obtain ⟨i, z, hi, hz, hk, hby, hzs⟩ := E.info
  obtain ⟨L, hown, hl, hr⟩ := hrow
  have hc := E.len hy
  have hE := E.hby
  refine step_append_lies w hgd s x E.t ho base E.e i z E.k E.by_ E.und hi hz hk hby hzs E.hk v xs.length L.flatten hs hown ⟨B, 0, none⟩ 1 1 c hx (by omega) (World.news_of_block hB) hc.2 (by omega) (by unfold maxLen; omega) ?_ hbase w.heap.size rfl ?_
  · have := Nat.mul_le_mul (show xs.length + 1 ≤ 1000000 by omega) hE
    omega
  intro g cap w' hown' hg hloc _
  have hlc : (Value.slice (some ⟨g, 0, none⟩) (xs.length + 1) cap).ownBlock = v.ownBlock ∨ (Value.slice (some ⟨g, 0, none⟩) (xs.length + 1) cap).ownBlock = some w.heap.size := by
    rcases hloc with e | e
    · exact .inl (by rw [e]; rfl)
    · subst e; exact .inr rfl
  have hrow' : RowG E w' base S (.slice (some ⟨g, 0, none⟩) (xs.length + 1) cap) (xs ++ [y]) := push_after hl hr hy hown' hg hlc
  subst hN
  exact hK _ _ _ hrow' hg hlc

theorem new1 (w : World) (A : Obj) : (w.alloc A).heap[w.heap.size]? = some A := heap_alloc_new w A
theorem new2 (w : World) (A B : Obj) : ((w.alloc A).alloc B).heap[w.heap.size + 1]? = some B := by rw [heap_at, if_pos (by simp)]
theorem new3 (w : World) (A B : Obj) : ((w.alloc A).alloc B).heap[w.heap.size]? = some A := by rw [heap_at, if_neg (by simp), heap_at, if_pos rfl]
/-- Blocks from base on, but those of the two rows. -/
def SS (base : Nat) (y z : Value) (c : Nat) : Prop := base ≤ c ∧ some c ≠ y.ownBlock ∧ some c ≠ z.ownBlock
/-- What the loop holds. -/
structure RSt (w : World) (D b base : Nat) (t0 t1 t2 t3 t4 : Value) (T : Ty) (y z : Value) (xs : List (Int × Ty)) (ts : List Ty) (v : World) : Prop where
  t : Box v D t0 t1 t2 t3 t4
  rep : Rep v (fun c => b < c ∧ c < D) T (.agg #[t0, t1, t2, t3, t4])
  tp : Tq v b
  low : Below w.heap.size w v
  ry : RowG AsE v base (SS base y z) y xs
  rz : RowG TyE v base (SS base y z) z ts
  ne : ∀ g, y.ownBlock = some g → z.ownBlock = some g → False
  lt1 : w.heap.size ≤ b
  lt2 : b < D
  lt3 : D < base
  size : base ≤ v.heap.size
section
variable {w v v' : World} {D b base : Nat} {t0 t1 t2 t3 t4 : Value} {T : Ty} {y z : Value} {xs : List (Int × Ty)} {ts : List Ty}
theorem RSt.call (h : RSt w D b base t0 t1 t2 t3 t4 T y z xs ts v) (ht : Tq v' b) (hg : v.grownBy v' (some b)) : RSt w D b base t0 t1 t2 t3 t4 T y z xs ts v' := by
  have h1 := h.lt1
  have h2 := h.lt2
  have h3 := h.lt3
  exact ⟨Box.grown h.t hg (by intro e; have := Option.some.inj e; omega), h.rep.kept (fun _ h => h) (fun c hc hlt => hg.block c hlt (by intro e; have := Option.some.inj e; omega)), ht, Below.grown h.low hg h.low.size (fun k hk => by cases hk; omega),
    h.ry.kept hg (h.ry.off (by omega)) (fun c hc e => by have := Option.some.inj e; have := hc.1; omega), h.rz.kept hg (h.rz.off (by omega)) (fun c hc e => by have := Option.some.inj e; have := hc.1; omega), h.ne, h1, h2, h3, Nat.le_trans h.size hg.size⟩
theorem RSt.lift (h : RSt w D b base t0 t1 t2 t3 t4 T y z xs ts v) (hb : Below v.heap.size v v') : RSt w D b base t0 t1 t2 t3 t4 T y z xs ts v' := h.call (h.tp.lift hb) (grown_of_below hb _)
end
/-- What it holds when the next type is made. -/
structure XSt (w : World) (D b base : Nat) (t0 t1 t2 t3 t4 : Value) (T : Ty) (n0 E : Nat) (x0 x1 x2 x3 x4 : Value) (X : Ty) (y z : Value) (xs : List (Int × Ty)) (ts : List Ty) (v : World) : Prop where
  r : RSt w D b base t0 t1 t2 t3 t4 T y z xs ts v
  xb : Box v E x0 x1 x2 x3 x4
  xr : Rep v (fun c => n0 ≤ c ∧ c < E) X (.agg #[x0, x1, x2, x3, x4])
  sy : ∀ g, y.ownBlock = some g → g < n0 ∨ E < g
  sz : ∀ g, z.ownBlock = some g → g < n0 ∨ E < g
  l0 : base ≤ n0
  l1 : n0 ≤ E
section
variable {w v v' : World} {D b base : Nat} {t0 t1 t2 t3 t4 : Value} {T : Ty} {n0 E : Nat} {x0 x1 x2 x3 x4 : Value} {X : Ty} {y z : Value} {xs : List (Int × Ty)} {ts : List Ty}
theorem XSt.lift (h : XSt w D b base t0 t1 t2 t3 t4 T n0 E x0 x1 x2 x3 x4 X y z xs ts v) (hb : Below v.heap.size v v') : XSt w D b base t0 t1 t2 t3 t4 T n0 E x0 x1 x2 x3 x4 X y z xs ts v' :=
  ⟨h.r.lift hb, Box.lift h.xb hb, h.xr.lift hb, h.sy, h.sz, h.l0, h.l1⟩
theorem XSt.cells (h : XSt w D b base t0 t1 t2 t3 t4 T n0 E x0 x1 x2 x3 x4 X y z xs ts v) : (v.cell? ⟨E, 0, none⟩ = some x0 ∧ v.cell? ⟨E, 1, none⟩ = some x1 ∧ v.cell? ⟨E, 2, none⟩ = some x2 ∧ v.cell? ⟨E, 3, none⟩ = some x3 ∧ v.cell? ⟨E, 4, none⟩ = some x4) := h.xb.cells
/-- The cells that are read. -/
theorem XSt.held (h : XSt w D b base t0 t1 t2 t3 t4 T n0 E x0 x1 x2 x3 x4 X y z xs ts v) {p : Addr} {u : Value} (hp : w.cell? p = some u) :
    v.cell? ⟨E, 0, none⟩ = some x0 ∧ v.cell? ⟨E, 1, none⟩ = some x1 ∧ v.cell? ⟨E, 2, none⟩ = some x2 ∧ v.cell? ⟨E, 3, none⟩ = some x3 ∧ v.cell? ⟨E, 4, none⟩ = some x4 ∧ v.cell? p = some u := by
  obtain ⟨h0, h1, h2, h3, h4⟩ := h.cells
  exact ⟨h0, h1, h2, h3, h4, (h.r.low.cell (World.block_lt_of_cell? _ _ hp)).trans hp⟩
/-- An assignment is appended. -/
theorem step_pushY (h : XSt w D b base t0 t1 t2 t3 t4 T n0 E x0 x1 x2 x3 x4 X y z xs ts v) (hb : Below v.heap.size v v') (i : Int)
    {ops : Array Oper} {o : Oper} {a : Act} {K : Act → World → Prop} {Q : Exit → Act → World → Prop} {E' : Prop} (hgd : o.guard = none) (s x : Operand)
    (ho : o.op = .call { callee := .builtin .append, args := #[s, x], argTypes := #[47, 47] })
    (hs : a.eval s = y) (B : Nat) (Z : TypeId) (hx : a.eval x = .slice (some ⟨B, 0, none⟩) 1 1) (hB : v'.heap[B]? = some (.cells #[.int .i64 i, x0, x1, x2, x3, x4] Z (0, 0)))
    (N : Nat) (hN : N = xs.length + 1) (hNb : N ≤ 1000000)
    (hK : ∀ (a' : Option Addr) (c' : Nat) (v3 : World), XSt w D b base t0 t1 t2 t3 t4 T n0 E x0 x1 x2 x3 x4 X (.slice a' N c') z (xs ++ [(i, X)]) ts v3 → (∀ n o, v.heap.size ≤ n → v'.heap[n]? = some o → v3.heap[n]? = some o) → K (a.put o.dst (.slice a' N c')) v3) :
    if Region.wanted o (yielded ops a.tmps) = true then Oper.wp Try.prog o a v' K Q else E' := by
  have h' := h.lift hb
  have hE := h.xb.lt
  have hlt := fun k e => RowG.lt h.r.ry k e
  have hlz := fun k e => RowG.lt h.r.rz k e
  have h1 := h.r.lt1
  have h2 := h.r.lt2
  have h3 := h.r.lt3
  have hl0 := h.l0
  have hl1 := h.l1
  have hsb := hb.size
  have hrepX : AsE.rep v' (fun c => SS base y z c ∧ some c ≠ y.ownBlock) (i, X) [.int .i64 i, x0, x1, x2, x3, x4] := ⟨[x0, x1, x2, x3, x4], rfl, h'.xr.imp fun c hc => by
    have ny : some c ≠ y.ownBlock := fun e => by have := h.sy c e.symm; omega
    have nz : some c ≠ z.ownBlock := fun e => by have := h.sz c e.symm; omega
    exact ⟨⟨by omega, ny, nz⟩, ny⟩⟩
  refine step_pushH AsE hgd s x ho base (SS base y z) y xs hs h'.r.ry B Z [.int .i64 i, x0, x1, x2, x3, x4] hB hx (i, X) hrepX N hN hNb h'.r.size ?_
  intro a' c' v3 hrow hg hloc
  have hny : ∀ g, (Value.slice a' N c').ownBlock = some g → g < n0 ∨ E < g := fun g e => by
    rcases hloc with e' | e'
    · exact h.sy g (by rw [← e', e])
    · rw [e'] at e; cases e; omega
  refine hK a' c' v3 ⟨⟨Box.grown h'.r.t hg (fun e => by have := (hlt _ e.symm).1; omega), h'.r.rep.kept (fun _ h => h) (fun c hc hl => hg.block c hl (fun e => by have := (hlt _ e.symm).1; omega)), ?_, Below.grown h'.r.low hg h'.r.low.size (fun k hk => by have := (hlt k hk).1; omega),
    hrow.weaken (fun c hc hl hne => ⟨hc.1, hne, hc.2.2⟩), ?_, ?_, h1, h2, h3, Nat.le_trans h'.r.size hg.size⟩, Box.grown h'.xb hg (fun e => by have := h.sy _ e.symm; omega), h'.xr.kept (fun _ h => h) (fun c hc hl => hg.block c hl (fun e => by have := h.sy _ e.symm; omega)), hny, h.sz, hl0, hl1⟩ ?_
  · cases hv : y.ownBlock with
    | none => rw [hv] at hg; exact h'.r.tp.lift ⟨hg.os, hg.tape, hg.output, hg.size, fun i hi => hg.block i hi (by simp)⟩
    | some R => rw [hv] at hg; exact h'.r.tp.other (by have := (hlt R hv).1; omega) hg
  · refine RowG.weaken (RowG.kept (RowG.weaken (S' := fun c => SS base y z c ∧ c < v'.heap.size) h'.r.rz (fun c hc hl _ => ⟨hc, hl⟩)) hg ?_ (fun c hc => hc.1.2.1)) (fun c hc _ _ => ⟨hc.1.1, fun e => ?_, hc.1.2.2⟩)
    · cases hz : z.ownBlock with
      | none => exact .inl rfl
      | some g => exact .inr (fun e => h.r.ne g e.symm hz)
    · rcases hloc with e' | e'
      · rw [e'] at e; exact hc.1.2.1 e
      · rw [e'] at e; have := Option.some.inj e; omega
  · intro g e1 e2
    rcases hloc with e' | e'
    · exact h.r.ne g (by rw [← e', e1]) e2
    · rw [e'] at e1; cases e1; have := (hlz _ e2).2; omega
  · intro n ob hn hob
    have hnl : n < v'.heap.size := (Array.getElem?_eq_some_iff.1 hob).1
    exact (hg.block n hnl (fun e => by have := (hlt _ e.symm).2; omega)).trans hob
/-- A type is appended. -/
theorem step_pushZ (h : XSt w D b base t0 t1 t2 t3 t4 T n0 E x0 x1 x2 x3 x4 X y z xs ts v) (hb : Below v.heap.size v v')
    {ops : Array Oper} {o : Oper} {a : Act} {K : Act → World → Prop} {Q : Exit → Act → World → Prop} {E' : Prop} (hgd : o.guard = none) (s x : Operand)
    (ho : o.op = .call { callee := .builtin .append, args := #[s, x], argTypes := #[22, 22] })
    (hs : a.eval s = z) (B : Nat) (Z : TypeId) (hx : a.eval x = .slice (some ⟨B, 0, none⟩) 1 1) (hB : v'.heap[B]? = some (.cells #[x0, x1, x2, x3, x4] Z (0, 0)))
    (N : Nat) (hN : N = ts.length + 1) (hNb : N ≤ 1000000)
    (hK : ∀ (a' : Option Addr) (c' : Nat) (v3 : World), XSt w D b base t0 t1 t2 t3 t4 T n0 E x0 x1 x2 x3 x4 X y (.slice a' N c') xs (ts ++ [X]) v3 → K (a.put o.dst (.slice a' N c')) v3) :
    if Region.wanted o (yielded ops a.tmps) = true then Oper.wp Try.prog o a v' K Q else E' := by
  have h' := h.lift hb
  have hE := h.xb.lt
  have hlt := fun k e => RowG.lt h.r.rz k e
  have hly := fun k e => RowG.lt h.r.ry k e
  have h1 := h.r.lt1
  have h2 := h.r.lt2
  have h3 := h.r.lt3
  have hl0 := h.l0
  have hl1 := h.l1
  have hsb := hb.size
  have hrepX : TyE.rep v' (fun c => SS base y z c ∧ some c ≠ z.ownBlock) X [x0, x1, x2, x3, x4] := h'.xr.imp fun c hc => by
    have ny : some c ≠ y.ownBlock := fun e => by have := h.sy c e.symm; omega
    have nz : some c ≠ z.ownBlock := fun e => by have := h.sz c e.symm; omega
    exact ⟨⟨by omega, ny, nz⟩, nz⟩
  refine step_pushH TyE hgd s x ho base (SS base y z) z ts hs h'.r.rz B Z [x0, x1, x2, x3, x4] hB hx X hrepX N hN hNb h'.r.size ?_
  intro a' c' v3 hrow hg hloc
  have hnz : ∀ g, (Value.slice a' N c').ownBlock = some g → g < n0 ∨ E < g := fun g e => by
    rcases hloc with e' | e'
    · exact h.sz g (by rw [← e', e])
    · rw [e'] at e; cases e; omega
  refine hK a' c' v3 ⟨⟨Box.grown h'.r.t hg (fun e => by have := (hlt _ e.symm).1; omega), h'.r.rep.kept (fun _ h => h) (fun c hc hl => hg.block c hl (fun e => by have := (hlt _ e.symm).1; omega)), ?_, Below.grown h'.r.low hg h'.r.low.size (fun k hk => by have := (hlt k hk).1; omega),
    ?_, hrow.weaken (fun c hc hl hne => ⟨hc.1, hc.2.1, hne⟩), ?_, h1, h2, h3, Nat.le_trans h'.r.size hg.size⟩, Box.grown h'.xb hg (fun e => by have := h.sz _ e.symm; omega), h'.xr.kept (fun _ h => h) (fun c hc hl => hg.block c hl (fun e => by have := h.sz _ e.symm; omega)), h.sy, hnz, hl0, hl1⟩
  · cases hv : z.ownBlock with
    | none => rw [hv] at hg; exact h'.r.tp.lift ⟨hg.os, hg.tape, hg.output, hg.size, fun i hi => hg.block i hi (by simp)⟩
    | some R => rw [hv] at hg; exact h'.r.tp.other (by have := (hlt R hv).1; omega) hg
  · refine RowG.weaken (RowG.kept (RowG.weaken (S' := fun c => SS base y z c ∧ c < v'.heap.size) h'.r.ry (fun c hc hl _ => ⟨hc, hl⟩)) hg ?_ (fun c hc => hc.1.2.2)) (fun c hc _ _ => ⟨hc.1.1, hc.1.2.1, fun e => ?_⟩)
    · cases hy : y.ownBlock with
      | none => exact .inl rfl
      | some g => exact .inr (fun e => h.r.ne g hy e.symm)
    · rcases hloc with e' | e'
      · rw [e'] at e; exact hc.1.2.2 e
      · rw [e'] at e; have := Option.some.inj e; omega
  · intro g e1 e2
    rcases hloc with e' | e'
    · exact h.r.ne g e1 (by rw [← e', e2])
    · rw [e'] at e2; cases e2; have := (hly _ e1).2; omega
end

theorem enterMod (v u : Value) (w : World) : (callFunc 12 #[v, u]).run Try.prog w = .ok (.enter 12 #[v, u]) w := by kernel_rfl
/-- A call of a function that only computes, at a step of a region that draws its order. -/
theorem step_call2s {P : Program} {ops : Array Oper} {a : Act} {w : World} {K : Act → World → Prop} {Q : Exit → Act → World → Prop} {E' : Prop} {dst : Option Tmp} {x y : Operand} {T : Array TypeId} {ty : TypeId} {pos : String} {after : Array Edge}
    (n : FuncId) (hn : ∀ v u w, (callFunc n #[v, u]).run P w = .ok (.enter n #[v, u]) w) (v u r : Value)
    (hx : a.eval x = v) (hy : a.eval y = u) (hC : ∀ W, Calls P n #[v, u] W fun e W' => ∃ u', e = .returned u' ∧ (u' = r ∧ W' = W)) (hK : K (a.put dst r) w) :
    if Region.wanted { dst, op := .call { callee := .value (.func n), args := #[x, y], argTypes := T }, type := ty, pos, after, guard := none } (yielded ops a.tmps) = true then Oper.wp P { dst, op := .call { callee := .value (.func n), args := #[x, y], argTypes := T }, type := ty, pos, after, guard := none } a w K Q else E' :=
  step_call2 n hn v u (fun u' W' => u' = r ∧ W' = w) hx hy (hC w) (fun _ _ ⟨h1, h2⟩ => by subst h1 h2; exact hK)
/-- What one round leaves. -/
def RNext (w : World) (D b : Nat) (t0 t1 t2 t3 t4 : Value) (T : Ty) (j : Nat) (y z : Value) (v : World) : Prop :=
  ∃ (a a' : Option Addr) (c c' : Nat) (xs : List (Int × Ty)), y = .slice a j c ∧ z = .slice a' j c' ∧ xs.length = j ∧ (∀ p ∈ xs, Ok 2 p.2) ∧ RSt w D b (D + 1) t0 t1 t2 t3 t4 T y z xs (xs.map (·.2)) v
theorem repl_nil : ∀ T : Ty, repl [] T = T := by
  refine Ty.induct (p := fun T => repl [] T = T) fun T ih => ?_
  cases T with
  | mk k n i h ts =>
    have hl : replL [] ts = ts := by
      rw [replL_map]
      have : ∀ l : List Ty, (∀ U ∈ l, repl [] U = U) → l.map (repl []) = l := by
        intro l
        induction l with
        | nil => intro _; rfl
        | cons x l ihl => intro hl; rw [List.map_cons, hl x (by simp), ihl fun U hU => hl U (by simp [hU])]
      exact this ts ih
    unfold repl
    rw [hl]
    by_cases hk : k = 1
    · rw [if_pos hk]; rfl
    · rw [if_neg hk]
theorem teq_same (T : Ty) : teq T T = true := by
  refine Ty.induct (p := fun T => teq T T = true) (fun T ih => ?_) T
  cases T with
  | mk k n i h ts =>
    have : teqL ts ts = true := by
      have key : ∀ l : List Ty, (∀ U ∈ l, teq U U = true) → teqL l l = true := by
        intro l
        induction l with
        | nil => intro _; rfl
        | cons x l ihl => intro hl; simp [teqL, hl x (by simp), ihl fun U hU => hl U (by simp [hU])]
      exact key ts ih
    simp [teq, this]
theorem keep5 {W w1 w2 : World} {A : Nat} {a0 a1 a2 a3 a4 : Value} (h0 : w1.cell? ⟨A, 0, none⟩ = some a0) (h1 : w1.cell? ⟨A, 1, none⟩ = some a1) (h2 : w1.cell? ⟨A, 2, none⟩ = some a2) (h3 : w1.cell? ⟨A, 3, none⟩ = some a3) (h4 : w1.cell? ⟨A, 4, none⟩ = some a4) (hW : Below W.heap.size W w1) (hb : Below w1.heap.size w1 w2) :
    w2.cell? ⟨A, 0, none⟩ = some a0 ∧ w2.cell? ⟨A, 1, none⟩ = some a1 ∧ w2.cell? ⟨A, 2, none⟩ = some a2 ∧ w2.cell? ⟨A, 3, none⟩ = some a3 ∧ w2.cell? ⟨A, 4, none⟩ = some a4 ∧ Below W.heap.size W w2 := by
  have k : ∀ p v, w1.cell? p = some v → w2.cell? p = some v := fun p v h => (hb.cell (World.block_lt_of_cell? _ _ h)).trans h
  exact ⟨k _ _ h0, k _ _ h1, k _ _ h2, k _ _ h3, k _ _ h4, hW.trans (hb.mono hW.size)⟩
set_option maxRecDepth 100000 in
set_option maxHeartbeats 20000000 in
theorem typesReplaced_any (bits : Int) (cv : Value) (zs : List Int) (dv : Value) (ids : List Int) (w : World) (hz : Ints w cv zs) (hd : Ints w dv ids) :
    Calls Try.prog 6 #[.int .i64 bits, cv, dv] w fun e w' => e = .returned (.bool true) ∧ Below w.heap.size w w' := by
  have HZ := Lib.hid hz
  have HI := Lib.hid hd
  obtain ⟨ca, cc, rfl, -, -, -⟩ := hz
  obtain ⟨ia, ic, rfl, -, -, hci⟩ := hd
  have HCi := Lib.hid hci
  have HFi := Lib.hid (fun w => lawFirst_any w)
  have HFw : Hid (∀ w', Below w.heap.size w w' → Calls Try.prog 10 #[.slice ca zs.length cc] w' fun e w'' => e = .returned (.bool (decide (zs.length ≤ 60))) ∧ w' = w'') := fun w' hb => few_any _ zs w' (HZ.out.lift hb)
  have HMd : Hid (zs.length ≤ 60 → ∀ w', Below w.heap.size w w' → Calls Try.prog 11 #[.int .i64 bits, .slice ca zs.length cc] w' fun e w'' => ∃ (b : Nat) (T : Ty) (u : Value), e = .returned (.tuple #[u, .pointer (some ⟨b, 0, none⟩)]) ∧ w'.heap.size ≤ b ∧ Rep w'' (fun c => b < c) T u ∧ Ok 4 T ∧ Tq w'' b ∧ Below w'.heap.size w' w'') := fun h w' hb => made_any bits _ zs w' (by omega) (HZ.out.lift hb)
  clear hci
  generalize zs.length = zn at *
  obtain ⟨m, hm⟩ : ∃ m, m = ids.length := ⟨_, rfl⟩
  rw [← hm]
  have HM := Lib.hid hm
  clear hm
  cases hfw : decide (zn ≤ 60) <;> cases hln : decide ((6 : Int) < (m : Int))
  all_goals
    rw [hfw] at HFw
    have HFwp := Lib.hid hfw
    clear hfw
    go_enter Try.func6, Try.ntmps6
    go_wp2_with fail
    go_at_call 8
    refine (HFi.out _).mono ?_
    rintro e w1 ⟨rfl, hb1⟩
    go_wp2_with (go_at_call 10; refine (HFw.out _ hb1).mono ?_; rintro e w3 ⟨rfl, rfl⟩)
  any_goals (go_ret; exact ⟨rfl, hb1⟩)
  have hm6 : m ≤ 6 := by have := of_decide_eq_false hln; omega
  refine (HMd.out (of_decide_eq_true HFwp.out) _ hb1).mono ?_
  rintro e w4 ⟨b, T, u, rfl, hb, hrep, hok, htq, hb4⟩
  have HRep4 := Lib.hid hrep.bound
  have HOk := Lib.hid hok
  have HTq4 := Lib.hid htq
  have hbw : w.heap.size ≤ b := Nat.le_trans hb1.size hb
  have hbD : b < w4.heap.size := htq.lt
  have HLow4 := Lib.hid (hb1.trans (hb4.mono hb1.size))
  obtain ⟨uk, un, ui, uh, ua, um, uc, rfl⟩ := hrep.form
  have HBM : Hid (∀ w : World, Zero (w.alloc (.cells #[.int .i64 0, .string ⟨#[]⟩, .int .i64 0, .int .i64 0, .slice none 0 0] 24)) w.heap.size) := fun w => Box.made _ _ _ _ _ _
  have HAl : Hid (∀ w : World, Below w.heap.size w (w.alloc (.cells #[.int .i64 0, .string ⟨#[]⟩, .int .i64 0, .int .i64 0, .slice none 0 0] 24))) := fun w => (Below.refl _ w).alloc (Nat.le_refl _) _
  clear hrep hok htq hb4 hb hb1 HMd HFw HFi hln
  go_upto_region 6 with (refine wpList_store5 rfl _ _ rfl _ _ _ _ _ _ (HBM.out _) rfl _ _ _ _ _ _ _ rfl ?_; intro w5 hB5 hg5 hs5)
  have h45 : w5.heap.size = w4.heap.size + 1 := by rw [hs5]; simp
  have HR5 : Hid (RSt w w4.heap.size b (w4.heap.size + 1) (.int .i64 uk) (.string un) (.int .i64 ui) (.int .i64 uh) (.slice ua um uc) T (.slice none 0 0) (.slice none 0 0) [] [] w5) :=
    ⟨hB5, (HRep4.out.lift (HAl.out w4)).kept (fun _ h => h) (fun c hc hlt => hg5.block c hlt (by intro e; have := Option.some.inj e; have := hc.2; omega)), (HTq4.out.lift (HAl.out w4)).other hbD hg5, Below.grown (HLow4.out.trans ((HAl.out w4).mono HLow4.out.size)) hg5 (Nat.le_trans HLow4.out.size (HAl.out w4).size) (fun k hk => by cases hk; omega), rowG_nil _ _ _ _, rowG_nil _ _ _ _, fun g h => by simp [Value.ownBlock] at h, hbw, hbD, Nat.lt_succ_self _, by omega⟩
  generalize w4.heap.size = D at *
  clear hB5 hg5 hs5 h45 HRep4 HTq4 HLow4
  have HDt := Lib.hid (fun w => datas_any bits w)
  have HLv := Lib.hid (fun w => mkLeaves_any w)
  have HMk := Lib.hid (mkType_any 2)
  have HMod : Hid (∀ z W, Calls Try.prog 12 #[.int .i64 z, .int .i64 5] W fun e W' => ∃ u, e = .returned u ∧ (u = .int .i64 (z % 5) ∧ W' = W)) := fun z W => (mod_any z 5 W (by decide) (by decide)).mono fun e W' ⟨h1, h2⟩ => ⟨_, h1, rfl, h2.symm⟩
  go_wp2
  go_loopg [9, 10, 11] m (fun k y z x wr => ∃ (j : Nat), j + k = m ∧ x = .int .i64 j ∧ Hid (RNext w D b (.int .i64 uk) (.string un) (.int .i64 ui) (.int .i64 uh) (.slice ua um uc) T j y z wr))
  case atStart => exact ⟨0, by omega, rfl, none, none, 0, 0, [], rfl, rfl, rfl, fun p hp => by simp at hp, HR5.out⟩
  case round =>
    obtain ⟨j, hj, rfl, HR⟩ := hrel
    clear HR5
    by_cases hlt : j < m
    · obtain ⟨g', rfl⟩ : ∃ g', gk = g' + 1 := ⟨gk - 1, by omega⟩
      obtain ⟨ya, za, yc, zc, xs, rfl, rfl, hxl, hxo, hR⟩ := HR.out
      have HXl := Lib.hid hxl
      have HXo := Lib.hid hxo
      have HRr := Lib.hid hR
      clear hxl hxo hR HR
      have hji : (j : Int) < (m : Int) := by omega
      go_wp2_with fail
      go_at_call 18
      refine (HDt.out _).mono ?_
      rintro e w6 ⟨ds, dv, rfl, hds, hsd, hb6⟩
      have HR6 := Lib.hid (HRr.out.lift hb6)
      have HSd := Lib.hid hsd
      have HDs := Lib.hid hds
      have hr6 := hb6.size
      have hrs := HRr.out.size
      obtain ⟨da, dc, rfl⟩ := slG_form hsd
      have hyl : ∀ g, (Value.slice ya j yc).ownBlock = some g → g < wr.heap.size := fun g e => (RowG.lt HRr.out.ry g e).2
      have hzl : ∀ g, (Value.slice za j zc).ownBlock = some g → g < wr.heap.size := fun g e => (RowG.lt HRr.out.rz g e).2
      have HYl := Lib.hid hyl
      have HZl := Lib.hid hzl
      clear hsd hds hb6 HRr hyl hzl
      generalize ds.length = dn at *
      go_wp2_with fail
      go_at_call 14
      refine (HLv.out _).mono ?_
      rintro e w7 ⟨lv, rfl, hrow, hb7⟩
      have HR7 := Lib.hid (HR6.out.lift hb7)
      have h67 := hb7.size
      have HSd7 : Hid (SlG DatE w7 (fun c => b < c) ds (.slice da dn dc)) := SlG.kept (fun c hc => by omega) (fun c _ hlt => hb7.block c hlt) HSd.out
      have HL7 : Hid (SlG TyE w7 (fun c => b < c) leavesL lv) := RowG.slG hrow (fun c hc => by omega) (fun c hc => by omega)
      clear hrow hb7 HSd HR6
      go_wp2_with fail
      go_at_call 13
      refine (HMk.out 2 ds _ leavesL lv (fun c => b < c) b w7.heap.size w7 rfl (by decide) HDs.out leavesL_ok HSd7.out HL7.out (fun c hc => Nat.ne_of_gt hc) HR7.out.tp (Nat.le_refl _)).mono ?_
      rintro e w8 ⟨x, rfl, X, hrep, hok, htq, hg8⟩
      have HR8 := Lib.hid (HR7.out.call htq hg8)
      have HX8 := Lib.hid hrep.bound
      have HOkX := Lib.hid hok
      have h78 := hg8.size
      obtain ⟨xk, xn, xi, xh, xa, xm, xc, rfl⟩ := hrep.form
      clear hrep hok htq hg8 HR7 HSd7 HL7 HDs
      go_upto_region 12 with (refine wpList_store5 rfl _ _ rfl _ _ _ _ _ _ (HBM.out _) rfl _ _ _ _ _ _ _ rfl ?_; intro w9 hB9 hg9 hs9)
      have hb9 : Below w8.heap.size w8 w9 := Below.grown (HAl.out w8) hg9 (HAl.out w8).size (fun k hk => by cases hk; exact Nat.le_refl _)
      have HX9 : Hid (XSt w D b (D + 1) (.int .i64 uk) (.string un) (.int .i64 ui) (.int .i64 uh) (.slice ua um uc) T w7.heap.size w8.heap.size (.int .i64 xk) (.string xn) (.int .i64 xi) (.int .i64 xh) (.slice xa xm xc) X (.slice ya j yc) (.slice za j zc) xs (xs.map (·.2)) w9) :=
        ⟨HR8.out.lift hb9, hB9, (HX8.out.lift hb9), fun g e => .inl (by have := HYl.out g e; omega), fun g e => .inl (by have := HZl.out g e; omega), by omega, h78⟩
      generalize w7.heap.size = n0 at *
      generalize w8.heap.size = E at *
      obtain ⟨z, hz⟩ : ∃ x, ids[j]? = some x := ⟨_, List.getElem?_eq_getElem (by rw [← HM.out]; exact hlt)⟩
      obtain ⟨iad, rfl, hzc⟩ := HCi.out j z hz
      have HA0 : Hid (Below w9.heap.size w9 w9.drew) := (Below.refl _ _).drew
      have HA1 : Hid (∀ A, Below w9.heap.size w9 (w9.alloc A).drew) := fun A => ((Below.refl _ _).alloc (Nat.le_refl _) A).drew
      have HA2 : Hid (∀ A B, Below w9.heap.size w9 ((w9.alloc A).alloc B).drew) := fun A B => (((Below.refl _ _).alloc (Nat.le_refl _) A).alloc (by simp) B).drew
      have hj6 : j + 1 ≤ 1000000 := by omega
      have HXm : Hid (j + 1 = (xs.map (·.2)).length + 1) := by show _ = _; rw [List.length_map, HXl.out]
      have HZc := Lib.hid hzc
      have hji2 : (0 : Int) ≤ (j : Int) := by omega
      clear hz hzc hB9 hg9 hs9 hb9 HR8 HX8 HYl HZl h67 h78 hr6 hrs
      have HN1 := Lib.hid (fun A => new1 w9 A)
      have HN2 := Lib.hid (fun A B => new2 w9 A B)
      have HN3 := Lib.hid (fun A B => new3 w9 A B)
      go_region_held3 (fun w' => w'.cell? ⟨E, 0, none⟩ = some (.int .i64 xk) ∧ w'.cell? ⟨E, 1, none⟩ = some (.string xn) ∧ w'.cell? ⟨E, 2, none⟩ = some (.int .i64 xi) ∧ w'.cell? ⟨E, 3, none⟩ = some (.int .i64 xh) ∧ w'.cell? ⟨E, 4, none⟩ = some (.slice xa xm xc) ∧ w'.cell? (iad.add j) = some (.int .i64 z))
        (first
          | assumption
          | exact HX4.out.held HZc.out
          | exact HX3.out.held HZc.out
          | exact (HX3.out.lift ((Below.refl _ v3).alloc (Nat.le_refl _) _)).held HZc.out
          | exact (HX9.out.lift HA0.out).held HZc.out
          | exact (HX9.out.lift (HA1.out _)).held HZc.out
          | exact (HX9.out.lift (HA2.out _ _)).held HZc.out)
        (first
          | ((with_reducible refine step_call2s 12 enterMod (.int .i64 z) (.int .i64 5) (.int .i64 (z % 5)) ?_ ?_ ?_ ?_); (rfl); (rfl); (exact HMod.out z))
          | ((refine step_pushY HX9.out (by first | exact HA1.out _ | exact HA2.out _ _) (z % 5) (by rfl) _ _ (by rfl) (by rfl) _ _ (by rfl) (by first | exact HN1.out _ | exact HN2.out _ _ | exact HN3.out _ _) (j + 1) (by rw [HXl.out]) hj6 ?_); (intro a' c' v3 hX3 hk3); (have HX3 := Lib.hid hX3); (have HK3 := Lib.hid hk3); clear hX3 hk3)
          | ((refine step_pushZ HX3.out (by first | exact Below.refl _ _ | exact (Below.refl _ v3).alloc (Nat.le_refl _) _) (by rfl) _ _ (by rfl) (by rfl) _ _ (by rfl) (by first | exact new1 v3 _ | exact HK3.out _ _ (Nat.le_refl _) (HN3.out _ _) | exact HK3.out _ _ (Nat.le_succ _) (HN2.out _ _)) (j + 1) HXm.out hj6 ?_); (intro a2 c2 v4 hX4); (have HX4 := Lib.hid hX4); clear hX4))
      all_goals
        have HNx : Hid (RNext w D b (.int .i64 uk) (.string un) (.int .i64 ui) (.int .i64 uh) (.slice ua um uc) T (j + 1) (.slice a' (j + 1) c') (.slice a2 (j + 1) c2) v4) := ⟨_, _, _, _, xs ++ [(z % 5, X)], rfl, rfl, by simp [HXl.out], fun p hp => by
            rcases List.mem_append.1 hp with h | h
            · exact HXo.out p h
            · simp at h; subst h; exact HOkX.out, by rw [List.map_append]; exact HX4.out.r⟩
        clear HX3 HK3 HX4 HN1 HN2 HN3 HX9 HA1 HA2 HA0 HZc
        go_wp2
        go_roundg g'
        case measure => omega
        case rel => exact ⟨j + 1, by omega, by go_num, HNx⟩
    · obtain rfl : gk = 0 := by omega
      obtain rfl : j = m := by omega
      obtain ⟨ya, za, yc, zc, xs, rfl, rfl, hxl, hxo, hR⟩ := HR.out
      have hsy := hR.ry.slG (S' := fun c => D < c) (fun c hc => by have := hc.1; omega) (fun c hc => by omega)
      have hsz := hR.rz.slG (S' := fun c => D < c) (fun c hc => by have := hc.1; omega) (fun c hc => by omega)
      have HAs := Lib.hid (slG_asL hsy.bound)
      have HGs := Lib.hid (slG_repL hsz.bound)
      have HTr := Lib.hid (hR.rep.imp (S' := fun _ => True) fun _ _ => trivial)
      have HN : Hid (nodes T ≤ 1000000) := by have h1 := HOk.out.2; have : capN 4 = 31 := rfl; show _ ≤ _; omega
      have HLow := Lib.hid hR.low
      obtain ⟨t0, t1, t2, t3, t4⟩ := hR.t.cells
      have HC1 : Hid (∀ W', Below wr.heap.size wr W' → Calls Try.prog 32 #[.agg #[.int .i64 uk, .string un, .int .i64 ui, .int .i64 uh, .slice ua um uc], .slice ya j yc] W' fun e W'' => ∃ u, e = .returned u ∧ Rep W'' (fun _ => True) (repl xs T) u ∧ Below W'.heap.size W' W'') := fun W' hb => repl_any xs T _ _ _ _ W' HN.out (HAs.out.lift hb) (fun c hc => ⟨trivial, Nat.lt_of_lt_of_le hc.2 hb.size⟩) (fun _ _ => trivial) (HTr.out.lift hb)
      have HC2 : Hid (∀ W', Below wr.heap.size wr W' → Calls Try.prog 33 #[.agg #[.int .i64 uk, .string un, .int .i64 ui, .int .i64 uh, .slice ua um uc], .slice ya j yc] W' fun e W'' => ∃ u, e = .returned u ∧ Rep W'' (fun _ => True) (repl xs T) u ∧ Below W'.heap.size W' W'') := fun W' hb => refRepl_any xs T _ _ _ _ W' HN.out (HAs.out.lift hb) (fun c hc => ⟨trivial, Nat.lt_of_lt_of_le hc.2 hb.size⟩) (fun _ _ => trivial) (HTr.out.lift hb)
      have HC3 : Hid (∀ W', Below wr.heap.size wr W' → Calls Try.prog 34 #[.agg #[.int .i64 uk, .string un, .int .i64 ui, .int .i64 uh, .slice ua um uc], .slice za j zc] W' fun e W'' => ∃ u, e = .returned u ∧ Rep W'' (fun _ => True) (opn (xs.map (·.2)) T) u ∧ Below W'.heap.size W' W'') := fun W' hb => open_any _ T _ _ _ _ W' HN.out (HGs.out.lift hb) (fun c hc => ⟨trivial, Nat.lt_of_lt_of_le hc.2 hb.size⟩) (fun _ _ => trivial) (HTr.out.lift hb)
      have HC4 : Hid (∀ W', Below wr.heap.size wr W' → Calls Try.prog 35 #[.agg #[.int .i64 uk, .string un, .int .i64 ui, .int .i64 uh, .slice ua um uc], .slice za j zc] W' fun e W'' => ∃ u, e = .returned u ∧ Rep W'' (fun _ => True) (opn (xs.map (·.2)) T) u ∧ Below W'.heap.size W' W'') := fun W' hb => refOpen_any _ T _ _ _ _ W' HN.out (HGs.out.lift hb) (fun c hc => ⟨trivial, Nat.lt_of_lt_of_le hc.2 hb.size⟩) (fun _ _ => trivial) (HTr.out.lift hb)
      have HC5 : Hid (∀ W', Below wr.heap.size wr W' → Calls Try.prog 32 #[.agg #[.int .i64 uk, .string un, .int .i64 ui, .int .i64 uh, .slice ua um uc], .slice none 0 0] W' fun e W'' => ∃ u, e = .returned u ∧ Rep W'' (fun _ => True) T u ∧ Below W'.heap.size W' W'') := fun W' hb => by
        have := repl_any [] T _ _ _ (fun _ => False) W' HN.out (asL_nil _ _) (fun c hc => hc.elim) (fun _ _ => trivial) (HTr.out.lift hb)
        rwa [repl_nil] at this
      have HEq : Hid (∀ (X : Ty) (v u : Value) (W' : World), Rep W' (fun _ => True) X v → Rep W' (fun _ => True) X u → Calls Try.prog 20 #[v, u] W' fun e W'' => e = .returned (.bool true) ∧ Below W'.heap.size W' W'') := fun X v u W' h1 h2 => by
        have := refEqual_any _ X (Nat.le_refl _) X v u _ _ W' h1 h2
        rwa [teq_same] at this
      clear hxl hxo hR hsy hsz HAs HGs HN HR HMod HMk HLv HDt HBM HAl HOk
      go_wp2_with fail
      go_region_held3 (fun w' => w'.cell? ⟨D, 0, none⟩ = some (.int .i64 uk) ∧ w'.cell? ⟨D, 1, none⟩ = some (.string un) ∧ w'.cell? ⟨D, 2, none⟩ = some (.int .i64 ui) ∧ w'.cell? ⟨D, 3, none⟩ = some (.int .i64 uh) ∧ w'.cell? ⟨D, 4, none⟩ = some (.slice ua um uc) ∧ Below wr.heap.size wr w')
        (first
          | (go_split_ands; exact keep5 (by assumption) (by assumption) (by assumption) (by assumption) (by assumption) (by assumption) hb)
          | exact ⟨t0, t1, t2, t3, t4, (Below.refl _ wr).drew⟩)
        (first
          | (go_at_call 32; (with_reducible refine (HC1.out _ ?_).mono ?_); (go_split_ands; assumption); rintro e w' ⟨p1, rfl, hp, hb⟩; have HP1 := Lib.hid hp; clear hp)
          | (go_at_call 33; (with_reducible refine (HC2.out _ ?_).mono ?_); (go_split_ands; assumption); rintro e w' ⟨p2, rfl, hp, hb⟩; have HP1b := Lib.hid (HP1.out.lift hb); have HP2 := Lib.hid hp; clear hp)
          | (go_at_call 20; (with_reducible refine (HEq.out _ p1 p2 _ HP1b.out HP2.out).mono ?_); rintro e w' ⟨rfl, hb⟩)
          | (go_at_call 34; (with_reducible refine (HC3.out _ ?_).mono ?_); (go_split_ands; assumption); rintro e w' ⟨p3, rfl, hp, hb⟩; have HP3 := Lib.hid hp; clear hp)
          | (go_at_call 35; (with_reducible refine (HC4.out _ ?_).mono ?_); (go_split_ands; assumption); rintro e w' ⟨p4, rfl, hp, hb⟩; have HP3b := Lib.hid (HP3.out.lift hb); have HP4 := Lib.hid hp; clear hp)
          | (go_at_call 20; (with_reducible refine (HEq.out _ p3 p4 _ HP3b.out HP4.out).mono ?_); rintro e w' ⟨rfl, hb⟩)
          | (go_at_call 32; (with_reducible refine (HC5.out _ ?_).mono ?_); (go_split_ands; assumption); rintro e w' ⟨p5, rfl, hp, hb⟩; have HP5 := Lib.hid hp; clear hp)
          | (go_at_call 20; (with_reducible refine (HEq.out _ p5 _ _ HP5.out ?_).mono ?_); (go_split_ands; exact HTr.out.lift (by assumption)); rintro e w' ⟨rfl, hb⟩))
      all_goals
        go_split_ands
        have hbF : Below wr.heap.size wr w' := by assumption
        go_wp2
        go_ret
        exact ⟨rfl, HLow.out.trans (hbF.mono HLow.out.size)⟩
end Go.Proofs.Ytodbmgmjnenlpaa
