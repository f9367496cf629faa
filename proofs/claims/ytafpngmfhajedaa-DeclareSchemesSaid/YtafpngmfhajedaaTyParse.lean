/- The contracts of the reader's New and of the reference's Parse, of a text of data declarations. -/
import Derived.Test.YtafpngmfhajedaaTyDecl
import Derived.Test.YtafpngmfhajedaaTyDeep
namespace Go.Proofs.Ytafpngmfhajedaa
open Go.RowKit Go.Sort Go.Shelf Go.Maps Mth

theorem refNew_any (g : Option Addr) (n cap : Nat) (w : World) : Calls Try.prog 88 #[.slice g n cap, .int .i64 0] w fun e w' => e = .returned (.pointer (some ⟨w.heap.size, 0, none⟩)) ∧ Rd w' w.heap.size (.slice g n cap) 0 ∧ Below w.heap.size w w' := by
  have hn : ¬ ((n : Int) < 0) := by omega
  have HA : Hid (∀ X, (w.alloc (.cells X 132)).heap[w.heap.size]? = some (.cells X 132 (0, 0))) := fun X => heap_alloc_new w _
  go_enter Try.func88, Try.ntmps88
  go_wp2
  go_ret
  exact ⟨rfl, HA.out _, (Below.refl _ w).alloc (Nat.le_refl _) _⟩

/-- The reader is as it was where another block was written, that holds a slice. -/
theorem RdT.apart {v v' : World} {b D q : Nat} {ts : List Tok} {sa : Option Addr} {sn sc : Nat} (h : RdT v b ts q) (hne : ts ≠ []) (hD : v.cell? ⟨D, 0, none⟩ = some (.slice sa sn sc)) (hb : D ≠ b) (hg : v.grownBy v' (some D)) : RdT v' b ts q := by
  obtain ⟨lv, hr, ⟨g, cap, hv, hgb, hc⟩, h3⟩ := h
  have hgD : g ≠ D := by
    intro e
    subst e
    cases ts with
    | nil => exact hne rfl
    | cons t _ =>
      have := (hc 0 t rfl).1
      rw [Nat.zero_mul, hD] at this
      cases this
  refine ⟨lv, ?_, ⟨g, cap, hv, hgb, fun j t ht => ?_⟩, h3⟩
  · unfold Rd at *
    rw [hg.block b (Array.getElem?_eq_some_iff.1 hr).1 (fun e => hb (Option.some.inj e).symm), hr]
  · obtain ⟨h1, h2, h3⟩ := hc j t ht
    have k : ∀ o x, v.cell? ⟨g, o, none⟩ = some x → v'.cell? ⟨g, o, none⟩ = some x := fun o x h => hg.cell h (fun e => hgD (Option.some.inj e))
    exact ⟨k _ _ h1, k _ _ h2, k _ _ h3⟩
def pProg (K : Nat) : Nat → List Tok → Nat → List Dat → Option (List Dat)
  | 0, _, _, _ => none
  | f + 1, ts, i, acc =>
    if i < ts.length then
      if rIs ts i ⟨#[100, 97, 116, 97]⟩ then
        match pDecl K ts i with
        | some (d, j) => pProg K f ts j (acc ++ [d])
        | none => none
      else none
    else some acc
theorem prog_cases {K g : Nat} {ts : List Tok} {i : Nat} {acc l : List Dat} (h : pProg K g ts i acc = some l) :
    (¬ i < ts.length ∧ l = acc) ∨ (i < ts.length ∧ rIs ts i ⟨#[100, 97, 116, 97]⟩ = true ∧ ∃ g' d j, g = g' + 1 ∧ pDecl K ts i = some (d, j) ∧ pProg K g' ts j (acc ++ [d]) = some l) := by
  cases g with
  | zero => simp [pProg] at h
  | succ g =>
    unfold pProg at h
    split at h
    · rename_i h1
      split at h
      · rename_i h2
        split at h
        · rename_i d j hd
          exact .inr ⟨h1, h2, g, d, j, rfl, hd, h⟩
        · simp at h
      · simp at h
    · rename_i h1
      simp only [Option.some.injEq] at h
      exact .inl ⟨h1, h.symm⟩
/-- What the loop of Parse holds. -/
structure QSt (w : World) (R F D b base : Nat) (v : World) (q : Nat) (ts : List Tok) (old sv : Value) (acc : List Dat) : Prop where
  rd : RdT v b ts q
  p : v.heap[D]? = some (.cells #[old, .slice none 0 0] 102 (0, 0))
  r1 : v.heap[R]? = some (.cells #[.slice none 0 0, .slice none 0 0] 102 (0, 0))
  r2 : v.heap[R + 1]? = some (.cells #[.int .i64 0, .int .i64 0] 29 (0, 0))
  f : v.heap[F]? = some (.cells #[.int .i64 0, .int .i64 0] 29 (0, 0))
  row : RowG DatE v base (fun c => base ≤ c) sv acc
  low : Below w.heap.size w v
  size : base ≤ v.heap.size
structure QOk (w : World) (R F D b base : Nat) : Prop where
  h0 : R = w.heap.size
  h1 : R + 1 < F
  h2 : F < D
  h3 : D < b
  h4 : b < base
section
variable {w : World} {R F D b base : Nat} {v v' : World} {q q' : Nat} {ts : List Tok} {old sv : Value} {acc : List Dat}
theorem QSt.block {row : Option Nat} (_hQ : QOk w R F D b base) (_h : QSt w R F D b base v q ts old sv acc) (hg : v.grownBy v' row) (X : Nat) (o : Obj) (hX : v.heap[X]? = some o) (hne : some X ≠ row) : v'.heap[X]? = some o :=
  (hg.block X (Array.getElem?_eq_some_iff.1 hX).1 hne).trans hX
theorem QSt.call (hQ : QOk w R F D b base) (h : QSt w R F D b base v q ts old sv acc) (hr : RdT v' b ts q') (hg : v.grownBy v' (some b)) : QSt w R F D b base v' q' ts old sv acc := by
  obtain ⟨h0, h1, h2, h3, h4⟩ := hQ
  have hs := h.size
  refine ⟨hr, h.block ⟨h0, h1, h2, h3, h4⟩ hg _ _ h.p ?_, h.block ⟨h0, h1, h2, h3, h4⟩ hg _ _ h.r1 ?_, h.block ⟨h0, h1, h2, h3, h4⟩ hg _ _ h.r2 ?_, h.block ⟨h0, h1, h2, h3, h4⟩ hg _ _ h.f ?_, h.row.kept hg (h.row.off (by omega)) (fun c hc e => by have := Option.some.inj e; omega), Below.grown h.low hg h.low.size (fun k hk => by have := Option.some.inj hk; omega), Nat.le_trans h.size hg.size⟩
  all_goals (intro e; have := Option.some.inj e; omega)
theorem QSt.lift (hQ : QOk w R F D b base) (h : QSt w R F D b base v q ts old sv acc) (hb : Below v.heap.size v v') : QSt w R F D b base v' q ts old sv acc := h.call hQ (h.rd.lift hb) (grown_of_below hb _)
theorem QSt.drew (hQ : QOk w R F D b base) (h : QSt w R F D b base v q ts old sv acc) : QSt w R F D b base v.drew q ts old sv acc := h.lift hQ (Below.refl _ v).drew
theorem QSt.cell (h : QSt w R F D b base v q ts old sv acc) : v.cell? ⟨D, 0, none⟩ = some old := (cell_of_block h.p (m := 0) rfl).1
theorem QSt.frozen (h : QSt w R F D b base v q ts old sv acc) : v.frozen? ⟨D, 0, none⟩ = false := (cell_of_block h.p (m := 0) rfl).2
theorem QSt.cellA (hQ : QOk w R F D b base) (h : QSt w R F D b base v q ts old sv acc) (o : Obj) : (v.alloc o).cell? ⟨D, 0, none⟩ = some old := (h.lift hQ ((Below.refl _ v).alloc (Nat.le_refl _) o)).cell
theorem QSt.cellD (hQ : QOk w R F D b base) (h : QSt w R F D b base v q ts old sv acc) (o : Obj) : (v.drew.alloc o).cell? ⟨D, 0, none⟩ = some old := (h.lift hQ ((Below.refl _ v).drew.alloc (Nat.le_refl _) o)).cell
theorem step_pushQ (hQ : QOk w R F D b base) (h : QSt w R F D b base v q ts old sv acc) (x : Dat) (c : List Value) (hx : DatE.rep v (fun c => base ≤ c ∧ some c ≠ sv.ownBlock) x c) (X : Array Value) (hX : X = c.toArray)
    {ops : Array Oper} {o : Oper} {a : Act} {K : Act → World → Prop} {Q : Exit → Act → World → Prop} {E' : Prop} (Z : TypeId) (hgd : o.guard = none) (s y : Operand)
    (ho : o.op = .call { callee := .builtin .append, args := #[s, y], argTypes := #[DatE.t, DatE.t] })
    (hs : a.eval s = sv) (nn : Nat) (hnn : nn = v.heap.size) (hy : a.eval y = .slice (some ⟨nn, 0, none⟩) 1 1) (N : Nat) (hN : N = acc.length + 1) (hb : N ≤ 1000000)
    (hK : ∀ (a' : Option Addr) (c' : Nat) (v3 : World), QSt w R F D b base v3 q ts old (.slice a' N c') (acc ++ [x]) → K (a.put o.dst (.slice a' N c')) v3) :
    if Region.wanted o (yielded ops a.tmps) = true then Oper.wp Try.prog o a (v.alloc (.cells X Z)) K Q else E' := by
  subst hnn hX
  have hba : Below v.heap.size v (v.alloc (.cells c.toArray Z)) := (Below.refl _ v).alloc (Nat.le_refl _) _
  have hA := h.lift hQ hba
  have hlt := fun k e => RowG.lt h.row k e
  have hQ' := hQ
  obtain ⟨h0, h1, h2, h3, h4⟩ := hQ
  refine step_pushG DatE hgd s y ho base (fun c => base ≤ c) sv acc hs hA.row v.heap.size Z c (heap_alloc_new v _) hy x (DatE.kept (fun _ h => h) (fun b _ hlt => hba.block b hlt) hx) N hN hb (Nat.le_trans h.size hba.size) ?_
  intro a' c' v3 hrow3 hg3
  have hne : ∀ X, X < base → some X ≠ sv.ownBlock := fun X hX e => by have := (hlt X e.symm).1; omega
  refine hK a' c' v3 ⟨?_, hA.block hQ' hg3 _ _ hA.p (hne _ (by omega)), hA.block hQ' hg3 _ _ hA.r1 (hne _ (by omega)), hA.block hQ' hg3 _ _ hA.r2 (hne _ (by omega)), hA.block hQ' hg3 _ _ hA.f (hne _ (by omega)), hrow3, Below.grown hA.low hg3 hA.low.size (fun k hk => by have := (hlt k hk).1; omega), Nat.le_trans hA.size hg3.size⟩
  cases hv : sv.ownBlock with
  | none => rw [hv] at hg3; exact hA.rd.lift ⟨hg3.os, hg3.tape, hg3.output, hg3.size, fun i hi => hg3.block i hi (by simp)⟩
  | some R' => rw [hv] at hg3; exact hA.rd.other (by have := (hlt R' hv).1; omega) hg3
theorem QSt.stored (hQ : QOk w R F D b base) (hne : ts ≠ []) {sa : Option Addr} {sn sc : Nat} (h : QSt w R F D b base v q ts (.slice sa sn sc) sv acc) : QSt w R F D b base (v.setCell ⟨D, 0, none⟩ sv) q ts sv sv acc := by
  obtain ⟨e1, e2, e3⟩ := set1 h.p 0 sv
  have hQ' := hQ
  obtain ⟨h0, h1, h2, h3, h4⟩ := hQ
  have hn : ∀ X, X ≠ D → some X ≠ some D := fun X hX e => hX (Option.some.inj e)
  refine ⟨h.rd.apart hne h.cell (by omega) e2, ?_, h.block hQ' e2 _ _ h.r1 (hn _ (by omega)), h.block hQ' e2 _ _ h.r2 (hn _ (by omega)), h.block hQ' e2 _ _ h.f (hn _ (by omega)), h.row.kept e2 (h.row.off (by omega)) (fun c hc e => by have := Option.some.inj e; omega), Below.grown h.low e2 h.low.size (fun k hk => by have := Option.some.inj hk; omega), by rw [e3]; exact h.size⟩
  rw [e1]; simp
end
end Go.Proofs.Ytafpngmfhajedaa
