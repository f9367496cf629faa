/- Schemes: the list of schemes that the law SchemeGeneral makes. -/
import Derived.Test.YtahiefgfhpkoeaaQJ
import Derived.Test.YtahiefgfhpkoeaaDcPsh
import Derived.Test.YtahiefgfhpkoeaaQH
namespace Go.Proofs.Ytahiefgfhpkoeaa
open Go.RowKit Go.Sort Go.Shelf Go.Maps Mth

def cst (p : Nat × Ty) : Int × Ty := ((p.1 : Int), p.2)
theorem leaf3s : LeafL ((List.range (3 + 1)).map varTy ++ [rigT]) := leaf_all _ (by decide) (by decide +kernel)
theorem leaf4s : LeafL ((List.range (4 + 1)).map varTy ++ [rigT]) := leaf_all _ (by decide) (by decide +kernel)
theorem leaf3q : ∀ T ∈ (List.range (3 + 1)).map varTy ++ [rigT], allN QS T = true := by decide +kernel
theorem leaf4q : ∀ T ∈ (List.range (4 + 1)).map varTy ++ [rigT], allN QS T = true := by decide +kernel
/-- What has been made: a list of schemes in a row of its own, and the tape. -/
structure GlSt (V : World) (b : Nat) (sv : Value) (qs : List (Nat × Ty)) (v : World) : Prop where
  tp : Tq v b
  row : RowG ScE v (b + 1) (fun c => b < c) sv (qs.map cst)
  grown : V.grownBy v (some b)
  ok : ∀ p ∈ qs, SchOk 26 p.1 p.2 ∧ nodes p.2 ≤ 1000
theorem GlSt.call {V v v' : World} {b : Nat} {sv : Value} {qs : List (Nat × Ty)} (h : GlSt V b sv qs v) (ht : Tq v' b) (hg : v.grownBy v' (some b)) : GlSt V b sv qs v' :=
  ⟨ht, h.row.kept hg (h.row.off (Nat.lt_succ_self b)) (fun c hc e => by have := Option.some.inj e; omega), grown_trans h.grown hg, h.ok⟩
theorem GlSt.lift {V v v' : World} {b : Nat} {sv : Value} {qs : List (Nat × Ty)} (h : GlSt V b sv qs v) (hl : Below v.heap.size v v') : GlSt V b sv qs v' :=
  ⟨h.tp.lift hl, h.row.lift hl, grown_trans h.grown (grown_of_below hl _), h.ok⟩
theorem GlSt.push {V v v' : World} {b : Nat} {sv sv' : Value} {qs qs' : List (Nat × Ty)} (hVs : V.heap.size = b + 1) (h : GlSt V b sv qs v) (hr : RowG ScE v' (b + 1) (fun c => b < c) sv' (qs'.map cst)) (hg : v.grownBy v' sv.ownBlock) (hok : ∀ p ∈ qs', SchOk 26 p.1 p.2 ∧ nodes p.2 ≤ 1000) : GlSt V b sv' qs' v' := by
  refine ⟨?_, hr, grown_fresh h.grown hg (fun c hc => by have := (h.row.lt c hc).1; omega), hok⟩
  cases ho : sv.ownBlock with
  | none => rw [ho] at hg; exact h.tp.lift ⟨hg.os, hg.tape, hg.output, hg.size, fun i hi => hg.block i hi (by simp)⟩
  | some R => rw [ho] at hg; exact h.tp.other (by have := (h.row.lt R ho).1; omega) hg
/-- An append of two schemes that were just laid, at a step of a region that draws its order. -/
theorem step_push2S {Y : World} {ops : Array Oper} {o : Oper} {a : Act} {K : Act → World → Prop} {Q : Exit → Act → World → Prop} {E' : Prop} {base : Nat} {S : Nat → Prop} {sv : Value} {xs : List (Int × Ty)} {Z : TypeId} {p q : Int × Ty} {k1 k2 : Int} {n1 n2 : ByteArray} {i1 h1 i2 h2 : Int} {s1 s2 : Value}
    (hrow : RowG ScE Y base S sv xs) (hp : RepC Y (fun c => S c ∧ some c ≠ sv.ownBlock) p (.agg #[.int .i64 p.1, .int .i64 k1, .string n1, .int .i64 i1, .int .i64 h1, s1])) (hq : RepC Y (fun c => S c ∧ some c ≠ sv.ownBlock) q (.agg #[.int .i64 q.1, .int .i64 k2, .string n2, .int .i64 i2, .int .i64 h2, s2]))
    (hgd : o.guard = none) (x y : Operand) (ho : o.op = .call { callee := .builtin .append, args := #[x, y], argTypes := #[57, 57] }) (hs : a.eval x = sv) (nn : Nat) (hnn : nn = Y.heap.size) (hy : a.eval y = .slice (some ⟨nn, 0, none⟩) 2 2)
    (N : Nat) (hN : N = xs.length + 2) (hb : N ≤ 1000000) (hbase : base ≤ Y.heap.size)
    (hK : ∀ (a' : Option Addr) (c' : Nat) (w' : World), RowG ScE w' base S (.slice a' N c') (xs ++ [p, q]) → Y.grownBy w' sv.ownBlock → K (a.put o.dst (.slice a' N c')) w') :
    if Region.wanted o (yielded ops a.tmps) = true then Oper.wp Try.prog o a (Y.alloc (.cells #[.int .i64 p.1, .int .i64 k1, .string n1, .int .i64 i1, .int .i64 h1, s1, .int .i64 q.1, .int .i64 k2, .string n2, .int .i64 i2, .int .i64 h2, s2] Z)) K Q else E' := by
  subst hnn
  have hb' : Below Y.heap.size Y (Y.alloc (.cells #[.int .i64 p.1, .int .i64 k1, .string n1, .int .i64 i1, .int .i64 h1, s1, .int .i64 q.1, .int .i64 k2, .string n2, .int .i64 i2, .int .i64 h2, s2] Z)) := (Below.refl _ Y).alloc (Nat.le_refl _) _
  obtain ⟨_, _, _, _, _, e, hr⟩ := hp.lift hb'
  obtain ⟨_, _, _, _, _, e', hr'⟩ := hq.lift hb'
  simp only [Value.agg.injEq, Array.mk.injEq, List.cons.injEq, Value.int.injEq, Value.string.injEq, true_and, and_true] at e e'
  obtain ⟨rfl, rfl, rfl, rfl, rfl⟩ := e
  obtain ⟨rfl, rfl, rfl, rfl, rfl⟩ := e'
  refine step_pushM ScE (by simp [Region.wanted, hgd]) x y ho base S sv xs hs (hrow.lift hb') ⟨Y.heap.size, 0, none⟩ 2 2 hy [p, q] rfl (by decide) (fun j z hj => ?_) N hN hb (Nat.le_trans hbase (by simp)) (fun a' c' w' h1 h2 => hK a' c' w' h1 (grown_trans (World.grownBy_alloc Y _ _) h2))
  match j, hj with
  | 0, hj =>
    simp at hj; subst hj
    refine ⟨_, fun m u hu => ?_, _, rfl, hr⟩
    match m, hu with
    | 0, hu | 1, hu | 2, hu | 3, hu | 4, hu | 5, hu => simp at hu; subst hu; simp [Addr.add, ScE]
    | m + 6, hu => simp at hu
  | 1, hj =>
    simp at hj; subst hj
    refine ⟨_, fun m u hu => ?_, _, rfl, hr'⟩
    match m, hu with
    | 0, hu | 1, hu | 2, hu | 3, hu | 4, hu | 5, hu => simp at hu; subst hu; simp [Addr.add, ScE]
    | m + 6, hu => simp at hu
  | j + 2, hj => simp at hj
/-- An element of a list of schemes: its cells, and the scheme. -/
theorem gl_at {w : World} {qs : List (Nat × Ty)} {ad : Addr} {n c : Nat} (h : SlG ScE w (fun _ => True) (qs.map cst) (.slice (some ad) n c)) {j : Nat} {p : Nat × Ty} (hp : qs[j]? = some p) :
    ∃ k nm i hh sa sn sc, (∀ W', Below w.heap.size w W' → Six W' ad j (p.1 : Int) k nm i hh (.slice sa sn sc)) ∧ ∀ W', Below w.heap.size w W' → RepC W' (fun _ => True) ((p.1 : Int), p.2) (.agg #[.int .i64 (p.1 : Int), .int .i64 k, .string nm, .int .i64 i, .int .i64 hh, .slice sa sn sc]) := by
  obtain ⟨ad', k, nm, i, hh, sa, sn, sc, e, h6, hx⟩ := slG_six h (j := j) (p := cst p) (by rw [List.getElem?_map, hp]; rfl)
  cases e
  exact ⟨k, nm, i, hh, sa, sn, sc, fun W' hb => h6.kept (hb.block _ h6.lt), fun W' hb => ⟨k, nm, i, hh, _, rfl, (hx.imp fun _ _ => trivial).lift hb⟩⟩
end Go.Proofs.Ytahiefgfhpkoeaa
