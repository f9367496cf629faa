import Derived.Test.YtgcefodgjhlbeaaGreatDoorCX3
import Derived.Test.YtgcefodgjhlbeaaGreatDoorCB4
import Derived.Deep.LoopGhost
import Derived.Deep.CutBlock
/- The reference's reader of expressions: what holds while a case is read. -/
namespace Go.Proofs.YtgcefodgjhlbeaaGreatDoor
open Go.RowKit Go.Maps Mth

/-- What holds between two arms, but for the arms. -/
structure CK (w v : World) (b R0 R1 B2 : Nat) (ts : List Tok) (s : St) (c : List Value) (a : Ex) (kv : Value) : Prop where
  eb : EX w v b R0 R1 ts s c
  kid : SlG ExE v (fun g => R0 < g ∧ g ≠ R1 ∧ g < B2) [a] kv
  h2 : R1 < B2
  h3 : B2 ≤ v.heap.size
theorem CK.call {w v v' : World} {b R0 R1 B2 : Nat} {ts : List Tok} {s s' : St} {c : List Value} {a : Ex} {kv : Value} (h : CK w v b R0 R1 B2 ts s c a kv) (hr : RdX v' b ts s') (hg : v.grownBy v' (some b)) : CK w v' b R0 R1 B2 ts s' c a kv := by
  have h0 := h.eb.h0; have hb := h.eb.hb; have h1 := h.eb.h1; have h2 := h.h2
  exact ⟨h.eb.call hr hg, h.kid.kept (fun _ h => h) (fun g h3 h4 => hg.block g h4 (by intro e; have := Option.some.inj e; have := h3.1; omega)), h2, Nat.le_trans h.h3 hg.size⟩
theorem CK.lift {w v v' : World} {b R0 R1 B2 : Nat} {ts : List Tok} {s : St} {c : List Value} {a : Ex} {kv : Value} (h : CK w v b R0 R1 B2 ts s c a kv) (hb : Below v.heap.size v v') : CK w v' b R0 R1 B2 ts s c a kv := h.call (h.eb.rd.lift hb) (below_grown_some hb b)
/-- A later block changes. -/
theorem CK.other {w v v' : World} {b R0 R1 B2 : Nat} {ts : List Tok} {s : St} {c : List Value} {a : Ex} {kv : Value} {R : Nat} (h : CK w v b R0 R1 B2 ts s c a kv) (hR : B2 ≤ R) (hg : v.grownBy v' (some R)) : CK w v' b R0 R1 B2 ts s c a kv := by
  have h0 := h.eb.h0; have hb := h.eb.hb; have h1 := h.eb.h1; have h2 := h.h2
  exact ⟨⟨h.eb.rd.other (by omega) hg, h.eb.res.grown hg (by intro e; have := Option.some.inj e; omega), h.eb.box.grown hg (by intro e; have := Option.some.inj e; omega), grown_fresh h.eb.grown hg (fun i e => by have := Option.some.inj e; omega), h0, h1, hb⟩,
    h.kid.kept (fun _ h => h) (fun g h3 h4 => hg.block g h4 (by intro e; have := Option.some.inj e; have := h3.2.2; omega)), h2, Nat.le_trans h.h3 hg.size⟩
theorem CK.row {w v v' : World} {b R0 R1 B2 : Nat} {ts : List Tok} {s : St} {c : List Value} {a : Ex} {kv : Value} {row : Option Nat} (h : CK w v b R0 R1 B2 ts s c a kv) (hR : ∀ R, row = some R → B2 ≤ R) (hg : v.grownBy v' row) : CK w v' b R0 R1 B2 ts s c a kv := by
  cases row with
  | none => exact h.lift ⟨hg.os, hg.tape, hg.output, hg.size, fun i hi => hg.block i hi (by simp)⟩
  | some R => exact h.other (hR R rfl) hg
theorem CK.set {w v : World} {b R0 R1 B2 : Nat} {ts : List Tok} {s : St} {c : List Value} {a : Ex} {kv : Value} (h : CK w v b R0 R1 B2 ts s c a kv) (m : Nat) (u : Value) : CK w (v.setCell ⟨R1, m, none⟩ u) b R0 R1 B2 ts s (c.set m u) a kv := by
  obtain ⟨-, h2, h3⟩ := h.eb.box.set m u
  have h1 := h.eb.h1; have h12 := h.h2
  exact ⟨h.eb.set m u, h.kid.kept (fun _ h => h) (fun g h3 h4 => h2.block g h4 (by intro e; exact h3.2.1 (Option.some.inj e))), h12, by rw [h3]; exact h.h3⟩
/-- What holds between two arms. -/
structure CZ (w v : World) (b R0 R1 B2 : Nat) (ts : List Tok) (s : St) (c : List Value) (a : Ex) (kv sv : Value) (l : List (AH × Ex)) : Prop where
  ck : CK w v b R0 R1 B2 ts s c a kv
  row : RowG AmE v B2 (fun g => B2 ≤ g) sv l
theorem rowA_bound {v : World} {B2 : Nat} {sv : Value} {l : List (AH × Ex)} (h : RowG AmE v B2 (fun g => B2 ≤ g) sv l) : RowG AmE v B2 (fun g => B2 ≤ g ∧ g < v.heap.size) sv l := by
  obtain ⟨L, hown, hl, hr⟩ := h
  refine ⟨L, hown, hl, fun j x hx => ?_⟩
  obtain ⟨c, h1, h2⟩ := hr j x hx
  exact ⟨c, h1, AmE.kept (fun g hg => ⟨⟨hg.1.1, hg.2⟩, hg.1.2⟩) (fun _ _ _ => rfl) (AmE.bound h2)⟩
theorem rowA_imp {v : World} {B2 R2 : Nat} {sv : Value} {l : List (AH × Ex)} (h : RowG AmE v B2 (fun g => B2 ≤ g ∧ g < R2) sv l) : RowG AmE v B2 (fun g => B2 ≤ g) sv l := by
  obtain ⟨L, hown, hl, hr⟩ := h
  refine ⟨L, hown, hl, fun j x hx => ?_⟩
  obtain ⟨c, h1, h2⟩ := hr j x hx
  exact ⟨c, h1, AmE.kept (fun g hg => ⟨hg.1.1, hg.2⟩) (fun _ _ _ => rfl) h2⟩
/-- The same with the arm's variable and its row of names. -/
structure RZ (w v : World) (b R0 R1 B2 R2 : Nat) (ts : List Tok) (s : St) (c : List Value) (a : Ex) (kv sv : Value) (l : List (AH × Ex)) (d : List Value) (nv : Value) (acc : List ByteArray) : Prop where
  ck : CK w v b R0 R1 B2 ts s c a kv
  row : RowG AmE v B2 (fun g => B2 ≤ g ∧ g < R2) sv l
  box : BoxC 61 v R2 d
  nrow : RowG StrE v (R2 + 1) (fun _ => False) nv acc
  h4 : B2 ≤ R2
  h5 : ∀ k, sv.ownBlock = some k → k < R2
theorem RZ.mk' {w v : World} {b R0 R1 B2 : Nat} {ts : List Tok} {s : St} {c : List Value} {a : Ex} {kv sv : Value} {l : List (AH × Ex)} (h : CZ w v b R0 R1 B2 ts s c a kv sv l) (d : List Value) : RZ w (v.alloc (.cells d.toArray 61)) b R0 R1 B2 v.heap.size ts s c a kv sv l d (.slice none 0 0) [] :=
  ⟨h.ck.lift ((Below.refl _ v).alloc (Nat.le_refl _) _), (rowA_bound h.row).lift ((Below.refl _ v).alloc (Nat.le_refl _) _), BoxC.made _ v d, rowG_nil _ _ _ _, h.ck.h3, fun k e => (h.row.lt k e).2⟩
theorem CZ.call {w v v' : World} {b R0 R1 B2 : Nat} {ts : List Tok} {s s' : St} {c : List Value} {a : Ex} {kv sv : Value} {l : List (AH × Ex)} (h : CZ w v b R0 R1 B2 ts s c a kv sv l) (hr : RdX v' b ts s') (hg : v.grownBy v' (some b)) : CZ w v' b R0 R1 B2 ts s' c a kv sv l := by
  have h0 := h.ck.eb.h0; have hb := h.ck.eb.hb; have h1 := h.ck.eb.h1; have h2 := h.ck.h2
  exact ⟨h.ck.call hr hg, h.row.kept hg (h.row.off (by omega)) (fun g h3 e => by have := Option.some.inj e; omega)⟩
theorem CZ.lift {w v v' : World} {b R0 R1 B2 : Nat} {ts : List Tok} {s : St} {c : List Value} {a : Ex} {kv sv : Value} {l : List (AH × Ex)} (h : CZ w v b R0 R1 B2 ts s c a kv sv l) (hb : Below v.heap.size v v') : CZ w v' b R0 R1 B2 ts s c a kv sv l := h.call (h.ck.eb.rd.lift hb) (below_grown_some hb b)
theorem CZ.set {w v : World} {b R0 R1 B2 : Nat} {ts : List Tok} {s : St} {c : List Value} {a : Ex} {kv sv : Value} {l : List (AH × Ex)} (h : CZ w v b R0 R1 B2 ts s c a kv sv l) (m : Nat) (u : Value) : CZ w (v.setCell ⟨R1, m, none⟩ u) b R0 R1 B2 ts s (c.set m u) a kv sv l := by
  obtain ⟨-, h2, h3⟩ := h.ck.eb.box.set m u
  have h12 := h.ck.h2
  exact ⟨h.ck.set m u, h.row.kept h2 (h.row.off (by omega)) (fun g h3 e => by have := Option.some.inj e; omega)⟩
theorem RZ.call {w v v' : World} {b R0 R1 B2 R2 : Nat} {ts : List Tok} {s s' : St} {c : List Value} {a : Ex} {kv sv : Value} {l : List (AH × Ex)} {d : List Value} {nv : Value} {acc : List ByteArray} (h : RZ w v b R0 R1 B2 R2 ts s c a kv sv l d nv acc) (hr : RdX v' b ts s') (hg : v.grownBy v' (some b)) : RZ w v' b R0 R1 B2 R2 ts s' c a kv sv l d nv acc := by
  have h0 := h.ck.eb.h0; have hb := h.ck.eb.hb; have h1 := h.ck.eb.h1; have h2 := h.ck.h2; have h4 := h.h4
  exact ⟨h.ck.call hr hg, h.row.kept hg (h.row.off (by omega)) (fun g h3 e => by have := Option.some.inj e; have := h3.1; omega), h.box.grown hg (by intro e; have := Option.some.inj e; omega), row_str h.nrow hg (h.nrow.off (by omega)), h4, h.h5⟩
theorem RZ.lift {w v v' : World} {b R0 R1 B2 R2 : Nat} {ts : List Tok} {s : St} {c : List Value} {a : Ex} {kv sv : Value} {l : List (AH × Ex)} {d : List Value} {nv : Value} {acc : List ByteArray} (h : RZ w v b R0 R1 B2 R2 ts s c a kv sv l d nv acc) (hb : Below v.heap.size v v') : RZ w v' b R0 R1 B2 R2 ts s c a kv sv l d nv acc := h.call (h.ck.eb.rd.lift hb) (below_grown_some hb b)
/-- A name more. -/
theorem RZ.push {w v v' : World} {b R0 R1 B2 R2 : Nat} {ts : List Tok} {s : St} {c : List Value} {a : Ex} {kv sv : Value} {l : List (AH × Ex)} {d : List Value} {nv nv' : Value} {acc acc' : List ByteArray} (h : RZ w v b R0 R1 B2 R2 ts s c a kv sv l d nv acc) (hrow : RowG StrE v' (R2 + 1) (fun _ => False) nv' acc') (hg : v.grownBy v' nv.ownBlock) : RZ w v' b R0 R1 B2 R2 ts s c a kv sv l d nv' acc' := by
  have h4 := h.h4; have h5 := h.h5
  have hlt := h.nrow.lt
  refine ⟨h.ck.row (fun R e => by have := hlt R e; omega) hg, h.row.kept hg ?_ (fun g h3 e => by have := hlt g e.symm; have := h3.2; omega), h.box.grown hg (fun e => by have := hlt R2 e.symm; omega), hrow, h4, h5⟩
  cases hv : sv.ownBlock with
  | none => exact .inl rfl
  | some k => exact .inr (by intro e; have := hlt k e.symm; have := h5 k hv; omega)
/-- A field of the arm. -/
theorem RZ.set {w v : World} {b R0 R1 B2 R2 : Nat} {ts : List Tok} {s : St} {c : List Value} {a : Ex} {kv sv : Value} {l : List (AH × Ex)} {d : List Value} {nv : Value} {acc : List ByteArray} (h : RZ w v b R0 R1 B2 R2 ts s c a kv sv l d nv acc) (m : Nat) (u : Value) : RZ w (v.setCell ⟨R2, m, none⟩ u) b R0 R1 B2 R2 ts s c a kv sv l (d.set m u) nv acc := by
  obtain ⟨h1, h2, -⟩ := h.box.set m u
  have h4 := h.h4; have h5 := h.h5
  refine ⟨h.ck.other h4 h2, h.row.kept h2 ?_ (fun g h3 e => by have := Option.some.inj e; have := h3.2; omega), h1, row_str h.nrow h2 (h.nrow.off (by omega)), h4, h5⟩
  cases hv : sv.ownBlock with
  | none => exact .inl rfl
  | some k => exact .inr (by intro e; have := Option.some.inj e; have := h5 k hv; omega)
/-- The arm is whole: its row of arms, what it says. -/
theorem RZ.full {w v v' : World} {b R0 R1 B2 R2 : Nat} {ts : List Tok} {s : St} {c : List Value} {a : Ex} {kv sv : Value} {l : List (AH × Ex)} {nv : Value} {acc : List ByteArray} {p : Int} {n : ByteArray} {d e : List Value} {U : Ex} (h : RZ w v b R0 R1 B2 R2 ts s c a kv sv l d nv acc) (hg : v.grownBy v' (some R2)) (hU : RepE v (fun g => R2 < g) U e) :
    CZ w v' b R0 R1 B2 ts s c a kv sv l ∧ AmE.rep v' (fun g => B2 ≤ g ∧ some g ≠ sv.ownBlock) (⟨p, n, acc⟩, U) (.int .i64 p :: .string n :: nv :: e) := by
  have h4 := h.h4; have h5 := h.h5
  have hoff : sv.ownBlock = none ∨ sv.ownBlock ≠ some R2 := by
    cases hv : sv.ownBlock with
    | none => exact .inl rfl
    | some k => exact .inr (by intro e; have := Option.some.inj e; have := h5 k hv; omega)
  refine ⟨⟨h.ck.other h4 hg, rowA_imp (h.row.kept hg hoff (fun g h3 e => by have := Option.some.inj e; have := h3.2; omega))⟩, nv, e, rfl, ?_, ?_⟩
  · have hn := row_str h.nrow hg (h.nrow.off (by omega))
    have hs := (hn.slG (S' := fun g => R2 + 1 ≤ g) (fun _ h => h.elim) (fun _ h => h))
    exact hs.kept (fun g hg' => ⟨by omega, fun e => by have := h5 g e.symm; omega⟩) (fun _ _ _ => rfl)
  · exact hU.kept (fun g hg' => ⟨by omega, fun e => by have := h5 g e.symm; omega⟩) (fun g h2 h3 => hg.block g h3 (by intro e; have := Option.some.inj e; omega))
theorem CZ.push {w v v' : World} {b R0 R1 B2 : Nat} {ts : List Tok} {s : St} {c : List Value} {a : Ex} {kv sv sv' : Value} {l l' : List (AH × Ex)} (h : CZ w v b R0 R1 B2 ts s c a kv sv l) (hrow : RowG AmE v' B2 (fun g => B2 ≤ g) sv' l') (hg : v.grownBy v' sv.ownBlock) : CZ w v' b R0 R1 B2 ts s c a kv sv' l' :=
  ⟨h.ck.row (fun R e => (h.row.lt R e).1) hg, hrow⟩
end Go.Proofs.YtgcefodgjhlbeaaGreatDoor

/- The reference's reader of expressions: a case. -/
namespace Go.Proofs.YtgcefodgjhlbeaaGreatDoor
open Go.RowKit Go.Maps Mth

/-- The case's variable is made. -/
theorem cz_new {w v : World} {b R0 : Nat} {ts : List Tok} {s : St} {a : Ex} {c : List Value} (h : PX w v b R0 ts s) (hr : RepE v (fun g => R0 < g) a c) (c8 : List Value) (V : World) (hV : V = (v.alloc (.cells c.toArray 34)).alloc (.cells c8.toArray 34)) :
    CZ w V b R0 (v.heap.size + 1) (v.heap.size + 2) ts s c8 a (.slice (some ⟨v.heap.size, 0, none⟩) 1 1) (.slice none 0 0) [] := by
  subst hV
  have hlt := h.res.lt
  have h1 : Below v.heap.size v (v.alloc (.cells c.toArray 34)) := (Below.refl _ v).alloc (Nat.le_refl _) _
  have hs : (v.alloc (.cells c.toArray 34)).heap.size = v.heap.size + 1 := by simp
  have hP := (h.lift h1).mk' c8
  rw [hs] at hP
  have hk := (one_newE hr 34 v.heap.size rfl (S' := fun g => R0 < g) (fun _ h => h) hlt).bound
  have h2 : Below (v.alloc (.cells c.toArray 34)).heap.size (v.alloc (.cells c.toArray 34)) ((v.alloc (.cells c.toArray 34)).alloc (.cells c8.toArray 34)) := (Below.refl _ _).alloc (Nat.le_refl _) _
  refine ⟨⟨hP, hk.kept (fun g hg => ?_) (fun g _ hl => h2.block g hl), by omega, by simp⟩, rowG_nil _ _ _ _⟩
  have := hg.2
  rw [hs] at this
  exact ⟨hg.1, by omega, by omega⟩
theorem wpList_push_am {w : World} {ops : Array Oper} {rest : List Oper} {o : Oper} {x0 : Act} {Q : Exit → Act → World → Prop} {base : Nat} {sv : Value} {acc : List (AH × Ex)} {A : AH × Ex} {c : List Value} (hA : AmE.rep w (fun g => base ≤ g ∧ some g ≠ sv.ownBlock) A c) (hrow : RowG AmE w base (fun g => base ≤ g) sv acc)
    (hgd : o.guard = none) (s x : Operand) (ho : o.op = .call { callee := .builtin .append, args := #[s, x], argTypes := #[29, 29] }) (hs : x0.eval s = sv) (hx : x0.eval x = .slice (some ⟨w.heap.size, 0, none⟩) 1 1)
    (N : Nat) (hN : N = acc.length + 1) (hb : N ≤ 1000000) (hbase : base ≤ w.heap.size)
    (hK : ∀ (a' : Option Addr) (c' : Nat) (w' : World), RowG AmE w' base (fun g => base ≤ g) (.slice a' N c') (acc ++ [A]) → w.grownBy w' sv.ownBlock → wpList Tryz.prog ops Q rest (x0.put o.dst (.slice a' N c')) w') :
    wpList Tryz.prog ops Q (o :: rest) x0 (w.alloc (.cells c.toArray 61)) := by
  have hba : Below w.heap.size w (w.alloc (.cells c.toArray 61)) := (Below.refl _ w).alloc (Nat.le_refl _) _
  exact wpList_pushG AmE hgd s x ho base (fun g => base ≤ g) sv acc hs (hrow.lift hba) w.heap.size 61 c (heap_alloc_new w _) hx A (AmE.kept (fun _ h => h) (fun g _ hl => hba.block g hl) hA) N hN hb (Nat.le_trans hbase hba.size) fun a' c' w' h1 h2 => hK a' c' w' h1 (grown_trans (World.grownBy_alloc w _ _) h2)
theorem enterWord (v u : Value) (w : World) : (callFunc 57 #[v, u]).run Tryz.prog w = .ok (.enter 57 #[v, u]) w := by kernel_rfl
end Go.Proofs.YtgcefodgjhlbeaaGreatDoor
