import Derived.Test.YtgcefodgjhlbeaaGreatDoorCX0
import Derived.Test.YtgcefodgjhlbeaaGreatDoorCB4
import Derived.Test.YtgcefodgjhlbeaaGreatDoorCA2
/- The reference's reader of expressions: its memory while it reads. -/
namespace Go.Proofs.YtgcefodgjhlbeaaGreatDoor
open Go.RowKit Go.Maps Mth

/-- What holds while a method reads: its result's variable, and a variable of its own. -/
structure EX (w v : World) (b R0 R1 : Nat) (ts : List Tok) (s : St) (c : List Value) : Prop where
  rd : RdX v b ts s
  res : BoxC 34 v R0 zExC
  box : BoxC 34 v R1 c
  grown : w.grownBy v (some b)
  h0 : w.heap.size ≤ R0
  h1 : R0 < R1
  hb : b < w.heap.size
theorem EX.lt {w v : World} {b R0 R1 : Nat} {ts : List Tok} {s : St} {c : List Value} (h : EX w v b R0 R1 ts s c) : R1 < v.heap.size := h.box.lt
theorem EX.call {w v v' : World} {b R0 R1 : Nat} {ts : List Tok} {s s' : St} {c : List Value} (h : EX w v b R0 R1 ts s c) (hr : RdX v' b ts s') (hg : v.grownBy v' (some b)) : EX w v' b R0 R1 ts s' c :=
  ⟨hr, h.res.grown hg (by have := h.hb; have := h.h0; intro e; have := Option.some.inj e; omega), h.box.grown hg (by have := h.hb; have := h.h0; have := h.h1; intro e; have := Option.some.inj e; omega), grown_trans h.grown hg, h.h0, h.h1, h.hb⟩
theorem EX.lift {w v v' : World} {b R0 R1 : Nat} {ts : List Tok} {s : St} {c : List Value} (h : EX w v b R0 R1 ts s c) (hb : Below v.heap.size v v') : EX w v' b R0 R1 ts s c :=
  h.call (h.rd.lift hb) (below_grown_some hb b)
theorem EX.set {w v : World} {b R0 R1 : Nat} {ts : List Tok} {s : St} {c : List Value} (h : EX w v b R0 R1 ts s c) (m : Nat) (u : Value) : EX w (v.setCell ⟨R1, m, none⟩ u) b R0 R1 ts s (c.set m u) := by
  obtain ⟨h1, h2, -⟩ := h.box.set m u
  have := h.hb; have := h.h0; have h01 := h.h1
  exact ⟨h.rd.other (by omega) h2, h.res.grown h2 (by intro e; have := Option.some.inj e; omega), h1, grown_fresh h.grown h2 (fun k e => by have := Option.some.inj e; omega), h.h0, h01, h.hb⟩
theorem EX.row {w v v' : World} {b R0 R1 : Nat} {ts : List Tok} {s : St} {c c' : List Value} (h : EX w v b R0 R1 ts s c) (h1 : BoxC 34 v' R1 c') (h2 : v.grownBy v' (some R1)) : EX w v' b R0 R1 ts s c' := by
  have := h.hb; have := h.h0; have h01 := h.h1
  exact ⟨h.rd.other (by omega) h2, h.res.grown h2 (by intro e; have := Option.some.inj e; omega), h1, grown_fresh h.grown h2 (fun k e => by have := Option.some.inj e; omega), h.h0, h01, h.hb⟩
/-- The end: the result is stored. -/
theorem EX.fin {w v v' : World} {b R0 R1 : Nat} {ts : List Tok} {s : St} {c : List Value} (h : EX w v b R0 R1 ts s c) (hg : v.grownBy v' (some R0)) : RdX v' b ts s ∧ w.grownBy v' (some b) := by
  have := h.hb; have := h.h0; have h01 := h.h1
  exact ⟨h.rd.other (by omega) hg, grown_fresh h.grown hg (fun k e => by have := Option.some.inj e; omega)⟩
/-- What holds before the method's own variable is made. -/
structure PX (w v : World) (b R0 : Nat) (ts : List Tok) (s : St) : Prop where
  rd : RdX v b ts s
  res : BoxC 34 v R0 zExC
  grown : w.grownBy v (some b)
  h0 : w.heap.size ≤ R0
  hb : b < w.heap.size
theorem PX.start {w : World} {b : Nat} {ts : List Tok} {s : St} (h : RdX w b ts s) : PX w (w.alloc (.cells #[.int .i64 0, .int .i64 0, .string ⟨#[]⟩, .int .i64 0, .slice none 0 0, .slice none 0 0, .int .i64 0, .string ⟨#[]⟩, .int .i64 0, .int .i64 0, .slice none 0 0] 34)) b w.heap.size ts s := by
  have hb : Below w.heap.size w (w.alloc (.cells #[.int .i64 0, .int .i64 0, .string ⟨#[]⟩, .int .i64 0, .slice none 0 0, .slice none 0 0, .int .i64 0, .string ⟨#[]⟩, .int .i64 0, .int .i64 0, .slice none 0 0] 34)) := (Below.refl _ w).alloc (Nat.le_refl _) _
  exact ⟨h.lift hb, BoxC.made _ w zExC, below_grown_some hb b, Nat.le_refl _, h.lt⟩
theorem PX.call {w v v' : World} {b R0 : Nat} {ts : List Tok} {s s' : St} (h : PX w v b R0 ts s) (hr : RdX v' b ts s') (hg : v.grownBy v' (some b)) : PX w v' b R0 ts s' :=
  ⟨hr, h.res.grown hg (by have := h.hb; have := h.h0; intro e; have := Option.some.inj e; omega), grown_trans h.grown hg, h.h0, h.hb⟩
theorem PX.lift {w v v' : World} {b R0 : Nat} {ts : List Tok} {s : St} (h : PX w v b R0 ts s) (hb : Below v.heap.size v v') : PX w v' b R0 ts s := h.call (h.rd.lift hb) (below_grown_some hb b)
theorem PX.mk' {w v : World} {b R0 : Nat} {ts : List Tok} {s : St} (h : PX w v b R0 ts s) (c : List Value) : EX w (v.alloc (.cells c.toArray 34)) b R0 v.heap.size ts s c := by
  have h1 := h.lift ((Below.refl _ v).alloc (Nat.le_refl _) (.cells c.toArray 34))
  exact ⟨h1.rd, h1.res, BoxC.made _ v c, h1.grown, h.h0, h.res.lt, h.hb⟩
theorem PX.fin {w v v' : World} {b R0 : Nat} {ts : List Tok} {s : St} (h : PX w v b R0 ts s) (hg : v.grownBy v' (some R0)) : RdX v' b ts s ∧ w.grownBy v' (some b) := by
  have := h.hb; have := h.h0
  exact ⟨h.rd.other (by omega) hg, grown_fresh h.grown hg (fun k e => by have := Option.some.inj e; omega)⟩
theorem EX.pb {w v : World} {b R0 R1 : Nat} {ts : List Tok} {s : St} {c : List Value} (h : EX w v b R0 R1 ts s c) : PX w v b R0 ts s := ⟨h.rd, h.res, h.grown, h.h0, h.hb⟩
/-- What a method returns: its own variable, stored into the result. -/
theorem EX.ret {w v v' : World} {b R0 R1 base : Nat} {ts : List Tok} {s : St} {c c' : List Value} {T : Ex} (h : EX w v b R0 R1 ts s c) (hr : RepE v (fun g => R1 < g) T c') (hbase : base ≤ w.heap.size) (hg : v.grownBy v' (some R0)) :
    RepE v' (fun g => base ≤ g) T c' ∧ RdX v' b ts s ∧ w.grownBy v' (some b) := by
  have h0 := h.h0
  have h1 := h.h1
  exact ⟨repE_far hr (by omega) fun g h2 h3 => hg.block g h3 (by intro e; have := Option.some.inj e; omega), h.fin hg⟩
theorem PX.ret {w v v' : World} {b R0 base : Nat} {ts : List Tok} {s : St} {c' : List Value} {T : Ex} (h : PX w v b R0 ts s) (hr : RepE v (fun g => R0 < g) T c') (hbase : base ≤ w.heap.size) (hg : v.grownBy v' (some R0)) :
    RepE v' (fun g => base ≤ g) T c' ∧ RdX v' b ts s ∧ w.grownBy v' (some b) := by
  have h0 := h.h0
  exact ⟨repE_far hr (by omega) fun g h2 h3 => hg.block g h3 (by intro e; have := Option.some.inj e; omega), h.fin hg⟩
theorem PX.far {w v v' : World} {b R0 : Nat} {ts : List Tok} {s : St} {c : List Value} {T : Ex} (h : PX w v b R0 ts s) (hr : RepE v (fun g => R0 < g) T c) (hg : v.grownBy v' (some b)) : RepE v' (fun g => R0 < g) T c := by
  have h0 := h.h0
  have hb := h.hb
  exact hr.kept (fun _ h => h) fun g h1 h2 => hg.block g h2 (by intro e; have := Option.some.inj e; omega)

/-- What holds between two atoms. -/
structure AX (w v : World) (b R0 R1 : Nat) (ts : List Tok) (s : St) (c : List Value) (e : Ex) : Prop where
  eb : EX w v b R0 R1 ts s c
  rep : RepE v (fun g => R0 < g ∧ g ≠ R1) e c
theorem AX.call {w v v' : World} {b R0 R1 : Nat} {ts : List Tok} {s s' : St} {c : List Value} {e : Ex} (h : AX w v b R0 R1 ts s c e) (hr : RdX v' b ts s') (hg : v.grownBy v' (some b)) : AX w v' b R0 R1 ts s' c e := by
  have h0 := h.eb.h0
  have hb := h.eb.hb
  exact ⟨h.eb.call hr hg, h.rep.kept (fun _ h => h) (fun g h1 hl => hg.block g hl (by intro e; have := Option.some.inj e; have := h1.1; omega))⟩
theorem AX.lift {w v v' : World} {b R0 R1 : Nat} {ts : List Tok} {s : St} {c : List Value} {e : Ex} (h : AX w v b R0 R1 ts s c e) (hb : Below v.heap.size v v') : AX w v' b R0 R1 ts s c e := h.call (h.eb.rd.lift hb) (below_grown_some hb b)
theorem AX.mk' {w v : World} {b R0 : Nat} {ts : List Tok} {s : St} (h : PX w v b R0 ts s) {e : Ex} {c : List Value} (hr : RepE v (fun g => R0 < g) e c) : AX w (v.alloc (.cells c.toArray 34)) b R0 v.heap.size ts s c e :=
  ⟨h.mk' c, (hr.bound.lift ((Below.refl _ v).alloc (Nat.le_refl _) _)).imp fun _ hg => ⟨hg.1, Nat.ne_of_lt hg.2⟩⟩
theorem AX.ret {w v v' : World} {b R0 R1 base : Nat} {ts : List Tok} {s : St} {c : List Value} {e : Ex} (h : AX w v b R0 R1 ts s c e) (hbase : base ≤ w.heap.size) (hg : v.grownBy v' (some R0)) :
    RepE v' (fun g => base ≤ g) e c ∧ RdX v' b ts s ∧ w.grownBy v' (some b) := h.eb.pb.ret (h.rep.imp fun _ h => h.1) hbase hg
/-- An atom more. -/
theorem AX.next {w v : World} {b R0 R1 : Nat} {ts : List Tok} {s : St} {c0 c1 c2 c3 c4 c5 c6 c7 c8 c9 c10 : Value} {e : Ex} (h : AX w v b R0 R1 ts s [c0, c1, c2, c3, c4, c5, c6, c7, c8, c9, c10] e) {u : Ex} {k : List Value} (hu : RepE v (fun g => R0 < g ∧ g ≠ R1) u k) (p : Int) :
    AX w ((((((((((((v.setCell ⟨R1, 0, none⟩ (.int .i64 5)).setCell ⟨R1, 1, none⟩ (.int .i64 p)).setCell ⟨R1, 2, none⟩ (.string ⟨#[]⟩)).setCell ⟨R1, 3, none⟩ (.int .i64 0)).setCell ⟨R1, 4, none⟩ (.slice (some ⟨v.heap.size, 0, none⟩) 2 2)).setCell ⟨R1, 5, none⟩ (.slice none 0 0)).setCell ⟨R1, 6, none⟩ (.int .i64 0)).setCell ⟨R1, 7, none⟩ (.string ⟨#[]⟩)).setCell ⟨R1, 8, none⟩ (.int .i64 0)).setCell ⟨R1, 9, none⟩ (.int .i64 0)).setCell ⟨R1, 10, none⟩ (.slice none 0 0)).alloc (.cells ([c0, c1, c2, c3, c4, c5, c6, c7, c8, c9, c10] ++ k).toArray 34)) b R0 R1 ts s [.int .i64 5, .int .i64 p, .string ⟨#[]⟩, .int .i64 0, .slice (some ⟨v.heap.size, 0, none⟩) 2 2, .slice none 0 0, .int .i64 0, .string ⟨#[]⟩, .int .i64 0, .int .i64 0, .slice none 0 0] (.mk 5 p ⟨#[]⟩ 0 zTy [e, u] []) := by
  obtain ⟨h1, h2, h3⟩ := h.eb.box.set11s (.int .i64 5) (.int .i64 p) (.string ⟨#[]⟩) (.int .i64 0) (.slice (some ⟨v.heap.size, 0, none⟩) 2 2) (.slice none 0 0) (.int .i64 0) (.string ⟨#[]⟩) (.int .i64 0) (.int .i64 0) (.slice none 0 0)
  have hlt := h.eb.lt
  have hr0 := h.eb.h1
  have hrep := h.rep.kept (S' := fun g => R0 < g ∧ g ≠ R1) (fun _ h => h) (fun g hg hl => h2.block g hl (by intro e; exact hg.2 (Option.some.inj e)))
  have hu' := hu.kept (S' := fun g => R0 < g ∧ g ≠ R1) (fun _ h => h) (fun g hg hl => h2.block g hl (by intro e; exact hg.2 (Option.some.inj e)))
  have heb := h.eb.row h1 h2
  generalize hV : (((((((((((v.setCell ⟨R1, 0, none⟩ (.int .i64 5)).setCell ⟨R1, 1, none⟩ (.int .i64 p)).setCell ⟨R1, 2, none⟩ (.string ⟨#[]⟩)).setCell ⟨R1, 3, none⟩ (.int .i64 0)).setCell ⟨R1, 4, none⟩ (.slice (some ⟨v.heap.size, 0, none⟩) 2 2)).setCell ⟨R1, 5, none⟩ (.slice none 0 0)).setCell ⟨R1, 6, none⟩ (.int .i64 0)).setCell ⟨R1, 7, none⟩ (.string ⟨#[]⟩)).setCell ⟨R1, 8, none⟩ (.int .i64 0)).setCell ⟨R1, 9, none⟩ (.int .i64 0)).setCell ⟨R1, 10, none⟩ (.slice none 0 0)) = V at *
  exact ⟨heb.lift ((Below.refl _ V).alloc (Nat.le_refl _) _), repE_kids 5 p ⟨#[]⟩ 0 (Nat.zero_le _) (two_newE hrep hu' 34 v.heap.size h3.symm (fun _ h => h) ⟨by omega, by omega⟩)⟩
/-- What holds while the second expression is read. -/
structure VX (w v : World) (b R0 R1 R2 : Nat) (ts : List Tok) (s : St) (c : List Value) (a : Ex) (d : List Value) : Prop where
  eb : EX w v b R0 R1 ts s c
  val : BoxC 34 v R2 d
  rep : RepE v (fun g => R1 < g) a d
  h2 : R1 < R2
theorem VX.call {w v v' : World} {b R0 R1 R2 : Nat} {ts : List Tok} {s s' : St} {c : List Value} {a : Ex} {d : List Value} (h : VX w v b R0 R1 R2 ts s c a d) (hr : RdX v' b ts s') (hg : v.grownBy v' (some b)) : VX w v' b R0 R1 R2 ts s' c a d := by
  have h0 := h.eb.h0
  have h1 := h.eb.h1
  have hb := h.eb.hb
  have h2 := h.h2
  exact ⟨h.eb.call hr hg, h.val.grown hg (by intro e; have := Option.some.inj e; omega), h.rep.kept (fun _ h => h) (fun g hg' hl => hg.block g hl (by intro e; have := Option.some.inj e; omega)), h2⟩
theorem VX.mk' {w v : World} {b R0 R1 : Nat} {ts : List Tok} {s : St} {c : List Value} {a : Ex} {d : List Value} (h : EX w v b R0 R1 ts s c) (hr : RepE v (fun g => R1 < g) a d) : VX w (v.alloc (.cells d.toArray 34)) b R0 R1 v.heap.size ts s c a d := by
  have hb : Below v.heap.size v (v.alloc (.cells d.toArray 34)) := (Below.refl _ v).alloc (Nat.le_refl _) _
  exact ⟨h.lift hb, BoxC.made _ v d, hr.lift hb, h.lt⟩
/-- The kids are stored. -/
theorem VX.two {w v : World} {b R0 R1 R2 : Nat} {ts : List Tok} {s : St} {c : List Value} {a : Ex} {d : List Value} (h : VX w v b R0 R1 R2 ts s c a d) {u : Ex} {k : List Value} (hu : RepE v (fun g => R1 < g) u k) (Z : TypeId) :
    EX w ((v.setCell ⟨R1, 4, none⟩ (.slice (some ⟨v.heap.size, 0, none⟩) 2 2)).alloc (.cells (d ++ k).toArray Z)) b R0 R1 ts s (c.set 4 (.slice (some ⟨v.heap.size, 0, none⟩) 2 2)) ∧
    SlG ExE ((v.setCell ⟨R1, 4, none⟩ (.slice (some ⟨v.heap.size, 0, none⟩) 2 2)).alloc (.cells (d ++ k).toArray Z)) (fun g => R1 < g) [a, u] (.slice (some ⟨v.heap.size, 0, none⟩) 2 2) := by
  obtain ⟨-, hg, hs⟩ := h.eb.box.set 4 (.slice (some ⟨v.heap.size, 0, none⟩) 2 2)
  have hlt := h.eb.lt
  refine ⟨(h.eb.set 4 _).lift ((Below.refl _ _).alloc (Nat.le_refl _) _), two_newE (S := fun g => R1 < g) ?_ ?_ Z _ hs.symm (fun _ h => h) hlt⟩
  · exact h.rep.kept (fun _ h => h) (fun g h1 h2 => hg.block g h2 (by intro e; have := Option.some.inj e; omega))
  · exact hu.kept (fun _ h => h) (fun g h1 h2 => hg.block g h2 (by intro e; have := Option.some.inj e; omega))
/-- What holds while the arms are read. -/
structure CX (w v : World) (b R0 R1 B2 : Nat) (ts : List Tok) (s : St) (c : List Value) (a : Ex) (kv sv : Value) (l : List (AH × Ex)) : Prop where
  eb : EX w v b R0 R1 ts s c
  kid : SlG ExE v (fun g => R1 < g ∧ g < B2) [a] kv
  row : RowG AmE v B2 (fun g => B2 ≤ g) sv l
  h2 : R1 < B2
  h3 : B2 ≤ v.heap.size
theorem CX.call {w v v' : World} {b R0 R1 B2 : Nat} {ts : List Tok} {s s' : St} {c : List Value} {a : Ex} {kv sv : Value} {l : List (AH × Ex)} (h : CX w v b R0 R1 B2 ts s c a kv sv l) (hr : RdX v' b ts s') (hg : v.grownBy v' (some b)) : CX w v' b R0 R1 B2 ts s' c a kv sv l := by
  have h0 := h.eb.h0; have hb := h.eb.hb; have h1 := h.eb.h1; have h2 := h.h2
  exact ⟨h.eb.call hr hg, h.kid.kept (fun _ h => h) (fun g h3 h4 => hg.block g h4 (by intro e; have := Option.some.inj e; have := h3.1; omega)), h.row.kept hg (h.row.off (by omega)) (fun g h3 e => by have := Option.some.inj e; omega), h2, Nat.le_trans h.h3 hg.size⟩
theorem CX.lift {w v v' : World} {b R0 R1 B2 : Nat} {ts : List Tok} {s : St} {c : List Value} {a : Ex} {kv sv : Value} {l : List (AH × Ex)} (h : CX w v b R0 R1 B2 ts s c a kv sv l) (hb : Below v.heap.size v v') : CX w v' b R0 R1 B2 ts s c a kv sv l := h.call (h.eb.rd.lift hb) (below_grown_some hb b)
theorem CX.push {w v v' : World} {b R0 R1 B2 : Nat} {ts : List Tok} {s : St} {c : List Value} {a : Ex} {kv sv sv' : Value} {l l' : List (AH × Ex)} (h : CX w v b R0 R1 B2 ts s c a kv sv l) (hrow : RowG AmE v' B2 (fun g => B2 ≤ g) sv' l') (hg : v.grownBy v' sv.ownBlock) : CX w v' b R0 R1 B2 ts s c a kv sv' l' := by
  have h0 := h.eb.h0; have hb := h.eb.hb; have h1 := h.eb.h1; have h2 := h.h2
  cases hv : sv.ownBlock with
  | none =>
    rw [hv] at hg
    have hbl : Below v.heap.size v v' := ⟨hg.os, hg.tape, hg.output, hg.size, fun i hi => hg.block i hi (by simp)⟩
    have := h.lift hbl
    exact ⟨this.eb, this.kid, hrow, h2, this.h3⟩
  | some k =>
    rw [hv] at hg
    have hk := (h.row.lt k hv).1
    exact ⟨⟨h.eb.rd.other (by omega) hg, h.eb.res.grown hg (by intro e; have := Option.some.inj e; omega), h.eb.box.grown hg (by intro e; have := Option.some.inj e; omega), grown_fresh h.eb.grown hg (fun i e => by have := Option.some.inj e; omega), h0, h1, hb⟩,
      h.kid.kept (fun _ h => h) (fun g h3 h4 => hg.block g h4 (by intro e; have := Option.some.inj e; have := h3.2; omega)), hrow, h2, Nat.le_trans h.h3 hg.size⟩
theorem CX.set {w v : World} {b R0 R1 B2 : Nat} {ts : List Tok} {s : St} {c : List Value} {a : Ex} {kv sv : Value} {l : List (AH × Ex)} (h : CX w v b R0 R1 B2 ts s c a kv sv l) (m : Nat) (u : Value) : CX w (v.setCell ⟨R1, m, none⟩ u) b R0 R1 B2 ts s (c.set m u) a kv sv l := by
  obtain ⟨-, h2, h3⟩ := h.eb.box.set m u
  have h1 := h.eb.h1; have h12 := h.h2
  exact ⟨h.eb.set m u, h.kid.kept (fun _ h => h) (fun g h3 h4 => h2.block g h4 (by intro e; have := Option.some.inj e; have := h3.1; omega)), h.row.kept h2 (h.row.off (by omega)) (fun g h3 e => by have := Option.some.inj e; omega), h12, by rw [h3]; exact h.h3⟩
theorem CX.first {w v : World} {b R0 R1 B2 : Nat} {ts : List Tok} {s : St} {c : List Value} {a : Ex} {kv : Value} (heb : EX w v b R0 R1 ts s c) (hkid : SlG ExE v (fun g => R1 < g ∧ g < B2) [a] kv) (h2 : R1 < B2) (h3 : B2 ≤ v.heap.size) {A : AH × Ex} {d : List Value} (hA : AmE.rep v (fun g => B2 ≤ g) A d) :
    CX w ((v.setCell ⟨R1, 5, none⟩ (.slice (some ⟨v.heap.size, 0, none⟩) 1 1)).alloc (.cells d.toArray 61)) b R0 R1 B2 ts s (c.set 5 (.slice (some ⟨v.heap.size, 0, none⟩) 1 1)) a kv (.slice (some ⟨v.heap.size, 0, none⟩) 1 1) [A] := by
  obtain ⟨-, hg, hs⟩ := heb.box.set 5 (.slice (some ⟨v.heap.size, 0, none⟩) 1 1)
  have hA' := AmE.kept (w' := v.setCell ⟨R1, 5, none⟩ (.slice (some ⟨v.heap.size, 0, none⟩) 1 1)) (fun _ h => h) (fun g h4 h5 => hg.block g h5 (by intro e; have := Option.some.inj e; omega)) hA
  have hb : Below (v.setCell ⟨R1, 5, none⟩ (.slice (some ⟨v.heap.size, 0, none⟩) 1 1)).heap.size (v.setCell ⟨R1, 5, none⟩ (.slice (some ⟨v.heap.size, 0, none⟩) 1 1)) ((v.setCell ⟨R1, 5, none⟩ (.slice (some ⟨v.heap.size, 0, none⟩) 1 1)).alloc (.cells d.toArray 61)) := (Below.refl _ _).alloc (Nat.le_refl _) _
  exact ⟨(heb.set 5 _).lift hb, (hkid.kept (fun _ h => h) (fun g h4 h5 => hg.block g h5 (by intro e; have := Option.some.inj e; have := h4.1; omega))).kept (fun _ h => h) (fun g _ h5 => hb.block g h5), row_one hA' _ B2 hs.symm (by omega) _ (fun _ h => h), h2, Nat.le_trans (by rw [hs]; exact h3) hb.size⟩
end Go.Proofs.YtgcefodgjhlbeaaGreatDoor

/- The reference's reader of expressions: the next token's place, a number. -/
namespace Go.Proofs.YtgcefodgjhlbeaaGreatDoor
open Go.RowKit Go.Maps Mth

set_option maxHeartbeats 1600000 in
theorem rdPos_any (b : Nat) (ts : List Tok) (s : St) (w : World) (h : RdX w b ts s) : Calls Tryz.prog 55 #[.pointer (some ⟨b, 0, none⟩)] w fun e w' => e = .returned (.int .i64 (tkP ts s.i)) ∧ Below w.heap.size w w' := by
  obtain ⟨i, q, p⟩ := s
  obtain ⟨lv, hr, ⟨a, cap, rfl, hcap, hc⟩, hi, hp, hl⟩ := h
  obtain ⟨c0, c1, c2, c3, f1, f2, f3⟩ := hr.cells
  have hl1 := hl.1
  have HC := Lib.hid hc
  clear hc hr hp hl
  dsimp only at hi
  by_cases hlt : i < ts.length
  · obtain ⟨t, ht⟩ : ∃ x, ts[i]? = some x := ⟨_, List.getElem?_eq_getElem hlt⟩
    obtain ⟨g, rfl, hg, d0, d1, d2⟩ := HC.out i t ht
    have HE : Hid (tkP ts i = t.pos) := by show _ = _; unfold tkP; rw [ht]
    clear ht
    have hli : ((i : Int) < (ts.length : Int)) := by omega
    go_enter Tryz.func55, Tryz.ntmps55
    go_wp2
    go_quiet (fail)
    go_wp2
    go_quiet (fail)
    go_wp2
    go_ret
    exact ⟨ret_int HE.out.symm, by first | exact below_drewN (below_drewN (Below.refl _ w) _) _ | exact below_drewN (Below.refl _ w) _⟩
  · have HE : Hid (tkP ts i = 0) := by show _ = _; unfold tkP; rw [List.getElem?_eq_none (by omega)]
    have hli : decide ((i : Int) < (ts.length : Int)) = false := by simpa using hlt
    go_enter Tryz.func55, Tryz.ntmps55
    go_wp2
    go_quiet (fail)
    go_wp2
    go_ret
    exact ⟨ret_int HE.out.symm, by first | exact below_drewN (below_drewN (Below.refl _ w) _) _ | exact below_drewN (Below.refl _ w) _⟩

end Go.Proofs.YtgcefodgjhlbeaaGreatDoor
