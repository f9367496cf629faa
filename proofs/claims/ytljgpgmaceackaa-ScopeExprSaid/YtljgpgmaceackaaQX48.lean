import Derived.Test.YtljgpgmaceackaaQX29
import Derived.Test.YtljgpgmaceackaaQX30
import Derived.Deep.LoopGhost
import Derived.Test.YtljgpgmaceackaaQX47
import Derived.Deep.CutBlock
import Derived.Test.YtljgpgmaceackaaQX49
/- The maker of expressions: its memory while it makes one. -/
namespace Go.Proofs.Ytljgpgmaceackaa.MR
open Go.RowKit Go.Maps Mth

/-- What holds while a method reads: its result's variable, and a variable of its own. -/
structure EX (w v : World) (b R0 R1 : Nat) (c : List Value) : Prop where
  rd : S3.Tq v b
  res : BoxC 36 v R0 zExC
  box : BoxC 36 v R1 c
  grown : w.grownBy v (some b)
  h0 : w.heap.size ≤ R0
  h1 : R0 < R1
  hb : b < w.heap.size
theorem EX.lt {w v : World} {b R0 R1 : Nat} {c : List Value} (h : EX w v b R0 R1 c) : R1 < v.heap.size := h.box.lt
theorem EX.call {w v v' : World} {b R0 R1 : Nat} {c : List Value} (h : EX w v b R0 R1 c) (hr : S3.Tq v' b) (hg : v.grownBy v' (some b)) : EX w v' b R0 R1 c :=
  ⟨hr, h.res.grown hg (by have := h.hb; have := h.h0; intro e; have := Option.some.inj e; omega), h.box.grown hg (by have := h.hb; have := h.h0; have := h.h1; intro e; have := Option.some.inj e; omega), grown_trans h.grown hg, h.h0, h.h1, h.hb⟩
theorem EX.lift {w v v' : World} {b R0 R1 : Nat} {c : List Value} (h : EX w v b R0 R1 c) (hb : Below v.heap.size v v') : EX w v' b R0 R1 c :=
  h.call (h.rd.lift hb) (below_grown_some hb b)
theorem EX.set {w v : World} {b R0 R1 : Nat} {c : List Value} (h : EX w v b R0 R1 c) (m : Nat) (u : Value) : EX w (v.setCell ⟨R1, m, none⟩ u) b R0 R1 (c.set m u) := by
  obtain ⟨h1, h2, -⟩ := h.box.set m u
  have := h.hb; have := h.h0; have h01 := h.h1
  exact ⟨h.rd.other (by omega) h2, h.res.grown h2 (by intro e; have := Option.some.inj e; omega), h1, grown_fresh h.grown h2 (fun k e => by have := Option.some.inj e; omega), h.h0, h01, h.hb⟩
theorem EX.row {w v v' : World} {b R0 R1 : Nat} {c c' : List Value} (h : EX w v b R0 R1 c) (h1 : BoxC 36 v' R1 c') (h2 : v.grownBy v' (some R1)) : EX w v' b R0 R1 c' := by
  have := h.hb; have := h.h0; have h01 := h.h1
  exact ⟨h.rd.other (by omega) h2, h.res.grown h2 (by intro e; have := Option.some.inj e; omega), h1, grown_fresh h.grown h2 (fun k e => by have := Option.some.inj e; omega), h.h0, h01, h.hb⟩
/-- The end: the result is stored. -/
theorem EX.fin {w v v' : World} {b R0 R1 : Nat} {c : List Value} (h : EX w v b R0 R1 c) (hg : v.grownBy v' (some R0)) : S3.Tq v' b ∧ w.grownBy v' (some b) := by
  have := h.hb; have := h.h0; have h01 := h.h1
  exact ⟨h.rd.other (by omega) hg, grown_fresh h.grown hg (fun k e => by have := Option.some.inj e; omega)⟩
/-- What holds before the method's own variable is made. -/
structure PX (w v : World) (b R0 : Nat) : Prop where
  rd : S3.Tq v b
  res : BoxC 36 v R0 zExC
  grown : w.grownBy v (some b)
  h0 : w.heap.size ≤ R0
  hb : b < w.heap.size
theorem PX.start {w : World} {b : Nat} (h : S3.Tq w b) : PX w (w.alloc (.cells #[.int .i64 0, .int .i64 0, .string ⟨#[]⟩, .int .i64 0, .slice none 0 0, .slice none 0 0, .int .i64 0, .string ⟨#[]⟩, .int .i64 0, .int .i64 0, .slice none 0 0] 36)) b w.heap.size := by
  have hb : Below w.heap.size w (w.alloc (.cells #[.int .i64 0, .int .i64 0, .string ⟨#[]⟩, .int .i64 0, .slice none 0 0, .slice none 0 0, .int .i64 0, .string ⟨#[]⟩, .int .i64 0, .int .i64 0, .slice none 0 0] 36)) := (Below.refl _ w).alloc (Nat.le_refl _) _
  exact ⟨h.lift hb, BoxC.made _ w zExC, below_grown_some hb b, Nat.le_refl _, h.lt⟩
theorem PX.call {w v v' : World} {b R0 : Nat} (h : PX w v b R0) (hr : S3.Tq v' b) (hg : v.grownBy v' (some b)) : PX w v' b R0 :=
  ⟨hr, h.res.grown hg (by have := h.hb; have := h.h0; intro e; have := Option.some.inj e; omega), grown_trans h.grown hg, h.h0, h.hb⟩
theorem PX.lift {w v v' : World} {b R0 : Nat} (h : PX w v b R0) (hb : Below v.heap.size v v') : PX w v' b R0 := h.call (h.rd.lift hb) (below_grown_some hb b)
theorem PX.mk' {w v : World} {b R0 : Nat} (h : PX w v b R0) (c : List Value) : EX w (v.alloc (.cells c.toArray 36)) b R0 v.heap.size c := by
  have h1 := h.lift ((Below.refl _ v).alloc (Nat.le_refl _) (.cells c.toArray 36))
  exact ⟨h1.rd, h1.res, BoxC.made _ v c, h1.grown, h.h0, h.res.lt, h.hb⟩
theorem PX.fin {w v v' : World} {b R0 : Nat} (h : PX w v b R0) (hg : v.grownBy v' (some R0)) : S3.Tq v' b ∧ w.grownBy v' (some b) := by
  have := h.hb; have := h.h0
  exact ⟨h.rd.other (by omega) hg, grown_fresh h.grown hg (fun k e => by have := Option.some.inj e; omega)⟩
theorem EX.pb {w v : World} {b R0 R1 : Nat} {c : List Value} (h : EX w v b R0 R1 c) : PX w v b R0 := ⟨h.rd, h.res, h.grown, h.h0, h.hb⟩
/-- What a method returns: its own variable, stored into the result. -/
theorem EX.ret {w v v' : World} {b R0 R1 base : Nat} {c c' : List Value} {T : Ex} (h : EX w v b R0 R1 c) (hr : RepE v (fun g => R1 < g) T c') (hbase : base ≤ w.heap.size) (hg : v.grownBy v' (some R0)) :
    RepE v' (fun g => base ≤ g) T c' ∧ S3.Tq v' b ∧ w.grownBy v' (some b) := by
  have h0 := h.h0
  have h1 := h.h1
  exact ⟨repE_far hr (by omega) fun g h2 h3 => hg.block g h3 (by intro e; have := Option.some.inj e; omega), h.fin hg⟩
theorem PX.ret {w v v' : World} {b R0 base : Nat} {c' : List Value} {T : Ex} (h : PX w v b R0) (hr : RepE v (fun g => R0 < g) T c') (hbase : base ≤ w.heap.size) (hg : v.grownBy v' (some R0)) :
    RepE v' (fun g => base ≤ g) T c' ∧ S3.Tq v' b ∧ w.grownBy v' (some b) := by
  have h0 := h.h0
  exact ⟨repE_far hr (by omega) fun g h2 h3 => hg.block g h3 (by intro e; have := Option.some.inj e; omega), h.fin hg⟩
theorem PX.far {w v v' : World} {b R0 : Nat} {c : List Value} {T : Ex} (h : PX w v b R0) (hr : RepE v (fun g => R0 < g) T c) (hg : v.grownBy v' (some b)) : RepE v' (fun g => R0 < g) T c := by
  have h0 := h.h0
  have hb := h.hb
  exact hr.kept (fun _ h => h) fun g h1 h2 => hg.block g h2 (by intro e; have := Option.some.inj e; omega)

/-- What holds between two atoms. -/
structure AX (w v : World) (b R0 R1 : Nat) (c : List Value) (e : Ex) : Prop where
  eb : EX w v b R0 R1 c
  rep : RepE v (fun g => R0 < g ∧ g ≠ R1) e c
theorem AX.call {w v v' : World} {b R0 R1 : Nat} {c : List Value} {e : Ex} (h : AX w v b R0 R1 c e) (hr : S3.Tq v' b) (hg : v.grownBy v' (some b)) : AX w v' b R0 R1 c e := by
  have h0 := h.eb.h0
  have hb := h.eb.hb
  exact ⟨h.eb.call hr hg, h.rep.kept (fun _ h => h) (fun g h1 hl => hg.block g hl (by intro e; have := Option.some.inj e; have := h1.1; omega))⟩
theorem AX.lift {w v v' : World} {b R0 R1 : Nat} {c : List Value} {e : Ex} (h : AX w v b R0 R1 c e) (hb : Below v.heap.size v v') : AX w v' b R0 R1 c e := h.call (h.eb.rd.lift hb) (below_grown_some hb b)
theorem AX.mk' {w v : World} {b R0 : Nat} (h : PX w v b R0) {e : Ex} {c : List Value} (hr : RepE v (fun g => R0 < g) e c) : AX w (v.alloc (.cells c.toArray 36)) b R0 v.heap.size c e :=
  ⟨h.mk' c, (hr.bound.lift ((Below.refl _ v).alloc (Nat.le_refl _) _)).imp fun _ hg => ⟨hg.1, Nat.ne_of_lt hg.2⟩⟩
theorem AX.ret {w v v' : World} {b R0 R1 base : Nat} {c : List Value} {e : Ex} (h : AX w v b R0 R1 c e) (hbase : base ≤ w.heap.size) (hg : v.grownBy v' (some R0)) :
    RepE v' (fun g => base ≤ g) e c ∧ S3.Tq v' b ∧ w.grownBy v' (some b) := h.eb.pb.ret (h.rep.imp fun _ h => h.1) hbase hg
theorem EX.zall {w v : World} {b R0 R1 : Nat} {c : List Value} (h : EX w v b R0 R1 c) : v.cell? ⟨R0, 0, none⟩ = some (.int .i64 0) ∧ v.cell? ⟨R0, 1, none⟩ = some (.int .i64 0) ∧ v.cell? ⟨R0, 2, none⟩ = some (.string ⟨#[]⟩) ∧ v.cell? ⟨R0, 3, none⟩ = some (.int .i64 0) ∧ v.cell? ⟨R0, 4, none⟩ = some (.slice none 0 0) ∧ v.cell? ⟨R0, 5, none⟩ = some (.slice none 0 0) ∧ v.cell? ⟨R0, 6, none⟩ = some (.int .i64 0) ∧ v.cell? ⟨R0, 7, none⟩ = some (.string ⟨#[]⟩) ∧ v.cell? ⟨R0, 8, none⟩ = some (.int .i64 0) ∧ v.cell? ⟨R0, 9, none⟩ = some (.int .i64 0) ∧ v.cell? ⟨R0, 10, none⟩ = some (.slice none 0 0) :=
  ⟨h.res.cell 0 _ rfl, h.res.cell 1 _ rfl, h.res.cell 2 _ rfl, h.res.cell 3 _ rfl, h.res.cell 4 _ rfl, h.res.cell 5 _ rfl, h.res.cell 6 _ rfl, h.res.cell 7 _ rfl, h.res.cell 8 _ rfl, h.res.cell 9 _ rfl, h.res.cell 10 _ rfl⟩
/-- The result of a let is stored. -/
theorem AX.loc {w v : World} {b R0 R1 base : Nat} {c : List Value} {a : Ex} (h : AX w v b R0 R1 c a) {u : Ex} {k : List Value} (hu : RepE v (fun g => R0 < g ∧ g ≠ R1) u k) (kk p : Int) (nm : ByteArray) (hn : nm.size ≤ maxLen) (hbase : base ≤ w.heap.size) (V : World)
    (hV : V = (((((((((((v.setCell ⟨R0, 0, none⟩ (.int .i64 kk)).setCell ⟨R0, 1, none⟩ (.int .i64 p)).setCell ⟨R0, 2, none⟩ (.string nm)).setCell ⟨R0, 3, none⟩ (.int .i64 0)).setCell ⟨R0, 4, none⟩ (.slice (some ⟨v.heap.size, 0, none⟩) 2 2)).setCell ⟨R0, 5, none⟩ (.slice none 0 0)).setCell ⟨R0, 6, none⟩ (.int .i64 0)).setCell ⟨R0, 7, none⟩ (.string ⟨#[]⟩)).setCell ⟨R0, 8, none⟩ (.int .i64 0)).setCell ⟨R0, 9, none⟩ (.int .i64 0)).setCell ⟨R0, 10, none⟩ (.slice none 0 0)).alloc (.cells (c ++ k).toArray 36)) :
    BoxC 36 V R0 [.int .i64 kk, .int .i64 p, .string nm, .int .i64 0, .slice (some ⟨v.heap.size, 0, none⟩) 2 2, .slice none 0 0, .int .i64 0, .string ⟨#[]⟩, .int .i64 0, .int .i64 0, .slice none 0 0] ∧ RepE V (fun g => base ≤ g) (.mk kk p nm 0 zTy [a, u] []) [.int .i64 kk, .int .i64 p, .string nm, .int .i64 0, .slice (some ⟨v.heap.size, 0, none⟩) 2 2, .slice none 0 0, .int .i64 0, .string ⟨#[]⟩, .int .i64 0, .int .i64 0, .slice none 0 0] ∧ S3.Tq V b ∧ w.grownBy V (some b) := by
  have h0 := h.eb.h0
  have hlt := h.eb.lt
  have h01 := h.eb.h1
  obtain ⟨h1, h2, h3⟩ := BoxC.set11s (show BoxC 36 v R0 [.int .i64 0, .int .i64 0, .string ⟨#[]⟩, .int .i64 0, .slice none 0 0, .slice none 0 0, .int .i64 0, .string ⟨#[]⟩, .int .i64 0, .int .i64 0, .slice none 0 0] from h.eb.res) (.int .i64 kk) (.int .i64 p) (.string nm) (.int .i64 0) (.slice (some ⟨v.heap.size, 0, none⟩) 2 2) (.slice none 0 0) (.int .i64 0) (.string ⟨#[]⟩) (.int .i64 0) (.int .i64 0) (.slice none 0 0)
  have hrep := h.rep.kept (S' := fun g => R0 < g ∧ g ≠ R1) (fun _ h => h) (fun g hg hl => h2.block g hl (by intro e; have := Option.some.inj e; omega))
  have hu' := hu.kept (S' := fun g => R0 < g ∧ g ≠ R1) (fun _ h => h) (fun g hg hl => h2.block g hl (by intro e; have := Option.some.inj e; omega))
  obtain ⟨hr1, hr2⟩ := h.eb.pb.fin h2
  generalize (((((((((((v.setCell ⟨R0, 0, none⟩ (.int .i64 kk)).setCell ⟨R0, 1, none⟩ (.int .i64 p)).setCell ⟨R0, 2, none⟩ (.string nm)).setCell ⟨R0, 3, none⟩ (.int .i64 0)).setCell ⟨R0, 4, none⟩ (.slice (some ⟨v.heap.size, 0, none⟩) 2 2)).setCell ⟨R0, 5, none⟩ (.slice none 0 0)).setCell ⟨R0, 6, none⟩ (.int .i64 0)).setCell ⟨R0, 7, none⟩ (.string ⟨#[]⟩)).setCell ⟨R0, 8, none⟩ (.int .i64 0)).setCell ⟨R0, 9, none⟩ (.int .i64 0)).setCell ⟨R0, 10, none⟩ (.slice none 0 0)) = W at *
  subst hV
  have hb : Below W.heap.size W (W.alloc (.cells (c ++ k).toArray 36)) := (Below.refl _ W).alloc (Nat.le_refl _) _
  exact ⟨h1.lift hb, repE_kids kk p nm 0 hn (two_newE hrep hu' 36 v.heap.size h3.symm (fun g hg => by omega) (by omega)), hr1.lift hb, grown_trans hr2 (below_grown_some hb b)⟩
/-- What holds between two arms, but for the arms. -/
structure CK (w v : World) (b R0 R1 B2 : Nat) (c : List Value) (a : Ex) (kv : Value) : Prop where
  eb : EX w v b R0 R1 c
  kid : SlG ExE v (fun g => R0 < g ∧ g ≠ R1 ∧ g < B2) [a] kv
  h2 : R1 < B2
  h3 : B2 ≤ v.heap.size
theorem CK.call {w v v' : World} {b R0 R1 B2 : Nat} {c : List Value} {a : Ex} {kv : Value} (h : CK w v b R0 R1 B2 c a kv) (hr : S3.Tq v' b) (hg : v.grownBy v' (some b)) : CK w v' b R0 R1 B2 c a kv := by
  have h0 := h.eb.h0; have hb := h.eb.hb; have h1 := h.eb.h1; have h2 := h.h2
  exact ⟨h.eb.call hr hg, h.kid.kept (fun _ h => h) (fun g h3 h4 => hg.block g h4 (by intro e; have := Option.some.inj e; have := h3.1; omega)), h2, Nat.le_trans h.h3 hg.size⟩
theorem CK.lift {w v v' : World} {b R0 R1 B2 : Nat} {c : List Value} {a : Ex} {kv : Value} (h : CK w v b R0 R1 B2 c a kv) (hb : Below v.heap.size v v') : CK w v' b R0 R1 B2 c a kv := h.call (h.eb.rd.lift hb) (below_grown_some hb b)
/-- A later block changes. -/
theorem CK.other {w v v' : World} {b R0 R1 B2 : Nat} {c : List Value} {a : Ex} {kv : Value} {R : Nat} (h : CK w v b R0 R1 B2 c a kv) (hR : B2 ≤ R) (hg : v.grownBy v' (some R)) : CK w v' b R0 R1 B2 c a kv := by
  have h0 := h.eb.h0; have hb := h.eb.hb; have h1 := h.eb.h1; have h2 := h.h2
  exact ⟨⟨h.eb.rd.other (by omega) hg, h.eb.res.grown hg (by intro e; have := Option.some.inj e; omega), h.eb.box.grown hg (by intro e; have := Option.some.inj e; omega), grown_fresh h.eb.grown hg (fun i e => by have := Option.some.inj e; omega), h0, h1, hb⟩,
    h.kid.kept (fun _ h => h) (fun g h3 h4 => hg.block g h4 (by intro e; have := Option.some.inj e; have := h3.2.2; omega)), h2, Nat.le_trans h.h3 hg.size⟩
theorem CK.row {w v v' : World} {b R0 R1 B2 : Nat} {c : List Value} {a : Ex} {kv : Value} {row : Option Nat} (h : CK w v b R0 R1 B2 c a kv) (hR : ∀ R, row = some R → B2 ≤ R) (hg : v.grownBy v' row) : CK w v' b R0 R1 B2 c a kv := by
  cases row with
  | none => exact h.lift ⟨hg.os, hg.tape, hg.output, hg.size, fun i hi => hg.block i hi (by simp)⟩
  | some R => exact h.other (hR R rfl) hg
theorem CK.set {w v : World} {b R0 R1 B2 : Nat} {c : List Value} {a : Ex} {kv : Value} (h : CK w v b R0 R1 B2 c a kv) (m : Nat) (u : Value) : CK w (v.setCell ⟨R1, m, none⟩ u) b R0 R1 B2 (c.set m u) a kv := by
  obtain ⟨-, h2, h3⟩ := h.eb.box.set m u
  have h1 := h.eb.h1; have h12 := h.h2
  exact ⟨h.eb.set m u, h.kid.kept (fun _ h => h) (fun g h3 h4 => h2.block g h4 (by intro e; exact h3.2.1 (Option.some.inj e))), h12, by rw [h3]; exact h.h3⟩
/-- What holds between two arms. -/
structure CZ (w v : World) (b R0 R1 B2 : Nat) (c : List Value) (a : Ex) (kv sv : Value) (l : List (AH × Ex)) : Prop where
  ck : CK w v b R0 R1 B2 c a kv
  row : RowG AmE v B2 (fun g => B2 ≤ g) sv l
theorem rowA_bound {v : World} {B2 : Nat} {sv : Value} {l : List (AH × Ex)} (h : RowG AmE v B2 (fun g => B2 ≤ g) sv l) : RowG AmE v B2 (fun g => B2 ≤ g ∧ g < v.heap.size) sv l := by
  obtain ⟨L, hown, hl, hr⟩ := h
  refine ⟨L, hown, hl, fun j x hx => ?_⟩
  obtain ⟨c, h1, h2⟩ := hr j x hx
  exact ⟨c, h1, AmE.kept (fun g hg => ⟨⟨hg.1.1, hg.2⟩, hg.1.2⟩) (fun _ _ _ => rfl) (AmE.bound h2)⟩
theorem rowA_imp {v : World} {B2 R2 : Nat} {sv : Value} {l : List (AH × Ex)} (h : RowG AmE v B2 (fun g => B2 ≤ g ∧ g < R2) sv l) : RowG AmE v B2 (fun g => B2 ≤ g) sv l := by
  obtain ⟨L, hown, hl, hr⟩ := h
  refine ⟨L, hown, hl, fun j x hx => ?_⟩
  obtain ⟨c, h1, h2⟩ := hr j x hx
  exact ⟨c, h1, AmE.kept (fun g hg => ⟨hg.1.1, hg.2⟩) (fun _ _ _ => rfl) h2⟩
/-- The same with the arm's variable and its row of names. -/
structure RZ (w v : World) (b R0 R1 B2 R2 : Nat) (c : List Value) (a : Ex) (kv sv : Value) (l : List (AH × Ex)) (d : List Value) (nv : Value) (acc : List ByteArray) : Prop where
  ck : CK w v b R0 R1 B2 c a kv
  row : RowG AmE v B2 (fun g => B2 ≤ g ∧ g < R2) sv l
  box : BoxC 55 v R2 d
  nrow : RowG StrE v (R2 + 1) (fun _ => False) nv acc
  h4 : B2 ≤ R2
  h5 : ∀ k, sv.ownBlock = some k → k < R2
theorem RZ.mk' {w v : World} {b R0 R1 B2 : Nat} {c : List Value} {a : Ex} {kv sv : Value} {l : List (AH × Ex)} (h : CZ w v b R0 R1 B2 c a kv sv l) (d : List Value) : RZ w (v.alloc (.cells d.toArray 55)) b R0 R1 B2 v.heap.size c a kv sv l d (.slice none 0 0) [] :=
  ⟨h.ck.lift ((Below.refl _ v).alloc (Nat.le_refl _) _), (rowA_bound h.row).lift ((Below.refl _ v).alloc (Nat.le_refl _) _), BoxC.made _ v d, rowG_nil _ _ _ _, h.ck.h3, fun k e => (h.row.lt k e).2⟩
theorem CZ.call {w v v' : World} {b R0 R1 B2 : Nat} {c : List Value} {a : Ex} {kv sv : Value} {l : List (AH × Ex)} (h : CZ w v b R0 R1 B2 c a kv sv l) (hr : S3.Tq v' b) (hg : v.grownBy v' (some b)) : CZ w v' b R0 R1 B2 c a kv sv l := by
  have h0 := h.ck.eb.h0; have hb := h.ck.eb.hb; have h1 := h.ck.eb.h1; have h2 := h.ck.h2
  exact ⟨h.ck.call hr hg, h.row.kept hg (h.row.off (by omega)) (fun g h3 e => by have := Option.some.inj e; omega)⟩
theorem CZ.lift {w v v' : World} {b R0 R1 B2 : Nat} {c : List Value} {a : Ex} {kv sv : Value} {l : List (AH × Ex)} (h : CZ w v b R0 R1 B2 c a kv sv l) (hb : Below v.heap.size v v') : CZ w v' b R0 R1 B2 c a kv sv l := h.call (h.ck.eb.rd.lift hb) (below_grown_some hb b)
theorem CZ.set {w v : World} {b R0 R1 B2 : Nat} {c : List Value} {a : Ex} {kv sv : Value} {l : List (AH × Ex)} (h : CZ w v b R0 R1 B2 c a kv sv l) (m : Nat) (u : Value) : CZ w (v.setCell ⟨R1, m, none⟩ u) b R0 R1 B2 (c.set m u) a kv sv l := by
  obtain ⟨-, h2, h3⟩ := h.ck.eb.box.set m u
  have h12 := h.ck.h2
  exact ⟨h.ck.set m u, h.row.kept h2 (h.row.off (by omega)) (fun g h3 e => by have := Option.some.inj e; omega)⟩
theorem RZ.call {w v v' : World} {b R0 R1 B2 R2 : Nat} {c : List Value} {a : Ex} {kv sv : Value} {l : List (AH × Ex)} {d : List Value} {nv : Value} {acc : List ByteArray} (h : RZ w v b R0 R1 B2 R2 c a kv sv l d nv acc) (hr : S3.Tq v' b) (hg : v.grownBy v' (some b)) : RZ w v' b R0 R1 B2 R2 c a kv sv l d nv acc := by
  have h0 := h.ck.eb.h0; have hb := h.ck.eb.hb; have h1 := h.ck.eb.h1; have h2 := h.ck.h2; have h4 := h.h4
  exact ⟨h.ck.call hr hg, h.row.kept hg (h.row.off (by omega)) (fun g h3 e => by have := Option.some.inj e; have := h3.1; omega), h.box.grown hg (by intro e; have := Option.some.inj e; omega), row_str h.nrow hg (h.nrow.off (by omega)), h4, h.h5⟩
theorem RZ.lift {w v v' : World} {b R0 R1 B2 R2 : Nat} {c : List Value} {a : Ex} {kv sv : Value} {l : List (AH × Ex)} {d : List Value} {nv : Value} {acc : List ByteArray} (h : RZ w v b R0 R1 B2 R2 c a kv sv l d nv acc) (hb : Below v.heap.size v v') : RZ w v' b R0 R1 B2 R2 c a kv sv l d nv acc := h.call (h.ck.eb.rd.lift hb) (below_grown_some hb b)
/-- A name more. -/
theorem RZ.push {w v v' : World} {b R0 R1 B2 R2 : Nat} {c : List Value} {a : Ex} {kv sv : Value} {l : List (AH × Ex)} {d : List Value} {nv nv' : Value} {acc acc' : List ByteArray} (h : RZ w v b R0 R1 B2 R2 c a kv sv l d nv acc) (hrow : RowG StrE v' (R2 + 1) (fun _ => False) nv' acc') (hg : v.grownBy v' nv.ownBlock) : RZ w v' b R0 R1 B2 R2 c a kv sv l d nv' acc' := by
  have h4 := h.h4; have h5 := h.h5
  have hlt := h.nrow.lt
  refine ⟨h.ck.row (fun R e => by have := hlt R e; omega) hg, h.row.kept hg ?_ (fun g h3 e => by have := hlt g e.symm; have := h3.2; omega), h.box.grown hg (fun e => by have := hlt R2 e.symm; omega), hrow, h4, h5⟩
  cases hv : sv.ownBlock with
  | none => exact .inl rfl
  | some k => exact .inr (by intro e; have := hlt k e.symm; have := h5 k hv; omega)
/-- A field of the arm. -/
theorem RZ.set {w v : World} {b R0 R1 B2 R2 : Nat} {c : List Value} {a : Ex} {kv sv : Value} {l : List (AH × Ex)} {d : List Value} {nv : Value} {acc : List ByteArray} (h : RZ w v b R0 R1 B2 R2 c a kv sv l d nv acc) (m : Nat) (u : Value) : RZ w (v.setCell ⟨R2, m, none⟩ u) b R0 R1 B2 R2 c a kv sv l (d.set m u) nv acc := by
  obtain ⟨h1, h2, -⟩ := h.box.set m u
  have h4 := h.h4; have h5 := h.h5
  refine ⟨h.ck.other h4 h2, h.row.kept h2 ?_ (fun g h3 e => by have := Option.some.inj e; have := h3.2; omega), h1, row_str h.nrow h2 (h.nrow.off (by omega)), h4, h5⟩
  cases hv : sv.ownBlock with
  | none => exact .inl rfl
  | some k => exact .inr (by intro e; have := Option.some.inj e; have := h5 k hv; omega)
/-- The arm is whole: its row of arms, what it says. -/
theorem RZ.full {w v v' : World} {b R0 R1 B2 R2 : Nat} {c : List Value} {a : Ex} {kv sv : Value} {l : List (AH × Ex)} {nv : Value} {acc : List ByteArray} {p : Int} {n : ByteArray} {d e : List Value} {U : Ex} (h : RZ w v b R0 R1 B2 R2 c a kv sv l d nv acc) (hg : v.grownBy v' (some R2)) (hU : RepE v (fun g => R2 < g) U e) :
    CZ w v' b R0 R1 B2 c a kv sv l ∧ AmE.rep v' (fun g => B2 ≤ g ∧ some g ≠ sv.ownBlock) (⟨p, n, acc⟩, U) (.int .i64 p :: .string n :: nv :: e) := by
  have h4 := h.h4; have h5 := h.h5
  have hoff : sv.ownBlock = none ∨ sv.ownBlock ≠ some R2 := by
    cases hv : sv.ownBlock with
    | none => exact .inl rfl
    | some k => exact .inr (by intro e; have := Option.some.inj e; have := h5 k hv; omega)
  refine ⟨⟨h.ck.other h4 hg, rowA_imp (h.row.kept hg hoff (fun g h3 e => by have := Option.some.inj e; have := h3.2; omega))⟩, nv, e, rfl, ?_, ?_⟩
  · have hn := row_str h.nrow hg (h.nrow.off (by omega))
    have hs := (hn.slG (S' := fun g => R2 + 1 ≤ g) (fun _ h => h.elim) (fun _ h => h))
    exact hs.kept (fun g hg' => ⟨by omega, fun e => by have := h5 g e.symm; omega⟩) (fun _ _ _ => rfl)
  · exact hU.kept (fun g hg' => ⟨by omega, fun e => by have := h5 g e.symm; omega⟩) (fun g h2 h3 => hg.block g h3 (by intro e; have := Option.some.inj e; omega))
theorem CZ.push {w v v' : World} {b R0 R1 B2 : Nat} {c : List Value} {a : Ex} {kv sv sv' : Value} {l l' : List (AH × Ex)} (h : CZ w v b R0 R1 B2 c a kv sv l) (hrow : RowG AmE v' B2 (fun g => B2 ≤ g) sv' l') (hg : v.grownBy v' sv.ownBlock) : CZ w v' b R0 R1 B2 c a kv sv' l' :=
  ⟨h.ck.row (fun R e => (h.row.lt R e).1) hg, hrow⟩
/-- The case's variable is made. -/
theorem cz_new {w v : World} {b R0 : Nat} {a : Ex} {c : List Value} (h : PX w v b R0) (hr : RepE v (fun g => R0 < g) a c) (c8 : List Value) (V : World) (hV : V = (v.alloc (.cells c.toArray 36)).alloc (.cells c8.toArray 36)) :
    CZ w V b R0 (v.heap.size + 1) (v.heap.size + 2) c8 a (.slice (some ⟨v.heap.size, 0, none⟩) 1 1) (.slice none 0 0) [] := by
  subst hV
  have hlt := h.res.lt
  have h1 : Below v.heap.size v (v.alloc (.cells c.toArray 36)) := (Below.refl _ v).alloc (Nat.le_refl _) _
  have hs : (v.alloc (.cells c.toArray 36)).heap.size = v.heap.size + 1 := by simp
  have hP := (h.lift h1).mk' c8
  rw [hs] at hP
  have hk := (one_newE hr 36 v.heap.size rfl (S' := fun g => R0 < g) (fun _ h => h) hlt).bound
  have h2 : Below (v.alloc (.cells c.toArray 36)).heap.size (v.alloc (.cells c.toArray 36)) ((v.alloc (.cells c.toArray 36)).alloc (.cells c8.toArray 36)) := (Below.refl _ _).alloc (Nat.le_refl _) _
  refine ⟨⟨hP, hk.kept (fun g hg => ?_) (fun g _ hl => h2.block g hl), by omega, by simp⟩, rowG_nil _ _ _ _⟩
  have := hg.2
  rw [hs] at this
  exact ⟨hg.1, by omega, by omega⟩
theorem wpList_push_am {w : World} {ops : Array Oper} {rest : List Oper} {o : Oper} {x0 : Act} {Q : Exit → Act → World → Prop} {base : Nat} {sv : Value} {acc : List (AH × Ex)} {A : AH × Ex} {c : List Value} (hA : AmE.rep w (fun g => base ≤ g ∧ some g ≠ sv.ownBlock) A c) (hrow : RowG AmE w base (fun g => base ≤ g) sv acc)
    (hgd : o.guard = none) (s x : Operand) (ho : o.op = .call { callee := .builtin .append, args := #[s, x], argTypes := #[31, 31] }) (hs : x0.eval s = sv) (hx : x0.eval x = .slice (some ⟨w.heap.size, 0, none⟩) 1 1)
    (N : Nat) (hN : N = acc.length + 1) (hb : N ≤ 1000000) (hbase : base ≤ w.heap.size)
    (hK : ∀ (a' : Option Addr) (c' : Nat) (w' : World), RowG AmE w' base (fun g => base ≤ g) (.slice a' N c') (acc ++ [A]) → w.grownBy w' sv.ownBlock → wpList Try.prog ops Q rest (x0.put o.dst (.slice a' N c')) w') :
    wpList Try.prog ops Q (o :: rest) x0 (w.alloc (.cells c.toArray 55)) := by
  have hba : Below w.heap.size w (w.alloc (.cells c.toArray 55)) := (Below.refl _ w).alloc (Nat.le_refl _) _
  exact wpList_pushG AmE hgd s x ho base (fun g => base ≤ g) sv acc hs (hrow.lift hba) w.heap.size 55 c (heap_alloc_new w _) hx A (AmE.kept (fun _ h => h) (fun g _ hl => hba.block g hl) hA) N hN hb (Nat.le_trans hbase hba.size) fun a' c' w' h1 h2 => hK a' c' w' h1 (grown_trans (World.grownBy_alloc w _ _) h2)
/-- What the maker hands back: an expression of a depth; the tape stands. -/
def MadeE (d base b : Nat) (w w' : World) (u : Value) : Prop := ∃ T c, u = .agg (List.toArray c) ∧ RepE w' (fun g => base ≤ g) T c ∧ OkE d T ∧ S3.Tq w' b ∧ w.grownBy w' (some b)
def RawEnd (d base b : Nat) (w : World) (e : Ending) (w' : World) : Prop := ∃ u, e = .returned u ∧ MadeE d base b w w' u
def RawAt (d : Nat) : Prop := ∀ (z : Int) (ds : List Dat) (dv : Value) (S : Nat → Prop) (b base : Nat) (w : World), z = d → d ≤ 5 → S3.Some_ ds → SlG DatE w S ds dv → (∀ g, S g → g ≠ b) → S3.Tq w b → base ≤ w.heap.size →
  Calls Try.prog 9 #[.pointer (some ⟨b, 0, none⟩), dv, .int .i64 z] w (RawEnd d base b w)
theorem raw_fin {d base b : Nat} {w w' : World} {T : Ex} {c : List Value} (h : RepE w' (fun g => base ≤ g) T c ∧ S3.Tq w' b ∧ w.grownBy w' (some b)) (ho : OkE d T) : RawEnd d base b w (.returned (.agg c.toArray)) w' :=
  ⟨_, rfl, T, c, rfl, h.1, ho, h.2.1, h.2.2⟩
end Go.Proofs.Ytljgpgmaceackaa.MR

/- The maker of expressions: choices, names, the leaves. -/
namespace Go.Proofs.Ytljgpgmaceackaa.MR
open Go.RowKit Go.Maps Mth

set_option maxHeartbeats 1600000 in
theorem next_r (n : Int) (h1 : 1 ≤ n) (h2 : n ≤ 1000) (b : Nat) (w : World) (h : S3.Tq w b) :
    ∃ r : Int, 0 ≤ r ∧ r < n ∧ Calls Try.prog 19 #[.pointer (some ⟨b, 0, none⟩), .int .i64 n] w fun e w' => e = .returned (.int .i64 r) ∧ S3.Tq w' b ∧ w.grownBy w' (some b) := by
  obtain ⟨zs, a, cap, i, ht, hi, hl, hc⟩ := h
  obtain ⟨c0, c1, f1⟩ := ht.cells
  have HC := Lib.hid hc
  clear hc
  by_cases hlt : i < zs.length
  · have hge : decide ((zs.length : Int) ≤ (i : Int)) = false := by simpa using hlt
    obtain ⟨x, hx⟩ : ∃ x, zs[i]? = some x := ⟨_, List.getElem?_eq_getElem hlt⟩
    obtain ⟨ad, rfl, hne, hcx⟩ := HC.out i x hx
    clear hx
    have HT := Lib.hid ht
    have HM : Hid (∀ w, Calls Try.prog 6 #[.int .i64 x, .int .i64 n] w fun e w' => e = .returned (.int .i64 (x % n)) ∧ w' = w) := fun w => (S3.mod_any x n w h1 (by omega)).mono fun _ _ ⟨a, b⟩ => ⟨a, b.symm⟩
    have e1 := Int.emod_nonneg x (b := n) (by omega)
    have e2 := Int.emod_lt_of_pos x (b := n) (by omega)
    generalize x % n = r at *
    clear ht
    refine ⟨r, e1, e2, ?_⟩
    obtain ⟨ln, hln⟩ : ∃ ln, ln = zs.length := ⟨_, rfl⟩
    rw [← hln] at hi hl hlt hge c0 HT
    have HL := Lib.hid hln
    clear hln
    go_enter Try.func19, Try.ntmps19
    go_wp2
    go_quiet (fail)
    go_wp2
    have hbd : Below w.heap.size w (w.drewN nq) := below_drewN (Below.refl _ w) nq
    have HT2 := Lib.hid (HT.out.lift hbd)
    have hset := set1 HT2.out 1 (.int .i64 ((i : Int) + 1))
    have HT3 : Hid (S3.TapeAt ((w.drewN nq).setCell ⟨b, 1, none⟩ (.int .i64 ((i : Int) + 1))) b (.slice (some ad) ln cap) (i + 1)) := by
      show S3.TapeAt _ _ _ _
      unfold S3.TapeAt
      rw [hset.1]
      simp
    have HG : Hid (w.grownBy ((w.drewN nq).setCell ⟨b, 1, none⟩ (.int .i64 ((i : Int) + 1))) (some b)) := grown_trans (below_grown_some hbd b) hset.2.1
    have hcx3 : ((w.drewN nq).setCell ⟨b, 1, none⟩ (.int .i64 ((i : Int) + 1))).cell? (ad.add i) = some (.int .i64 x) := HG.out.cell hcx (by rw [add_block]; intro e; have := Option.some.inj e; omega)
    clear hset c0 c1 f1 hcx
    generalize ((w.drewN nq).setCell ⟨b, 1, none⟩ (.int .i64 ((i : Int) + 1))) = W at *
    obtain ⟨c0, c1, f1⟩ := HT3.out.cells
    have hwr : IntKind.i64.wrap (i : Int) = i := by rw [IntKind.wrap_i64]; omega
    go_quiet ((go_at_call 6; exact Calls.quiet_of_same (HM.out _)))
    go_wp2
    go_ret
    have hb2 : Below W.heap.size W (W.drewN nq) := below_drewN (Below.refl _ W) nq
    refine ⟨rfl, ?_, grown_trans HG.out (below_grown_some hb2 b)⟩
    refine S3.Tq.lift ⟨zs, some ad, cap, i + 1, by rw [← HL.out]; exact HT3.out, by rw [← HL.out]; omega, by rw [← HL.out]; omega, fun j y hy => ?_⟩ hb2
    obtain ⟨ad', e, h3, h4⟩ := HC.out j y hy
    exact ⟨ad', e, h3, HG.out.cell h4 (by rw [add_block]; intro e; have := Option.some.inj e; omega)⟩
  · have hge : decide ((zs.length : Int) ≤ (i : Int)) = true := by simpa using hlt
    refine ⟨0, by omega, by omega, ?_⟩
    go_enter Try.func19, Try.ntmps19
    go_wp2
    go_quiet (fail)
    go_wp2
    go_ret
    have hb : Below w.heap.size w (w.drewN nq) := below_drewN (Below.refl _ w) nq
    exact ⟨rfl, S3.Tq.lift ⟨zs, a, cap, i, ht, hi, hl, HC.out⟩ hb, below_grown_some hb b⟩

theorem vars_at {V : World} {B : Nat} {Z : TypeId} (h : V.heap[B]? = some (.cells #[.string ⟨#[120]⟩, .string ⟨#[121]⟩, .string ⟨#[122]⟩, .string ⟨#[102]⟩, .string ⟨#[103]⟩, .string ⟨#[118, 49]⟩, .string ⟨#[118, 50]⟩, .string ⟨#[105, 100]⟩] Z (0, 0))) (m : Nat) (hm : m < 8) :
    ∃ x : ByteArray, nmOk x = true ∧ V.cell? ⟨B, m, none⟩ = some (.string x) := by
  have hc : m = 0 ∨ m = 1 ∨ m = 2 ∨ m = 3 ∨ m = 4 ∨ m = 5 ∨ m = 6 ∨ m = 7 := by omega
  rcases hc with rfl | rfl | rfl | rfl | rfl | rfl | rfl | rfl
  all_goals
    refine ⟨_, ?_, (by simp only [World.cell?, h]; rfl)⟩
    decide +kernel
set_option maxRecDepth 100000 in
set_option maxHeartbeats 6400000 in
theorem variable_q (b : Nat) (w : World) (h : S3.Tq w b) :
    Calls Try.prog 20 #[.pointer (some ⟨b, 0, none⟩)] w fun e w' => ∃ n : ByteArray, e = .returned (.string n) ∧ nmOk n = true ∧ S3.Tq w' b ∧ w.grownBy w' (some b) := by
  have hb0 : Below w.heap.size w (w.alloc (.cells #[.string ⟨#[120]⟩, .string ⟨#[121]⟩, .string ⟨#[122]⟩, .string ⟨#[102]⟩, .string ⟨#[103]⟩, .string ⟨#[118, 49]⟩, .string ⟨#[118, 50]⟩, .string ⟨#[105, 100]⟩] 9)) := (Below.refl _ w).alloc (Nat.le_refl _) _
  have HB0 := Lib.hid hb0
  have hbl := heap_alloc_new w (.cells #[.string ⟨#[120]⟩, .string ⟨#[121]⟩, .string ⟨#[122]⟩, .string ⟨#[102]⟩, .string ⟨#[103]⟩, .string ⟨#[118, 49]⟩, .string ⟨#[118, 50]⟩, .string ⟨#[105, 100]⟩] 9)
  have HBl := Lib.hid hbl
  have hlt := h.lt
  have HT := Lib.hid (h.lift hb0)
  clear hb0 hbl h
  obtain ⟨r, hr0, hr8, hn⟩ := next_r 8 (by omega) (by omega) b _ HT.out
  have HN := Lib.hid hn
  clear hn
  go_enter Try.func20, Try.ntmps20
  go_wp2_with fail
  go_at_call 19
  generalize (w.alloc (.cells #[.string ⟨#[120]⟩, .string ⟨#[121]⟩, .string ⟨#[122]⟩, .string ⟨#[102]⟩, .string ⟨#[103]⟩, .string ⟨#[118, 49]⟩, .string ⟨#[118, 50]⟩, .string ⟨#[105, 100]⟩] 9)) = V at *
  refine HN.out.mono ?_
  rintro e w1 ⟨rfl, ht1, hg1⟩
  obtain ⟨k, rfl⟩ : ∃ k : Nat, r = k := ⟨r.toNat, by omega⟩
  have hk8 : k < 8 := by omega
  obtain ⟨x, hx, hc⟩ := vars_at ((hg1.block w.heap.size (Array.getElem?_eq_some_iff.1 HBl.out).1 (by intro e; have := Option.some.inj e; omega)).trans HBl.out) k hk8
  have HE := Lib.hid (And.intro hx (And.intro ht1 (grown_trans (below_grown_some HB0.out b) hg1)))
  clear hx ht1 hg1 HB0 HBl HT HN
  generalize w.heap.size = B at *
  go_wp2
  go_ret
  exact ⟨_, rfl, HE.out⟩
/-- The first choice of an expression. -/
def NX (w : World) (b : Nat) (r : Int) : Prop := Calls Try.prog 19 #[.pointer (some ⟨b, 0, none⟩), .int .i64 14] (w.alloc (.cells #[.int .i64 0, .int .i64 0, .string ⟨#[]⟩, .int .i64 0, .slice none 0 0, .slice none 0 0, .int .i64 0, .string ⟨#[]⟩, .int .i64 0, .int .i64 0, .slice none 0 0] 36)) fun e w' => e = .returned (.int .i64 r) ∧ S3.Tq w' b ∧ (w.alloc (.cells #[.int .i64 0, .int .i64 0, .string ⟨#[]⟩, .int .i64 0, .slice none 0 0, .slice none 0 0, .int .i64 0, .string ⟨#[]⟩, .int .i64 0, .int .i64 0, .slice none 0 0] 36)).grownBy w' (some b)
theorem nx_made {w : World} {b : Nat} (h : S3.Tq w b) : ∃ r : Int, 0 ≤ r ∧ r < 14 ∧ NX w b r := by
  obtain ⟨r, h0, h1, hn⟩ := next_r 14 (by omega) (by omega) b (w.alloc (.cells #[.int .i64 0, .int .i64 0, .string ⟨#[]⟩, .int .i64 0, .slice none 0 0, .slice none 0 0, .int .i64 0, .string ⟨#[]⟩, .int .i64 0, .int .i64 0, .slice none 0 0] 36)) (h.lift ((Below.refl _ w).alloc (Nat.le_refl _) _))
  exact ⟨r, h0, h1, hn⟩
theorem nm_size {n : ByteArray} (h : nmOk n = true) : n.size ≤ maxLen := by
  have := (nmOk_iff h).2
  rw [bl_len] at this
  unfold maxLen; omega
theorem cn_size {n : ByteArray} (h : cnOk n = true) : n.size ≤ maxLen := by
  have := (cnOk_iff h).2
  rw [bl_len] at this
  unfold maxLen; omega
set_option maxRecDepth 100000 in
set_option maxHeartbeats 6400000 in
theorem raw_var (d b base : Nat) (z r : Int) (w : World) (dv : Value) (hk : (z < 1 ∧ (r = 0 ∨ r = 1 ∨ r = 5 ∨ r = 6 ∨ r = 10 ∨ r = 11)) ∨ (1 ≤ z ∧ (r = 0 ∨ r = 1))) (ht : S3.Tq w b) (hbase : base ≤ w.heap.size) (HN : NX w b r) :
    Calls Try.prog 9 #[.pointer (some ⟨b, 0, none⟩), dv, .int .i64 z] w (RawEnd d base b w) := by
  have HV := Lib.hid (variable_q b)
  have HP0 := Lib.hid (PX.start ht)
  have hlt := ht.lt
  unfold NX at HN
  have HNx := Lib.hid HN
  clear HN ht
  rcases hk with ⟨hz, rfl | rfl | rfl | rfl | rfl | rfl⟩ | ⟨hz, rfl | rfl⟩
  all_goals
    go_enter Try.func9, Try.ntmps9
    go_wp2_with fail
    go_at_call 19
    generalize (w.alloc (.cells #[.int .i64 0, .int .i64 0, .string ⟨#[]⟩, .int .i64 0, .slice none 0 0, .slice none 0 0, .int .i64 0, .string ⟨#[]⟩, .int .i64 0, .int .i64 0, .slice none 0 0] 36)) = w0 at *
    refine HNx.out.mono ?_
    rintro e w1 ⟨rfl, ht1, hg1⟩
    have HP1 := Lib.hid (HP0.out.call ht1 hg1)
    clear ht1 hg1 HNx HP0
    go_wp2_with fail
    go_at_call 20
    refine (HV.out _ HP1.out.rd).mono ?_
    rintro e w2 ⟨n, rfl, hn, ht2, hg2⟩
    have HP2 := Lib.hid (HP1.out.call ht2 hg2)
    have HOk := Lib.hid (okE_var d hn)
    have HRes := Lib.hid (repE_leaf w2 (fun g => w.heap.size < g) 1 0 n 0 (nm_size hn))
    clear hn ht2 hg2 HP1 HV
    go_wp2_with (refine wpList_storeC rfl _ _ rfl _ _ _ HP2.out.res rfl rfl HRes.out.size HRes.out.len0 HRes.out.len.2 ?_; intro v8 hB8 hg8 hs8)
    obtain ⟨e0, e1, e2, e3, e4, e5, e6, e7, e8, e9, e10⟩ := hB8.all11
    refine bodyPost_ret (by simp [results, Try.results9, go_sem, e0, e1, e2, e3, e4, e5, e6, e7, e8, e9, e10]; try rfl) rfl ?_
    exact raw_fin (HP2.out.ret HRes.out hbase hg8) HOk.out
set_option maxRecDepth 100000 in
set_option maxHeartbeats 6400000 in
theorem raw_int (d b base : Nat) (z r : Int) (w : World) (dv : Value) (hk : (z < 1 ∧ (r = 2 ∨ r = 7 ∨ r = 12)) ∨ (1 ≤ z ∧ (r = 2))) (ht : S3.Tq w b) (hbase : base ≤ w.heap.size) (HN : NX w b r) :
    Calls Try.prog 9 #[.pointer (some ⟨b, 0, none⟩), dv, .int .i64 z] w (RawEnd d base b w) := by
  have HP0 := Lib.hid (PX.start ht)
  have hlt := ht.lt
  unfold NX at HN
  have HNx := Lib.hid HN
  clear HN ht
  rcases hk with ⟨hz, rfl | rfl | rfl⟩ | ⟨hz, rfl⟩
  all_goals
    go_enter Try.func9, Try.ntmps9
    go_wp2_with fail
    go_at_call 19
    generalize (w.alloc (.cells #[.int .i64 0, .int .i64 0, .string ⟨#[]⟩, .int .i64 0, .slice none 0 0, .slice none 0 0, .int .i64 0, .string ⟨#[]⟩, .int .i64 0, .int .i64 0, .slice none 0 0] 36)) = w0 at *
    refine HNx.out.mono ?_
    rintro e w1 ⟨rfl, ht1, hg1⟩
    have HP1 := Lib.hid (HP0.out.call ht1 hg1)
    clear ht1 hg1 HNx HP0
    obtain ⟨m, hm0, hm4, hn2⟩ := next_r 4 (by omega) (by omega) b w1 HP1.out.rd
    have HN2 := Lib.hid hn2
    clear hn2
    go_wp2_with fail
    go_at_call 19
    refine HN2.out.mono ?_
    rintro e w2 ⟨rfl, ht2, hg2⟩
    have HP2 := Lib.hid (HP1.out.call ht2 hg2)
    have HOk := Lib.hid (okE_int d hm0 (by omega))
    have HRes := Lib.hid (repE_leaf w2 (fun g => w.heap.size < g) 3 0 ⟨#[]⟩ m (Nat.zero_le _))
    clear ht2 hg2 HP1 HN2
    go_wp2_with (refine wpList_storeC rfl _ _ rfl _ _ _ HP2.out.res rfl rfl HRes.out.size HRes.out.len0 HRes.out.len.2 ?_; intro v8 hB8 hg8 hs8)
    obtain ⟨e0, e1, e2, e3, e4, e5, e6, e7, e8, e9, e10⟩ := hB8.all11
    refine bodyPost_ret (by simp [results, Try.results9, go_sem, e0, e1, e2, e3, e4, e5, e6, e7, e8, e9, e10]; try rfl) rfl ?_
    exact raw_fin (HP2.out.ret HRes.out hbase hg8) HOk.out
set_option maxRecDepth 100000 in
set_option maxHeartbeats 6400000 in
theorem raw_hole (d b base : Nat) (z r : Int) (w : World) (dv : Value) (hk : (z < 1 ∧ (r = 4 ∨ r = 9)) ∨ (1 ≤ z ∧ (r = 4))) (ht : S3.Tq w b) (hbase : base ≤ w.heap.size) (HN : NX w b r) :
    Calls Try.prog 9 #[.pointer (some ⟨b, 0, none⟩), dv, .int .i64 z] w (RawEnd d base b w) := by
  have HP0 := Lib.hid (PX.start ht)
  have hlt := ht.lt
  unfold NX at HN
  have HNx := Lib.hid HN
  clear HN ht
  rcases hk with ⟨hz, rfl | rfl⟩ | ⟨hz, rfl⟩
  all_goals
    go_enter Try.func9, Try.ntmps9
    go_wp2_with fail
    go_at_call 19
    generalize (w.alloc (.cells #[.int .i64 0, .int .i64 0, .string ⟨#[]⟩, .int .i64 0, .slice none 0 0, .slice none 0 0, .int .i64 0, .string ⟨#[]⟩, .int .i64 0, .int .i64 0, .slice none 0 0] 36)) = w0 at *
    refine HNx.out.mono ?_
    rintro e w1 ⟨rfl, ht1, hg1⟩
    have HP1 := Lib.hid (HP0.out.call ht1 hg1)
    clear ht1 hg1 HNx HP0
    have HRes := Lib.hid (repE_leaf w1 (fun g => w.heap.size < g) 10 0 ⟨#[]⟩ 0 (Nat.zero_le _))
    go_wp2_with (refine wpList_storeC rfl _ _ rfl _ _ _ HP1.out.res rfl rfl HRes.out.size HRes.out.len0 HRes.out.len.2 ?_; intro v8 hB8 hg8 hs8)
    obtain ⟨e0, e1, e2, e3, e4, e5, e6, e7, e8, e9, e10⟩ := hB8.all11
    refine bodyPost_ret (by simp [results, Try.results9, go_sem, e0, e1, e2, e3, e4, e5, e6, e7, e8, e9, e10]; try rfl) rfl ?_
    exact raw_fin (HP1.out.ret HRes.out hbase hg8) (okE_hole d)
set_option maxRecDepth 100000 in
set_option maxHeartbeats 6400000 in
theorem raw_gone (d b base : Nat) (z r : Int) (w : World) (sa : Option Addr) (sc : Nat) (hk : (z < 1 ∧ (r = 3 ∨ r = 8 ∨ r = 13)) ∨ (1 ≤ z ∧ (r = 3))) (ht : S3.Tq w b) (hbase : base ≤ w.heap.size) (HN : NX w b r) :
    Calls Try.prog 9 #[.pointer (some ⟨b, 0, none⟩), .slice sa 0 sc, .int .i64 z] w (RawEnd d base b w) := by
  have HP0 := Lib.hid (PX.start ht)
  have hlt := ht.lt
  unfold NX at HN
  have HNx := Lib.hid HN
  clear HN ht
  rcases hk with ⟨hz, rfl | rfl | rfl⟩ | ⟨hz, rfl⟩
  all_goals
    go_enter Try.func9, Try.ntmps9
    go_wp2_with fail
    go_at_call 19
    generalize (w.alloc (.cells #[.int .i64 0, .int .i64 0, .string ⟨#[]⟩, .int .i64 0, .slice none 0 0, .slice none 0 0, .int .i64 0, .string ⟨#[]⟩, .int .i64 0, .int .i64 0, .slice none 0 0] 36)) = w0 at *
    refine HNx.out.mono ?_
    rintro e w1 ⟨rfl, ht1, hg1⟩
    have HP1 := Lib.hid (HP0.out.call ht1 hg1)
    clear ht1 hg1 HNx HP0
    have HRes := Lib.hid (repE_leaf w1 (fun g => w.heap.size < g) 2 0 ⟨#[71, 111, 110, 101]⟩ 0 (by unfold maxLen; decide))
    go_wp2_with (refine wpList_storeC rfl _ _ rfl _ _ _ HP1.out.res rfl rfl HRes.out.size HRes.out.len0 HRes.out.len.2 ?_; intro v8 hB8 hg8 hs8)
    obtain ⟨e0, e1, e2, e3, e4, e5, e6, e7, e8, e9, e10⟩ := hB8.all11
    refine bodyPost_ret (by simp [results, Try.results9, go_sem, e0, e1, e2, e3, e4, e5, e6, e7, e8, e9, e10]; try rfl) rfl ?_
    exact raw_fin (HP1.out.ret HRes.out hbase hg8) (okE_con d (by decide +kernel))
end Go.Proofs.Ytljgpgmaceackaa.MR

/- The maker of expressions: functions, applications, lets, annotations. -/
namespace Go.Proofs.Ytljgpgmaceackaa.MR
open Go.RowKit Go.Maps Mth

theorem enterRaw (v1 v2 v3 : Value) (w : World) : (callFunc 9 #[v1, v2, v3]).run Try.prog w = .ok (.enter 9 #[v1, v2, v3]) w := by kernel_rfl
theorem step_call3 {P : Program} {ops : Array Oper} {a : Act} {w : World} {K : Act → World → Prop} {Q : Exit → Act → World → Prop} {E' : Prop} {dst : Option Tmp} {x y x' : Operand} {T : Array TypeId} {ty : TypeId} {pos : String} {after : Array Edge}
    (n : FuncId) (hn : ∀ v1 v2 v3 w, (callFunc n #[v1, v2, v3]).run P w = .ok (.enter n #[v1, v2, v3]) w) (v1 v2 v3 : Value) (R : Value → World → Prop)
    (hx : a.eval x = v1) (hy : a.eval y = v2) (hx' : a.eval x' = v3) (hC : Calls P n #[v1, v2, v3] w fun e w' => ∃ u, e = .returned u ∧ R u w') (hK : ∀ u w', R u w' → K (a.put dst u) w') :
    if Region.wanted { dst, op := .call { callee := .value (.func n), args := #[x, y, x'], argTypes := T }, type := ty, pos, after, guard := none } (yielded ops a.tmps) = true then Oper.wp P { dst, op := .call { callee := .value (.func n), args := #[x, y, x'], argTypes := T }, type := ty, pos, after, guard := none } a w K Q else E' := by
  rw [if_pos (by simp [Region.wanted])]
  unfold Oper.wp
  rw [execOp_call_go]
  have e : (#[] ++ #[x, y, x'].map a.eval ++ #[] : Array Value) = #[v1, v2, v3] := by simp [hx, hy, hx']
  rw [e, hn, Oper.upon_enter]
  refine hC.mono ?_
  rintro e w' ⟨u, rfl, h⟩
  exact hK u w' h
/-- The expression below. -/
def Sub (d b : Nat) (z : Int) (dv : Value) (w : World) : Prop := ∀ v, S3.Tq v b → w.grownBy v (some b) → Calls Try.prog 9 #[.pointer (some ⟨b, 0, none⟩), dv, .int .i64 (z - 1)] v (RawEnd d v.heap.size b v)
set_option maxRecDepth 100000 in
set_option maxHeartbeats 6400000 in
theorem raw_lam (d b base : Nat) (z r : Int) (dv : Value) (w : World) (hz : 1 ≤ z) (hz5 : z ≤ 5) (hr : r = 5 ∨ r = 6) (ht : S3.Tq w b) (hbase : base ≤ w.heap.size) (HN : NX w b r) (HS : Sub d b z dv w) :
    Calls Try.prog 9 #[.pointer (some ⟨b, 0, none⟩), dv, .int .i64 z] w (RawEnd (d + 1) base b w) := by
  have HV := Lib.hid (variable_q b)
  have HT := Lib.hid HS
  clear HS
  have HP0 := Lib.hid (PX.start ht)
  have hlt := ht.lt
  unfold NX at HN
  have HNx := Lib.hid HN
  clear HN ht
  rcases hr with rfl | rfl
  all_goals
    go_enter Try.func9, Try.ntmps9
    go_wp2_with fail
    go_at_call 19
    generalize (w.alloc (.cells #[.int .i64 0, .int .i64 0, .string ⟨#[]⟩, .int .i64 0, .slice none 0 0, .slice none 0 0, .int .i64 0, .string ⟨#[]⟩, .int .i64 0, .int .i64 0, .slice none 0 0] 36)) = w0 at *
    refine HNx.out.mono ?_
    rintro e w1 ⟨rfl, ht1, hg1⟩
    have HP1 := Lib.hid (HP0.out.call ht1 hg1)
    clear ht1 hg1 HNx HP0
    go_wp2_with fail
    go_at_call 20
    refine (HV.out _ HP1.out.rd).mono ?_
    rintro e w2 ⟨nm, rfl, hn, ht2, hg2⟩
    have HP2 := Lib.hid (HP1.out.call ht2 hg2)
    have HNm := Lib.hid hn
    have HNs := Lib.hid (nm_size hn)
    clear hn ht2 hg2
    go_wp2_with fail
    go_at_call 9
    refine (HT.out _ HP2.out.rd HP2.out.grown).mono ?_
    rintro e w5 ⟨_, rfl, a, c, rfl, hrep, hok, ht5, hg5⟩
    obtain ⟨ka, kc, aa, ac, tk, tn, ti, th, ta, tl, tc, rfl⟩ := hrep.form
    have HP5 := Lib.hid (HP2.out.call ht5 hg5)
    have HRp := Lib.hid (hrep.imp_lt HP2.out.res.lt)
    have HOa := Lib.hid hok
    clear hrep hok ht5 hg5
    have HK := Lib.hid (one_newE (S' := fun g => w.heap.size < g) HRp.out 36 w5.heap.size rfl (fun _ hg => hg) HP5.out.res.lt)
    have HB4 := Lib.hid (HP5.out.lift ((Below.refl _ w5).alloc (Nat.le_refl _) (.cells #[.int .i64 a.k, .int .i64 a.p, .string a.n, .int .i64 a.m, .slice ka a.kids.length kc, .slice aa a.arms.length ac, .int .i64 tk, .string tn, .int .i64 ti, .int .i64 th, .slice ta tl tc] 36)))
    have HRes := Lib.hid (repE_kids (S := fun g => w.heap.size < g) 4 0 nm 0 HNs.out HK.out)
    clear HT HV HP1 HP2
    go_wp2_with (refine wpList_storeC rfl _ _ rfl _ _ _ HB4.out.res rfl rfl HRes.out.size HRes.out.len0 HRes.out.len.2 ?_; intro v8 hB8 hg8 hs8)
    obtain ⟨e0, e1, e2, e3, e4, e5, e6, e7, e8, e9, e10⟩ := hB8.all11
    refine bodyPost_ret (by simp [results, Try.results9, go_sem, e0, e1, e2, e3, e4, e5, e6, e7, e8, e9, e10]; try rfl) rfl ?_
    exact raw_fin (HB4.out.ret HRes.out hbase hg8) (okE_lam HNm.out HOa.out)
set_option maxRecDepth 100000 in
set_option maxHeartbeats 6400000 in
theorem raw_held (d b base : Nat) (z r : Int) (dv : Value) (w : World) (hz : 1 ≤ z) (hz5 : z ≤ 5) (hr : r = 12) (ht : S3.Tq w b) (hbase : base ≤ w.heap.size) (HN : NX w b r) (HS : Sub d b z dv w) :
    Calls Try.prog 9 #[.pointer (some ⟨b, 0, none⟩), dv, .int .i64 z] w (RawEnd (d + 1) base b w) := by
  have HT := Lib.hid HS
  clear HS
  have HP0 := Lib.hid (PX.start ht)
  have hlt := ht.lt
  unfold NX at HN
  have HNx := Lib.hid HN
  clear HN ht
  subst hr
  all_goals
    go_enter Try.func9, Try.ntmps9
    go_wp2_with fail
    go_at_call 19
    generalize (w.alloc (.cells #[.int .i64 0, .int .i64 0, .string ⟨#[]⟩, .int .i64 0, .slice none 0 0, .slice none 0 0, .int .i64 0, .string ⟨#[]⟩, .int .i64 0, .int .i64 0, .slice none 0 0] 36)) = w0 at *
    refine HNx.out.mono ?_
    rintro e w1 ⟨rfl, ht1, hg1⟩
    have HP1 := Lib.hid (HP0.out.call ht1 hg1)
    clear ht1 hg1 HNx HP0
    go_wp2_with fail
    go_at_call 9
    refine (HT.out _ HP1.out.rd HP1.out.grown).mono ?_
    rintro e w5 ⟨_, rfl, a, c, rfl, hrep, hok, ht5, hg5⟩
    obtain ⟨ka, kc, aa, ac, tk, tn, ti, th, ta, tl, tc, rfl⟩ := hrep.form
    have HP5 := Lib.hid (HP1.out.call ht5 hg5)
    have HRp := Lib.hid (hrep.imp_lt HP1.out.res.lt)
    have HOa := Lib.hid hok
    clear hrep hok ht5 hg5
    have HK := Lib.hid (one_newE (S' := fun g => w.heap.size < g) HRp.out 36 w5.heap.size rfl (fun _ hg => hg) HP5.out.res.lt)
    have HB4 := Lib.hid (HP5.out.lift ((Below.refl _ w5).alloc (Nat.le_refl _) (.cells #[.int .i64 a.k, .int .i64 a.p, .string a.n, .int .i64 a.m, .slice ka a.kids.length kc, .slice aa a.arms.length ac, .int .i64 tk, .string tn, .int .i64 ti, .int .i64 th, .slice ta tl tc] 36)))
    have HRes := Lib.hid (repE_kids (S := fun g => w.heap.size < g) 11 0 ⟨#[]⟩ 0 (Nat.zero_le _) HK.out)
    clear HT HP1
    go_wp2_with (refine wpList_storeC rfl _ _ rfl _ _ _ HB4.out.res rfl rfl HRes.out.size HRes.out.len0 HRes.out.len.2 ?_; intro v8 hB8 hg8 hs8)
    obtain ⟨e0, e1, e2, e3, e4, e5, e6, e7, e8, e9, e10⟩ := hB8.all11
    refine bodyPost_ret (by simp [results, Try.results9, go_sem, e0, e1, e2, e3, e4, e5, e6, e7, e8, e9, e10]; try rfl) rfl ?_
    exact raw_fin (HB4.out.ret HRes.out hbase hg8) (okE_held HOa.out)
set_option maxRecDepth 100000 in
set_option maxHeartbeats 6400000 in
theorem raw_again (d b base : Nat) (z r : Int) (sa : Option Addr) (sc : Nat) (w : World) (hz : 1 ≤ z) (hz5 : z ≤ 5) (hr : r = 13) (ht : S3.Tq w b) (hbase : base ≤ w.heap.size) (HN : NX w b r) (HS : Sub d b z (.slice sa 0 sc) w) :
    Calls Try.prog 9 #[.pointer (some ⟨b, 0, none⟩), .slice sa 0 sc, .int .i64 z] w (RawEnd (d + 1) base b w) := by
  have HT := Lib.hid HS
  clear HS
  have HP0 := Lib.hid (PX.start ht)
  have hlt := ht.lt
  unfold NX at HN
  have HNx := Lib.hid HN
  clear HN ht
  subst hr
  all_goals
    go_enter Try.func9, Try.ntmps9
    go_wp2_with fail
    go_at_call 19
    generalize (w.alloc (.cells #[.int .i64 0, .int .i64 0, .string ⟨#[]⟩, .int .i64 0, .slice none 0 0, .slice none 0 0, .int .i64 0, .string ⟨#[]⟩, .int .i64 0, .int .i64 0, .slice none 0 0] 36)) = w0 at *
    refine HNx.out.mono ?_
    rintro e w1 ⟨rfl, ht1, hg1⟩
    have HP1 := Lib.hid (HP0.out.call ht1 hg1)
    clear ht1 hg1 HNx HP0
    go_wp2_with fail
    go_at_call 9
    refine (HT.out _ HP1.out.rd HP1.out.grown).mono ?_
    rintro e w5 ⟨_, rfl, a, c, rfl, hrep, hok, ht5, hg5⟩
    obtain ⟨ka, kc, aa, ac, tk, tn, ti, th, ta, tl, tc, rfl⟩ := hrep.form
    have HP5 := Lib.hid (HP1.out.call ht5 hg5)
    have HRp := Lib.hid (hrep.imp_lt HP1.out.res.lt)
    have HOa := Lib.hid hok
    clear hrep hok ht5 hg5
    clear HT HP1
    go_wp2_with (refine wpList_storeC rfl _ _ rfl _ _ _ HP5.out.res rfl rfl HRp.out.size HRp.out.len0 HRp.out.len.2 ?_; intro v8 hB8 hg8 hs8)
    obtain ⟨e0, e1, e2, e3, e4, e5, e6, e7, e8, e9, e10⟩ := hB8.all11
    refine bodyPost_ret (by simp [results, Try.results9, go_sem, e0, e1, e2, e3, e4, e5, e6, e7, e8, e9, e10]; try rfl) rfl ?_
    exact raw_fin (HP5.out.ret HRp.out hbase hg8) (okE_mono HOa.out)
set_option maxRecDepth 100000 in
set_option maxHeartbeats 6400000 in
theorem raw_ann (d b base : Nat) (z r : Int) (dv : Value) (w : World) (hz : 1 ≤ z) (hz5 : z ≤ 5) (hr : r = 11) (ht : S3.Tq w b) (hbase : base ≤ w.heap.size) (HN : NX w b r) (HS : Sub d b z dv w)
    (HTy : ∀ v, S3.Tq v b → w.grownBy v (some b) → Calls Try.prog 21 #[.pointer (some ⟨b, 0, none⟩), dv, .slice none 0 0, .int .i64 2] v fun e w' => ∃ u, e = .returned u ∧ S3.MadeT 2 v.heap.size b v w' u) :
    Calls Try.prog 9 #[.pointer (some ⟨b, 0, none⟩), dv, .int .i64 z] w (RawEnd (d + 1) base b w) := by
  have HT := Lib.hid HS
  have HTt := Lib.hid HTy
  clear HS HTy
  have HP0 := Lib.hid (PX.start ht)
  have hlt := ht.lt
  unfold NX at HN
  have HNx := Lib.hid HN
  clear HN ht
  subst hr
  all_goals
    go_enter Try.func9, Try.ntmps9
    go_wp2_with fail
    go_at_call 19
    generalize (w.alloc (.cells #[.int .i64 0, .int .i64 0, .string ⟨#[]⟩, .int .i64 0, .slice none 0 0, .slice none 0 0, .int .i64 0, .string ⟨#[]⟩, .int .i64 0, .int .i64 0, .slice none 0 0] 36)) = w0 at *
    refine HNx.out.mono ?_
    rintro e w1 ⟨rfl, ht1, hg1⟩
    have HP1 := Lib.hid (HP0.out.call ht1 hg1)
    clear ht1 hg1 HNx HP0
    go_wp2_with fail
    go_at_call 9
    refine (HT.out _ HP1.out.rd HP1.out.grown).mono ?_
    rintro e w5 ⟨_, rfl, a, c, rfl, hrep, hok, ht5, hg5⟩
    obtain ⟨ka, kc, aa, ac, tk, tn, ti, th, ta, tl, tc, rfl⟩ := hrep.form
    have HP5 := Lib.hid (HP1.out.call ht5 hg5)
    have HRp := Lib.hid (hrep.imp_lt HP1.out.res.lt)
    have HOa := Lib.hid hok
    clear hrep hok ht5 hg5
    have HK := Lib.hid (one_newE (S' := fun g => w.heap.size < g) HRp.out 36 w5.heap.size rfl (fun _ hg => hg) HP5.out.res.lt)
    have HB4 := Lib.hid (HP5.out.lift ((Below.refl _ w5).alloc (Nat.le_refl _) (.cells #[.int .i64 a.k, .int .i64 a.p, .string a.n, .int .i64 a.m, .slice ka a.kids.length kc, .slice aa a.arms.length ac, .int .i64 tk, .string tn, .int .i64 ti, .int .i64 th, .slice ta tl tc] 36)))
    clear HT HP1
    go_wp2_with fail
    go_at_call 21
    generalize hW6 : w5.alloc (.cells #[.int .i64 a.k, .int .i64 a.p, .string a.n, .int .i64 a.m, .slice ka a.kids.length kc, .slice aa a.arms.length ac, .int .i64 tk, .string tn, .int .i64 ti, .int .i64 th, .slice ta tl tc] 36) = w6 at *
    clear hW6
    refine (HTt.out _ HB4.out.rd HB4.out.grown).mono ?_
    rintro e w7 ⟨u, rfl, U, hru, hou, ht7, hg7⟩
    obtain ⟨uk, un, ui, uh, ua, um, uc, rfl⟩ := hru.form
    have HP7 := Lib.hid (HB4.out.call ht7 hg7)
    have hz6 := HB4.out.res.lt
    have HK7 : Hid (SlG ExE w7 (fun g => w.heap.size < g) [a] (.slice (some ⟨w5.heap.size, 0, none⟩) 1 1)) := SlG.kept (fun _ h => h) (fun g hg hl => hg7.block g hl (by intro e; have := Option.some.inj e; omega)) HK.out
    have HRes : Hid (RepE w7 (fun g => w.heap.size < g) (.mk 9 0 ⟨#[]⟩ 0 U [a] []) [.int .i64 9, .int .i64 0, .string ⟨#[]⟩, .int .i64 0, .slice (some ⟨w5.heap.size, 0, none⟩) 1 1, .slice none 0 0, .int .i64 uk, .string un, .int .i64 ui, .int .i64 uh, .slice ua um uc]) :=
      RepE.close (Nat.zero_le _) HK7.out (slG_nil AmE _ _) (hru.imp fun g hg => Nat.lt_of_lt_of_le hz6 hg)
    have HOu : Hid (src U = true ∧ (shT U).length ≤ 63) := by
      have h1 := src_of_valid U hou.1.1 hou.1.2
      have h2 := shT_len6 U h1 hou.1.2
      have h3 := hou.2
      have h4 : S3.capN 2 = 7 := rfl
      exact ⟨h1, by omega⟩
    clear hru hou ht7 hg7 hz6 HTt HB4 HK HRp
    go_wp2_with (refine wpList_storeC rfl _ _ rfl _ _ _ HP7.out.res rfl rfl HRes.out.size HRes.out.len0 HRes.out.len.2 ?_; intro v8 hB8 hg8 hs8)
    obtain ⟨e0, e1, e2, e3, e4, e5, e6, e7, e8, e9, e10⟩ := hB8.all11
    refine bodyPost_ret (by simp [results, Try.results9, go_sem, e0, e1, e2, e3, e4, e5, e6, e7, e8, e9, e10]; try rfl) rfl ?_
    exact raw_fin (HP7.out.ret HRes.out hbase hg8) (okE_ann HOa.out HOu.out.1 HOu.out.2)
end Go.Proofs.Ytljgpgmaceackaa.MR
