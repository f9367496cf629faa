/- The contract of the reader's Type. -/
import Derived.Test.YtahiefgfhpkoeaaTyPAtom
import Derived.Deep.LoopGhost
import Derived.Deep.RegionLaw
import Derived.BigCall
namespace Go.Proofs.Ytahiefgfhpkoeaa
open Go.RowKit Go.Sort Go.Shelf Go.Maps Mth

theorem arrow_cases {g : Nat} {ts : List Tok} {j : Nat} {U T : Ty} {k : Nat} (h : pArrow g ts j U = some (T, k)) :
    (rIs ts j ⟨#[45, 62]⟩ = false ∧ T = U ∧ k = j) ∨ (rIs ts j ⟨#[45, 62]⟩ = true ∧ ∃ g' V, g = g' + 1 ∧ pType g' ts (j + 1) = some (V, k) ∧ T = con arrN [U, V]) := by
  cases g with
  | zero => simp [pArrow] at h
  | succ g =>
    unfold pArrow at h
    cases h1 : rIs ts j ⟨#[45, 62]⟩ with
    | false =>
      rw [h1] at h
      simp only [Bool.false_eq_true, if_false, Option.some.injEq, Prod.mk.injEq] at h
      exact .inl ⟨rfl, h.1.symm, h.2.symm⟩
    | true =>
      rw [h1] at h
      simp only [if_true] at h
      cases h2 : pType g ts (j + 1) with
      | none => rw [h2] at h; simp at h
      | some p =>
        obtain ⟨V, k'⟩ := p
        rw [h2] at h
        simp only [Option.some.injEq, Prod.mk.injEq] at h
        obtain ⟨rfl, rfl⟩ := h
        exact .inr ⟨rfl, g, V, rfl, h2, rfl⟩
theorem args_cases {g : Nat} {ts : List Tok} {j : Nat} {acc l : List Ty} {k : Nat} (h : pArgs g ts j acc = some (l, k)) :
    ((rKind ts j 1 || rKind ts j 2 || rIs ts j ⟨#[40]⟩) = false ∧ l = acc ∧ k = j) ∨ ((rKind ts j 1 || rKind ts j 2 || rIs ts j ⟨#[40]⟩) = true ∧ ∃ g' V m, g = g' + 1 ∧ pAtom g' ts j = some (V, m) ∧ pArgs g' ts m (acc ++ [V]) = some (l, k)) := by
  cases g with
  | zero => simp [pArgs] at h
  | succ g =>
    unfold pArgs at h
    cases h1 : (rKind ts j 1 || rKind ts j 2 || rIs ts j ⟨#[40]⟩) with
    | false =>
      rw [h1] at h
      simp only [Bool.false_eq_true, if_false, Option.some.injEq, Prod.mk.injEq] at h
      exact .inl ⟨rfl, h.1.symm, h.2.symm⟩
    | true =>
      rw [h1] at h
      simp only [if_true] at h
      cases h2 : pAtom g ts j with
      | none => rw [h2] at h; simp at h
      | some p =>
        obtain ⟨V, k'⟩ := p
        rw [h2] at h
        exact .inr ⟨rfl, g, V, k', rfl, h2, h⟩

/-- What holds when the atom is read. -/
structure AfterAtom (w v2 : World) (b q : Nat) (ts : List Tok) (V : Ty) (u : Value) (sv : Value) (acc : List Ty) (tx : ByteArray) : Prop where
  rd : RdT v2 b ts q
  box : Box v2 (w.heap.size + 1) (.int .i64 4) (.string tx) (.int .i64 0) (.int .i64 0) sv
  zero : Zero v2 w.heap.size
  row : RowG TyE v2 (w.heap.size + 2) (fun c => w.heap.size + 2 ≤ c) sv acc
  grown : w.grownBy v2 (some b)
  rep : Rep v2 (fun c => w.heap.size + 2 ≤ c ∧ some c ≠ sv.ownBlock) V u
theorem AfterAtom.lift {w v2 v3 : World} {b q : Nat} {ts : List Tok} {V : Ty} {u sv : Value} {acc : List Ty} {tx : ByteArray} (h : AfterAtom w v2 b q ts V u sv acc tx) (hb : Below v2.heap.size v2 v3) : AfterAtom w v3 b q ts V u sv acc tx :=
  ⟨h.rd.lift hb, Box.lift h.box hb, Box.lift h.zero hb, h.row.lift hb, grown_trans h.grown (grown_of_below hb _), h.rep.lift hb⟩
theorem AfterAtom.cell {w v2 : World} {b q : Nat} {ts : List Tok} {V : Ty} {u sv : Value} {acc : List Ty} {tx : ByteArray} (h : AfterAtom w v2 b q ts V u sv acc tx) : v2.cell? ⟨w.heap.size + 1, 4, none⟩ = some sv := h.box.cells.2.2.2.2
theorem AfterAtom.cellA {w v2 : World} {b q : Nat} {ts : List Tok} {V : Ty} {u sv : Value} {acc : List Ty} {tx : ByteArray} (h : AfterAtom w v2 b q ts V u sv acc tx) (o : Obj) : (v2.alloc o).cell? ⟨w.heap.size + 1, 4, none⟩ = some sv := (h.lift ((Below.refl _ v2).alloc (Nat.le_refl _) o)).cell
theorem AfterAtom.cellD {w v2 : World} {b q : Nat} {ts : List Tok} {V : Ty} {u sv : Value} {acc : List Ty} {tx : ByteArray} (h : AfterAtom w v2 b q ts V u sv acc tx) (o : Obj) : (v2.drew.alloc o).cell? ⟨w.heap.size + 1, 4, none⟩ = some sv := (h.lift ((Below.refl _ v2).drew.alloc (Nat.le_refl _) o)).cell
theorem afterAtom {w v1 v2 : World} {b q n : Nat} {ts : List Tok} {V : Ty} {u sv : Value} {acc : List Ty} {tx : ByteArray} (hrep : Rep v2 (fun c => n ≤ c) V u) (hr : RdT v2 b ts q) (hg : v1.grownBy v2 (some b))
    (hY : Box v1 (w.heap.size + 1) (.int .i64 4) (.string tx) (.int .i64 0) (.int .i64 0) sv) (hZ : Zero v1 w.heap.size) (hR : RowG TyE v1 (w.heap.size + 2) (fun c => w.heap.size + 2 ≤ c) sv acc) (hw : w.grownBy v1 (some b))
    (h1 : some (w.heap.size + 1) ≠ some b) (h2 : some w.heap.size ≠ some b) (h3 : sv.ownBlock = none ∨ sv.ownBlock ≠ some b) (h4 : ∀ c, w.heap.size + 2 ≤ c → some c ≠ some b) (h5 : ∀ c, n ≤ c → w.heap.size + 2 ≤ c ∧ some c ≠ sv.ownBlock) :
    AfterAtom w v2 b q ts V u sv acc tx :=
  ⟨hr, Box.grown hY hg h1, Box.grown hZ hg h2, hR.kept hg h3 h4, grown_trans hw hg, hrep.kept h5 (fun _ _ _ => rfl)⟩
/-- What holds when it is appended, and when the field is stored. -/
structure AfterPush (w v3 : World) (b q : Nat) (ts : List Tok) (old sv : Value) (acc : List Ty) (tx : ByteArray) : Prop where
  rd : RdT v3 b ts q
  box : Box v3 (w.heap.size + 1) (.int .i64 4) (.string tx) (.int .i64 0) (.int .i64 0) old
  zero : Zero v3 w.heap.size
  row : RowG TyE v3 (w.heap.size + 2) (fun c => w.heap.size + 2 ≤ c) sv acc
  grown : w.grownBy v3 (some b)
  size : w.heap.size + 2 ≤ v3.heap.size
theorem step_push_atom {w v2 : World} {b q n : Nat} {ts : List Tok} {V : Ty} {sa : Option Addr} {sc : Nat} {acc : List Ty} {tx : ByteArray} {k : Int} {nm : ByteArray} {i h : Int} {ua : Option Addr} {un uc : Nat}
    {ops : Array Oper} {o : Oper} {a : Act} {K : Act → World → Prop} {Q : Exit → Act → World → Prop} {E' : Prop}
    (hF : AfterAtom w v2 b q ts V (.agg #[.int .i64 k, .string nm, .int .i64 i, .int .i64 h, .slice ua un uc]) (.slice sa n sc) acc tx) (hsz : w.heap.size + 2 ≤ v2.heap.size) (hbw : b < w.heap.size) (hgd : o.guard = none) (s x : Operand)
    (ho : o.op = .call { callee := .builtin .append, args := #[s, x], argTypes := #[23, 23] })
    (hs : a.eval s = .slice sa n sc) (nn : Nat) (hnn : nn = v2.heap.size) (hx : a.eval x = .slice (some ⟨nn, 0, none⟩) 1 1) (N : Nat) (hN : N = acc.length + 1) (hb : N ≤ 1000000)
    (hK : ∀ (a' : Option Addr) (c' : Nat) (v3 : World), AfterPush w v3 b q ts (.slice sa n sc) (.slice a' N c') (acc ++ [V]) tx → K (a.put o.dst (.slice a' N c')) v3) :
    if Region.wanted o (yielded ops a.tmps) = true then Oper.wp Try.prog o a (v2.alloc (.cells #[.int .i64 k, .string nm, .int .i64 i, .int .i64 h, .slice ua un uc] 25)) K Q else E' := by
  subst hnn
  have hba : Below v2.heap.size v2 (v2.alloc (.cells #[.int .i64 k, .string nm, .int .i64 i, .int .i64 h, .slice ua un uc] 25)) := (Below.refl _ v2).alloc (Nat.le_refl _) _
  have hA := hF.lift hba
  have hlt := fun k e => RowG.lt hF.row k e
  refine step_pushG TyE hgd s x ho (w.heap.size + 2) (fun c => w.heap.size + 2 ≤ c) (.slice sa n sc) acc hs hA.row v2.heap.size 25 [.int .i64 k, .string nm, .int .i64 i, .int .i64 h, .slice ua un uc] (heap_alloc_new v2 _) hx V hA.rep N hN hb (Nat.le_trans hsz hba.size) ?_
  intro a' c' v3 hrow3 hg3
  refine hK a' c' v3 ⟨?_, Box.grown hA.box hg3 (fun e => by have := (hlt _ e.symm).1; omega), Box.grown hA.zero hg3 (fun e => by have := (hlt _ e.symm).1; omega), hrow3, ?_, Nat.le_trans hsz (Nat.le_trans hba.size hg3.size)⟩
  · cases hv : (Value.slice sa n sc).ownBlock with
    | none => rw [hv] at hg3; exact hA.rd.lift ⟨hg3.os, hg3.tape, hg3.output, hg3.size, fun i hi => hg3.block i hi (by simp)⟩
    | some R => rw [hv] at hg3; exact hA.rd.other (Nat.lt_of_lt_of_le (Nat.lt_of_lt_of_le hbw (Nat.le_add_right _ 2)) (hlt R hv).1) hg3
  · exact grown_fresh hA.grown hg3 fun R e => by have := (hlt R e).1; omega
theorem AfterPush.stored {w v3 : World} {b q : Nat} {ts : List Tok} {old sv : Value} {acc : List Ty} {tx : ByteArray} (h : AfterPush w v3 b q ts old sv acc tx) (hbw : b < w.heap.size) :
    AfterPush w (v3.setCell ⟨w.heap.size + 1, 4, none⟩ sv) b q ts sv sv acc tx := by
  obtain ⟨h1, h2, h3⟩ := set1 h.box 4 sv
  have hlt := fun k e => RowG.lt h.row k e
  refine ⟨h.rd.other (Nat.lt_succ_of_lt hbw) h2, ?_, Box.grown h.zero h2 (fun e => by have := Option.some.inj e; omega), h.row.kept h2 (RowG.off h.row (by omega)) (fun c hc e => by have := Option.some.inj e; omega), grown_fresh h.grown h2 fun R e => by have := Option.some.inj e; omega, by rw [h3]; exact h.size⟩
  unfold Box
  rw [h1]
  simp
theorem AfterPush.at {w v3 : World} {b q : Nat} {ts : List Tok} {old sv : Value} {acc : List Ty} {tx : ByteArray} (h : AfterPush w v3 b q ts old sv acc tx) : v3.cell? ⟨w.heap.size + 1, 4, none⟩ = some old ∧ v3.frozen? ⟨w.heap.size + 1, 4, none⟩ = false :=
  ⟨h.box.cells.2.2.2.2, h.box.frozen.2.2.2.2⟩
/-- A call at a step of a region that draws its order: by its contract. -/
theorem step_call1 {P : Program} {ops : Array Oper} {a : Act} {w : World} {K : Act → World → Prop} {Q : Exit → Act → World → Prop} {E' : Prop} {dst : Option Tmp} {x : Operand} {T : Array TypeId} {ty : TypeId} {pos : String} {after : Array Edge}
    (n : FuncId) (hn : ∀ v w, (callFunc n #[v]).run P w = .ok (.enter n #[v]) w) (v : Value) (R : Value → World → Prop)
    (hx : a.eval x = v) (hC : Calls P n #[v] w fun e w' => ∃ u, e = .returned u ∧ R u w') (hK : ∀ u w', R u w' → K (a.put dst u) w') :
    if Region.wanted { dst, op := .call { callee := .value (.func n), args := #[x], argTypes := T }, type := ty, pos, after, guard := none } (yielded ops a.tmps) = true then Oper.wp P { dst, op := .call { callee := .value (.func n), args := #[x], argTypes := T }, type := ty, pos, after, guard := none } a w K Q else E' := by
  rw [if_pos (by simp [Region.wanted])]
  unfold Oper.wp
  rw [execOp_call_go]
  have e : (#[] ++ #[x].map a.eval ++ #[] : Array Value) = #[v] := by simp [hx]
  rw [e, hn, Oper.upon_enter]
  refine hC.mono ?_
  rintro e w' ⟨u, rfl, h⟩
  exact hK u w' h
theorem enterAtom (v : Value) (w : World) : (callFunc 98 #[v]).run Try.prog w = .ok (.enter 98 #[v]) w := by kernel_rfl
theorem step_call2 {P : Program} {ops : Array Oper} {a : Act} {w : World} {K : Act → World → Prop} {Q : Exit → Act → World → Prop} {E' : Prop} {dst : Option Tmp} {x y : Operand} {T : Array TypeId} {ty : TypeId} {pos : String} {after : Array Edge}
    (n : FuncId) (hn : ∀ v u w, (callFunc n #[v, u]).run P w = .ok (.enter n #[v, u]) w) (v u : Value) (R : Value → World → Prop)
    (hx : a.eval x = v) (hy : a.eval y = u) (hC : Calls P n #[v, u] w fun e w' => ∃ u, e = .returned u ∧ R u w') (hK : ∀ u w', R u w' → K (a.put dst u) w') :
    if Region.wanted { dst, op := .call { callee := .value (.func n), args := #[x, y], argTypes := T }, type := ty, pos, after, guard := none } (yielded ops a.tmps) = true then Oper.wp P { dst, op := .call { callee := .value (.func n), args := #[x, y], argTypes := T }, type := ty, pos, after, guard := none } a w K Q else E' := by
  rw [if_pos (by simp [Region.wanted])]
  unfold Oper.wp
  rw [execOp_call_go]
  have e : (#[] ++ #[x, y].map a.eval ++ #[] : Array Value) = #[v, u] := by simp [hx, hy]
  rw [e, hn, Oper.upon_enter]
  refine hC.mono ?_
  rintro e w' ⟨u, rfl, h⟩
  exact hK u w' h
theorem enterType (v : Value) (w : World) : (callFunc 100 #[v]).run Try.prog w = .ok (.enter 100 #[v]) w := by kernel_rfl
theorem enterArrow (v u : Value) (w : World) : (callFunc 38 #[v, u]).run Try.prog w = .ok (.enter 38 #[v, u]) w := by kernel_rfl
/-- What holds when the type behind the arrow is read. -/
structure AfterType (w z2 : World) (b q : Nat) (ts : List Tok) (U V : Ty) (u0 u : Value) (c0 c1 c2 c3 c4 : Value) : Prop where
  rd : RdT z2 b ts q
  box : Box z2 (w.heap.size + 1) c0 c1 c2 c3 c4
  zero : Zero z2 w.heap.size
  grown : w.grownBy z2 (some b)
  left : Rep z2 (fun c => w.heap.size + 2 ≤ c) U u0
  right : Rep z2 (fun c => w.heap.size + 2 ≤ c) V u
  size : w.heap.size + 2 ≤ z2.heap.size
def AfterArrow (w z2 : World) (U V : Ty) (r : Value) (w' : World) : Prop := ∃ a c, r = .agg #[.int .i64 4, .string arrN, .int .i64 0, .int .i64 0, .slice a 2 c] ∧ RepL w' (fun c => w.heap.size + 2 ≤ c) [U, V] (.slice a 2 c) ∧ Below z2.heap.size z2 w'
theorem AfterType.arrow {w z2 : World} {b q : Nat} {ts : List Tok} {U V : Ty} {u0 u : Value} {c0 c1 c2 c3 c4 : Value} (h : AfterType w z2 b q ts U V u0 u c0 c1 c2 c3 c4) (X : World) (hb : Below z2.heap.size z2 X) :
    Calls Try.prog 38 #[u0, u] X fun e w' => ∃ r, e = .returned r ∧ AfterArrow w z2 U V r w' := by
  refine (refArrow_any U V u0 u (fun c => w.heap.size + 2 ≤ c) X (fun c hc => Nat.le_trans h.size (Nat.le_trans hb.size hc)) (h.left.lift hb) (h.right.lift hb)).mono ?_
  rintro e w' ⟨a, c, rfl, hr, hb'⟩
  exact ⟨_, rfl, a, c, rfl, hr, hb.trans (hb'.mono hb.size)⟩
theorem afterType {w z1 z2 : World} {b q n : Nat} {ts : List Tok} {U V : Ty} {u0 u : Value} {c0 c1 c2 c3 c4 : Value} (hrep : Rep z2 (fun c => n ≤ c) V u) (hr : RdT z2 b ts q) (hg : z1.grownBy z2 (some b))
    (hY : Box z1 (w.heap.size + 1) c0 c1 c2 c3 c4) (hZ : Zero z1 w.heap.size) (hU : Rep z1 (fun c => w.heap.size + 2 ≤ c) U u0) (hw : w.grownBy z1 (some b)) (h1 : some (w.heap.size + 1) ≠ some b) (h2 : some w.heap.size ≠ some b) (hn : w.heap.size + 2 ≤ n) (hz : n ≤ z1.heap.size) (hb : b < w.heap.size) :
    AfterType w z2 b q ts U V u0 u c0 c1 c2 c3 c4 :=
  ⟨hr, Box.grown hY hg h1, Box.grown hZ hg h2, grown_trans hw hg, hU.kept (fun c hc => hc) (fun c hc hlt => hg.block c hlt (by intro e; have := Option.some.inj e; omega)), hrep.kept (fun c hc => Nat.le_trans hn hc) (fun _ _ _ => rfl), Nat.le_trans hn (Nat.le_trans hz hg.size)⟩
theorem arrN_ok : arrN.size ≤ maxLen := by unfold maxLen; decide +kernel
theorem fitA {P : Program} {ops : Array Oper} {o : Oper} {a : Act} {K : Act → World → Prop} {Q : Exit → Act → World → Prop} {E' : Prop} (w : World) (X : Obj) (h : if Region.wanted o (yielded ops a.tmps) = true then Oper.wp P o a (w.alloc X) K Q else E') :
    if Region.wanted o (yielded ops a.tmps) = true then Oper.wp P o a (w.alloc X) K Q else E' := h
theorem Rep.form {w : World} {S : Nat → Prop} {T : Ty} {u : Value} (h : Rep w S T u) : ∃ k n i h a m c, u = .agg #[.int .i64 k, .string n, .int .i64 i, .int .i64 h, .slice a m c] := by
  obtain ⟨uk, un, ui, uh, us, -, rfl, -, hus⟩ := h.open
  obtain ⟨ua, uc, rfl, -⟩ := hus
  exact ⟨_, _, _, _, _, _, _, rfl⟩

set_option maxHeartbeats 3200000 in
theorem pType_of (ts : List Tok) (hok : TkOk ts) (f : Nat) (hf : f ≤ 1000) (HA : Hid (∀ g, g ≤ f → ∀ i, PAt 98 ts i (pAtom g ts i))) (HT : Hid (∀ g, g ≤ f → ∀ i, PAt 100 ts i (pType g ts i))) (i : Nat) :
    PAt 100 ts i (pType (f + 1) ts i) := by
  intro T j hr b base w hbb hbase h
  have HR := Lib.hid h
  have hblt := h.lt
  have hb0 : Below w.heap.size w ((w.alloc (.cells #[.int .i64 0, .string ⟨#[]⟩, .int .i64 0, .int .i64 0, .slice none 0 0] 25)).alloc (.cells #[.int .i64 0, .string ⟨#[]⟩, .int .i64 0, .int .i64 0, .slice none 0 0] 25)) :=
    ((Below.refl _ w).alloc (Nat.le_refl _) _).alloc (by simp) _
  have HZ : Hid (Zero ((w.alloc (.cells #[.int .i64 0, .string ⟨#[]⟩, .int .i64 0, .int .i64 0, .slice none 0 0] 25)).alloc (.cells #[.int .i64 0, .string ⟨#[]⟩, .int .i64 0, .int .i64 0, .slice none 0 0] 25)) w.heap.size) := by
    show Box _ _ _ _ _ _ _
    unfold Box; rw [heap_at, if_neg (by simp), heap_at, if_pos rfl]
  have HY : Hid (Zero ((w.alloc (.cells #[.int .i64 0, .string ⟨#[]⟩, .int .i64 0, .int .i64 0, .slice none 0 0] 25)).alloc (.cells #[.int .i64 0, .string ⟨#[]⟩, .int .i64 0, .int .i64 0, .slice none 0 0] 25)) (w.heap.size + 1)) := by
    show Box _ _ _ _ _ _ _
    unfold Box; rw [heap_at, if_pos (by simp)]
  have hsz0 : w.heap.size + 2 ≤ ((w.alloc (.cells #[.int .i64 0, .string ⟨#[]⟩, .int .i64 0, .int .i64 0, .slice none 0 0] 25)).alloc (.cells #[.int .i64 0, .string ⟨#[]⟩, .int .i64 0, .int .i64 0, .slice none 0 0] 25)).heap.size := by simp
  have HR0 := Lib.hid (h.lift hb0)
  have HK2 : Hid (∀ w, RdT w b ts i → Calls Try.prog 96 #[.pointer (some ⟨b, 0, none⟩), .int .i64 2] w fun e w' => e = .returned (.bool (rKind ts i 2)) ∧ Below w.heap.size w w') := fun w h => rdKind_any 2 b ts i w h
  clear h
  unfold pType at hr
  cases h2 : rKind ts i 2 with
  | true =>
    rw [h2] at hr HK2
    simp only [if_true] at hr
    obtain ⟨t, ht⟩ : ∃ x, ts[i]? = some x := ⟨_, List.getElem?_eq_getElem (rKind_lt h2)⟩
    have HW : Hid (∀ w, RdT w b ts i → Calls Try.prog 95 #[.pointer (some ⟨b, 0, none⟩), .int .i64 2] w fun e w' => e = .returned (.string (txt ts i)) ∧ RdT w' b ts (i + 1) ∧ w.grownBy w' (some b)) := fun w h => by
      have := rdWord_yes 2 t b ts i w h ht h2
      rwa [← txt_some ht] at this
    have HS := Lib.hid (txt_size hok i)
    clear ht h2
    generalize txt ts i = tx at *
    cases ha : pArgs f ts (i + 1) [] with
    | none => rw [ha] at hr; simp at hr
    | some p =>
      obtain ⟨l, m⟩ := p
      rw [ha] at hr
      have HArr := Lib.hid (arrow_cases hr)
      have HAr := Lib.hid ha
      clear hr ha
      go_enter Try.func100, Try.ntmps100
      go_wp2_with fail
      go_at_call 96
      generalize ((w.alloc (.cells #[.int .i64 0, .string ⟨#[]⟩, .int .i64 0, .int .i64 0, .slice none 0 0] 25)).alloc (.cells #[.int .i64 0, .string ⟨#[]⟩, .int .i64 0, .int .i64 0, .slice none 0 0] 25)) = w0 at *
      refine (HK2.out _ HR0.out).mono ?_
      rintro e w1 ⟨rfl, hb1⟩
      have HZ1 := Lib.hid (Box.lift HZ.out hb1)
      have HY1 := Lib.hid (Box.lift HY.out hb1)
      have HR1 := Lib.hid (HR0.out.lift hb1)
      have hg1 := hb0.trans (hb1.mono hb0.size)
      have hsz1 := hb1.size
      clear hb1
      go_wp2_with fail
      go_at_call 95
      refine (HW.out _ HR1.out).mono ?_
      rintro e w2 ⟨rfl, hr2, hg2⟩
      have HR2 := Lib.hid hr2
      have HZ2 := Lib.hid (Box.grown HZ1.out hg2 (by intro e; cases e; omega))
      have HY2 := Lib.hid (Box.grown HY1.out hg2 (by intro e; cases e; omega))
      have hsz2 := hg2.size
      clear hr2
      go_wp2_with fail
      go_at_call 45
      refine (refCon_nil _ _).mono ?_
      rintro e w3 ⟨rfl, hb3⟩
      have HR3 := Lib.hid (HR2.out.lift hb3)
      have HZ3 := Lib.hid (Box.lift HZ2.out hb3)
      have HY3 := Lib.hid (Box.lift HY2.out hb3)
      have hsz3 := hb3.size
      have hg3 := grown_trans (grown_trans (grown_of_below hg1 (some b)) hg2) (grown_of_below hb3 (some b))
      clear hb3 hg1 hg2 HR1 HR2 HZ1 HZ2 HY1 HY2
      unfold leafV
      go_wp2_with (refine wpList_store5 rfl _ _ rfl _ _ _ _ _ _ HY3.out rfl _ _ _ _ _ _ _ rfl ?_; intro w4 hB4 hg4 hs4)
      dsimp only [Act.put]
      have HY4 := Lib.hid hB4
      have HZ4 := Lib.hid (Box.grown HZ3.out hg4 (by intro e; have := Option.some.inj e; omega))
      have HR4 := Lib.hid (HR3.out.other (Nat.lt_succ_of_lt hblt) hg4)
      have hg4' := grown_fresh hg3 hg4 fun k e => by cases e; exact Nat.le_succ _
      have hlt4 : w.heap.size + 2 ≤ w4.heap.size := by omega
      clear hB4 hg4 hg3 HZ3 HR3 HY3 hs4 hsz3 hsz2 hsz1 hsz0 HZ HY HR0 hb0
      go_loopg [] f (fun k wr => ∃ (acc : List Ty) (p : Nat) (av : Value), Hid (pArgs k ts p acc = some (l, m)) ∧ acc.length + k ≤ f ∧ k ≤ f ∧ Hid (RdT wr b ts p) ∧ Hid (Box wr (w.heap.size + 1) (.int .i64 4) (.string tx) (.int .i64 0) (.int .i64 0) av) ∧ Hid (RowG TyE wr (w.heap.size + 2) (fun c => w.heap.size + 2 ≤ c) av acc) ∧ Hid (Zero wr w.heap.size) ∧ w.grownBy wr (some b) ∧ w.heap.size + 2 ≤ wr.heap.size)
      case atStart => exact ⟨[], i + 1, _, HAr, by simp, Nat.le_refl _, HR4, HY4, rowG_nil _ _ _ _, HZ4, hg4', hlt4⟩
      case round =>
        obtain ⟨acc, p, av, HP, hal, hkf, HRr, HYr, HRow, HZr, hgr, hltr⟩ := hrel
        obtain ⟨sa, sc, rfl, -, -⟩ := HRow.out.slice
        have HK : Hid (∀ w, RdT w b ts p → Calls Try.prog 97 #[.pointer (some ⟨b, 0, none⟩)] w fun e w' => e = .returned (.bool (rKind ts p 1 || rKind ts p 2 || rIs ts p ⟨#[40]⟩)) ∧ Below w.heap.size w w') := fun w h => rdAtoms_any b ts p w h
        rcases args_cases HP.out with ⟨hq, rfl, rfl⟩ | ⟨hq, g, V, q, rfl, hV, hrest⟩
        · rw [hq] at HK
          clear hq HP
          go_wp2_with fail
          go_at_call 97
          refine (HK.out _ HRr.out).mono ?_
          rintro e v1 ⟨rfl, hb1⟩
          have HR1 := Lib.hid (HRr.out.lift hb1)
          have HY1 := Lib.hid (Box.lift HYr.out hb1)
          have HZ1 := Lib.hid (Box.lift HZr.out hb1)
          have HRow1 := Lib.hid (HRow.out.lift hb1)
          have hg1 := grown_trans hgr (grown_of_below hb1 (some b))
          have hs1 := hb1.size
          clear hb1 HRr HYr HZr HRow HK
          have HRt := HR1
          have HYt := HY1
          have HRep : Hid (Rep v1 (fun c => w.heap.size + 2 ≤ c) (.mk 4 tx 0 0 l) (.agg #[.int .i64 4, .string tx, .int .i64 0, .int .i64 0, .slice sa l.length sc])) := Rep.close HS.out (slG_repL (HRow1.out.slG (fun _ h => h) (fun _ h => h)))
          have HZt := HZ1
          have hgt := hg1
          clear HR1 HY1 HRow1 HZ1 hg1
          generalize l.length = al at *
          rcases HArr.out with ⟨hq2, rfl, rfl⟩ | ⟨hq2, g', V', hg', hV', rfl⟩
          · have HSk : Hid (∀ w, RdT w b ts j → Calls Try.prog 99 #[.pointer (some ⟨b, 0, none⟩), .string ⟨#[45, 62]⟩] w fun e w' => e = .returned (.bool false) ∧ Below w.heap.size w w') := fun w h => rdSkip_no _ b ts j w h hq2
            clear hq2
            go_wp2_with fail
            go_at_call 99
            refine (HSk.out _ HRt.out).mono ?_
            rintro e z1 ⟨rfl, hb1⟩
            have HZ1 := Lib.hid (Box.lift HZt.out hb1)
            have HR1 := Lib.hid (HRt.out.lift hb1)
            have HRep1 := Lib.hid (HRep.out.lift hb1)
            have hg1 := grown_trans hgt (grown_of_below hb1 (some b))
            obtain ⟨d0, d1, d2, d3, d4⟩ := (Box.lift HYt.out hb1).cells
            go_wp2_with (refine wpList_store5 rfl _ _ rfl _ _ _ _ _ _ HZ1.out rfl _ _ _ _ _ _ _ rfl ?_; intro z2 hB2 hg2 hs2)
            obtain ⟨c0, c1, c2, c3, c4⟩ := hB2.cells
            refine bodyPost_ret (by simp [results, Try.results100, go_sem, c0, c1, c2, c3, c4]; try rfl) rfl ?_
            exact ⟨_, rfl, HRep1.out.kept (fun c hc => Nat.le_trans hbase (Nat.le_trans (Nat.le_add_right _ 2) hc)) (fun c hc hlt => hg2.block c hlt (by intro e; have := Option.some.inj e; omega)), HR1.out.other hblt hg2, grown_fresh hg1 hg2 fun k e => by cases e; exact Nat.le_refl _⟩
          · have HSk : Hid (∀ w, RdT w b ts m → Calls Try.prog 99 #[.pointer (some ⟨b, 0, none⟩), .string ⟨#[45, 62]⟩] w fun e w' => e = .returned (.bool true) ∧ RdT w' b ts (m + 1) ∧ w.grownBy w' (some b)) := fun w h => rdSkip_yes _ b ts m w h hq2
            have HTy := Lib.hid (HT.out g' (by omega) _ _ _ hV')
            clear hq2 hV'
            go_wp2_with fail
            go_at_call 99
            refine (HSk.out _ HRt.out).mono ?_
            rintro e z1 ⟨rfl, hr1, hgz⟩
            have hbd : Below z1.heap.size z1 z1.drew := (Below.refl _ z1).drew
            have hneY : some (w.heap.size + 1) ≠ some b := fun e => by have := Option.some.inj e; omega
            have hneZ : some w.heap.size ≠ some b := fun e => by have := Option.some.inj e; omega
            have HRd := Lib.hid (hr1.lift hbd)
            have HZd := Lib.hid (Box.lift (Box.grown HZt.out hgz hneZ) hbd)
            have HYd := Lib.hid (Box.lift (Box.grown HYt.out hgz hneY) hbd)
            have HRepd := Lib.hid ((HRep.out.kept (fun c hc => hc) (fun c hc hlt => hgz.block c hlt (by intro e; have := Option.some.inj e; omega))).lift hbd)
            have hgd := grown_trans (grown_trans hgt hgz) (grown_of_below hbd (some b))
            have hsz : w.heap.size + 2 ≤ z1.heap.size := by have := hgz.size; omega
            have hle : z1.heap.size ≤ z1.drew.heap.size := hbd.size
            have hbv : b < z1.heap.size := by omega
            obtain ⟨y0, y1, y2, y3, y4⟩ := HYd.out.cells
            clear hr1 hgz hbd HSk HRt HZt HYt HRep hgt HArr HT HA
            go_wp2_with fail
            go_region_law
              (first
                | ((with_reducible refine step_call1 100 enterType (.pointer (some ⟨b, 0, none⟩)) (fun u w' => Rep w' (fun c => z1.heap.size ≤ c) V' u ∧ RdT w' b ts j ∧ z1.drew.grownBy w' (some b)) ?_ ?_ ?_); (rfl); (exact HTy.out b z1.heap.size _ hbv hle HRd.out); (rintro u z2 ⟨hrep, hr2, hg2⟩); (have HF := Lib.hid (afterType hrep hr2 hg2 HYd.out HZd.out HRepd.out hgd hneY hneZ hsz hle hblt)); (obtain ⟨n0, n1, n2, n3, n4⟩ := HF.out.box.cells); clear hrep hr2 hg2 y0 y1 y2 y3 y4)
                | ((with_reducible refine step_call2 38 enterArrow (.agg #[.int .i64 4, .string tx, .int .i64 0, .int .i64 0, .slice sa al sc]) u (AfterArrow w z2 (.mk 4 tx 0 0 l) V') ?_ ?_ ?_ ?_); (rfl); (rfl); (first | exact HF.out.arrow _ (Below.refl _ z2) | exact HF.out.arrow _ (Below.refl _ z2).drew); (rintro u z3 ⟨ra, rc, rfl, hrl, hb3⟩); (have HZ3 := Lib.hid (Box.lift HF.out.zero hb3)); (have HRL := Lib.hid hrl); (have HB3 := Lib.hid hb3); (obtain ⟨c0, c1, c2, c3, c4⟩ := HZ3.out.cells); (obtain ⟨f0, f1, f2, f3, f4⟩ := HZ3.out.frozen); clear hb3 hrl))
            all_goals
              have hs5 := set5 HZ3.out (.int .i64 4) (.string arrN) (.int .i64 0) (.int .i64 0) (.slice ra 2 rc)
              have hzz : z3.heap.size = z3.heap.size := rfl
              generalize (((((z3.setCell ⟨w.heap.size, 0, none⟩ (.int .i64 4)).setCell ⟨w.heap.size, 1, none⟩ (.string arrN)).setCell ⟨w.heap.size, 2, none⟩ (.int .i64 0)).setCell ⟨w.heap.size, 3, none⟩ (.int .i64 0)).setCell ⟨w.heap.size, 4, none⟩ (.slice ra 2 rc)) = z4 at *
              clear c0 c1 c2 c3 c4 f0 f1 f2 f3 f4 hzz
              obtain ⟨hB, hG, -⟩ := hs5
              obtain ⟨c0, c1, c2, c3, c4⟩ := hB.cells
              clear hB
              go_wp2
              refine bodyPost_ret (by simp [results, Try.results100, go_sem, c0, c1, c2, c3, c4]; try rfl) rfl ?_
              exact ⟨_, rfl, (Rep.close arrN_ok HRL.out).kept (fun c hc => Nat.le_trans hbase (Nat.le_trans (Nat.le_add_right _ 2) hc)) (fun c hc hlt => hG.block c hlt (by intro e; have := Option.some.inj e; omega)), (HF.out.rd.lift HB3.out).other hblt hG, grown_fresh (grown_trans HF.out.grown (grown_of_below HB3.out _)) hG fun k e => by cases e; exact Nat.le_refl _⟩
        · rw [hq] at HK
          clear hq HP
          have HPr := Lib.hid hrest
          have HAt := Lib.hid (HA.out g (by omega) p V q hV)
          clear hV hrest
          go_wp2_with fail
          go_at_call 97
          refine (HK.out _ HRr.out).mono ?_
          rintro e v1 ⟨rfl, hb1⟩
          have HR1 := Lib.hid (HRr.out.lift hb1)
          have HY1 := Lib.hid (Box.lift HYr.out hb1)
          have HZ1 := Lib.hid (Box.lift HZr.out hb1)
          have HRow1 := Lib.hid (HRow.out.lift hb1)
          have hg1 := grown_trans hgr (grown_of_below hb1 (some b))
          have hs1 := hb1.size
          clear hb1 HRr HYr HZr HRow HK
          go_wp2_with fail
          have hbd : Below v1.heap.size v1 v1.drew := (Below.refl _ v1).drew
          have HRd := Lib.hid (HR1.out.lift hbd)
          have HYd := Lib.hid (Box.lift HY1.out hbd)
          have HZd := Lib.hid (Box.lift HZ1.out hbd)
          have HRowd := Lib.hid (HRow1.out.lift hbd)
          have hgd := grown_trans hg1 (grown_of_below hbd (some b))
          have hbv : b < v1.heap.size := by omega
          have hle : v1.heap.size ≤ v1.drew.heap.size := hbd.size
          have hneY : some (w.heap.size + 1) ≠ some b := fun e => by have := Option.some.inj e; omega
          have hneZ : some w.heap.size ≠ some b := fun e => by have := Option.some.inj e; omega
          have hoff := RowG.off HRow1.out (k := b) (by omega)
          have hSb : ∀ c, w.heap.size + 2 ≤ c → some c ≠ some b := fun c hc e => by have := Option.some.inj e; omega
          have HnY : Hid (some (w.heap.size + 1) ≠ (Value.slice sa acc.length sc).ownBlock) := fun e => by have := (RowG.lt HRow1.out _ e.symm).1; omega
          have HnZ : Hid (some w.heap.size ≠ (Value.slice sa acc.length sc).ownBlock) := fun e => by have := (RowG.lt HRow1.out _ e.symm).1; omega
          have HnB : Hid (some b ≠ (Value.slice sa acc.length sc).ownBlock) := fun e => by have := (RowG.lt HRow1.out _ e.symm).1; omega
          have HSV : Hid (∀ c, v1.heap.size ≤ c → w.heap.size + 2 ≤ c ∧ some c ≠ (Value.slice sa acc.length sc).ownBlock) := fun c hc => ⟨by omega, fun e => by have := (RowG.lt HRow1.out _ e.symm).2; omega⟩
          have HLv : Hid (∀ k, (Value.slice sa acc.length sc).ownBlock = some k → w.heap.size + 2 ≤ k) := fun k e => (RowG.lt HRow1.out k e).1
          obtain ⟨y0, y1, y2, y3, y4⟩ := HYd.out.cells
          have hNb : acc.length + 1 ≤ 1000000 := by omega
          have hsv : w.heap.size + 2 ≤ v1.heap.size := by omega
          clear y0 y1 y2 y3
          go_region_law
            (first
              | ((with_reducible refine step_call1 98 enterAtom (.pointer (some ⟨b, 0, none⟩)) (fun u w' => Rep w' (fun c => v1.heap.size ≤ c) V u ∧ RdT w' b ts q ∧ v1.drew.grownBy w' (some b)) ?_ ?_ ?_); (rfl); (exact HAt.out b v1.heap.size _ hbv hle HRd.out); (rintro u v2 ⟨hrep, hr2, hg2⟩); (have HF := Lib.hid (afterAtom hrep hr2 hg2 HYd.out HZd.out HRowd.out hgd hneY hneZ hoff hSb HSV.out)); (obtain ⟨uk, un, ui, uh, ua, un', uc, rfl⟩ := hrep.form); (have z4 := HF.out.cell); (have z4o := HF.out.cellA); (have z4d := HF.out.cellD); (have hs12 := Nat.le_trans hsv hg2.size); clear hrep hr2 hg2 y4)
              | ((with_reducible refine fitA v2 _ ?_); (refine step_push_atom HF.out hs12 hblt (by rfl) _ _ (by rfl) (by rfl) _ rfl (by rfl) (acc.length + 1) rfl hNb ?_); (intro a' c' v3 hP); (have HP3 := Lib.hid hP); (obtain ⟨c4, f4⟩ := hP.at); clear hP z4 z4o z4d)
              | ((with_reducible refine fitA v2.drew _ ?_); (refine step_push_atom (HF.out.lift (Below.refl _ v2).drew) hs12 hblt (by rfl) _ _ (by rfl) (by rfl) _ rfl (by rfl) (acc.length + 1) rfl hNb ?_); (intro a' c' v3 hP); (have HP3 := Lib.hid hP); (obtain ⟨c4, f4⟩ := hP.at); clear hP z4 z4o z4d))
          all_goals
            have HP4 := Lib.hid (HP3.out.stored hblt)
            clear HP3 c4 f4 HF hs12 hsv HLv HSV HnB HnZ HnY hSb hoff hneZ hneY hle hbv hgd HRowd HZd HYd HRd hbd
            go_wp2
            go_roundg g
            case measure => omega
            case rel => exact ⟨acc ++ [V], q, _, HPr, by simp; omega, by omega, HP4.out.rd, HP4.out.box, HP4.out.row, HP4.out.zero, HP4.out.grown, HP4.out.size⟩
  | false =>
    rw [h2] at hr HK2
    simp only [Bool.false_eq_true, if_false] at hr
    clear h2
    cases ha : pAtom f ts i with
    | none => rw [ha] at hr; simp at hr
    | some p =>
      obtain ⟨U, m⟩ := p
      rw [ha] at hr
      have HArr := Lib.hid (arrow_cases hr)
      have HAt := Lib.hid (HA.out f (Nat.le_refl _) i U m ha)
      clear hr ha
      go_enter Try.func100, Try.ntmps100
      go_wp2_with fail
      go_at_call 96
      generalize ((w.alloc (.cells #[.int .i64 0, .string ⟨#[]⟩, .int .i64 0, .int .i64 0, .slice none 0 0] 25)).alloc (.cells #[.int .i64 0, .string ⟨#[]⟩, .int .i64 0, .int .i64 0, .slice none 0 0] 25)) = w0 at *
      refine (HK2.out _ HR0.out).mono ?_
      rintro e w1 ⟨rfl, hb1⟩
      have HZ1 := Lib.hid (Box.lift HZ.out hb1)
      have HY1 := Lib.hid (Box.lift HY.out hb1)
      have HR1 := Lib.hid (HR0.out.lift hb1)
      have hg1 := hb0.trans (hb1.mono hb0.size)
      have hsz1 := hb1.size
      clear hb1
      go_wp2_with fail
      go_at_call 98
      refine (HAt.out b (w.heap.size + 2) _ (by omega) (by omega) HR1.out).mono ?_
      rintro e w2 ⟨u, rfl, hrep, hr2, hg2⟩
      have HR2 := Lib.hid hr2
      have HZ2 := Lib.hid (Box.grown HZ1.out hg2 (by intro e; cases e; omega))
      have HY2 := Lib.hid (Box.grown HY1.out hg2 (by intro e; cases e; omega))
      have HRep2 := Lib.hid hrep
      have hsz2 := hg2.size
      obtain ⟨uk, un, ui, uh, ua, un', uc, rfl⟩ := hrep.form
      have hg3 := grown_trans (grown_of_below hg1 (some b)) hg2
      clear hr2 hrep hg1 hg2 HAt
      go_wp2_with (refine wpList_store5 rfl _ _ rfl _ _ _ _ _ _ HY2.out rfl _ _ _ _ _ _ _ rfl ?_; intro v1 hB4 hg4 hs4)
      have HYt := Lib.hid hB4
      have HZt := Lib.hid (Box.grown HZ2.out hg4 (by intro e; have := Option.some.inj e; omega))
      have HRt := Lib.hid (HR2.out.other (Nat.lt_succ_of_lt hblt) hg4)
      have HRep := Lib.hid (HRep2.out.kept (fun c hc => hc) (fun c hc hlt => hg4.block c hlt (by intro e; have := Option.some.inj e; omega)))
      have hgt := grown_fresh hg3 hg4 fun k e => by cases e; exact Nat.le_succ _
      have hltt : w.heap.size + 2 ≤ v1.heap.size := by omega
      clear hB4 hg4 hg3 HZ2 HR2 HY2 HRep2 hs4 hsz2 hsz1 hsz0 HZ HY HR0 hb0 HK2 HZ1 HY1 HR1
      rcases HArr.out with ⟨hq2, rfl, rfl⟩ | ⟨hq2, g', V', hg', hV', rfl⟩
      · have HSk : Hid (∀ w, RdT w b ts j → Calls Try.prog 99 #[.pointer (some ⟨b, 0, none⟩), .string ⟨#[45, 62]⟩] w fun e w' => e = .returned (.bool false) ∧ Below w.heap.size w w') := fun w h => rdSkip_no _ b ts j w h hq2
        clear hq2
        go_wp2_with fail
        go_at_call 99
        refine (HSk.out _ HRt.out).mono ?_
        rintro e z1 ⟨rfl, hb1⟩
        have HZ1 := Lib.hid (Box.lift HZt.out hb1)
        have HR1 := Lib.hid (HRt.out.lift hb1)
        have HRep1 := Lib.hid (HRep.out.lift hb1)
        have hg1 := grown_trans hgt (grown_of_below hb1 (some b))
        obtain ⟨d0, d1, d2, d3, d4⟩ := (Box.lift HYt.out hb1).cells
        go_wp2_with (refine wpList_store5 rfl _ _ rfl _ _ _ _ _ _ HZ1.out rfl _ _ _ _ _ _ _ rfl ?_; intro z2 hB2 hg2 hs2)
        obtain ⟨c0, c1, c2, c3, c4⟩ := hB2.cells
        refine bodyPost_ret (by simp [results, Try.results100, go_sem, c0, c1, c2, c3, c4]; try rfl) rfl ?_
        exact ⟨_, rfl, HRep1.out.kept (fun c hc => Nat.le_trans hbase (Nat.le_trans (Nat.le_add_right _ 2) hc)) (fun c hc hlt => hg2.block c hlt (by intro e; have := Option.some.inj e; omega)), HR1.out.other hblt hg2, grown_fresh hg1 hg2 fun k e => by cases e; exact Nat.le_refl _⟩
      · have HSk : Hid (∀ w, RdT w b ts m → Calls Try.prog 99 #[.pointer (some ⟨b, 0, none⟩), .string ⟨#[45, 62]⟩] w fun e w' => e = .returned (.bool true) ∧ RdT w' b ts (m + 1) ∧ w.grownBy w' (some b)) := fun w h => rdSkip_yes _ b ts m w h hq2
        have HTy := Lib.hid (HT.out g' (by omega) _ _ _ hV')
        clear hq2 hV'
        go_wp2_with fail
        go_at_call 99
        refine (HSk.out _ HRt.out).mono ?_
        rintro e z1 ⟨rfl, hr1, hgz⟩
        have hbd : Below z1.heap.size z1 z1.drew := (Below.refl _ z1).drew
        have hneY : some (w.heap.size + 1) ≠ some b := fun e => by have := Option.some.inj e; omega
        have hneZ : some w.heap.size ≠ some b := fun e => by have := Option.some.inj e; omega
        have HRd := Lib.hid (hr1.lift hbd)
        have HZd := Lib.hid (Box.lift (Box.grown HZt.out hgz hneZ) hbd)
        have HYd := Lib.hid (Box.lift (Box.grown HYt.out hgz hneY) hbd)
        have HRepd := Lib.hid ((HRep.out.kept (fun c hc => hc) (fun c hc hlt => hgz.block c hlt (by intro e; have := Option.some.inj e; omega))).lift hbd)
        have hgd := grown_trans (grown_trans hgt hgz) (grown_of_below hbd (some b))
        have hsz : w.heap.size + 2 ≤ z1.heap.size := by have := hgz.size; omega
        have hle : z1.heap.size ≤ z1.drew.heap.size := hbd.size
        have hbv : b < z1.heap.size := by omega
        obtain ⟨y0, y1, y2, y3, y4⟩ := HYd.out.cells
        clear hr1 hgz hbd HSk HRt HZt HYt HRep hgt HArr HT HA
        go_wp2_with fail
        go_region_law
          (first
            | ((with_reducible refine step_call1 100 enterType (.pointer (some ⟨b, 0, none⟩)) (fun u w' => Rep w' (fun c => z1.heap.size ≤ c) V' u ∧ RdT w' b ts j ∧ z1.drew.grownBy w' (some b)) ?_ ?_ ?_); (rfl); (exact HTy.out b z1.heap.size _ hbv hle HRd.out); (rintro u z2 ⟨hrep, hr2, hg2⟩); (have HF := Lib.hid (afterType hrep hr2 hg2 HYd.out HZd.out HRepd.out hgd hneY hneZ hsz hle hblt)); (obtain ⟨n0, n1, n2, n3, n4⟩ := HF.out.box.cells); clear hrep hr2 hg2 y0 y1 y2 y3 y4)
            | ((with_reducible refine step_call2 38 enterArrow (.agg #[.int .i64 uk, .string un, .int .i64 ui, .int .i64 uh, .slice ua un' uc]) u (AfterArrow w z2 U V') ?_ ?_ ?_ ?_); (rfl); (rfl); (first | exact HF.out.arrow _ (Below.refl _ z2) | exact HF.out.arrow _ (Below.refl _ z2).drew); (rintro u z3 ⟨ra, rc, rfl, hrl, hb3⟩); (have HZ3 := Lib.hid (Box.lift HF.out.zero hb3)); (have HRL := Lib.hid hrl); (have HB3 := Lib.hid hb3); (obtain ⟨c0, c1, c2, c3, c4⟩ := HZ3.out.cells); (obtain ⟨f0, f1, f2, f3, f4⟩ := HZ3.out.frozen); clear hb3 hrl))
        all_goals
          have hs5 := set5 HZ3.out (.int .i64 4) (.string arrN) (.int .i64 0) (.int .i64 0) (.slice ra 2 rc)
          have hzz : z3.heap.size = z3.heap.size := rfl
          generalize (((((z3.setCell ⟨w.heap.size, 0, none⟩ (.int .i64 4)).setCell ⟨w.heap.size, 1, none⟩ (.string arrN)).setCell ⟨w.heap.size, 2, none⟩ (.int .i64 0)).setCell ⟨w.heap.size, 3, none⟩ (.int .i64 0)).setCell ⟨w.heap.size, 4, none⟩ (.slice ra 2 rc)) = z4 at *
          clear c0 c1 c2 c3 c4 f0 f1 f2 f3 f4 hzz
          obtain ⟨hB, hG, -⟩ := hs5
          obtain ⟨c0, c1, c2, c3, c4⟩ := hB.cells
          clear hB
          go_wp2
          refine bodyPost_ret (by simp [results, Try.results100, go_sem, c0, c1, c2, c3, c4]; try rfl) rfl ?_
          exact ⟨_, rfl, (Rep.close arrN_ok HRL.out).kept (fun c hc => Nat.le_trans hbase (Nat.le_trans (Nat.le_add_right _ 2) hc)) (fun c hc hlt => hG.block c hlt (by intro e; have := Option.some.inj e; omega)), (HF.out.rd.lift HB3.out).other hblt hG, grown_fresh (grown_trans HF.out.grown (grown_of_below HB3.out _)) hG fun k e => by cases e; exact Nat.le_refl _⟩
end Go.Proofs.Ytahiefgfhpkoeaa
