import Derived.Test.YtafpngmfhajedaaQF
import Derived.Test.YtafpngmfhajedaaQN
/- What the law's made is to give; schemes compared. -/
namespace Go.Proofs.Ytafpngmfhajedaa
open Go.RowKit Go.Sort Go.Shelf Go.Maps Mth

/-- Names of made declarations. -/
def nmOk (n : ByteArray) : Bool := bl n == [73, 110, 116] || isUp (bl n)
/-- Declarations of the sizes that the law's made makes. -/
structure GoodM (ds : List Dat) : Prop where
  num : ds.length ≤ 4
  good : GoodD ds
  names : GoodN ds
  up : ∀ d ∈ ds, nmOk d.name = true ∧ d.params.length ≤ 2
  val : ∀ d ∈ ds, d.ctors.length ≤ 3 ∧ ∀ c ∈ d.ctors, c.fields.length ≤ 2 ∧ ∀ f ∈ c.fields, valid f = true
/-- The contract of the law's made. -/
def MadeAt : Prop := ∀ (cv : Value) (zs : List Int) (w w0 : World), zs.length ≤ 1000 → Ints w0 cv zs → Below w0.heap.size w0 w → w0.heap.size < w.heap.size →
  Calls Try.prog 9 #[cv] w fun e w' => ∃ v ds, e = .returned v ∧ GoodM ds ∧ SlG DatE w' (fun _ => True) ds v ∧ Below w.heap.size w w' ∧ (v = .slice none 0 0 ∨ ∃ ad m c, v = .slice (some ad) m c)
def schN : Option (Nat × Ty) → Nat
  | none => 0
  | some (n, _) => n
def schT : Option (Nat × Ty) → Ty
  | none => .mk 0 ⟨#[]⟩ 0 0 []
  | some (_, T) => T
theorem schE_form {w : World} {S : Nat → Prop} {o : Option (Nat × Ty)} {e : Ending} (h : SchE w S o e) : ∃ (k : Int) (n : ByteArray) (i hh : Int) (a : Option Addr) (m c : Nat),
    e = .returned (.tuple #[.agg #[.int .i64 (schN o), .int .i64 k, .string n, .int .i64 i, .int .i64 hh, .slice a m c], .bool o.isSome]) ∧ Rep w S (schT o) (.agg #[.int .i64 k, .string n, .int .i64 i, .int .i64 hh, .slice a m c]) := by
  cases o with
  | none => exact ⟨0, ⟨#[]⟩, 0, 0, none, 0, 0, h, rep_leaf _ _ _ _ _ _ (Nat.zero_le _)⟩
  | some p =>
    obtain ⟨n, T⟩ := p
    obtain ⟨v, he, hv⟩ := h
    obtain ⟨k, nm, i, hh, a, m, c, rfl, hr⟩ := hv.form
    exact ⟨k, nm, i, hh, a, m, c, he, hr⟩
def fa : Option (Nat × Nat) → Int
  | none => 0
  | some (i, _) => i
def fb : Option (Nat × Nat) → Int
  | none => 0
  | some (_, k) => k
theorem fndV_form (o : Option (Nat × Nat)) : fndV o = .tuple #[.int .i64 (fa o), .int .i64 (fb o), .bool o.isSome] := by
  cases o with
  | none => rfl
  | some p => rfl
theorem teqM_refl (T : Ty) : teq T T = true := by
  refine Ty.induct (p := fun T => teq T T = true) (fun T ih => ?_) T
  cases T with
  | mk k n i h ts =>
    have : teqL ts ts = true := by
      have key : ∀ l : List Ty, (∀ U ∈ l, teq U U = true) → teqL l l = true := by
        intro l
        induction l with
        | nil => intro _; rfl
        | cons x l ihl => intro hl; simp [teqL, hl x (by simp), ihl fun U hU => hl U (by simp [hU])]
      exact key ts ih
    simp [teq, this]
end Go.Proofs.Ytafpngmfhajedaa

/- The law's made: what its loops keep. -/
namespace Go.Proofs.Ytafpngmfhajedaa
open Go.RowKit Go.Sort Go.Shelf Go.Maps Mth

theorem Tq.row' {w w' : World} {b : Nat} {r : Option Nat} (h : Tq w b) (hg : w.grownBy w' r) (hr : ∀ k, r = some k → b < k) : Tq w' b := by
  cases r with
  | some k => exact h.other (hr k rfl) hg
  | none => exact h.other (Nat.lt_succ_self b) ⟨hg.os, hg.tape, hg.output, hg.size, fun k hk _ => hg.block k hk (by simp)⟩
theorem grown_two' {w w1 w2 : World} {r0 r1 : Option Nat} (h1 : w.grownBy w1 r0) (h2 : w1.grownBy w2 r1) (h : ∀ g, r1 = some g → r0 = some g ∨ w.heap.size ≤ g) : w.grownBy w2 r0 :=
  ⟨h2.os.trans h1.os, h2.tape.trans h1.tape, h2.output.trans h1.output, Nat.le_trans h1.size h2.size, fun k hk hne => by
    rw [h2.block k (Nat.lt_of_lt_of_le hk h1.size) (fun e => by
      rcases h k e.symm with h3 | h3
      · exact hne h3.symm
      · omega)]
    exact h1.block k hk hne⟩
def PG (ps : List ByteArray) : Prop := ps.length ≤ 2 ∧ ∀ p ∈ ps, p.size ≤ 5
def CG (c : Ctor) : Prop := c.name.size ≤ 5 ∧ c.fields.length ≤ 2 ∧ ∀ f ∈ c.fields, Ok 2 f
def DG (d : Dat) : Prop := (d.name.size ≤ 5 ∧ nmOk d.name = true) ∧ PG d.params ∧ d.ctors.length ≤ 3 ∧ ∀ c ∈ d.ctors, CG c
theorem goodM_of {ds : List Dat} (hn : ds.length ≤ 4) (h : ∀ d ∈ ds, DG d) : GoodM ds := by
  have hm : ∀ n : Nat, n ≤ 5 → n ≤ maxLen := fun n hn => by unfold maxLen; omega
  refine ⟨hn, ⟨by omega, fun d hd => ?_⟩, fun d hd => ?_, fun d hd => ⟨(h d hd).1.2, (h d hd).2.1.1⟩, fun d hd => ⟨(h d hd).2.2.1, fun c hc => ⟨((h d hd).2.2.2 c hc).2.1, fun f hf => (((h d hd).2.2.2 c hc).2.2 f hf).1⟩⟩⟩
  · obtain ⟨h1, h2, h3, h4⟩ := h d hd
    refine ⟨by have := h2.1; omega, hm _ h1.1, by omega, fun c hc => ?_⟩
    obtain ⟨k1, k2, k3⟩ := h4 c hc
    exact ⟨by omega, fun f hf => ⟨Nat.le_trans (k3 f hf).2 (by decide), (valid_flat f (k3 f hf).1).2⟩⟩
  · obtain ⟨h1, h2, h3, h4⟩ := h d hd
    exact ⟨fun p hp => hm _ (h2.2 p hp), fun c hc => hm _ (h4 c hc).1⟩
/-- The tape and the declarations made so far. -/
structure MOt (w0 : World) (b base : Nat) (yo : Value) (ds : List Dat) (wr : World) : Prop where
  tq : Tq wr b
  row : RowG DatE wr base (fun c => base ≤ c) yo ds
  low : Below b w0 wr
  bb : b < base
  size : base ≤ wr.heap.size
theorem MOt.grow {w0 : World} {b base : Nat} {yo : Value} {ds : List Dat} {wr wr' : World} (h : MOt w0 b base yo ds wr) (ht : Tq wr' b) (hg : wr.grownBy wr' (some b)) : MOt w0 b base yo ds wr' := by
  have hbb := h.bb
  exact ⟨ht, h.row.kept hg (h.row.off hbb) (fun c hc => by intro e; have := Option.some.inj e; omega), Below.grown h.low hg (Nat.le_trans (Nat.le_of_lt hbb) h.size) (fun k hk => by cases hk; exact Nat.le_refl _), hbb, Nat.le_trans h.size hg.size⟩
theorem MOt.lift {w0 : World} {b base : Nat} {yo : Value} {ds : List Dat} {wr wr' : World} (h : MOt w0 b base yo ds wr) (hb : Below wr.heap.size wr wr') : MOt w0 b base yo ds wr' := h.grow (h.tq.lift hb) (grown_of_below hb _)
theorem MOt.push {w0 : World} {b base : Nat} {yo yo' : Value} {ds ds' : List Dat} {wr wr' : World} (h : MOt w0 b base yo ds wr) (hr : RowG DatE wr' base (fun c => base ≤ c) yo' ds') (hg : wr.grownBy wr' yo.ownBlock) : MOt w0 b base yo' ds' wr' := by
  have hbb := h.bb
  have hl := fun k e => (RowG.lt h.row k e).1
  exact ⟨h.tq.row' hg (fun k e => by have := hl k e; omega), hr, Below.grown h.low hg (Nat.le_trans (Nat.le_of_lt hbb) h.size) (fun k e => by have := hl k e; omega), hbb, Nat.le_trans h.size hg.size⟩
/-- A declaration's box and its parameters. -/
structure MPt (wA : World) (b D : Nat) (p n : Value) (pv : Value) (ps : List ByteArray) (wr : World) : Prop where
  tq : Tq wr b
  gr : wA.grownBy wr (some b)
  box : BoxC 36 wr D [p, n, pv, .slice none 0 0]
  row : RowG StrE wr (D + 1) (fun _ => False) pv ps
  eq : wA.heap.size = D
  lt : b < D
theorem MPt.grow {wA : World} {b D : Nat} {p n pv : Value} {ps : List ByteArray} {wr wr' : World} (h : MPt wA b D p n pv ps wr) (ht : Tq wr' b) (hg : wr.grownBy wr' (some b)) : MPt wA b D p n pv ps wr' := by
  have := h.lt
  exact ⟨ht, grown_trans h.gr hg, h.box.grown hg (by intro e; have := Option.some.inj e; omega), h.row.kept hg (h.row.off (by omega)) (fun _ h => h.elim), h.eq, h.lt⟩
theorem MPt.lift {wA : World} {b D : Nat} {p n pv : Value} {ps : List ByteArray} {wr wr' : World} (h : MPt wA b D p n pv ps wr) (hb : Below wr.heap.size wr wr') : MPt wA b D p n pv ps wr' := h.grow (h.tq.lift hb) (grown_of_below hb _)
theorem MPt.push {wA : World} {b D : Nat} {p n pv pv' : Value} {ps ps' : List ByteArray} {wr wr' : World} (h : MPt wA b D p n pv ps wr) (hr : RowG StrE wr' (D + 1) (fun _ => False) pv' ps') (hg : wr.grownBy wr' pv.ownBlock) :
    Tq wr' b ∧ wA.grownBy wr' (some b) ∧ BoxC 36 wr' D [p, n, pv, .slice none 0 0] ∧ RowG StrE wr' (D + 1) (fun _ => False) pv' ps' := by
  have h1 := h.lt
  have h2 := h.eq
  have hl := fun k e => (RowG.lt h.row k e).1
  exact ⟨h.tq.row' hg (fun k e => by have := hl k e; omega), grown_two' h.gr hg (fun g e => by have := hl g e; right; omega), h.box.grown hg (fun e => by have := hl D e.symm; omega), hr⟩
theorem MPt.store {wA : World} {b D : Nat} {p n pv pv' : Value} {ps' : List ByteArray} {wr : World} (h : Tq wr b ∧ wA.grownBy wr (some b) ∧ BoxC 36 wr D [p, n, pv, .slice none 0 0] ∧ RowG StrE wr (D + 1) (fun _ => False) pv' ps') (he : wA.heap.size = D) (hl : b < D) :
    MPt wA b D p n pv' ps' (wr.setCell ⟨D, 2, none⟩ pv') := by
  obtain ⟨h1, h2, h3, h4⟩ := h
  obtain ⟨s1, s2, -⟩ := h3.set 2 pv'
  exact ⟨h1.row' s2 (fun k e => by cases e; exact hl), grown_two' h2 s2 (fun g e => by cases e; right; omega), s1, h4.kept s2 (h4.off (Nat.lt_succ_self _)) (fun _ h => h.elim), he, hl⟩
/-- A declaration's box, its parameters and its constructors. -/
structure MCt (wA : World) (b D E : Nat) (p n : Value) (pv : Value) (ps : List ByteArray) (cvv : Value) (cs : List Ctor) (wr : World) : Prop where
  tq : Tq wr b
  gr : wA.grownBy wr (some b)
  box : BoxC 36 wr D [p, n, pv, cvv]
  prow : RowG StrE wr (D + 1) (fun _ => False) pv ps
  crow : RowG CtorE wr E (fun c => E ≤ c) cvv cs
  pown : ∀ g, pv.ownBlock = some g → g < E
  eq : wA.heap.size = D
  lt : b < D
  lt2 : D < E
  size : E ≤ wr.heap.size
theorem MCt.start {wA : World} {b D : Nat} {p n pv : Value} {ps : List ByteArray} {wr : World} (h : MPt wA b D p n pv ps wr) : MCt wA b D wr.heap.size p n pv ps (.slice none 0 0) [] wr :=
  ⟨h.tq, h.gr, h.box, h.row, rowG_nil _ _ _ _, fun g e => (RowG.lt h.row g e).2, h.eq, h.lt, h.box.lt, Nat.le_refl _⟩
theorem MCt.grow {wA : World} {b D E : Nat} {p n pv cvv : Value} {ps : List ByteArray} {cs : List Ctor} {wr wr' : World} (h : MCt wA b D E p n pv ps cvv cs wr) (ht : Tq wr' b) (hg : wr.grownBy wr' (some b)) : MCt wA b D E p n pv ps cvv cs wr' := by
  have h1 := h.lt
  have h2 := h.lt2
  exact ⟨ht, grown_trans h.gr hg, h.box.grown hg (by intro e; have := Option.some.inj e; omega), h.prow.kept hg (h.prow.off (by omega)) (fun _ h => h.elim), h.crow.kept hg (h.crow.off (by omega)) (fun c hc => by intro e; have := Option.some.inj e; omega), h.pown, h.eq, h.lt, h.lt2, Nat.le_trans h.size hg.size⟩
theorem MCt.lift {wA : World} {b D E : Nat} {p n pv cvv : Value} {ps : List ByteArray} {cs : List Ctor} {wr wr' : World} (h : MCt wA b D E p n pv ps cvv cs wr) (hb : Below wr.heap.size wr wr') : MCt wA b D E p n pv ps cvv cs wr' := h.grow (h.tq.lift hb) (grown_of_below hb _)
/-- Constructors are appended (the box still holds the old row). -/
theorem MCt.push {wA : World} {b D E : Nat} {p n pv cvv cvv' : Value} {ps : List ByteArray} {cs cs' : List Ctor} {wr wr' : World} (h : MCt wA b D E p n pv ps cvv cs wr) (hr : RowG CtorE wr' E (fun c => E ≤ c) cvv' cs') (hg : wr.grownBy wr' cvv.ownBlock) :
    Tq wr' b ∧ wA.grownBy wr' (some b) ∧ BoxC 36 wr' D [p, n, pv, cvv] ∧ RowG StrE wr' (D + 1) (fun _ => False) pv ps ∧ RowG CtorE wr' E (fun c => E ≤ c) cvv' cs' ∧ E ≤ wr'.heap.size := by
  have h1 := h.lt
  have h2 := h.eq
  have h3 := h.lt2
  have hl := fun k e => (RowG.lt h.crow k e).1
  refine ⟨h.tq.row' hg (fun k e => by have := hl k e; omega), grown_two' h.gr hg (fun g e => by have := hl g e; right; omega), h.box.grown hg (fun e => by have := hl D e.symm; omega), h.prow.kept hg ?_ (fun _ h => h.elim), hr, Nat.le_trans h.size hg.size⟩
  cases hp : pv.ownBlock with
  | none => exact .inl rfl
  | some g => exact .inr (fun e => by have h4 := h.pown g hp; have h5 := hl g e.symm; omega)
theorem MCt.store {wA : World} {b D E : Nat} {p n pv cvv cvv' : Value} {ps : List ByteArray} {cs' : List Ctor} {wr : World} (h : Tq wr b ∧ wA.grownBy wr (some b) ∧ BoxC 36 wr D [p, n, pv, cvv] ∧ RowG StrE wr (D + 1) (fun _ => False) pv ps ∧ RowG CtorE wr E (fun c => E ≤ c) cvv' cs' ∧ E ≤ wr.heap.size)
    (hp : ∀ g, pv.ownBlock = some g → g < E) (he : wA.heap.size = D) (hl : b < D) (hl2 : D < E) : MCt wA b D E p n pv ps cvv' cs' (wr.setCell ⟨D, 3, none⟩ cvv') := by
  obtain ⟨h1, h2, h3, h4, h5, h6⟩ := h
  obtain ⟨s1, s2, s3⟩ := h3.set 3 cvv'
  exact ⟨h1.row' s2 (fun k e => by cases e; exact hl), grown_two' h2 s2 (fun g e => by cases e; right; omega), s1, h4.kept s2 (h4.off (Nat.lt_succ_self _)) (fun _ h => h.elim), h5.kept s2 (h5.off hl2) (fun c hc => by intro e; have := Option.some.inj e; omega), hp, he, hl, hl2, by rw [s3]; exact h6⟩
/-- A constructor's box and its fields. -/
structure MFt (wC : World) (b C : Nat) (p n : Value) (fv : Value) (fs : List Ty) (wr : World) : Prop where
  tq : Tq wr b
  gr : wC.grownBy wr (some b)
  box : BoxC 45 wr C [p, n, fv]
  row : RowG TyE wr (C + 1) (fun c => C + 1 ≤ c) fv fs
  eq : wC.heap.size = C
  lt : b < C
theorem MFt.grow {wC : World} {b C : Nat} {p n fv : Value} {fs : List Ty} {wr wr' : World} (h : MFt wC b C p n fv fs wr) (ht : Tq wr' b) (hg : wr.grownBy wr' (some b)) : MFt wC b C p n fv fs wr' := by
  have := h.lt
  exact ⟨ht, grown_trans h.gr hg, h.box.grown hg (by intro e; have := Option.some.inj e; omega), h.row.kept hg (h.row.off (by omega)) (fun c hc => by intro e; have := Option.some.inj e; omega), h.eq, h.lt⟩
theorem MFt.lift {wC : World} {b C : Nat} {p n fv : Value} {fs : List Ty} {wr wr' : World} (h : MFt wC b C p n fv fs wr) (hb : Below wr.heap.size wr wr') : MFt wC b C p n fv fs wr' := h.grow (h.tq.lift hb) (grown_of_below hb _)
theorem MFt.push {wC : World} {b C : Nat} {p n fv fv' : Value} {fs fs' : List Ty} {wr wr' : World} (h : MFt wC b C p n fv fs wr) (hr : RowG TyE wr' (C + 1) (fun c => C + 1 ≤ c) fv' fs') (hg : wr.grownBy wr' fv.ownBlock) :
    Tq wr' b ∧ wC.grownBy wr' (some b) ∧ BoxC 45 wr' C [p, n, fv] ∧ RowG TyE wr' (C + 1) (fun c => C + 1 ≤ c) fv' fs' := by
  have h1 := h.lt
  have h2 := h.eq
  have hl := fun k e => (RowG.lt h.row k e).1
  exact ⟨h.tq.row' hg (fun k e => by have := hl k e; omega), grown_two' h.gr hg (fun g e => by have := hl g e; right; omega), h.box.grown hg (fun e => by have := hl C e.symm; omega), hr⟩
theorem MFt.store {wC : World} {b C : Nat} {p n fv fv' : Value} {fs' : List Ty} {wr : World} (h : Tq wr b ∧ wC.grownBy wr (some b) ∧ BoxC 45 wr C [p, n, fv] ∧ RowG TyE wr (C + 1) (fun c => C + 1 ≤ c) fv' fs') (he : wC.heap.size = C) (hl : b < C) :
    MFt wC b C p n fv' fs' (wr.setCell ⟨C, 2, none⟩ fv') := by
  obtain ⟨h1, h2, h3, h4⟩ := h
  obtain ⟨s1, s2, -⟩ := h3.set 2 fv'
  exact ⟨h1.row' s2 (fun k e => by cases e; exact hl), grown_two' h2 s2 (fun g e => by cases e; right; omega), s1, h4.kept s2 (h4.off (Nat.lt_succ_self _)) (fun c hc => by intro e; have := Option.some.inj e; omega), he, hl⟩
/-- One of three, five, six names. -/
def nm3 : List ByteArray := [⟨#[97]⟩, ⟨#[98]⟩, ⟨#[99]⟩]
theorem nm3_at {k : Nat} (h : (k : Int) < 3) : ∃ s, nm3[k]? = some s ∧ s.size ≤ 5 := by
  have hk : k = 0 ∨ k = 1 ∨ k = 2 := by omega
  rcases hk with rfl | rfl | rfl
  all_goals exact ⟨_, rfl, by decide⟩
theorem nm3_cell (w : World) (Z : TypeId) {k : Nat} {s : ByteArray} (h : nm3[k]? = some s) : (w.alloc (.cells #[.string ⟨#[97]⟩, .string ⟨#[98]⟩, .string ⟨#[99]⟩] Z)).cell? ⟨w.heap.size, k, none⟩ = some (.string s) := by
  have hk : k < 3 := (List.getElem?_eq_some_iff.1 h).1
  have hk' : k = 0 ∨ k = 1 ∨ k = 2 := by omega
  unfold nm3 at h
  rcases hk' with rfl | rfl | rfl
  all_goals
    simp at h
    subst h
    simp
end Go.Proofs.Ytafpngmfhajedaa

/- The law's made: the region that appends a field. -/
namespace Go.Proofs.Ytafpngmfhajedaa
open Go.RowKit Go.Sort Go.Shelf Go.Maps Mth

theorem step_call0 {P : Program} {ops : Array Oper} {a : Act} {w : World} {K : Act → World → Prop} {Q : Exit → Act → World → Prop} {E' : Prop} {dst : Option Tmp} {T : Array TypeId} {ty : TypeId} {pos : String} {after : Array Edge}
    (n : FuncId) (hn : ∀ w, (callFunc n #[]).run P w = .ok (.enter n #[]) w) (R : Value → World → Prop)
    (hC : Calls P n #[] w fun e w' => ∃ u, e = .returned u ∧ R u w') (hK : ∀ u w', R u w' → K (a.put dst u) w') :
    if Region.wanted { dst, op := .call { callee := .value (.func n), args := #[], argTypes := T }, type := ty, pos, after, guard := none } (yielded ops a.tmps) = true then Oper.wp P { dst, op := .call { callee := .value (.func n), args := #[], argTypes := T }, type := ty, pos, after, guard := none } a w K Q else E' := by
  rw [if_pos (by simp [Region.wanted])]
  unfold Oper.wp
  rw [execOp_call_go]
  have e : (#[] ++ (#[] : Array Operand).map a.eval ++ #[] : Array Value) = #[] := by simp
  rw [e, hn, Oper.upon_enter]
  refine hC.mono ?_
  rintro e w' ⟨u, rfl, h⟩
  exact hK u w' h
theorem enterLs (w : World) : (callFunc 27 #[]).run Try.prog w = .ok (.enter 27 #[]) w := by kernel_rfl
theorem enterNmd (w : World) : (callFunc 34 #[]).run Try.prog w = .ok (.enter 34 #[]) w := by kernel_rfl
def tD : Dat := ⟨0, ⟨#[84]⟩, [⟨#[97]⟩], []⟩
def vD : Dat := ⟨0, ⟨#[86]⟩, [], []⟩
def tvL : List Value → Addr → List Value := fun _ a => [.int .i64 0, .string ⟨#[84]⟩, .slice (some a) 1 1, .slice none 0 0, .int .i64 0, .string ⟨#[86]⟩, .slice none 0 0, .slice none 0 0]
/-- Two declarations are laid. -/
structure TV (X : World) (a1 a2 : Nat) : Prop where
  one : X.heap[a1]? = some (.cells #[.string ⟨#[97]⟩] 9 (0, 0))
  two : X.heap[a2]? = some (.cells #[.int .i64 0, .string ⟨#[84]⟩, .slice (some ⟨a1, 0, none⟩) 1 1, .slice none 0 0, .int .i64 0, .string ⟨#[86]⟩, .slice none 0 0, .slice none 0 0] 36 (0, 0))
theorem tv_some : SomeG (listDats ++ [tD, vD]) := by
  refine ⟨by rw [List.length_append, list_num]; decide, fun d hd => ?_⟩
  rw [list_eq] at hd
  simp at hd
  rcases hd with rfl | rfl | rfl <;> decide +kernel
theorem tv_news {X : World} {a1 a2 : Nat} (h : TV X a1 a2) (S : Nat → Prop) (hS : S a1) : ∀ (j : Nat) (y : Dat), [tD, vD][j]? = some y → ∃ c : List Value, (∀ (m : Nat) (u : Value), c[m]? = some u → X.cell? ((⟨a2, 0, none⟩ : Addr).add (j * DatE.k + m)) = some u) ∧ DatE.rep X S y c := by
  intro j y hy
  have hn : ∀ (α : Type) (E : El α) (V : World), SlG E V S ([] : List α) (.slice none 0 0) := fun α E V => ⟨none, 0, rfl, by simp, fun j x hx => by simp at hx⟩
  have h2 := h.two
  have h1 := h.one
  match j, hy with
  | 0, hy =>
    simp at hy; subst hy
    refine ⟨[.int .i64 0, .string ⟨#[84]⟩, .slice (some ⟨a1, 0, none⟩) 1 1, .slice none 0 0], fun m u hu => ?_, ⟨_, _, rfl, ?_, hn _ _ _⟩⟩
    · match m, hu with
      | 0, hu => simp at hu; subst hu; simp [Addr.add, World.cell?, h2]
      | 1, hu => simp at hu; subst hu; simp [Addr.add, World.cell?, h2]
      | 2, hu => simp at hu; subst hu; simp [Addr.add, World.cell?, h2]
      | 3, hu => simp at hu; subst hu; simp [Addr.add, World.cell?, h2]
    · refine ⟨some ⟨a1, 0, none⟩, 1, rfl, ⟨Nat.le_refl _, by unfold maxLen; decide⟩, fun j x hx => ?_⟩
      match j, hx with
      | 0, hx =>
        simp [tD] at hx; subst hx
        refine ⟨⟨a1, 0, none⟩, [.string ⟨#[97]⟩], rfl, hS, fun m u hu => ?_, rfl⟩
        match m, hu with
        | 0, hu => simp at hu; subst hu; simp [Addr.add, World.cell?, h1]
  | 1, hy =>
    simp at hy; subst hy
    refine ⟨[.int .i64 0, .string ⟨#[86]⟩, .slice none 0 0, .slice none 0 0], fun m u hu => ?_, ⟨_, _, rfl, hn _ _ _, hn _ _ _⟩⟩
    match m, hu with
    | 0, hu => simp at hu; subst hu; simp [Addr.add, World.cell?, h2, show DatE.k = 4 from rfl]
    | 1, hu => simp at hu; subst hu; simp [Addr.add, World.cell?, h2, show DatE.k = 4 from rfl]
    | 2, hu => simp at hu; subst hu; simp [Addr.add, World.cell?, h2, show DatE.k = 4 from rfl]
    | 3, hu => simp at hu; subst hu; simp [Addr.add, World.cell?, h2, show DatE.k = 4 from rfl]
theorem TV.lift {X Y : World} {a1 a2 : Nat} (h : TV X a1 a2) (hb : Below X.heap.size X Y) : TV Y a1 a2 := ⟨(hb.block _ (Array.getElem?_eq_some_iff.1 h.one).1).trans h.one, (hb.block _ (Array.getElem?_eq_some_iff.1 h.two).1).trans h.two⟩
/-- What the list's call leaves. -/
def LsP (V : World) (u : Value) (w' : World) : Prop := ∃ ad c, u = .slice (some ad) 1 c ∧ OwnD V w' listDats (.slice (some ad) 1 c) ∧ Below V.heap.size V w'
theorem lsP_any (V : World) : Calls Try.prog 27 #[] V fun e w' => ∃ u, e = .returned u ∧ LsP V u w' := (listG_any V).mono fun _ _ ⟨dv, h1, h2, h3⟩ => by
  rw [list_eq] at h2
  obtain ⟨ad, c, e⟩ := h2.addr
  rw [e] at h1 h2
  exact ⟨_, h1, ad, c, rfl, by rw [list_eq]; exact h2, h3⟩
def NmP (V : World) (u : Value) (w' : World) : Prop := ∃ ad c, u = .slice (some ad) 3 c ∧ SlG TyE w' (fun c => V.heap.size ≤ c) namedL (.slice (some ad) 3 c) ∧ Below V.heap.size V w'
theorem nmP_any (V : World) : Calls Try.prog 34 #[] V fun e w' => ∃ u, e = .returned u ∧ NmP V u w' := (mkNamed_any V).mono fun _ _ ⟨dv, h1, h2, h3⟩ => by
  obtain ⟨ad, c, rfl⟩ := slG_some h2
  exact ⟨_, h1, ad, c, rfl, h2, h3⟩
/-- The two declarations are appended to the list. -/
theorem ls_push {V w' X : World} {ad : Addr} {c a1 a2 R : Nat} (h : OwnD V w' listDats (.slice (some ad) 1 c)) (hb : Below w'.heap.size w' X) (ht : TV X a1 a2) (hR : R ≤ V.heap.size) (h1 : R ≤ a1) (h2 : a1 < V.heap.size ∨ w'.heap.size ≤ a1) :
    ∃ base, R ≤ base ∧ base ≤ X.heap.size ∧ RowG DatE X base (fun c => R ≤ c) (.slice (some ad) 1 c) listDats ∧ (∀ (j : Nat) (y : Dat), [tD, vD][j]? = some y → ∃ c' : List Value, (∀ (m : Nat) (u : Value), c'[m]? = some u → X.cell? ((⟨a2, 0, none⟩ : Addr).add (j * DatE.k + m)) = some u) ∧ DatE.rep X (fun b => R ≤ b ∧ some b ≠ (Value.slice (some ad) 1 c).ownBlock) y c') ∧ ∀ g, (Value.slice (some ad) 1 c).ownBlock = some g → R ≤ g := by
  obtain ⟨base, k1, k2, hr⟩ := h
  refine ⟨base, Nat.le_trans hR k1, Nat.le_trans k2 hb.size, (hr.lift hb).imp fun b hb' => Nat.le_trans hR hb', tv_news ht _ ⟨h1, fun e => ?_⟩, fun g e => Nat.le_trans hR (Nat.le_trans k1 (RowG.lt hr g e).1)⟩
  have h3 := RowG.lt hr a1 e.symm
  omega
end Go.Proofs.Ytafpngmfhajedaa

/- The law's made. -/
namespace Go.Proofs.Ytafpngmfhajedaa
open Go.RowKit Go.Sort Go.Shelf Go.Maps Mth

theorem tv_one5 (v : World) : (((v.alloc (.cells #[.string ⟨#[97]⟩] 9)).alloc (.cells #[.int .i64 0, .string ⟨#[84]⟩, .slice (some ⟨v.heap.size, 0, none⟩) 1 1, .slice none 0 0, .int .i64 0, .string ⟨#[86]⟩, .slice none 0 0, .slice none 0 0] 36)).drew).heap[v.heap.size]? = some (.cells #[.string ⟨#[97]⟩] 9 (0, 0)) := by
  show ((v.alloc (.cells #[.string ⟨#[97]⟩] 9)).alloc (.cells #[.int .i64 0, .string ⟨#[84]⟩, .slice (some ⟨v.heap.size, 0, none⟩) 1 1, .slice none 0 0, .int .i64 0, .string ⟨#[86]⟩, .slice none 0 0, .slice none 0 0] 36)).heap[v.heap.size]? = _
  rw [heap_at, if_neg (by simp), heap_at, if_pos rfl]
theorem tv_two5 (v : World) : (((v.alloc (.cells #[.string ⟨#[97]⟩] 9)).alloc (.cells #[.int .i64 0, .string ⟨#[84]⟩, .slice (some ⟨v.heap.size, 0, none⟩) 1 1, .slice none 0 0, .int .i64 0, .string ⟨#[86]⟩, .slice none 0 0, .slice none 0 0] 36)).drew).heap[v.heap.size + 1]? = some (.cells #[.int .i64 0, .string ⟨#[84]⟩, .slice (some ⟨v.heap.size, 0, none⟩) 1 1, .slice none 0 0, .int .i64 0, .string ⟨#[86]⟩, .slice none 0 0, .slice none 0 0] 36 (0, 0)) := by
  show ((v.alloc (.cells #[.string ⟨#[97]⟩] 9)).alloc (.cells #[.int .i64 0, .string ⟨#[84]⟩, .slice (some ⟨v.heap.size, 0, none⟩) 1 1, .slice none 0 0, .int .i64 0, .string ⟨#[86]⟩, .slice none 0 0, .slice none 0 0] 36)).heap[v.heap.size + 1]? = _
  rw [heap_at, if_pos (by simp)]
theorem TV.lift' {X Y : World} {a1 a2 : Nat} (h : TV X a1 a2) (hb : Below X.heap.size X Y) : TV Y a1 a2 := h.lift hb
theorem enterNx9 (v u : Value) (w : World) : (callFunc 32 #[v, u]).run Try.prog w = .ok (.enter 32 #[v, u]) w := by kernel_rfl
theorem nm3_lt {k : Nat} {s : ByteArray} (h : nm3[k]? = some s) : (k : Int) < 3 := by
  have hk : k < 3 := (List.getElem?_eq_some_iff.1 h).1
  omega
/-- A name of a list was drawn. -/
def NxB (wA : World) (b D : Nat) (p n pv : Value) (ps : List ByteArray) (l : List ByteArray) (u : Value) (w' : World) : Prop := ∃ (rr : Nat) (t : ByteArray), u = .int .i64 rr ∧ l[rr]? = some t ∧ t.size ≤ 5 ∧ MPt wA b D p n pv ps w'
/-- .. from a list laid before. -/
def NxA (wA wr : World) (b D : Nat) (p n pv : Value) (ps : List ByteArray) (l : List ByteArray) (u : Value) (w' : World) : Prop := ∃ (rr : Nat) (t : ByteArray), u = .int .i64 rr ∧ l[rr]? = some t ∧ t.size ≤ 5 ∧ MPt wA b D p n pv ps w' ∧ w'.cell? ⟨wr.heap.size, rr, none⟩ = some (.string t)
def nn5 : List ByteArray := [⟨#[84]⟩, ⟨#[85]⟩, ⟨#[73, 110, 116]⟩, ⟨#[76, 105, 115, 116]⟩, ⟨#[86]⟩]
theorem nn5_at {k : Nat} (h : (k : Int) < 5) : ∃ s, nn5[k]? = some s ∧ (s.size ≤ 5 ∧ nmOk s = true) := by
  have hk : k = 0 ∨ k = 1 ∨ k = 2 ∨ k = 3 ∨ k = 4 := by omega
  rcases hk with rfl | rfl | rfl | rfl | rfl
  all_goals exact ⟨_, rfl, by decide, by decide +kernel⟩
theorem nn5_cell (w : World) (Z : TypeId) {k : Nat} {s : ByteArray} (h : nn5[k]? = some s) : (w.alloc (.cells #[.string ⟨#[84]⟩, .string ⟨#[85]⟩, .string ⟨#[73, 110, 116]⟩, .string ⟨#[76, 105, 115, 116]⟩, .string ⟨#[86]⟩] Z)).cell? ⟨w.heap.size, k, none⟩ = some (.string s) := by
  have hk : k < 5 := (List.getElem?_eq_some_iff.1 h).1
  have hk' : k = 0 ∨ k = 1 ∨ k = 2 ∨ k = 3 ∨ k = 4 := by omega
  unfold nn5 at h
  rcases hk' with rfl | rfl | rfl | rfl | rfl
  all_goals
    simp at h
    subst h
    simp
def nn6 : List ByteArray := [⟨#[65]⟩, ⟨#[66]⟩, ⟨#[67]⟩, ⟨#[68]⟩, ⟨#[69]⟩, ⟨#[70]⟩]
theorem nn6_at {k : Nat} (h : (k : Int) < 6) : ∃ s, nn6[k]? = some s ∧ s.size ≤ 5 := by
  have hk : k = 0 ∨ k = 1 ∨ k = 2 ∨ k = 3 ∨ k = 4 ∨ k = 5 := by omega
  rcases hk with rfl | rfl | rfl | rfl | rfl | rfl
  all_goals exact ⟨_, rfl, by decide⟩
theorem nn6_cell (w : World) (Z : TypeId) {k : Nat} {s : ByteArray} (h : nn6[k]? = some s) : (w.alloc (.cells #[.string ⟨#[65]⟩, .string ⟨#[66]⟩, .string ⟨#[67]⟩, .string ⟨#[68]⟩, .string ⟨#[69]⟩, .string ⟨#[70]⟩] Z)).cell? ⟨w.heap.size, k, none⟩ = some (.string s) := by
  have hk : k < 6 := (List.getElem?_eq_some_iff.1 h).1
  have hk' : k = 0 ∨ k = 1 ∨ k = 2 ∨ k = 3 ∨ k = 4 ∨ k = 5 := by omega
  unfold nn6 at h
  rcases hk' with rfl | rfl | rfl | rfl | rfl | rfl
  all_goals
    simp at h
    subst h
    simp
set_option maxRecDepth 100000 in
set_option maxHeartbeats 16000000 in
theorem made9_any : MadeAt := by
  intro cv zs w w0 hzl hz hB hlt
  obtain ⟨ca, cc, rfl, -, -, -⟩ := id hz
  obtain ⟨zn, hzn⟩ : ∃ n, n = zs.length := ⟨_, rfl⟩
  rw [← hzn] at hz ⊢
  have HT0 : Hid (Tq (w.alloc (.cells #[.slice ca zn cc, .int .i64 0] 52)) w.heap.size) := tape_new hzn hzl hz hB hlt
  have hal : Below w.heap.size w (w.alloc (.cells #[.slice ca zn cc, .int .i64 0] 52)) := (Below.refl _ w).alloc (Nat.le_refl _) _
  have hs0 : (w.alloc (.cells #[.slice ca zn cc, .int .i64 0] 52)).heap.size = w.heap.size + 1 := by simp
  have HAl := Lib.hid hal
  have HS0 := Lib.hid hs0
  have HNx : Hid (∀ (n : Int), 1 ≤ n → n ≤ 1000 → ∀ V, Tq V w.heap.size → Calls Try.prog 32 #[.pointer (some ⟨w.heap.size, 0, none⟩), .int .i64 n] V fun e w' => ∃ r : Nat, e = .returned (.int .i64 r) ∧ (r : Int) < n ∧ Tq w' w.heap.size ∧ V.grownBy w' (some w.heap.size)) := fun n h1 h2 V hV => next_q n h1 h2 _ V hV
  clear hzn hzl hz hB hlt hal hs0
  go_enter Try.func9, Try.ntmps9
  go_wp2_with fail
  go_at_call 32
  generalize (w.alloc (.cells #[.slice ca zn cc, .int .i64 0] 52)) = W0 at *
  generalize hbe : w.heap.size = b at *
  have HBe := Lib.hid hbe
  clear hbe
  refine (HNx.out 4 (by decide) (by decide) _ HT0.out).mono ?_
  rintro e w1 ⟨q, rfl, hq, ht1, hg1⟩
  have HO1 : Hid (MOt W0 b (b + 1) (.slice none 0 0) [] w1) := ⟨ht1, rowG_nil _ _ _ _, Below.grown (Below.refl _ _) hg1 (by have := HS0.out; omega) (fun k hk => by cases hk; exact Nat.le_refl _), Nat.lt_succ_self _, by have := HS0.out; have := hg1.size; omega⟩
  have hq4 : q < 4 := by omega
  clear ht1 hg1 HT0 hq
  go_wp2_with fail
  go_loopw [4, 6] (fun y x wr => ∃ (i : Nat) (ya : Option Addr) (yc : Nat) (ds : List Dat), i ≤ q ∧ x = .int .i64 i ∧ y = .slice ya i yc ∧ Hid (ds.length = i ∧ ∀ d ∈ ds, DG d) ∧ Hid (MOt W0 b (b + 1) (.slice ya i yc) ds wr)) (fun _ x _ => q - (intOf x).toNat)
  case atStart => exact ⟨0, none, 0, [], Nat.zero_le _, rfl, rfl, ⟨rfl, fun d h => by simp at h⟩, HO1.out⟩
  case round =>
    obtain ⟨i, ya, yc, ds, hi, rfl, rfl, HDs, HO⟩ := hrel
    clear HO1
    by_cases hiq : i < q
    · have hii : (i : Int) < (q : Int) := by omega
      have hA5 : Below wr.heap.size wr (wr.alloc (.cells #[.string ⟨#[84]⟩, .string ⟨#[85]⟩, .string ⟨#[73, 110, 116]⟩, .string ⟨#[76, 105, 115, 116]⟩, .string ⟨#[86]⟩] 9)) := (Below.refl _ wr).alloc (Nat.le_refl _) _
      have HO5 := Lib.hid (HO.out.lift hA5)
      clear hA5
      go_wp2_with fail
      go_at_call 32
      refine (HNx.out 5 (by decide) (by decide) _ HO5.out.tq).mono ?_
      rintro e w2 ⟨r, rfl, hr, ht2, hg2⟩
      obtain ⟨s, hs, hsz⟩ := nn5_at hr
      have hbb := HO.out.bb
      have hsr := HO.out.size
      have hsc : w2.cell? ⟨wr.heap.size, r, none⟩ = some (.string s) := hg2.cell (nn5_cell wr _ hs) (by intro e; have e1 : wr.heap.size = b := Option.some.inj e; omega)
      have HO2 := Lib.hid (HO5.out.grow ht2 hg2)
      have hi10 : IntKind.i64.wrap (10 * (i : Int)) = 10 * i := by rw [IntKind.wrap_i64]; omega
      clear HO HO5 ht2 hg2 hs
      go_wp2_with fail
      go_at_call 32
      have hal : Below w2.heap.size w2 (w2.alloc (.cells #[.int .i64 (10 * (i : Int)), .string s, .slice none 0 0, .slice none 0 0] 36)) := (Below.refl _ w2).alloc (Nat.le_refl _) _
      have HP2 : Hid (MPt w2 b w2.heap.size (.int .i64 (10 * (i : Int))) (.string s) (.slice none 0 0) [] (w2.alloc (.cells #[.int .i64 (10 * (i : Int)), .string s, .slice none 0 0, .slice none 0 0] 36))) := ⟨HO2.out.tq.lift hal, grown_of_below hal _, BoxC.made _ w2 _, rowG_nil _ _ _ _, rfl, HO2.out.tq.lt⟩
      clear hal hsc
      generalize (w2.alloc (.cells #[.int .i64 (10 * (i : Int)), .string s, .slice none 0 0, .slice none 0 0] 36)) = W2 at *
      obtain ⟨D, hD⟩ : ∃ D, D = w2.heap.size := ⟨_, rfl⟩
      rw [← hD] at HP2 ⊢
      have HDe := Lib.hid hD
      clear hD
      refine (HNx.out 3 (by decide) (by decide) _ HP2.out.tq).mono ?_
      rintro e w3 ⟨r3, rfl, hr3, ht3, hg3⟩
      have HP3 := Lib.hid (HP2.out.grow ht3 hg3)
      clear HP2 ht3 hg3 hr
      go_wp2_with fail
      go_loopw [8] (fun x wp => ∃ (k : Nat) (pa : Option Addr) (pc : Nat) (ps : List ByteArray) (pn : Nat), x = .int .i64 k ∧ pn + k ≤ 2 ∧ Hid (pn = ps.length ∧ ∀ p ∈ ps, p.size ≤ 5) ∧ Hid (MPt w2 b D (.int .i64 (10 * (i : Int))) (.string s) (.slice pa pn pc) ps wp)) (fun x _ => (intOf x).toNat)
      case atStart => exact ⟨r3, none, 0, [], 0, rfl, by omega, ⟨rfl, fun p h => by simp at h⟩, HP3.out⟩
      case round =>
        obtain ⟨k, pa, pc, ps, pn, rfl, hpk, HPs, HP⟩ := hrel
        clear HP3
        by_cases hk : 0 < k
        · have hki : (0 : Int) < (k : Int) := by omega
          go_wp2_with fail
          have z2 := HP.out.box.cell 2 _ rfl
          have zf := HP.out.box.free 2
          have HPe := Lib.hid HP.out.eq
          have HPl := Lib.hid HP.out.lt
          have HTq : Hid (∀ V, Below wr.heap.size wr V → Tq V b) := fun V hV => HP.out.tq.lift hV
          have HAw : Hid (∀ X, Below wr.heap.size wr (wr.alloc X)) := fun X => (Below.refl _ wr).alloc (Nat.le_refl _) X
          have hpn1 : pn + 1 ≤ 1000000 := by omega
          have hbw : wr.heap.size ≠ b := by have := HP.out.tq.lt; omega
          have HCA : Hid (Calls Try.prog 32 #[.pointer (some ⟨b, 0, none⟩), .int .i64 3] (wr.alloc (.cells #[.string ⟨#[97]⟩, .string ⟨#[98]⟩, .string ⟨#[99]⟩] 9)).drew fun e w' => ∃ u, e = .returned u ∧ NxA w2 wr b D (.int .i64 (10 * (i : Int))) (.string s) (.slice pa pn pc) ps nm3 u w') := (HNx.out 3 (by decide) (by decide) _ (HTq.out _ (HAw.out _).drew)).mono fun e w' ⟨rr, h1, h2, h3, h4⟩ => by
            obtain ⟨t, ht, htz⟩ := nm3_at h2
            exact ⟨_, h1, rr, t, rfl, ht, htz, (HP.out.lift (HAw.out (.cells #[.string ⟨#[97]⟩, .string ⟨#[98]⟩, .string ⟨#[99]⟩] 9)).drew).grow h3 h4, h4.cell (by have := nm3_cell wr 9 ht; simpa using this) (by intro e; have e1 : wr.heap.size = b := Option.some.inj e; exact hbw e1)⟩
          have HCB : Hid (Calls Try.prog 32 #[.pointer (some ⟨b, 0, none⟩), .int .i64 3] wr.drew fun e w' => ∃ u, e = .returned u ∧ NxB w2 b D (.int .i64 (10 * (i : Int))) (.string s) (.slice pa pn pc) ps nm3 u w') := (HNx.out 3 (by decide) (by decide) _ (HTq.out _ (Below.refl _ _).drew)).mono fun e w' ⟨rr, h1, h2, h3, h4⟩ => by
            obtain ⟨t, ht, htz⟩ := nm3_at h2
            exact ⟨_, h1, rr, t, rfl, ht, htz, (HP.out.lift (Below.refl _ wr).drew).grow h3 h4⟩
          have z2x := (HP.out.lift (HAw.out (.cells #[.string ⟨#[97]⟩, .string ⟨#[98]⟩, .string ⟨#[99]⟩] 9))).box.cell 2 _ rfl
          have HSt : Hid (∀ V S t, StrE.rep V S t [.string t]) := fun _ _ _ => rfl
          go_region_law
            (first
              | ((with_reducible refine step_call2 32 enterNx9 (.pointer (some ⟨b, 0, none⟩)) (.int .i64 3) (fun u w' => NxA w2 wr b D (.int .i64 (10 * (i : Int))) (.string s) (.slice pa pn pc) ps nm3 u w') ?_ ?_ ?_ ?_); (rfl); (rfl); (exact HCA.out); (rintro u v5 ⟨rr, t, rfl, hrr, htz, hMP, htc⟩); (have hr3i := nm3_lt hrr); (have HM5 := Lib.hid hMP); (have z5 := hMP.box.cell 2 _ rfl); (have zf5 := hMP.box.free 2); (have HN5 : Hid (∀ X Z, (v5.alloc (.cells X Z)).heap[v5.heap.size]? = some (.cells X Z (0, 0))) := fun X Z => heap_alloc_new v5 _); (have HX5 : Hid (∀ X, MPt w2 b D (.int .i64 (10 * (i : Int))) (.string s) (.slice pa pn pc) ps (v5.alloc X)) := fun X => HM5.out.lift ((Below.refl _ v5).alloc (Nat.le_refl _) X)); (have z5x := (HX5.out (.cells #[.string t] 9)).box.cell 2 _ rfl); clear hMP hrr z2 z2x zf)
              | ((with_reducible refine step_call2 32 enterNx9 (.pointer (some ⟨b, 0, none⟩)) (.int .i64 3) (fun u w' => NxB w2 b D (.int .i64 (10 * (i : Int))) (.string s) (.slice pa pn pc) ps nm3 u w') ?_ ?_ ?_ ?_); (rfl); (rfl); (exact HCB.out); (rintro u v5 ⟨rr, t, rfl, hrr, htz, hMP⟩); (have hr3i := nm3_lt hrr); (have htc := nm3_cell v5 9 hrr); (have HM5 := Lib.hid hMP); (have z5 := hMP.box.cell 2 _ rfl); (have zf5 := hMP.box.free 2); (have HA5 : Hid (Below v5.heap.size v5 (v5.alloc (.cells #[.string ⟨#[97]⟩, .string ⟨#[98]⟩, .string ⟨#[99]⟩] 9))) := (Below.refl _ v5).alloc (Nat.le_refl _) _); (have z5x := (HM5.out.lift HA5.out).box.cell 2 _ rfl); (have HN5 : Hid (∀ X Z, ((v5.alloc (.cells #[.string ⟨#[97]⟩, .string ⟨#[98]⟩, .string ⟨#[99]⟩] 9)).alloc (.cells X Z)).heap[v5.heap.size + 1]? = some (.cells X Z (0, 0))) := fun X Z => (by (have h := heap_alloc_new (v5.alloc (.cells #[.string ⟨#[97]⟩, .string ⟨#[98]⟩, .string ⟨#[99]⟩] 9)) (.cells X Z)); simpa using h)); (have HX5 : Hid (∀ X, MPt w2 b D (.int .i64 (10 * (i : Int))) (.string s) (.slice pa pn pc) ps ((v5.alloc (.cells #[.string ⟨#[97]⟩, .string ⟨#[98]⟩, .string ⟨#[99]⟩] 9)).alloc X)) := fun X => HM5.out.lift (HA5.out.alloc HA5.out.size X)); (have z5y := (HX5.out (.cells #[.string t] 9)).box.cell 2 _ rfl); clear hMP hrr z2 z2x zf)
              | ((with_reducible refine fitA v5 _ ?_); (refine step_pushG StrE (by rfl) _ _ rfl (D + 1) (fun _ => False) (.slice pa pn pc) ps rfl (HX5.out _).row v5.heap.size _ [.string t] (HN5.out _ _) rfl t (HSt.out _ _ _) (pn + 1) (by rw [HPs.out.1]) hpn1 (HX5.out _).box.lt ?_); (intro a' c' v6 hrow hg); (have HQ := Lib.hid ((HX5.out _).push hrow hg)); (have z6 := HQ.out.2.2.1.cell 2 _ rfl); (have zf6 := HQ.out.2.2.1.free 2); clear hrow hg z5 zf5 z5x)
              | ((with_reducible refine fitA (v5.alloc (.cells #[.string ⟨#[97]⟩, .string ⟨#[98]⟩, .string ⟨#[99]⟩] 9)) _ ?_); (refine step_pushG StrE (by rfl) _ _ rfl (D + 1) (fun _ => False) (.slice pa pn pc) ps rfl (HX5.out _).row (v5.heap.size + 1) _ [.string t] (HN5.out _ _) rfl t (HSt.out _ _ _) (pn + 1) (by rw [HPs.out.1]) hpn1 (HX5.out _).box.lt ?_); (intro a' c' v6 hrow hg); (have HQ := Lib.hid ((HX5.out _).push hrow hg)); (have z6 := HQ.out.2.2.1.cell 2 _ rfl); (have zf6 := HQ.out.2.2.1.free 2); clear hrow hg z5 zf5 z5x z5y htc))
          all_goals
            have HP7 := Lib.hid (MPt.store HQ.out HPe.out HPl.out)
            clear HQ z6 zf6
            go_wp2
            go_roundw
            case rel => exact ⟨k - 1, a', c', ps ++ [t], pn + 1, by go_num, by omega, ⟨by rw [List.length_append, HPs.out.1]; rfl, fun p hp => by
              rcases List.mem_append.1 hp with h | h
              · exact HPs.out.2 p h
              · simp at h; subst h; exact htz⟩, HP7.out⟩
            case measure => simp [intOf]; omega
        · obtain rfl : k = 0 := by omega
          go_wp2_with fail
          have HC1 := Lib.hid (MCt.start HP.out)
          refine (HNx.out 3 (by decide) (by decide) _ HP.out.tq).mono ?_
          rintro e w5 ⟨r5, rfl, hr5, ht5, hg5⟩
          have HC5 := Lib.hid (HC1.out.grow ht5 hg5)
          have HPG : Hid (PG ps) := ⟨by rw [← HPs.out.1]; omega, HPs.out.2⟩
          have HPn := Lib.hid HPs.out.1
          clear HP HC1 ht5 hg5
          generalize wr.heap.size = E at *
          go_wp2_with fail
          go_loopw [9] (fun x wc => ∃ (k : Nat) (va : Option Addr) (vc : Nat) (cs : List Ctor) (cn : Nat), x = .int .i64 k ∧ cn + k ≤ 3 ∧ Hid (cn = cs.length ∧ ∀ c ∈ cs, CG c) ∧ Hid (MCt w2 b D E (.int .i64 (10 * (i : Int))) (.string s) (.slice pa pn pc) ps (.slice va cn vc) cs wc)) (fun x _ => (intOf x).toNat)
          case atStart => exact ⟨1 + r5, none, 0, [], 0, by go_num, by omega, ⟨rfl, fun c h => by simp at h⟩, HC5.out⟩
          case round =>
            obtain ⟨k, va, vc, cs, cn, rfl, hck, HCs, HC⟩ := hrel
            clear HC5
            by_cases hk : 0 < k
            · have hki : (0 : Int) < (k : Int) := by omega
              have hk3 : (k : Int) ≤ 3 := by omega
              have hA6 : Below wr.heap.size wr (wr.alloc (.cells #[.string ⟨#[65]⟩, .string ⟨#[66]⟩, .string ⟨#[67]⟩, .string ⟨#[68]⟩, .string ⟨#[69]⟩, .string ⟨#[70]⟩] 9)) := (Below.refl _ wr).alloc (Nat.le_refl _) _
              have HC6 := Lib.hid (HC.out.lift hA6)
              have hbw : wr.heap.size ≠ b := by have := HC.out.tq.lt; omega
              have hik : IntKind.i64.wrap (10 * (i : Int) + (k : Int)) = 10 * i + k := by rw [IntKind.wrap_i64]; omega
              clear hA6
              go_wp2_with fail
              go_at_call 32
              refine (HNx.out 6 (by decide) (by decide) _ HC6.out.tq).mono ?_
              rintro e w6 ⟨r6, rfl, hr6, ht6, hg6⟩
              obtain ⟨sc, hsc6, hscz⟩ := nn6_at hr6
              have hcc : w6.cell? ⟨wr.heap.size, r6, none⟩ = some (.string sc) := hg6.cell (nn6_cell wr _ hsc6) (by intro e; have e1 : wr.heap.size = b := Option.some.inj e; exact hbw e1)
              have HC7 := Lib.hid (HC6.out.grow ht6 hg6)
              clear HC HC6 ht6 hg6 hsc6
              go_wp2_with fail
              go_at_call 32
              have hal6 : Below w6.heap.size w6 (w6.alloc (.cells #[.int .i64 (10 * (i : Int) + (k : Int)), .string sc, .slice none 0 0] 45)) := (Below.refl _ w6).alloc (Nat.le_refl _) _
              have HF7 : Hid (MFt w6 b w6.heap.size (.int .i64 (10 * (i : Int) + (k : Int))) (.string sc) (.slice none 0 0) [] (w6.alloc (.cells #[.int .i64 (10 * (i : Int) + (k : Int)), .string sc, .slice none 0 0] 45))) := ⟨HC7.out.tq.lift hal6, grown_of_below hal6 _, BoxC.made _ w6 _, rowG_nil _ _ _ _, rfl, HC7.out.tq.lt⟩
              clear hal6 hcc
              generalize (w6.alloc (.cells #[.int .i64 (10 * (i : Int) + (k : Int)), .string sc, .slice none 0 0] 45)) = W6 at *
              obtain ⟨C, hC⟩ : ∃ C, C = w6.heap.size := ⟨_, rfl⟩
              rw [← hC] at HF7 ⊢
              have HCe := Lib.hid hC
              clear hC
              refine (HNx.out 3 (by decide) (by decide) _ HF7.out.tq).mono ?_
              rintro e w7 ⟨r7, rfl, hr7, ht7, hg7⟩
              have HF8 := Lib.hid (HF7.out.grow ht7 hg7)
              clear HF7 ht7 hg7
              go_wp2_with fail
              go_loopw [11] (fun x wf => ∃ (l : Nat) (fa : Option Addr) (fc : Nat) (fs : List Ty) (fn : Nat), x = .int .i64 l ∧ fn + l ≤ 2 ∧ Hid (fn = fs.length ∧ ∀ f ∈ fs, Ok 2 f) ∧ Hid (MFt w6 b C (.int .i64 (10 * (i : Int) + (k : Int))) (.string sc) (.slice fa fn fc) fs wf)) (fun x _ => (intOf x).toNat)
              case atStart => exact ⟨r7, none, 0, [], 0, rfl, by omega, ⟨rfl, fun f h => by simp at h⟩, HF8.out⟩
              case round =>
                obtain ⟨l, fa, fc, fs, fn, rfl, hfl, HFs, HF⟩ := hrel
                clear HF8
                by_cases hl : 0 < l
                · have hli : (0 : Int) < (l : Int) := by omega
                  have hbR : b < wr.heap.size := HF.out.tq.lt
                  have hCR : C < wr.heap.size := HF.out.box.lt
                  have hfn1 : fn + 1 ≤ 1000000 := by omega
                  have z2 := HF.out.box.cell 2 _ rfl
                  have zf := HF.out.box.free 2
                  have HdA : Hid (Below wr.heap.size wr wr.drew) := (Below.refl _ wr).drew
                  have hw1 : Below wr.heap.size wr (wr.alloc (.cells #[.string ⟨#[97]⟩] 9)) := (Below.refl _ wr).alloc (Nat.le_refl _) _
                  have hw2 : Below wr.heap.size wr ((wr.alloc (.cells #[.string ⟨#[97]⟩] 9)).alloc (.cells #[.int .i64 0, .string ⟨#[84]⟩, .slice (some ⟨wr.heap.size, 0, none⟩) 1 1, .slice none 0 0, .int .i64 0, .string ⟨#[86]⟩, .slice none 0 0, .slice none 0 0] 36)) := hw1.alloc hw1.size _
                  have HdB : Hid (Below wr.heap.size wr (wr.alloc (.cells #[.string ⟨#[97]⟩] 9)).drew) := hw1.drew
                  have HdC : Hid (Below wr.heap.size wr ((wr.alloc (.cells #[.string ⟨#[97]⟩] 9)).alloc (.cells #[.int .i64 0, .string ⟨#[84]⟩, .slice (some ⟨wr.heap.size, 0, none⟩) 1 1, .slice none 0 0, .int .i64 0, .string ⟨#[86]⟩, .slice none 0 0, .slice none 0 0] 36)).drew) := hw2.drew
                  have z2a := (HF.out.lift hw1).box.cell 2 _ rfl
                  have z2b := (HF.out.lift hw2).box.cell 2 _ rfl
                  have HW1s : Hid (wr.heap.size < (wr.alloc (.cells #[.string ⟨#[97]⟩] 9)).heap.size) := by show _ < _; simp
                  have HdB1 : Hid ((wr.alloc (.cells #[.string ⟨#[97]⟩] 9)).heap.size ≤ (wr.alloc (.cells #[.string ⟨#[97]⟩] 9)).drew.heap.size) := Nat.le_refl _
                  have HW1c : Hid ((wr.alloc (.cells #[.string ⟨#[97]⟩] 9)).drew.heap[wr.heap.size]? = some (.cells #[.string ⟨#[97]⟩] 9 (0, 0))) := heap_alloc_new wr _
                  have HW2s : Hid (wr.heap.size < ((wr.alloc (.cells #[.string ⟨#[97]⟩] 9)).alloc (.cells #[.int .i64 0, .string ⟨#[84]⟩, .slice (some ⟨wr.heap.size, 0, none⟩) 1 1, .slice none 0 0, .int .i64 0, .string ⟨#[86]⟩, .slice none 0 0, .slice none 0 0] 36)).drew.heap.size) := by show _ < ((wr.alloc (.cells #[.string ⟨#[97]⟩] 9)).alloc (.cells #[.int .i64 0, .string ⟨#[84]⟩, .slice (some ⟨wr.heap.size, 0, none⟩) 1 1, .slice none 0 0, .int .i64 0, .string ⟨#[86]⟩, .slice none 0 0, .slice none 0 0] 36)).heap.size; simp; omega
                  have HTvv : Hid (TV ((wr.alloc (.cells #[.string ⟨#[97]⟩] 9)).alloc (.cells #[.int .i64 0, .string ⟨#[84]⟩, .slice (some ⟨wr.heap.size, 0, none⟩) 1 1, .slice none 0 0, .int .i64 0, .string ⟨#[86]⟩, .slice none 0 0, .slice none 0 0] 36)).drew wr.heap.size (wr.heap.size + 1)) := ⟨tv_one5 wr, tv_two5 wr⟩
                  have HFq := Lib.hid (show _ ∧ _ from ⟨HF.out.eq, HF.out.lt⟩)
                  have HOw : Hid (∀ g, (Value.slice fa fn fc).ownBlock = some g → C + 1 ≤ g ∧ g < wr.heap.size) := fun g e => RowG.lt HF.out.row g e
                  clear hw1 hw2
                  go_wp2_with fail
                  go_region_law
                    (first
                      | ((with_reducible refine step_call0 27 enterLs (LsP wr.drew) ?_ ?_); (exact lsP_any _); (rintro u v5 ⟨ad5, c5, rfl, hO5, hb5⟩); (have HB5 : Hid (Below wr.heap.size wr v5) := HdA.out.trans (hb5.mono HdA.out.size)); (have z5 := (HF.out.lift HB5.out).box.cell 2 _ rfl); (have hX1 : Below v5.heap.size v5 (v5.alloc (.cells #[.string ⟨#[97]⟩] 9)) := (Below.refl _ v5).alloc (Nat.le_refl _) _); (have hX : Below v5.heap.size v5 ((v5.alloc (.cells #[.string ⟨#[97]⟩] 9)).alloc (.cells #[.int .i64 0, .string ⟨#[84]⟩, .slice (some ⟨v5.heap.size, 0, none⟩) 1 1, .slice none 0 0, .int .i64 0, .string ⟨#[86]⟩, .slice none 0 0, .slice none 0 0] 36)) := hX1.alloc hX1.size _); (have ht : TV ((v5.alloc (.cells #[.string ⟨#[97]⟩] 9)).alloc (.cells #[.int .i64 0, .string ⟨#[84]⟩, .slice (some ⟨v5.heap.size, 0, none⟩) 1 1, .slice none 0 0, .int .i64 0, .string ⟨#[86]⟩, .slice none 0 0, .slice none 0 0] 36)) v5.heap.size (v5.heap.size + 1) := ⟨tv_one5 v5, tv_two5 v5⟩); (have HPU1 := Lib.hid (ls_push hO5 hX ht (R := wr.heap.size) (a1 := v5.heap.size) HdA.out.size HB5.out.size (.inr (Nat.le_refl _)))); (have HBX := Lib.hid (HB5.out.trans (hX.mono HB5.out.size))); (have HBY := Lib.hid (HB5.out.trans (hX1.mono HB5.out.size))); (have z51 := (HF.out.lift HBY.out).box.cell 2 _ rfl); (have z52 := (HF.out.lift HBX.out).box.cell 2 _ rfl); clear hX1 hX ht hO5 hb5 z2 z2a z2b)
                      | ((with_reducible refine step_call0 27 enterLs (LsP (wr.alloc (.cells #[.string ⟨#[97]⟩] 9)).drew) ?_ ?_); (exact lsP_any _); (rintro u v5 ⟨ad5, c5, rfl, hO5, hb5⟩); (have HB5 : Hid (Below wr.heap.size wr v5) := HdB.out.trans (hb5.mono HdB.out.size)); (have z5 := (HF.out.lift HB5.out).box.cell 2 _ rfl); (have hX : Below v5.heap.size v5 (v5.alloc (.cells #[.int .i64 0, .string ⟨#[84]⟩, .slice (some ⟨wr.heap.size, 0, none⟩) 1 1, .slice none 0 0, .int .i64 0, .string ⟨#[86]⟩, .slice none 0 0, .slice none 0 0] 36)) := (Below.refl _ v5).alloc (Nat.le_refl _) _); (have ht : TV (v5.alloc (.cells #[.int .i64 0, .string ⟨#[84]⟩, .slice (some ⟨wr.heap.size, 0, none⟩) 1 1, .slice none 0 0, .int .i64 0, .string ⟨#[86]⟩, .slice none 0 0, .slice none 0 0] 36)) wr.heap.size v5.heap.size := ⟨(hX.block _ (Nat.lt_of_lt_of_le HW1s.out (Nat.le_trans HdB1.out hb5.size))).trans ((hb5.block _ (Nat.lt_of_lt_of_le HW1s.out HdB1.out)).trans HW1c.out), heap_alloc_new v5 _⟩); (have HPU2 := Lib.hid (ls_push hO5 hX ht (R := wr.heap.size) (a1 := wr.heap.size) HdB.out.size (Nat.le_refl _) (.inl (Nat.lt_of_lt_of_le HW1s.out HdB1.out)))); (have HBX := Lib.hid (HB5.out.trans (hX.mono HB5.out.size))); (have z52 := (HF.out.lift HBX.out).box.cell 2 _ rfl); clear hX ht hO5 hb5 z2 z2a z2b)
                      | ((with_reducible refine step_call0 27 enterLs (LsP ((wr.alloc (.cells #[.string ⟨#[97]⟩] 9)).alloc (.cells #[.int .i64 0, .string ⟨#[84]⟩, .slice (some ⟨wr.heap.size, 0, none⟩) 1 1, .slice none 0 0, .int .i64 0, .string ⟨#[86]⟩, .slice none 0 0, .slice none 0 0] 36)).drew) ?_ ?_); (exact lsP_any _); (rintro u v5 ⟨ad5, c5, rfl, hO5, hb5⟩); (have HB5 : Hid (Below wr.heap.size wr v5) := HdC.out.trans (hb5.mono HdC.out.size)); (have z5 := (HF.out.lift HB5.out).box.cell 2 _ rfl); (have hX : Below v5.heap.size v5 v5 := Below.refl _ v5); (have ht : TV v5 wr.heap.size (wr.heap.size + 1) := HTvv.out.lift' hb5); (have HPU3 := Lib.hid (ls_push hO5 hX ht (R := wr.heap.size) (a1 := wr.heap.size) HdC.out.size (Nat.le_refl _) (.inl HW2s.out))); (have HBX := Lib.hid HB5.out); clear hX ht hO5 hb5 z2 z2a z2b)
                      | ((obtain ⟨base, p1, p2, prow, pnews, pown⟩ := HPU1.out); (with_reducible refine fitA (v5.alloc (.cells #[.string ⟨#[97]⟩] 9)) _ ?_); (refine step_pushM DatE (by rfl) _ _ rfl base _ (.slice (some ad5) 1 c5) listDats rfl prow ⟨v5.heap.size + 1, 0, none⟩ 2 2 rfl [tD, vD] rfl (by decide) pnews 3 (by rw [list_num]) (by decide) p2 ?_); (intro a6 c6 v6 hrow6 hg6); (have HB6 := Lib.hid (Below.grown HBX.out hg6 HBX.out.size (fun g e => pown g e))); (have HS6 := Lib.hid (hrow6.slG (S' := fun c => wr.heap.size ≤ c) (fun _ h => h) (fun c hc => Nat.le_trans p1 hc))); (have z6 := (HF.out.lift HB6.out).box.cell 2 _ rfl); clear p1 p2 prow pnews pown hrow6 hg6)
                      | ((obtain ⟨base, p1, p2, prow, pnews, pown⟩ := HPU2.out); (with_reducible refine fitA v5 _ ?_); (refine step_pushM DatE (by rfl) _ _ rfl base _ (.slice (some ad5) 1 c5) listDats rfl prow ⟨v5.heap.size, 0, none⟩ 2 2 rfl [tD, vD] rfl (by decide) pnews 3 (by rw [list_num]) (by decide) p2 ?_); (intro a6 c6 v6 hrow6 hg6); (have HB6 := Lib.hid (Below.grown HBX.out hg6 HBX.out.size (fun g e => pown g e))); (have HS6 := Lib.hid (hrow6.slG (S' := fun c => wr.heap.size ≤ c) (fun _ h => h) (fun c hc => Nat.le_trans p1 hc))); (have z6 := (HF.out.lift HB6.out).box.cell 2 _ rfl); clear p1 p2 prow pnews pown hrow6 hg6)
                      | ((obtain ⟨base, p1, p2, prow, pnews, pown⟩ := HPU3.out); (refine step_pushM DatE (by rfl) _ _ rfl base _ (.slice (some ad5) 1 c5) listDats rfl prow ⟨wr.heap.size + 1, 0, none⟩ 2 2 rfl [tD, vD] rfl (by decide) pnews 3 (by rw [list_num]) (by decide) p2 ?_); (intro a6 c6 v6 hrow6 hg6); (have HB6 := Lib.hid (Below.grown HBX.out hg6 HBX.out.size (fun g e => pown g e))); (have HS6 := Lib.hid (hrow6.slG (S' := fun c => wr.heap.size ≤ c) (fun _ h => h) (fun c hc => Nat.le_trans p1 hc))); (have z6 := (HF.out.lift HB6.out).box.cell 2 _ rfl); clear p1 p2 prow pnews pown hrow6 hg6)
                      | ((with_reducible refine step_call0 34 enterNmd (NmP v6) ?_ ?_); (exact nmP_any _); (rintro u v7 ⟨n7, c7, rfl, hn7, hb7⟩); (have HB7 := Lib.hid (HB6.out.trans (hb7.mono HB6.out.size))); (have z7 := (HF.out.lift HB7.out).box.cell 2 _ rfl); (have HT7 : Hid (Calls Try.prog 33 #[.pointer (some ⟨b, 0, none⟩), .slice a6 3 c6, .slice (some n7) 3 c7, .int .i64 2] v7 fun e w' => ∃ u, e = .returned u ∧ MadeT 2 v7.heap.size b v7 w' u) := mkType_any 2 2 (listDats ++ [tD, vD]) _ namedL _ (fun c => b < c) b v7.heap.size v7 rfl (by decide) tv_some namedL_ok (SlG.kept (fun c hc => Nat.lt_of_lt_of_le hbR hc) (fun _ _ _ => rfl) (HS6.out.lift' hb7)) (SlG.kept (fun c hc => Nat.lt_of_lt_of_le hbR (Nat.le_trans HB6.out.size hc)) (fun _ _ _ => rfl) hn7) (fun c hc => Nat.ne_of_gt hc) (HF.out.tq.lift HB7.out) (Nat.le_refl _)); clear hn7 hb7)
                      | ((with_reducible refine step_call4 33 enterMk (.pointer (some ⟨b, 0, none⟩)) (.slice a6 3 c6) (.slice (some n7) 3 c7) (.int .i64 2) (fun u w' => MadeT 2 v7.heap.size b v7 w' u) ?_ ?_ ?_ ?_ ?_ ?_); (rfl); (rfl); (rfl); (rfl); (exact HT7.out); (rintro u v8 ⟨T, hrep8, hok8, htq8, hg8⟩); (obtain ⟨uk, un, ui, uh, ua, um, uc, rfl⟩ := hrep8.form); (have HF8 := Lib.hid ((HF.out.lift HB7.out).grow htq8 hg8)); (have HOk8 := Lib.hid hok8); (have HA8 : Hid (∀ X, Below v8.heap.size v8 (v8.alloc X)) := fun X => (Below.refl _ v8).alloc (Nat.le_refl _) X); (have HX8 := Lib.hid (fun X => HF8.out.lift (HA8.out X))); (have HN8 : Hid (∀ X Z, (v8.alloc (.cells X Z)).heap[v8.heap.size]? = some (.cells X Z (0, 0))) := fun X Z => heap_alloc_new v8 _); (have HR8 := Lib.hid hrep8); (have h7s := HB7.out.size); (have HE8 : Hid (∀ X, TyE.rep (v8.alloc X) (fun c => C + 1 ≤ c ∧ some c ≠ (Value.slice fa fn fc).ownBlock) T [.int .i64 uk, .string un, .int .i64 ui, .int .i64 uh, .slice ua um uc]) := fun X => (HR8.out.lift (HA8.out X)).imp (fun c hc => ⟨Nat.le_trans hCR (Nat.le_trans h7s hc), fun e => Nat.lt_irrefl _ (Nat.lt_of_lt_of_le (HOw.out c e.symm).2 (Nat.le_trans h7s hc))⟩)); (have z8 := HF8.out.box.cell 2 _ rfl); (have zf8 := HF8.out.box.free 2); (have z8x := (HX8.out (.cells #[.int .i64 uk, .string un, .int .i64 ui, .int .i64 uh, .slice ua um uc] 39)).box.cell 2 _ rfl); clear hrep8 hok8 htq8 hg8)
                      | ((with_reducible refine fitA v8 _ ?_); (refine step_pushG TyE (by rfl) _ _ rfl (C + 1) (fun c => C + 1 ≤ c) (.slice fa fn fc) fs rfl (HX8.out _).row v8.heap.size _ [.int .i64 uk, .string un, .int .i64 ui, .int .i64 uh, .slice ua um uc] (HN8.out _ _) rfl T (HE8.out _) (fn + 1) (by rw [HFs.out.1]) hfn1 (HX8.out _).box.lt ?_); (intro a9 c9 v9 hrow9 hg9); (have HQ9 := Lib.hid ((HX8.out _).push hrow9 hg9)); (have z9 := HQ9.out.2.2.1.cell 2 _ rfl); (have zf9 := HQ9.out.2.2.1.free 2); clear hrow9 hg9 z8 zf8 z8x))
                  all_goals
                    have HF9 := Lib.hid (MFt.store HQ9.out HFq.out.1 HFq.out.2)
                    clear HQ9 z9 zf9
                    go_wp2
                    go_roundw
                    case rel => exact ⟨l - 1, a9, c9, fs ++ [T], fn + 1, by go_num, by omega, ⟨by rw [List.length_append, HFs.out.1]; rfl, fun f hf => by
                      rcases List.mem_append.1 hf with h | h
                      · exact HFs.out.2 f h
                      · simp at h; subst h; exact HOk8.out⟩, HF9⟩
                    case measure => simp [intOf]; omega
                · obtain rfl : l = 0 := by omega
                  have HCf := Lib.hid (HC7.out.grow HF.out.tq HF.out.gr)
                  have HBc := Lib.hid HF.out.box
                  have HRf := Lib.hid HF.out.row
                  have c0 := HBc.out.cell 0 _ rfl; have c1 := HBc.out.cell 1 _ rfl; have c2 := HBc.out.cell 2 _ rfl
                  have d3 := HCf.out.box.cell 3 _ rfl
                  have hCE : E ≤ C := by have := HC7.out.size; have := HCe.out; omega
                  have HA9 : Hid (∀ X, Below wr.heap.size wr (wr.alloc X)) := fun X => (Below.refl _ wr).alloc (Nat.le_refl _) X
                  have HCX := Lib.hid (fun X => HCf.out.lift (HA9.out X))
                  have HN9 : Hid (∀ X Z, (wr.alloc (.cells X Z)).heap[wr.heap.size]? = some (.cells X Z (0, 0))) := fun X Z => heap_alloc_new wr _
                  have HOc : Hid (∀ g, (Value.slice va cn vc).ownBlock = some g → E ≤ g ∧ g < C) := fun g e => by have := RowG.lt HC7.out.crow g e; have := HCe.out; omega
                  have HEl : Hid (∀ X, CtorE.rep (wr.alloc X) (fun c => E ≤ c ∧ some c ≠ (Value.slice va cn vc).ownBlock) ⟨10 * i + k, sc, fs⟩ [.int .i64 (10 * (i : Int) + (k : Int)), .string sc, .slice fa fn fc]) := fun X => ⟨_, rfl, SlG.kept (S := fun c => C + 1 ≤ c) (fun c hc => ⟨by omega, fun e => by have := (HOc.out c e.symm).2; omega⟩) (fun _ _ _ => rfl) ((HRf.out.slG (fun _ h => h) (fun _ h => h)).lift' (HA9.out X))⟩
                  have hcn : cn + 1 ≤ 1000000 := by omega
                  have hCG : CG ⟨10 * i + k, sc, fs⟩ := ⟨hscz, by show fs.length ≤ 2; rw [← HFs.out.1]; omega, HFs.out.2⟩
                  have HCG := Lib.hid hCG
                  have HCq := Lib.hid (show _ ∧ _ ∧ _ ∧ _ from ⟨HCf.out.pown, HCf.out.eq, HCf.out.lt, HCf.out.lt2⟩)
                  clear hCG HF HCf
                  go_wp2_with (at_builtin; refine wpList_pushG CtorE rfl _ _ rfl E (fun c => E ≤ c) (.slice va cn vc) cs rfl (HCX.out _).crow wr.heap.size _ [.int .i64 (10 * (i : Int) + (k : Int)), .string sc, .slice fa fn fc] (HN9.out _ _) rfl ⟨10 * i + k, sc, fs⟩ (HEl.out _) (cn + 1) (by rw [HCs.out.1]) hcn (HCX.out _).size ?_; intro a9 c9 w9 hrow9 hg9; have HQ9 := Lib.hid ((HCX.out _).push hrow9 hg9); have d9 := HQ9.out.2.2.1.cell 3 _ rfl; have f9 := HQ9.out.2.2.1.free 3; clear hrow9 hg9 d3 c0 c1 c2)
                  have HC9 := Lib.hid (MCt.store HQ9.out HCq.out.1 HCq.out.2.1 HCq.out.2.2.1 HCq.out.2.2.2)
                  clear HQ9 d9 f9
                  go_roundw
                  case rel => exact ⟨k - 1, a9, c9, cs ++ [⟨10 * i + k, sc, fs⟩], cn + 1, by go_num, by omega, ⟨by rw [List.length_append, HCs.out.1]; rfl, fun c hc => by
                    rcases List.mem_append.1 hc with h | h
                    · exact HCs.out.2 c h
                    · simp at h; subst h; exact HCG.out⟩, HC9⟩
                  case measure => simp [intOf]; omega
            · obtain rfl : k = 0 := by omega
              have d0 := HC.out.box.cell 0 _ rfl; have d1 := HC.out.box.cell 1 _ rfl; have d2 := HC.out.box.cell 2 _ rfl; have d3 := HC.out.box.cell 3 _ rfl
              have HO9 := Lib.hid (HO2.out.grow HC.out.tq HC.out.gr)
              have HA9 : Hid (∀ X, Below wr.heap.size wr (wr.alloc X)) := fun X => (Below.refl _ wr).alloc (Nat.le_refl _) X
              have HOX := Lib.hid (fun X => HO9.out.lift (HA9.out X))
              have HN9 : Hid (∀ X Z, (wr.alloc (.cells X Z)).heap[wr.heap.size]? = some (.cells X Z (0, 0))) := fun X Z => heap_alloc_new wr _
              have HOc : Hid (∀ g, (Value.slice ya i yc).ownBlock = some g → b + 1 ≤ g ∧ g < D) := fun g e => by have := RowG.lt HO2.out.row g e; have := HDe.out; omega
              have hbD : b < D := HC.out.lt
              have hDE : D < E := HC.out.lt2
              have HEl : Hid (∀ X, DatE.rep (wr.alloc X) (fun c => b + 1 ≤ c ∧ some c ≠ (Value.slice ya i yc).ownBlock) ⟨10 * i, s, ps, cs⟩ [.int .i64 (10 * (i : Int)), .string s, .slice pa pn pc, .slice va cn vc]) := fun X => ⟨_, _, rfl, SlG.kept (S := fun c => D + 1 ≤ c) (fun c hc => ⟨by omega, fun e => by have := (HOc.out c e.symm).2; omega⟩) (fun _ _ _ => rfl) ((HC.out.prow.slG (fun _ h => h.elim) (fun _ h => h)).lift' (HA9.out X)), SlG.kept (S := fun c => E ≤ c) (fun c hc => ⟨by omega, fun e => by have := (HOc.out c e.symm).2; omega⟩) (fun _ _ _ => rfl) ((HC.out.crow.slG (fun _ h => h) (fun _ h => h)).lift' (HA9.out X))⟩
              have hi1 : i + 1 ≤ 1000000 := by omega
              have HDG : Hid (DG ⟨10 * i, s, ps, cs⟩) := ⟨hsz, HPG.out, by show cs.length ≤ 3; rw [← HCs.out.1]; omega, HCs.out.2⟩
              clear HC HO9
              go_wp2_with (at_builtin; refine wpList_pushG DatE rfl _ _ rfl (b + 1) (fun c => b + 1 ≤ c) (.slice ya i yc) ds rfl (HOX.out _).row wr.heap.size _ [.int .i64 (10 * (i : Int)), .string s, .slice pa pn pc, .slice va cn vc] (HN9.out _ _) rfl ⟨10 * i, s, ps, cs⟩ (HEl.out _) (i + 1) (by rw [HDs.out.1]) hi1 (HOX.out _).size ?_; intro a9 c9 w9 hrow9 hg9; have HO10 := Lib.hid ((HOX.out _).push hrow9 hg9); clear hrow9 hg9 d0 d1 d2 d3)
              go_roundw
              case rel => exact ⟨i + 1, a9, c9, ds ++ [⟨10 * i, s, ps, cs⟩], hiq, by go_num, rfl, ⟨by rw [List.length_append, HDs.out.1]; rfl, fun d hd => by
                rcases List.mem_append.1 hd with h | h
                · exact HDs.out.2 d h
                · simp at h; subst h; exact HDG.out⟩, HO10⟩
              case measure => simp [intOf]; omega
    · go_wp2
      go_ret
      exact ⟨_, ds, rfl, goodM_of (by rw [HDs.out.1]; omega) HDs.out.2, HO.out.row.slG (fun _ _ => trivial) (fun _ _ => trivial), (by rw [HBe.out]; exact HAl.out.trans HO.out.low), (by
        obtain ⟨L, hown, -⟩ := HO.out.row
        rcases hown.2 with ⟨e, -⟩ | ⟨g, cap, cur, e, -⟩
        · exact .inl e
        · exact .inr ⟨_, _, _, e⟩)⟩
end Go.Proofs.Ytafpngmfhajedaa

/- What a correct list of declarations is: where its constructors are found, that their schemes are valid; the maker's declarations are correct. -/
namespace Go.Proofs.Ytafpngmfhajedaa
open Go.RowKit Go.Sort Go.Shelf Go.Maps Mth

theorem chkN_two : ∀ (ds : List Dat) (ts cs : List (List UInt8)), chkN ds ts cs = (0, 0) ∨ (chkN ds ts cs).1 = 6 := by
  intro ds
  induction ds with
  | nil => intro ts cs; exact .inl rfl
  | cons d l ih =>
    intro ts cs
    unfold chkN
    split
    · exact .inr rfl
    · split
      · exact .inr rfl
      · split
        · exact .inr rfl
        · exact ih _ _
theorem chk_ok {ds : List Dat} (h : (chk ds).1 = 0) : chkN ds [[73, 110, 116]] [] = (0, 0) ∧ (chkF (kn ds) ds).1 = 0 := by
  unfold chk orP at h
  rcases chkN_two ds [[73, 110, 116]] [] with e | e
  · rw [e] at h; exact ⟨e, h⟩
  · split at h
    · rename_i h0; simp only [beq_iff_eq] at h0; rw [h0] at e; cases e
    · rw [e] at h; cases h
theorem contains_app {cs : List (List UInt8)} {x y : List UInt8} (h : (cs ++ [x]).contains y = false) : cs.contains y = false ∧ (y == x) = false := by
  rw [List.contains_eq_any_beq, List.any_append, Bool.or_eq_false_iff] at h
  refine ⟨by rw [List.contains_eq_any_beq]; exact h.1, ?_⟩
  simpa using h.2
theorem bl_to (s : ByteArray) : s.toList = bl s := Lib.toList_data s
theorem fndC_no {s : ByteArray} : ∀ (l : List Ctor) (j : Nat), (∀ c ∈ l, (bl s == bl c.name) = false) → fndC s l j = none := by
  intro l
  induction l with
  | nil => intro j _; rfl
  | cons c l ih =>
    intro j h
    have hc := h c (by simp)
    unfold fndC
    rw [bl_to, bl_to]
    rw [if_neg (by intro e; rw [beq_iff_eq] at e; rw [e] at hc; simp at hc)]
    exact ih _ fun c hc => h c (by simp [hc])
theorem chkC_ok : ∀ (l : List Ctor) (cs cs' : List (List UInt8)), chkC l cs = (none, cs') → cs' = cs ++ l.map (fun c => bl c.name) ∧ (∀ c ∈ l, cs.contains (bl c.name) = false) ∧ ∀ (k : Nat) (c : Ctor) (j : Nat), l[k]? = some c → fndC c.name l j = some (j + k) := by
  intro l
  induction l with
  | nil =>
    intro cs cs' h
    simp only [chkC, Prod.mk.injEq, true_and] at h
    exact ⟨by simp [h], by simp, fun k c j hk => by simp at hk⟩
  | cons c0 l ih =>
    intro cs cs' h
    unfold chkC at h
    split at h
    · cases h
    · rename_i hc
      obtain ⟨h1, h2, h3⟩ := ih _ _ h
      refine ⟨by rw [h1]; simp, fun c hm => ?_, fun k c j hk => ?_⟩
      · rcases List.mem_cons.1 hm with rfl | hm
        · simpa using hc
        · exact (contains_app (h2 c hm)).1
      · unfold fndC
        rw [bl_to, bl_to]
        cases k with
        | zero => simp at hk; subst hk; rw [if_pos (by simp)]; rfl
        | succ k =>
          simp at hk
          have hne := (contains_app (h2 c (List.mem_of_getElem? hk))).2
          rw [if_neg (by intro e; rw [beq_iff_eq] at e; rw [e] at hne; simp at hne), h3 k c (j + 1) hk]
          congr 1; omega
theorem chkN_fnd : ∀ (ds : List Dat) (ts cs : List (List UInt8)), chkN ds ts cs = (0, 0) → (∀ d ∈ ds, ts.contains (bl d.name) = false) ∧ (∀ d ∈ ds, ∀ c ∈ d.ctors, cs.contains (bl c.name) = false) ∧
    ∀ (i : Nat) (d : Dat) (k : Nat) (c : Ctor) (m : Nat), ds[i]? = some d → d.ctors[k]? = some c → fndF c.name ds m = some (m + i, k) := by
  intro ds
  induction ds with
  | nil => intro ts cs _; exact ⟨by simp, by simp, fun i d k c m h => by simp at h⟩
  | cons d0 l ih =>
    intro ts cs h
    unfold chkN at h
    split at h
    · cases h
    · rename_i ht
      split at h
      · cases h
      · split at h
        · cases h
        · rename_i cs' hC
          obtain ⟨h1, h2, h3⟩ := ih _ _ h
          obtain ⟨k1, k2, k3⟩ := chkC_ok _ _ _ hC
          have hcs : ∀ d ∈ l, ∀ c ∈ d.ctors, cs.contains (bl c.name) = false ∧ ∀ c' ∈ d0.ctors, (bl c.name == bl c'.name) = false := by
            intro d hd c hc
            have := h2 d hd c hc
            rw [k1, List.contains_eq_any_beq, List.any_append, Bool.or_eq_false_iff] at this
            refine ⟨by rw [List.contains_eq_any_beq]; exact this.1, fun c' hc' => ?_⟩
            have h4 := this.2
            rw [List.any_eq_false] at h4
            have := h4 (bl c'.name) (List.mem_map.2 ⟨c', hc', rfl⟩)
            simpa using this
          refine ⟨fun d hd => ?_, fun d hd c hc => ?_, fun i d k c m hi hk => ?_⟩
          · rcases List.mem_cons.1 hd with rfl | hd
            · simpa using ht
            · exact (contains_app (h1 d hd)).1
          · rcases List.mem_cons.1 hd with rfl | hd
            · exact k2 c hc
            · exact (hcs d hd c hc).1
          · unfold fndF
            cases i with
            | zero =>
              simp at hi; subst hi
              rw [k3 k c 0 hk]; simp
            | succ i =>
              simp at hi
              rw [fndC_no d0.ctors 0 fun c' hc' => (hcs d (List.mem_of_getElem? hi) c (List.mem_of_getElem? hk)).2 c' hc', h3 i d k c (m + 1) hi hk]
              simp; omega
theorem chkF1_ok (ks : List (List UInt8 × Int)) (ns : List ByteArray) : ∀ l : List Ctor, (chkF1 ks ns l).1 = 0 → ∀ c ∈ l, frmL ks ns c.fields = 0 := by
  intro l
  induction l with
  | nil => intro _ c hc; simp at hc
  | cons c0 l ih =>
    intro h c hc
    unfold chkF1 at h
    by_cases h0 : (frmL ks ns c0.fields == 0) = true
    · rw [if_pos h0] at h
      rcases List.mem_cons.1 hc with rfl | hc
      · simpa using h0
      · exact ih h c hc
    · rw [if_neg h0] at h
      exact absurd (by simpa using h) h0
theorem chkF_ok (ks : List (List UInt8 × Int)) : ∀ l : List Dat, (chkF ks l).1 = 0 → ∀ d ∈ l, ∀ c ∈ d.ctors, frmL ks d.params c.fields = 0 := by
  intro l
  induction l with
  | nil => intro _ d hd; simp at hd
  | cons d0 l ih =>
    intro h d hd
    unfold chkF at h
    by_cases h0 : ((chkF1 ks d0.params d0.ctors).1 == 0) = true
    · rw [if_pos h0] at h
      rcases List.mem_cons.1 hd with rfl | hd
      · exact chkF1_ok _ _ _ (by simpa using h0)
      · exact ih h d hd
    · rw [if_neg h0] at h
      exact absurd (by simpa using h) h0
theorem frmL_ok (ks : List (List UInt8 × Int)) (ns : List ByteArray) : ∀ l : List Ty, frmL ks ns l = 0 → ∀ T ∈ l, frm ks ns T = 0 := by
  intro l
  induction l with
  | nil => intro _ T hT; simp at hT
  | cons t l ih =>
    intro h T hT
    unfold frmL at h
    by_cases h0 : (frm ks ns t == 0) = true
    · rw [if_pos h0] at h
      rcases List.mem_cons.1 hT with rfl | hT
      · simpa using h0
      · exact ih h T hT
    · rw [if_neg h0] at h
      exact absurd (by simpa using h) h0
/-- A field of a correct declaration, bound, is valid. -/
theorem valid_bnd (ks : List (List UInt8 × Int)) (ns : List ByteArray) (hns : ns.length ≤ 1000000) (T : Ty) : valid T = true → frm ks ns T = 0 → valid (bnd ns T) = true := by
  refine Ty.induct (p := fun T => valid T = true → frm ks ns T = 0 → valid (bnd ns T) = true) (fun T ih hv hf => ?_) T
  cases T with
  | mk k n i h ts =>
    unfold bnd
    split
    · rename_i hb
      simp only [Bool.and_eq_true, decide_eq_true_eq] at hb
      have hr := ix_range ns n
      simp only [valid]
      rw [if_pos (Or.inr trivial)]
      simp [idOk]
      omega
    · rename_i hb
      unfold frm at hf
      have hk5 : k ≠ 5 := by
        intro e
        subst e
        simp only [beq_self_eq_true, Bool.true_and, decide_eq_true_eq] at hb
        have e : ndE ks ns 5 n ts.length = 7 := by unfold ndE; simp [hb]
        rw [e] at hf
        simp at hf
      have hfl : frmL ks ns ts = 0 := by
        by_cases h0 : (ndE ks ns k n ts.length == 0) = true
        · rwa [if_pos h0] at hf
        · rw [if_neg h0] at hf; exact absurd (by simpa using hf) h0
      have hlen : (bndL ns ts).length = ts.length := by rw [bndL_map, List.length_map]
      simp only [valid] at hv ⊢
      rw [hlen]
      split
      · rename_i h1; rwa [if_pos h1] at hv
      · rename_i h1
        rw [if_neg h1] at hv
        split
        · rename_i h2; rwa [if_pos h2] at hv
        · rename_i h2
          rw [if_neg h2] at hv
          split
          · rename_i h3
            rw [if_pos h3] at hv
            simp only [Bool.and_eq_true] at hv ⊢
            refine ⟨hv.1, ?_⟩
            rw [validL_any, bndL_map]
            simp only [Bool.not_eq_true', List.any_eq_false]
            intro U hU
            obtain ⟨V, hV, rfl⟩ := List.mem_map.1 hU
            simp [ih V hV (validL_mem hv.2 hV) (frmL_ok ks ns ts hfl V hV)]
          · rename_i h3
            rw [if_neg h3] at hv
            simp only [hk5, if_false] at hv
            cases hv
theorem conOk_up {n : ByteArray} {c : Nat} (h : isUp (bl n) = true) (hi : (bl n == [73, 110, 116]) = false) (hc : c ≤ 4) : conOk n c = true := by
  unfold conOk
  rw [bl_to]
  split
  · rename_i h1
    rw [beq_iff_eq] at h1
    rw [h1] at h
    exact absurd h (by decide +kernel)
  · rw [hi]
    simp [h, hc]
theorem valid_bndTs (n : Nat) (hn : n ≤ 1000000) : ∀ T ∈ bndTs n, valid T = true := by
  intro T hT
  unfold bndTs at hT
  obtain ⟨i, hi, rfl⟩ := List.mem_map.1 hT
  have := List.mem_range.1 hi
  unfold bndTy
  simp only [valid]
  rw [if_pos (Or.inr trivial)]
  simp [idOk]
  omega
theorem valid_conT (d : Dat) (ks : List (List UInt8 × Int)) (hr : valid (resT d) = true) (hp : d.params.length ≤ 1000000) : ∀ l : List Ty, (∀ f ∈ l, valid f = true) → (∀ f ∈ l, frm ks d.params f = 0) → valid (conT d l) = true := by
  intro l
  induction l with
  | nil => intro _ _; exact hr
  | cons f l ih =>
    intro h1 h2
    exact arr_con _ _ (valid_bnd ks d.params hp f (h1 f (by simp)) (h2 f (by simp))) (ih (fun g hg => h1 g (by simp [hg])) (fun g hg => h2 g (by simp [hg])))
/-- What the law of schemes asks of a correct list. -/
theorem sch_ok {ds : List Dat} (hM : GoodM ds) (h : (chk ds).1 = 0) {i k : Nat} {d : Dat} {c : Ctor} (hd : ds[i]? = some d) (hc : d.ctors[k]? = some c) : sch ds c.name = some (d.params.length, conT d c.fields) ∧ valid (conT d c.fields) = true := by
  obtain ⟨h1, h2⟩ := chk_ok h
  obtain ⟨n1, -, n3⟩ := chkN_fnd ds _ _ h1
  have hdm := List.mem_of_getElem? hd
  have hcm := List.mem_of_getElem? hc
  have hf : fnd ds c.name = some (i, k) := by
    have := n3 i d k c 0 hd hc
    simpa [fnd] using this
  refine ⟨sch_some hf hd hc, ?_⟩
  have hn := n1 d hdm
  have hni : (bl d.name == [73, 110, 116]) = false := by simpa using hn
  have hup : isUp (bl d.name) = true := by
    have := (hM.up d hdm).1
    unfold nmOk at this
    rwa [hni, Bool.false_or] at this
  have hp := (hM.up d hdm).2
  have hres : valid (resT d) = true := valid_con (by rw [bndTs_len]; exact conOk_up hup hni (by omega)) (valid_bndTs _ (by omega))
  exact valid_conT d (kn ds) hres (by omega) c.fields ((hM.val d hdm).2 c hcm).2 (frmL_ok _ _ _ (chkF_ok _ ds h2 d hdm c hcm))
/-! The maker's declarations are correct, whatever the bits. -/
theorem wrap_lit {x : Int} (h1 : 0 ≤ x) (h2 : x ≤ 1000) : IntKind.i64.wrap x = x := by rw [IntKind.wrap_i64]; omega
theorem and1 (x : Int) : Go.bits BinOp.and IntKind.i64 x 1 = x % 2 := by
  show IntKind.i64.wrap (((BitVec.ofInt 64 x &&& BitVec.ofInt 64 1).toNat : Nat) : Int) = x % 2
  have h1 : (BitVec.ofInt 64 1).toNat = 1 := by decide
  have h2 : (BitVec.ofInt 64 x).toNat = (x % 18446744073709551616).toNat := by rw [BitVec.toNat_ofInt]; rfl
  rw [BitVec.toNat_and, h1, h2, Nat.and_one_is_mod, wrap_lit (by omega) (by omega)]
  omega
theorem and_64 (n : Nat) : n &&& 64 = if n / 64 % 2 = 1 then 64 else 0 := by
  have e64 : ∀ i, Nat.testBit 64 i = decide (6 = i) := fun i => by rw [show (64 : Nat) = 2 ^ 6 from rfl, Nat.testBit_two_pow]
  apply Nat.eq_of_testBit_eq
  intro i
  rw [Nat.testBit_and, e64]
  by_cases hi : 6 = i
  · subst hi
    rw [Nat.testBit_eq_decide_div_mod_eq]
    split
    · rename_i h; rw [e64]; simp [h]
    · rename_i h; simp [h]
  · split
    · rw [e64]; simp [hi]
    · simp [hi]
theorem and64 (x : Int) : Go.bits BinOp.and IntKind.i64 x 64 = (x / 64 % 2) * 64 := by
  show IntKind.i64.wrap (((BitVec.ofInt 64 x &&& BitVec.ofInt 64 64).toNat : Nat) : Int) = _
  have h1 : (BitVec.ofInt 64 64).toNat = 64 := by decide
  have h2 : (BitVec.ofInt 64 x).toNat = (x % 18446744073709551616).toNat := by rw [BitVec.toNat_ofInt]; rfl
  rw [BitVec.toNat_and, h1, h2, and_64]
  split
  · rw [wrap_lit (by simp) (by simp)]; omega
  · rw [wrap_lit (by simp) (by simp)]; omega
theorem bt6 (x : Int) (h : bt x 6 = true) : (Go.bits BinOp.and IntKind.i64 x 64 != 0) = true := by
  unfold bt at h
  rw [and1] at h
  rw [and64]
  simp at h ⊢
  omega
def dsB (L : List Dat) (c b0 b2 b3 b4 b5 b6 : Bool) : List Dat :=
  (if c then L[1]?.toList else []) ++ (if b0 then L[0]?.toList else []) ++ (if b2 then L[2]?.toList else []) ++ (if b3 then L[3]?.toList else []) ++ (if b4 then L[4]?.toList else []) ++ (if b5 then L[5]?.toList else []) ++ (if b6 then L[6]?.toList else [])
theorem dsOf_B (bits : Int) : dsOf bits = dsB allDats ((Go.bits BinOp.and IntKind.i64 bits 2 != 0) || (Go.bits BinOp.and IntKind.i64 bits 64 != 0)) (bt bits 0) (bt bits 2) (bt bits 3) (bt bits 4) (bt bits 5) (bt bits 6) := by
  unfold dsOf dsB
  simp only [dsl_succ, dsl_zero]
  simp
theorem dsB_ok : ∀ c b0 b2 b3 b4 b5 b6 : Bool, (!b6 || c) = true → (chk (dsB allDats c b0 b2 b3 b4 b5 b6)).1 = 0 := by decide +kernel
theorem chk_dsOf (bits : Int) : (chk (dsOf bits)).1 = 0 := by
  rw [dsOf_B]
  refine dsB_ok _ _ _ _ _ _ _ ?_
  cases h : bt bits 6 with
  | false => rfl
  | true => rw [bt6 bits h]; simp
theorem all_flat : allDats.all (fun d => d.ctors.all fun c => c.fields.all flatT) = true := by decide +kernel
theorem dsOf_flat (bits : Int) : ∀ d ∈ dsOf bits, ∀ c ∈ d.ctors, ∀ f ∈ c.fields, flatT f = true := fun d hd c hc f hf => by
  have := List.all_eq_true.1 all_flat d ((dsOf_some bits).2 d hd)
  exact List.all_eq_true.1 (List.all_eq_true.1 this c hc) f hf
theorem GoodM.flat {ds : List Dat} (h : GoodM ds) : ∀ d ∈ ds, ∀ c ∈ d.ctors, ∀ f ∈ c.fields, flatT f = true := fun d hd c hc f hf => (valid_flat f (((h.val d hd).2 c hc).2 f hf)).1
end Go.Proofs.Ytafpngmfhajedaa
