import Derived.Test.YtfkbifbodpelmaaDoorVA1
import Derived.Laws.Tables
import Derived.Test.YtfkbifbodpelmaaDoorVA2
import Derived.LaidEql
import Derived.Stop.Asserts
import Derived.RowKitTokens
/- Expressions as trees, and what it means that cells stand for a tree. -/
namespace Go.Proofs.YtfkbifbodpelmaaDoor
open Go.RowKit Mth

/-- What an arm says besides its body. -/
structure AH where
  pos : Int
  con : ByteArray
  vars : List ByteArray
/-- An expression: its kind, its place, its name, its number, its type, its kids, its arms. -/
inductive Ex where
  | mk (k p : Int) (n : ByteArray) (m : Int) (t : Ty) (kids : List Ex) (arms : List (AH × Ex))
def Ex.k : Ex → Int | .mk k _ _ _ _ _ _ => k
def Ex.p : Ex → Int | .mk _ p _ _ _ _ _ => p
def Ex.n : Ex → ByteArray | .mk _ _ n _ _ _ _ => n
def Ex.m : Ex → Int | .mk _ _ _ m _ _ _ => m
def Ex.t : Ex → Ty | .mk _ _ _ _ t _ _ => t
def Ex.kids : Ex → List Ex | .mk _ _ _ _ _ l _ => l
def Ex.arms : Ex → List (AH × Ex) | .mk _ _ _ _ _ _ l => l
def zTy : Ty := .mk 0 ⟨#[]⟩ 0 0 []
def zEx : Ex := .mk 0 0 ⟨#[]⟩ 0 zTy [] []
instance : Inhabited Ex := ⟨zEx⟩
theorem Ex.induct {P : Ex → Prop} (H : ∀ T : Ex, (∀ U ∈ T.kids, P U) → (∀ a ∈ T.arms, P a.2) → P T) (T : Ex) : P T :=
  H T (fun U _ => Ex.induct H U) (fun a _ => Ex.induct H a.2)
termination_by SizeOf.sizeOf T
decreasing_by
  · rename_i h
    cases T with
    | mk k p n m t kids arms =>
      have := List.sizeOf_lt_of_mem h
      simp only [Ex.kids] at this
      simp only [Ex.mk.sizeOf_spec]
      omega
  · rename_i h
    cases T with
    | mk k p n m t kids arms =>
      have := List.sizeOf_lt_of_mem h
      simp only [Ex.arms] at this
      obtain ⟨a1, a2⟩ := a
      simp only [Prod.mk.sizeOf_spec] at this
      simp only [Ex.mk.sizeOf_spec]
      omega

/-- Cells one behind the other, from an offset of an address on. -/
def AtC (w : World) (ad : Addr) (o : Nat) (c : List Value) : Prop := ∀ (m : Nat) (u : Value), c[m]? = some u → w.cell? (ad.add (o + m)) = some u
theorem AtC.kept {w w' : World} {ad : Addr} {o : Nat} {c : List Value} (h : AtC w ad o c) (hw : ad.block < w.heap.size → w'.heap[ad.block]? = w.heap[ad.block]?) : AtC w' ad o c := fun m u hu => by
  have hlt := World.block_lt_of_cell? _ _ (h m u hu)
  rw [add_block] at hlt
  rw [World.cell?_of_block (w := w) (by rw [add_block]; exact hw hlt)]
  exact h m u hu
theorem AtC.lt {w : World} {ad : Addr} {o : Nat} {c : List Value} (h : AtC w ad o c) (hc : 0 < c.length) : ad.block < w.heap.size := by
  have := World.block_lt_of_cell? _ _ (h 0 _ (List.getElem?_eq_getElem hc))
  rwa [add_block] at this

/-- The cells stand for the expression; all blocks that they lead to are of S. -/
inductive RepE (w : World) (S : Nat → Prop) : Ex → List Value → Prop
  | mk (k p : Int) (n : ByteArray) (m : Int) (t : Ty) (kids : List Ex) (arms : List (AH × Ex)) (ka aa : Option Addr) (kc ac : Nat) (tc : List Value) (f g : Nat → List Value) (vv : Nat → Value)
      (hn : n.size ≤ maxLen) (ht : Rep w S t (.agg tc.toArray)) (hkc : kids.length ≤ kc ∧ kc ≤ maxLen) (hac : arms.length ≤ ac ∧ ac ≤ maxLen)
      (hk : ∀ j T, kids[j]? = some T → ∃ ad, ka = some ad ∧ S ad.block ∧ AtC w ad (j * 11) (f j)) (hkr : ∀ j T, kids[j]? = some T → RepE w S T (f j))
      (ha : ∀ j A, arms[j]? = some A → ∃ ad, aa = some ad ∧ S ad.block ∧ AtC w ad (j * 14) (.int .i64 A.1.pos :: .string A.1.con :: vv j :: g j) ∧ SlG StrE w S A.1.vars (vv j))
      (har : ∀ j A, arms[j]? = some A → RepE w S A.2 (g j)) :
      RepE w S (.mk k p n m t kids arms) (.int .i64 k :: .int .i64 p :: .string n :: .int .i64 m :: .slice ka kids.length kc :: .slice aa arms.length ac :: tc)
theorem RepE.len {w : World} {S : Nat → Prop} {T : Ex} {c : List Value} (h : RepE w S T c) : c.length = 11 ∧ ∀ u ∈ c, u.oneCell' = true := by
  cases h with
  | mk k p n m t kids arms ka aa kc ac tc f g vv hn ht hkc hac hk hkr ha har =>
    obtain ⟨h1, h2⟩ := Rep.cells ht
    refine ⟨by simp [h1], fun u hu => ?_⟩
    simp at hu
    rcases hu with h | h | h | h | h | h | h
    all_goals first | (subst h; rfl) | exact h2 u h
theorem RepE.kept {w w' : World} {S S' : Nat → Prop} (hS : ∀ b, S b → S' b) (hw : ∀ b, S b → b < w.heap.size → w'.heap[b]? = w.heap[b]?) {T : Ex} {c : List Value} (h : RepE w S T c) : RepE w' S' T c := by
  induction h with
  | mk k p n m t kids arms ka aa kc ac tc f g vv hn ht hkc hac hk hkr ha har ih1 ih2 =>
    refine .mk k p n m t kids arms ka aa kc ac tc f g vv hn (ht.kept hS hw) hkc hac (fun j T hj => ?_) ih1 (fun j A hj => ?_) ih2
    · obtain ⟨ad, h1, h2, h3⟩ := hk j T hj
      exact ⟨ad, h1, hS _ h2, h3.kept (hw _ h2)⟩
    · obtain ⟨ad, h1, h2, h3, h4⟩ := ha j A hj
      exact ⟨ad, h1, hS _ h2, h3.kept (hw _ h2), h4.kept hS hw⟩
theorem RepE.bound {w : World} {S : Nat → Prop} {T : Ex} {c : List Value} (h : RepE w S T c) : RepE w (fun b => S b ∧ b < w.heap.size) T c := by
  induction h with
  | mk k p n m t kids arms ka aa kc ac tc f g vv hn ht hkc hac hk hkr ha har ih1 ih2 =>
    refine .mk k p n m t kids arms ka aa kc ac tc f g vv hn ht.bound hkc hac (fun j T hj => ?_) ih1 (fun j A hj => ?_) ih2
    · obtain ⟨ad, h1, h2, h3⟩ := hk j T hj
      exact ⟨ad, h1, ⟨h2, h3.lt (by rw [(RepE.len (hkr j T hj)).1]; omega)⟩, h3⟩
    · obtain ⟨ad, h1, h2, h3, h4⟩ := ha j A hj
      exact ⟨ad, h1, ⟨h2, h3.lt (by simp)⟩, h3, h4.bound⟩
theorem RepE.lift {w w' : World} {S : Nat → Prop} {T : Ex} {c : List Value} (h : RepE w S T c) (hb : Below w.heap.size w w') : RepE w' S T c := h.kept (fun _ h => h) (fun b _ hl => hb.block b hl)
theorem RepE.imp {w : World} {S S' : Nat → Prop} (hS : ∀ b, S b → S' b) {T : Ex} {c : List Value} (h : RepE w S T c) : RepE w S' T c := h.kept hS fun _ _ _ => rfl

theorem elInfo_ex : (Tryd.prog.info? 37).map (fun i => (i.zero, i.size, i.bytes)) = some (some (.agg #[.int .i64 0, .int .i64 0, .string ByteArray.empty, .int .i64 0, .slice none 0 0, .slice none 0 0, .int .i64 0, .string ByteArray.empty, .int .i64 0, .int .i64 0, .slice none 0 0]), 11, 152) := by kernel_rfl
theorem elInfo_am : (Tryd.prog.info? 68).map (fun i => (i.zero, i.size, i.bytes)) = some (some (.agg #[.int .i64 0, .string ByteArray.empty, .slice none 0 0, .int .i64 0, .int .i64 0, .string ByteArray.empty, .int .i64 0, .slice none 0 0, .slice none 0 0, .int .i64 0, .string ByteArray.empty, .int .i64 0, .int .i64 0, .slice none 0 0]), 14, 200) := by kernel_rfl
/-- Expressions as elements. -/
def ExE : El Ex where
  k := 11
  by_ := 152
  e := 37
  t := 31
  rep := RepE
  hk := by decide
  und := Tryd.underlying31
  info := by obtain ⟨i, h0, h1, h2, h3⟩ := info_parts elInfo_ex; exact ⟨i, _, h0, h1, h2, h3, rfl⟩
  hby := by decide
  len h := h.len
  kept h1 h2 h := h.kept h1 h2
  bound h := h.bound
/-- Arms as elements. -/
def AmE : El (AH × Ex) where
  k := 14
  by_ := 200
  e := 68
  t := 32
  rep w S x c := ∃ vv cb, c = .int .i64 x.1.pos :: .string x.1.con :: vv :: cb ∧ SlG StrE w S x.1.vars vv ∧ RepE w S x.2 cb
  hk := by decide
  und := Tryd.underlying32
  info := by obtain ⟨i, h0, h1, h2, h3⟩ := info_parts elInfo_am; exact ⟨i, _, h0, h1, h2, h3, rfl⟩
  hby := by decide
  len h := by
    obtain ⟨vv, cb, rfl, h1, h2⟩ := h
    obtain ⟨a, c, rfl, -⟩ := h1.slice
    obtain ⟨h3, h4⟩ := h2.len
    refine ⟨by simp [h3], fun u hu => ?_⟩
    simp at hu
    rcases hu with h | h | h | h
    all_goals first | (subst h; rfl) | exact h4 u h
  kept h1 h2 h := by
    obtain ⟨vv, cb, e, hf, hr⟩ := h
    exact ⟨vv, cb, e, hf.kept h1 h2, hr.kept h1 h2⟩
  bound h := by
    obtain ⟨vv, cb, e, hf, hr⟩ := h
    exact ⟨vv, cb, e, hf.bound, hr.bound⟩
theorem RepE.open {w : World} {S : Nat → Prop} {T : Ex} {c : List Value} (h : RepE w S T c) :
    ∃ kv av tc, c = .int .i64 T.k :: .int .i64 T.p :: .string T.n :: .int .i64 T.m :: kv :: av :: tc ∧ T.n.size ≤ maxLen ∧ SlG ExE w S T.kids kv ∧ SlG AmE w S T.arms av ∧ Rep w S T.t (.agg tc.toArray) := by
  cases h with
  | mk k p n m t kids arms ka aa kc ac tc f g vv hn ht hkc hac hk hkr ha har =>
    refine ⟨_, _, tc, rfl, hn, ⟨ka, kc, rfl, hkc, fun j T hj => ?_⟩, ⟨aa, ac, rfl, hac, fun j A hj => ?_⟩, ht⟩
    · obtain ⟨ad, h1, h2, h3⟩ := hk j T hj
      exact ⟨ad, f j, h1, h2, h3, hkr j T hj⟩
    · obtain ⟨ad, h1, h2, h3, h4⟩ := ha j A hj
      exact ⟨ad, _, h1, h2, h3, vv j, g j, rfl, h4, har j A hj⟩
theorem RepE.close {w : World} {S : Nat → Prop} {k p : Int} {n : ByteArray} {m : Int} {t : Ty} {kids : List Ex} {arms : List (AH × Ex)} {kv av : Value} {tc : List Value} (hn : n.size ≤ maxLen)
    (h1 : SlG ExE w S kids kv) (h2 : SlG AmE w S arms av) (h3 : Rep w S t (.agg tc.toArray)) : RepE w S (.mk k p n m t kids arms) (.int .i64 k :: .int .i64 p :: .string n :: .int .i64 m :: kv :: av :: tc) := by
  obtain ⟨ka, kc, rfl, hkc, hk⟩ := h1
  obtain ⟨aa, ac, rfl, hac, ha⟩ := h2
  have hx : ∀ j, ∃ c : List Value, ∀ T, kids[j]? = some T → ∃ ad, ka = some ad ∧ S ad.block ∧ AtC w ad (j * 11) c ∧ RepE w S T c := by
    intro j
    cases hT : kids[j]? with
    | none => exact ⟨[], fun T h => by cases h⟩
    | some T0 =>
      obtain ⟨ad, c, h1, h2, h3, h4⟩ := hk j T0 hT
      exact ⟨c, fun T h => by cases h; exact ⟨ad, h1, h2, h3, h4⟩⟩
  have hy : ∀ j, ∃ (vv : Value) (c : List Value), ∀ A, arms[j]? = some A → ∃ ad, aa = some ad ∧ S ad.block ∧ AtC w ad (j * 14) (.int .i64 A.1.pos :: .string A.1.con :: vv :: c) ∧ SlG StrE w S A.1.vars vv ∧ RepE w S A.2 c := by
    intro j
    cases hA : arms[j]? with
    | none => exact ⟨.nilIface, [], fun A h => by cases h⟩
    | some A0 =>
      obtain ⟨ad, c, h1, h2, h3, vv, cb, rfl, h5, h6⟩ := ha j A0 hA
      exact ⟨vv, cb, fun A h => by cases h; exact ⟨ad, h1, h2, h3, h5, h6⟩⟩
  have hf := fun j => Classical.choose_spec (hx j)
  have hg := fun j => Classical.choose_spec (Classical.choose_spec (hy j))
  refine .mk k p n m t kids arms ka aa kc ac tc (fun j => Classical.choose (hx j)) (fun j => Classical.choose (Classical.choose_spec (hy j))) (fun j => Classical.choose (hy j)) hn h3 hkc hac (fun j T hT => ?_) (fun j T hT => ?_) (fun j A hA => ?_) (fun j A hA => ?_)
  · obtain ⟨ad, h1, h2, h3, _⟩ := hf j T hT
    exact ⟨ad, h1, h2, h3⟩
  · obtain ⟨_, _, _, _, h⟩ := hf j T hT
    exact h
  · obtain ⟨ad, h1, h2, h3, h4, _⟩ := hg j A hA
    exact ⟨ad, h1, h2, h3, h4⟩
  · obtain ⟨_, _, _, _, _, h⟩ := hg j A hA
    exact h
/-- The eleven cells, written out. -/
theorem RepE.form {w : World} {S : Nat → Prop} {T : Ex} {c : List Value} (h : RepE w S T c) :
    ∃ ka kc aa ac tk tn ti th ta tl tcap, c = [.int .i64 T.k, .int .i64 T.p, .string T.n, .int .i64 T.m, .slice ka T.kids.length kc, .slice aa T.arms.length ac, .int .i64 tk, .string tn, .int .i64 ti, .int .i64 th, .slice ta tl tcap] := by
  obtain ⟨kv, av, tc, rfl, -, h1, h2, h3⟩ := h.open
  obtain ⟨ka, kc, rfl, -⟩ := h1.slice
  obtain ⟨aa, ac, rfl, -⟩ := h2.slice
  obtain ⟨k, n, i, hm, s, -, hv, -, a, cap, rfl, -⟩ := h3.open
  have : tc = [.int .i64 k, .string n, .int .i64 i, .int .i64 hm, .slice a T.t.ts.length cap] := by simpa using hv
  subst this
  exact ⟨_, _, _, _, _, _, _, _, _, _, _, rfl⟩

/-! A struct in a block of its own. -/
/-- Block B is a struct with these cells. -/
def BoxC (t : TypeId) (w : World) (B : Nat) (c : List Value) : Prop := w.heap[B]? = some (.cells c.toArray t (0, 0))
theorem BoxC.kept {t : TypeId} {w w' : World} {B : Nat} {c : List Value} (h : BoxC t w B c) (hb : w'.heap[B]? = w.heap[B]?) : BoxC t w' B c := by unfold BoxC at *; rw [hb, h]
theorem BoxC.lt {t : TypeId} {w : World} {B : Nat} {c : List Value} (h : BoxC t w B c) : B < w.heap.size := (Array.getElem?_eq_some_iff.1 h).1
theorem BoxC.lift {t : TypeId} {w w' : World} {B : Nat} {c : List Value} (h : BoxC t w B c) (hb : Below w.heap.size w w') : BoxC t w' B c := h.kept (hb.block _ h.lt)
theorem BoxC.grown {t : TypeId} {w w' : World} {B : Nat} {c : List Value} {row : Option Nat} (h : BoxC t w B c) (hg : w.grownBy w' row) (hne : some B ≠ row) : BoxC t w' B c := h.kept (hg.block _ h.lt hne)
theorem BoxC.made (t : TypeId) (w : World) (c : List Value) : BoxC t (w.alloc (.cells c.toArray t)) w.heap.size c := heap_alloc_new w _
theorem BoxC.cell {t : TypeId} {w : World} {B : Nat} {c : List Value} (h : BoxC t w B c) (m : Nat) (u : Value) (hu : c[m]? = some u) : w.cell? ⟨B, m, none⟩ = some u := by
  unfold BoxC at h
  simp [World.cell?, h, hu]
theorem BoxC.free {t : TypeId} {w : World} {B : Nat} {c : List Value} (h : BoxC t w B c) (m : Nat) : w.frozen? ⟨B, m, none⟩ = false := by
  unfold BoxC at h
  simp [World.frozen?, h]
theorem BoxC.set {t : TypeId} {w : World} {B : Nat} {c : List Value} (h : BoxC t w B c) (m : Nat) (v : Value) :
    BoxC t (w.setCell ⟨B, m, none⟩ v) B (c.set m v) ∧ w.grownBy (w.setCell ⟨B, m, none⟩ v) (some B) ∧ (w.setCell ⟨B, m, none⟩ v).heap.size = w.heap.size := by
  obtain ⟨h1, h2⟩ := set1 h m v
  refine ⟨?_, h2⟩
  unfold BoxC
  rw [h1]
  simp
theorem BoxC.row {t : TypeId} {w : World} {B : Nat} {c : List Value} (h : BoxC t w B c) (c' : List Value) :
    BoxC t (w.setRow B c'.toArray) B c' ∧ w.grownBy (w.setRow B c'.toArray) (some B) ∧ (w.setRow B c'.toArray).heap.size = w.heap.size := by
  refine ⟨?_, ⟨rfl, rfl, rfl, by simp [World.setRow], fun k _ hk => ?_⟩, by simp [World.setRow]⟩
  · unfold BoxC at *
    simp [World.setRow, Array.getElem?_modify, h]
  · have hne : ¬ B = k := fun e => hk (by rw [e])
    simp [World.setRow, Array.getElem?_modify, hne]
/-- A whole struct is stored into its block. -/
theorem wpList_storeC {t : TypeId} {w : World} {ops : Array Oper} {rest : List Oper} {o : Oper} {a : Act} {Q : Exit → Act → World → Prop} (hgd : o.guard = none) (p x : Operand) (ho : o.op = Op.store t p x)
    (B : Nat) (c c' : List Value) (hB : BoxC t w B c) (hp : a.eval p = .pointer (some ⟨B, 0, none⟩)) (hx : a.eval x = .agg c'.toArray) (hi : (Tryd.prog.info? t).map (·.size) = some c'.length) (hl : c.length = c'.length) (h1 : ∀ u ∈ c', u.oneCell' = true)
    (hK : ∀ w', BoxC t w' B c' → w.grownBy w' (some B) → w'.heap.size = w.heap.size → wpList Tryd.prog ops Q rest (a.put o.dst undef) w') :
    wpList Tryd.prog ops Q (o :: rest) a w := by
  refine wpList_store_row hgd t p x ho B c'.toArray hp hx t c.toArray hB (by simpa using hi) (by simpa using hl) (Array.all_eq_true_iff_forall_mem.2 fun v hv => h1 v (by simpa using hv)) ?_
  obtain ⟨h1, h2, h3⟩ := hB.row c'
  exact hK _ h1 h2 h3
theorem sizeEx : (Tryd.prog.info? 37).map (·.size) = some 11 := by
  obtain ⟨i, h0, h1, h2, h3⟩ := info_parts elInfo_ex
  rw [h0]; simp [h2]
def zExC : List Value := [.int .i64 0, .int .i64 0, .string ⟨#[]⟩, .int .i64 0, .slice none 0 0, .slice none 0 0, .int .i64 0, .string ⟨#[]⟩, .int .i64 0, .int .i64 0, .slice none 0 0]
def zTyC : List Value := [.int .i64 0, .string ⟨#[]⟩, .int .i64 0, .int .i64 0, .slice none 0 0]
theorem rep_zTy (w : World) (S : Nat → Prop) : Rep w S zTy (.agg zTyC.toArray) := rep_leaf w S 0 ⟨#[]⟩ 0 0 (Nat.zero_le _)
theorem repE_leaf (w : World) (S : Nat → Prop) (k p : Int) (n : ByteArray) (m : Int) (hn : n.size ≤ maxLen) : RepE w S (.mk k p n m zTy [] []) [.int .i64 k, .int .i64 p, .string n, .int .i64 m, .slice none 0 0, .slice none 0 0, .int .i64 0, .string ⟨#[]⟩, .int .i64 0, .int .i64 0, .slice none 0 0] :=
  RepE.close hn (slG_nil ExE w S) (slG_nil AmE w S) (rep_zTy w S)
end Go.Proofs.YtfkbifbodpelmaaDoor

/- The package's reader of expressions: errors.Is, its memory, what each small method does. -/
namespace Go.Proofs.YtfkbifbodpelmaaDoor
open Go.RowKit Go.Maps Mth Go.Extern.Stop Go.Stop Go.Extern

/-! errors.Is at the package's own error. -/
/-- What the next token is, as the reader sees it. -/
def yK (ts : List Tok) (s : St) : Int := if s.bad then 0 else tkK ts s.i
def yT (ts : List Tok) (s : St) : ByteArray := if s.bad then ⟨#[]⟩ else txt ts s.i
def yP (ts : List Tok) (s : St) : Int := if s.bad then 0 else tkP ts s.i
def yExp (ts : List Tok) (s : St) (fits : Bool) : St := if fits then xStep s else xFail ts s
def yM (ts : List Tok) (s : St) (t : ByteArray) : Bool := yK ts s == 5 && (yT ts s).toList == t.toList
def yW (ts : List Tok) (s : St) (t : ByteArray) : Bool := yK ts s == 4 && (yT ts s).toList == t.toList
def stB (k : Int) (x : ByteArray) : Bool := k == 1 || k == 2 || k == 3 || (k == 5 && x.toList == (⟨#[63]⟩ : ByteArray).toList) || (k == 5 && x.toList == (⟨#[40]⟩ : ByteArray).toList) || (k == 5 && x.toList == (⟨#[123]⟩ : ByteArray).toList)
end Go.Proofs.YtfkbifbodpelmaaDoor

/- The package's reader of expressions: token, skip, fail, unexpected. -/
namespace Go.Proofs.YtfkbifbodpelmaaDoor
open Go.RowKit Go.Maps Mth

/-- What fail makes of a state. -/
def yFl (s : St) (p : Int) : St := if s.bad then s else ⟨s.i, true, p⟩
end Go.Proofs.YtfkbifbodpelmaaDoor

/- The package's reader of expressions: the end, the unexpected token, what is expected. -/
namespace Go.Proofs.YtfkbifbodpelmaaDoor
open Go.RowKit Go.Maps Mth

end Go.Proofs.YtfkbifbodpelmaaDoor
