import Derived.Test.YtgcefodgjhlbeaaGreatDoorCA1
import Derived.Laws.Tables
import Derived.Test.YtgcefodgjhlbeaaGreatDoorCA4
import Derived.LaidEql
import Derived.Stop.Asserts
import Derived.RowKitTokens
/- Expressions as trees, and what it means that cells stand for a tree. -/
namespace Go.Proofs.YtgcefodgjhlbeaaGreatDoor
open Go.RowKit Mth

/-- What an arm says besides its body. -/
structure AH where
  pos : Int
  con : ByteArray
  vars : List ByteArray
/-- An expression: its kind, its place, its name, its number, its type, its kids, its arms. -/
inductive Ex where
  | mk (k p : Int) (n : ByteArray) (m : Int) (t : Ty) (kids : List Ex) (arms : List (AH × Ex))
def Ex.k : Ex → Int | .mk k _ _ _ _ _ _ => k
def Ex.p : Ex → Int | .mk _ p _ _ _ _ _ => p
def Ex.n : Ex → ByteArray | .mk _ _ n _ _ _ _ => n
def Ex.m : Ex → Int | .mk _ _ _ m _ _ _ => m
def Ex.t : Ex → Ty | .mk _ _ _ _ t _ _ => t
def Ex.kids : Ex → List Ex | .mk _ _ _ _ _ l _ => l
def Ex.arms : Ex → List (AH × Ex) | .mk _ _ _ _ _ _ l => l
def zTy : Ty := .mk 0 ⟨#[]⟩ 0 0 []
def zEx : Ex := .mk 0 0 ⟨#[]⟩ 0 zTy [] []
instance : Inhabited Ex := ⟨zEx⟩
theorem Ex.induct {P : Ex → Prop} (H : ∀ T : Ex, (∀ U ∈ T.kids, P U) → (∀ a ∈ T.arms, P a.2) → P T) (T : Ex) : P T :=
  H T (fun U _ => Ex.induct H U) (fun a _ => Ex.induct H a.2)
termination_by SizeOf.sizeOf T
decreasing_by
  · rename_i h
    cases T with
    | mk k p n m t kids arms =>
      have := List.sizeOf_lt_of_mem h
      simp only [Ex.kids] at this
      simp only [Ex.mk.sizeOf_spec]
      omega
  · rename_i h
    cases T with
    | mk k p n m t kids arms =>
      have := List.sizeOf_lt_of_mem h
      simp only [Ex.arms] at this
      obtain ⟨a1, a2⟩ := a
      simp only [Prod.mk.sizeOf_spec] at this
      simp only [Ex.mk.sizeOf_spec]
      omega

/-- Cells one behind the other, from an offset of an address on. -/
def AtC (w : World) (ad : Addr) (o : Nat) (c : List Value) : Prop := ∀ (m : Nat) (u : Value), c[m]? = some u → w.cell? (ad.add (o + m)) = some u
theorem AtC.kept {w w' : World} {ad : Addr} {o : Nat} {c : List Value} (h : AtC w ad o c) (hw : ad.block < w.heap.size → w'.heap[ad.block]? = w.heap[ad.block]?) : AtC w' ad o c := fun m u hu => by
  have hlt := World.block_lt_of_cell? _ _ (h m u hu)
  rw [add_block] at hlt
  rw [World.cell?_of_block (w := w) (by rw [add_block]; exact hw hlt)]
  exact h m u hu
theorem AtC.lt {w : World} {ad : Addr} {o : Nat} {c : List Value} (h : AtC w ad o c) (hc : 0 < c.length) : ad.block < w.heap.size := by
  have := World.block_lt_of_cell? _ _ (h 0 _ (List.getElem?_eq_getElem hc))
  rwa [add_block] at this

/-- The cells stand for the expression; all blocks that they lead to are of S. -/
inductive RepE (w : World) (S : Nat → Prop) : Ex → List Value → Prop
  | mk (k p : Int) (n : ByteArray) (m : Int) (t : Ty) (kids : List Ex) (arms : List (AH × Ex)) (ka aa : Option Addr) (kc ac : Nat) (tc : List Value) (f g : Nat → List Value) (vv : Nat → Value)
      (hn : n.size ≤ maxLen) (ht : Rep w S t (.agg tc.toArray)) (hkc : kids.length ≤ kc ∧ kc ≤ maxLen) (hac : arms.length ≤ ac ∧ ac ≤ maxLen)
      (hk : ∀ j T, kids[j]? = some T → ∃ ad, ka = some ad ∧ S ad.block ∧ AtC w ad (j * 11) (f j)) (hkr : ∀ j T, kids[j]? = some T → RepE w S T (f j))
      (ha : ∀ j A, arms[j]? = some A → ∃ ad, aa = some ad ∧ S ad.block ∧ AtC w ad (j * 14) (.int .i64 A.1.pos :: .string A.1.con :: vv j :: g j) ∧ SlG StrE w S A.1.vars (vv j))
      (har : ∀ j A, arms[j]? = some A → RepE w S A.2 (g j)) :
      RepE w S (.mk k p n m t kids arms) (.int .i64 k :: .int .i64 p :: .string n :: .int .i64 m :: .slice ka kids.length kc :: .slice aa arms.length ac :: tc)
theorem RepE.len {w : World} {S : Nat → Prop} {T : Ex} {c : List Value} (h : RepE w S T c) : c.length = 11 ∧ ∀ u ∈ c, u.oneCell' = true := by
  cases h with
  | mk k p n m t kids arms ka aa kc ac tc f g vv hn ht hkc hac hk hkr ha har =>
    obtain ⟨h1, h2⟩ := Rep.cells ht
    refine ⟨by simp [h1], fun u hu => ?_⟩
    simp at hu
    rcases hu with h | h | h | h | h | h | h
    all_goals first | (subst h; rfl) | exact h2 u h
theorem RepE.kept {w w' : World} {S S' : Nat → Prop} (hS : ∀ b, S b → S' b) (hw : ∀ b, S b → b < w.heap.size → w'.heap[b]? = w.heap[b]?) {T : Ex} {c : List Value} (h : RepE w S T c) : RepE w' S' T c := by
  induction h with
  | mk k p n m t kids arms ka aa kc ac tc f g vv hn ht hkc hac hk hkr ha har ih1 ih2 =>
    refine .mk k p n m t kids arms ka aa kc ac tc f g vv hn (ht.kept hS hw) hkc hac (fun j T hj => ?_) ih1 (fun j A hj => ?_) ih2
    · obtain ⟨ad, h1, h2, h3⟩ := hk j T hj
      exact ⟨ad, h1, hS _ h2, h3.kept (hw _ h2)⟩
    · obtain ⟨ad, h1, h2, h3, h4⟩ := ha j A hj
      exact ⟨ad, h1, hS _ h2, h3.kept (hw _ h2), h4.kept hS hw⟩
theorem RepE.bound {w : World} {S : Nat → Prop} {T : Ex} {c : List Value} (h : RepE w S T c) : RepE w (fun b => S b ∧ b < w.heap.size) T c := by
  induction h with
  | mk k p n m t kids arms ka aa kc ac tc f g vv hn ht hkc hac hk hkr ha har ih1 ih2 =>
    refine .mk k p n m t kids arms ka aa kc ac tc f g vv hn ht.bound hkc hac (fun j T hj => ?_) ih1 (fun j A hj => ?_) ih2
    · obtain ⟨ad, h1, h2, h3⟩ := hk j T hj
      exact ⟨ad, h1, ⟨h2, h3.lt (by rw [(RepE.len (hkr j T hj)).1]; omega)⟩, h3⟩
    · obtain ⟨ad, h1, h2, h3, h4⟩ := ha j A hj
      exact ⟨ad, h1, ⟨h2, h3.lt (by simp)⟩, h3, h4.bound⟩
theorem RepE.lift {w w' : World} {S : Nat → Prop} {T : Ex} {c : List Value} (h : RepE w S T c) (hb : Below w.heap.size w w') : RepE w' S T c := h.kept (fun _ h => h) (fun b _ hl => hb.block b hl)
theorem RepE.imp {w : World} {S S' : Nat → Prop} (hS : ∀ b, S b → S' b) {T : Ex} {c : List Value} (h : RepE w S T c) : RepE w S' T c := h.kept hS fun _ _ _ => rfl

theorem elInfo_ex : (Tryz.prog.info? 34).map (fun i => (i.zero, i.size, i.bytes)) = some (some (.agg #[.int .i64 0, .int .i64 0, .string ByteArray.empty, .int .i64 0, .slice none 0 0, .slice none 0 0, .int .i64 0, .string ByteArray.empty, .int .i64 0, .int .i64 0, .slice none 0 0]), 11, 152) := by kernel_rfl
theorem elInfo_am : (Tryz.prog.info? 61).map (fun i => (i.zero, i.size, i.bytes)) = some (some (.agg #[.int .i64 0, .string ByteArray.empty, .slice none 0 0, .int .i64 0, .int .i64 0, .string ByteArray.empty, .int .i64 0, .slice none 0 0, .slice none 0 0, .int .i64 0, .string ByteArray.empty, .int .i64 0, .int .i64 0, .slice none 0 0]), 14, 200) := by kernel_rfl
/-- Expressions as elements. -/
def ExE : El Ex where
  k := 11
  by_ := 152
  e := 34
  t := 28
  rep := RepE
  hk := by decide
  und := Tryz.underlying28
  info := by obtain ⟨i, h0, h1, h2, h3⟩ := info_parts elInfo_ex; exact ⟨i, _, h0, h1, h2, h3, rfl⟩
  hby := by decide
  len h := h.len
  kept h1 h2 h := h.kept h1 h2
  bound h := h.bound
/-- Arms as elements. -/
def AmE : El (AH × Ex) where
  k := 14
  by_ := 200
  e := 61
  t := 29
  rep w S x c := ∃ vv cb, c = .int .i64 x.1.pos :: .string x.1.con :: vv :: cb ∧ SlG StrE w S x.1.vars vv ∧ RepE w S x.2 cb
  hk := by decide
  und := Tryz.underlying29
  info := by obtain ⟨i, h0, h1, h2, h3⟩ := info_parts elInfo_am; exact ⟨i, _, h0, h1, h2, h3, rfl⟩
  hby := by decide
  len h := by
    obtain ⟨vv, cb, rfl, h1, h2⟩ := h
    obtain ⟨a, c, rfl, -⟩ := h1.slice
    obtain ⟨h3, h4⟩ := h2.len
    refine ⟨by simp [h3], fun u hu => ?_⟩
    simp at hu
    rcases hu with h | h | h | h
    all_goals first | (subst h; rfl) | exact h4 u h
  kept h1 h2 h := by
    obtain ⟨vv, cb, e, hf, hr⟩ := h
    exact ⟨vv, cb, e, hf.kept h1 h2, hr.kept h1 h2⟩
  bound h := by
    obtain ⟨vv, cb, e, hf, hr⟩ := h
    exact ⟨vv, cb, e, hf.bound, hr.bound⟩
theorem RepE.open {w : World} {S : Nat → Prop} {T : Ex} {c : List Value} (h : RepE w S T c) :
    ∃ kv av tc, c = .int .i64 T.k :: .int .i64 T.p :: .string T.n :: .int .i64 T.m :: kv :: av :: tc ∧ T.n.size ≤ maxLen ∧ SlG ExE w S T.kids kv ∧ SlG AmE w S T.arms av ∧ Rep w S T.t (.agg tc.toArray) := by
  cases h with
  | mk k p n m t kids arms ka aa kc ac tc f g vv hn ht hkc hac hk hkr ha har =>
    refine ⟨_, _, tc, rfl, hn, ⟨ka, kc, rfl, hkc, fun j T hj => ?_⟩, ⟨aa, ac, rfl, hac, fun j A hj => ?_⟩, ht⟩
    · obtain ⟨ad, h1, h2, h3⟩ := hk j T hj
      exact ⟨ad, f j, h1, h2, h3, hkr j T hj⟩
    · obtain ⟨ad, h1, h2, h3, h4⟩ := ha j A hj
      exact ⟨ad, _, h1, h2, h3, vv j, g j, rfl, h4, har j A hj⟩
theorem RepE.close {w : World} {S : Nat → Prop} {k p : Int} {n : ByteArray} {m : Int} {t : Ty} {kids : List Ex} {arms : List (AH × Ex)} {kv av : Value} {tc : List Value} (hn : n.size ≤ maxLen)
    (h1 : SlG ExE w S kids kv) (h2 : SlG AmE w S arms av) (h3 : Rep w S t (.agg tc.toArray)) : RepE w S (.mk k p n m t kids arms) (.int .i64 k :: .int .i64 p :: .string n :: .int .i64 m :: kv :: av :: tc) := by
  obtain ⟨ka, kc, rfl, hkc, hk⟩ := h1
  obtain ⟨aa, ac, rfl, hac, ha⟩ := h2
  have hx : ∀ j, ∃ c : List Value, ∀ T, kids[j]? = some T → ∃ ad, ka = some ad ∧ S ad.block ∧ AtC w ad (j * 11) c ∧ RepE w S T c := by
    intro j
    cases hT : kids[j]? with
    | none => exact ⟨[], fun T h => by cases h⟩
    | some T0 =>
      obtain ⟨ad, c, h1, h2, h3, h4⟩ := hk j T0 hT
      exact ⟨c, fun T h => by cases h; exact ⟨ad, h1, h2, h3, h4⟩⟩
  have hy : ∀ j, ∃ (vv : Value) (c : List Value), ∀ A, arms[j]? = some A → ∃ ad, aa = some ad ∧ S ad.block ∧ AtC w ad (j * 14) (.int .i64 A.1.pos :: .string A.1.con :: vv :: c) ∧ SlG StrE w S A.1.vars vv ∧ RepE w S A.2 c := by
    intro j
    cases hA : arms[j]? with
    | none => exact ⟨.nilIface, [], fun A h => by cases h⟩
    | some A0 =>
      obtain ⟨ad, c, h1, h2, h3, vv, cb, rfl, h5, h6⟩ := ha j A0 hA
      exact ⟨vv, cb, fun A h => by cases h; exact ⟨ad, h1, h2, h3, h5, h6⟩⟩
  have hf := fun j => Classical.choose_spec (hx j)
  have hg := fun j => Classical.choose_spec (Classical.choose_spec (hy j))
  refine .mk k p n m t kids arms ka aa kc ac tc (fun j => Classical.choose (hx j)) (fun j => Classical.choose (Classical.choose_spec (hy j))) (fun j => Classical.choose (hy j)) hn h3 hkc hac (fun j T hT => ?_) (fun j T hT => ?_) (fun j A hA => ?_) (fun j A hA => ?_)
  · obtain ⟨ad, h1, h2, h3, _⟩ := hf j T hT
    exact ⟨ad, h1, h2, h3⟩
  · obtain ⟨_, _, _, _, h⟩ := hf j T hT
    exact h
  · obtain ⟨ad, h1, h2, h3, h4, _⟩ := hg j A hA
    exact ⟨ad, h1, h2, h3, h4⟩
  · obtain ⟨_, _, _, _, _, h⟩ := hg j A hA
    exact h
/-- The eleven cells, written out. -/
theorem RepE.form {w : World} {S : Nat → Prop} {T : Ex} {c : List Value} (h : RepE w S T c) :
    ∃ ka kc aa ac tk tn ti th ta tl tcap, c = [.int .i64 T.k, .int .i64 T.p, .string T.n, .int .i64 T.m, .slice ka T.kids.length kc, .slice aa T.arms.length ac, .int .i64 tk, .string tn, .int .i64 ti, .int .i64 th, .slice ta tl tcap] := by
  obtain ⟨kv, av, tc, rfl, -, h1, h2, h3⟩ := h.open
  obtain ⟨ka, kc, rfl, -⟩ := h1.slice
  obtain ⟨aa, ac, rfl, -⟩ := h2.slice
  obtain ⟨k, n, i, hm, s, -, hv, -, a, cap, rfl, -⟩ := h3.open
  have : tc = [.int .i64 k, .string n, .int .i64 i, .int .i64 hm, .slice a T.t.ts.length cap] := by simpa using hv
  subst this
  exact ⟨_, _, _, _, _, _, _, _, _, _, _, rfl⟩

/-! A struct in a block of its own. -/
/-- Block B is a struct with these cells. -/
def BoxC (t : TypeId) (w : World) (B : Nat) (c : List Value) : Prop := w.heap[B]? = some (.cells c.toArray t (0, 0))
theorem BoxC.kept {t : TypeId} {w w' : World} {B : Nat} {c : List Value} (h : BoxC t w B c) (hb : w'.heap[B]? = w.heap[B]?) : BoxC t w' B c := by unfold BoxC at *; rw [hb, h]
theorem BoxC.lt {t : TypeId} {w : World} {B : Nat} {c : List Value} (h : BoxC t w B c) : B < w.heap.size := (Array.getElem?_eq_some_iff.1 h).1
theorem BoxC.lift {t : TypeId} {w w' : World} {B : Nat} {c : List Value} (h : BoxC t w B c) (hb : Below w.heap.size w w') : BoxC t w' B c := h.kept (hb.block _ h.lt)
theorem BoxC.grown {t : TypeId} {w w' : World} {B : Nat} {c : List Value} {row : Option Nat} (h : BoxC t w B c) (hg : w.grownBy w' row) (hne : some B ≠ row) : BoxC t w' B c := h.kept (hg.block _ h.lt hne)
theorem BoxC.made (t : TypeId) (w : World) (c : List Value) : BoxC t (w.alloc (.cells c.toArray t)) w.heap.size c := heap_alloc_new w _
theorem BoxC.cell {t : TypeId} {w : World} {B : Nat} {c : List Value} (h : BoxC t w B c) (m : Nat) (u : Value) (hu : c[m]? = some u) : w.cell? ⟨B, m, none⟩ = some u := by
  unfold BoxC at h
  simp [World.cell?, h, hu]
theorem BoxC.free {t : TypeId} {w : World} {B : Nat} {c : List Value} (h : BoxC t w B c) (m : Nat) : w.frozen? ⟨B, m, none⟩ = false := by
  unfold BoxC at h
  simp [World.frozen?, h]
theorem BoxC.set {t : TypeId} {w : World} {B : Nat} {c : List Value} (h : BoxC t w B c) (m : Nat) (v : Value) :
    BoxC t (w.setCell ⟨B, m, none⟩ v) B (c.set m v) ∧ w.grownBy (w.setCell ⟨B, m, none⟩ v) (some B) ∧ (w.setCell ⟨B, m, none⟩ v).heap.size = w.heap.size := by
  obtain ⟨h1, h2⟩ := set1 h m v
  refine ⟨?_, h2⟩
  unfold BoxC
  rw [h1]
  simp
theorem BoxC.row {t : TypeId} {w : World} {B : Nat} {c : List Value} (h : BoxC t w B c) (c' : List Value) :
    BoxC t (w.setRow B c'.toArray) B c' ∧ w.grownBy (w.setRow B c'.toArray) (some B) ∧ (w.setRow B c'.toArray).heap.size = w.heap.size := by
  refine ⟨?_, ⟨rfl, rfl, rfl, by simp [World.setRow], fun k _ hk => ?_⟩, by simp [World.setRow]⟩
  · unfold BoxC at *
    simp [World.setRow, Array.getElem?_modify, h]
  · have hne : ¬ B = k := fun e => hk (by rw [e])
    simp [World.setRow, Array.getElem?_modify, hne]
/-- A whole struct is stored into its block. -/
theorem wpList_storeC {t : TypeId} {w : World} {ops : Array Oper} {rest : List Oper} {o : Oper} {a : Act} {Q : Exit → Act → World → Prop} (hgd : o.guard = none) (p x : Operand) (ho : o.op = Op.store t p x)
    (B : Nat) (c c' : List Value) (hB : BoxC t w B c) (hp : a.eval p = .pointer (some ⟨B, 0, none⟩)) (hx : a.eval x = .agg c'.toArray) (hi : (Tryz.prog.info? t).map (·.size) = some c'.length) (hl : c.length = c'.length) (h1 : ∀ u ∈ c', u.oneCell' = true)
    (hK : ∀ w', BoxC t w' B c' → w.grownBy w' (some B) → w'.heap.size = w.heap.size → wpList Tryz.prog ops Q rest (a.put o.dst undef) w') :
    wpList Tryz.prog ops Q (o :: rest) a w := by
  refine wpList_store_row hgd t p x ho B c'.toArray hp hx t c.toArray hB (by simpa using hi) (by simpa using hl) (Array.all_eq_true_iff_forall_mem.2 fun v hv => h1 v (by simpa using hv)) ?_
  obtain ⟨h1, h2, h3⟩ := hB.row c'
  exact hK _ h1 h2 h3
theorem sizeEx : (Tryz.prog.info? 34).map (·.size) = some 11 := by
  obtain ⟨i, h0, h1, h2, h3⟩ := info_parts elInfo_ex
  rw [h0]; simp [h2]
theorem sizeAm : (Tryz.prog.info? 61).map (·.size) = some 14 := by
  obtain ⟨i, h0, h1, h2, h3⟩ := info_parts elInfo_am
  rw [h0]; simp [h2]
def zExC : List Value := [.int .i64 0, .int .i64 0, .string ⟨#[]⟩, .int .i64 0, .slice none 0 0, .slice none 0 0, .int .i64 0, .string ⟨#[]⟩, .int .i64 0, .int .i64 0, .slice none 0 0]
def zTyC : List Value := [.int .i64 0, .string ⟨#[]⟩, .int .i64 0, .int .i64 0, .slice none 0 0]
theorem rep_zTy (w : World) (S : Nat → Prop) : Rep w S zTy (.agg zTyC.toArray) := rep_leaf w S 0 ⟨#[]⟩ 0 0 (Nat.zero_le _)
theorem repE_leaf (w : World) (S : Nat → Prop) (k p : Int) (n : ByteArray) (m : Int) (hn : n.size ≤ maxLen) : RepE w S (.mk k p n m zTy [] []) [.int .i64 k, .int .i64 p, .string n, .int .i64 m, .slice none 0 0, .slice none 0 0, .int .i64 0, .string ⟨#[]⟩, .int .i64 0, .int .i64 0, .slice none 0 0] :=
  RepE.close hn (slG_nil ExE w S) (slG_nil AmE w S) (rep_zTy w S)
theorem repE_zero (w : World) (S : Nat → Prop) : RepE w S zEx zExC := repE_leaf w S 0 0 ⟨#[]⟩ 0 (Nat.zero_le _)
end Go.Proofs.YtgcefodgjhlbeaaGreatDoor

/- The package's reader of expressions: errors.Is, its memory, what each small method does. -/
namespace Go.Proofs.YtgcefodgjhlbeaaGreatDoor
open Go.RowKit Go.Maps Mth Go.Extern.Stop Go.Stop Go.Extern

/-! errors.Is at the package's own error. -/
theorem Tryz.isTypeOf (v : Value) (w : World) : (Extern.ReflectliteType.typeOf #[.iface 174 v]).run Tryz.prog w = .ok (.iface 132 (.agg #[.pointer (some ⟨7, 174, none⟩)])) w := by kernel_rfl
theorem Tryz.isComparable (w : World) : ((Extern.ReflectliteType.method fun t => do Extern.Rtype.noPackHeld "Comparable" t; (fun a => Value.bool a.comparable) <$> typeInfo t) #[.agg #[.pointer (some ⟨7, 174, none⟩)]]).run Tryz.prog w = .ok (.bool true) w := by kernel_rfl
theorem Tryz.isMethodComparable (v : Value) (w : World) : (Go.method 336 132 v "Comparable").run Tryz.prog w = .ok (172, v) w := by kernel_rfl
theorem Tryz.isComp : (Tryz.prog.info? 174).map (·.comparable) = some true := by kernel_rfl
theorem Tryz.isSize : (Tryz.prog.info? 176).map (·.size) = some 1 := by kernel_rfl
set_option maxRecDepth 100000 in
set_option maxHeartbeats 1600000 in
theorem is_same (a : Addr) (w : World) :
    Calls Tryz.prog 47 #[.iface 174 (.pointer (some a)), .iface 174 (.pointer (some a))] w fun e w' => e = .returned (.bool true) ∧ w' = w := by
  obtain ⟨i, hi, hcmp⟩ := Option.map_eq_some_iff.1 Tryz.isComp
  obtain ⟨j, hj, hjs⟩ := Option.map_eq_some_iff.1 Tryz.isSize
  have h8 := @run_callFunc_extern Tryz.prog 81 _ Extern.ReflectliteType.typeOf Tryz.func81 (by kernel_rfl) (by kernel_rfl) (by kernel_rfl) (by kernel_rfl)
  have h32 := @run_callFunc_extern Tryz.prog 172 _ (Extern.ReflectliteType.method fun t => do Extern.Rtype.noPackHeld "Comparable" t; pure (.bool (← typeInfo t).comparable)) Tryz.func172 (by kernel_rfl) (by kernel_rfl) (by kernel_rfl) (by kernel_rfl)
  have tT := Tryz.isTypeOf
  have cT := Tryz.isComparable
  have mR := Tryz.isMethodComparable
  have heq := run_eql_iface_ptr_same (P := Tryz.prog) w a Tryz.underlying98 Tryz.underlying174 hi hcmp hj
  go_enter Tryz.func47, Tryz.ntmps47
  go_wp2
  refine wp_loop_rounds 1 ?_
  rw [rounds_succ]
  go_wp2
  go_ret
  exact ⟨rfl, rfl⟩
theorem is_nil (b : Addr) (w : World) :
    Calls Tryz.prog 47 #[.nilIface, .iface 174 (.pointer (some b))] w fun e w' => e = .returned (.bool false) ∧ w' = w := by
  have hn := run_eql_iface_nil_left (P := Tryz.prog) w 174 (.pointer (some b)) Tryz.underlying98
  go_enter Tryz.func47, Tryz.ntmps47
  go_wp2
  go_ret
  exact ⟨rfl, rfl⟩
/-- The package's error, where the variable points to a. -/
def EV (a : Addr) : Value := .iface 174 (.pointer (some a))
def erV (a : Addr) (q : Bool) : Value := if q then EV a else .nilIface
theorem is_any (a : Addr) (q : Bool) (w : World) : Calls Tryz.prog 47 #[erV a q, EV a] w fun e w' => e = .returned (.bool q) ∧ w' = w := by
  cases q
  · exact is_nil a w
  · exact is_same a w
/-- The two listed variables that are read. -/
structure G2 (ea : Addr) (w : World) : Prop where
  gl : Gl w
  un : w.cell? ⟨0, 0, none⟩ = some (EV ea)
theorem G2.lift {ea : Addr} {w w' : World} (h : G2 ea w) (hb : Below w.heap.size w w') : G2 ea w' :=
  ⟨h.gl.lift hb, by rw [hb.cell (p := ⟨0, 0, none⟩) (World.block_lt_of_cell? _ _ h.un)]; exact h.un⟩
theorem G2.grown {ea : Addr} {w w' : World} {b : Nat} (h : G2 ea w) (hb : 3 < b) (hg : w.grownBy w' (some b)) : G2 ea w' :=
  ⟨h.gl.grown (by omega) hg, hg.cell h.un (by intro e; have := Option.some.inj e; simp at this; omega)⟩

/-- The package's reader in its block, in a state. -/
def RdY (ea : Addr) (w : World) (b : Nat) (ts : List Tok) (s : St) : Prop :=
  ∃ lv, w.heap[b]? = some (.cells #[lv, .int .i64 s.i, erV ea s.bad, .int .i64 s.p] 100 (0, 0)) ∧ TokAt w (fun g => g < b) lv ts ∧ s.i ≤ ts.length ∧ TkOk ts ∧ G2 ea w ∧ 3 < b
theorem RdY.lift {ea : Addr} {w w' : World} {b : Nat} {ts : List Tok} {s : St} (h : RdY ea w b ts s) (hb : Below w.heap.size w w') : RdY ea w' b ts s := by
  obtain ⟨lv, h1, h2, h3, h4, h5, h6⟩ := h
  refine ⟨lv, ?_, h2.lift hb, h3, h4, h5.lift hb, h6⟩
  rw [hb.block _ (Array.getElem?_eq_some_iff.1 h1).1, h1]
theorem RdY.other {ea : Addr} {w w' : World} {b R : Nat} {ts : List Tok} {s : St} (h : RdY ea w b ts s) (hR : b < R) (hg : w.grownBy w' (some R)) : RdY ea w' b ts s := by
  obtain ⟨lv, h1, h2, h3, h4, h5, h6⟩ := h
  refine ⟨lv, ?_, h2.grown (fun g hg => by omega) hg, h3, h4, h5.grown (by omega) hg, h6⟩
  rw [hg.block b (Array.getElem?_eq_some_iff.1 h1).1 (by intro e; have := Option.some.inj e; omega), h1]
theorem RdY.lt {ea : Addr} {w : World} {b : Nat} {ts : List Tok} {s : St} (h : RdY ea w b ts s) : b < w.heap.size := by
  obtain ⟨lv, h1, _⟩ := h
  exact (Array.getElem?_eq_some_iff.1 h1).1
theorem RdY.le {ea : Addr} {w : World} {b : Nat} {ts : List Tok} {s : St} (h : RdY ea w b ts s) : s.i ≤ ts.length ∧ ts.length ≤ 100000 := by
  obtain ⟨lv, _, _, h3, h4, _⟩ := h
  exact ⟨h3, h4.1⟩
theorem RdY.ok {ea : Addr} {w : World} {b : Nat} {ts : List Tok} {s : St} (h : RdY ea w b ts s) : TkOk ts := by
  obtain ⟨lv, _, _, _, h4, _⟩ := h
  exact h4
theorem RdY.g2 {ea : Addr} {w : World} {b : Nat} {ts : List Tok} {s : St} (h : RdY ea w b ts s) : G2 ea w := by
  obtain ⟨lv, _, _, _, _, h5, _⟩ := h
  exact h5
theorem RdY.cells {ea : Addr} {w : World} {b : Nat} {ts : List Tok} {s : St} (h : RdY ea w b ts s) :
    ∃ a cap, (w.cell? ⟨b, 0, none⟩ = some (.slice a ts.length cap) ∧ w.cell? ⟨b, 1, none⟩ = some (.int .i64 s.i) ∧ w.cell? ⟨b, 2, none⟩ = some (erV ea s.bad) ∧ w.cell? ⟨b, 3, none⟩ = some (.int .i64 s.p)) ∧
      (w.frozen? ⟨b, 1, none⟩ = false ∧ w.frozen? ⟨b, 2, none⟩ = false ∧ w.frozen? ⟨b, 3, none⟩ = false) ∧ (ts.length ≤ cap ∧ cap ≤ maxLen) ∧ TokAt w (fun g => g < b) (.slice a ts.length cap) ts := by
  obtain ⟨lv, h1, h2, h3⟩ := h
  obtain ⟨a, cap, rfl, hcap, hc⟩ := h2
  refine ⟨a, cap, ?_, ?_, hcap, a, cap, rfl, hcap, hc⟩
  · simp [World.cell?, h1]
  · simp [World.frozen?, h1]
/-- One field is stored. -/
theorem RdY.set {ea : Addr} {w : World} {b : Nat} {ts : List Tok} {s : St} (h : RdY ea w b ts s) (i : Nat) (hi : i ≤ ts.length) : RdY ea (w.setCell ⟨b, 1, none⟩ (.int .i64 (i : Int))) b ts ⟨i, s.bad, s.p⟩ ∧ w.grownBy (w.setCell ⟨b, 1, none⟩ (.int .i64 (i : Int))) (some b) := by
  obtain ⟨lv, h1, h2, h3, h4, h5, h6⟩ := h
  have hset := set1 h1 1 (.int .i64 (i : Int))
  refine ⟨⟨lv, ?_, h2.grown (fun g hg => by omega) hset.2.1, hi, h4, h5.grown h6 hset.2.1, h6⟩, hset.2.1⟩
  rw [hset.1]
  simp
theorem RdY.setErr {ea : Addr} {w : World} {b : Nat} {ts : List Tok} {s : St} (h : RdY ea w b ts s) (p : Int) :
    RdY ea ((w.setCell ⟨b, 2, none⟩ (EV ea)).setCell ⟨b, 3, none⟩ (.int .i64 p)) b ts ⟨s.i, true, p⟩ ∧ w.grownBy ((w.setCell ⟨b, 2, none⟩ (EV ea)).setCell ⟨b, 3, none⟩ (.int .i64 p)) (some b) := by
  obtain ⟨lv, h1, h2, h3, h4, h5, h6⟩ := h
  have hset := set1 h1 2 (EV ea)
  have hset2 := set1 hset.1 3 (.int .i64 p)
  have hg := grown_trans hset.2.1 hset2.2.1
  refine ⟨⟨lv, ?_, h2.grown (fun g hg => by omega) hg, h3, h4, h5.grown h6 hg, h6⟩, hg⟩
  rw [hset2.1]
  simp [erV]
/-- What a method has done that leaves the reader in a state. -/
def YEnd (ea : Addr) (w : World) (b : Nat) (ts : List Tok) (s : St) (v : Value) (e : Ending) (w' : World) : Prop := e = .returned v ∧ RdY ea w' b ts s ∧ w.grownBy w' (some b)

/-- What the next token is, as the reader sees it. -/
def yK (ts : List Tok) (s : St) : Int := if s.bad then 0 else tkK ts s.i
def yT (ts : List Tok) (s : St) : ByteArray := if s.bad then ⟨#[]⟩ else txt ts s.i
def yP (ts : List Tok) (s : St) : Int := if s.bad then 0 else tkP ts s.i
def yExp (ts : List Tok) (s : St) (fits : Bool) : St := if fits then xStep s else xFail ts s
def yM (ts : List Tok) (s : St) (t : ByteArray) : Bool := yK ts s == 5 && (yT ts s).toList == t.toList
def yW (ts : List Tok) (s : St) (t : ByteArray) : Bool := yK ts s == 4 && (yT ts s).toList == t.toList
def stB (k : Int) (x : ByteArray) : Bool := k == 1 || k == 2 || k == 3 || (k == 5 && x.toList == (⟨#[63]⟩ : ByteArray).toList) || (k == 5 && x.toList == (⟨#[40]⟩ : ByteArray).toList) || (k == 5 && x.toList == (⟨#[123]⟩ : ByteArray).toList)
theorem yK_lt {ts : List Tok} {s : St} (h : yK ts s ≠ 0) : s.bad = false ∧ s.i < ts.length := by
  unfold yK at h
  obtain ⟨i, q, p⟩ := s
  cases q
  · refine ⟨rfl, ?_⟩
    simp only [Bool.false_eq_true, if_false] at h
    unfold tkK at h
    cases ht : ts[i]? with
    | none => rw [ht] at h; simp at h
    | some t => exact (List.getElem?_eq_some_iff.1 ht).1
  · simp at h
theorem yM_lt {ts : List Tok} {s : St} {t : ByteArray} (h : yM ts s t = true) : s.bad = false ∧ s.i < ts.length := yK_lt (by
  unfold yM at h
  simp only [Bool.and_eq_true, beq_iff_eq] at h
  rw [h.1]; decide)
theorem yW_lt {ts : List Tok} {s : St} {t : ByteArray} (h : yW ts s t = true) : s.bad = false ∧ s.i < ts.length := yK_lt (by
  unfold yW at h
  simp only [Bool.and_eq_true, beq_iff_eq] at h
  rw [h.1]; decide)
theorem stB_lt {ts : List Tok} {s : St} (h : stB (yK ts s) (yT ts s) = true) : s.bad = false ∧ s.i < ts.length := yK_lt (by
  intro e
  unfold stB at h
  rw [e] at h
  simp at h)

theorem xMark_any (k : Int) (x : ByteArray) (p : Int) (s : ByteArray) (w : World) :
    Calls Tryz.prog 49 #[.agg #[.int .i64 k, .string x, .int .i64 p], .string s] w fun e w' => e = .returned (.bool (k == 5 && x.toList == s.toList)) ∧ Below w.heap.size w w' := by
  have hb : Below w.heap.size w (w.alloc (.cells #[.int .i64 k, .string x, .int .i64 p] 76)) := (Below.refl _ w).alloc (Nat.le_refl _) _
  have HB := Lib.hid hb
  clear hb
  cases h5 : (k == 5) <;> cases hs : (x.toList == s.toList)
  all_goals
    go_enter Tryz.func49, Tryz.ntmps49
    go_wp2
    go_ret
    exact ⟨rfl, HB.out⟩
theorem xWord_any (k : Int) (x : ByteArray) (p : Int) (s : ByteArray) (w : World) :
    Calls Tryz.prog 51 #[.agg #[.int .i64 k, .string x, .int .i64 p], .string s] w fun e w' => e = .returned (.bool (k == 4 && x.toList == s.toList)) ∧ Below w.heap.size w w' := by
  have hb : Below w.heap.size w (w.alloc (.cells #[.int .i64 k, .string x, .int .i64 p] 76)) := (Below.refl _ w).alloc (Nat.le_refl _) _
  have HB := Lib.hid hb
  clear hb
  cases h5 : (k == 4) <;> cases hs : (x.toList == s.toList)
  all_goals
    go_enter Tryz.func51, Tryz.ntmps51
    go_wp2
    go_ret
    exact ⟨rfl, HB.out⟩
set_option maxHeartbeats 1600000 in
theorem xStarts_any (k : Int) (x : ByteArray) (p : Int) (w : World) :
    Calls Tryz.prog 63 #[.agg #[.int .i64 k, .string x, .int .i64 p]] w fun e w' => e = .returned (.bool (stB k x)) ∧ Below w.heap.size w w' := by
  have hb : Below w.heap.size w (w.alloc (.cells #[.int .i64 k, .string x, .int .i64 p] 76)) := (Below.refl _ w).alloc (Nat.le_refl _) _
  have HB := Lib.hid hb
  have hn := tok_cells (heap_alloc_new w (.cells #[.int .i64 k, .string x, .int .i64 p] 76))
  have HN := Lib.hid hn
  have HA := Lib.hid (fun w => xMark_any k x p ⟨#[63]⟩ w)
  have HC := Lib.hid (fun w => xMark_any k x p ⟨#[40]⟩ w)
  have HD := Lib.hid (fun w => xMark_any k x p ⟨#[123]⟩ w)
  clear hb hn
  unfold stB
  generalize (k == 5 && x.toList == (⟨#[63]⟩ : ByteArray).toList) = m1 at *
  generalize (k == 5 && x.toList == (⟨#[40]⟩ : ByteArray).toList) = m2 at *
  generalize (k == 5 && x.toList == (⟨#[123]⟩ : ByteArray).toList) = m3 at *
  cases h1 : (k == 1)
  rotate_left
  · go_enter Tryz.func63, Tryz.ntmps63
    go_wp2
    go_ret
    exact ⟨rfl, HB.out⟩
  cases h2 : (k == 2)
  rotate_left
  · go_enter Tryz.func63, Tryz.ntmps63
    go_wp2
    go_ret
    exact ⟨rfl, HB.out⟩
  cases h3 : (k == 3)
  rotate_left
  · go_enter Tryz.func63, Tryz.ntmps63
    go_wp2
    go_ret
    exact ⟨rfl, HB.out⟩
  cases m1
  rotate_left
  · go_enter Tryz.func63, Tryz.ntmps63
    go_wp2_with (go_at_call 49; refine (HA.out _).mono ?_; rintro e w1 ⟨rfl, hb1⟩)
    go_ret
    exact ⟨rfl, HB.out.trans (hb1.mono HB.out.size)⟩
  cases m2
  rotate_left
  · go_enter Tryz.func63, Tryz.ntmps63
    go_upto_region 1 with fail
    generalize (w.alloc (.cells #[.int .i64 k, .string x, .int .i64 p] 76)) = V at *
    obtain ⟨⟨c0, c1, c2⟩, -⟩ := HN.out
    go_wp2_with fail
    go_at_call 49
    refine (HA.out _).mono ?_
    rintro e w1 ⟨rfl, hb1⟩
    have d0 := (hb1.cell (World.block_lt_of_cell? _ _ c0)).trans c0
    have d1 := (hb1.cell (World.block_lt_of_cell? _ _ c1)).trans c1
    have d2 := (hb1.cell (World.block_lt_of_cell? _ _ c2)).trans c2
    have HB1 := Lib.hid (HB.out.trans (hb1.mono HB.out.size))
    clear hb1 c0 c1 c2
    go_wp2_with (go_at_call 49; refine (HC.out _).mono ?_; rintro e w2 ⟨rfl, hb2⟩)
    go_ret
    exact ⟨rfl, HB1.out.trans (hb2.mono HB1.out.size)⟩
  · go_enter Tryz.func63, Tryz.ntmps63
    go_upto_region 1 with fail
    generalize (w.alloc (.cells #[.int .i64 k, .string x, .int .i64 p] 76)) = V at *
    obtain ⟨⟨c0, c1, c2⟩, -⟩ := HN.out
    go_wp2_with fail
    go_at_call 49
    refine (HA.out _).mono ?_
    rintro e w1 ⟨rfl, hb1⟩
    have d0 := (hb1.cell (World.block_lt_of_cell? _ _ c0)).trans c0
    have d1 := (hb1.cell (World.block_lt_of_cell? _ _ c1)).trans c1
    have d2 := (hb1.cell (World.block_lt_of_cell? _ _ c2)).trans c2
    have HB1 := Lib.hid (HB.out.trans (hb1.mono HB.out.size))
    clear hb1 c0 c1 c2
    go_wp2_with fail
    go_at_call 49
    refine (HC.out _).mono ?_
    rintro e w2 ⟨rfl, hb2⟩
    have e0 := (hb2.cell (World.block_lt_of_cell? _ _ d0)).trans d0
    have e1 := (hb2.cell (World.block_lt_of_cell? _ _ d1)).trans d1
    have e2 := (hb2.cell (World.block_lt_of_cell? _ _ d2)).trans d2
    have HB2 := Lib.hid (HB1.out.trans (hb2.mono HB1.out.size))
    clear hb2 d0 d1 d2
    go_wp2_with (go_at_call 49; refine (HD.out _).mono ?_; rintro e w3 ⟨rfl, hb3⟩)
    go_ret
    exact ⟨rfl, HB2.out.trans (hb3.mono HB2.out.size)⟩
end Go.Proofs.YtgcefodgjhlbeaaGreatDoor

/- The package's reader of expressions: token, skip, fail, unexpected. -/
namespace Go.Proofs.YtgcefodgjhlbeaaGreatDoor
open Go.RowKit Go.Maps Mth

set_option maxHeartbeats 3200000 in
theorem yTok_any (ea : Addr) (b : Nat) (ts : List Tok) (s : St) (w : World) (h : RdY ea w b ts s) :
    Calls Tryz.prog 48 #[.pointer (some ⟨b, 0, none⟩)] w fun e w' => e = .returned (.agg #[.int .i64 (yK ts s), .string (yT ts s), .int .i64 (yP ts s)]) ∧ Below w.heap.size w w' := by
  have hbl := h.lt
  obtain ⟨hi, hl⟩ := h.le
  have hb : Below w.heap.size w (w.alloc (.cells #[.int .i64 0, .string ⟨#[]⟩, .int .i64 0] 76)) := (Below.refl _ w).alloc (Nat.le_refl _) _
  have HP := Lib.hid (h.lift hb)
  have hn : (w.alloc (.cells #[.int .i64 0, .string ⟨#[]⟩, .int .i64 0] 76)).heap[w.heap.size]? = some (.cells #[.int .i64 0, .string ⟨#[]⟩, .int .i64 0] 76 (0, 0)) := heap_alloc_new w _
  have HN := Lib.hid hn
  have HB := Lib.hid hb
  clear h hb hn
  obtain ⟨i, q, p⟩ := s
  dsimp only at hi
  have HZ : Hid (∀ V2, Below w.heap.size w V2 → V2.heap[w.heap.size]? = some (.cells #[.int .i64 0, .string ⟨#[]⟩, .int .i64 0] 76 (0, 0)) →
      Below w.heap.size w (((V2.setCell ⟨w.heap.size, 0, none⟩ (.int .i64 0)).setCell ⟨w.heap.size, 1, none⟩ (.string ⟨#[]⟩)).setCell ⟨w.heap.size, 2, none⟩ (.int .i64 0)) ∧
      (((V2.setCell ⟨w.heap.size, 0, none⟩ (.int .i64 0)).setCell ⟨w.heap.size, 1, none⟩ (.string ⟨#[]⟩)).setCell ⟨w.heap.size, 2, none⟩ (.int .i64 0)).heap[w.heap.size]? = some (.cells #[.int .i64 0, .string ⟨#[]⟩, .int .i64 0] 76 (0, 0))) := fun V2 h1 h2 => by
    obtain ⟨h3, h4⟩ := setTok h2 (.int .i64 0) (.string ⟨#[]⟩) (.int .i64 0)
    exact ⟨Below.grown h1 h4 h1.size (fun k hk => by have := Option.some.inj hk; omega), h3⟩
  cases q with
  | true =>
    have HI := Lib.hid (is_any ea true)
    go_enter Tryz.func48, Tryz.ntmps48
    go_upto_region 1 with fail
    generalize (w.alloc (.cells #[.int .i64 0, .string ⟨#[]⟩, .int .i64 0] 76)) = V at *
    obtain ⟨a, cap, ⟨c0, c1, c2, c3⟩, -⟩ := HP.out.cells
    have g0 := HP.out.g2.un
    go_quiet ((go_at_call 47; exact Calls.quiet_of_same (HI.out _)))
    have hq : Below V.heap.size V (V.drewN nq) := below_drewN (Below.refl _ V) nq
    have HB2 := Lib.hid (HB.out.trans (hq.mono HB.out.size))
    have HN2 : Hid ((V.drewN nq).heap[w.heap.size]? = some (.cells #[.int .i64 0, .string ⟨#[]⟩, .int .i64 0] 76 (0, 0))) := by show _ = _; rw [hq.block _ (Array.getElem?_eq_some_iff.1 HN.out).1]; exact HN.out
    clear hq HP HB HN c0 c1 c2 c3 g0
    generalize V.drewN nq = V2 at *
    obtain ⟨⟨n0, n1, n2⟩, m0, m1, m2⟩ := tok_cells HN2.out
    have HF := Lib.hid (HZ.out V2 HB2.out HN2.out)
    go_wp2
    generalize (((V2.setCell ⟨w.heap.size, 0, none⟩ (.int .i64 0)).setCell ⟨w.heap.size, 1, none⟩ (.string ⟨#[]⟩)).setCell ⟨w.heap.size, 2, none⟩ (.int .i64 0)) = V3 at *
    clear n0 n1 n2 m0 m1 m2
    obtain ⟨⟨n0, n1, n2⟩, -⟩ := tok_cells HF.out.2
    refine bodyPost_ret (by simp [results, Tryz.results48, go_sem, n0, n1, n2]; try rfl) rfl ?_
    exact ⟨rfl, HF.out.1⟩
  | false =>
    have HI := Lib.hid (is_any ea false)
    by_cases hlt : i < ts.length
    · obtain ⟨t, ht⟩ : ∃ x, ts[i]? = some x := ⟨_, List.getElem?_eq_getElem hlt⟩
      have HE : Hid ((yK ts ⟨i, false, p⟩, yT ts ⟨i, false, p⟩, yP ts ⟨i, false, p⟩) = (t.kind, ⟨t.text.toArray⟩, (t.pos : Int))) := by show _ = _; unfold yK yT yP tkK txt tkP; simp only [ht]; rfl
      have HT := Lib.hid ht
      clear ht
      have hli : ((i : Int) == (ts.length : Int)) = false := by simp; omega
      have hlj : (i == ts.length) = false := by simp; omega
      have hlk : ((i : Int) < (ts.length : Int)) := by omega
      go_enter Tryz.func48, Tryz.ntmps48
      go_upto_region 1 with fail
      generalize (w.alloc (.cells #[.int .i64 0, .string ⟨#[]⟩, .int .i64 0] 76)) = V at *
      obtain ⟨a, cap, ⟨c0, c1, c2, c3⟩, -, hcap, hT⟩ := HP.out.cells
      have g0 := HP.out.g2.un
      clear hT
      go_quiet ((go_at_call 47; exact Calls.quiet_of_same (HI.out _)))
      have hq : Below V.heap.size V (V.drewN nq) := below_drewN (Below.refl _ V) nq
      have HP2 := Lib.hid (HP.out.lift hq)
      have HB2 := Lib.hid (HB.out.trans (hq.mono HB.out.size))
      have HN2 : Hid ((V.drewN nq).heap[w.heap.size]? = some (.cells #[.int .i64 0, .string ⟨#[]⟩, .int .i64 0] 76 (0, 0))) := by show _ = _; rw [hq.block _ (Array.getElem?_eq_some_iff.1 HN.out).1]; exact HN.out
      clear hq HP HB HN c0 c1 c2 c3 g0 hcap
      generalize V.drewN nq = V2 at *
      obtain ⟨a, cap, ⟨c0, c1, c2, c3⟩, -, hcap, hT⟩ := HP2.out.cells
      obtain ⟨a', cap', hv, -, hc⟩ := hT
      obtain ⟨g, ha, hg, d0, d1, d2⟩ := hc i t HT.out
      have hva : a = some ⟨g, 0, none⟩ := by simp at hv; rw [hv.1, ha]
      subst hva
      clear hc hv ha c2 c3
      obtain ⟨⟨n0, n1, n2⟩, m0, m1, m2⟩ := tok_cells HN2.out
      have hne : w.heap.size ≠ g := by omega
      have hne2 : w.heap.size ≠ b := by omega
      obtain ⟨hn3, hg3⟩ := setTok HN2.out (.int .i64 t.kind) (.string ⟨t.text.toArray⟩) (.int .i64 t.pos)
      have HN3 := Lib.hid hn3
      have HG3 := Lib.hid hg3
      clear hn3 hg3
      go_wp2
      go_region
      all_goals
        generalize (((V2.setCell ⟨w.heap.size, 0, none⟩ (.int .i64 t.kind)).setCell ⟨w.heap.size, 1, none⟩ (.string ⟨t.text.toArray⟩)).setCell ⟨w.heap.size, 2, none⟩ (.int .i64 t.pos)) = V3 at *
        clear c0 c1 d0 d1 d2 n0 n1 n2 m0 m1 m2
        obtain ⟨⟨n0, n1, n2⟩, -⟩ := tok_cells HN3.out
        have n0' : V3.drew.cell? ⟨w.heap.size, 0, none⟩ = some (.int .i64 t.kind) := n0
        have n1' : V3.drew.cell? ⟨w.heap.size, 1, none⟩ = some (.string ⟨t.text.toArray⟩) := n1
        have n2' : V3.drew.cell? ⟨w.heap.size, 2, none⟩ = some (.int .i64 t.pos) := n2
        go_wp2
        refine bodyPost_ret (by simp [results, Tryz.results48, go_sem, n0', n1', n2']; try rfl) rfl ?_
        have he := HE.out
        simp only [Prod.mk.injEq] at he
        obtain ⟨e1, e2, e3⟩ := he
        exact ⟨by rw [e1, e2, e3], (Below.grown HB2.out HG3.out HB2.out.size (fun k hk => by have := Option.some.inj hk; omega)).drew⟩
    · have hie : i = ts.length := by omega
      have HE : Hid ((yK ts ⟨i, false, p⟩, yT ts ⟨i, false, p⟩, yP ts ⟨i, false, p⟩) = ((0 : Int), (⟨#[]⟩ : ByteArray), (0 : Int))) := by show _ = _; unfold yK yT yP tkK txt tkP; simp only [List.getElem?_eq_none (show ts.length ≤ i by omega)]; rfl
      have hli : ((i : Int) == (ts.length : Int)) = true := by simp; omega
      have hlj : (i == ts.length) = true := by simp; omega
      clear hlt
      go_enter Tryz.func48, Tryz.ntmps48
      go_upto_region 1 with fail
      generalize (w.alloc (.cells #[.int .i64 0, .string ⟨#[]⟩, .int .i64 0] 76)) = V at *
      obtain ⟨a, cap, ⟨c0, c1, c2, c3⟩, -, hcap, hT⟩ := HP.out.cells
      have g0 := HP.out.g2.un
      clear hT hie
      go_quiet ((go_at_call 47; exact Calls.quiet_of_same (HI.out _)))
      have hq : Below V.heap.size V (V.drewN nq) := below_drewN (Below.refl _ V) nq
      have HB2 := Lib.hid (HB.out.trans (hq.mono HB.out.size))
      have HN2 : Hid ((V.drewN nq).heap[w.heap.size]? = some (.cells #[.int .i64 0, .string ⟨#[]⟩, .int .i64 0] 76 (0, 0))) := by show _ = _; rw [hq.block _ (Array.getElem?_eq_some_iff.1 HN.out).1]; exact HN.out
      clear hq HP HB HN c0 c1 c2 c3 g0 hcap
      generalize V.drewN nq = V2 at *
      obtain ⟨⟨n0, n1, n2⟩, m0, m1, m2⟩ := tok_cells HN2.out
      have HF := Lib.hid (HZ.out V2 HB2.out HN2.out)
      go_wp2
      generalize (((V2.setCell ⟨w.heap.size, 0, none⟩ (.int .i64 0)).setCell ⟨w.heap.size, 1, none⟩ (.string ⟨#[]⟩)).setCell ⟨w.heap.size, 2, none⟩ (.int .i64 0)) = V3 at *
      clear n0 n1 n2 m0 m1 m2
      obtain ⟨⟨n0, n1, n2⟩, -⟩ := tok_cells HF.out.2
      refine bodyPost_ret (by simp [results, Tryz.results48, go_sem, n0, n1, n2]; try rfl) rfl ?_
      have he := HE.out
      simp only [Prod.mk.injEq] at he
      obtain ⟨e1, e2, e3⟩ := he
      exact ⟨by rw [e1, e2, e3], HF.out.1⟩

set_option maxHeartbeats 1600000 in
theorem ySkip_any (ea : Addr) (b : Nat) (ts : List Tok) (s : St) (w : World) (h : RdY ea w b ts s) (hlt : s.i < ts.length) :
    Calls Tryz.prog 65 #[.pointer (some ⟨b, 0, none⟩)] w (YEnd ea w b ts (xStep s) (.int .i64 (tkP ts s.i))) := by
  obtain ⟨t, ht⟩ : ∃ x, ts[s.i]? = some x := ⟨_, List.getElem?_eq_getElem hlt⟩
  obtain ⟨hi, hl⟩ := h.le
  obtain ⟨hs1, hs2⟩ := h.set (s.i + 1) hlt
  have e1 : ((s.i + 1 : Nat) : Int) = (s.i : Int) + 1 := by omega
  rw [e1] at hs1 hs2
  have HS1 := Lib.hid hs1
  have HS2 := Lib.hid hs2
  have HE : Hid (tkP ts s.i = t.pos) := by show _ = _; unfold tkP; rw [ht]
  have HT := Lib.hid ht
  have HX : Hid (xStep s = ⟨s.i + 1, s.bad, s.p⟩) := rfl
  obtain ⟨a, cap, ⟨c0, c1, -, -⟩, ⟨f1, -, -⟩, -⟩ := h.cells
  clear hs1 hs2 ht h
  obtain ⟨i, q, p⟩ := s
  dsimp only at *
  have hw1 : IntKind.i64.wrap ((i : Int) + 1) = (i : Int) + 1 := by rw [IntKind.wrap_i64]; omega
  go_enter Tryz.func65, Tryz.ntmps65
  go_upto_region 2 with fail
  generalize w.setCell ⟨b, 1, none⟩ (.int .i64 ((i : Int) + 1)) = V at *
  clear c0 c1 f1 hw1
  obtain ⟨a, cap, ⟨c0, c1, -, -⟩, -, hcap, hT⟩ := HS1.out.cells
  obtain ⟨a', cap', hv, -, hc⟩ := hT
  obtain ⟨g, ha, hg, d0, d1, d2⟩ := hc i t HT.out
  have hva : a = some ⟨g, 0, none⟩ := by simp at hv; rw [hv.1, ha]
  subst hva
  clear hc hv ha
  have hw2 : IntKind.i64.wrap ((i : Int) + 1 - 1) = (i : Int) := by rw [IntKind.wrap_i64]; omega
  have hli : (i : Int) < (ts.length : Int) := by omega
  have hl0 : (0 : Int) ≤ (i : Int) := by omega
  go_quiet (fail)
  have hq : Below V.heap.size V (V.drewN nq) := below_drewN (Below.refl _ V) nq
  have HF1 := Lib.hid (HS1.out.lift hq)
  have HF2 := Lib.hid (grown_trans HS2.out (below_grown_some hq b))
  clear hq HS1 HS2 c0 c1 d0 d1 d2
  generalize V.drewN nq = V2 at *
  go_wp2
  go_ret
  exact ⟨ret_int HE.out.symm, by rw [HX.out]; exact HF1.out, HF2.out⟩
/-- What fail makes of a state. -/
def yFl (s : St) (p : Int) : St := if s.bad then s else ⟨s.i, true, p⟩
set_option maxHeartbeats 1600000 in
theorem yFail_any (ea : Addr) (b : Nat) (ts : List Tok) (s : St) (p : Int) (w : World) (h : RdY ea w b ts s) :
    Calls Tryz.prog 91 #[.pointer (some ⟨b, 0, none⟩), .int .i64 p] w (YEnd ea w b ts (yFl s p) (.tuple #[])) := by
  obtain ⟨hs1, hs2⟩ := h.setErr p
  have HS1 := Lib.hid hs1
  have HS2 := Lib.hid hs2
  have HR := Lib.hid h
  obtain ⟨a, cap, ⟨c0, c1, c2, c3⟩, ⟨f1, f2, f3⟩, -⟩ := h.cells
  have g0 := h.g2.un
  clear hs1 hs2 h
  obtain ⟨i, q, p0⟩ := s
  dsimp only at *
  cases q with
  | true =>
    have HX : Hid (yFl ⟨i, true, p0⟩ p = ⟨i, true, p0⟩) := rfl
    unfold erV EV at c2
    simp only [if_true] at c2
    go_enter Tryz.func91, Tryz.ntmps91
    go_wp2
    go_end0
    exact ⟨rfl, by rw [HX.out]; exact HR.out, below_grown_some (Below.refl _ w) b⟩
  | false =>
    have HX : Hid (yFl ⟨i, false, p0⟩ p = ⟨i, true, p⟩) := rfl
    unfold erV at c2
    simp only [Bool.false_eq_true, if_false] at c2
    unfold EV at g0
    go_enter Tryz.func91, Tryz.ntmps91
    go_wp2
    go_end0
    exact ⟨rfl, by rw [HX.out]; exact HS1.out, HS2.out⟩
end Go.Proofs.YtgcefodgjhlbeaaGreatDoor

/- The package's reader of expressions: the end, the unexpected token, what is expected. -/
namespace Go.Proofs.YtgcefodgjhlbeaaGreatDoor
open Go.RowKit Go.Maps Mth

set_option maxHeartbeats 1600000 in
theorem yEndOf_any (ts : List Tok) (hok : TkOk ts) (S : Nat → Prop) (lv : Value) (w : World) (h : TokAt w S lv ts) :
    Calls Tryz.prog 92 #[lv] w fun e w' => e = .returned (.int .i64 (posAt ts ts.length)) ∧ Below w.heap.size w w' := by
  have HT := Lib.hid h
  have hl := hok.1
  obtain ⟨a, cap, rfl, hcap, hc⟩ := h
  have HC := Lib.hid hc
  clear hc
  cases hlast : ts[ts.length - 1]? with
  | none =>
    have h0 : ts.length = 0 := by rw [List.getElem?_eq_none_iff] at hlast; omega
    have HE : Hid (posAt ts ts.length = 0) := by show _ = _; unfold posAt; rw [List.getElem?_eq_none (by omega), hlast]
    have h00 : ((ts.length : Int) == 0) = true := by rw [h0]; rfl
    have h01 : (ts.length == 0) = true := by rw [h0]; rfl
    clear hlast h0
    go_enter Tryz.func92, Tryz.ntmps92
    go_wp2
    go_ret
    exact ⟨ret_int HE.out.symm, Below.refl _ w⟩
  | some t =>
    have h0 : 0 < ts.length := by have := (List.getElem?_eq_some_iff.1 hlast).1; omega
    have HE : Hid (posAt ts ts.length = (t.pos : Int) + t.text.length) := by show _ = _; unfold posAt; rw [List.getElem?_eq_none (Nat.le_refl _), hlast]
    obtain ⟨g, rfl, -⟩ := HC.out _ t hlast
    obtain ⟨tl, tp⟩ := hok.2 t (List.mem_of_getElem? hlast)
    have HSz : Hid ((⟨t.text.toArray⟩ : ByteArray).size = t.text.length) := by show _ = _; rw [← bl_len, bl_mk]
    obtain ⟨m, hm⟩ : ∃ m, ts.length = m + 1 := ⟨ts.length - 1, by omega⟩
    have HTm : Hid (ts[m]? = some t) := by show _ = _; rw [← hlast, hm]; rfl
    obtain ⟨g', hg', -, d0, d1, d2⟩ := HC.out m t HTm.out
    obtain rfl : g' = g := by simp at hg'; exact hg'.symm
    have hm1 : m < ts.length := by omega
    have hm2 : (m : Int) < (ts.length : Int) := by omega
    have hm0 : (0 : Int) ≤ (m : Int) := by omega
    have hWr : IntKind.i64.wrap ((ts.length : Int) - 1) = (m : Int) := by rw [IntKind.wrap_i64]; omega
    have h00 : ((ts.length : Int) == 0) = false := by rw [beq_eq_false_iff_ne]; omega
    have h01 : (ts.length == 0) = false := by rw [beq_eq_false_iff_ne]; omega
    have htp : 0 ≤ (t.pos : Int) ∧ (t.pos : Int) ≤ 1000000000 := by omega
    clear hlast hg' hm
    generalize (⟨t.text.toArray⟩ : ByteArray) = tx at *
    have htx : tx.size ≤ 4000 := by rw [HSz.out]; exact tl
    have hw2 : IntKind.i64.wrap ((t.pos : Int) + (tx.size : Int)) = (t.pos : Int) + (tx.size : Int) := by rw [IntKind.wrap_i64]; omega
    have hal : Below w.heap.size w (w.alloc (.cells #[.int .i64 t.kind, .string tx, .int .i64 t.pos] 76)) := (Below.refl _ w).alloc (Nat.le_refl _) _
    have HAl := Lib.hid hal
    clear hal
    go_enter Tryz.func92, Tryz.ntmps92
    go_wp2
    go_ret
    exact ⟨ret_int (by rw [HE.out, HSz.out]), HAl.out⟩
set_option maxHeartbeats 1600000 in
set_option maxRecDepth 100000 in
theorem yUnexp_any (ea : Addr) (b : Nat) (ts : List Tok) (s : St) (w : World) (h : RdY ea w b ts s) :
    Calls Tryz.prog 64 #[.pointer (some ⟨b, 0, none⟩)] w (YEnd ea w b ts (xFail ts s) (.tuple #[])) := by
  have HP := Lib.hid h
  obtain ⟨hi, hl⟩ := h.le
  have HFl : Hid (∀ V, RdY ea V b ts s → Calls Tryz.prog 91 #[.pointer (some ⟨b, 0, none⟩), .int .i64 (posAt ts s.i)] V (YEnd ea V b ts (xFail ts s) (.tuple #[]))) := fun V hV => yFail_any ea b ts s _ V hV
  clear h
  obtain ⟨a, cap, ⟨c0, c1, -, -⟩, -, hcap, hT⟩ := HP.out.cells
  by_cases hlt : s.i < ts.length
  · obtain ⟨t, ht⟩ : ∃ x, ts[s.i]? = some x := ⟨_, List.getElem?_eq_getElem hlt⟩
    have HE : Hid (posAt ts s.i = t.pos) := by show _ = _; unfold posAt; rw [ht]
    obtain ⟨a', cap', hv, -, hc⟩ := hT
    obtain ⟨g, ha, hg, d0, d1, d2⟩ := hc s.i t ht
    have hva : a = some ⟨g, 0, none⟩ := by simp at hv; rw [hv.1, ha]
    subst hva
    clear hc hv ha ht
    rw [HE.out] at HFl
    obtain ⟨i, q, p⟩ := s
    dsimp only at *
    have hlk : ((i : Int) < (ts.length : Int)) := by omega
    go_enter Tryz.func64, Tryz.ntmps64
    go_wp2
    go_quiet (fail)
    have hq : Below w.heap.size w (w.drewN nq) := below_drewN (Below.refl _ w) nq
    have HP2 := Lib.hid (HP.out.lift hq)
    have HQ := Lib.hid hq
    have k0 := (hq.cell (World.block_lt_of_cell? _ _ c0)).trans c0
    have k1 := (hq.cell (World.block_lt_of_cell? _ _ c1)).trans c1
    have k2 := (hq.cell (World.block_lt_of_cell? _ _ d2)).trans d2
    clear hq c0 c1 d0 d1 d2 HP
    generalize w.drewN nq = V at *
    go_wp2_with fail
    go_still_tail 12, (by kernel_rfl)
    change wpList _ _ _ _ _ V.drew
    have HP3 := Lib.hid (HP2.out.lift (Below.refl _ V).drew)
    have HG3 := Lib.hid (below_grown_some (HQ.out.trans ((Below.refl _ V).drew.mono HQ.out.size)) b)
    generalize V.drew = V2 at *
    go_wp2_with (go_at_call 91; refine (HFl.out _ HP3.out).mono ?_; rintro e w1 ⟨rfl, hr1, hg1⟩)
    go_end0
    exact ⟨rfl, hr1, grown_trans HG3.out hg1⟩
  · obtain ⟨i, q, p⟩ := s
    dsimp only at *
    obtain rfl : i = ts.length := by omega
    have HEn : Hid (∀ V, Below w.heap.size w V → Calls Tryz.prog 92 #[.slice a ts.length cap] V fun e w' => e = .returned (.int .i64 (posAt ts ts.length)) ∧ Below V.heap.size V w') := fun V hb => yEndOf_any ts HP.out.ok _ _ V (hT.lift hb)
    have HCl : Hid (∀ V, Below w.heap.size w V → V.cell? ⟨b, 0, none⟩ = some (.slice a ts.length cap)) := fun V hb => by
      have := hb.cell (p := ⟨b, 0, none⟩) HP.out.lt
      rw [this]; exact c0
    clear hT hlt
    have hlk : decide ((ts.length : Int) < (ts.length : Int)) = false := by simp
    go_enter Tryz.func64, Tryz.ntmps64
    go_wp2
    go_quiet (fail)
    have hq : Below w.heap.size w (w.drewN nq) := below_drewN (Below.refl _ w) nq
    have HQ := Lib.hid hq
    have hc0 := HCl.out _ hq
    clear hq c0 c1
    generalize w.drewN nq = V at *
    go_wp2_with fail
    go_at_call 92
    refine (HEn.out V HQ.out).mono ?_
    rintro e w1 ⟨rfl, hb1⟩
    have HP2 := Lib.hid (HP.out.lift (HQ.out.trans (hb1.mono HQ.out.size)))
    have HG2 := Lib.hid (below_grown_some (HQ.out.trans (hb1.mono HQ.out.size)) b)
    clear hb1
    go_wp2_with (go_at_call 91; refine (HFl.out _ HP2.out).mono ?_; rintro e w2 ⟨rfl, hr2, hg2⟩)
    go_end0
    exact ⟨rfl, hr2, grown_trans HG2.out hg2⟩
end Go.Proofs.YtgcefodgjhlbeaaGreatDoor
