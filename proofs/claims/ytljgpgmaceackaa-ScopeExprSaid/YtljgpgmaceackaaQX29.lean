import Derived.Test.YtljgpgmaceackaaQX28
import Derived.Test.YtljgpgmaceackaaQX00
import Derived.Test.YtljgpgmaceackaaQX27
import Derived.Test.YtljgpgmaceackaaQX07
import Derived.Deep.RegionHeld3
import Derived.Deep.RegionLaw
import Derived.Deep.LoopGhost
import Derived.Deep.MidRow
import Derived.Deep.DeepCutAuto
/- The package's reader of expressions: expect, name, mark, word, number. -/
namespace Go.Proofs.Ytljgpgmaceackaa
open Go.RowKit Go.Maps Mth

/-- The number that an integer's text stands for. -/
def numB (x : ByteArray) : Int := match Lib.atoi x.data.toList with | some n => n | none => 0
theorem dec_some : ∀ (l : List UInt8) (acc : Nat), l.all dig = true → ∃ n, Lib.decFrom acc l = some n := by
  intro l
  induction l with
  | nil => intro acc _; exact ⟨acc, rfl⟩
  | cons c l ih =>
    intro acc h
    simp only [List.all_cons, Bool.and_eq_true] at h
    obtain ⟨n, hn⟩ := ih (acc * 10 + (c.toNat - 48)) h.2
    refine ⟨n, ?_⟩
    have hd := h.1
    unfold dig at hd
    have : Lib.digitVal c = some (c.toNat - 48) := by
      unfold Lib.digitVal
      rw [if_pos]
      simp at hd
      omega
    unfold Lib.decFrom
    rw [this]
    exact hn
theorem rkind_int {l : List UInt8} (h : rkind l = 3) : l ≠ [] ∧ l.length ≤ 9 ∧ l.all dig = true := by
  unfold rkind at h
  split at h
  · cases h
  split at h
  · cases h
  split at h
  · cases h
  split at h
  · rename_i h3
    unfold isInt at h3
    simp at h3
    exact ⟨by simpa using h3.1, by omega, by simpa using h3.2.2⟩
  · split at h <;> cases h
end Go.Proofs.Ytljgpgmaceackaa

/- The package's reader of expressions: what it reads, and what holds while it reads. -/
namespace Go.Proofs.Ytljgpgmaceackaa
open Go.RowKit Go.Maps Mth

def yVars : Nat → List Tok → St → List ByteArray → Option (List ByteArray × St)
  | 0, _, _, _ => none
  | f + 1, ts, s, acc => if yK ts s == 1 then yVars f ts (xStep s) (acc ++ [yT ts s]) else some (acc, s)
/-- The eleven cells of a struct, ts a walk meets them. -/
theorem BoxC.all11 {t : TypeId} {w : World} {B : Nat} {c0 c1 c2 c3 c4 c5 c6 c7 c8 c9 c10 : Value} (h : BoxC t w B [c0, c1, c2, c3, c4, c5, c6, c7, c8, c9, c10]) :
    w.cell? ⟨B, 0, none⟩ = some c0 ∧ w.cell? ⟨B, 1, none⟩ = some c1 ∧ w.cell? ⟨B, 2, none⟩ = some c2 ∧ w.cell? ⟨B, 3, none⟩ = some c3 ∧ w.cell? ⟨B, 4, none⟩ = some c4 ∧ w.cell? ⟨B, 5, none⟩ = some c5 ∧ w.cell? ⟨B, 6, none⟩ = some c6 ∧ w.cell? ⟨B, 7, none⟩ = some c7 ∧ w.cell? ⟨B, 8, none⟩ = some c8 ∧ w.cell? ⟨B, 9, none⟩ = some c9 ∧ w.cell? ⟨B, 10, none⟩ = some c10 :=
  ⟨h.cell 0 _ rfl, h.cell 1 _ rfl, h.cell 2 _ rfl, h.cell 3 _ rfl, h.cell 4 _ rfl, h.cell 5 _ rfl, h.cell 6 _ rfl, h.cell 7 _ rfl, h.cell 8 _ rfl, h.cell 9 _ rfl, h.cell 10 _ rfl⟩
/-- One expression, laid in a row of its own. -/
theorem one_newE {w : World} {S S' : Nat → Prop} {T : Ex} {c : List Value} (h : RepE w S T c) (Z : TypeId) (n : Nat) (hn : n = w.heap.size) (hS : ∀ g, S g → S' g) (hn' : S' n) : SlG ExE (w.alloc (.cells c.toArray Z)) S' [T] (.slice (some ⟨n, 0, none⟩) 1 1) := by
  subst hn
  refine ⟨_, 1, rfl, ⟨Nat.le_refl _, by simp [maxLen]⟩, fun j x hx => ?_⟩
  cases j with
  | zero =>
    simp at hx; subst hx
    refine ⟨_, c, rfl, hn', fun m u hu => ?_, (h.lift ((Below.refl _ w).alloc (Nat.le_refl _) _)).imp hS⟩
    rw [add_zero]
    refine (World.cell?_alloc_at _ _ _ _ rfl).trans ?_
    show c.toArray[0 + (0 * 11 + m)]? = some u
    simpa using hu
  | succ j => simp at hx
/-- Two expressions, laid in a row of their own. -/
theorem two_newE {w : World} {S S' : Nat → Prop} {T U : Ex} {c d : List Value} (h : RepE w S T c) (k : RepE w S U d) (Z : TypeId) (n : Nat) (hn : n = w.heap.size) (hS : ∀ g, S g → S' g) (hn' : S' n) : SlG ExE (w.alloc (.cells (c ++ d).toArray Z)) S' [T, U] (.slice (some ⟨n, 0, none⟩) 2 2) := by
  subst hn
  have hc := h.len.1
  refine ⟨_, 2, rfl, ⟨Nat.le_refl _, by simp [maxLen]⟩, fun j x hx => ?_⟩
  rcases j with _ | _ | j
  · simp at hx; subst hx
    refine ⟨_, c, rfl, hn', fun m u hu => ?_, (h.lift ((Below.refl _ w).alloc (Nat.le_refl _) _)).imp hS⟩
    rw [add_zero]
    refine (World.cell?_alloc_at _ _ _ _ rfl).trans ?_
    have := (List.getElem?_eq_some_iff.1 hu).1
    show (c ++ d).toArray[0 + (0 * 11 + m)]? = some u
    simp only [Nat.zero_mul, Nat.zero_add, List.getElem?_toArray]
    rw [List.getElem?_append_left this]; exact hu
  · simp at hx; subst hx
    refine ⟨_, d, rfl, hn', fun m u hu => ?_, (k.lift ((Below.refl _ w).alloc (Nat.le_refl _) _)).imp hS⟩
    rw [add_zero]
    refine (World.cell?_alloc_at _ _ _ _ rfl).trans ?_
    show (c ++ d).toArray[0 + ((0 + 1) * 11 + m)]? = some u
    have e : 0 + ((0 + 1) * 11 + m) = c.length + m := by rw [hc]; omega
    rw [e, List.getElem?_toArray, List.getElem?_append_right (by omega), Nat.add_sub_cancel_left]; exact hu
  · simp at hx
/-- An expression whose kids are given, its type none. -/
theorem repE_kids {w : World} {S : Nat → Prop} (k p : Int) (n : ByteArray) (m : Int) {kids : List Ex} {kv : Value} (hn : n.size ≤ maxLen) (h : SlG ExE w S kids kv) :
    RepE w S (.mk k p n m zTy kids []) [.int .i64 k, .int .i64 p, .string n, .int .i64 m, kv, .slice none 0 0, .int .i64 0, .string ⟨#[]⟩, .int .i64 0, .int .i64 0, .slice none 0 0] :=
  RepE.close hn h (slG_nil AmE w S) (rep_zTy w S)
theorem repE_far {w w' : World} {base R : Nat} {T : Ex} {c : List Value} (h : RepE w (fun g => R < g) T c) (hb : base ≤ R) (hw : ∀ g, R < g → g < w.heap.size → w'.heap[g]? = w.heap[g]?) : RepE w' (fun g => base ≤ g) T c :=
  h.kept (fun _ hg => Nat.le_of_lt (Nat.lt_of_le_of_lt hb hg)) hw
theorem RepE.len0 {w : World} {S : Nat → Prop} {T : Ex} {c : List Value} (h : RepE w S T c) : zExC.length = c.length := h.len.1.symm
theorem RepE.size {w : World} {S : Nat → Prop} {T : Ex} {c : List Value} (h : RepE w S T c) : (Try.prog.info? 36).map (·.size) = some c.length := by rw [h.len.1]; exact sizeEx
end Go.Proofs.Ytljgpgmaceackaa

/- The package's reader of expressions: a held expression, the choice among the forms. -/
namespace Go.Proofs.Ytljgpgmaceackaa
open Go.RowKit Go.Maps Mth

theorem RepE.imp_lt {w : World} {n R : Nat} {T : Ex} {c : List Value} (h : RepE w (fun g => n ≤ g) T c) (hn : R < n) : RepE w (fun g => R < g) T c := h.imp fun _ hg => Nat.lt_of_lt_of_le hn hg

end Go.Proofs.Ytljgpgmaceackaa

/- The package's reader of expressions: an atom. -/
namespace Go.Proofs.Ytljgpgmaceackaa
open Go.RowKit Go.Maps Mth

/-- Eleven cells that are stored one by one. -/
theorem BoxC.set11 {t : TypeId} {w : World} {B : Nat} {c0 c1 c2 c3 c4 c5 c6 c7 c8 c9 c10 : Value} (h : BoxC t w B [c0, c1, c2, c3, c4, c5, c6, c7, c8, c9, c10]) (v0 v1 v2 v3 v4 v5 v6 v7 v8 v9 v10 : Value) :
    BoxC t (((((((((((w.setCell ⟨B, 0, none⟩ v0).setCell ⟨B, 1, none⟩ v1).setCell ⟨B, 2, none⟩ v2).setCell ⟨B, 3, none⟩ v3).setCell ⟨B, 4, none⟩ v4).setCell ⟨B, 5, none⟩ v5).setCell ⟨B, 6, none⟩ v6).setCell ⟨B, 7, none⟩ v7).setCell ⟨B, 8, none⟩ v8).setCell ⟨B, 9, none⟩ v9).setCell ⟨B, 10, none⟩ v10) B [v0, v1, v2, v3, v4, v5, v6, v7, v8, v9, v10] ∧ w.grownBy (((((((((((w.setCell ⟨B, 0, none⟩ v0).setCell ⟨B, 1, none⟩ v1).setCell ⟨B, 2, none⟩ v2).setCell ⟨B, 3, none⟩ v3).setCell ⟨B, 4, none⟩ v4).setCell ⟨B, 5, none⟩ v5).setCell ⟨B, 6, none⟩ v6).setCell ⟨B, 7, none⟩ v7).setCell ⟨B, 8, none⟩ v8).setCell ⟨B, 9, none⟩ v9).setCell ⟨B, 10, none⟩ v10) (some B) := by
  obtain ⟨a0, g0, -⟩ := h.set 0 v0
  obtain ⟨a1, g1, -⟩ := a0.set 1 v1
  obtain ⟨a2, g2, -⟩ := a1.set 2 v2
  obtain ⟨a3, g3, -⟩ := a2.set 3 v3
  obtain ⟨a4, g4, -⟩ := a3.set 4 v4
  obtain ⟨a5, g5, -⟩ := a4.set 5 v5
  obtain ⟨a6, g6, -⟩ := a5.set 6 v6
  obtain ⟨a7, g7, -⟩ := a6.set 7 v7
  obtain ⟨a8, g8, -⟩ := a7.set 8 v8
  obtain ⟨a9, g9, -⟩ := a8.set 9 v9
  obtain ⟨a10, g10, -⟩ := a9.set 10 v10
  exact ⟨a10, grown_trans (grown_trans (grown_trans (grown_trans (grown_trans (grown_trans (grown_trans (grown_trans (grown_trans (grown_trans g0 g1) g2) g3) g4) g5) g6) g7) g8) g9) g10⟩
theorem BoxC.free11 {t : TypeId} {w : World} {B : Nat} {c : List Value} (h : BoxC t w B c) : w.frozen? ⟨B, 0, none⟩ = false ∧ w.frozen? ⟨B, 1, none⟩ = false ∧ w.frozen? ⟨B, 2, none⟩ = false ∧ w.frozen? ⟨B, 3, none⟩ = false ∧ w.frozen? ⟨B, 4, none⟩ = false ∧ w.frozen? ⟨B, 5, none⟩ = false ∧ w.frozen? ⟨B, 6, none⟩ = false ∧ w.frozen? ⟨B, 7, none⟩ = false ∧ w.frozen? ⟨B, 8, none⟩ = false ∧ w.frozen? ⟨B, 9, none⟩ = false ∧ w.frozen? ⟨B, 10, none⟩ = false :=
  ⟨h.free 0, h.free 1, h.free 2, h.free 3, h.free 4, h.free 5, h.free 6, h.free 7, h.free 8, h.free 9, h.free 10⟩
end Go.Proofs.Ytljgpgmaceackaa

/- The package's reader of expressions: an applied expression. -/
namespace Go.Proofs.Ytljgpgmaceackaa
open Go.RowKit Go.Maps Mth

theorem BoxC.set11s {t : TypeId} {w : World} {B : Nat} {c0 c1 c2 c3 c4 c5 c6 c7 c8 c9 c10 : Value} (h : BoxC t w B [c0, c1, c2, c3, c4, c5, c6, c7, c8, c9, c10]) (v0 v1 v2 v3 v4 v5 v6 v7 v8 v9 v10 : Value) :
    BoxC t (((((((((((w.setCell ⟨B, 0, none⟩ v0).setCell ⟨B, 1, none⟩ v1).setCell ⟨B, 2, none⟩ v2).setCell ⟨B, 3, none⟩ v3).setCell ⟨B, 4, none⟩ v4).setCell ⟨B, 5, none⟩ v5).setCell ⟨B, 6, none⟩ v6).setCell ⟨B, 7, none⟩ v7).setCell ⟨B, 8, none⟩ v8).setCell ⟨B, 9, none⟩ v9).setCell ⟨B, 10, none⟩ v10) B [v0, v1, v2, v3, v4, v5, v6, v7, v8, v9, v10] ∧ w.grownBy (((((((((((w.setCell ⟨B, 0, none⟩ v0).setCell ⟨B, 1, none⟩ v1).setCell ⟨B, 2, none⟩ v2).setCell ⟨B, 3, none⟩ v3).setCell ⟨B, 4, none⟩ v4).setCell ⟨B, 5, none⟩ v5).setCell ⟨B, 6, none⟩ v6).setCell ⟨B, 7, none⟩ v7).setCell ⟨B, 8, none⟩ v8).setCell ⟨B, 9, none⟩ v9).setCell ⟨B, 10, none⟩ v10) (some B) ∧ (((((((((((w.setCell ⟨B, 0, none⟩ v0).setCell ⟨B, 1, none⟩ v1).setCell ⟨B, 2, none⟩ v2).setCell ⟨B, 3, none⟩ v3).setCell ⟨B, 4, none⟩ v4).setCell ⟨B, 5, none⟩ v5).setCell ⟨B, 6, none⟩ v6).setCell ⟨B, 7, none⟩ v7).setCell ⟨B, 8, none⟩ v8).setCell ⟨B, 9, none⟩ v9).setCell ⟨B, 10, none⟩ v10).heap.size = w.heap.size := by
  obtain ⟨h1, h2⟩ := h.set11 v0 v1 v2 v3 v4 v5 v6 v7 v8 v9 v10
  exact ⟨h1, h2, by simp [World.setCell]⟩
end Go.Proofs.Ytljgpgmaceackaa

/- The package's reader of expressions: an arm. -/
namespace Go.Proofs.Ytljgpgmaceackaa
open Go.RowKit Go.Maps Mth

theorem vars_cases {g : Nat} {ts : List Tok} {s j : St} {acc l : List ByteArray} (h : yVars g ts s acc = some (l, j)) :
    ((yK ts s == 1) = false ∧ l = acc ∧ j = s) ∨ ((yK ts s == 1) = true ∧ ∃ g', g = g' + 1 ∧ yVars g' ts (xStep s) (acc ++ [yT ts s]) = some (l, j)) := by
  cases g with
  | zero => simp [yVars] at h
  | succ g =>
    unfold yVars at h
    cases h1 : (yK ts s == 1) with
    | false =>
      rw [h1] at h
      simp only [Bool.false_eq_true, if_false, Option.some.injEq, Prod.mk.injEq] at h
      exact .inl ⟨rfl, h.1.symm, h.2.symm⟩
    | true =>
      rw [h1] at h
      simp only [if_true] at h
      exact .inr ⟨rfl, g, rfl, h⟩
/-- Cells stored one behind the other. -/
theorem BoxC.mid {t : TypeId} {B : Nat} : ∀ (d : List Value) (o : Nat) (w : World) (c : List Value), BoxC t w B c → o + d.length ≤ c.length →
    BoxC t (w.setCells B o d) B (c.take o ++ d ++ c.drop (o + d.length)) ∧ w.grownBy (w.setCells B o d) (some B) := by
  intro d
  induction d with
  | nil =>
    intro o w c h _
    refine ⟨?_, below_grown_some (Below.refl _ w) B⟩
    simpa [World.setCells] using h
  | cons v d ih =>
    intro o w c h hl
    simp only [List.length_cons] at hl
    obtain ⟨h1, h2, -⟩ := h.set o v
    obtain ⟨h3, h4⟩ := ih (o + 1) _ _ h1 (by simp; omega)
    refine ⟨?_, grown_trans h2 h4⟩
    have e : (c.set o v).take (o + 1) ++ d ++ (c.set o v).drop (o + 1 + d.length) = c.take o ++ (v :: d) ++ c.drop (o + (d.length + 1)) := by
      have e1 : (c.set o v).take (o + 1) = c.take o ++ [v] := by
        rw [List.set_eq_take_append_cons_drop, if_pos (by omega)]
        have ht : (c.take o).length = o := by rw [List.length_take]; omega
        rw [List.take_append, ht, List.take_of_length_le (by omega)]
        simp
      have e2 : (c.set o v).drop (o + 1 + d.length) = c.drop (o + (d.length + 1)) := by
        rw [List.drop_set_of_lt (by omega)]
        congr 1; omega
      rw [e1, e2]; simp
    rw [e] at h3
    exact h3
theorem wpList_storeM {t ty : TypeId} {w : World} {ops : Array Oper} {rest : List Oper} {o : Oper} {a : Act} {Q : Exit → Act → World → Prop} (hgd : o.guard = none) (p x : Operand) (ho : o.op = Op.store ty p x)
    (B off : Nat) (c d : List Value) (hB : BoxC t w B c) (hp : a.eval p = .pointer (some ⟨B, off, none⟩)) (hx : a.eval x = .agg d.toArray) (hi : (Try.prog.info? ty).map (·.size) = some d.length) (hl : off + d.length ≤ c.length) (h1 : ∀ u ∈ d, u.oneCell' = true)
    (hK : ∀ w', BoxC t w' B (c.take off ++ d ++ c.drop (off + d.length)) → w.grownBy w' (some B) → wpList Try.prog ops Q rest (a.put o.dst undef) w') :
    wpList Try.prog ops Q (o :: rest) a w := by
  refine wpList_store_mid hgd ty p x ho B off d.toArray hp hx (fun j hj => ?_) (by simpa using hi) (Array.all_eq_true_iff_forall_mem.2 fun v hv => h1 v (by simpa using hv)) ?_
  · have hj' : j < d.length := by simpa using hj
    exact ⟨by rw [hB.cell (off + j) _ (List.getElem?_eq_getElem (by omega))]; rfl, hB.free _⟩
  · obtain ⟨h2, h3⟩ := BoxC.mid d off w c hB hl
    have := hK _ h2 h3
    simpa using this

theorem row_str {w w' : World} {base : Nat} {S : Nat → Prop} {v : Value} {xs : List ByteArray} {row : Option Nat} (h : RowG StrE w base S v xs) (hg : w.grownBy w' row) (hv : v.ownBlock = none ∨ v.ownBlock ≠ row) : RowG StrE w' base S v xs := by
  obtain ⟨L, hown, hl, hr⟩ := h
  exact ⟨L, hown.kept hg hv, hl, hr⟩
theorem step_push_str {w : World} {ops : Array Oper} {o : Oper} {a : Act} {K : Act → World → Prop} {Q : Exit → Act → World → Prop} {E' : Prop} (tx : ByteArray) {base : Nat} {sa : Option Addr} {n sc : Nat} {acc : List ByteArray} (hrow : RowG StrE w base (fun _ => False) (.slice sa n sc) acc)
    (hgd : o.guard = none) (s x : Operand) (ho : o.op = .call { callee := .builtin .append, args := #[s, x], argTypes := #[25, 25] }) (hs : a.eval s = .slice sa n sc) (nn : Nat) (hnn : nn = w.heap.size) (hx : a.eval x = .slice (some ⟨nn, 0, none⟩) 1 1)
    (N : Nat) (hN : N = acc.length + 1) (hb : N ≤ 1000000) (hbase : base ≤ w.heap.size)
    (hK : ∀ (a' : Option Addr) (c' : Nat) (w' : World), RowG StrE w' base (fun _ => False) (.slice a' N c') (acc ++ [tx]) → w.grownBy w' (Value.slice sa n sc).ownBlock → K (a.put o.dst (.slice a' N c')) w') :
    if Region.wanted o (yielded ops a.tmps) = true then Oper.wp Try.prog o a (w.alloc (.cells #[.string tx] 9)) K Q else E' := by
  subst hnn
  have hba : Below w.heap.size w (w.alloc (.cells #[.string tx] 9)) := (Below.refl _ w).alloc (Nat.le_refl _) _
  have hlt := fun k e => RowG.lt hrow k e
  exact step_pushG StrE hgd s x ho base (fun _ => False) (.slice sa n sc) acc hs (hrow.lift hba) w.heap.size 9 [.string tx] (heap_alloc_new w _) hx tx rfl N hN hb (Nat.le_trans hbase hba.size) fun a' c' w' h1 h2 => hK a' c' w' h1 (grown_trans (World.grownBy_alloc w _ _) h2)
theorem BoxC.all14 {t : TypeId} {w : World} {B : Nat} {c0 c1 c2 c3 c4 c5 c6 c7 c8 c9 c10 c11 c12 c13 : Value} (h : BoxC t w B [c0, c1, c2, c3, c4, c5, c6, c7, c8, c9, c10, c11, c12, c13]) :
    w.cell? ⟨B, 0, none⟩ = some c0 ∧ w.cell? ⟨B, 1, none⟩ = some c1 ∧ w.cell? ⟨B, 2, none⟩ = some c2 ∧ w.cell? ⟨B, 3, none⟩ = some c3 ∧ w.cell? ⟨B, 4, none⟩ = some c4 ∧ w.cell? ⟨B, 5, none⟩ = some c5 ∧ w.cell? ⟨B, 6, none⟩ = some c6 ∧ w.cell? ⟨B, 7, none⟩ = some c7 ∧ w.cell? ⟨B, 8, none⟩ = some c8 ∧ w.cell? ⟨B, 9, none⟩ = some c9 ∧ w.cell? ⟨B, 10, none⟩ = some c10 ∧ w.cell? ⟨B, 11, none⟩ = some c11 ∧ w.cell? ⟨B, 12, none⟩ = some c12 ∧ w.cell? ⟨B, 13, none⟩ = some c13 :=
  ⟨h.cell 0 _ rfl, h.cell 1 _ rfl, h.cell 2 _ rfl, h.cell 3 _ rfl, h.cell 4 _ rfl, h.cell 5 _ rfl, h.cell 6 _ rfl, h.cell 7 _ rfl, h.cell 8 _ rfl, h.cell 9 _ rfl, h.cell 10 _ rfl, h.cell 11 _ rfl, h.cell 12 _ rfl, h.cell 13 _ rfl⟩
end Go.Proofs.Ytljgpgmaceackaa

/- The package's reader of expressions: what stands in parentheses. -/
namespace Go.Proofs.Ytljgpgmaceackaa
open Go.RowKit Go.Maps Mth

theorem repE_ann {w : World} {S : Nat → Prop} (p : Int) {T : Ty} {tc : List Value} {kids : List Ex} {kv : Value} (h : SlG ExE w S kids kv) (ht : Rep w S T (.agg tc.toArray)) :
    RepE w S (.mk 9 p ⟨#[]⟩ 0 T kids []) (.int .i64 9 :: .int .i64 p :: .string ⟨#[]⟩ :: .int .i64 0 :: kv :: .slice none 0 0 :: tc) := RepE.close (Nat.zero_le _) h (slG_nil AmE w S) ht
end Go.Proofs.Ytljgpgmaceackaa

/- The package's reader of expressions: a type behind a colon. -/
namespace Go.Proofs.Ytljgpgmaceackaa
open Go.RowKit Go.Maps Mth

section
variable {W w2 : World} {S : Nat → Prop} {c0 c1 c2 c3 c4 : Value} {e p : Int} {T : Ty} (hb : Below W.heap.size W w2) (hrep : Rep w2 S T (.agg #[c0, c1, c2, c3, c4]))
include hb hrep
end
section
variable {x w2 : World}
end

theorem hz1 (x : World) (o : Obj) : x.heap.size < (x.alloc o).drew.heap.size := by show _ < (x.alloc o).heap.size; simp
theorem hz2 (x : World) (o o' : Obj) : x.heap.size + 1 < ((x.alloc o).alloc o').drew.heap.size := by show _ < ((x.alloc o).alloc o').heap.size; simp
end Go.Proofs.Ytljgpgmaceackaa
