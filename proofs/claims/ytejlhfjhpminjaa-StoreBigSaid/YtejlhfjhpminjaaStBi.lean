/- Stores: what StoreBig's store is (plain). -/
import Derived.Test.YtejlhfjhpminjaaStFi
namespace Go.Proofs.Ytejlhfjhpminjaa
open Go.RowKit Go.Sort Go.Shelf Go.Maps Mth

def vT (i : Int) : Ty := .mk 1 ⟨#[]⟩ i 0 []
def arT (a b : Ty) : Ty := .mk 4 arrN 0 0 [a, b]
def bigE (i : Nat) : Slt := if i = 0 then ⟨false, zTy, 0, false⟩ else ⟨true, arT (vT ((i : Int) - 1)) (vT ((i : Int) - 1)), 0, false⟩
def bigS (n : Nat) : List Slt := (List.range n).map bigE
theorem bigS_len (n : Nat) : (bigS n).length = n := by simp [bigS]
theorem bigS_succ (n : Nat) : bigS (n + 1) = bigS n ++ [bigE n] := by unfold bigS; rw [List.range_succ, List.map_append]; rfl
theorem bigS_get {n j : Nat} (h : j < n) : (bigS n)[j]? = some (bigE j) := by unfold bigS; rw [List.getElem?_map, List.getElem?_range h]; rfl
theorem bigS_set (n : Nat) (x : Slt) : (bigS n ++ [(⟨false, zTy, 0, false⟩ : Slt)]).set n x = bigS n ++ [x] := by
  rw [List.set_append_right _ _ (by rw [bigS_len]; exact Nat.le_refl _), bigS_len, Nat.sub_self]; rfl
def bigR : Nat → Ty
  | 0 => vT 0
  | n + 1 => arT (bigR n) (bigR n)
theorem stand_v {sl : List Slt} {i : Nat} {s : Slt} (h : sl[i]? = some s) : stand sl (vT (i : Int)) = if s.bound then some s.ty else none := by
  unfold stand vT
  have h0 : (Ty.mk 1 ⟨#[]⟩ (i : Int) 0 []).k = 1 ∧ 0 ≤ (Ty.mk 1 ⟨#[]⟩ (i : Int) 0 []).i := ⟨rfl, by show (0 : Int) ≤ (i : Int); omega⟩
  rw [if_pos h0, show (Ty.mk 1 ⟨#[]⟩ (i : Int) 0 []).i.toNat = i from Int.toNat_natCast i, h]; rfl
theorem stand_ar (sl : List Slt) (a b : Ty) : stand sl (arT a b) = none := stand_none_kind (by show (4 : Int) ≠ 1; omega)
theorem big_res {k : Nat} (hk : 0 < k) : ∀ j, j < k → Res (walkF (bigS k) k) (bigR j) (vT (j : Int)) := by
  intro j
  obtain ⟨k', rfl⟩ : ∃ k', k = k' + 1 := ⟨k - 1, by omega⟩
  induction j with
  | zero =>
    intro h
    have hs : stand (bigS (k' + 1)) (vT ((0 : Nat) : Int)) = none := by
      rw [stand_v (s := bigE 0) (bigS_get (by omega))]
      rfl
    show Res _ (vT 0) _
    unfold vT
    rw [Res, show walkF (bigS (k' + 1)) (k' + 1) (Ty.mk 1 ⟨#[]⟩ ((0 : Nat) : Int) 0 []) = Ty.mk 1 ⟨#[]⟩ ((0 : Nat) : Int) 0 [] from walkF_none hs _]
    exact ⟨rfl, rfl, rfl, rfl, by rw [ResL]; rfl⟩
  | succ j ih =>
    intro h
    have hs : stand (bigS (k' + 1)) (vT ((j + 1 : Nat) : Int)) = some (arT (vT (j : Int)) (vT (j : Int))) := by
      rw [stand_v (s := bigE (j + 1)) (bigS_get h)]
      have e : bigE (j + 1) = ⟨true, arT (vT (j : Int)) (vT (j : Int)), 0, false⟩ := by
        unfold bigE
        rw [if_neg (by omega), show ((j + 1 : Nat) : Int) - 1 = (j : Int) from by omega]
      rw [e]; rfl
    have hw : walkF (bigS (k' + 1)) (k' + 1) (vT ((j + 1 : Nat) : Int)) = arT (vT (j : Int)) (vT (j : Int)) := by
      rw [walkF_some hs]
      exact walkF_none (stand_ar _ _ _) _
    show Res _ (arT (bigR j) (bigR j)) _
    unfold arT
    rw [Res, hw]
    have h1 := ih (by omega)
    exact ⟨rfl, rfl, rfl, rfl, by
      show ResL _ [bigR j, bigR j] [vT (j : Int), vT (j : Int)]
      rw [ResL, ResL, ResL]
      exact ⟨h1, h1, rfl⟩⟩
/-- The nodes of the type that the slot stands for. -/
def nd : Nat → Nat
  | 0 => 1
  | n + 1 => 2 * nd n + 1
theorem nd_nodes : ∀ n, nodes (bigR n) = nd n := by
  intro n
  induction n with
  | zero => rfl
  | succ n ih => simp only [bigR, arT, nodes, nodesL, ih, nd]; omega
theorem nd_mono : ∀ {a b : Nat}, a ≤ b → nd a ≤ nd b := by
  intro a b h
  induction b with
  | zero => obtain rfl : a = 0 := by omega
            exact Nat.le_refl _
  | succ b ih =>
    by_cases e : a = b + 1
    · subst e; exact Nat.le_refl _
    · have := ih (by omega); simp only [nd]; omega
theorem nd_pos (a : Nat) : 1 ≤ nd a := nd_mono (Nat.zero_le a)
theorem vT_rep (w : World) (S : Nat → Prop) (x : Int) : Rep w S (vT x) (.agg #[.int .i64 1, .string ⟨#[]⟩, .int .i64 x, .int .i64 0, .slice none 0 0]) := rep_leaf w S 1 ⟨#[]⟩ x 0 (Nat.zero_le _)
/-- What the law's loop holds. -/
def BgSt (w : World) (B i : Nat) (sa : Option Addr) (sc : Nat) (ta : Option Addr) (tn tc : Nat) (sl : List Slt) (W : World) : Prop :=
  BoxC 27 W B [.slice sa i sc, .slice ta tn tc] ∧ i = sl.length ∧ SlG SltE W (fun b => b ≠ B) sl (.slice sa i sc) ∧ (∃ tr : List Chg, tn = tr.length ∧ SlG ChgE W (fun b => b ≠ B) tr (.slice ta tn tc)) ∧ tn ≤ 1000 ∧ Below w.heap.size w W ∧ w.heap.size ≤ B
theorem BgSt.lift {w : World} {B i : Nat} {sa : Option Addr} {sc : Nat} {ta : Option Addr} {tn tc : Nat} {sl : List Slt} {W W' : World} (H : BgSt w B i sa sc ta tn tc sl W) (hb : Below W.heap.size W W') : BgSt w B i sa sc ta tn tc sl W' := by
  obtain ⟨h1, h2, h3, ⟨tr, h4, h5⟩, h6, h7, h8⟩ := H
  exact ⟨h1.lift hb, h2, h3.up hb, ⟨tr, h4, h5.up hb⟩, h6, h7.trans (hb.mono h7.size), h8⟩
/-- A store comes back and is put into the box. -/
theorem BgSt.back {w : World} {B i : Nat} {sa : Option Addr} {sc : Nat} {ta : Option Addr} {tn tc : Nat} {sl : List Slt} {W W1 : World} (H : BgSt w B i sa sc ta tn tc sl W) (hb : Below W.heap.size W W1) {s : Sto} {u : Value} (hs : StoR W1 (fun b => b ≠ B ∧ b < W.heap.size ∨ W.heap.size ≤ b) s u) (hl : s.trail.length ≤ 1000) :
    ∃ sa' sc' ta' tc', u = .agg #[.slice sa' s.slots.length sc', .slice ta' s.trail.length tc'] ∧ BgSt w B s.slots.length sa' sc' ta' s.trail.length tc' s.slots ((W1.setCell ⟨B, 0, none⟩ (.slice sa' s.slots.length sc')).setCell ⟨B, 1, none⟩ (.slice ta' s.trail.length tc')) := by
  obtain ⟨h1, h2, h3, -, h6, h7, h8⟩ := H
  obtain ⟨sa', sc', ta', tc', rfl, k1, k2⟩ := hs
  have hB := h1.lt
  obtain ⟨q1, q2⟩ := set2 (h1.lift hb) (.slice sa' s.slots.length sc') (.slice ta' s.trail.length tc')
  have hk : ∀ b, (b ≠ B ∧ b < W.heap.size ∨ W.heap.size ≤ b) → b ≠ B := fun b h => by omega
  have h9 := h7.trans (hb.mono h7.size)
  exact ⟨sa', sc', ta', tc', rfl, q1, rfl, k1.kept hk (fun b hb hl => q2.block b hl (fun e => hk b hb (Option.some.inj e))), ⟨s.trail, rfl, k2.kept hk (fun b hb hl => q2.block b hl (fun e => hk b hb (Option.some.inj e)))⟩, hl, Below.grown h9 q2 h9.size (fun r e => by cases e; exact h8), h8⟩
theorem fresh_bg {w : World} {B i : Nat} {sa : Option Addr} {sc : Nat} {ta : Option Addr} {tn tc : Nat} {sl : List Slt} {W : World} (H : BgSt w B i sa sc ta tn tc sl W) (hi : i < 1000000) (ht : tn < 1000) :
    Calls Try.prog 8 #[.agg #[.slice sa i sc, .slice ta tn tc], .int .i64 0, .bool false] W fun e w' => ∃ sa' sc' ta' tc', e = .returned (.tuple #[.agg #[.slice sa' (i + 1) sc', .slice ta' (tn + 1) tc'], .agg #[.int .i64 1, .string ⟨#[]⟩, .int .i64 (i : Int), .int .i64 0, .slice none 0 0]]) ∧ Below W.heap.size W w' ∧ BgSt w B (i + 1) sa' sc' ta' (tn + 1) tc' (sl ++ [⟨false, zTy, 0, false⟩]) ((w'.setCell ⟨B, 0, none⟩ (.slice sa' (i + 1) sc')).setCell ⟨B, 1, none⟩ (.slice ta' (tn + 1) tc')) := by
  have H' := H
  obtain ⟨h1, h2, h3, ⟨tr, h4, h5⟩, h6, h7, h8⟩ := H
  subst h2 h4
  refine (fresh_any ⟨sl, tr⟩ 0 false _ (fun b => b ≠ B) W hi (by show tr.length < 1000000; omega) ⟨sa, sc, ta, tc, rfl, h3, h5⟩).mono ?_
  rintro e w' ⟨u, rfl, hs, hb⟩
  obtain ⟨sa', sc', ta', tc', rfl, k⟩ := H'.back hb hs (by show (tr ++ [_]).length ≤ 1000; simp; omega)
  have e1 : (stFresh ⟨sl, tr⟩ 0 false).slots.length = sl.length + 1 := by simp [stFresh]
  have e2 : (stFresh ⟨sl, tr⟩ 0 false).trail.length = tr.length + 1 := by simp [stFresh]
  rw [e1, e2] at k ⊢
  exact ⟨sa', sc', ta', tc', rfl, hb, k⟩
theorem set_bg {w : World} {B i : Nat} {sa : Option Addr} {sc : Nat} {ta : Option Addr} {tn tc : Nat} {sl : List Slt} {W : World} (H : BgSt w B i sa sc ta tn tc sl W) (hi : i < 1000000) (ht : tn < 1000) {j : Nat} (hj : j < i) {X : Ty} {a : Option Addr} {c : Nat} (hX : Rep W (fun b => b ≠ B) X (.agg #[.int .i64 4, .string arrN, .int .i64 0, .int .i64 0, .slice a 2 c])) :
    Calls Try.prog 9 #[.agg #[.slice sa i sc, .slice ta tn tc], .int .i64 (j : Int), .agg #[.bool true, .int .i64 4, .string arrN, .int .i64 0, .int .i64 0, .slice a 2 c, .int .i64 0, .bool false]] W fun e w' => ∃ sa' sc' ta' tc', e = .returned (.tuple #[.agg #[.slice sa' i sc', .slice ta' (tn + 1) tc'], .bool true]) ∧ Below W.heap.size W w' ∧ BgSt w B i sa' sc' ta' (tn + 1) tc' (sl.set j ⟨true, X, 0, false⟩) ((w'.setCell ⟨B, 0, none⟩ (.slice sa' i sc')).setCell ⟨B, 1, none⟩ (.slice ta' (tn + 1) tc')) := by
  have H' := H
  obtain ⟨h1, h2, h3, ⟨tr, h4, h5⟩, h6, h7, h8⟩ := H
  subst h2 h4
  refine (set_any ⟨sl, tr⟩ (j : Int) ⟨true, X, 0, false⟩ _ 4 arrN 0 0 a 2 c (fun b => b ≠ B) W hi (by show tr.length < 1000000; omega) ⟨sa, sc, ta, tc, rfl, h3, h5⟩ hX).mono ?_
  rintro e w' ⟨u, rfl, hs, hb⟩
  have hc : 0 ≤ (j : Int) ∧ (j : Int) < ((⟨sl, tr⟩ : Sto).slots.length : Int) := by show _ ∧ (j : Int) < (sl.length : Int); omega
  rw [if_pos hc, Int.toNat_natCast] at hs
  have hd : (decide (0 ≤ (j : Int)) && decide ((j : Int) < ((⟨sl, tr⟩ : Sto).slots.length : Int))) = true := by simp only [Bool.and_eq_true, decide_eq_true_eq]; exact hc
  rw [hd]
  obtain ⟨sa', sc', ta', tc', rfl, k⟩ := H'.back hb hs (by show (tr ++ [_]).length ≤ 1000; simp; omega)
  have e1 : (stSet ⟨sl, tr⟩ j ⟨true, X, 0, false⟩).slots.length = sl.length := by simp [stSet]
  have e2 : (stSet ⟨sl, tr⟩ j ⟨true, X, 0, false⟩).trail.length = tr.length + 1 := by simp [stSet]
  rw [e1, e2] at k ⊢
  exact ⟨sa', sc', ta', tc', rfl, hb, k⟩
end Go.Proofs.Ytejlhfjhpminjaa
