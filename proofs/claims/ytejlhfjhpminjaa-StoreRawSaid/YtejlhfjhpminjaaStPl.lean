/- Stores as lists: what they stand for (plain). -/
import Derived.Test.YtejlhfjhpminjaaTyVal2
import Derived.Test.YtejlhfjhpminjaaTyEq
namespace Go.Proofs.Ytejlhfjhpminjaa
open Mth

/-- A slot, an entry of the trail, a store. -/
structure Slt where
  bound : Bool
  ty : Ty
  home : Int
  base : Bool
structure Chg where
  id : Int
  old : Slt
  new : Bool
structure Sto where
  slots : List Slt
  trail : List Chg
def zTy : Ty := .mk 0 ⟨#[]⟩ 0 0 []
def slZ : Slt := ⟨false, zTy, 0, false⟩
/-- What a type stands for, if it is a bound variable. -/
def stand (sl : List Slt) (T : Ty) : Option Ty :=
  if T.k = 1 ∧ 0 ≤ T.i then (sl[T.i.toNat]?).bind fun s => if s.bound then some s.ty else none else none
theorem stand_none_kind {sl : List Slt} {T : Ty} (h : T.k ≠ 1) : stand sl T = none := by unfold stand; rw [if_neg (fun e => h e.1)]
theorem stand_neg {sl : List Slt} {T : Ty} (h : ¬ 0 ≤ T.i) : stand sl T = none := by unfold stand; rw [if_neg (fun e => h e.2)]
theorem stand_big {sl : List Slt} {T : Ty} (h : sl.length ≤ T.i.toNat) : stand sl T = none := by
  unfold stand
  split
  · rw [List.getElem?_eq_none h]; rfl
  · rfl
theorem stand_at {sl : List Slt} {T : Ty} (h1 : T.k = 1) (h2 : 0 ≤ T.i) {s : Slt} (h : sl[T.i.toNat]? = some s) : stand sl T = if s.bound then some s.ty else none := by
  unfold stand
  rw [if_pos ⟨h1, h2⟩, h]; rfl
theorem stand_mem {sl : List Slt} {T U : Ty} (h : stand sl T = some U) : ∃ s ∈ sl, s.bound = true ∧ s.ty = U := by
  unfold stand at h
  split at h
  · cases e : sl[T.i.toNat]? with
    | none => rw [e] at h; cases h
    | some s =>
      rw [e] at h
      cases hb : s.bound with
      | false => simp [hb] at h
      | true => simp [hb] at h; exact ⟨s, List.mem_of_getElem? e, hb, h⟩
  · cases h
/-- Following bound variables, so many times at most. -/
def walkF (sl : List Slt) : Nat → Ty → Ty
  | 0, T => T
  | n + 1, T => match stand sl T with
    | none => T
    | some U => walkF sl n U
theorem walkF_none {sl : List Slt} {T : Ty} (h : stand sl T = none) : ∀ n, walkF sl n T = T := by
  intro n
  cases n with
  | zero => rfl
  | succ n => rw [walkF, h]
theorem walkF_some {sl : List Slt} {T U : Ty} (h : stand sl T = some U) (n : Nat) : walkF sl (n + 1) T = walkF sl n U := by rw [walkF, h]
/-- The nodes of a resolved form, counted up to one more than most. -/
def szL (g : Ty → Nat → Nat) : List Ty → Nat → Nat → Nat
  | [], n, _ => n
  | t :: ts, n, m => if n ≤ m then szL g ts (n + g t (m - n)) m else n
def szF (wk : Ty → Ty) : Nat → Ty → Nat → Nat
  | 0, _, m => m + 1
  | f + 1, T, m => szL (szF wk f) (wk T).ts 1 m
theorem szL_done {g : Ty → Nat → Nat} {m n : Nat} (h : ¬ n ≤ m) : ∀ ts, szL g ts n m = n := by
  intro ts
  cases ts with
  | nil => rfl
  | cons t ts => rw [szL, if_neg h]
theorem szL_le {g : Ty → Nat → Nat} (hg : ∀ t m, g t m ≤ m + 1) : ∀ (ts : List Ty) (n m : Nat), n ≤ m + 1 → szL g ts n m ≤ m + 1 := by
  intro ts
  induction ts with
  | nil => intro n m h; exact h
  | cons t ts ih =>
    intro n m h
    rw [szL]
    split
    · exact ih _ _ (by have := hg t (m - n); omega)
    · exact h
theorem szF_le (wk : Ty → Ty) : ∀ (f : Nat) (T : Ty) (m : Nat), szF wk f T m ≤ m + 1 := by
  intro f
  induction f with
  | zero => intro T m; exact Nat.le_refl _
  | succ f ih => intro T m; exact szL_le ih _ _ _ (by omega)
theorem szL_cong {g g' : Ty → Nat → Nat} {m : Nat} (h : ∀ t k, k < m → g t k = g' t k) : ∀ (ts : List Ty) (n : Nat), 1 ≤ n → szL g ts n m = szL g' ts n m := by
  intro ts
  induction ts with
  | nil => intro n _; rfl
  | cons t ts ih =>
    intro n hn
    rw [szL, szL]
    split
    · rw [h t _ (by omega)]
      exact ih _ (by omega)
    · rfl
/-- Fuel above the bound is enough. -/
theorem szF_fuel (wk : Ty → Ty) : ∀ (m f f' : Nat) (T : Ty), m < f → m < f' → szF wk f T m = szF wk f' T m := by
  intro m
  induction m using Nat.strongRecOn with
  | _ m ih =>
    intro f f' T h h'
    cases f with
    | zero => omega
    | succ f =>
      cases f' with
      | zero => omega
      | succ f' =>
        rw [szF, szF]
        exact szL_cong (fun t k hk => ih k hk f f' t (by omega) (by omega)) _ _ (Nat.le_refl _)
/-! R is the resolved form of T. -/
mutual
def Res (wk : Ty → Ty) : Ty → Ty → Prop
  | .mk k n i h rs, T => (wk T).k = k ∧ (wk T).n = n ∧ (wk T).i = i ∧ (wk T).h = h ∧ ResL wk rs (wk T).ts
def ResL (wk : Ty → Ty) : List Ty → List Ty → Prop
  | [], ts => ts = []
  | r :: rs, ts => match ts with
    | [] => False
    | t :: ts => Res wk r t ∧ ResL wk rs ts
end
theorem resL_len {wk : Ty → Ty} : ∀ (rs ts : List Ty), ResL wk rs ts → rs.length = ts.length := by
  intro rs
  induction rs with
  | nil => intro ts h; rw [ResL] at h; rw [h]
  | cons r rs ih =>
    intro ts h
    cases ts with
    | nil => rw [ResL] at h; exact h.elim
    | cons t ts => rw [ResL] at h; simp [ih ts h.2]
theorem resL_get {wk : Ty → Ty} : ∀ (rs ts : List Ty), ResL wk rs ts → ∀ (j : Nat) (t : Ty), ts[j]? = some t → ∃ r, rs[j]? = some r ∧ Res wk r t := by
  intro rs
  induction rs with
  | nil => intro ts h j t e; rw [ResL] at h; subst h; cases e
  | cons r rs ih =>
    intro ts h j t e
    cases ts with
    | nil => cases e
    | cons t' ts =>
      rw [ResL] at h
      cases j with
      | zero => cases e; exact ⟨r, rfl, h.1⟩
      | succ j => exact ih ts h.2 j t e
theorem szL_res {wk : Ty → Ty} {g : Ty → Nat → Nat} {m : Nat} : ∀ (rs ts : List Ty), ResL wk rs ts → (∀ r ∈ rs, ∀ t k, k < m → Res wk r t → g t k = min (nodes r) (k + 1)) → ∀ n, 1 ≤ n → n ≤ m + 1 → szL g ts n m = min (n + nodesL rs) (m + 1) := by
  intro rs
  induction rs with
  | nil => intro ts h _ n _ hm; rw [ResL] at h; subst h; rw [szL, nodesL]; omega
  | cons r rs ih =>
    intro ts h hr n hn hm
    cases ts with
    | nil => rw [ResL] at h; exact h.elim
    | cons t ts =>
      rw [ResL] at h
      rw [szL, nodesL]
      split
      · next hle =>
        have h1 := hr r (by simp) t (m - n) (by omega) h.1
        rw [ih ts h.2 (fun r' hr' => hr r' (by simp [hr'])) _ (by omega) (by omega), h1]
        omega
      · omega
theorem szF_res {wk : Ty → Ty} : ∀ (R T : Ty) (m f : Nat), m < f → Res wk R T → szF wk f T m = min (nodes R) (m + 1) := by
  refine Ty.induct fun R ih => ?_
  obtain ⟨k, n, i, h, rs⟩ := R
  intro T m f hf hR
  cases f with
  | zero => omega
  | succ f =>
    rw [Res] at hR
    rw [szF, szL_res rs _ hR.2.2.2.2 (fun r hr t k hk hrt => ih r hr t k f (by omega) hrt) 1 (by omega) (by omega), nodes]
    omega
/-- Small means that there is one. -/
theorem szL_ex {wk : Ty → Ty} {g : Ty → Nat → Nat} {m : Nat} (hg : ∀ t k, k < m → g t k ≤ k → ∃ R, Res wk R t) (hg1 : ∀ t k, 1 ≤ g t k) (hg2 : ∀ t k, g t k ≤ k + 1) : ∀ (ts : List Ty) (n : Nat), 1 ≤ n → n ≤ m + 1 → szL g ts n m ≤ m → ∃ rs, ResL wk rs ts := by
  intro ts
  induction ts with
  | nil => intro n _ _ _; exact ⟨[], by rw [ResL]⟩
  | cons t ts ih =>
    intro n hn hm h
    rw [szL] at h
    split at h
    · next hle =>
      have h2 := hg2 t (m - n)
      have h1 := hg1 t (m - n)
      by_cases hs : g t (m - n) ≤ m - n
      · obtain ⟨R, hR⟩ := hg t (m - n) (by omega) hs
        obtain ⟨rs, hrs⟩ := ih _ (by omega) (by omega) h
        exact ⟨R :: rs, by rw [ResL]; exact ⟨hR, hrs⟩⟩
      · rw [szL_done (by omega)] at h
        omega
    · omega
theorem szL_one {g : Ty → Nat → Nat} : ∀ (ts : List Ty) (n m : Nat), n ≤ szL g ts n m := by
  intro ts
  induction ts with
  | nil => intro n m; exact Nat.le_refl _
  | cons t ts ih =>
    intro n m
    rw [szL]
    split
    · exact Nat.le_trans (Nat.le_add_right _ _) (ih _ _)
    · exact Nat.le_refl _
theorem szF_one (wk : Ty → Ty) (f : Nat) (T : Ty) (m : Nat) : 1 ≤ szF wk f T m := by
  cases f with
  | zero => rw [szF]; omega
  | succ f => rw [szF]; exact szL_one _ _ _
theorem szF_ex {wk : Ty → Ty} : ∀ (m f : Nat) (T : Ty), m < f → szF wk f T m ≤ m → ∃ R, Res wk R T := by
  intro m
  induction m using Nat.strongRecOn with
  | _ m ih =>
    intro f T hf h
    cases f with
    | zero => omega
    | succ f =>
      rw [szF] at h
      obtain ⟨rs, hrs⟩ := szL_ex (fun t k hk hs => ih k hk f t (by omega) hs) (szF_one wk f) (szF_le wk f) _ 1 (Nat.le_refl _) (by omega) h
      exact ⟨.mk (wk T).k (wk T).n (wk T).i (wk T).h rs, by rw [Res]; exact ⟨rfl, rfl, rfl, rfl, hrs⟩⟩
theorem szF_iff {wk : Ty → Ty} {R T : Ty} (hR : Res wk R T) {m f : Nat} (hf : m < f) : szF wk f T m ≤ m ↔ nodes R ≤ m := by
  rw [szF_res R T m f hf hR]
  omega
end Go.Proofs.Ytejlhfjhpminjaa
