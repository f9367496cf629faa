/- Plain facts on lists of bytes: lines and columns, as the walks use them. -/
import Derived.IntWalk
import Derived.Lib.Strings
namespace Go.Proofs.YtfhgmbfdhffidaaDoor
namespace Mth

/-- A step over one byte: the line and the column behind it. -/
def stp (s : Nat × Nat) (c : UInt8) : Nat × Nat := if c = 10 then (s.1 + 1, 1) else (s.1, s.2 + 1)
/-- The line and the column behind a list of bytes. -/
def lcs (l : List UInt8) : Nat × Nat := l.foldl stp (1, 1)
def ln (l : List UInt8) : Nat := (lcs l).1
def cl (l : List UInt8) : Nat := (lcs l).2

theorem lcs_snoc (l : List UInt8) (c : UInt8) : lcs (l ++ [c]) = stp (lcs l) c := by
  simp [lcs]
theorem ln_snoc (l : List UInt8) (c : UInt8) : ln (l ++ [c]) = if c = 10 then ln l + 1 else ln l := by
  unfold ln; rw [lcs_snoc]; unfold stp; split <;> rfl
theorem cl_snoc (l : List UInt8) (c : UInt8) : cl (l ++ [c]) = if c = 10 then 1 else cl l + 1 := by
  unfold cl; rw [lcs_snoc]; unfold stp; split <;> rfl
theorem take_snoc (s : ByteArray) (k : Nat) (h : k < s.size) : s.data.toList.take (k + 1) = s.data.toList.take k ++ [s[k]] := by
  rw [List.take_succ_eq_append_getElem (by simpa using h)]; rfl

theorem foldl_le (l : List UInt8) : ∀ a : Nat × Nat, 1 ≤ a.1 → 1 ≤ a.2 → 1 ≤ (l.foldl stp a).1 ∧ 1 ≤ (l.foldl stp a).2 ∧ (l.foldl stp a).1 ≤ a.1 + l.length ∧ (l.foldl stp a).2 ≤ a.2 + l.length := by
  induction l with
  | nil => intro a h1 h2; simp; omega
  | cons c l ih =>
    intro a h1 h2
    have h := ih (stp a c) (by unfold stp; split <;> simp <;> omega) (by unfold stp; split <;> simp)
    have hs1 : (stp a c).1 ≤ a.1 + 1 := by unfold stp; split <;> simp
    have hs2 : (stp a c).2 ≤ a.2 + 1 := by unfold stp; split <;> simp
    simp only [List.foldl_cons, List.length_cons]
    omega
theorem bd (l : List UInt8) : 1 ≤ ln l ∧ 1 ≤ cl l ∧ ln l ≤ 1 + l.length ∧ cl l ≤ 1 + l.length := by
  have := foldl_le l (1, 1) (by decide) (by decide)
  unfold ln cl lcs; omega

/-- An offset, held inside of the text. -/
def clamp (p : Int) (n : Nat) : Nat := (min (max p 0) (n : Int)).toNat
theorem clamp_eq (p : Int) (n : Nat) : min (max p 0) (n : Int) = (clamp p n : Nat) := by unfold clamp; omega
theorem clamp_le (p : Int) (n : Nat) : clamp p n ≤ n := by unfold clamp; omega
theorem clamp_in (k n : Nat) (h : k ≤ n) : clamp (k : Int) n = k := by unfold clamp; omega
theorem byte_ten (c : UInt8) : (c = 10) ↔ ((c.toNat : Int) = 10) := by
  constructor
  · intro h; subst h; rfl
  · intro h; apply UInt8.toNat_inj.1; show c.toNat = 10; omega

/-- A step over one byte: the lines that are complete, and the bytes of the one that is not. -/
def sp (s : List (List UInt8) × List UInt8) (c : UInt8) : List (List UInt8) × List UInt8 := if c = 10 then (s.1 ++ [s.2], []) else (s.1, s.2 ++ [c])
def spl (l : List UInt8) : List (List UInt8) × List UInt8 := l.foldl sp ([], [])
def full (l : List UInt8) : List (List UInt8) := (spl l).1
def rest (l : List UInt8) : List UInt8 := (spl l).2
/-- The lines of a text. -/
def lines (l : List UInt8) : List (List UInt8) := full l ++ [rest l]
theorem spl_snoc (l : List UInt8) (c : UInt8) : spl (l ++ [c]) = sp (spl l) c := by simp [spl]
theorem full_hit (l : List UInt8) : full (l ++ [10]) = full l ++ [rest l] := by unfold full rest; rw [spl_snoc]; simp [sp]
theorem rest_hit (l : List UInt8) : rest (l ++ [10]) = [] := by unfold rest; rw [spl_snoc]; simp [sp]
theorem full_miss (l : List UInt8) (c : UInt8) (h : c ≠ 10) : full (l ++ [c]) = full l := by unfold full; rw [spl_snoc]; simp [sp, h]
theorem rest_miss (l : List UInt8) (c : UInt8) (h : c ≠ 10) : rest (l ++ [c]) = rest l ++ [c] := by unfold rest; rw [spl_snoc]; simp [sp, h]

/-- Lists of bytes from the left to the right, one byte at a time. -/
theorem snoc_ind {P : List UInt8 → Prop} (h0 : P []) (h1 : ∀ l c, P l → P (l ++ [c])) (l : List UInt8) : P l := by
  have all : ∀ (n : Nat) (l : List UInt8), l.length = n → P l := by
    intro n
    induction n with
    | zero => intro l h; rw [List.length_eq_zero_iff.1 h]; exact h0
    | succ n ih =>
      intro l h
      have hne : l ≠ [] := by intro e; subst e; simp at h
      rw [← List.dropLast_concat_getLast hne]
      exact h1 _ _ (ih _ (by simp; omega))
  exact all _ l rfl

theorem parts (l : List UInt8) : (full l).flatMap (fun x => x ++ [10]) ++ rest l = l := by
  induction l using snoc_ind with
  | h0 => rfl
  | h1 l c ih =>
    by_cases h : c = 10
    · subst h; rw [full_hit, rest_hit]; simp only [List.flatMap_append, List.flatMap_cons, List.flatMap_nil, List.append_nil]; rw [← List.append_assoc, ih]
    · rw [full_miss _ _ h, rest_miss _ _ h, ← List.append_assoc, ih]
theorem ln_eq (l : List UInt8) : ln l = (full l).length + 1 := by
  induction l using snoc_ind with
  | h0 => rfl
  | h1 l c ih =>
    rw [ln_snoc]
    by_cases h : c = 10
    · subst h; rw [full_hit]; simp [ih]
    · rw [full_miss _ _ h]; simp [h, ih]
theorem cl_eq (l : List UInt8) : cl l = (rest l).length + 1 := by
  induction l using snoc_ind with
  | h0 => rfl
  | h1 l c ih =>
    rw [cl_snoc]
    by_cases h : c = 10
    · subst h; rw [rest_hit]; simp
    · rw [rest_miss _ _ h]; simp [h, ih]
/-- Where the line that is not complete begins. -/
def bg (l : List UInt8) : Nat := ((full l).flatMap (fun x => x ++ [10])).length
theorem bg_le (l : List UInt8) : bg l + (rest l).length = l.length := by
  have := congrArg List.length (parts l); rw [List.length_append] at this; exact this
theorem rest_drop (l : List UInt8) : l.drop (bg l) = rest l := by
  have h : ((full l).flatMap (fun x => x ++ [10]) ++ rest l).drop (bg l) = rest l := List.drop_left' rfl
  rwa [parts] at h
theorem bg_hit (l : List UInt8) : bg (l ++ [10]) = l.length + 1 := by
  have := bg_le (l ++ [10]); rw [rest_hit] at this; simpa using this
theorem bg_miss (l : List UInt8) (c : UInt8) (h : c ≠ 10) : bg (l ++ [c]) = bg l := by unfold bg; rw [full_miss _ _ h]
theorem full_len (l : List UInt8) : (full l).length ≤ l.length := by
  have := bd l; rw [ln_eq] at this; omega

/-- A piece of a text, as a list of bytes. -/
theorem piece (s : ByteArray) (k : Nat) : s.extract (bg (s.data.toList.take k)) k = ⟨(rest (s.data.toList.take k)).toArray⟩ := by
  have h := rest_drop (s.data.toList.take k)
  apply ByteArray.ext
  apply Array.ext'
  rw [Lib.extract_data]
  show _ = (rest _)
  rw [← h, List.drop_take]
end Mth
end Go.Proofs.YtfhgmbfdhffidaaDoor
