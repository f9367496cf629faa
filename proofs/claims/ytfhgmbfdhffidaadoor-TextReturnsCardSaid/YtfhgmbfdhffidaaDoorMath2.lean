/- Plain facts on lists of bytes: where the lines of a text begin, and that places and offsets fit. -/
import Derived.Test.YtfhgmbfdhffidaaDoorMath
namespace Go.Proofs.YtfhgmbfdhffidaaDoor
namespace Mth

/-- Where the line number j begins. -/
def off (L : List (List UInt8)) (j : Nat) : Nat := ((L.take j).map fun x => x.length + 1).sum
theorem off_zero (L : List (List UInt8)) : off L 0 = 0 := by simp [off]
theorem off_succ {L : List (List UInt8)} {j : Nat} {x : List UInt8} (h : L[j]? = some x) : off L (j + 1) = off L j + (x.length + 1) := by
  obtain ⟨hj, rfl⟩ := List.getElem?_eq_some_iff.1 h
  unfold off
  rw [List.take_succ_eq_append_getElem hj, List.map_append, List.sum_append]
  simp only [List.map_cons, List.map_nil, List.sum_cons, List.sum_nil, Nat.add_zero]
theorem off_le {L : List (List UInt8)} (j : Nat) : ∀ d, j + d ≤ L.length → off L j ≤ off L (j + d) := by
  intro d
  induction d with
  | zero => intro _; exact Nat.le_refl _
  | succ d ih =>
    intro h
    have := ih (by omega)
    have e : L[j + d]? = some L[j + d] := List.getElem?_eq_getElem (by omega)
    have := off_succ e
    have : off L (j + (d + 1)) = off L (j + d + 1) := rfl
    omega
theorem sum_bg (l : List UInt8) : ((full l).map fun x => x.length + 1).sum = bg l := by
  unfold bg
  rw [List.length_flatMap]
  simp
theorem off_all (l : List UInt8) : off (lines l) (lines l).length = l.length + 1 := by
  unfold off
  rw [List.take_length]
  unfold lines
  rw [List.map_append, List.sum_append, sum_bg]
  have := bg_le l
  simp; omega
theorem off_bound {l : List UInt8} {j : Nat} {x : List UInt8} (h : (lines l)[j]? = some x) : off (lines l) j + x.length ≤ l.length := by
  have hj : j < (lines l).length := (List.getElem?_eq_some_iff.1 h).1
  have h1 := off_le (L := lines l) (j + 1) ((lines l).length - (j + 1)) (by omega)
  rw [show j + 1 + ((lines l).length - (j + 1)) = (lines l).length by omega, off_all, off_succ h] at h1
  omega
theorem off_unique {L : List (List UInt8)} {j j' : Nat} {x x' : List UInt8} {c c' : Nat} (h : L[j]? = some x) (h' : L[j']? = some x') (hc : c ≤ x.length) (hc' : c' ≤ x'.length) (e : off L j + c = off L j' + c') : j = j' ∧ c = c' := by
  have hj : j < L.length := (List.getElem?_eq_some_iff.1 h).1
  have hj' : j' < L.length := (List.getElem?_eq_some_iff.1 h').1
  have s1 := off_succ h
  have s2 := off_succ h'
  by_cases h1 : j < j'
  · have := off_le (L := L) (j + 1) (j' - (j + 1)) (by omega)
    rw [show j + 1 + (j' - (j + 1)) = j' by omega] at this
    omega
  · by_cases h2 : j' < j
    · have := off_le (L := L) (j' + 1) (j - (j' + 1)) (by omega)
      rw [show j' + 1 + (j - (j' + 1)) = j by omega] at this
      omega
    · obtain rfl : j = j' := by omega
      exact ⟨rfl, by omega⟩

/-- What stands complete stays, and the line that is not complete goes on. -/
theorem spl_more (b : List UInt8) : ∀ (ls : List (List UInt8)) (cur : List UInt8), ∃ y r, (b.foldl sp (ls, cur)).1 ++ [(b.foldl sp (ls, cur)).2] = ls ++ (cur ++ y) :: r := by
  induction b with
  | nil => intro ls cur; exact ⟨[], [], by simp⟩
  | cons c b ih =>
    intro ls cur
    by_cases h : c = 10
    · obtain ⟨y, r, e⟩ := ih (ls ++ [cur]) []
      refine ⟨[], ([] ++ y) :: r, ?_⟩
      rw [List.foldl_cons]
      have : sp (ls, cur) c = (ls ++ [cur], []) := by simp [sp, h]
      rw [this, e]; simp
    · obtain ⟨y, r, e⟩ := ih ls (cur ++ [c])
      refine ⟨c :: y, r, ?_⟩
      rw [List.foldl_cons]
      have : sp (ls, cur) c = (ls, cur ++ [c]) := by simp [sp, h]
      rw [this, e]; simp
theorem lines_append (a b : List UInt8) : ∃ y r, lines (a ++ b) = full a ++ (rest a ++ y) :: r := by
  have h := spl_more b (full a) (rest a)
  have e : spl (a ++ b) = b.foldl sp (full a, rest a) := by unfold full rest spl; rw [List.foldl_append]
  unfold lines full rest at *
  rw [e]
  exact h
/-- The place of an offset, among the lines. -/
theorem place_in (l : List UInt8) (k : Nat) (hk : k ≤ l.length) :
    ∃ x, (lines l)[(full (l.take k)).length]? = some x ∧ (rest (l.take k)).length ≤ x.length ∧ off (lines l) (full (l.take k)).length + (rest (l.take k)).length = k := by
  obtain ⟨y, r, e⟩ := lines_append (l.take k) (l.drop k)
  rw [List.take_append_drop] at e
  refine ⟨rest (l.take k) ++ y, ?_, by simp, ?_⟩
  · rw [e]; simp
  · unfold off
    rw [e, List.take_left' rfl, sum_bg]
    have := bg_le (l.take k)
    rw [List.length_take] at this; omega
/-- The place that a line and a column name. -/
theorem place_of {l : List UInt8} {j c : Nat} {x : List UInt8} (h : (lines l)[j]? = some x) (hc : c ≤ x.length) :
    ln (l.take (off (lines l) j + c)) = j + 1 ∧ cl (l.take (off (lines l) j + c)) = c + 1 := by
  have hb := off_bound h
  obtain ⟨x', h', hc', e⟩ := place_in l (off (lines l) j + c) (by omega)
  obtain ⟨e1, e2⟩ := off_unique h' h hc' hc e
  rw [ln_eq, cl_eq]
  omega
/-- Two offsets with one place are one. -/
theorem place_inj {l : List UInt8} {i k : Nat} (hi : i ≤ l.length) (hk : k ≤ l.length) (h1 : ln (l.take i) = ln (l.take k)) (h2 : cl (l.take i) = cl (l.take k)) : i = k := by
  obtain ⟨x, _, _, e⟩ := place_in l i hi
  obtain ⟨x', _, _, e'⟩ := place_in l k hk
  rw [ln_eq, ln_eq] at h1
  rw [cl_eq, cl_eq] at h2
  have h1' : (full (l.take i)).length = (full (l.take k)).length := by omega
  rw [h1'] at e
  omega

/-- No line holds a line feed. -/
theorem lines_free (l : List UInt8) : (∀ x ∈ full l, (10 : UInt8) ∉ x) ∧ (10 : UInt8) ∉ rest l := by
  induction l using snoc_ind with
  | h0 => exact ⟨by simp [full, spl], by simp [rest, spl]⟩
  | h1 l c ih =>
    by_cases h : c = 10
    · subst h; rw [full_hit, rest_hit]
      refine ⟨fun x hx => ?_, by simp⟩
      rcases List.mem_append.1 hx with hx | hx
      · exact ih.1 x hx
      · simp at hx; subst hx; exact ih.2
    · rw [full_miss _ _ h, rest_miss _ _ h]
      refine ⟨ih.1, fun hm => ?_⟩
      rcases List.mem_append.1 hm with hm | hm
      · exact ih.2 hm
      · simp at hm; exact h hm.symm
theorem line_free {l : List UInt8} {j : Nat} {x : List UInt8} (h : (lines l)[j]? = some x) : (10 : UInt8) ∉ x := by
  have hm := List.mem_of_getElem? h
  unfold lines at hm
  rcases List.mem_append.1 hm with hm | hm
  · exact (lines_free l).1 x hm
  · simp at hm; subst hm; exact (lines_free l).2
/-- The first j lines, joined by line feeds. -/
def joined (L : List (List UInt8)) (j : Nat) : List UInt8 := if j = 0 then [] else (L.take (j - 1)).flatMap (fun x => x ++ [10]) ++ (L.getD (j - 1) [])
theorem joined_zero (L : List (List UInt8)) : joined L 0 = [] := by simp [joined]
theorem joined_one {L : List (List UInt8)} {x : List UInt8} (h : L[0]? = some x) : joined L 1 = x := by simp [joined, List.getD_eq_getElem?_getD, h]
theorem joined_succ {L : List (List UInt8)} {j : Nat} {x : List UInt8} (hj : j ≠ 0) (h : L[j]? = some x) : joined L (j + 1) = joined L j ++ [10] ++ x := by
  unfold joined
  rw [if_neg (by omega), if_neg hj]
  have hl : j < L.length := (List.getElem?_eq_some_iff.1 h).1
  have hp : j - 1 < L.length := by omega
  have e : L.take j = L.take (j - 1) ++ [L[j - 1]] := by
    have := List.take_succ_eq_append_getElem hp
    rwa [show j - 1 + 1 = j by omega] at this
  rw [Nat.add_sub_cancel, e, List.flatMap_append]
  simp [List.getD_eq_getElem?_getD, h, hp]
theorem joined_all (l : List UInt8) : joined (lines l) (lines l).length = l := by
  unfold joined
  rw [if_neg (by simp [lines])]
  have e : (lines l).length - 1 = (full l).length := by simp [lines]
  rw [e]
  have e1 : (lines l).take (full l).length = full l := by unfold lines; exact List.take_left' rfl
  have e2 : (lines l).getD (full l).length [] = rest l := by simp [lines, List.getD_eq_getElem?_getD]
  rw [e1, e2]
  exact parts l
theorem joined_len (l : List UInt8) (j : Nat) (hj : j ≤ (lines l).length) : (joined (lines l) j).length + 1 ≤ off (lines l) j + 1 := by
  by_cases h0 : j = 0
  · subst h0; rw [joined_zero]; simp
  · obtain ⟨i, rfl⟩ : ∃ i, j = i + 1 := ⟨j - 1, by omega⟩
    have hi : i < (lines l).length := by omega
    have e : (lines l)[i]? = some (lines l)[i] := List.getElem?_eq_getElem hi
    rw [off_succ e]
    unfold joined off
    rw [if_neg (by omega), Nat.add_sub_cancel, List.length_append, List.length_flatMap]
    simp [List.getD_eq_getElem?_getD, e]
end Mth
end Go.Proofs.YtfhgmbfdhffidaaDoor
