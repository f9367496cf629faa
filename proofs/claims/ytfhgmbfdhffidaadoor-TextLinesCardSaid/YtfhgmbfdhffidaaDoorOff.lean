/- The contracts of text.Offset, of the reference's Offset and of the reference's Join. -/
import Derived.Test.YtfhgmbfdhffidaaDoorMem
import Derived.Test.YtfhgmbfdhffidaaDoorMath2
namespace Go.Proofs.YtfhgmbfdhffidaaDoor
open Go.RowKit Mth

theorem some_at {L : List (List UInt8)} {j : Nat} (h : j < L.length) : ∃ x, L[j]? = some x := ⟨L[j], List.getElem?_eq_getElem h⟩

set_option maxHeartbeats 800000 in
theorem offset_hit (s : ByteArray) (j c : Nat) (x : List UInt8) (w : World) (hs : s.size ≤ 1000000) (hx : (lines s.data.toList)[j]? = some x) (hc : c ≤ x.length) :
    Calls Tryd.prog 13 #[.string s, .int .i64 ((j : Int) + 1), .int .i64 ((c : Int) + 1)] w fun e w' => e = .returned (.tuple #[.int .i64 ((off (lines s.data.toList) j + c : Nat) : Int), .bool true]) ∧ Below w.heap.size w w' := by
  have hj : j < (lines s.data.toList).length := (List.getElem?_eq_some_iff.1 hx).1
  have hb := off_bound hx
  have hl : s.data.toList.length = s.size := by simp
  have hn : (lines s.data.toList).length ≤ s.size + 1 := by unfold lines; have := full_len s.data.toList; simp at this ⊢; omega
  rw [hl] at hb
  have HX := Lib.hid hx
  clear hx hl
  go_enter Tryd.func13, Tryd.ntmps13
  go_wp2_with fail
  go_at_call 15
  refine (lines_cells s _ hs).mono ?_
  rintro e w1 ⟨g, cap, rfl, hcells, hb1⟩
  have HC := Lib.hid hcells
  clear hcells
  have hcj := HC.out j x HX.out
  unfold str at hcj
  have hj' : ((j : Int)) < ((lines s.data.toList).length : Int) := by omega
  have hc' : ¬ ((x.length : Int) + 1 < (c : Int) + 1) := by omega
  go_wp2
  clear hc' hcj
  go_loop [9, 36] (fun a i => ∃ k : Nat, k ≤ j ∧ i = .int .i64 k ∧ a = .int .i64 (off (lines s.data.toList) k)) (fun _ i => j - (intOf i).toNat)
  case atStart => exact ⟨0, Nat.zero_le _, rfl, by rw [off_zero]; rfl⟩
  case round =>
    obtain ⟨k, hk, rfl, rfl⟩ := hrel
    have hoff : off (lines s.data.toList) k ≤ off (lines s.data.toList) j := by
      have := off_le (L := lines s.data.toList) k (j - k) (by omega)
      rwa [show k + (j - k) = j by omega] at this
    by_cases hlt : k < j
    · obtain ⟨y, hy⟩ := some_at (L := lines s.data.toList) (j := k) (by omega)
      have hck := HC.out k y hy
      unfold str at hck
      have hyb := off_bound hy
      have hl : s.data.toList.length = s.size := by simp
      rw [hl] at hyb
      have HS := Lib.hid (off_succ hy)
      clear hy hl
      have hkl : (k : Int) < ((lines s.data.toList).length : Int) := by omega
      go_wp2
      go_round
      case rel => exact ⟨k + 1, by omega, by go_num, by rw [HS.out]; go_num⟩
      case measure => simp [intOf]; omega
    · obtain rfl : k = j := by omega
      go_wp2
      go_ret2
      exact ⟨by go_num, hb1⟩

set_option maxHeartbeats 800000 in
theorem offset_line (s : ByteArray) (a b : Int) (w : World) (hs : s.size ≤ 1000000) (ha : a < 1 ∨ ((lines s.data.toList).length : Int) < a) :
    Calls Tryd.prog 13 #[.string s, .int .i64 a, .int .i64 b] w fun e w' => e = .returned (.tuple #[.int .i64 0, .bool false]) ∧ Below w.heap.size w w' := by
  rcases ha with h | h
  all_goals
    go_enter Tryd.func13, Tryd.ntmps13
    go_wp2_with (go_at_call 15; refine (lines_cells s _ hs).mono ?_; rintro e w1 ⟨g, cap, rfl, hcells, hb1⟩; have HC := Lib.hid hcells; clear hcells)
    all_goals
      go_ret2
      exact ⟨rfl, hb1⟩

set_option maxHeartbeats 800000 in
theorem offset_col (s : ByteArray) (j : Nat) (b : Int) (x : List UInt8) (w : World) (hs : s.size ≤ 1000000) (hx : (lines s.data.toList)[j]? = some x) (hc : b < 1 ∨ (x.length : Int) + 1 < b) :
    Calls Tryd.prog 13 #[.string s, .int .i64 ((j : Int) + 1), .int .i64 b] w fun e w' => e = .returned (.tuple #[.int .i64 0, .bool false]) ∧ Below w.heap.size w w' := by
  have hj : j < (lines s.data.toList).length := (List.getElem?_eq_some_iff.1 hx).1
  have hb := off_bound hx
  have hl : s.data.toList.length = s.size := by simp
  have hn : (lines s.data.toList).length ≤ s.size + 1 := by unfold lines; have := full_len s.data.toList; simp at this ⊢; omega
  rw [hl] at hb
  have HX := Lib.hid hx
  clear hx hl
  rcases hc with h | h
  all_goals
    go_enter Tryd.func13, Tryd.ntmps13
    go_wp2_with fail
    go_at_call 15
    refine (lines_cells s _ hs).mono ?_
    rintro e w1 ⟨g, cap, rfl, hcells, hb1⟩
    have HC := Lib.hid hcells
    clear hcells
    have hcj := HC.out j x HX.out
    unfold str at hcj
    have hj' : ((j : Int)) < ((lines s.data.toList).length : Int) := by omega
    go_wp2
    all_goals
      go_ret2
      exact ⟨rfl, hb1⟩

theorem refPlace_in (s : ByteArray) (k : Nat) (w : World) (hs : s.size ≤ 1000000) (hk : k ≤ s.size) :
    Calls Tryd.prog 11 #[.string s, .int .i64 k] w fun e w' => e = .returned (.tuple #[.int .i64 (ln (s.data.toList.take k)), .int .i64 (cl (s.data.toList.take k))]) ∧ w = w' := by
  have h := refPlace_any s k w hs
  rwa [clamp_in k s.size hk] at h
theorem place_at (s : ByteArray) (k : Nat) (w : World) (hs : s.size ≤ 1000000) (hk : k ≤ s.size) :
    Calls Tryd.prog 10 #[.string s, .int .i64 k] w fun e w' => e = .returned (.tuple #[.int .i64 (ln (s.data.toList.take k)), .int .i64 (cl (s.data.toList.take k))]) ∧ w = w' := by
  have h := place_any s k w hs
  rwa [clamp_in k s.size hk] at h

set_option maxHeartbeats 800000 in
theorem refOffset_hit (s : ByteArray) (K : Nat) (a b : Int) (w : World) (hs : s.size ≤ 1000000) (hK : K ≤ s.size) (ha : ((ln (s.data.toList.take K) : Nat) : Int) = a) (hb : ((cl (s.data.toList.take K) : Nat) : Int) = b) :
    Calls Tryd.prog 14 #[.string s, .int .i64 a, .int .i64 b] w fun e w' => e = .returned (.tuple #[.int .i64 K, .bool true]) ∧ w = w' := by
  have HA := Lib.hid ha
  have HB := Lib.hid hb
  clear ha hb
  have hl : s.data.toList.length = s.size := by simp
  have HL := Lib.hid hl
  clear hl
  go_enter Tryd.func14, Tryd.ntmps14
  go_wp2
  go_loop [8] (fun i => ∃ k : Nat, k ≤ K ∧ i = .int .i64 k) (fun i => (s.size + 1) - (intOf i).toNat)
  case atStart => exact ⟨0, Nat.zero_le _, rfl⟩
  case round =>
    obtain ⟨k, hk, rfl⟩ := hrel
    have hks : (k : Int) ≤ (s.size : Int) := by omega
    by_cases hlt : k < K
    · by_cases h1 : ((ln (s.data.toList.take k) : Nat) : Int) = a
      · have h2 : ¬ ((cl (s.data.toList.take k) : Nat) : Int) = b := fun h2 => by
          have e1 := HA.out
          have e2 := HB.out
          have e3 := HL.out
          have := place_inj (l := s.data.toList) (i := k) (k := K) (by omega) (by omega) (by omega) (by omega)
          omega
        have H1 := Lib.hid h1
        go_wp2_with (go_at_call 11; refine (refPlace_in s k _ hs (by omega)).mono ?_; rintro e w' ⟨rfl, rfl⟩)
        go_round
        case rel => exact ⟨k + 1, by omega, by go_num⟩
        case measure => simp [intOf]; omega
      · go_wp2_with (go_at_call 11; refine (refPlace_in s k _ hs (by omega)).mono ?_; rintro e w' ⟨rfl, rfl⟩)
        go_round
        case rel => exact ⟨k + 1, by omega, by go_num⟩
        case measure => simp [intOf]; omega
    · obtain rfl : k = K := by omega
      have h1 := HA.out
      have h2 := HB.out
      go_wp2_with (go_at_call 11; refine (refPlace_in s k _ hs (by omega)).mono ?_; rintro e w' ⟨rfl, rfl⟩)
      go_ret2
      exact ⟨rfl, rfl⟩

set_option maxHeartbeats 800000 in
theorem refOffset_miss (s : ByteArray) (a b : Int) (w : World) (hs : s.size ≤ 1000000) (hno : ∀ k, k ≤ s.size → ¬ (((ln (s.data.toList.take k) : Nat) : Int) = a ∧ ((cl (s.data.toList.take k) : Nat) : Int) = b)) :
    Calls Tryd.prog 14 #[.string s, .int .i64 a, .int .i64 b] w fun e w' => e = .returned (.tuple #[.int .i64 0, .bool false]) ∧ w = w' := by
  have HN := Lib.hid hno
  clear hno
  go_enter Tryd.func14, Tryd.ntmps14
  go_wp2
  go_loop [8] (fun i => ∃ k : Nat, k ≤ s.size + 1 ∧ i = .int .i64 k) (fun i => (s.size + 1) - (intOf i).toNat)
  case atStart => exact ⟨0, Nat.zero_le _, rfl⟩
  case round =>
    obtain ⟨k, hk, rfl⟩ := hrel
    by_cases hlt : k ≤ s.size
    · have hks : (k : Int) ≤ (s.size : Int) := by omega
      by_cases h1 : ((ln (s.data.toList.take k) : Nat) : Int) = a
      · have h2 : ¬ ((cl (s.data.toList.take k) : Nat) : Int) = b := fun h2 => HN.out k hlt ⟨h1, h2⟩
        go_wp2_with (go_at_call 11; refine (refPlace_in s k _ hs (by omega)).mono ?_; rintro e w' ⟨rfl, rfl⟩)
        go_round
        case rel => exact ⟨k + 1, by omega, by go_num⟩
        case measure => simp [intOf]; omega
      · go_wp2_with (go_at_call 11; refine (refPlace_in s k _ hs (by omega)).mono ?_; rintro e w' ⟨rfl, rfl⟩)
        go_round
        case rel => exact ⟨k + 1, by omega, by go_num⟩
        case measure => simp [intOf]; omega
    · have hks : ¬ (k : Int) ≤ (s.size : Int) := by omega
      go_wp2
      go_ret2
      exact ⟨rfl, rfl⟩

/-- The offset of the place of an offset. -/
theorem offset_place (s : ByteArray) (K : Nat) (w : World) (hs : s.size ≤ 1000000) (hK : K ≤ s.size) :
    Calls Tryd.prog 13 #[.string s, .int .i64 (ln (s.data.toList.take K)), .int .i64 (cl (s.data.toList.take K))] w fun e w' => e = .returned (.tuple #[.int .i64 K, .bool true]) ∧ Below w.heap.size w w' := by
  obtain ⟨x, hx, hc, e⟩ := place_in s.data.toList K (by simpa using hK)
  have h := offset_hit s _ _ x w hs hx hc
  rw [e] at h
  have e1 : ((ln (s.data.toList.take K) : Nat) : Int) = ((full (s.data.toList.take K)).length : Int) + 1 := by rw [ln_eq]; rfl
  have e2 : ((cl (s.data.toList.take K) : Nat) : Int) = ((rest (s.data.toList.take K)).length : Int) + 1 := by rw [cl_eq]; rfl
  rw [e1, e2]
  exact h

/-- For every line and column the two Offset answer alike. -/
theorem offset_both (s : ByteArray) (a b : Int) (hs : s.size ≤ 1000000) :
    ∃ (o : Int) (ok : Bool), (∀ w, Calls Tryd.prog 13 #[.string s, .int .i64 a, .int .i64 b] w fun e w' => e = .returned (.tuple #[.int .i64 o, .bool ok]) ∧ Below w.heap.size w w') ∧
      (∀ w, Calls Tryd.prog 14 #[.string s, .int .i64 a, .int .i64 b] w fun e w' => e = .returned (.tuple #[.int .i64 o, .bool ok]) ∧ w = w') := by
  have hl : s.data.toList.length = s.size := by simp
  by_cases hline : a < 1 ∨ ((lines s.data.toList).length : Int) < a
  · refine ⟨0, false, fun w => offset_line s a b w hs hline, fun w => refOffset_miss s a b w hs fun k hk h => ?_⟩
    obtain ⟨x, hx, hc, e⟩ := place_in s.data.toList k (by omega)
    have hj := (List.getElem?_eq_some_iff.1 hx).1
    have e1 := ln_eq (s.data.toList.take k)
    omega
  · obtain ⟨j, rfl⟩ : ∃ j : Nat, a = (j : Int) + 1 := ⟨(a - 1).toNat, by omega⟩
    obtain ⟨x, hx⟩ := some_at (L := lines s.data.toList) (j := j) (by omega)
    by_cases hcol : b < 1 ∨ (x.length : Int) + 1 < b
    · refine ⟨0, false, fun w => offset_col s j b x w hs hx hcol, fun w => refOffset_miss s _ b w hs fun k hk h => ?_⟩
      obtain ⟨x', hx', hc', e⟩ := place_in s.data.toList k (by omega)
      have e1 := ln_eq (s.data.toList.take k)
      have e2 := cl_eq (s.data.toList.take k)
      have ej : (full (s.data.toList.take k)).length = j := by omega
      rw [ej, hx] at hx'
      cases hx'
      omega
    · obtain ⟨c, rfl⟩ : ∃ c : Nat, b = (c : Int) + 1 := ⟨(b - 1).toNat, by omega⟩
      have hc : c ≤ x.length := by omega
      obtain ⟨e1, e2⟩ := place_of hx hc
      have hb := off_bound hx
      exact ⟨_, true, fun w => offset_hit s j c x w hs hx hc, fun w => refOffset_hit s (off (lines s.data.toList) j + c) _ _ w hs (by omega) (by rw [e1]; rfl) (by rw [e2]; rfl)⟩

/-- A string of the given bytes. -/
theorem bytes_back (s : ByteArray) : (⟨s.data.toList.toArray⟩ : ByteArray) = s := by apply ByteArray.ext; simp

set_option maxHeartbeats 800000 in
/-- The lines of a text, joined, are the text. -/
theorem join_lines (s : ByteArray) (g cap : Nat) (w : World) (hs : s.size ≤ 1000000) (hcells : ∀ j x, (lines s.data.toList)[j]? = some x → w.cell? ⟨g, j, none⟩ = some (str x)) :
    Calls Tryd.prog 16 #[.slice (some ⟨g, 0, none⟩) (lines s.data.toList).length cap] w fun e w' => e = .returned (.string s) ∧ w = w' := by
  have hl : s.data.toList.length = s.size := by simp
  have hn : (lines s.data.toList).length ≤ s.size + 1 := by unfold lines; have := full_len s.data.toList; simp at this ⊢; omega
  have HC := Lib.hid hcells
  have HJ := Lib.hid (joined_all s.data.toList)
  clear hcells
  go_enter Tryd.func16, Tryd.ntmps16
  go_wp2
  go_loop [3, 4] (fun a i => ∃ k : Nat, k ≤ (lines s.data.toList).length ∧ i = .int .i64 k ∧ a = .string ⟨(joined (lines s.data.toList) k).toArray⟩) (fun _ i => (lines s.data.toList).length - (intOf i).toNat)
  case atStart => exact ⟨0, Nat.zero_le _, rfl, by rw [joined_zero]⟩
  case round =>
    obtain ⟨k, hk, rfl, rfl⟩ := hrel
    have hjl := joined_len s.data.toList k hk
    have hkb : off (lines s.data.toList) k ≤ s.size + 1 := by
      have h1 := off_le (L := lines s.data.toList) k ((lines s.data.toList).length - k) (by omega)
      rwa [show k + ((lines s.data.toList).length - k) = (lines s.data.toList).length by omega, off_all, hl] at h1
    by_cases hlt : k < (lines s.data.toList).length
    · obtain ⟨y, hy⟩ := some_at hlt
      have hck := HC.out k y hy
      unfold str at hck
      have hyb := off_bound hy
      rw [hl] at hyb
      have HY := Lib.hid hy
      clear hy hl
      have hkl : (k : Int) < ((lines s.data.toList).length : Int) := by omega
      by_cases hk0 : k = 0
      · subst hk0
        have t1 : ¬ 9223372036854775807 < y.length := by omega
        go_wp2
        go_round
        case rel => exact ⟨1, by omega, rfl, by rw [joined_zero, joined_one HY.out]; exact congrArg Value.string (ByteArray.ext (by simp))⟩
        case measure => simp [intOf]; omega
      · have t0 : 0 < k := by omega
        have t1 : ¬ 9223372036854775807 < (joined (lines s.data.toList) k).length + 1 := by omega
        have t2 : ¬ 9223372036854775807 < (joined (lines s.data.toList) k).length + 1 + y.length := by omega
        go_wp2
        go_round
        case rel => exact ⟨k + 1, by omega, by go_num, by rw [joined_succ hk0 HY.out]; exact congrArg Value.string (ByteArray.ext (by simp))⟩
        case measure => simp [intOf]; omega
    · obtain rfl : k = (lines s.data.toList).length := by omega
      go_wp2
      go_ret
      exact ⟨by rw [HJ.out, bytes_back]; rfl, rfl⟩
end Go.Proofs.YtfhgmbfdhffidaaDoor
