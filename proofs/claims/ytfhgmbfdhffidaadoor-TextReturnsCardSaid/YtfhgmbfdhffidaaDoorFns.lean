/- The contracts of the functions that read a text and make no memory: Mod, text.Place, the reference's Place. -/
import Derived.Test.YtfhgmbfdhffidaaDoorRows
import Derived.Test.YtfhgmbfdhffidaaDoorMath
import Derived.Test.YtfhgmbfdhffidaaDoorShelf
import Derived.WalkKit
import Derived.WalkSpells
import Derived.WalkLawsBesides
import Derived.WalkSmall
import Derived.Lib.Hide
import Derived.Lib.ItoaLen
import Derived.Lib.ItoaMem
namespace Go.Proofs.YtfhgmbfdhffidaaDoor
open Go.RowKit Mth

theorem ret_int {k : IntKind} {a b : Int} (h : a = b) : Ending.returned (.int k a) = .returned (.int k b) := by rw [h]

theorem mod_any (a n : Int) (w : World) (h1 : 1 ≤ n) (h2 : n ≤ 1000000) :
    Calls Tryd.prog 12 #[.int .i64 a, .int .i64 n] w fun e w' => e = .returned (.int .i64 (a % n)) ∧ w = w' := by
  have e1 := Int.emod_nonneg a (b := n) (by omega)
  have e2 := Int.emod_lt_of_pos a (b := n) (by omega)
  have HT : Hid ((a.tmod n = a % n) ∨ (a.tmod n = a % n - n ∧ a % n ≠ 0)) := by
    show _ ∨ _
    rw [Int.tmod_eq_emod]
    by_cases hc : 0 ≤ a ∨ n ∣ a
    · left; simp only [hc, if_true]; omega
    · right
      simp only [hc, if_false]
      refine ⟨by omega, fun h => hc (.inr (Int.dvd_of_emod_eq_zero h))⟩
  have hb : -n < a.tmod n ∧ a.tmod n < n := by rcases HT.out with h | ⟨h, h'⟩ <;> omega
  have HE : Hid (a % n = if a.tmod n < 0 then a.tmod n + n else a.tmod n) := by
    show a % n = _
    rcases HT.out with h | ⟨h, h'⟩
    · rw [if_neg (by omega)]; omega
    · rw [if_pos (by omega)]; omega
  clear HT e1 e2
  obtain ⟨hb1, hb2⟩ := hb
  go_enter Tryd.func12, Tryd.ntmps12
  go_wp2
  all_goals
    go_ret
    refine ⟨ret_int ?_, rfl⟩
    rw [HE.out]
  · rw [if_pos (by assumption)]
  · rw [if_neg (by omega)]

set_option maxHeartbeats 400000 in
theorem place_any (s : ByteArray) (p : Int) (w : World) (hs : s.size ≤ 1000000) :
    Calls Tryd.prog 10 #[.string s, .int .i64 p] w fun e w' => e = .returned (.tuple #[.int .i64 (ln (s.data.toList.take (clamp p s.size))), .int .i64 (cl (s.data.toList.take (clamp p s.size)))]) ∧ w = w' := by
  have hq := clamp_eq p s.size
  have hl := clamp_le p s.size
  generalize clamp p s.size = q at hq hl ⊢
  go_enter Tryd.func10, Tryd.ntmps10
  go_wp2
  clear hq
  go_loop [6, 7, 15] (fun a b c => ∃ k : Nat, k ≤ q ∧ c = .int .i64 k ∧ a = .int .i64 (ln (s.data.toList.take k)) ∧ b = .int .i64 ((k : Int) + 1 - cl (s.data.toList.take k))) (fun _ _ c => q - (intOf c).toNat)
  case atStart => exact ⟨0, Nat.zero_le _, rfl, rfl, rfl⟩
  case round =>
    obtain ⟨k, hk, rfl, rfl, rfl⟩ := hrel
    obtain ⟨b1, b2, b3, b4⟩ := bd (s.data.toList.take k)
    have hlen : (s.data.toList.take k).length ≤ k := List.length_take_le _ _
    by_cases hlt : k < q
    · have hks : k < s.size := by omega
      have HL : Hid (ln (s.data.toList.take (k + 1)) = if s[k] = 10 then ln (s.data.toList.take k) + 1 else ln (s.data.toList.take k)) := by rw [take_snoc s k hks]; exact ln_snoc _ _
      have HC : Hid (cl (s.data.toList.take (k + 1)) = if s[k] = 10 then 1 else cl (s.data.toList.take k) + 1) := by rw [take_snoc s k hks]; exact cl_snoc _ _
      by_cases hc : s[k] = 10
      · have hc1 : (s[k].toNat : Int) = 10 := (byte_ten _).1 hc
        have HH := Lib.hid hc
        clear hc
        go_wp2
        go_round
        case rel => exact ⟨k + 1, by omega, by go_num, by rw [HL.out, if_pos HH.out]; go_num, by rw [HC.out, if_pos HH.out]; go_num⟩
        case measure => simp [intOf]; omega
      · have hc1 : ¬ (s[k].toNat : Int) = 10 := fun h => hc ((byte_ten _).2 h)
        have HH := Lib.hid hc
        clear hc
        go_wp2
        go_round
        case rel => exact ⟨k + 1, by omega, by go_num, by rw [HL.out, if_neg HH.out], by rw [HC.out, if_neg HH.out]; go_num⟩
        case measure => simp [intOf]; omega
    · obtain rfl : k = q := by omega
      go_wp2
      go_ret2
      exact ⟨by go_num, rfl⟩

set_option maxHeartbeats 400000 in
theorem refPlace_any (s : ByteArray) (p : Int) (w : World) (hs : s.size ≤ 1000000) :
    Calls Tryd.prog 11 #[.string s, .int .i64 p] w fun e w' => e = .returned (.tuple #[.int .i64 (ln (s.data.toList.take (clamp p s.size))), .int .i64 (cl (s.data.toList.take (clamp p s.size)))]) ∧ w = w' := by
  have hq := clamp_eq p s.size
  have hl := clamp_le p s.size
  generalize clamp p s.size = q at hq hl ⊢
  go_enter Tryd.func11, Tryd.ntmps11
  go_wp2
  clear hq
  go_loop [6, 7, 8] (fun a b c => ∃ k : Nat, k ≤ q ∧ c = .int .i64 k ∧ a = .int .i64 (ln (s.data.toList.take k)) ∧ b = .int .i64 (cl (s.data.toList.take k))) (fun _ _ c => q - (intOf c).toNat)
  case atStart => exact ⟨0, Nat.zero_le _, rfl, rfl, rfl⟩
  case round =>
    obtain ⟨k, hk, rfl, rfl, rfl⟩ := hrel
    obtain ⟨b1, b2, b3, b4⟩ := bd (s.data.toList.take k)
    have hlen : (s.data.toList.take k).length ≤ k := List.length_take_le _ _
    by_cases hlt : k < q
    · have hks : k < s.size := by omega
      have HL : Hid (ln (s.data.toList.take (k + 1)) = if s[k] = 10 then ln (s.data.toList.take k) + 1 else ln (s.data.toList.take k)) := by rw [take_snoc s k hks]; exact ln_snoc _ _
      have HC : Hid (cl (s.data.toList.take (k + 1)) = if s[k] = 10 then 1 else cl (s.data.toList.take k) + 1) := by rw [take_snoc s k hks]; exact cl_snoc _ _
      by_cases hc : s[k] = 10
      · have hc1 : (s[k].toNat : Int) = 10 := (byte_ten _).1 hc
        have HH := Lib.hid hc
        clear hc
        go_wp2
        go_round
        case rel => exact ⟨k + 1, by omega, by go_num, by rw [HL.out, if_pos HH.out]; go_num, by rw [HC.out, if_pos HH.out]; rfl⟩
        case measure => simp [intOf]; omega
      · have hc1 : ¬ (s[k].toNat : Int) = 10 := fun h => hc ((byte_ten _).2 h)
        have HH := Lib.hid hc
        clear hc
        go_wp2
        go_round
        case rel => exact ⟨k + 1, by omega, by go_num, by rw [HL.out, if_neg HH.out], by rw [HC.out, if_neg HH.out]; go_num⟩
        case measure => simp [intOf]; omega
    · obtain rfl : k = q := by omega
      go_wp2
      go_ret2
      exact ⟨rfl, rfl⟩


theorem dig_at (d : Nat) (h : d < 10) : (⟨#[48, 49, 50, 51, 52, 53, 54, 55, 56, 57]⟩ : ByteArray).extract d (d + 1) = ⟨#[UInt8.ofNat (48 + d)]⟩ := by
  have all : ∀ d : Fin 10, (⟨#[48, 49, 50, 51, 52, 53, 54, 55, 56, 57]⟩ : ByteArray).extract d.val (d.val + 1) = ⟨#[UInt8.ofNat (48 + d.val)]⟩ := by decide +kernel
  exact all ⟨d, h⟩

theorem dig_step (k : Nat) : (if k / 10 = 0 then [] else Lib.decDigits (k / 10)) ++ [UInt8.ofNat (48 + k % 10)] = Lib.decDigits k := by
  conv => rhs; rw [Lib.decDigits]
  by_cases h10 : k < 10
  · rw [dif_pos h10, if_pos (by omega), Nat.mod_eq_of_lt h10]; rfl
  · rw [dif_neg h10, if_neg (by omega)]
theorem dig_len (n : Nat) (h : n < 18446744073709551616) : (Lib.decDigits n).length ≤ 20 := by rw [Lib.decDigits_length]; exact Lib.nDigits_le20 n h
/-- What a round does to the digits. -/
theorem dig_round (k n : Nat) (x : List UInt8) (h : k ≠ 0) (hx : (if k = 0 then [] else Lib.decDigits k) ++ x = Lib.decDigits n) :
    ∃ y, (⟨#[48, 49, 50, 51, 52, 53, 54, 55, 56, 57]⟩ : ByteArray).extract (k % 10) (k % 10 + 1) ++ ⟨x.toArray⟩ = ⟨y.toArray⟩ ∧ (if k / 10 = 0 then [] else Lib.decDigits (k / 10)) ++ y = Lib.decDigits n := by
  refine ⟨UInt8.ofNat (48 + k % 10) :: x, ?_, ?_⟩
  · rw [dig_at _ (by omega)]; apply ByteArray.ext; simp
  · rw [if_neg h] at hx
    rw [← hx, ← dig_step k]; simp

set_option maxHeartbeats 400000 in
theorem refNumber_pos (n : Nat) (w : World) (h1 : 1 ≤ n) (h2 : n ≤ 9223372036854775807) :
    Calls Tryd.prog 18 #[.int .i64 n] w fun e w' => e = .returned (.string ⟨(Lib.itoa n).toArray⟩) ∧ w = w' := by
  have hz : ¬ (n : Int) = 0 := by omega
  have HI := Lib.hid (Lib.itoa_nonneg n)
  go_enter Tryd.func18, Tryd.ntmps18
  go_wp2
  go_loop [3, 4] (fun a b => ∃ (k : Nat) (x : List UInt8), k ≤ n ∧ b = .int .i64 k ∧ a = .string ⟨x.toArray⟩ ∧ (if k = 0 then [] else Lib.decDigits k) ++ x = Lib.decDigits n) (fun _ b => (intOf b).toNat)
  case atStart => exact ⟨n, [], by omega, rfl, rfl, by rw [if_neg (by omega)]; simp⟩
  case round =>
    obtain ⟨k, x, hk, rfl, rfl, hx⟩ := hrel
    have hxl : x.length ≤ 20 := by
      have := dig_len n (by omega); rw [← hx, List.length_append] at this; omega
    have HX := Lib.hid hx
    clear hx
    by_cases hk0 : k = 0
    · subst hk0
      go_wp2
      go_ret
      exact ⟨by rw [HI.out, ← HX.out]; simp, rfl⟩
    · have h9 : ¬ 9223372036854775807 < min (k % 10 + 1) 10 - k % 10 + x.length := by omega
      obtain ⟨y, hy1, hy2⟩ := dig_round k n x hk0 HX.out
      have HY1 := Lib.hid hy1
      have HY2 := Lib.hid hy2
      clear hy1 hy2
      go_wp2
      go_round
      case rel => exact ⟨k / 10, y, by omega, by go_num, by rw [HY1.out], HY2.out⟩
      case measure => simp [intOf]; omega

set_option maxHeartbeats 400000 in
theorem refNumber_neg (n : Nat) (w : World) (h1 : 1 ≤ n) (h2 : n ≤ 9223372036854775808) :
    Calls Tryd.prog 18 #[.int .i64 (-(n : Int))] w fun e w' => e = .returned (.string ⟨(Lib.itoa (-(n : Int))).toArray⟩) ∧ w = w' := by
  have hz : ¬ (n : Int) = 0 := by omega
  have HI := Lib.hid (Lib.itoa_neg n h1)
  go_enter Tryd.func18, Tryd.ntmps18
  go_wp2
  go_loop [3, 4] (fun a b => ∃ (k : Nat) (x : List UInt8), k ≤ n ∧ b = .int .i64 (-(k : Int)) ∧ a = .string ⟨x.toArray⟩ ∧ (if k = 0 then [] else Lib.decDigits k) ++ x = Lib.decDigits n) (fun _ b => (- (intOf b)).toNat)
  case atStart => exact ⟨n, [], by omega, rfl, rfl, by rw [if_neg (by omega)]; simp⟩
  case round =>
    obtain ⟨k, x, hk, rfl, rfl, hx⟩ := hrel
    have hxl : x.length ≤ 20 := by
      have := dig_len n (by omega); rw [← hx, List.length_append] at this; omega
    have HX := Lib.hid hx
    clear hx
    by_cases hk0 : k = 0
    · subst hk0
      go_wp2
      go_ret
      exact ⟨by rw [HI.out, ← HX.out]; simp; apply ByteArray.ext; simp, rfl⟩
    · have h9 : ¬ 9223372036854775807 < min (k % 10 + 1) 10 - k % 10 + x.length := by omega
      obtain ⟨y, hy1, hy2⟩ := dig_round k n x hk0 HX.out
      have HY1 := Lib.hid hy1
      have HY2 := Lib.hid hy2
      clear hy1 hy2
      go_wp2
      · go_round
        case rel => exact ⟨k / 10, y, by omega, by go_num, by rw [HY1.out], HY2.out⟩
        case measure => simp [intOf]; omega
      · have ea : (-((k : Int) % 10)).toNat = k % 10 := by omega
        have eb : (-((k : Int) % 10) + 1).toNat = k % 10 + 1 := by omega
        have HA := Lib.hid ea
        have HB := Lib.hid eb
        clear ea eb
        go_round
        case rel => exact ⟨k / 10, y, by omega, by go_num, by rw [HA.out, HB.out, HY1.out], HY2.out⟩
        case measure => simp [intOf]; omega

theorem refNumber_any (n : Int) (w : World) (h1 : -9223372036854775808 ≤ n) (h2 : n ≤ 9223372036854775807) :
    Calls Tryd.prog 18 #[.int .i64 n] w fun e w' => e = .returned (.string ⟨(Lib.itoa n).toArray⟩) ∧ w = w' := by
  by_cases hz : n = 0
  · subst hz
    go_enter Tryd.func18, Tryd.ntmps18
    go_wp2
    go_ret
    exact ⟨by kernel_rfl, rfl⟩
  · by_cases hn : n < 0
    · obtain ⟨u, rfl⟩ : ∃ u : Nat, n = -(u : Int) := ⟨n.natAbs, by omega⟩
      exact refNumber_neg u w (by omega) (by omega)
    · obtain ⟨u, rfl⟩ : ∃ u : Nat, n = u := ⟨n.toNat, by omega⟩
      exact refNumber_pos u w (by omega) (by omega)

theorem Tryd.info9 : (Tryd.prog.info? 9).map (fun i => (i.zero, i.size, i.bytes)) = some (some (.string ByteArray.empty), 1, 16) := by kernel_rfl
/-- A list of bytes as a string's value. -/
def str (x : List UInt8) : Value := .string ⟨x.toArray⟩
/-- What Lines hands back: a row of the call's own that holds the lines. -/
def LinesOut (s : ByteArray) (w : World) (e : Ending) (w' : World) : Prop :=
  ∃ v, e = .returned v ∧ w'.ownsRow w.heap.size 9 1 v (lines s.data.toList).length ((lines s.data.toList).map str) ∧ Below w.heap.size w w'

set_option maxHeartbeats 800000 in
theorem lines_any (s : ByteArray) (w : World) (hs : s.size ≤ 1000000) :
    Calls Tryd.prog 15 #[.string s] w (LinesOut s w) := by
  obtain ⟨i0, hi, hz0, hz1, hz2⟩ := info_parts Tryd.info9
  go_enter Tryd.func15, Tryd.ntmps15
  go_wp2
  go_loopw [3, 4, 8] (fun v b c wr => ∃ k : Nat, k ≤ s.size ∧ c = .int .i64 k ∧ b = .int .i64 (bg (s.data.toList.take k)) ∧ wr.ownsRow w.heap.size 9 1 v (full (s.data.toList.take k)).length ((full (s.data.toList.take k)).map str) ∧ Below w.heap.size w wr) (fun _ _ c _ => s.size - (intOf c).toNat)
  case atStart => exact ⟨0, Nat.zero_le _, rfl, rfl, World.ownsRow_nil _ _ _ _, Below.refl _ _⟩
  case round =>
    obtain ⟨k, hk, rfl, rfl, hown, hbl⟩ := hrel
    have hb1 := bg_le (s.data.toList.take k)
    have hb2 := full_len (s.data.toList.take k)
    have hlen : (s.data.toList.take k).length = k := by rw [List.length_take]; simp; omega
    rw [hlen] at hb1 hb2
    have hbk : bg (s.data.toList.take k) ≤ k := by omega
    have HX := Lib.hid (piece s k)
    have hsz := hbl.size
    clear hlen hb1
    by_cases hlt : k < s.size
    · have HT := Lib.hid (take_snoc s k hlt)
      by_cases hc : s[k] = 10
      · have hc1 : (s[k].toNat : Int) = 10 := (byte_ten _).1 hc
        have HH := Lib.hid hc
        clear hc
        go_wp2_with (at_builtin; refine wpList_append_own _ rfl _ _ 30 rfl w.heap.size 9 i0 (.string ByteArray.empty) 1 16 Tryd.underlying30 hi hz0 hz1 hz2 rfl (by decide) _ _ _ rfl (hown.alloc _) ⟨wr.heap.size, 0, none⟩ 1 1 [.string (s.extract (bg (s.data.toList.take k)) k)] rfl rfl (cell_one_new _ _ _) (fun x hx => by simp at hx; subst hx; rfl) (by unfold maxLen; omega) (by omega) (by simp; omega) ?_)
        intro v' w1 hown' hgrow _
        have R1 : w1.ownsRow w.heap.size 9 1 v' (full (s.data.toList.take (k + 1))).length ((full (s.data.toList.take (k + 1))).map str) := by
          rw [HT.out, HH.out, full_hit]; simpa [HX.out, str] using hown'
        have R2 : Below w.heap.size w w1 := Below.grown (hbl.alloc (by omega) _) hgrow (by simp; omega) (fun j hj => (hown.lt j hj).1)
        have HB : Hid (bg (s.data.toList.take (k + 1)) = k + 1) := by
          show _ = _
          rw [HT.out, HH.out, bg_hit, List.length_take]; simp; omega
        clear hown' hgrow hown hbl hsz
        go_wp2
        go_roundw
        case rel => exact ⟨k + 1, by omega, by go_num, by rw [HB.out]; go_num, R1, R2⟩
        case measure => simp [intOf]; omega
      · have hc1 : ¬ (s[k].toNat : Int) = 10 := fun h => hc ((byte_ten _).2 h)
        have HH := Lib.hid hc
        clear hc
        go_wp2
        go_roundw
        case rel => exact ⟨k + 1, by omega, by go_num, by rw [HT.out, bg_miss _ _ HH.out], by rw [HT.out, full_miss _ _ HH.out]; exact hown, hbl⟩
        case measure => simp [intOf]; omega
    · obtain rfl : k = s.size := by omega
      go_wp2_with (at_builtin; refine wpList_append_own _ rfl _ _ 30 rfl w.heap.size 9 i0 (.string ByteArray.empty) 1 16 Tryd.underlying30 hi hz0 hz1 hz2 rfl (by decide) _ _ _ rfl (hown.alloc _) ⟨wr.heap.size, 0, none⟩ 1 1 [.string (s.extract (bg (s.data.toList.take s.size)) s.size)] rfl rfl (cell_one_new _ _ _) (fun x hx => by simp at hx; subst hx; rfl) (by unfold maxLen; omega) (by omega) (by simp; omega) ?_)
      intro v' w1 hown' hgrow _
      have HW : Hid (s.data.toList.take s.size = s.data.toList) := List.take_of_length_le (by simp)
      have R1 : w1.ownsRow w.heap.size 9 1 v' (lines s.data.toList).length ((lines s.data.toList).map str) := by
        rw [HX.out, HW.out] at hown'
        unfold lines; simpa [str] using hown'
      have R2 : Below w.heap.size w w1 := Below.grown (hbl.alloc (by omega) _) hgrow (by simp; omega) (fun j hj => (hown.lt j hj).1)
      clear hown' hgrow hown hbl hsz
      go_wp2
      go_ret
      exact ⟨_, rfl, R1, R2⟩
end Go.Proofs.YtfhgmbfdhffidaaDoor
