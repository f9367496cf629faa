/- The contracts of the walks over a word. -/
import Derived.Test.YthhhbjegnocpmaaFns
namespace Go.Proofs.Ythhhbjegnocpmaa
open Go.RowKit Mth

theorem commentSize_any (s : ByteArray) (w : World) : Calls Try.prog 27 #[.string s] w fun e w' => e = .returned (.int .i64 (csize (bl s))) ∧ w = w' := by
  have hi := csize_index (bl s)
  have hl := csize_le (bl s)
  rw [bl_len] at hi hl
  have HI : Hid (∀ w, Calls Try.prog 38 #[.string s, .int .u8 10] w fun e w' => e = .returned (.int .i64 (if csize (bl s) < s.size then (csize (bl s) : Int) else -1)) ∧ w' = w) := fun w => by
    have h := Try.strings_IndexByte s 10 w
    rw [show (10 : Int).toNat.toUInt8 = 10 by decide, show s.data.toList = bl s from rfl, hi] at h
    exact h
  clear hi
  generalize csize (bl s) = n at *
  by_cases h : n < s.size
  · go_enter Try.func27, Try.ntmps27
    go_wp2_with (go_at_call 38; refine (HI.out _).mono ?_; rintro e w' ⟨rfl, rfl⟩)
    go_ret
    exact ⟨rfl, rfl⟩
  · obtain rfl : n = s.size := by omega
    go_enter Try.func27, Try.ntmps27
    go_wp2_with (go_at_call 38; refine (HI.out _).mono ?_; rintro e w' ⟨rfl, rfl⟩)
    go_ret
    exact ⟨rfl, rfl⟩

set_option maxHeartbeats 800000 in
theorem wordSize_any (s : ByteArray) (w : World) (hs : s.size ≤ 140737488355328) : Calls Try.prog 29 #[.string s] w fun e w' => e = .returned (.int .i64 (wsize (bl s))) ∧ w = w' := by
  have hle := wsize_le (bl s)
  rw [bl_len] at hle
  go_enter Try.func29, Try.ntmps29
  go_wp2
  go_loop [3] (fun i => ∃ k : Nat, k ≤ wsize (bl s) ∧ i = .int .i64 k) (fun i => s.size - (intOf i).toNat)
  case atStart => exact ⟨0, Nat.zero_le _, rfl⟩
  case round =>
    obtain ⟨k, hk, rfl⟩ := hrel
    by_cases hlt : k < s.size
    · have hst := tw_step inn (bl s) k (by rw [bl_len]; exact hlt) hk
      rw [bl_get s k hlt, ← wsize_tw] at hst
      have HS := Lib.hid hst
      clear hst
      have HN : Hid (inn s[k] = (low s[k] || upp s[k] || dig s[k] || decide (s[k].toNat = 95))) := rfl
      have yes : inn s[k] = true → k + 1 ≤ wsize (bl s) := HS.out.1
      cases h1 : low s[k] with
      | true =>
        have h6 := Lib.hid (yes (by rw [HN.out, h1]; rfl))
        clear yes
        go_wp2_with (go_at_call 40; refine (isLow_any _ _).mono ?_; rintro e w' ⟨rfl, rfl⟩)
        go_round
        case rel => exact ⟨k + 1, h6.out, by go_num⟩
        case measure => simp [intOf]; omega
      | false =>
      cases h2 : upp s[k] with
      | true =>
        have h6 := Lib.hid (yes (by rw [HN.out, h1, h2]; rfl))
        clear yes
        go_wp2_with (first
          | (go_at_call 40; refine (isLow_any _ _).mono ?_; rintro e w' ⟨rfl, rfl⟩)
          | (go_at_call 41; refine (isUpp_any _ _).mono ?_; rintro e w' ⟨rfl, rfl⟩))
        go_round
        case rel => exact ⟨k + 1, h6.out, by go_num⟩
        case measure => simp [intOf]; omega
      | false =>
      cases h3 : dig s[k] with
      | true =>
        have h6 := Lib.hid (yes (by rw [HN.out, h1, h2, h3]; rfl))
        clear yes
        go_wp2_with (first
          | (go_at_call 40; refine (isLow_any _ _).mono ?_; rintro e w' ⟨rfl, rfl⟩)
          | (go_at_call 41; refine (isUpp_any _ _).mono ?_; rintro e w' ⟨rfl, rfl⟩)
          | (go_at_call 42; refine (isDig_any _ _).mono ?_; rintro e w' ⟨rfl, rfl⟩))
        go_round
        case rel => exact ⟨k + 1, h6.out, by go_num⟩
        case measure => simp [intOf]; omega
      | false =>
      cases h4 : ((s[k].toNat : Int) == 95) with
      | true =>
        have h6 := Lib.hid (yes (by rw [beq_iff_eq] at h4; rw [HN.out, h1, h2, h3]; simp; omega))
        clear yes
        go_wp2_with (first
          | (go_at_call 40; refine (isLow_any _ _).mono ?_; rintro e w' ⟨rfl, rfl⟩)
          | (go_at_call 41; refine (isUpp_any _ _).mono ?_; rintro e w' ⟨rfl, rfl⟩)
          | (go_at_call 42; refine (isDig_any _ _).mono ?_; rintro e w' ⟨rfl, rfl⟩))
        go_round
        case rel => exact ⟨k + 1, h6.out, by go_num⟩
        case measure => simp [intOf]; omega
      | false =>
        have h6 := Lib.hid (HS.out.2 (by rw [beq_eq_false_iff_ne] at h4; rw [HN.out, h1, h2, h3]; simp; omega))
        clear yes
        go_wp2_with (first
          | (go_at_call 40; refine (isLow_any _ _).mono ?_; rintro e w' ⟨rfl, rfl⟩)
          | (go_at_call 41; refine (isUpp_any _ _).mono ?_; rintro e w' ⟨rfl, rfl⟩)
          | (go_at_call 42; refine (isDig_any _ _).mono ?_; rintro e w' ⟨rfl, rfl⟩))
        go_ret
        exact ⟨ret_int (by rw [← h6.out]), rfl⟩
    · have : k = wsize (bl s) := by omega
      clear hle
      go_wp2
      go_ret
      exact ⟨ret_int (by omega), rfl⟩

theorem kw_no {s : ByteArray} (h : kw (bl s) = false) : ∀ a : List UInt8, a ∈ kws → (s.toList == a) = false := by
  intro a ha
  rw [Lib.toList_data]
  cases hb : s.data.toList == a with
  | false => rfl
  | true =>
    rw [beq_iff_eq] at hb
    unfold kw bl at h
    rw [hb] at h
    simp at h
    exact absurd ha h
theorem kw_yes {s : ByteArray} (h : kw (bl s) = true) : s = ⟨#[100, 97, 116, 97]⟩ ∨ s = ⟨#[108, 101, 116]⟩ ∨ s = ⟨#[114, 101, 99]⟩ ∨ s = ⟨#[105, 110]⟩ ∨ s = ⟨#[99, 97, 115, 101]⟩ ∨ s = ⟨#[111, 102]⟩ ∨ s = ⟨#[101, 110, 100]⟩ := by
  unfold kw kws at h
  simp only [decide_eq_true_eq, List.mem_cons, List.not_mem_nil, or_false] at h
  simpa [bl_eq, bl] using h
theorem isKeyword_any (s : ByteArray) (w : World) : Calls Try.prog 43 #[.string s] w fun e w' => e = .returned (.bool (kw (bl s))) ∧ w = w' := by
  cases hk : kw (bl s) with
  | true =>
    rcases kw_yes hk with h | h | h | h | h | h | h
    all_goals
      subst h
      clear hk
      go_enter Try.func43, Try.ntmps43
      go_wp2
      go_ret
      exact ⟨rfl, rfl⟩
  | false =>
    have h1 := kw_no hk [100, 97, 116, 97] (by decide)
    have h2 := kw_no hk [108, 101, 116] (by decide)
    have h3 := kw_no hk [114, 101, 99] (by decide)
    have h4 := kw_no hk [105, 110] (by decide)
    have h5 := kw_no hk [99, 97, 115, 101] (by decide)
    have h6 := kw_no hk [111, 102] (by decide)
    have h7 := kw_no hk [101, 110, 100] (by decide)
    clear hk
    go_enter Try.func43, Try.ntmps43
    go_wp2
    go_ret
    exact ⟨rfl, rfl⟩
end Go.Proofs.Ythhhbjegnocpmaa
