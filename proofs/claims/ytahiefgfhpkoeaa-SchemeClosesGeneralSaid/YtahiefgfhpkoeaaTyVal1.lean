/- The contracts of the package's functions on names and numbers. -/
import Derived.Test.YtahiefgfhpkoeaaTyRep
import Derived.Handy
namespace Go.Proofs.Ytahiefgfhpkoeaa
open Go.RowKit Mth

theorem tyWordByte_any (c : UInt8) (w : World) : Calls Try.prog 106 #[.int .u8 c.toNat] w fun e w' => e = .returned (.bool (inn c)) ∧ w = w' := by
  go_enter Try.func106, Try.ntmps106
  go_wp2
  all_goals
    go_ret
    exact ⟨ret_bool (by unfold inn low upp dig; rw [Bool.eq_iff_iff]; simp; omega), rfl⟩
theorem tyKeyword_any (s : ByteArray) (w : World) : Calls Try.prog 84 #[.string s] w fun e w' => e = .returned (.bool (kw (bl s))) ∧ w = w' := by
  cases hk : kw (bl s) with
  | true =>
    rcases kw_yes hk with h | h | h | h | h | h | h
    all_goals
      subst h
      clear hk
      go_enter Try.func84, Try.ntmps84
      go_wp2
      go_ret
      exact ⟨rfl, rfl⟩
  | false =>
    have h1 := kw_no hk [100, 97, 116, 97] (by decide)
    have h2 := kw_no hk [108, 101, 116] (by decide)
    have h3 := kw_no hk [114, 101, 99] (by decide)
    have h4 := kw_no hk [105, 110] (by decide)
    have h5 := kw_no hk [99, 97, 115, 101] (by decide)
    have h6 := kw_no hk [111, 102] (by decide)
    have h7 := kw_no hk [101, 110, 100] (by decide)
    clear hk
    go_enter Try.func84, Try.ntmps84
    go_wp2
    go_ret
    exact ⟨rfl, rfl⟩
theorem tyWord_any (s : ByteArray) (w : World) : Calls Try.prog 83 #[.string s] w fun e w' => e = .returned (.bool (wrd (bl s) && decide (s.size ≤ 12))) ∧ w = w' := by
  have HE := Lib.hid (wrd_eq s)
  have hn := nil_decide s
  by_cases hz : s.size = 0
  · have hb : (s.toList == []) = true := by rw [hn]; simp [hz]
    clear hn
    go_enter Try.func83, Try.ntmps83
    go_wp2
    go_ret
    exact ⟨ret_bool (by rw [HE.out]; simp [hz]), rfl⟩
  have hb : (s.toList == []) = false := by rw [hn]; simp [hz]
  clear hn
  by_cases h12 : s.size ≤ 12
  · have hle := tw_le inn (bl s)
    rw [bl_len] at hle
    go_enter Try.func83, Try.ntmps83
    go_wp2
    go_loop [13] (fun i => ∃ k : Nat, k ≤ tw inn (bl s) ∧ i = .int .i64 k) (fun i => s.size - (intOf i).toNat)
    case atStart => exact ⟨0, Nat.zero_le _, rfl⟩
    case round =>
      obtain ⟨k, hk, rfl⟩ := hrel
      by_cases hlt : k < s.size
      · have hst := tw_step inn (bl s) k (by rw [bl_len]; exact hlt) hk
        rw [bl_get s k hlt] at hst
        have HS := Lib.hid hst
        clear hst
        cases h3 : inn s[k] with
        | true =>
          have h6 := Lib.hid (HS.out.1 h3)
          go_wp2_with (go_at_call 106; refine (tyWordByte_any _ _).mono ?_; rintro e w' ⟨rfl, rfl⟩)
          go_round
          case rel => exact ⟨k + 1, h6.out, by go_num⟩
          case measure => simp [intOf]; omega
        | false =>
          have h6 := Lib.hid (HS.out.2 h3)
          go_wp2_with (go_at_call 106; refine (tyWordByte_any _ _).mono ?_; rintro e w' ⟨rfl, rfl⟩)
          go_ret
          exact ⟨ret_bool (by have := h6.out; rw [HE.out]; symm; simp; omega), rfl⟩
      · have HT : Hid (tw inn (bl s) = s.size) := by show _ = _; omega
        clear hle
        go_wp2
        go_ret
        exact ⟨ret_bool (by rw [HE.out, HT.out]; simp [hz]), rfl⟩
  · go_enter Try.func83, Try.ntmps83
    go_wp2
    go_ret
    exact ⟨ret_bool (by simp [h12]), rfl⟩
theorem tyUpper_any (s : ByteArray) (w : World) : Calls Try.prog 80 #[.string s] w fun e w' => e = .returned (.bool (isUp (bl s))) ∧ w = w' := by
  cases h1 : (wrd (bl s) && decide (s.size ≤ 12)) with
  | false =>
    have HE : Hid (isUp (bl s) = false) := by
      show _ = _
      unfold isUp
      rw [bl_len]
      rw [Bool.and_eq_false_iff] at h1
      rcases h1 with h | h <;> simp [h]
    have HW : Hid (∀ w, Calls Try.prog 83 #[.string s] w fun e w' => e = .returned (.bool false) ∧ w = w') := fun w => by have := tyWord_any s w; rwa [h1] at this
    clear h1
    go_enter Try.func80, Try.ntmps80
    go_wp2_with (go_at_call 83; refine (HW.out _).mono ?_; rintro e w' ⟨rfl, rfl⟩)
    go_ret
    exact ⟨ret_bool HE.out.symm, rfl⟩
  | true =>
    have HW : Hid (∀ w, Calls Try.prog 83 #[.string s] w fun e w' => e = .returned (.bool true) ∧ w = w') := fun w => by have := tyWord_any s w; rwa [h1] at this
    rw [Bool.and_eq_true] at h1
    have h0 := wrd_pos h1.1
    have HE : Hid (isUp (bl s) = (decide (65 ≤ s[0].toNat) && decide (s[0].toNat ≤ 90))) := by
      show _ = _
      unfold isUp
      rw [hd_get upp h0, bl_len, h1.1, h1.2]
      unfold upp; simp
    clear h1
    go_enter Try.func80, Try.ntmps80
    go_wp2_with (go_at_call 83; refine (HW.out _).mono ?_; rintro e w' ⟨rfl, rfl⟩)
    all_goals
      go_ret
      exact ⟨ret_bool (by rw [HE.out, Bool.eq_iff_iff]; simp; omega), rfl⟩
theorem tyLower_any (s : ByteArray) (w : World) : Calls Try.prog 65 #[.string s] w fun e w' => e = .returned (.bool (isLo (bl s))) ∧ w = w' := by
  cases h1 : (wrd (bl s) && decide (s.size ≤ 12)) with
  | false =>
    have HE : Hid (isLo (bl s) = false) := by
      show _ = _
      unfold isLo
      rw [bl_len]
      rw [Bool.and_eq_false_iff] at h1
      rcases h1 with h | h <;> simp [h]
    have HW : Hid (∀ w, Calls Try.prog 83 #[.string s] w fun e w' => e = .returned (.bool false) ∧ w = w') := fun w => by have := tyWord_any s w; rwa [h1] at this
    clear h1
    go_enter Try.func65, Try.ntmps65
    go_wp2_with (go_at_call 83; refine (HW.out _).mono ?_; rintro e w' ⟨rfl, rfl⟩)
    go_ret
    exact ⟨ret_bool HE.out.symm, rfl⟩
  | true =>
    have HW : Hid (∀ w, Calls Try.prog 83 #[.string s] w fun e w' => e = .returned (.bool true) ∧ w = w') := fun w => by have := tyWord_any s w; rwa [h1] at this
    rw [Bool.and_eq_true] at h1
    have h0 := wrd_pos h1.1
    have HE : Hid (isLo (bl s) = (decide (97 ≤ s[0].toNat) && decide (s[0].toNat ≤ 122) && !kw (bl s))) := by
      show _ = _
      unfold isLo
      rw [hd_get low h0, bl_len, h1.1, h1.2]
      unfold low; simp
    clear h1
    go_enter Try.func65, Try.ntmps65
    go_wp2_with (first
      | (go_at_call 83; refine (HW.out _).mono ?_; rintro e w' ⟨rfl, rfl⟩)
      | (go_at_call 84; refine (tyKeyword_any _ _).mono ?_; rintro e w' ⟨rfl, rfl⟩))
    all_goals
      go_ret
      exact ⟨ret_bool (by rw [HE.out, Bool.eq_iff_iff]; simp; omega), rfl⟩
theorem tyId_any (i : Int) (w : World) : Calls Try.prog 61 #[.int .i64 i] w fun e w' => e = .returned (.bool (decide (0 ≤ i) && decide (i ≤ 1000000))) ∧ w = w' := by
  go_enter Try.func61, Try.ntmps61
  go_wp2
  all_goals
    go_ret
    exact ⟨ret_bool (by rw [Bool.eq_iff_iff]; simp; omega), rfl⟩
theorem tyHome_any (i : Int) (w : World) : Calls Try.prog 62 #[.int .i64 i] w fun e w' => e = .returned (.bool (decide (-1 ≤ i) && decide (i ≤ 1000000))) ∧ w = w' := by
  go_enter Try.func62, Try.ntmps62
  go_wp2
  all_goals
    go_ret
    exact ⟨ret_bool (by rw [Bool.eq_iff_iff]; simp; omega), rfl⟩
/-- May a constructor with this name have so many arguments? -/
def conOk (n : ByteArray) (c : Nat) : Bool := if n.toList == [45, 62] then c == 2 else if n.toList == [73, 110, 116] then c == 0 else isUp (bl n) && decide (c ≤ 4)
theorem tyTake_any (n : ByteArray) (c : Nat) (w : World) : Calls Try.prog 63 #[.string n, .int .i64 c] w fun e w' => e = .returned (.bool (conOk n c)) ∧ w = w' := by
  cases h1 : (n.toList == [45, 62]) with
  | true =>
    have HE : Hid (conOk n c = (c == 2)) := by show _ = _; unfold conOk; rw [h1]; rfl
    go_enter Try.func63, Try.ntmps63
    go_wp2
    all_goals
      go_ret
      exact ⟨ret_bool (by rw [HE.out, Bool.eq_iff_iff]; simp; omega), rfl⟩
  | false =>
    cases h2 : (n.toList == [73, 110, 116]) with
    | true =>
      have HE : Hid (conOk n c = (c == 0)) := by show _ = _; unfold conOk; rw [h1, h2]; rfl
      go_enter Try.func63, Try.ntmps63
      go_wp2
      all_goals
        go_ret
        exact ⟨ret_bool (by rw [HE.out, Bool.eq_iff_iff]; simp), rfl⟩
    | false =>
      have HE : Hid (conOk n c = (isUp (bl n) && decide (c ≤ 4))) := by show _ = _; unfold conOk; rw [h1, h2]; rfl
      cases h3 : isUp (bl n)
      all_goals
        have HU : Hid (∀ w, Calls Try.prog 80 #[.string n] w fun e w' => e = .returned (.bool (isUp (bl n))) ∧ w = w') := tyUpper_any n
        rw [h3] at HU HE
        go_enter Try.func63, Try.ntmps63
        go_wp2_with (go_at_call 80; refine (HU.out _).mono ?_; rintro e w' ⟨rfl, rfl⟩)
        all_goals
          go_ret
          exact ⟨ret_bool (by rw [HE.out, Bool.eq_iff_iff]; simp <;> omega), rfl⟩
end Go.Proofs.Ytahiefgfhpkoeaa
