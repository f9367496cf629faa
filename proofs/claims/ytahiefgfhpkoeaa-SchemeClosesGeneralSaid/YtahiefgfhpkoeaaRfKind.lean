/- The contracts of the reference's Lower, Upper, Integer and Kind. -/
import Derived.Test.YtahiefgfhpkoeaaRfRef
namespace Go.Proofs.Ytahiefgfhpkoeaa
open Go.RowKit Mth

theorem wrd_pos {s : ByteArray} (h : wrd (bl s) = true) : 0 < s.size := by
  by_cases hz : s.size = 0
  · rw [wrd_eq, hz] at h; simp at h
  · omega
def isUp (l : List UInt8) : Bool := wrd l && hd upp l && decide (l.length ≤ 12)
def isLo (l : List UInt8) : Bool := wrd l && hd low l && decide (l.length ≤ 12) && !kw l
theorem upper_any (s : ByteArray) (w : World) (hs : s.size ≤ 9223372036854775807) : Calls Try.prog 67 #[.string s] w fun e w' => e = .returned (.bool (isUp (bl s))) ∧ w = w' := by
  cases h1 : wrd (bl s) with
  | false =>
    have HE : Hid (isUp (bl s) = false) := by show _ = _; unfold isUp; rw [h1]; rfl
    go_enter Try.func67, Try.ntmps67
    go_wp2_with (go_at_call 85; refine (wrd_any _ _ hs).mono ?_; rintro e w' ⟨rfl, rfl⟩)
    go_ret
    exact ⟨ret_bool HE.out.symm, rfl⟩
  | true =>
    have h0 := wrd_pos h1
    have HE : Hid (isUp (bl s) = (upp s[0] && decide (s.size ≤ 12))) := by show _ = _; unfold isUp; rw [h1, hd_get upp h0, bl_len]; rfl
    cases h2 : upp s[0]
    all_goals
      go_enter Try.func67, Try.ntmps67
      go_wp2_with (first
        | (go_at_call 85; refine (wrd_any _ _ hs).mono ?_; rintro e w' ⟨rfl, rfl⟩)
        | (go_at_call 88; refine (upp_any _ _).mono ?_; rintro e w' ⟨rfl, rfl⟩))
      go_ret
      exact ⟨ret_bool (by rw [HE.out, h2]; simp <;> omega), rfl⟩
theorem lower_any (s : ByteArray) (w : World) (hs : s.size ≤ 9223372036854775807) : Calls Try.prog 66 #[.string s] w fun e w' => e = .returned (.bool (isLo (bl s))) ∧ Below w.heap.size w w' := by
  cases h1 : wrd (bl s) with
  | false =>
    have HE : Hid (isLo (bl s) = false) := by show _ = _; unfold isLo; rw [h1]; rfl
    go_enter Try.func66, Try.ntmps66
    go_wp2_with (go_at_call 85; refine (wrd_any _ _ hs).mono ?_; rintro e w' ⟨rfl, rfl⟩)
    go_ret
    exact ⟨ret_bool HE.out.symm, Below.refl _ _⟩
  | true =>
    have h0 := wrd_pos h1
    have HE : Hid (isLo (bl s) = (low s[0] && decide (s.size ≤ 12) && !kw (bl s))) := by show _ = _; unfold isLo; rw [h1, hd_get low h0, bl_len]; rfl
    cases h2 : low s[0] with
    | false =>
      go_enter Try.func66, Try.ntmps66
      go_wp2_with (first
        | (go_at_call 85; refine (wrd_any _ _ hs).mono ?_; rintro e w' ⟨rfl, rfl⟩)
        | (go_at_call 86; refine (low_any _ _).mono ?_; rintro e w' ⟨rfl, rfl⟩))
      go_ret
      exact ⟨ret_bool (by rw [HE.out, h2]; rfl), Below.refl _ _⟩
    | true =>
      by_cases h3 : s.size ≤ 12
      · cases h4 : kw (bl s)
        all_goals
          go_enter Try.func66, Try.ntmps66
          go_wp2_with (first
            | (go_at_call 85; refine (wrd_any _ _ hs).mono ?_; rintro e w' ⟨rfl, rfl⟩)
            | (go_at_call 86; refine (low_any _ _).mono ?_; rintro e w' ⟨rfl, rfl⟩)
            | (go_at_call 87; refine (keyword_any _ _).mono ?_; rintro e w1 ⟨rfl, hb1⟩))
          go_ret
          exact ⟨ret_bool (by rw [HE.out, h2, h4]; simp [h3]), hb1⟩
      · go_enter Try.func66, Try.ntmps66
        go_wp2_with (first
          | (go_at_call 85; refine (wrd_any _ _ hs).mono ?_; rintro e w' ⟨rfl, rfl⟩)
          | (go_at_call 86; refine (low_any _ _).mono ?_; rintro e w' ⟨rfl, rfl⟩))
        go_ret
        exact ⟨ret_bool (by rw [HE.out, h2]; simp [h3]), Below.refl _ _⟩
/-- Is the list an integer? -/
def isNum (l : List UInt8) : Bool := !l.isEmpty && isInt l
set_option maxHeartbeats 800000 in
theorem integer_any (s : ByteArray) (w : World) (hs : s.size ≤ 9223372036854775807) : Calls Try.prog 108 #[.string s] w fun e w' => e = .returned (.bool (isNum (bl s))) ∧ w = w' := by
  by_cases hz : s.size = 0
  · have he : s = ⟨#[]⟩ := bl_eq.2 (List.eq_nil_of_length_eq_zero (by rw [bl_len]; exact hz))
    subst he
    clear hz hs
    go_enter Try.func108, Try.ntmps108
    go_wp2
    go_ret
    exact ⟨rfl, rfl⟩
  have h0 : 0 < s.size := by omega
  have hn := nil_size h0
  have HE : Hid (isNum (bl s) = (decide (s.size ≤ 9) && !(decide (s[0].toNat = 48) && decide (1 < s.size)) && decide (tw dig (bl s) = s.size))) := by
    show _ = _
    unfold isNum
    rw [empty_size h0, isInt_eq h0]; rfl
  have hle := tw_le dig (bl s)
  rw [bl_len] at hle
  by_cases h9 : s.size ≤ 9
  · have loop : ∀ (h48 : (!(decide (s[0].toNat = 48) && decide (1 < s.size))) = true), Calls Try.prog 108 #[.string s] w fun e w' => e = .returned (.bool (isNum (bl s))) ∧ w = w' := by
      intro h48
      have HR : Hid (isNum (bl s) = decide (tw dig (bl s) = s.size)) := by
        show _ = _
        rw [HE.out, h48]; simp [h9]
      have hq : ((s[0].toNat : Int) == 48) = false ∨ (((s[0].toNat : Int) == 48) = true ∧ ¬ 1 < s.size) := by
        cases hb : ((s[0].toNat : Int) == 48) with
        | false => exact .inl rfl
        | true =>
          right
          rw [beq_iff_eq] at hb
          have hb' : s[0].toNat = 48 := by omega
          refine ⟨rfl, ?_⟩
          simp [hb'] at h48
          omega
      clear h48 HE
      rcases hq with hq | ⟨hq, hy⟩
      all_goals
        go_enter Try.func108, Try.ntmps108
        go_wp2
        clear hq
        try clear hy
        go_loop [3] (fun i => ∃ k : Nat, k ≤ tw dig (bl s) ∧ i = .int .i64 k) (fun i => s.size - (intOf i).toNat)
        case atStart => exact ⟨0, Nat.zero_le _, rfl⟩
        case round =>
          obtain ⟨k, hk, rfl⟩ := hrel
          by_cases hlt : k < s.size
          · have hst := tw_step dig (bl s) k (by rw [bl_len]; exact hlt) hk
            rw [bl_get s k hlt] at hst
            have HS := Lib.hid hst
            clear hst
            cases h3 : dig s[k] with
            | true =>
              have h6 := Lib.hid (HS.out.1 h3)
              go_wp2_with (go_at_call 107; refine (dig_any _ _).mono ?_; rintro e w' ⟨rfl, rfl⟩)
              go_round
              case rel => exact ⟨k + 1, h6.out, by go_num⟩
              case measure => simp [intOf]; omega
            | false =>
              have h6 := Lib.hid (HS.out.2 h3)
              go_wp2_with (go_at_call 107; refine (dig_any _ _).mono ?_; rintro e w' ⟨rfl, rfl⟩)
              go_ret
              exact ⟨ret_bool (by have := h6.out; rw [HR.out]; symm; simp; omega), rfl⟩
          · have : k = tw dig (bl s) := by omega
            go_wp2
            go_ret
            exact ⟨ret_bool (by rw [HR.out]; symm; simp; omega), rfl⟩
    cases h48 : (!(decide (s[0].toNat = 48) && decide (1 < s.size))) with
    | true => exact loop h48
    | false =>
      clear loop
      have HR : Hid (isNum (bl s) = false) := by
        show _ = _
        rw [HE.out, h48]; simp
      have hq : s[0].toNat = 48 ∧ 1 < s.size := by simpa using h48
      have h1 : ((s[0].toNat : Int) == 48) = true := by rw [beq_iff_eq]; omega
      have h2 := hq.2
      clear hq h48 HE hle
      go_enter Try.func108, Try.ntmps108
      go_wp2
      go_ret
      exact ⟨ret_bool (by rw [HR.out]), rfl⟩
  · have HR : Hid (isNum (bl s) = false) := by
      show _ = _
      rw [HE.out]; simp; omega
    clear HE hle
    go_enter Try.func108, Try.ntmps108
    go_wp2
    go_ret
    exact ⟨ret_bool (by rw [HR.out]), rfl⟩
theorem rkind_eq (l : List UInt8) : rkind l = if kw l then (4 : Int) else if isLo l then 1 else if isUp l then 2 else if isNum l then 3 else if mk l then 5 else 0 := by
  unfold rkind isLo isUp isNum
  cases kw l <;> simp
set_option maxHeartbeats 800000 in
theorem kind_any (s : ByteArray) (w : World) (hs : s.size ≤ 9223372036854775807) : Calls Try.prog 92 #[.string s] w fun e w' => e = .returned (.int .i64 (rkind (bl s))) ∧ Below w.heap.size w w' := by
  have HE := Lib.hid (rkind_eq (bl s))
  cases h1 : kw (bl s) with
  | true =>
    go_enter Try.func92, Try.ntmps92
    go_wp2_with (go_at_call 87; refine (keyword_any _ _).mono ?_; rintro e w1 ⟨rfl, hb1⟩)
    go_ret
    exact ⟨ret_int (by rw [HE.out, h1]; rfl), hb1⟩
  | false =>
    cases h2 : isLo (bl s) <;> cases h3 : isUp (bl s) <;> cases h4 : isNum (bl s) <;> cases h5 : mk (bl s)
    all_goals
      go_enter Try.func92, Try.ntmps92
      go_wp2_with (first
        | (go_at_call 87; refine (keyword_any _ _).mono ?_; rintro e w1 ⟨rfl, hb1⟩)
        | (go_at_call 66; refine (lower_any _ _ hs).mono ?_; rintro e w2 ⟨rfl, hb2⟩)
        | (go_at_call 67; refine (upper_any _ _ hs).mono ?_; rintro e w' ⟨rfl, rfl⟩)
        | (go_at_call 108; refine (integer_any _ _ hs).mono ?_; rintro e w' ⟨rfl, rfl⟩)
        | (go_at_call 109; refine (mk_any _ _).mono ?_; rintro e w' ⟨rfl, rfl⟩))
      go_ret
      exact ⟨ret_int (by rw [HE.out, h1, h2, h3, h4, h5]; rfl), hb1.trans (hb2.mono hb1.size)⟩
end Go.Proofs.Ytahiefgfhpkoeaa
