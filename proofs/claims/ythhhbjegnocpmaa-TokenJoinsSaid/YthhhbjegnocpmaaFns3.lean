/- The contracts of the walks over a word, further: integers, kinds, words, marks. -/
import Derived.Test.YthhhbjegnocpmaaFns2
namespace Go.Proofs.Ythhhbjegnocpmaa
open Go.RowKit Mth

/-- A string's first byte. -/
theorem head_get {s : ByteArray} (h : 0 < s.size) : (bl s).head? = some s[0] := by
  rw [List.head?_eq_getElem?, List.getElem?_eq_getElem (by rw [bl_len]; exact h)]
  rfl
theorem hd_head {p : UInt8 → Bool} {l : List UInt8} {c : UInt8} (h : l.head? = some c) : hd p l = p c := by
  cases l with
  | nil => simp at h
  | cons d r => simp at h; subst h; rfl
theorem hd_get {s : ByteArray} (p : UInt8 → Bool) (h : 0 < s.size) : hd p (bl s) = p s[0] := hd_head (head_get h)
theorem cons_get {s : ByteArray} (h : 0 < s.size) : ∃ r, bl s = s[0] :: r := by
  have := head_get h
  generalize bl s = l at *
  cases l with
  | nil => simp at this
  | cons d r => simp at this; subst this; exact ⟨r, rfl⟩
theorem nil_size {s : ByteArray} (h : 0 < s.size) : (s.toList == []) = false := by
  rw [Lib.toList_data]
  have := bl_len s
  unfold bl at this
  cases hb : s.data.toList == [] with
  | false => rfl
  | true => rw [beq_iff_eq] at hb; rw [hb] at this; simp at this; omega
theorem empty_size {s : ByteArray} (h : 0 < s.size) : (bl s).isEmpty = false := by
  have := bl_len s
  cases hb : (bl s).isEmpty with
  | false => rfl
  | true => rw [List.isEmpty_iff] at hb; rw [hb] at this; simp at this; omega
theorem isInt_eq {s : ByteArray} (h : 0 < s.size) : isInt (bl s) = (decide (s.size ≤ 9) && !(decide (s[0].toNat = 48) && decide (1 < s.size)) && decide (tw dig (bl s) = s.size)) := by
  unfold isInt
  rw [head_get h, all_tw, bl_len]
  have : (some s[0] = some 48) ↔ s[0].toNat = 48 := by
    rw [Option.some.injEq]; exact ⟨fun e => by rw [e]; rfl, fun e => UInt8.toNat_inj.1 e⟩
  simp only [this]
theorem zero_size {s : ByteArray} (h : 0 < s.size) (h0 : s[0].toNat = 48) : (s.toList == [48]) = decide (s.size = 1) := by
  rw [Lib.toList_data]
  have hl := bl_len s
  have hh := head_get h
  change (bl s == [48]) = _
  generalize bl s = l at *
  cases l with
  | nil => simp at hl; omega
  | cons c r =>
    simp at hh
    subst hh
    have h0' : s[0] = 48 := UInt8.toNat_inj.1 h0
    rw [← hl, h0', Bool.eq_iff_iff]
    cases r <;> simp

set_option maxHeartbeats 800000 in
theorem isInteger_any (s : ByteArray) (w : World) (h0 : 0 < s.size) (hs : s.size ≤ 140737488355328) : Calls Try.prog 44 #[.string s] w fun e w' => e = .returned (.bool (isInt (bl s))) ∧ w = w' := by
  have HE := Lib.hid (isInt_eq h0)
  have hle := tw_le dig (bl s)
  rw [bl_len] at hle
  by_cases h9 : s.size ≤ 9
  · have loop : ∀ (h48 : (!(decide (s[0].toNat = 48) && decide (1 < s.size))) = true), Calls Try.prog 44 #[.string s] w fun e w' => e = .returned (.bool (isInt (bl s))) ∧ w = w' := by
      intro h48
      have HR : Hid (isInt (bl s) = decide (tw dig (bl s) = s.size)) := by
        show _ = _
        rw [HE.out, h48]; simp [h9]
      have hz : ((s[0].toNat : Int) == 48) = false ∨ (((s[0].toNat : Int) == 48) = true ∧ (s.toList == [48]) = true) := by
        cases hb : ((s[0].toNat : Int) == 48) with
        | false => exact .inl rfl
        | true =>
          right
          rw [beq_iff_eq] at hb
          have hb' : s[0].toNat = 48 := by omega
          refine ⟨rfl, ?_⟩
          rw [zero_size h0 hb']
          simp [hb'] at h48
          simp; omega
      clear h48 HE
      rcases hz with hz | ⟨hz, hy⟩
      all_goals
        go_enter Try.func44, Try.ntmps44
        go_wp2
        clear hz
        try clear hy
        go_loop [3, 18] (fun _ i => ∃ k : Nat, k ≤ tw dig (bl s) ∧ i = .int .i64 k) (fun _ i => s.size - (intOf i).toNat)
        case atStart => exact ⟨0, Nat.zero_le _, rfl⟩
        case round =>
          obtain ⟨k, hk, rfl⟩ := hrel
          by_cases hlt : k < s.size
          · have hst := tw_step dig (bl s) k (by rw [bl_len]; exact hlt) hk
            rw [bl_get s k hlt] at hst
            have HS := Lib.hid hst
            clear hst
            cases h3 : dig s[k] with
            | true =>
              have h6 := Lib.hid (HS.out.1 h3)
              go_wp2_with (go_at_call 42; refine (isDig_any _ _).mono ?_; rintro e w' ⟨rfl, rfl⟩)
              go_round
              case rel => exact ⟨k + 1, h6.out, by go_num⟩
              case measure => simp [intOf]; omega
            | false =>
              have h6 := Lib.hid (HS.out.2 h3)
              go_wp2_with (go_at_call 42; refine (isDig_any _ _).mono ?_; rintro e w' ⟨rfl, rfl⟩)
              go_ret
              exact ⟨ret_bool (by have := h6.out; rw [HR.out]; symm; simp; omega), rfl⟩
          · have : k = tw dig (bl s) := by omega
            go_wp2
            go_ret
            exact ⟨ret_bool (by rw [HR.out]; symm; simp; omega), rfl⟩
    cases h48 : (!(decide (s[0].toNat = 48) && decide (1 < s.size))) with
    | true => exact loop h48
    | false =>
      clear loop
      have HR : Hid (isInt (bl s) = false) := by
        show _ = _
        rw [HE.out, h48]; simp
      have hz : s[0].toNat = 48 ∧ 1 < s.size := by simpa using h48
      have h1 : ((s[0].toNat : Int) == 48) = true := by rw [beq_iff_eq]; omega
      have h2 : (s.toList == [48]) = false := by rw [zero_size h0 hz.1]; simp; omega
      clear hz h48 HE hle
      go_enter Try.func44, Try.ntmps44
      go_wp2
      go_ret
      exact ⟨ret_bool (by rw [HR.out]), rfl⟩
  · have HR : Hid (isInt (bl s) = false) := by
      show _ = _
      rw [HE.out]; simp; omega
    clear HE hle
    go_enter Try.func44, Try.ntmps44
    go_wp2
    go_ret
    exact ⟨ret_bool (by rw [HR.out]), rfl⟩
end Go.Proofs.Ythhhbjegnocpmaa
