/- The contracts of the kinds of words and marks, and of the first part of a text. -/
import Derived.Test.YthhhbjegnocpmaaFns3
namespace Go.Proofs.Ythhhbjegnocpmaa
open Go.RowKit Mth

set_option maxHeartbeats 1600000 in
theorem wordKind_any (s : ByteArray) (w : World) (hs : s.size ≤ 140737488355328) : Calls Try.prog 30 #[.string s] w fun e w' => e = .returned (.int .i64 (wkind (bl s))) ∧ w = w' := by
  by_cases hz : s.size = 0
  · have he : s = ⟨#[]⟩ := bl_eq.2 (List.eq_nil_of_length_eq_zero (by rw [bl_len]; exact hz))
    subst he
    clear hz hs
    go_enter Try.func30, Try.ntmps30
    go_wp2
    go_ret
    exact ⟨rfl, rfl⟩
  · have h0 : 0 < s.size := by omega
    have hn := nil_size h0
    have HE : Hid (wkind (bl s) = if kw (bl s) then (4 : Int) else if low s[0] && decide (s.size ≤ 12) then 1 else if upp s[0] && decide (s.size ≤ 12) then 2 else if isInt (bl s) then 3 else 0) := by
      show _ = _
      have hne : ¬ bl s = [] := fun e => by have := bl_len s; rw [e] at this; simp at this; omega
      unfold wkind
      rw [if_neg hne, hd_get low h0, hd_get upp h0, bl_len]
    cases h1 : kw (bl s) with
    | true =>
      go_enter Try.func30, Try.ntmps30
      go_wp2_with (go_at_call 43; refine (isKeyword_any _ _).mono ?_; rintro e w' ⟨rfl, rfl⟩)
      go_ret
      exact ⟨ret_int (by rw [HE.out, h1]; rfl), rfl⟩
    | false =>
      cases h2 : low s[0] <;> cases h3 : upp s[0] <;> cases h4 : isInt (bl s) <;> by_cases h5 : s.size ≤ 12
      all_goals
        go_enter Try.func30, Try.ntmps30
        go_wp2_with (first
          | (go_at_call 43; refine (isKeyword_any _ _).mono ?_; rintro e w' ⟨rfl, rfl⟩)
          | (go_at_call 40; refine (isLow_any _ _).mono ?_; rintro e w' ⟨rfl, rfl⟩)
          | (go_at_call 41; refine (isUpp_any _ _).mono ?_; rintro e w' ⟨rfl, rfl⟩)
          | (go_at_call 44; refine (isInteger_any _ _ h0 hs).mono ?_; rintro e w' ⟨rfl, rfl⟩))
        go_ret
        exact ⟨ret_int (by rw [HE.out, h1, h2, h3, h4]; simp [h5]), rfl⟩

/-- Does a text begin with the mark of two bytes? -/
def arr (l : List UInt8) : Bool := Lib.hasPrefix l [45, 62]
theorem arr_any (s : ByteArray) (w : World) : Calls Try.prog 28 #[.string s, .string ⟨#[45, 62]⟩] w fun e w' => e = .returned (.bool (arr (bl s))) ∧ w = w' :=
  (Try.strings_HasPrefix s ⟨#[45, 62]⟩ w).mono fun _ _ ⟨h, k⟩ => ⟨h, k.symm⟩
theorem arr_eq (r : List UInt8) : arr (45 :: r) = decide (r.head? = some 62) := by
  unfold arr Lib.hasPrefix
  cases r with
  | nil => rfl
  | cons d r =>
    by_cases h : d = 62
    · subst h; rfl
    · have h' : ((62 : UInt8) == d) = false := by simpa using fun e : 62 = d => h e.symm
      simp [List.isPrefixOf, h, h']

theorem stp_comment {s : ByteArray} (h : 0 < s.size) (hc : s[0].toNat = 35) : stp (bl s) = (-1, csize (bl s)) := by
  obtain ⟨r, hr⟩ := cons_get h
  rw [hr]
  unfold stp
  dsimp only
  rw [if_pos (UInt8.toNat_inj.1 hc)]
theorem stp_wht {s : ByteArray} (h : 0 < s.size) (hc : s[0].toNat = 32 ∨ s[0].toNat = 9 ∨ s[0].toNat = 13 ∨ s[0].toNat = 10) : stp (bl s) = (-1, 1) := by
  obtain ⟨r, hr⟩ := cons_get h
  rw [hr]
  generalize s[0] = c at *
  have hc' : c = 32 ∨ c = 9 ∨ c = 13 ∨ c = 10 := by
    rcases hc with h | h | h | h
    · exact .inl (UInt8.toNat_inj.1 h)
    · exact .inr (.inl (UInt8.toNat_inj.1 h))
    · exact .inr (.inr (.inl (UInt8.toNat_inj.1 h)))
    · exact .inr (.inr (.inr (UInt8.toNat_inj.1 h)))
  rcases hc' with h | h | h | h <;> subst h <;> rfl
theorem stp_minus {s : ByteArray} (h : 0 < s.size) (hc : s[0].toNat = 45) : stp (bl s) = if arr (bl s) then (5, 2) else (0, 1) := by
  obtain ⟨r, hr⟩ := cons_get h
  rw [hr, show s[0] = 45 from UInt8.toNat_inj.1 hc, arr_eq]
  unfold stp
  dsimp only
  rw [if_neg (by decide), if_neg (by decide), if_pos rfl]
  simp
theorem mks_nat {c : UInt8} : c ∈ mks ↔ c.toNat = 92 ∨ c.toNat = 46 ∨ c.toNat = 61 ∨ c.toNat = 59 ∨ c.toNat = 58 ∨ c.toNat = 124 ∨ c.toNat = 40 ∨ c.toNat = 41 ∨ c.toNat = 123 ∨ c.toNat = 125 ∨ c.toNat = 63 := by
  have hb : ∀ n : Nat, n < 256 → (c = UInt8.ofNat n ↔ c.toNat = n) := fun n hn => ⟨fun e => by rw [e]; simp; omega, fun e => UInt8.toNat_inj.1 (by rw [e]; simp; omega)⟩
  unfold mks
  simp only [List.mem_cons, List.not_mem_nil, or_false]
  rw [← hb 92 (by omega), ← hb 46 (by omega), ← hb 61 (by omega), ← hb 59 (by omega), ← hb 58 (by omega), ← hb 124 (by omega), ← hb 40 (by omega), ← hb 41 (by omega), ← hb 123 (by omega), ← hb 125 (by omega), ← hb 63 (by omega)]
  rfl
theorem stp_mark {s : ByteArray} (h : 0 < s.size) (hc : s[0] ∈ mks) : stp (bl s) = (5, 1) := by
  obtain ⟨r, hr⟩ := cons_get h
  rw [hr]
  generalize s[0] = c at *
  unfold mks at hc
  simp only [List.mem_cons, List.not_mem_nil, or_false] at hc
  rcases hc with e | e | e | e | e | e | e | e | e | e | e <;> subst e <;> rfl
theorem stp_else {s : ByteArray} (h : 0 < s.size) (h1 : s[0].toNat ≠ 35) (h2 : ¬ (s[0].toNat = 32 ∨ s[0].toNat = 9 ∨ s[0].toNat = 13 ∨ s[0].toNat = 10)) (h3 : s[0].toNat ≠ 45) (h4 : ¬ s[0] ∈ mks) :
    stp (bl s) = (wkind ((bl s).take (wsize (bl s))), wsize (bl s)) := by
  obtain ⟨r, hr⟩ := cons_get h
  rw [hr]
  generalize s[0] = c at *
  have e1 : c ≠ 35 := fun e => h1 (by rw [e]; rfl)
  have e3 : c ≠ 45 := fun e => h3 (by rw [e]; rfl)
  have e2 : ¬ wht c = true := by
    unfold wht
    simp only [decide_eq_true_eq, List.mem_cons, List.not_mem_nil, or_false]
    rintro (e | e | e | e) <;> subst e <;> exact h2 (by decide)
  unfold stp
  dsimp only
  rw [if_neg e1, if_neg e2, if_neg e3, if_neg h4]

theorem ret_two {a b c d : Int} (h : (a, b) = (c, d)) : Ending.returned (.tuple #[.int .i64 a, .int .i64 b]) = .returned (.tuple #[.int .i64 c, .int .i64 d]) := by
  rw [Prod.mk.injEq] at h; rw [h.1, h.2]
theorem ret_stp {l : List UInt8} {k : Int} {n : Nat} (h : stp l = (k, n)) : Ending.returned (.tuple #[.int .i64 k, .int .i64 n]) = .returned (.tuple #[.int .i64 (stp l).1, .int .i64 (stp l).2]) := by rw [h]

set_option maxHeartbeats 1600000 in
theorem first_some (s : ByteArray) (w : World) (h0 : 0 < s.size) (hs : s.size ≤ 140737488355328) :
    Calls Try.prog 17 #[.string s] w fun e w' => e = .returned (.tuple #[.int .i64 (stp (bl s)).1, .int .i64 (stp (bl s)).2]) ∧ w = w' := by
  by_cases h1 : (s[0].toNat : Int) = 35
  · have HE := Lib.hid (stp_comment h0 (by omega))
    go_enter Try.func17, Try.ntmps17
    go_wp2_with (go_at_call 27; refine (commentSize_any _ _).mono ?_; rintro e w' ⟨rfl, rfl⟩)
    go_ret2
    exact ⟨ret_stp HE.out, rfl⟩
  by_cases h2 : s[0].toNat = 32 ∨ s[0].toNat = 9 ∨ s[0].toNat = 13 ∨ s[0].toNat = 10
  · have HE := Lib.hid (stp_wht h0 h2)
    clear h1
    have h3 : (s[0].toNat : Int) = 32 ∨ (s[0].toNat : Int) = 9 ∨ (s[0].toNat : Int) = 13 ∨ (s[0].toNat : Int) = 10 := by omega
    clear h2
    rcases h3 with h3 | h3 | h3 | h3
    all_goals
      go_enter Try.func17, Try.ntmps17
      go_wp2
      go_ret2
      exact ⟨ret_stp HE.out, rfl⟩
  have H2 := Lib.hid h2
  clear h2
  by_cases h3 : (s[0].toNat : Int) = 45
  · have HE := Lib.hid (stp_minus h0 (by omega))
    clear h1
    cases h4 : arr (bl s)
    all_goals
      go_enter Try.func17, Try.ntmps17
      go_wp2_with (go_at_call 28; refine (arr_any _ _).mono ?_; rintro e w' ⟨rfl, rfl⟩)
      go_ret2
      exact ⟨ret_stp (by rw [HE.out, h4]; rfl), rfl⟩
  by_cases h4 : s[0] ∈ mks
  · have HE := Lib.hid (stp_mark h0 h4)
    have h5 : (s[0].toNat : Int) = 92 ∨ (s[0].toNat : Int) = 46 ∨ (s[0].toNat : Int) = 61 ∨ (s[0].toNat : Int) = 59 ∨ (s[0].toNat : Int) = 58 ∨ (s[0].toNat : Int) = 124 ∨ (s[0].toNat : Int) = 40 ∨ (s[0].toNat : Int) = 41 ∨ (s[0].toNat : Int) = 123 ∨ (s[0].toNat : Int) = 125 ∨ (s[0].toNat : Int) = 63 := by
      rw [mks_nat] at h4; omega
    clear h1 h3 h4
    rcases h5 with h3 | h3 | h3 | h3 | h3 | h3 | h3 | h3 | h3 | h3 | h3
    all_goals
      go_enter Try.func17, Try.ntmps17
      go_wp2
      go_ret2
      exact ⟨ret_stp HE.out, rfl⟩
  · have HE := Lib.hid (stp_else h0 (by omega) H2.out (by omega) h4)
    have H4 := Lib.hid h4
    clear h4
    have hw := H2.out
    rw [mks_nat] at H4
    have hm := H4.out
    have a1 : ¬ (s[0].toNat : Int) = 32 := by omega
    have a2 : ¬ (s[0].toNat : Int) = 9 := by omega
    have a3 : ¬ (s[0].toNat : Int) = 13 := by omega
    have a4 : ¬ (s[0].toNat : Int) = 10 := by omega
    have b1 : ¬ (s[0].toNat : Int) = 92 := by omega
    have b2 : ¬ (s[0].toNat : Int) = 46 := by omega
    have b3 : ¬ (s[0].toNat : Int) = 61 := by omega
    have b4 : ¬ (s[0].toNat : Int) = 59 := by omega
    have b5 : ¬ (s[0].toNat : Int) = 58 := by omega
    have b6 : ¬ (s[0].toNat : Int) = 124 := by omega
    have b7 : ¬ (s[0].toNat : Int) = 40 := by omega
    have b8 : ¬ (s[0].toNat : Int) = 41 := by omega
    have b9 : ¬ (s[0].toNat : Int) = 123 := by omega
    have b10 : ¬ (s[0].toNat : Int) = 125 := by omega
    have b11 : ¬ (s[0].toNat : Int) = 63 := by omega
    clear hw hm
    have hwl := wsize_le (bl s)
    rw [bl_len] at hwl
    have hex : (s.extract 0 (wsize (bl s))).size ≤ 140737488355328 := by simp; omega
    go_enter Try.func17, Try.ntmps17
    go_wp2_with (first
      | (go_at_call 29; refine (wordSize_any _ _ hs).mono ?_; rintro e w' ⟨rfl, rfl⟩)
      | (go_at_call 30; refine (wordKind_any _ _ (by first | exact hex | (simp; omega))).mono ?_; rintro e w' ⟨rfl, rfl⟩))
    go_ret2
    refine ⟨?_, rfl⟩
    rw [HE.out, bl_extract]
    simp
end Go.Proofs.Ythhhbjegnocpmaa
