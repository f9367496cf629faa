/- The contracts of the reference's Lower, Upper, Integer and Kind. -/
import Derived.Test.YtejlhfjhpminjaaRfRef
namespace Go.Proofs.Ytejlhfjhpminjaa
open Go.RowKit Mth

theorem wrd_pos {s : ByteArray} (h : wrd (bl s) = true) : 0 < s.size := by
  by_cases hz : s.size = 0
  · rw [wrd_eq, hz] at h; simp at h
  · omega
def isUp (l : List UInt8) : Bool := wrd l && hd upp l && decide (l.length ≤ 12)
def isLo (l : List UInt8) : Bool := wrd l && hd low l && decide (l.length ≤ 12) && !kw l
theorem upper_any (s : ByteArray) (w : World) (hs : s.size ≤ 9223372036854775807) : Calls Try.prog 45 #[.string s] w fun e w' => e = .returned (.bool (isUp (bl s))) ∧ w = w' := by
  cases h1 : wrd (bl s) with
  | false =>
    have HE : Hid (isUp (bl s) = false) := by show _ = _; unfold isUp; rw [h1]; rfl
    go_enter Try.func45, Try.ntmps45
    go_wp2_with (go_at_call 49; refine (wrd_any _ _ hs).mono ?_; rintro e w' ⟨rfl, rfl⟩)
    go_ret
    exact ⟨ret_bool HE.out.symm, rfl⟩
  | true =>
    have h0 := wrd_pos h1
    have HE : Hid (isUp (bl s) = (upp s[0] && decide (s.size ≤ 12))) := by show _ = _; unfold isUp; rw [h1, hd_get upp h0, bl_len]; rfl
    cases h2 : upp s[0]
    all_goals
      go_enter Try.func45, Try.ntmps45
      go_wp2_with (first
        | (go_at_call 49; refine (wrd_any _ _ hs).mono ?_; rintro e w' ⟨rfl, rfl⟩)
        | (go_at_call 52; refine (upp_any _ _).mono ?_; rintro e w' ⟨rfl, rfl⟩))
      go_ret
      exact ⟨ret_bool (by rw [HE.out, h2]; simp <;> omega), rfl⟩
theorem lower_any (s : ByteArray) (w : World) (hs : s.size ≤ 9223372036854775807) : Calls Try.prog 44 #[.string s] w fun e w' => e = .returned (.bool (isLo (bl s))) ∧ Below w.heap.size w w' := by
  cases h1 : wrd (bl s) with
  | false =>
    have HE : Hid (isLo (bl s) = false) := by show _ = _; unfold isLo; rw [h1]; rfl
    go_enter Try.func44, Try.ntmps44
    go_wp2_with (go_at_call 49; refine (wrd_any _ _ hs).mono ?_; rintro e w' ⟨rfl, rfl⟩)
    go_ret
    exact ⟨ret_bool HE.out.symm, Below.refl _ _⟩
  | true =>
    have h0 := wrd_pos h1
    have HE : Hid (isLo (bl s) = (low s[0] && decide (s.size ≤ 12) && !kw (bl s))) := by show _ = _; unfold isLo; rw [h1, hd_get low h0, bl_len]; rfl
    cases h2 : low s[0] with
    | false =>
      go_enter Try.func44, Try.ntmps44
      go_wp2_with (first
        | (go_at_call 49; refine (wrd_any _ _ hs).mono ?_; rintro e w' ⟨rfl, rfl⟩)
        | (go_at_call 50; refine (low_any _ _).mono ?_; rintro e w' ⟨rfl, rfl⟩))
      go_ret
      exact ⟨ret_bool (by rw [HE.out, h2]; rfl), Below.refl _ _⟩
    | true =>
      by_cases h3 : s.size ≤ 12
      · cases h4 : kw (bl s)
        all_goals
          go_enter Try.func44, Try.ntmps44
          go_wp2_with (first
            | (go_at_call 49; refine (wrd_any _ _ hs).mono ?_; rintro e w' ⟨rfl, rfl⟩)
            | (go_at_call 50; refine (low_any _ _).mono ?_; rintro e w' ⟨rfl, rfl⟩)
            | (go_at_call 51; refine (keyword_any _ _).mono ?_; rintro e w1 ⟨rfl, hb1⟩))
          go_ret
          exact ⟨ret_bool (by rw [HE.out, h2, h4]; simp [h3]), hb1⟩
      · go_enter Try.func44, Try.ntmps44
        go_wp2_with (first
          | (go_at_call 49; refine (wrd_any _ _ hs).mono ?_; rintro e w' ⟨rfl, rfl⟩)
          | (go_at_call 50; refine (low_any _ _).mono ?_; rintro e w' ⟨rfl, rfl⟩))
        go_ret
        exact ⟨ret_bool (by rw [HE.out, h2]; simp [h3]), Below.refl _ _⟩
/-- Is the list an integer? -/
def isNum (l : List UInt8) : Bool := !l.isEmpty && isInt l
theorem rkind_eq (l : List UInt8) : rkind l = if kw l then (4 : Int) else if isLo l then 1 else if isUp l then 2 else if isNum l then 3 else if mk l then 5 else 0 := by
  unfold rkind isLo isUp isNum
  cases kw l <;> simp
end Go.Proofs.Ytejlhfjhpminjaa
