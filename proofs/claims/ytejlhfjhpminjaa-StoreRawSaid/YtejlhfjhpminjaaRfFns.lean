/- The contracts of the reference's functions on bytes; facts on words. -/
import Derived.Test.YtejlhfjhpminjaaRows
import Derived.Test.YtejlhfjhpminjaaTkMath3
import Derived.WalkKit
import Derived.WalkSpells
import Derived.WalkLawsBesides
import Derived.WalkSmall
import Derived.Lib.Hide
namespace Go.Proofs.Ytejlhfjhpminjaa
open Go.RowKit Mth

theorem ret_int {k : IntKind} {a b : Int} (h : a = b) : Ending.returned (.int k a) = .returned (.int k b) := by rw [h]
theorem ret_bool {a b : Bool} (h : a = b) : Ending.returned (.bool a) = .returned (.bool b) := by rw [h]
theorem low_any (c : UInt8) (w : World) : Calls Try.prog 50 #[.int .u8 c.toNat] w fun e w' => e = .returned (.bool (low c)) ∧ w = w' := by
  unfold low
  by_cases h1 : 97 ≤ c.toNat
  all_goals
    go_enter Try.func50, Try.ntmps50
    go_wp2
    go_ret
    exact ⟨ret_bool (by simp [h1] <;> omega), rfl⟩
theorem upp_any (c : UInt8) (w : World) : Calls Try.prog 52 #[.int .u8 c.toNat] w fun e w' => e = .returned (.bool (upp c)) ∧ w = w' := by
  unfold upp
  by_cases h1 : 65 ≤ c.toNat
  all_goals
    go_enter Try.func52, Try.ntmps52
    go_wp2
    go_ret
    exact ⟨ret_bool (by simp [h1] <;> omega), rfl⟩
theorem dig_any (c : UInt8) (w : World) : Calls Try.prog 54 #[.int .u8 c.toNat] w fun e w' => e = .returned (.bool (dig c)) ∧ w = w' := by
  unfold dig
  by_cases h1 : 48 ≤ c.toNat
  all_goals
    go_enter Try.func54, Try.ntmps54
    go_wp2
    go_ret
    exact ⟨ret_bool (by simp [h1] <;> omega), rfl⟩
theorem inn_any (c : UInt8) (w : World) : Calls Try.prog 53 #[.int .u8 c.toNat] w fun e w' => e = .returned (.bool (inn c)) ∧ w = w' := by
  unfold inn
  cases h1 : low c <;> cases h2 : upp c <;> cases h3 : dig c
  all_goals
    go_enter Try.func53, Try.ntmps53
    go_wp2_with (first
      | (go_at_call 50; refine (low_any c _).mono ?_; rintro e w' ⟨rfl, rfl⟩)
      | (go_at_call 52; refine (upp_any c _).mono ?_; rintro e w' ⟨rfl, rfl⟩)
      | (go_at_call 54; refine (dig_any c _).mono ?_; rintro e w' ⟨rfl, rfl⟩))
    go_ret
    exact ⟨ret_bool (by first | (simp; done) | (rw [Bool.eq_iff_iff]; simp; omega)), rfl⟩
theorem kw_no {s : ByteArray} (h : kw (bl s) = false) : ∀ a : List UInt8, a ∈ kws → (s.toList == a) = false := by
  intro a ha
  rw [Lib.toList_data]
  cases hb : s.data.toList == a with
  | false => rfl
  | true =>
    rw [beq_iff_eq] at hb
    unfold kw bl at h
    rw [hb] at h
    simp at h
    exact absurd ha h
theorem kw_yes {s : ByteArray} (h : kw (bl s) = true) : s = ⟨#[100, 97, 116, 97]⟩ ∨ s = ⟨#[108, 101, 116]⟩ ∨ s = ⟨#[114, 101, 99]⟩ ∨ s = ⟨#[105, 110]⟩ ∨ s = ⟨#[99, 97, 115, 101]⟩ ∨ s = ⟨#[111, 102]⟩ ∨ s = ⟨#[101, 110, 100]⟩ := by
  unfold kw kws at h
  simp only [decide_eq_true_eq, List.mem_cons, List.not_mem_nil, or_false] at h
  simpa [bl_eq, bl] using h
/-- A string's first byte. -/
theorem head_get {s : ByteArray} (h : 0 < s.size) : (bl s).head? = some s[0] := by
  rw [List.head?_eq_getElem?, List.getElem?_eq_getElem (by rw [bl_len]; exact h)]
  rfl
theorem hd_head {p : UInt8 → Bool} {l : List UInt8} {c : UInt8} (h : l.head? = some c) : hd p l = p c := by
  cases l with
  | nil => simp at h
  | cons d r => simp at h; subst h; rfl
theorem hd_get {s : ByteArray} (p : UInt8 → Bool) (h : 0 < s.size) : hd p (bl s) = p s[0] := hd_head (head_get h)
theorem cons_get {s : ByteArray} (h : 0 < s.size) : ∃ r, bl s = s[0] :: r := by
  have := head_get h
  generalize bl s = l at *
  cases l with
  | nil => simp at this
  | cons d r => simp at this; subst this; exact ⟨r, rfl⟩
theorem nil_size {s : ByteArray} (h : 0 < s.size) : (s.toList == []) = false := by
  rw [Lib.toList_data]
  have := bl_len s
  unfold bl at this
  cases hb : s.data.toList == [] with
  | false => rfl
  | true => rw [beq_iff_eq] at hb; rw [hb] at this; simp at this; omega
theorem empty_size {s : ByteArray} (h : 0 < s.size) : (bl s).isEmpty = false := by
  have := bl_len s
  cases hb : (bl s).isEmpty with
  | false => rfl
  | true => rw [List.isEmpty_iff] at hb; rw [hb] at this; simp at this; omega
theorem isInt_eq {s : ByteArray} (h : 0 < s.size) : isInt (bl s) = (decide (s.size ≤ 9) && !(decide (s[0].toNat = 48) && decide (1 < s.size)) && decide (tw dig (bl s) = s.size)) := by
  unfold isInt
  rw [head_get h, all_tw, bl_len]
  have : (some s[0] = some 48) ↔ s[0].toNat = 48 := by
    rw [Option.some.injEq]; exact ⟨fun e => by rw [e]; rfl, fun e => UInt8.toNat_inj.1 e⟩
  simp only [this]
theorem zero_size {s : ByteArray} (h : 0 < s.size) (h0 : s[0].toNat = 48) : (s.toList == [48]) = decide (s.size = 1) := by
  rw [Lib.toList_data]
  have hl := bl_len s
  have hh := head_get h
  change (bl s == [48]) = _
  generalize bl s = l at *
  cases l with
  | nil => simp at hl; omega
  | cons c r =>
    simp at hh
    subst hh
    have h0' : s[0] = 48 := UInt8.toNat_inj.1 h0
    rw [← hl, h0', Bool.eq_iff_iff]
    cases r <;> simp
end Go.Proofs.Ytejlhfjhpminjaa
