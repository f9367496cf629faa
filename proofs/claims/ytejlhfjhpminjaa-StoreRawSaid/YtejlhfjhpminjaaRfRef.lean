/- The contracts of the reference's mark, Keyword, word. -/
import Derived.Test.YtejlhfjhpminjaaRfFns
import Derived.Handy
import Derived.Below
namespace Go.Proofs.Ytejlhfjhpminjaa
open Go.RowKit Mth

theorem ext_mk (k : Nat) (h : k < 11) : ((⟨#[92, 46, 61, 59, 58, 124, 40, 41, 123, 125, 63]⟩ : ByteArray).extract k (k + 1)).toList = [mks[k]'h] := by
  have all : ∀ d : Fin 11, bl ((⟨#[92, 46, 61, 59, 58, 124, 40, 41, 123, 125, 63]⟩ : ByteArray).extract d.val (d.val + 1)) = [mks[d.val]'d.isLt] := by decide +kernel
  rw [Lib.toList_data]
  exact all ⟨k, h⟩
/-- Of the marks of one byte, those behind the first k. -/
def mkFrom (k : Nat) (l : List UInt8) : Bool := decide (∃ c ∈ mks.drop k, l = [c])
theorem mkFrom_end (l : List UInt8) : mkFrom 11 l = false := by unfold mkFrom mks; simp
theorem mkFrom_hit {k : Nat} (h : k < 11) {l : List UInt8} (e : l = [mks[k]'h]) : mkFrom k l = true := by
  unfold mkFrom
  rw [decide_eq_true_eq]
  refine ⟨mks[k]'h, ?_, e⟩
  rw [List.mem_iff_getElem?]
  exact ⟨0, by rw [List.getElem?_drop, Nat.add_zero]; exact List.getElem?_eq_getElem h⟩
theorem mkFrom_miss {k : Nat} (h : k < 11) {l : List UInt8} (e : ¬ l = [mks[k]'h]) : mkFrom k l = mkFrom (k + 1) l := by
  unfold mkFrom
  rw [Bool.eq_iff_iff, decide_eq_true_eq, decide_eq_true_eq]
  have hd := List.drop_eq_getElem_cons (show k < mks.length from h)
  constructor
  · rintro ⟨c, hc, hl⟩
    rw [hd] at hc
    rcases List.mem_cons.1 hc with rfl | hc
    · exact absurd hl e
    · exact ⟨c, hc, hl⟩
  · rintro ⟨c, hc, hl⟩
    exact ⟨c, by rw [hd]; exact List.mem_cons_of_mem _ hc, hl⟩
theorem str_eq {s : ByteArray} {l : List UInt8} (h : (s.toList == l) = true) : bl s = l := by
  rw [Lib.toList_data, beq_iff_eq] at h; exact h
theorem str_ne {s : ByteArray} {l : List UInt8} (h : (s.toList == l) = false) : ¬ bl s = l := by
  rw [Lib.toList_data, beq_eq_false_iff_ne] at h; exact h
theorem kw_no' {s : ByteArray} (h : kw (bl s) = false) (a : List UInt8) (ha : a ∈ kws) : (a == s.toList) = false := by
  have := kw_no h a ha
  rw [beq_eq_false_iff_ne] at this ⊢
  exact fun e => this e.symm
set_option maxHeartbeats 800000 in
theorem keyword_any (s : ByteArray) (w : World) : Calls Try.prog 51 #[.string s] w fun e w' => e = .returned (.bool (kw (bl s))) ∧ Below w.heap.size w w' := by
  cases hk : kw (bl s) with
  | true =>
    rcases kw_yes hk with h | h | h | h | h | h | h
    all_goals
      subst h
      clear hk
      go_enter Try.func51, Try.ntmps51
      go_wp2
      go_rounds 8
      go_ret
      exact ⟨rfl, (Below.refl _ _).alloc (Nat.le_refl _) _⟩
  | false =>
    have h1 := kw_no' hk [100, 97, 116, 97] (by decide)
    have h2 := kw_no' hk [108, 101, 116] (by decide)
    have h3 := kw_no' hk [114, 101, 99] (by decide)
    have h4 := kw_no' hk [105, 110] (by decide)
    have h5 := kw_no' hk [99, 97, 115, 101] (by decide)
    have h6 := kw_no' hk [111, 102] (by decide)
    have h7 := kw_no' hk [101, 110, 100] (by decide)
    clear hk
    go_enter Try.func51, Try.ntmps51
    go_wp2
    go_rounds 8
    go_ret
    exact ⟨rfl, (Below.refl _ _).alloc (Nat.le_refl _) _⟩
theorem wrd_eq (s : ByteArray) : wrd (bl s) = (decide (tw inn (bl s) = s.size) && !decide (s.size = 0)) := by
  unfold wrd
  rw [all_tw, bl_len]
  congr 2
  rw [Bool.eq_iff_iff, List.isEmpty_iff_length_eq_zero, bl_len]; simp
theorem nil_decide (s : ByteArray) : (s.toList == []) = decide (s.size = 0) := by
  rw [Lib.toList_data, ← bl_len]
  change (bl s == []) = _
  cases bl s <;> rfl
theorem wrd_any (s : ByteArray) (w : World) (hs : s.size ≤ 9223372036854775807) : Calls Try.prog 49 #[.string s] w fun e w' => e = .returned (.bool (wrd (bl s))) ∧ w = w' := by
  have HE := Lib.hid (wrd_eq s)
  have HN := Lib.hid (nil_decide s)
  have hle := tw_le inn (bl s)
  rw [bl_len] at hle
  go_enter Try.func49, Try.ntmps49
  go_wp2
  go_loop [3] (fun i => ∃ k : Nat, k ≤ tw inn (bl s) ∧ i = .int .i64 k) (fun i => s.size - (intOf i).toNat)
  case atStart => exact ⟨0, Nat.zero_le _, rfl⟩
  case round =>
    obtain ⟨k, hk, rfl⟩ := hrel
    by_cases hlt : k < s.size
    · have hst := tw_step inn (bl s) k (by rw [bl_len]; exact hlt) hk
      rw [bl_get s k hlt] at hst
      have HS := Lib.hid hst
      clear hst
      cases h3 : inn s[k] with
      | true =>
        have h6 := Lib.hid (HS.out.1 h3)
        go_wp2_with (go_at_call 53; refine (inn_any _ _).mono ?_; rintro e w' ⟨rfl, rfl⟩)
        go_round
        case rel => exact ⟨k + 1, h6.out, by go_num⟩
        case measure => simp [intOf]; omega
      | false =>
        have h6 := Lib.hid (HS.out.2 h3)
        go_wp2_with (go_at_call 53; refine (inn_any _ _).mono ?_; rintro e w' ⟨rfl, rfl⟩)
        go_ret
        exact ⟨ret_bool (by have := h6.out; rw [HE.out]; symm; simp; omega), rfl⟩
    · have HT : Hid (tw inn (bl s) = s.size) := by show _ = _; omega
      clear hle
      by_cases hz : s.size = 0
      · have hb : (s.toList == []) = true := by rw [HN.out]; simp [hz]
        go_wp2
        go_ret
        exact ⟨ret_bool (by rw [HE.out, HT.out]; simp [hz]), rfl⟩
      · have hb : (s.toList == []) = false := by rw [HN.out]; simp [hz]
        go_wp2
        go_ret
        exact ⟨ret_bool (by rw [HE.out, HT.out]; simp [hz]), rfl⟩
end Go.Proofs.Ytejlhfjhpminjaa
