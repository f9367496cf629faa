import Derived.Test.YtljgpgmaceackaaRows
import Derived.Test.YtljgpgmaceackaaQX00
import Derived.WalkKit
import Derived.WalkSpells
import Derived.WalkLawsBesides
import Derived.WalkSmall
import Derived.Lib.Hide
import Derived.Handy
import Derived.Below
import Derived.Maps.AppendAt
import Derived.OwnWalk
import Derived.LoopTactic
import Derived.Maps.OwnOps
import Derived.Maps.Views
import Derived.Lib.QuietBelow
/- The contracts of the reference's functions on bytes; facts on words. -/
namespace Go.Proofs.Ytljgpgmaceackaa
open Go.RowKit Mth

theorem ret_int {k : IntKind} {a b : Int} (h : a = b) : Ending.returned (.int k a) = .returned (.int k b) := by rw [h]
theorem ret_bool {a b : Bool} (h : a = b) : Ending.returned (.bool a) = .returned (.bool b) := by rw [h]
theorem low_any (c : UInt8) (w : World) : Calls Try.prog 82 #[.int .u8 c.toNat] w fun e w' => e = .returned (.bool (low c)) ∧ w = w' := by
  unfold low
  by_cases h1 : 97 ≤ c.toNat
  all_goals
    go_enter Try.func82, Try.ntmps82
    go_wp2
    go_ret
    exact ⟨ret_bool (by simp [h1] <;> omega), rfl⟩
theorem upp_any (c : UInt8) (w : World) : Calls Try.prog 83 #[.int .u8 c.toNat] w fun e w' => e = .returned (.bool (upp c)) ∧ w = w' := by
  unfold upp
  by_cases h1 : 65 ≤ c.toNat
  all_goals
    go_enter Try.func83, Try.ntmps83
    go_wp2
    go_ret
    exact ⟨ret_bool (by simp [h1] <;> omega), rfl⟩
theorem dig_any (c : UInt8) (w : World) : Calls Try.prog 84 #[.int .u8 c.toNat] w fun e w' => e = .returned (.bool (dig c)) ∧ w = w' := by
  unfold dig
  by_cases h1 : 48 ≤ c.toNat
  all_goals
    go_enter Try.func84, Try.ntmps84
    go_wp2
    go_ret
    exact ⟨ret_bool (by simp [h1] <;> omega), rfl⟩
theorem inn_any (c : UInt8) (w : World) : Calls Try.prog 60 #[.int .u8 c.toNat] w fun e w' => e = .returned (.bool (inn c)) ∧ w = w' := by
  unfold inn
  cases h1 : low c <;> cases h2 : upp c <;> cases h3 : dig c
  all_goals
    go_enter Try.func60, Try.ntmps60
    go_wp2_with (first
      | (go_at_call 82; refine (low_any c _).mono ?_; rintro e w' ⟨rfl, rfl⟩)
      | (go_at_call 83; refine (upp_any c _).mono ?_; rintro e w' ⟨rfl, rfl⟩)
      | (go_at_call 84; refine (dig_any c _).mono ?_; rintro e w' ⟨rfl, rfl⟩))
    go_ret
    exact ⟨ret_bool (by first | (simp; done) | (rw [Bool.eq_iff_iff]; simp; omega)), rfl⟩
theorem kw_no {s : ByteArray} (h : kw (bl s) = false) : ∀ a : List UInt8, a ∈ kws → (s.toList == a) = false := by
  intro a ha
  rw [Lib.toList_data]
  cases hb : s.data.toList == a with
  | false => rfl
  | true =>
    rw [beq_iff_eq] at hb
    unfold kw bl at h
    rw [hb] at h
    simp at h
    exact absurd ha h
theorem kw_yes {s : ByteArray} (h : kw (bl s) = true) : s = ⟨#[100, 97, 116, 97]⟩ ∨ s = ⟨#[108, 101, 116]⟩ ∨ s = ⟨#[114, 101, 99]⟩ ∨ s = ⟨#[105, 110]⟩ ∨ s = ⟨#[99, 97, 115, 101]⟩ ∨ s = ⟨#[111, 102]⟩ ∨ s = ⟨#[101, 110, 100]⟩ := by
  unfold kw kws at h
  simp only [decide_eq_true_eq, List.mem_cons, List.not_mem_nil, or_false] at h
  simpa [bl_eq, bl] using h
/-- A string's first byte. -/
theorem head_get {s : ByteArray} (h : 0 < s.size) : (bl s).head? = some s[0] := by
  rw [List.head?_eq_getElem?, List.getElem?_eq_getElem (by rw [bl_len]; exact h)]
  rfl
theorem hd_head {p : UInt8 → Bool} {l : List UInt8} {c : UInt8} (h : l.head? = some c) : hd p l = p c := by
  cases l with
  | nil => simp at h
  | cons d r => simp at h; subst h; rfl
theorem hd_get {s : ByteArray} (p : UInt8 → Bool) (h : 0 < s.size) : hd p (bl s) = p s[0] := hd_head (head_get h)
theorem nil_size {s : ByteArray} (h : 0 < s.size) : (s.toList == []) = false := by
  rw [Lib.toList_data]
  have := bl_len s
  unfold bl at this
  cases hb : s.data.toList == [] with
  | false => rfl
  | true => rw [beq_iff_eq] at hb; rw [hb] at this; simp at this; omega
theorem empty_size {s : ByteArray} (h : 0 < s.size) : (bl s).isEmpty = false := by
  have := bl_len s
  cases hb : (bl s).isEmpty with
  | false => rfl
  | true => rw [List.isEmpty_iff] at hb; rw [hb] at this; simp at this; omega
theorem isInt_eq {s : ByteArray} (h : 0 < s.size) : isInt (bl s) = (decide (s.size ≤ 9) && !(decide (s[0].toNat = 48) && decide (1 < s.size)) && decide (tw dig (bl s) = s.size)) := by
  unfold isInt
  rw [head_get h, all_tw, bl_len]
  have : (some s[0] = some 48) ↔ s[0].toNat = 48 := by
    rw [Option.some.injEq]; exact ⟨fun e => by rw [e]; rfl, fun e => UInt8.toNat_inj.1 e⟩
  simp only [this]
end Go.Proofs.Ytljgpgmaceackaa

/- The contracts of the reference's mark, Keyword, word. -/
namespace Go.Proofs.Ytljgpgmaceackaa
open Go.RowKit Mth

theorem ext_mk (k : Nat) (h : k < 11) : ((⟨#[92, 46, 61, 59, 58, 124, 40, 41, 123, 125, 63]⟩ : ByteArray).extract k (k + 1)).toList = [mks[k]'h] := by
  have all : ∀ d : Fin 11, bl ((⟨#[92, 46, 61, 59, 58, 124, 40, 41, 123, 125, 63]⟩ : ByteArray).extract d.val (d.val + 1)) = [mks[d.val]'d.isLt] := by decide +kernel
  rw [Lib.toList_data]
  exact all ⟨k, h⟩
/-- Of the marks of one byte, those behind the first k. -/
def mkFrom (k : Nat) (l : List UInt8) : Bool := decide (∃ c ∈ mks.drop k, l = [c])
theorem mkFrom_end (l : List UInt8) : mkFrom 11 l = false := by unfold mkFrom mks; simp
theorem mkFrom_hit {k : Nat} (h : k < 11) {l : List UInt8} (e : l = [mks[k]'h]) : mkFrom k l = true := by
  unfold mkFrom
  rw [decide_eq_true_eq]
  refine ⟨mks[k]'h, ?_, e⟩
  rw [List.mem_iff_getElem?]
  exact ⟨0, by rw [List.getElem?_drop, Nat.add_zero]; exact List.getElem?_eq_getElem h⟩
theorem mkFrom_miss {k : Nat} (h : k < 11) {l : List UInt8} (e : ¬ l = [mks[k]'h]) : mkFrom k l = mkFrom (k + 1) l := by
  unfold mkFrom
  rw [Bool.eq_iff_iff, decide_eq_true_eq, decide_eq_true_eq]
  have hd := List.drop_eq_getElem_cons (show k < mks.length from h)
  constructor
  · rintro ⟨c, hc, hl⟩
    rw [hd] at hc
    rcases List.mem_cons.1 hc with rfl | hc
    · exact absurd hl e
    · exact ⟨c, hc, hl⟩
  · rintro ⟨c, hc, hl⟩
    exact ⟨c, by rw [hd]; exact List.mem_cons_of_mem _ hc, hl⟩
theorem str_eq {s : ByteArray} {l : List UInt8} (h : (s.toList == l) = true) : bl s = l := by
  rw [Lib.toList_data, beq_iff_eq] at h; exact h
theorem str_ne {s : ByteArray} {l : List UInt8} (h : (s.toList == l) = false) : ¬ bl s = l := by
  rw [Lib.toList_data, beq_eq_false_iff_ne] at h; exact h
theorem mk_any (s : ByteArray) (w : World) : Calls Try.prog 89 #[.string s] w fun e w' => e = .returned (.bool (mk (bl s))) ∧ w = w' := by
  cases h1 : (s.toList == [45, 62]) with
  | true =>
    have HE : Hid (mk (bl s) = true) := by show _ = _; rw [str_eq h1]; rfl
    go_enter Try.func89, Try.ntmps89
    go_wp2
    go_ret
    exact ⟨ret_bool HE.out.symm, rfl⟩
  | false =>
    have HE : Hid (mk (bl s) = mkFrom 0 (bl s)) := by
      show _ = _
      unfold mk mkFrom
      simp [str_ne h1]
    go_enter Try.func89, Try.ntmps89
    go_wp2
    go_loop [3] (fun i => ∃ k : Nat, k ≤ 11 ∧ i = .int .i64 k ∧ Hid (mk (bl s) = mkFrom k (bl s))) (fun i => 11 - (intOf i).toNat)
    case atStart => exact ⟨0, Nat.zero_le _, rfl, HE⟩
    case round =>
      obtain ⟨k, hk, rfl, HK⟩ := hrel
      by_cases hlt : k < 11
      · have hx := ext_mk k hlt
        cases hb : (s.toList == ((⟨#[92, 46, 61, 59, 58, 124, 40, 41, 123, 125, 63]⟩ : ByteArray).extract k (k + 1)).toList) with
        | true =>
          have HR : Hid (mk (bl s) = true) := by
            rw [hx] at hb
            exact HK.out.trans (mkFrom_hit hlt (str_eq hb))
          clear hx
          go_wp2
          go_ret
          exact ⟨ret_bool HR.out.symm, rfl⟩
        | false =>
          have HR : Hid (mk (bl s) = mkFrom (k + 1) (bl s)) := by
            rw [hx] at hb
            exact HK.out.trans (mkFrom_miss hlt (str_ne hb))
          clear hx
          go_wp2
          go_round
          case rel => exact ⟨k + 1, hlt, by go_num, HR⟩
          case measure => simp [intOf]; omega
      · obtain rfl : k = 11 := by omega
        go_wp2
        go_ret
        exact ⟨ret_bool (HK.out.trans (mkFrom_end _)).symm, rfl⟩
theorem kw_no' {s : ByteArray} (h : kw (bl s) = false) (a : List UInt8) (ha : a ∈ kws) : (a == s.toList) = false := by
  have := kw_no h a ha
  rw [beq_eq_false_iff_ne] at this ⊢
  exact fun e => this e.symm
set_option maxHeartbeats 800000 in
theorem keyword_any (s : ByteArray) (w : World) : Calls Try.prog 85 #[.string s] w fun e w' => e = .returned (.bool (kw (bl s))) ∧ Below w.heap.size w w' := by
  cases hk : kw (bl s) with
  | true =>
    rcases kw_yes hk with h | h | h | h | h | h | h
    all_goals
      subst h
      clear hk
      go_enter Try.func85, Try.ntmps85
      go_wp2
      go_rounds 8
      go_ret
      exact ⟨rfl, (Below.refl _ _).alloc (Nat.le_refl _) _⟩
  | false =>
    have h1 := kw_no' hk [100, 97, 116, 97] (by decide)
    have h2 := kw_no' hk [108, 101, 116] (by decide)
    have h3 := kw_no' hk [114, 101, 99] (by decide)
    have h4 := kw_no' hk [105, 110] (by decide)
    have h5 := kw_no' hk [99, 97, 115, 101] (by decide)
    have h6 := kw_no' hk [111, 102] (by decide)
    have h7 := kw_no' hk [101, 110, 100] (by decide)
    clear hk
    go_enter Try.func85, Try.ntmps85
    go_wp2
    go_rounds 8
    go_ret
    exact ⟨rfl, (Below.refl _ _).alloc (Nat.le_refl _) _⟩
theorem wrd_eq (s : ByteArray) : wrd (bl s) = (decide (tw inn (bl s) = s.size) && !decide (s.size = 0)) := by
  unfold wrd
  rw [all_tw, bl_len]
  congr 2
  rw [Bool.eq_iff_iff, List.isEmpty_iff_length_eq_zero, bl_len]; simp
theorem nil_decide (s : ByteArray) : (s.toList == []) = decide (s.size = 0) := by
  rw [Lib.toList_data, ← bl_len]
  change (bl s == []) = _
  cases bl s <;> rfl
theorem wrd_any (s : ByteArray) (w : World) (hs : s.size ≤ 9223372036854775807) : Calls Try.prog 93 #[.string s] w fun e w' => e = .returned (.bool (wrd (bl s))) ∧ w = w' := by
  have HE := Lib.hid (wrd_eq s)
  have HN := Lib.hid (nil_decide s)
  have hle := tw_le inn (bl s)
  rw [bl_len] at hle
  go_enter Try.func93, Try.ntmps93
  go_wp2
  go_loop [3] (fun i => ∃ k : Nat, k ≤ tw inn (bl s) ∧ i = .int .i64 k) (fun i => s.size - (intOf i).toNat)
  case atStart => exact ⟨0, Nat.zero_le _, rfl⟩
  case round =>
    obtain ⟨k, hk, rfl⟩ := hrel
    by_cases hlt : k < s.size
    · have hst := tw_step inn (bl s) k (by rw [bl_len]; exact hlt) hk
      rw [bl_get s k hlt] at hst
      have HS := Lib.hid hst
      clear hst
      cases h3 : inn s[k] with
      | true =>
        have h6 := Lib.hid (HS.out.1 h3)
        go_wp2_with (go_at_call 60; refine (inn_any _ _).mono ?_; rintro e w' ⟨rfl, rfl⟩)
        go_round
        case rel => exact ⟨k + 1, h6.out, by go_num⟩
        case measure => simp [intOf]; omega
      | false =>
        have h6 := Lib.hid (HS.out.2 h3)
        go_wp2_with (go_at_call 60; refine (inn_any _ _).mono ?_; rintro e w' ⟨rfl, rfl⟩)
        go_ret
        exact ⟨ret_bool (by have := h6.out; rw [HE.out]; symm; simp; omega), rfl⟩
    · have HT : Hid (tw inn (bl s) = s.size) := by show _ = _; omega
      clear hle
      by_cases hz : s.size = 0
      · have hb : (s.toList == []) = true := by rw [HN.out]; simp [hz]
        go_wp2
        go_ret
        exact ⟨ret_bool (by rw [HE.out, HT.out]; simp [hz]), rfl⟩
      · have hb : (s.toList == []) = false := by rw [HN.out]; simp [hz]
        go_wp2
        go_ret
        exact ⟨ret_bool (by rw [HE.out, HT.out]; simp [hz]), rfl⟩
end Go.Proofs.Ytljgpgmaceackaa

/- The contracts of the reference's Lower, Upper, Integer and Kind. -/
namespace Go.Proofs.Ytljgpgmaceackaa
open Go.RowKit Mth

theorem wrd_pos {s : ByteArray} (h : wrd (bl s) = true) : 0 < s.size := by
  by_cases hz : s.size = 0
  · rw [wrd_eq, hz] at h; simp at h
  · omega
def isUp (l : List UInt8) : Bool := wrd l && hd upp l && decide (l.length ≤ 12)
def isLo (l : List UInt8) : Bool := wrd l && hd low l && decide (l.length ≤ 12) && !kw l
theorem upper_any (s : ByteArray) (w : World) (hs : s.size ≤ 9223372036854775807) : Calls Try.prog 87 #[.string s] w fun e w' => e = .returned (.bool (isUp (bl s))) ∧ w = w' := by
  cases h1 : wrd (bl s) with
  | false =>
    have HE : Hid (isUp (bl s) = false) := by show _ = _; unfold isUp; rw [h1]; rfl
    go_enter Try.func87, Try.ntmps87
    go_wp2_with (go_at_call 93; refine (wrd_any _ _ hs).mono ?_; rintro e w' ⟨rfl, rfl⟩)
    go_ret
    exact ⟨ret_bool HE.out.symm, rfl⟩
  | true =>
    have h0 := wrd_pos h1
    have HE : Hid (isUp (bl s) = (upp s[0] && decide (s.size ≤ 12))) := by show _ = _; unfold isUp; rw [h1, hd_get upp h0, bl_len]; rfl
    cases h2 : upp s[0]
    all_goals
      go_enter Try.func87, Try.ntmps87
      go_wp2_with (first
        | (go_at_call 93; refine (wrd_any _ _ hs).mono ?_; rintro e w' ⟨rfl, rfl⟩)
        | (go_at_call 83; refine (upp_any _ _).mono ?_; rintro e w' ⟨rfl, rfl⟩))
      go_ret
      exact ⟨ret_bool (by rw [HE.out, h2]; simp <;> omega), rfl⟩
theorem lower_any (s : ByteArray) (w : World) (hs : s.size ≤ 9223372036854775807) : Calls Try.prog 86 #[.string s] w fun e w' => e = .returned (.bool (isLo (bl s))) ∧ Below w.heap.size w w' := by
  cases h1 : wrd (bl s) with
  | false =>
    have HE : Hid (isLo (bl s) = false) := by show _ = _; unfold isLo; rw [h1]; rfl
    go_enter Try.func86, Try.ntmps86
    go_wp2_with (go_at_call 93; refine (wrd_any _ _ hs).mono ?_; rintro e w' ⟨rfl, rfl⟩)
    go_ret
    exact ⟨ret_bool HE.out.symm, Below.refl _ _⟩
  | true =>
    have h0 := wrd_pos h1
    have HE : Hid (isLo (bl s) = (low s[0] && decide (s.size ≤ 12) && !kw (bl s))) := by show _ = _; unfold isLo; rw [h1, hd_get low h0, bl_len]; rfl
    cases h2 : low s[0] with
    | false =>
      go_enter Try.func86, Try.ntmps86
      go_wp2_with (first
        | (go_at_call 93; refine (wrd_any _ _ hs).mono ?_; rintro e w' ⟨rfl, rfl⟩)
        | (go_at_call 82; refine (low_any _ _).mono ?_; rintro e w' ⟨rfl, rfl⟩))
      go_ret
      exact ⟨ret_bool (by rw [HE.out, h2]; rfl), Below.refl _ _⟩
    | true =>
      by_cases h3 : s.size ≤ 12
      · cases h4 : kw (bl s)
        all_goals
          go_enter Try.func86, Try.ntmps86
          go_wp2_with (first
            | (go_at_call 93; refine (wrd_any _ _ hs).mono ?_; rintro e w' ⟨rfl, rfl⟩)
            | (go_at_call 82; refine (low_any _ _).mono ?_; rintro e w' ⟨rfl, rfl⟩)
            | (go_at_call 85; refine (keyword_any _ _).mono ?_; rintro e w1 ⟨rfl, hb1⟩))
          go_ret
          exact ⟨ret_bool (by rw [HE.out, h2, h4]; simp [h3]), hb1⟩
      · go_enter Try.func86, Try.ntmps86
        go_wp2_with (first
          | (go_at_call 93; refine (wrd_any _ _ hs).mono ?_; rintro e w' ⟨rfl, rfl⟩)
          | (go_at_call 82; refine (low_any _ _).mono ?_; rintro e w' ⟨rfl, rfl⟩))
        go_ret
        exact ⟨ret_bool (by rw [HE.out, h2]; simp [h3]), Below.refl _ _⟩
/-- Is the list an integer? -/
def isNum (l : List UInt8) : Bool := !l.isEmpty && isInt l
set_option maxHeartbeats 800000 in
theorem integer_any (s : ByteArray) (w : World) (hs : s.size ≤ 9223372036854775807) : Calls Try.prog 88 #[.string s] w fun e w' => e = .returned (.bool (isNum (bl s))) ∧ w = w' := by
  by_cases hz : s.size = 0
  · have he : s = ⟨#[]⟩ := bl_eq.2 (List.eq_nil_of_length_eq_zero (by rw [bl_len]; exact hz))
    subst he
    clear hz hs
    go_enter Try.func88, Try.ntmps88
    go_wp2
    go_ret
    exact ⟨rfl, rfl⟩
  have h0 : 0 < s.size := by omega
  have hn := nil_size h0
  have HE : Hid (isNum (bl s) = (decide (s.size ≤ 9) && !(decide (s[0].toNat = 48) && decide (1 < s.size)) && decide (tw dig (bl s) = s.size))) := by
    show _ = _
    unfold isNum
    rw [empty_size h0, isInt_eq h0]; rfl
  have hle := tw_le dig (bl s)
  rw [bl_len] at hle
  by_cases h9 : s.size ≤ 9
  · have loop : ∀ (h48 : (!(decide (s[0].toNat = 48) && decide (1 < s.size))) = true), Calls Try.prog 88 #[.string s] w fun e w' => e = .returned (.bool (isNum (bl s))) ∧ w = w' := by
      intro h48
      have HR : Hid (isNum (bl s) = decide (tw dig (bl s) = s.size)) := by
        show _ = _
        rw [HE.out, h48]; simp [h9]
      have hq : ((s[0].toNat : Int) == 48) = false ∨ (((s[0].toNat : Int) == 48) = true ∧ ¬ 1 < s.size) := by
        cases hb : ((s[0].toNat : Int) == 48) with
        | false => exact .inl rfl
        | true =>
          right
          rw [beq_iff_eq] at hb
          have hb' : s[0].toNat = 48 := by omega
          refine ⟨rfl, ?_⟩
          simp [hb'] at h48
          omega
      clear h48 HE
      rcases hq with hq | ⟨hq, hy⟩
      all_goals
        go_enter Try.func88, Try.ntmps88
        go_wp2
        clear hq
        try clear hy
        go_loop [3] (fun i => ∃ k : Nat, k ≤ tw dig (bl s) ∧ i = .int .i64 k) (fun i => s.size - (intOf i).toNat)
        case atStart => exact ⟨0, Nat.zero_le _, rfl⟩
        case round =>
          obtain ⟨k, hk, rfl⟩ := hrel
          by_cases hlt : k < s.size
          · have hst := tw_step dig (bl s) k (by rw [bl_len]; exact hlt) hk
            rw [bl_get s k hlt] at hst
            have HS := Lib.hid hst
            clear hst
            cases h3 : dig s[k] with
            | true =>
              have h6 := Lib.hid (HS.out.1 h3)
              go_wp2_with (go_at_call 84; refine (dig_any _ _).mono ?_; rintro e w' ⟨rfl, rfl⟩)
              go_round
              case rel => exact ⟨k + 1, h6.out, by go_num⟩
              case measure => simp [intOf]; omega
            | false =>
              have h6 := Lib.hid (HS.out.2 h3)
              go_wp2_with (go_at_call 84; refine (dig_any _ _).mono ?_; rintro e w' ⟨rfl, rfl⟩)
              go_ret
              exact ⟨ret_bool (by have := h6.out; rw [HR.out]; symm; simp; omega), rfl⟩
          · have : k = tw dig (bl s) := by omega
            go_wp2
            go_ret
            exact ⟨ret_bool (by rw [HR.out]; symm; simp; omega), rfl⟩
    cases h48 : (!(decide (s[0].toNat = 48) && decide (1 < s.size))) with
    | true => exact loop h48
    | false =>
      clear loop
      have HR : Hid (isNum (bl s) = false) := by
        show _ = _
        rw [HE.out, h48]; simp
      have hq : s[0].toNat = 48 ∧ 1 < s.size := by simpa using h48
      have h1 : ((s[0].toNat : Int) == 48) = true := by rw [beq_iff_eq]; omega
      have h2 := hq.2
      clear hq h48 HE hle
      go_enter Try.func88, Try.ntmps88
      go_wp2
      go_ret
      exact ⟨ret_bool (by rw [HR.out]), rfl⟩
  · have HR : Hid (isNum (bl s) = false) := by
      show _ = _
      rw [HE.out]; simp; omega
    clear HE hle
    go_enter Try.func88, Try.ntmps88
    go_wp2
    go_ret
    exact ⟨ret_bool (by rw [HR.out]), rfl⟩
theorem rkind_eq (l : List UInt8) : rkind l = if kw l then (4 : Int) else if isLo l then 1 else if isUp l then 2 else if isNum l then 3 else if mk l then 5 else 0 := by
  unfold rkind isLo isUp isNum
  cases kw l <;> simp
set_option maxHeartbeats 800000 in
theorem kind_any (s : ByteArray) (w : World) (hs : s.size ≤ 9223372036854775807) : Calls Try.prog 61 #[.string s] w fun e w' => e = .returned (.int .i64 (rkind (bl s))) ∧ Below w.heap.size w w' := by
  have HE := Lib.hid (rkind_eq (bl s))
  cases h1 : kw (bl s) with
  | true =>
    go_enter Try.func61, Try.ntmps61
    go_wp2_with (go_at_call 85; refine (keyword_any _ _).mono ?_; rintro e w1 ⟨rfl, hb1⟩)
    go_ret
    exact ⟨ret_int (by rw [HE.out, h1]; rfl), hb1⟩
  | false =>
    cases h2 : isLo (bl s) <;> cases h3 : isUp (bl s) <;> cases h4 : isNum (bl s) <;> cases h5 : mk (bl s)
    all_goals
      go_enter Try.func61, Try.ntmps61
      go_wp2_with (first
        | (go_at_call 85; refine (keyword_any _ _).mono ?_; rintro e w1 ⟨rfl, hb1⟩)
        | (go_at_call 86; refine (lower_any _ _ hs).mono ?_; rintro e w2 ⟨rfl, hb2⟩)
        | (go_at_call 87; refine (upper_any _ _ hs).mono ?_; rintro e w' ⟨rfl, rfl⟩)
        | (go_at_call 88; refine (integer_any _ _ hs).mono ?_; rintro e w' ⟨rfl, rfl⟩)
        | (go_at_call 89; refine (mk_any _ _).mono ?_; rintro e w' ⟨rfl, rfl⟩))
      go_ret
      exact ⟨ret_int (by rw [HE.out, h1, h2, h3, h4, h5]; rfl), hb1.trans (hb2.mono hb1.size)⟩
end Go.Proofs.Ytljgpgmaceackaa

/- Types as trees, and what it means that a value stands for a tree. -/
namespace Go.Proofs.Ytljgpgmaceackaa
open Go.RowKit Mth

/-- A type: its kind, its name, its id, its home, its arguments. -/
inductive Ty where
  | mk (k : Int) (n : ByteArray) (i h : Int) (ts : List Ty)
instance : Inhabited Ty := ⟨.mk 0 ⟨#[]⟩ 0 0 []⟩
def Ty.k : Ty → Int | .mk k _ _ _ _ => k
def Ty.n : Ty → ByteArray | .mk _ n _ _ _ => n
def Ty.i : Ty → Int | .mk _ _ i _ _ => i
def Ty.h : Ty → Int | .mk _ _ _ h _ => h
def Ty.ts : Ty → List Ty | .mk _ _ _ _ ts => ts

mutual
def nodes : Ty → Nat
  | .mk _ _ _ _ ts => nodesL ts + 1
def nodesL : List Ty → Nat
  | [] => 0
  | t :: ts => nodes t + nodesL ts
end
theorem nodes_pos (t : Ty) : 1 ≤ nodes t := by cases t; simp [nodes]
theorem nodesL_mem : ∀ {l : List Ty} {t : Ty}, t ∈ l → nodes t ≤ nodesL l := by
  intro l
  induction l with
  | nil => intro t h; simp at h
  | cons x l ih =>
    intro t h
    rcases List.mem_cons.1 h with rfl | h
    · simp [nodesL]
    · have := ih h
      simp [nodesL]; omega

/-- Five cells that hold a struct. -/
def Five (w : World) (a : Addr) (j : Nat) (v : Value) : Prop :=
  ∃ c0 c1 c2 c3 c4, v = .agg #[c0, c1, c2, c3, c4] ∧ w.cell? (a.add (j * 5)) = some c0 ∧ w.cell? ⟨(a.add (j * 5)).block, (a.add (j * 5)).off + 1, none⟩ = some c1 ∧ w.cell? ⟨(a.add (j * 5)).block, (a.add (j * 5)).off + 2, none⟩ = some c2 ∧
    w.cell? ⟨(a.add (j * 5)).block, (a.add (j * 5)).off + 3, none⟩ = some c3 ∧ w.cell? ⟨(a.add (j * 5)).block, (a.add (j * 5)).off + 4, none⟩ = some c4
theorem add_block (a : Addr) (n : Nat) : (a.add n).block = a.block := by unfold Addr.add; split <;> rfl
theorem Five.kept {w w' : World} {a : Addr} {j : Nat} {v : Value} (h : Five w a j v) (hb : w'.heap[a.block]? = w.heap[a.block]?) : Five w' a j v := by
  obtain ⟨c0, c1, c2, c3, c4, hv, h0, h1, h2, h3, h4⟩ := h
  have e : w'.cell? (a.add (j * 5)) = w.cell? (a.add (j * 5)) := World.cell?_of_block (by rw [add_block]; exact hb)
  have e' : ∀ n, w'.cell? ⟨(a.add (j * 5)).block, n, none⟩ = w.cell? ⟨(a.add (j * 5)).block, n, none⟩ := fun n => World.cell?_of_block (by show w'.heap[(a.add (j * 5)).block]? = _; rw [add_block]; exact hb)
  exact ⟨c0, c1, c2, c3, c4, hv, by rw [e, h0], by rw [e', h1], by rw [e', h2], by rw [e', h3], by rw [e', h4]⟩
theorem Five.lt {w : World} {a : Addr} {j : Nat} {v : Value} (h : Five w a j v) : a.block < w.heap.size := by
  obtain ⟨c0, c1, c2, c3, c4, _, h0, _⟩ := h
  have := World.block_lt_of_cell? _ _ h0
  rwa [add_block] at this

/-- The value stands for the type; all blocks that it leads to are of S. -/
inductive Rep (w : World) (S : Nat → Prop) : Ty → Value → Prop
  | mk (k : Int) (n : ByteArray) (i h : Int) (ts : List Ty) (a : Option Addr) (cap : Nat) (f : Nat → Value) (hn : n.size ≤ maxLen) (hcap : ts.length ≤ cap ∧ cap ≤ maxLen)
      (hc : ∀ j T, ts[j]? = some T → ∃ ad, a = some ad ∧ S ad.block ∧ Five w ad j (f j)) (hr : ∀ j T, ts[j]? = some T → Rep w S T (f j)) :
      Rep w S (.mk k n i h ts) (.agg #[.int .i64 k, .string n, .int .i64 i, .int .i64 h, .slice a ts.length cap])
/-- The slice stands for the list of types. -/
def RepL (w : World) (S : Nat → Prop) (ts : List Ty) (v : Value) : Prop :=
  ∃ a cap, v = .slice a ts.length cap ∧ (ts.length ≤ cap ∧ cap ≤ maxLen) ∧ ∀ j T, ts[j]? = some T → ∃ ad x, a = some ad ∧ S ad.block ∧ Five w ad j x ∧ Rep w S T x
theorem repL_nil (w : World) (S : Nat → Prop) : RepL w S [] (.slice none 0 0) := ⟨none, 0, rfl, ⟨Nat.le_refl _, by simp⟩, fun j T h => by simp at h⟩
theorem Rep.open {w : World} {S : Nat → Prop} {T : Ty} {v : Value} (h : Rep w S T v) :
    ∃ k n i h s, T = .mk k n i h T.ts ∧ v = .agg #[.int .i64 k, .string n, .int .i64 i, .int .i64 h, s] ∧ n.size ≤ maxLen ∧ RepL w S T.ts s := by
  cases h with
  | mk k n i h ts a cap f hn hcap hc hr =>
    refine ⟨k, n, i, h, _, rfl, rfl, hn, a, cap, rfl, hcap, fun j T hj => ?_⟩
    obtain ⟨ad, ha, hs, h5⟩ := hc j T hj
    exact ⟨ad, f j, ha, hs, h5, hr j T hj⟩
theorem Rep.close {w : World} {S : Nat → Prop} {k : Int} {n : ByteArray} {i h : Int} {ts : List Ty} {s : Value} (hn : n.size ≤ maxLen) (hl : RepL w S ts s) :
    Rep w S (.mk k n i h ts) (.agg #[.int .i64 k, .string n, .int .i64 i, .int .i64 h, s]) := by
  obtain ⟨a, cap, rfl, hcap, hj⟩ := hl
  have hx : ∀ j, ∃ x, ∀ T, ts[j]? = some T → ∃ ad, a = some ad ∧ S ad.block ∧ Five w ad j x ∧ Rep w S T x := by
    intro j
    cases hT : ts[j]? with
    | none => exact ⟨.slice none 0 0, fun T h => by cases h⟩
    | some T0 =>
      obtain ⟨ad, x, h1, h2, h3, h4⟩ := hj j T0 hT
      exact ⟨x, fun T h => by cases h; exact ⟨ad, h1, h2, h3, h4⟩⟩
  let f : Nat → Value := fun j => Classical.choose (hx j)
  have hf : ∀ j T, ts[j]? = some T → ∃ ad, a = some ad ∧ S ad.block ∧ Five w ad j (f j) ∧ Rep w S T (f j) := fun j => Classical.choose_spec (hx j)
  exact .mk k n i h ts a cap f hn hcap (fun j T hT => by obtain ⟨ad, h1, h2, h3, _⟩ := hf j T hT; exact ⟨ad, h1, h2, h3⟩) (fun j T hT => by obtain ⟨_, _, _, _, h4⟩ := hf j T hT; exact h4)

/-- What stays where the blocks of S stay. -/
theorem Rep.kept {w w' : World} {S S' : Nat → Prop} (hS : ∀ b, S b → S' b) (hw : ∀ b, S b → b < w.heap.size → w'.heap[b]? = w.heap[b]?) {T : Ty} {v : Value} (h : Rep w S T v) : Rep w' S' T v := by
  induction h with
  | mk k n i h ts a cap f hn hcap hc _ ih =>
    refine .mk k n i h ts a cap f hn hcap (fun j T hj => ?_) ih
    obtain ⟨ad, ha, hs, h5⟩ := hc j T hj
    exact ⟨ad, ha, hS _ hs, h5.kept (hw _ hs h5.lt)⟩
theorem RepL.kept {w w' : World} {S S' : Nat → Prop} (hS : ∀ b, S b → S' b) (hw : ∀ b, S b → b < w.heap.size → w'.heap[b]? = w.heap[b]?) {ts : List Ty} {v : Value} (h : RepL w S ts v) : RepL w' S' ts v := by
  obtain ⟨a, cap, hv, hcap, hj⟩ := h
  refine ⟨a, cap, hv, hcap, fun j T hT => ?_⟩
  obtain ⟨ad, x, h1, h2, h3, h4⟩ := hj j T hT
  exact ⟨ad, x, h1, hS _ h2, h3.kept (hw _ h2 h3.lt), h4.kept hS hw⟩
theorem Rep.lift {w w' : World} {S : Nat → Prop} {T : Ty} {v : Value} (h : Rep w S T v) (hb : Below w.heap.size w w') : Rep w' S T v := h.kept (fun _ h => h) (fun b _ hl => hb.block b hl)
theorem RepL.lift {w w' : World} {S : Nat → Prop} {ts : List Ty} {v : Value} (h : RepL w S ts v) (hb : Below w.heap.size w w') : RepL w' S ts v := h.kept (fun _ h => h) (fun b _ hl => hb.block b hl)
theorem Rep.imp {w : World} {S S' : Nat → Prop} (hS : ∀ b, S b → S' b) {T : Ty} {v : Value} (h : Rep w S T v) : Rep w S' T v := h.kept hS fun _ _ _ => rfl
theorem RepL.imp {w : World} {S S' : Nat → Prop} (hS : ∀ b, S b → S' b) {T : List Ty} {v : Value} (h : RepL w S T v) : RepL w S' T v := h.kept hS fun _ _ _ => rfl
/-- The five cells of an element, ts a walk meets them. -/
theorem five_at {w : World} {ad : Addr} {j : Nat} {k : Int} {n : ByteArray} {i h : Int} {s : Value} (h5 : Five w ad j (.agg #[.int .i64 k, .string n, .int .i64 i, .int .i64 h, s])) :
    w.cell? (ad.add (j * 5)) = some (.int .i64 k) ∧ w.cell? ⟨(ad.add (j * 5)).block, (ad.add (j * 5)).off + 1, none⟩ = some (.string n) ∧ w.cell? ⟨(ad.add (j * 5)).block, (ad.add (j * 5)).off + 2, none⟩ = some (.int .i64 i) ∧ w.cell? ⟨(ad.add (j * 5)).block, (ad.add (j * 5)).off + 3, none⟩ = some (.int .i64 h) ∧ w.cell? ⟨(ad.add (j * 5)).block, (ad.add (j * 5)).off + 4, none⟩ = some s := by
  obtain ⟨c0, c1, c2, c3, c4, hv, h⟩ := h5
  simp at hv
  obtain ⟨rfl, rfl, rfl, rfl, rfl⟩ := hv
  exact h
end Go.Proofs.Ytljgpgmaceackaa

/- Rows of types that a call owns. -/
namespace Go.Proofs.Ytljgpgmaceackaa
open Go.RowKit Mth

theorem Try.info34 : (Try.prog.info? 34).map (fun i => (i.zero, i.size, i.bytes)) = some (some (.agg #[.int .i64 0, .string ByteArray.empty, .int .i64 0, .int .i64 0, .slice none 0 0]), 5, 64) := by kernel_rfl

theorem Rep.bound {w : World} {S : Nat → Prop} {T : Ty} {v : Value} (h : Rep w S T v) : Rep w (fun b => S b ∧ b < w.heap.size) T v := by
  induction h with
  | mk k n i h ts a cap f hn hcap hc _ ih =>
    refine .mk k n i h ts a cap f hn hcap (fun j T hj => ?_) ih
    obtain ⟨ad, ha, hs, h5⟩ := hc j T hj
    exact ⟨ad, ha, ⟨hs, h5.lt⟩, h5⟩
/-- The five cells of a value that stands for a type. -/
theorem Rep.cells {w : World} {S : Nat → Prop} {T : Ty} {c : List Value} (h : Rep w S T (.agg c.toArray)) : c.length = 5 ∧ ∀ u ∈ c, u.oneCell' = true := by
  obtain ⟨k, n, i, hm, s, _, hv, _, a, cap, hs, _⟩ := h.open
  subst hs
  have : c = [.int .i64 k, .string n, .int .i64 i, .int .i64 hm, .slice a T.ts.length cap] := by simpa using hv
  subst this
  refine ⟨rfl, fun u hu => ?_⟩
  simp at hu
  rcases hu with h | h | h | h | h <;> subst h <;> rfl
theorem flatten_get : ∀ (L : List (List Value)), (∀ c ∈ L, c.length = 5) → ∀ (j m : Nat) (c : List Value) (u : Value), L[j]? = some c → c[m]? = some u → L.flatten[j * 5 + m]? = some u := by
  intro L
  induction L with
  | nil => intro _ j m c u h; simp at h
  | cons x L ih =>
    intro hL j m c u hc hu
    have hx : x.length = 5 := hL x (by simp)
    rw [List.flatten_cons]
    cases j with
    | zero =>
      simp at hc; subst hc
      have hm := (List.getElem?_eq_some_iff.1 hu).1
      rw [List.getElem?_append_left (by omega)]
      simpa using hu
    | succ j =>
      rw [List.getElem?_append_right (by omega), hx, show (j + 1) * 5 + m - 5 = j * 5 + m by omega]
      exact ih (fun c h => hL c (by simp [h])) j m c u (by simpa using hc) hu
theorem add_zero (b o n : Nat) : (⟨b, o, none⟩ : Addr).add n = ⟨b, o + n, none⟩ := by unfold Addr.add; split <;> simp_all
theorem add_add' (a : Addr) (i j : Nat) (hj : j ≠ 0) : (⟨(a.add i).block, (a.add i).off + j, none⟩ : Addr) = a.add (i + j) := by
  unfold Addr.add
  by_cases h : i = 0
  · subst h; simp [hj]
  · simp [h]; omega

/-- The call owns the row, and it holds these types. -/
def RowT (w : World) (base : Nat) (S : Nat → Prop) (v : Value) (ts : List Ty) : Prop :=
  ∃ L : List (List Value), w.ownsRow base 34 5 v ts.length L.flatten ∧ L.length = ts.length ∧ ∀ (j : Nat) (T : Ty), ts[j]? = some T → ∃ c : List Value, L[j]? = some c ∧ Rep w (fun b => S b ∧ some b ≠ v.ownBlock) T (.agg c.toArray)
theorem rowT_nil (w : World) (base : Nat) (S : Nat → Prop) : RowT w base S (.slice none 0 0) [] := ⟨[], World.ownsRow_nil _ _ _ _, rfl, fun j T h => by simp at h⟩
theorem rowT_five {w : World} {L : List (List Value)} {ts : List Ty} {S : Nat → Prop} (hl : L.length = ts.length) (h : ∀ (j : Nat) (T : Ty), ts[j]? = some T → ∃ c : List Value, L[j]? = some c ∧ Rep w S T (.agg c.toArray)) : ∀ c ∈ L, c.length = 5 ∧ ∀ u ∈ c, u.oneCell' = true := by
  intro c hc
  obtain ⟨j, hj, e⟩ := List.getElem_of_mem hc
  obtain ⟨c', hc', hr⟩ := h j (ts[j]'(by omega)) (List.getElem?_eq_getElem (by omega))
  rw [List.getElem?_eq_getElem hj, e] at hc'
  cases hc'
  exact hr.cells
theorem five_of {w : World} {ad : Addr} {j : Nat} {L : List (List Value)} (h5 : ∀ c ∈ L, c.length = 5) (hc : ∀ i u, L.flatten[i]? = some u → w.cell? (ad.add i) = some u) {c : List Value} (h : L[j]? = some c) : Five w ad j (.agg c.toArray) := by
  have hl := h5 c (List.mem_of_getElem? h)
  match c, hl with
  | [c0, c1, c2, c3, c4], _ =>
    refine ⟨c0, c1, c2, c3, c4, rfl, ?_, ?_, ?_, ?_, ?_⟩
    · exact hc _ _ (flatten_get L h5 j 0 _ _ h rfl)
    · rw [add_add' _ _ _ (by omega)]; exact hc _ _ (flatten_get L h5 j 1 _ _ h rfl)
    · rw [add_add' _ _ _ (by omega)]; exact hc _ _ (flatten_get L h5 j 2 _ _ h rfl)
    · rw [add_add' _ _ _ (by omega)]; exact hc _ _ (flatten_get L h5 j 3 _ _ h rfl)
    · rw [add_add' _ _ _ (by omega)]; exact hc _ _ (flatten_get L h5 j 4 _ _ h rfl)
theorem RowT.repL {w : World} {base : Nat} {S S' : Nat → Prop} {v : Value} {ts : List Ty} (h : RowT w base S v ts) (h1 : ∀ b, S b → S' b) (h2 : ∀ b, base ≤ b → S' b) : RepL w S' ts v := by
  obtain ⟨L, hown, hl, hr⟩ := h
  have h5 := rowT_five hl hr
  rcases hown.2 with ⟨rfl, h0⟩ | ⟨g, cap, cur, rfl, hg, hc, hn, hm, _⟩
  · have : ts = [] := List.eq_nil_of_length_eq_zero h0
    subst this
    exact repL_nil _ _
  · refine ⟨some ⟨g, 0, none⟩, cap, rfl, ⟨hn, hm⟩, fun j T hj => ?_⟩
    obtain ⟨c, hc', hrep⟩ := hr j T hj
    exact ⟨⟨g, 0, none⟩, _, rfl, h2 _ hg, five_of (fun c h => (h5 c h).1) (hown.cells (g := g) rfl) hc', hrep.imp fun b hb => h1 b hb.1⟩
theorem RowT.kept {w w' : World} {base : Nat} {S : Nat → Prop} {v : Value} {ts : List Ty} {row : Option Nat} (h : RowT w base S v ts) (hg : w.grownBy w' row) (hv : v.ownBlock = none ∨ v.ownBlock ≠ row) (hS : ∀ b, S b → some b ≠ row) : RowT w' base S v ts := by
  obtain ⟨L, hown, hl, hr⟩ := h
  refine ⟨L, hown.kept hg hv, hl, fun j T hj => ?_⟩
  obtain ⟨c, hc', hrep⟩ := hr j T hj
  exact ⟨c, hc', hrep.kept (fun _ h => h) fun b hb hlt => hg.block b hlt (hS b hb.1)⟩
theorem grown_of_below {w w' : World} (hb : Below w.heap.size w w') (row : Option Nat) : w.grownBy w' row := ⟨hb.os, hb.tape, hb.output, hb.size, fun k hk _ => hb.block k hk⟩
theorem RowT.lift {w w' : World} {base : Nat} {S : Nat → Prop} {v : Value} {ts : List Ty} (h : RowT w base S v ts) (hb : Below w.heap.size w w') : RowT w' base S v ts :=
  h.kept (grown_of_below hb none) (by cases v.ownBlock <;> simp) (fun _ _ => by simp)
theorem RowT.imp {w : World} {base base' : Nat} {S S' : Nat → Prop} {v : Value} {ts : List Ty} (h : RowT w base S v ts) (hS : ∀ b, S b → S' b) (hb : base' ≤ base) : RowT w base' S' v ts := by
  obtain ⟨L, hown, hl, hr⟩ := h
  refine ⟨L, ⟨hown.1, ?_⟩, hl, fun j T hj => ?_⟩
  · rcases hown.2 with h | ⟨g, cap, cur, hv, hg, rest⟩
    · exact .inl h
    · exact .inr ⟨g, cap, cur, hv, Nat.le_trans hb hg, rest⟩
  · obtain ⟨c, hc', hrep⟩ := hr j T hj
    exact ⟨c, hc', hrep.imp fun b hb => ⟨hS b hb.1, hb.2⟩⟩
theorem RowT.lt {w : World} {base : Nat} {S : Nat → Prop} {v : Value} {ts : List Ty} (h : RowT w base S v ts) : ∀ k, v.ownBlock = some k → base ≤ k ∧ k < w.heap.size := by
  obtain ⟨L, hown, _⟩ := h
  exact hown.lt
theorem RowT.off {w : World} {base : Nat} {S : Nat → Prop} {v : Value} {ts : List Ty} (h : RowT w base S v ts) {k : Nat} (hk : k < base) : v.ownBlock = none ∨ v.ownBlock ≠ some k := by
  cases hv : v.ownBlock with
  | none => exact .inl rfl
  | some b => have := (h.lt b hv).1; exact .inr (by intro e; cases e; omega)
theorem RowT.slice {w : World} {base : Nat} {S : Nat → Prop} {v : Value} {ts : List Ty} (h : RowT w base S v ts) : ∃ a cap, v = .slice a ts.length cap ∧ ts.length ≤ cap ∧ cap ≤ maxLen := by
  obtain ⟨L, hown, _⟩ := h
  rcases hown.2 with ⟨rfl, h0⟩ | ⟨g, cap, cur, rfl, _, _, hn, hm, _⟩
  · exact ⟨none, 0, by rw [h0], by omega, by simp⟩
  · exact ⟨_, cap, rfl, hn, hm⟩

/-- The cells of a list of types, one behind the other. -/
theorem cells_of {w : World} {S : Nat → Prop} {ts : List Ty} {ad : Addr} (h : ∀ j T, ts[j]? = some T → ∃ x, Five w ad j x ∧ Rep w S T x) :
    ∃ L : List (List Value), L.length = ts.length ∧ (∀ (j : Nat) (T : Ty), ts[j]? = some T → ∃ c : List Value, L[j]? = some c ∧ Rep w S T (.agg c.toArray)) ∧ ∀ i u, L.flatten[i]? = some u → w.cell? (ad.add i) = some u := by
  have hx : ∀ j, ∃ c : List Value, ∀ T, ts[j]? = some T → Five w ad j (.agg c.toArray) ∧ Rep w S T (.agg c.toArray) := by
    intro j
    cases hT : ts[j]? with
    | none => exact ⟨[], fun T h => by cases h⟩
    | some T0 =>
      obtain ⟨x, ⟨c0, c1, c2, c3, c4, rfl, h5⟩, hr⟩ := h j T0 hT
      exact ⟨[c0, c1, c2, c3, c4], fun T h => by cases h; exact ⟨⟨c0, c1, c2, c3, c4, rfl, h5⟩, hr⟩⟩
  let f : Nat → List Value := fun j => Classical.choose (hx j)
  have hf : ∀ j T, ts[j]? = some T → Five w ad j (.agg (f j).toArray) ∧ Rep w S T (.agg (f j).toArray) := fun j => Classical.choose_spec (hx j)
  have hget : ∀ j T, ts[j]? = some T → ((List.range ts.length).map f)[j]? = some (f j) := fun j T hj => by
    have := (List.getElem?_eq_some_iff.1 hj).1
    rw [List.getElem?_map, List.getElem?_range this]; rfl
  have h5 : ∀ j, j < ts.length → (f j).length = 5 := fun j hj => ((hf j ts[j] (List.getElem?_eq_getElem hj)).2).cells.1
  refine ⟨(List.range ts.length).map f, by simp, fun j T hj => ⟨f j, hget j T hj, (hf j T hj).2⟩, ?_⟩
  have hL5 : ∀ c ∈ (List.range ts.length).map f, c.length = 5 := by
    intro c hc
    simp at hc
    obtain ⟨j, hj, rfl⟩ := hc
    exact h5 j hj
  have hflat : ∀ (n : Nat), n ≤ ts.length → ((List.range n).map f).flatten.length = n * 5 := by
    intro n
    induction n with
    | zero => intro _; simp
    | succ n ih =>
      intro hn
      rw [List.range_succ, List.map_append, List.flatten_append, List.length_append, ih (by omega)]
      simp [h5 n (by omega)]; omega
  intro i u hu
  have hi := (List.getElem?_eq_some_iff.1 hu).1
  rw [hflat _ (Nat.le_refl _)] at hi
  have hj : i / 5 < ts.length := by omega
  have hm : i % 5 < (f (i / 5)).length := by rw [h5 _ hj]; omega
  have h1 := flatten_get _ hL5 (i / 5) (i % 5) _ _ (hget (i / 5) _ (List.getElem?_eq_getElem hj)) (List.getElem?_eq_getElem hm)
  have e : i / 5 * 5 + i % 5 = i := by omega
  rw [e, hu] at h1
  obtain ⟨d0, d1, d2, d3, d4, hv, g0, g1, g2, g3, g4⟩ := (hf (i / 5) _ (List.getElem?_eq_getElem hj)).1
  have hfl : f (i / 5) = [d0, d1, d2, d3, d4] := by simpa using hv
  rw [add_add' _ _ _ (by omega)] at g1 g2 g3 g4
  have h1' := Option.some.inj h1
  have hq : i % 5 = 0 ∨ i % 5 = 1 ∨ i % 5 = 2 ∨ i % 5 = 3 ∨ i % 5 = 4 := by omega
  rcases hq with q | q | q | q | q
  all_goals
    rw [q] at e
    simp only [q, hfl] at h1'
    subst h1'
    rw [← e]
    first | exact g0 | exact g1 | exact g2 | exact g3 | exact g4

/-- One append, or one of several, to a row that the call owns. -/
theorem wpList_pushT {w : World} {ops : Array Oper} {rest : List Oper} {o : Oper} {a : Act} {Q : Exit → Act → World → Prop} (hgd : o.guard = none) (s x : Operand)
    (ho : o.op = .call { callee := .builtin .append, args := #[s, x], argTypes := #[32, 32] })
    (base : Nat) (S : Nat → Prop) (v : Value) (ts : List Ty) (hs : a.eval s = v) (hrow : RowT w base S v ts)
    (ad : Addr) (m c : Nat) (hx : a.eval x = .slice (some ad) m c) (news : List Ty) (hm : news.length = m) (hc : ∀ j T, news[j]? = some T → ∃ y, Five w ad j y ∧ Rep w (fun b => S b ∧ some b ≠ v.ownBlock) T y)
    (N : Nat) (hN : N = ts.length + m) (hb : N ≤ 1000000) (hbase : base ≤ w.heap.size)
    (h : ∀ (a' : Option Addr) (c' : Nat) (w' : World), RowT w' base S (.slice a' N c') (ts ++ news) → w.grownBy w' v.ownBlock → ((Value.slice a' N c').ownBlock = v.ownBlock ∨ (Value.slice a' N c').ownBlock = some w.heap.size) → wpList Try.prog ops Q rest (a.put o.dst (.slice a' N c')) w') :
    wpList Try.prog ops Q (o :: rest) a w := by
  obtain ⟨i, hi, hz0, hz1, hz2⟩ := info_parts Try.info34
  obtain ⟨L, hown, hl, hr⟩ := hrow
  obtain ⟨M, hml, hmr, hmc⟩ := cells_of hc
  have hM5 := rowT_five hml hmr
  have hflat : M.flatten.length = m * 5 := by
    have : ∀ (L : List (List Value)), (∀ c ∈ L, c.length = 5) → L.flatten.length = L.length * 5 := by
      intro L
      induction L with
      | nil => intro _; rfl
      | cons x L ih => intro h; rw [List.flatten_cons, List.length_append, h x (by simp), ih fun c hc => h c (by simp [hc])]; simp; omega
    rw [this M fun c h => (hM5 c h).1, hml, hm]
  refine wpList_append_own_at w hgd s x 32 ho base 34 i _ 5 64 Try.underlying32 hi hz0 hz1 hz2 rfl (by decide) v ts.length L.flatten hs hown ad m c M.flatten hx hflat hmc ?_ (by unfold maxLen; omega) (by omega) hbase ?_
  · intro u hu
    obtain ⟨c', hc', hu'⟩ := List.mem_flatten.1 hu
    exact (hM5 c' hc').2 u hu'
  intro v' w' hown' hg _ hloc
  have hrow : RowT w' base S v' (ts ++ news) := by
    refine ⟨L ++ M, ?_, by simp [hl, hml], fun j T hj => ?_⟩
    · rw [List.flatten_append, List.length_append, hm]; exact hown'
    · have key : ∀ c, Rep w (fun b => S b ∧ some b ≠ v.ownBlock) T (.agg (List.toArray c)) → Rep w' (fun b => S b ∧ some b ≠ v'.ownBlock) T (.agg (List.toArray c)) := fun c hrep =>
        hrep.bound.kept (fun b hb => ⟨hb.1.1, by
          rcases hloc with e | e
          · rw [e]; exact hb.1.2
          · rw [e]; intro e'; cases e'; exact absurd hb.2 (Nat.lt_irrefl _)⟩) fun b hb hlt => hg.block b hlt hb.1.2
      by_cases hj' : j < ts.length
      · rw [List.getElem?_append_left hj'] at hj
        obtain ⟨c', hc', hrep⟩ := hr j T hj
        exact ⟨c', by rw [List.getElem?_append_left (by omega)]; exact hc', key _ hrep⟩
      · rw [List.getElem?_append_right (by omega)] at hj
        obtain ⟨c', hc', hrep⟩ := hmr _ T hj
        exact ⟨c', by rw [List.getElem?_append_right (by omega), hl]; exact hc', key _ hrep⟩
  obtain ⟨a', c', rfl, _⟩ := hrow.slice
  have e : (ts ++ news).length = N := by rw [List.length_append, hm, hN]
  rw [e] at hrow hloc ⊢
  exact h a' c' w' hrow hg hloc
end Go.Proofs.Ytljgpgmaceackaa

/- A struct of five cells in a block of its own: what is stored there. -/
namespace Go.Proofs.Ytljgpgmaceackaa
open Go.RowKit Mth

/-- Block B is a struct with these cells. -/
def Box (w : World) (B : Nat) (c0 c1 c2 c3 c4 : Value) : Prop := w.heap[B]? = some (.cells #[c0, c1, c2, c3, c4] 34 (0, 0))
theorem Box.cells {w : World} {B : Nat} {c0 c1 c2 c3 c4 : Value} (h : Box w B c0 c1 c2 c3 c4) :
    (w.cell? ⟨B, 0, none⟩ = some c0 ∧ w.cell? ⟨B, 1, none⟩ = some c1 ∧ w.cell? ⟨B, 2, none⟩ = some c2 ∧ w.cell? ⟨B, 3, none⟩ = some c3 ∧ w.cell? ⟨B, 4, none⟩ = some c4) := by
  unfold Box at h
  simp [World.cell?, h]
theorem Box.frozen {w : World} {B : Nat} {c0 c1 c2 c3 c4 : Value} (h : Box w B c0 c1 c2 c3 c4) :
    (w.frozen? ⟨B, 0, none⟩ = false ∧ w.frozen? ⟨B, 1, none⟩ = false ∧ w.frozen? ⟨B, 2, none⟩ = false ∧ w.frozen? ⟨B, 3, none⟩ = false ∧ w.frozen? ⟨B, 4, none⟩ = false) := by
  unfold Box at h
  simp [World.frozen?, h]
theorem Box.made (w : World) (c0 c1 c2 c3 c4 : Value) : Box (w.alloc (.cells #[c0, c1, c2, c3, c4] 34)) w.heap.size c0 c1 c2 c3 c4 := heap_alloc_new w _
/-- Block B is a struct of zeros. -/
def Zero (w : World) (B : Nat) : Prop := Box w B (.int .i64 0) (.string ⟨#[]⟩) (.int .i64 0) (.int .i64 0) (.slice none 0 0)
theorem heap_at (w : World) (o : Obj) (k : Nat) : (w.alloc o).heap[k]? = if k = w.heap.size then some o else w.heap[k]? := by
  show (w.heap.push o)[k]? = _
  rw [Array.getElem?_push]
theorem Box.kept {w w' : World} {B : Nat} {c0 c1 c2 c3 c4 : Value} (h : Box w B c0 c1 c2 c3 c4) (hb : w'.heap[B]? = w.heap[B]?) : Box w' B c0 c1 c2 c3 c4 := by unfold Box at *; rw [hb, h]
theorem Box.lt {w : World} {B : Nat} {c0 c1 c2 c3 c4 : Value} (h : Box w B c0 c1 c2 c3 c4) : B < w.heap.size := (Array.getElem?_eq_some_iff.1 h).1
theorem Box.lift {w w' : World} {B : Nat} {c0 c1 c2 c3 c4 : Value} (h : Box w B c0 c1 c2 c3 c4) (hb : Below w.heap.size w w') : Box w' B c0 c1 c2 c3 c4 := h.kept (hb.block _ h.lt)

theorem set1 {w : World} {B : Nat} {cs : Array Value} {t : TypeId} (h : w.heap[B]? = some (.cells cs t (0, 0))) (m : Nat) (v : Value) :
    (w.setCell ⟨B, m, none⟩ v).heap[B]? = some (.cells (cs.setIfInBounds m v) t (0, 0)) ∧ w.grownBy (w.setCell ⟨B, m, none⟩ v) (some B) ∧ (w.setCell ⟨B, m, none⟩ v).heap.size = w.heap.size := by
  refine ⟨?_, ⟨rfl, rfl, rfl, by simp [World.setCell], fun k _ hk => Below.heap_setCell _ _ _ _ (fun e => hk (by rw [e]))⟩, by simp [World.setCell]⟩
  simp [World.setCell, Array.getElem?_modify, h]
theorem grown_trans {a b c : World} {r : Option Nat} (h : a.grownBy b r) (k : b.grownBy c r) : a.grownBy c r :=
  ⟨k.os.trans h.os, k.tape.trans h.tape, k.output.trans h.output, Nat.le_trans h.size k.size, fun i hi hr => (k.block i (Nat.lt_of_lt_of_le hi h.size) hr).trans (h.block i hi hr)⟩
theorem set5 {w : World} {B : Nat} {c0 c1 c2 c3 c4 : Value} (h : Box w B c0 c1 c2 c3 c4) (v0 v1 v2 v3 v4 : Value) :
    Box (((((w.setCell ⟨B, 0, none⟩ v0).setCell ⟨B, 1, none⟩ v1).setCell ⟨B, 2, none⟩ v2).setCell ⟨B, 3, none⟩ v3).setCell ⟨B, 4, none⟩ v4) B v0 v1 v2 v3 v4 ∧
    w.grownBy (((((w.setCell ⟨B, 0, none⟩ v0).setCell ⟨B, 1, none⟩ v1).setCell ⟨B, 2, none⟩ v2).setCell ⟨B, 3, none⟩ v3).setCell ⟨B, 4, none⟩ v4) (some B) ∧
    (((((w.setCell ⟨B, 0, none⟩ v0).setCell ⟨B, 1, none⟩ v1).setCell ⟨B, 2, none⟩ v2).setCell ⟨B, 3, none⟩ v3).setCell ⟨B, 4, none⟩ v4).heap.size = w.heap.size := by
  obtain ⟨a0, g0, s0⟩ := set1 h 0 v0
  obtain ⟨a1, g1, s1⟩ := set1 a0 1 v1
  obtain ⟨a2, g2, s2⟩ := set1 a1 2 v2
  obtain ⟨a3, g3, s3⟩ := set1 a2 3 v3
  obtain ⟨a4, g4, s4⟩ := set1 a3 4 v4
  refine ⟨?_, grown_trans (grown_trans (grown_trans (grown_trans g0 g1) g2) g3) g4, by rw [s4, s3, s2, s1, s0]⟩
  unfold Box
  rw [a4]
  simp

theorem wpList_store5 {w : World} {ops : Array Oper} {rest : List Oper} {o : Oper} {a : Act} {Q : Exit → Act → World → Prop} (hgd : o.guard = none) (p x : Operand) (ho : o.op = Op.store 34 p x)
    (B : Nat) (c0 c1 c2 c3 c4 : Value) (hB : Box w B c0 c1 c2 c3 c4) (hp : a.eval p = .pointer (some ⟨B, 0, none⟩)) (k : Int) (n : ByteArray) (i h : Int) (sa : Option Addr) (sn sc : Nat)
    (hx : a.eval x = .agg #[.int .i64 k, .string n, .int .i64 i, .int .i64 h, .slice sa sn sc])
    (hK : ∀ w', Box w' B (.int .i64 k) (.string n) (.int .i64 i) (.int .i64 h) (.slice sa sn sc) → w.grownBy w' (some B) → w'.heap.size = w.heap.size → wpList Try.prog ops Q rest (a.put o.dst undef) w') :
    wpList Try.prog ops Q (o :: rest) a w := by
  obtain ⟨h0, h1, h2, h3, h4⟩ := hB.cells
  obtain ⟨f0, f1, f2, f3, f4⟩ := hB.frozen
  refine wpList_plain hgd fun K hK' => ?_
  unfold Oper.wp
  simp only [execOp, ho, hp, hx]
  simp [go_sem, h0, h1, h2, h3, h4, f0, f1, f2, f3, f4]
  exact hK' _ _ (hK _ (set5 hB _ _ _ _ _).1 (set5 hB _ _ _ _ _).2.1 (set5 hB _ _ _ _ _).2.2)
end Go.Proofs.Ytljgpgmaceackaa

/- Rows of numbers that a call owns; maps from numbers to true that it makes. -/
namespace Go.Proofs.Ytljgpgmaceackaa
open Go.RowKit Go.Maps Mth

/-- A slice of numbers, cell by cell. -/
def Ints (w : World) (v : Value) (zs : List Int) : Prop := ∃ a cap, v = .slice a zs.length cap ∧ zs.length ≤ cap ∧ cap ≤ maxLen ∧ ∀ (i : Nat) (x : Int), zs[i]? = some x → ∃ ad, a = some ad ∧ w.cell? (ad.add i) = some (.int .i64 x)
theorem Ints.lift {w w' : World} {v : Value} {zs : List Int} (h : Ints w v zs) (hb : Below w.heap.size w w') : Ints w' v zs := by
  obtain ⟨a, cap, hv, h1, h2, hc⟩ := h
  refine ⟨a, cap, hv, h1, h2, fun i x hx => ?_⟩
  obtain ⟨ad, ha, hcell⟩ := hc i x hx
  exact ⟨ad, ha, (hb.cell (World.block_lt_of_cell? _ _ hcell)).trans hcell⟩
end Go.Proofs.Ytljgpgmaceackaa
