import Derived.Test.YthphnacfidofbaaGreatDoorRows
import Derived.Test.YthphnacfidofbaaGreatDoorTkMa
import Derived.WalkKit
import Derived.WalkSpells
import Derived.WalkLawsBesides
import Derived.WalkSmall
import Derived.Lib.Hide
import Derived.Handy
import Derived.Below
import Derived.OwnWalk
import Derived.Laws.AppendOwn
import Derived.Deep.RegionHeld3
import Derived.Deep.QuietTactic
import Derived.BigQuiet
/- The contracts of the reference's functions on bytes; facts on words. -/
namespace Go.Proofs.YthphnacfidofbaaGreatDoor
open Go.RowKit Mth

theorem ret_int {k : IntKind} {a b : Int} (h : a = b) : Ending.returned (.int k a) = .returned (.int k b) := by rw [h]
theorem ret_bool {a b : Bool} (h : a = b) : Ending.returned (.bool a) = .returned (.bool b) := by rw [h]
theorem low_any (c : UInt8) (w : World) : Calls Tryz.prog 101 #[.int .u8 c.toNat] w fun e w' => e = .returned (.bool (low c)) ∧ w = w' := by
  unfold low
  by_cases h1 : 97 ≤ c.toNat
  all_goals
    go_enter Tryz.func101, Tryz.ntmps101
    go_wp2
    go_ret
    exact ⟨ret_bool (by simp [h1] <;> omega), rfl⟩
theorem upp_any (c : UInt8) (w : World) : Calls Tryz.prog 102 #[.int .u8 c.toNat] w fun e w' => e = .returned (.bool (upp c)) ∧ w = w' := by
  unfold upp
  by_cases h1 : 65 ≤ c.toNat
  all_goals
    go_enter Tryz.func102, Tryz.ntmps102
    go_wp2
    go_ret
    exact ⟨ret_bool (by simp [h1] <;> omega), rfl⟩
theorem dig_any (c : UInt8) (w : World) : Calls Tryz.prog 103 #[.int .u8 c.toNat] w fun e w' => e = .returned (.bool (dig c)) ∧ w = w' := by
  unfold dig
  by_cases h1 : 48 ≤ c.toNat
  all_goals
    go_enter Tryz.func103, Tryz.ntmps103
    go_wp2
    go_ret
    exact ⟨ret_bool (by simp [h1] <;> omega), rfl⟩
theorem inn_any (c : UInt8) (w : World) : Calls Tryz.prog 63 #[.int .u8 c.toNat] w fun e w' => e = .returned (.bool (inn c)) ∧ w = w' := by
  unfold inn
  cases h1 : low c <;> cases h2 : upp c <;> cases h3 : dig c
  all_goals
    go_enter Tryz.func63, Tryz.ntmps63
    go_wp2_with (first
      | (go_at_call 101; refine (low_any c _).mono ?_; rintro e w' ⟨rfl, rfl⟩)
      | (go_at_call 102; refine (upp_any c _).mono ?_; rintro e w' ⟨rfl, rfl⟩)
      | (go_at_call 103; refine (dig_any c _).mono ?_; rintro e w' ⟨rfl, rfl⟩))
    go_ret
    exact ⟨ret_bool (by first | (simp; done) | (rw [Bool.eq_iff_iff]; simp; omega)), rfl⟩
theorem kw_no {s : ByteArray} (h : kw (bl s) = false) : ∀ a : List UInt8, a ∈ kws → (s.toList == a) = false := by
  intro a ha
  rw [Lib.toList_data]
  cases hb : s.data.toList == a with
  | false => rfl
  | true =>
    rw [beq_iff_eq] at hb
    unfold kw bl at h
    rw [hb] at h
    simp at h
    exact absurd ha h
theorem kw_yes {s : ByteArray} (h : kw (bl s) = true) : s = ⟨#[100, 97, 116, 97]⟩ ∨ s = ⟨#[108, 101, 116]⟩ ∨ s = ⟨#[114, 101, 99]⟩ ∨ s = ⟨#[105, 110]⟩ ∨ s = ⟨#[99, 97, 115, 101]⟩ ∨ s = ⟨#[111, 102]⟩ ∨ s = ⟨#[101, 110, 100]⟩ := by
  unfold kw kws at h
  simp only [decide_eq_true_eq, List.mem_cons, List.not_mem_nil, or_false] at h
  simpa [bl_eq, bl] using h
/-- A string's first byte. -/
theorem head_get {s : ByteArray} (h : 0 < s.size) : (bl s).head? = some s[0] := by
  rw [List.head?_eq_getElem?, List.getElem?_eq_getElem (by rw [bl_len]; exact h)]
  rfl
theorem hd_head {p : UInt8 → Bool} {l : List UInt8} {c : UInt8} (h : l.head? = some c) : hd p l = p c := by
  cases l with
  | nil => simp at h
  | cons d r => simp at h; subst h; rfl
theorem hd_get {s : ByteArray} (p : UInt8 → Bool) (h : 0 < s.size) : hd p (bl s) = p s[0] := hd_head (head_get h)
theorem cons_get {s : ByteArray} (h : 0 < s.size) : ∃ r, bl s = s[0] :: r := by
  have := head_get h
  generalize bl s = l at *
  cases l with
  | nil => simp at this
  | cons d r => simp at this; subst this; exact ⟨r, rfl⟩
theorem nil_size {s : ByteArray} (h : 0 < s.size) : (s.toList == []) = false := by
  rw [Lib.toList_data]
  have := bl_len s
  unfold bl at this
  cases hb : s.data.toList == [] with
  | false => rfl
  | true => rw [beq_iff_eq] at hb; rw [hb] at this; simp at this; omega
theorem empty_size {s : ByteArray} (h : 0 < s.size) : (bl s).isEmpty = false := by
  have := bl_len s
  cases hb : (bl s).isEmpty with
  | false => rfl
  | true => rw [List.isEmpty_iff] at hb; rw [hb] at this; simp at this; omega
theorem isInt_eq {s : ByteArray} (h : 0 < s.size) : isInt (bl s) = (decide (s.size ≤ 9) && !(decide (s[0].toNat = 48) && decide (1 < s.size)) && decide (tw dig (bl s) = s.size)) := by
  unfold isInt
  rw [head_get h, all_tw, bl_len]
  have : (some s[0] = some 48) ↔ s[0].toNat = 48 := by
    rw [Option.some.injEq]; exact ⟨fun e => by rw [e]; rfl, fun e => UInt8.toNat_inj.1 e⟩
  simp only [this]
theorem zero_size {s : ByteArray} (h : 0 < s.size) (h0 : s[0].toNat = 48) : (s.toList == [48]) = decide (s.size = 1) := by
  rw [Lib.toList_data]
  have hl := bl_len s
  have hh := head_get h
  change (bl s == [48]) = _
  generalize bl s = l at *
  cases l with
  | nil => simp at hl; omega
  | cons c r =>
    simp at hh
    subst hh
    have h0' : s[0] = 48 := UInt8.toNat_inj.1 h0
    rw [← hl, h0', Bool.eq_iff_iff]
    cases r <;> simp
end Go.Proofs.YthphnacfidofbaaGreatDoor

/- The contracts of the reference's mark, Keyword, word. -/
namespace Go.Proofs.YthphnacfidofbaaGreatDoor
open Go.RowKit Mth

theorem ext_mk (k : Nat) (h : k < 11) : ((⟨#[92, 46, 61, 59, 58, 124, 40, 41, 123, 125, 63]⟩ : ByteArray).extract k (k + 1)).toList = [mks[k]'h] := by
  have all : ∀ d : Fin 11, bl ((⟨#[92, 46, 61, 59, 58, 124, 40, 41, 123, 125, 63]⟩ : ByteArray).extract d.val (d.val + 1)) = [mks[d.val]'d.isLt] := by decide +kernel
  rw [Lib.toList_data]
  exact all ⟨k, h⟩
/-- Of the marks of one byte, those behind the first k. -/
def mkFrom (k : Nat) (l : List UInt8) : Bool := decide (∃ c ∈ mks.drop k, l = [c])
theorem mkFrom_end (l : List UInt8) : mkFrom 11 l = false := by unfold mkFrom mks; simp
theorem mkFrom_hit {k : Nat} (h : k < 11) {l : List UInt8} (e : l = [mks[k]'h]) : mkFrom k l = true := by
  unfold mkFrom
  rw [decide_eq_true_eq]
  refine ⟨mks[k]'h, ?_, e⟩
  rw [List.mem_iff_getElem?]
  exact ⟨0, by rw [List.getElem?_drop, Nat.add_zero]; exact List.getElem?_eq_getElem h⟩
theorem mkFrom_miss {k : Nat} (h : k < 11) {l : List UInt8} (e : ¬ l = [mks[k]'h]) : mkFrom k l = mkFrom (k + 1) l := by
  unfold mkFrom
  rw [Bool.eq_iff_iff, decide_eq_true_eq, decide_eq_true_eq]
  have hd := List.drop_eq_getElem_cons (show k < mks.length from h)
  constructor
  · rintro ⟨c, hc, hl⟩
    rw [hd] at hc
    rcases List.mem_cons.1 hc with rfl | hc
    · exact absurd hl e
    · exact ⟨c, hc, hl⟩
  · rintro ⟨c, hc, hl⟩
    exact ⟨c, by rw [hd]; exact List.mem_cons_of_mem _ hc, hl⟩
theorem str_eq {s : ByteArray} {l : List UInt8} (h : (s.toList == l) = true) : bl s = l := by
  rw [Lib.toList_data, beq_iff_eq] at h; exact h
theorem str_ne {s : ByteArray} {l : List UInt8} (h : (s.toList == l) = false) : ¬ bl s = l := by
  rw [Lib.toList_data, beq_eq_false_iff_ne] at h; exact h
theorem mk_any (s : ByteArray) (w : World) : Calls Tryz.prog 108 #[.string s] w fun e w' => e = .returned (.bool (mk (bl s))) ∧ w = w' := by
  cases h1 : (s.toList == [45, 62]) with
  | true =>
    have HE : Hid (mk (bl s) = true) := by show _ = _; rw [str_eq h1]; rfl
    go_enter Tryz.func108, Tryz.ntmps108
    go_wp2
    go_ret
    exact ⟨ret_bool HE.out.symm, rfl⟩
  | false =>
    have HE : Hid (mk (bl s) = mkFrom 0 (bl s)) := by
      show _ = _
      unfold mk mkFrom
      simp [str_ne h1]
    go_enter Tryz.func108, Tryz.ntmps108
    go_wp2
    go_loop [3] (fun i => ∃ k : Nat, k ≤ 11 ∧ i = .int .i64 k ∧ Hid (mk (bl s) = mkFrom k (bl s))) (fun i => 11 - (intOf i).toNat)
    case atStart => exact ⟨0, Nat.zero_le _, rfl, HE⟩
    case round =>
      obtain ⟨k, hk, rfl, HK⟩ := hrel
      by_cases hlt : k < 11
      · have hx := ext_mk k hlt
        cases hb : (s.toList == ((⟨#[92, 46, 61, 59, 58, 124, 40, 41, 123, 125, 63]⟩ : ByteArray).extract k (k + 1)).toList) with
        | true =>
          have HR : Hid (mk (bl s) = true) := by
            rw [hx] at hb
            exact HK.out.trans (mkFrom_hit hlt (str_eq hb))
          clear hx
          go_wp2
          go_ret
          exact ⟨ret_bool HR.out.symm, rfl⟩
        | false =>
          have HR : Hid (mk (bl s) = mkFrom (k + 1) (bl s)) := by
            rw [hx] at hb
            exact HK.out.trans (mkFrom_miss hlt (str_ne hb))
          clear hx
          go_wp2
          go_round
          case rel => exact ⟨k + 1, hlt, by go_num, HR⟩
          case measure => simp [intOf]; omega
      · obtain rfl : k = 11 := by omega
        go_wp2
        go_ret
        exact ⟨ret_bool (HK.out.trans (mkFrom_end _)).symm, rfl⟩
theorem kw_no' {s : ByteArray} (h : kw (bl s) = false) (a : List UInt8) (ha : a ∈ kws) : (a == s.toList) = false := by
  have := kw_no h a ha
  rw [beq_eq_false_iff_ne] at this ⊢
  exact fun e => this e.symm
set_option maxHeartbeats 800000 in
theorem keyword_any (s : ByteArray) (w : World) : Calls Tryz.prog 104 #[.string s] w fun e w' => e = .returned (.bool (kw (bl s))) ∧ Below w.heap.size w w' := by
  cases hk : kw (bl s) with
  | true =>
    rcases kw_yes hk with h | h | h | h | h | h | h
    all_goals
      subst h
      clear hk
      go_enter Tryz.func104, Tryz.ntmps104
      go_wp2
      go_rounds 8
      go_ret
      exact ⟨rfl, (Below.refl _ _).alloc (Nat.le_refl _) _⟩
  | false =>
    have h1 := kw_no' hk [100, 97, 116, 97] (by decide)
    have h2 := kw_no' hk [108, 101, 116] (by decide)
    have h3 := kw_no' hk [114, 101, 99] (by decide)
    have h4 := kw_no' hk [105, 110] (by decide)
    have h5 := kw_no' hk [99, 97, 115, 101] (by decide)
    have h6 := kw_no' hk [111, 102] (by decide)
    have h7 := kw_no' hk [101, 110, 100] (by decide)
    clear hk
    go_enter Tryz.func104, Tryz.ntmps104
    go_wp2
    go_rounds 8
    go_ret
    exact ⟨rfl, (Below.refl _ _).alloc (Nat.le_refl _) _⟩
theorem wrd_eq (s : ByteArray) : wrd (bl s) = (decide (tw inn (bl s) = s.size) && !decide (s.size = 0)) := by
  unfold wrd
  rw [all_tw, bl_len]
  congr 2
  rw [Bool.eq_iff_iff, List.isEmpty_iff_length_eq_zero, bl_len]; simp
theorem nil_decide (s : ByteArray) : (s.toList == []) = decide (s.size = 0) := by
  rw [Lib.toList_data, ← bl_len]
  change (bl s == []) = _
  cases bl s <;> rfl
theorem wrd_any (s : ByteArray) (w : World) (hs : s.size ≤ 9223372036854775807) : Calls Tryz.prog 131 #[.string s] w fun e w' => e = .returned (.bool (wrd (bl s))) ∧ w = w' := by
  have HE := Lib.hid (wrd_eq s)
  have HN := Lib.hid (nil_decide s)
  have hle := tw_le inn (bl s)
  rw [bl_len] at hle
  go_enter Tryz.func131, Tryz.ntmps131
  go_wp2
  go_loop [3] (fun i => ∃ k : Nat, k ≤ tw inn (bl s) ∧ i = .int .i64 k) (fun i => s.size - (intOf i).toNat)
  case atStart => exact ⟨0, Nat.zero_le _, rfl⟩
  case round =>
    obtain ⟨k, hk, rfl⟩ := hrel
    by_cases hlt : k < s.size
    · have hst := tw_step inn (bl s) k (by rw [bl_len]; exact hlt) hk
      rw [bl_get s k hlt] at hst
      have HS := Lib.hid hst
      clear hst
      cases h3 : inn s[k] with
      | true =>
        have h6 := Lib.hid (HS.out.1 h3)
        go_wp2_with (go_at_call 63; refine (inn_any _ _).mono ?_; rintro e w' ⟨rfl, rfl⟩)
        go_round
        case rel => exact ⟨k + 1, h6.out, by go_num⟩
        case measure => simp [intOf]; omega
      | false =>
        have h6 := Lib.hid (HS.out.2 h3)
        go_wp2_with (go_at_call 63; refine (inn_any _ _).mono ?_; rintro e w' ⟨rfl, rfl⟩)
        go_ret
        exact ⟨ret_bool (by have := h6.out; rw [HE.out]; symm; simp; omega), rfl⟩
    · have HT : Hid (tw inn (bl s) = s.size) := by show _ = _; omega
      clear hle
      by_cases hz : s.size = 0
      · have hb : (s.toList == []) = true := by rw [HN.out]; simp [hz]
        go_wp2
        go_ret
        exact ⟨ret_bool (by rw [HE.out, HT.out]; simp [hz]), rfl⟩
      · have hb : (s.toList == []) = false := by rw [HN.out]; simp [hz]
        go_wp2
        go_ret
        exact ⟨ret_bool (by rw [HE.out, HT.out]; simp [hz]), rfl⟩
end Go.Proofs.YthphnacfidofbaaGreatDoor

/- The contracts of the reference's Lower, Upper, Integer and Kind. -/
namespace Go.Proofs.YthphnacfidofbaaGreatDoor
open Go.RowKit Mth

theorem wrd_pos {s : ByteArray} (h : wrd (bl s) = true) : 0 < s.size := by
  by_cases hz : s.size = 0
  · rw [wrd_eq, hz] at h; simp at h
  · omega
def isUp (l : List UInt8) : Bool := wrd l && hd upp l && decide (l.length ≤ 12)
def isLo (l : List UInt8) : Bool := wrd l && hd low l && decide (l.length ≤ 12) && !kw l
theorem upper_any (s : ByteArray) (w : World) (hs : s.size ≤ 9223372036854775807) : Calls Tryz.prog 106 #[.string s] w fun e w' => e = .returned (.bool (isUp (bl s))) ∧ w = w' := by
  cases h1 : wrd (bl s) with
  | false =>
    have HE : Hid (isUp (bl s) = false) := by show _ = _; unfold isUp; rw [h1]; rfl
    go_enter Tryz.func106, Tryz.ntmps106
    go_wp2_with (go_at_call 131; refine (wrd_any _ _ hs).mono ?_; rintro e w' ⟨rfl, rfl⟩)
    go_ret
    exact ⟨ret_bool HE.out.symm, rfl⟩
  | true =>
    have h0 := wrd_pos h1
    have HE : Hid (isUp (bl s) = (upp s[0] && decide (s.size ≤ 12))) := by show _ = _; unfold isUp; rw [h1, hd_get upp h0, bl_len]; rfl
    cases h2 : upp s[0]
    all_goals
      go_enter Tryz.func106, Tryz.ntmps106
      go_wp2_with (first
        | (go_at_call 131; refine (wrd_any _ _ hs).mono ?_; rintro e w' ⟨rfl, rfl⟩)
        | (go_at_call 102; refine (upp_any _ _).mono ?_; rintro e w' ⟨rfl, rfl⟩))
      go_ret
      exact ⟨ret_bool (by rw [HE.out, h2]; simp <;> omega), rfl⟩
theorem lower_any (s : ByteArray) (w : World) (hs : s.size ≤ 9223372036854775807) : Calls Tryz.prog 105 #[.string s] w fun e w' => e = .returned (.bool (isLo (bl s))) ∧ Below w.heap.size w w' := by
  cases h1 : wrd (bl s) with
  | false =>
    have HE : Hid (isLo (bl s) = false) := by show _ = _; unfold isLo; rw [h1]; rfl
    go_enter Tryz.func105, Tryz.ntmps105
    go_wp2_with (go_at_call 131; refine (wrd_any _ _ hs).mono ?_; rintro e w' ⟨rfl, rfl⟩)
    go_ret
    exact ⟨ret_bool HE.out.symm, Below.refl _ _⟩
  | true =>
    have h0 := wrd_pos h1
    have HE : Hid (isLo (bl s) = (low s[0] && decide (s.size ≤ 12) && !kw (bl s))) := by show _ = _; unfold isLo; rw [h1, hd_get low h0, bl_len]; rfl
    cases h2 : low s[0] with
    | false =>
      go_enter Tryz.func105, Tryz.ntmps105
      go_wp2_with (first
        | (go_at_call 131; refine (wrd_any _ _ hs).mono ?_; rintro e w' ⟨rfl, rfl⟩)
        | (go_at_call 101; refine (low_any _ _).mono ?_; rintro e w' ⟨rfl, rfl⟩))
      go_ret
      exact ⟨ret_bool (by rw [HE.out, h2]; rfl), Below.refl _ _⟩
    | true =>
      by_cases h3 : s.size ≤ 12
      · cases h4 : kw (bl s)
        all_goals
          go_enter Tryz.func105, Tryz.ntmps105
          go_wp2_with (first
            | (go_at_call 131; refine (wrd_any _ _ hs).mono ?_; rintro e w' ⟨rfl, rfl⟩)
            | (go_at_call 101; refine (low_any _ _).mono ?_; rintro e w' ⟨rfl, rfl⟩)
            | (go_at_call 104; refine (keyword_any _ _).mono ?_; rintro e w1 ⟨rfl, hb1⟩))
          go_ret
          exact ⟨ret_bool (by rw [HE.out, h2, h4]; simp [h3]), hb1⟩
      · go_enter Tryz.func105, Tryz.ntmps105
        go_wp2_with (first
          | (go_at_call 131; refine (wrd_any _ _ hs).mono ?_; rintro e w' ⟨rfl, rfl⟩)
          | (go_at_call 101; refine (low_any _ _).mono ?_; rintro e w' ⟨rfl, rfl⟩))
        go_ret
        exact ⟨ret_bool (by rw [HE.out, h2]; simp [h3]), Below.refl _ _⟩
/-- Is the list an integer? -/
def isNum (l : List UInt8) : Bool := !l.isEmpty && isInt l
set_option maxHeartbeats 800000 in
theorem integer_any (s : ByteArray) (w : World) (hs : s.size ≤ 9223372036854775807) : Calls Tryz.prog 107 #[.string s] w fun e w' => e = .returned (.bool (isNum (bl s))) ∧ w = w' := by
  by_cases hz : s.size = 0
  · have he : s = ⟨#[]⟩ := bl_eq.2 (List.eq_nil_of_length_eq_zero (by rw [bl_len]; exact hz))
    subst he
    clear hz hs
    go_enter Tryz.func107, Tryz.ntmps107
    go_wp2
    go_ret
    exact ⟨rfl, rfl⟩
  have h0 : 0 < s.size := by omega
  have hn := nil_size h0
  have HE : Hid (isNum (bl s) = (decide (s.size ≤ 9) && !(decide (s[0].toNat = 48) && decide (1 < s.size)) && decide (tw dig (bl s) = s.size))) := by
    show _ = _
    unfold isNum
    rw [empty_size h0, isInt_eq h0]; rfl
  have hle := tw_le dig (bl s)
  rw [bl_len] at hle
  by_cases h9 : s.size ≤ 9
  · have loop : ∀ (h48 : (!(decide (s[0].toNat = 48) && decide (1 < s.size))) = true), Calls Tryz.prog 107 #[.string s] w fun e w' => e = .returned (.bool (isNum (bl s))) ∧ w = w' := by
      intro h48
      have HR : Hid (isNum (bl s) = decide (tw dig (bl s) = s.size)) := by
        show _ = _
        rw [HE.out, h48]; simp [h9]
      have hq : ((s[0].toNat : Int) == 48) = false ∨ (((s[0].toNat : Int) == 48) = true ∧ ¬ 1 < s.size) := by
        cases hb : ((s[0].toNat : Int) == 48) with
        | false => exact .inl rfl
        | true =>
          right
          rw [beq_iff_eq] at hb
          have hb' : s[0].toNat = 48 := by omega
          refine ⟨rfl, ?_⟩
          simp [hb'] at h48
          omega
      clear h48 HE
      rcases hq with hq | ⟨hq, hy⟩
      all_goals
        go_enter Tryz.func107, Tryz.ntmps107
        go_wp2
        clear hq
        try clear hy
        go_loop [3] (fun i => ∃ k : Nat, k ≤ tw dig (bl s) ∧ i = .int .i64 k) (fun i => s.size - (intOf i).toNat)
        case atStart => exact ⟨0, Nat.zero_le _, rfl⟩
        case round =>
          obtain ⟨k, hk, rfl⟩ := hrel
          by_cases hlt : k < s.size
          · have hst := tw_step dig (bl s) k (by rw [bl_len]; exact hlt) hk
            rw [bl_get s k hlt] at hst
            have HS := Lib.hid hst
            clear hst
            cases h3 : dig s[k] with
            | true =>
              have h6 := Lib.hid (HS.out.1 h3)
              go_wp2_with (go_at_call 103; refine (dig_any _ _).mono ?_; rintro e w' ⟨rfl, rfl⟩)
              go_round
              case rel => exact ⟨k + 1, h6.out, by go_num⟩
              case measure => simp [intOf]; omega
            | false =>
              have h6 := Lib.hid (HS.out.2 h3)
              go_wp2_with (go_at_call 103; refine (dig_any _ _).mono ?_; rintro e w' ⟨rfl, rfl⟩)
              go_ret
              exact ⟨ret_bool (by have := h6.out; rw [HR.out]; symm; simp; omega), rfl⟩
          · have : k = tw dig (bl s) := by omega
            go_wp2
            go_ret
            exact ⟨ret_bool (by rw [HR.out]; symm; simp; omega), rfl⟩
    cases h48 : (!(decide (s[0].toNat = 48) && decide (1 < s.size))) with
    | true => exact loop h48
    | false =>
      clear loop
      have HR : Hid (isNum (bl s) = false) := by
        show _ = _
        rw [HE.out, h48]; simp
      have hq : s[0].toNat = 48 ∧ 1 < s.size := by simpa using h48
      have h1 : ((s[0].toNat : Int) == 48) = true := by rw [beq_iff_eq]; omega
      have h2 := hq.2
      clear hq h48 HE hle
      go_enter Tryz.func107, Tryz.ntmps107
      go_wp2
      go_ret
      exact ⟨ret_bool (by rw [HR.out]), rfl⟩
  · have HR : Hid (isNum (bl s) = false) := by
      show _ = _
      rw [HE.out]; simp; omega
    clear HE hle
    go_enter Tryz.func107, Tryz.ntmps107
    go_wp2
    go_ret
    exact ⟨ret_bool (by rw [HR.out]), rfl⟩
theorem rkind_eq (l : List UInt8) : rkind l = if kw l then (4 : Int) else if isLo l then 1 else if isUp l then 2 else if isNum l then 3 else if mk l then 5 else 0 := by
  unfold rkind isLo isUp isNum
  cases kw l <;> simp
set_option maxHeartbeats 800000 in
theorem kind_any (s : ByteArray) (w : World) (hs : s.size ≤ 9223372036854775807) : Calls Tryz.prog 64 #[.string s] w fun e w' => e = .returned (.int .i64 (rkind (bl s))) ∧ Below w.heap.size w w' := by
  have HE := Lib.hid (rkind_eq (bl s))
  cases h1 : kw (bl s) with
  | true =>
    go_enter Tryz.func64, Tryz.ntmps64
    go_wp2_with (go_at_call 104; refine (keyword_any _ _).mono ?_; rintro e w1 ⟨rfl, hb1⟩)
    go_ret
    exact ⟨ret_int (by rw [HE.out, h1]; rfl), hb1⟩
  | false =>
    cases h2 : isLo (bl s) <;> cases h3 : isUp (bl s) <;> cases h4 : isNum (bl s) <;> cases h5 : mk (bl s)
    all_goals
      go_enter Tryz.func64, Tryz.ntmps64
      go_wp2_with (first
        | (go_at_call 104; refine (keyword_any _ _).mono ?_; rintro e w1 ⟨rfl, hb1⟩)
        | (go_at_call 105; refine (lower_any _ _ hs).mono ?_; rintro e w2 ⟨rfl, hb2⟩)
        | (go_at_call 106; refine (upper_any _ _ hs).mono ?_; rintro e w' ⟨rfl, rfl⟩)
        | (go_at_call 107; refine (integer_any _ _ hs).mono ?_; rintro e w' ⟨rfl, rfl⟩)
        | (go_at_call 108; refine (mk_any _ _).mono ?_; rintro e w' ⟨rfl, rfl⟩))
      go_ret
      exact ⟨ret_int (by rw [HE.out, h1, h2, h3, h4, h5]; rfl), hb1.trans (hb2.mono hb1.size)⟩
end Go.Proofs.YthphnacfidofbaaGreatDoor

/- Rows of tokens. -/
namespace Go.Proofs.YthphnacfidofbaaGreatDoor
open Go.RowKit Mth

/-- A token's cells. -/
def cells3 (t : Tok) : List Value := [.int .i64 t.kind, .string ⟨t.text.toArray⟩, .int .i64 t.pos]
def row3 (l : List Tok) : List Value := l.flatMap cells3
theorem row3_snoc (l : List Tok) (t : Tok) : row3 (l ++ [t]) = row3 l ++ cells3 t := by simp [row3]
theorem Tryz.info44 : (Tryz.prog.info? 44).map (fun i => (i.zero, i.size, i.bytes)) = some (some (.agg #[.int .i64 0, .string ByteArray.empty, .int .i64 0]), 3, 32) := by kernel_rfl
/-- What Scan hands back. -/
def ScanOut (l : List UInt8) (w : World) (e : Ending) (w' : World) : Prop :=
  ∃ v, e = .returned (.tuple #[v, .agg #[.int .i64 (ferr l), .int .i64 (fpos l)]]) ∧ w'.ownsRow (w.heap.size + 1) 44 3 v (ftoks l).length (row3 (ftoks l)) ∧ Below w.heap.size w w'
/-- The cells of the result's fault, while the loop runs. -/
theorem fault_cells {w wr : World} (h : Below (w.heap.size + 1) (w.alloc (.cells #[.int .i64 0, .int .i64 0] 40)) wr) :
    wr.cell? ⟨w.heap.size, 0, none⟩ = some (.int .i64 0) ∧ wr.cell? ⟨w.heap.size, 1, none⟩ = some (.int .i64 0) ∧
      wr.frozen? ⟨w.heap.size, 0, none⟩ = false ∧ wr.frozen? ⟨w.heap.size, 1, none⟩ = false := by
  refine ⟨?_, ?_, ?_, ?_⟩
  · rw [h.cell (p := ⟨w.heap.size, 0, none⟩) (by simp)]; simp
  · rw [h.cell (p := ⟨w.heap.size, 1, none⟩) (by simp)]; simp
  · rw [h.frozen (p := ⟨w.heap.size, 0, none⟩) (by simp)]; simp
  · rw [h.frozen (p := ⟨w.heap.size, 1, none⟩) (by simp)]; simp
theorem fault_read0 {b : Nat} {w : World} {x : Value} (h : w.cell? ⟨b, 0, none⟩ = some x) (u : Value) : (w.setCell ⟨b, 0, none⟩ u).cell? ⟨b, 0, none⟩ = some u := World.cell?_setCell_same _ _ _ h
theorem fault_read1 {b : Nat} {w : World} {x : Value} (h : w.cell? ⟨b, 1, none⟩ = some x) (u v : Value) : ((w.setCell ⟨b, 0, none⟩ u).setCell ⟨b, 1, none⟩ v).cell? ⟨b, 1, none⟩ = some v :=
  World.cell?_setCell_same _ _ _ (u := x) ((World.cell?_setCell_other _ _ _ _ (by simp)).trans h)
theorem fault_below {w wr : World} (h : Below (w.heap.size + 1) (w.alloc (.cells #[.int .i64 0, .int .i64 0] 40)) wr) : Below w.heap.size w wr :=
  ((Below.refl _ _).alloc (Nat.le_refl _) _).trans (h.mono (by omega))
theorem three_new {w : World} {a b c : Value} {t : TypeId} : ∀ (j : Nat) (u : Value), [a, b, c][j]? = some u → (w.alloc (.cells #[a, b, c] t)).cell? ((⟨w.heap.size, 0, none⟩ : Addr).add j) = some u := by
  intro j u hj
  rcases j with _ | _ | _ | j
  · simp at hj; subst hj; simp [Addr.add]
  · simp at hj; subst hj; simp [Addr.add]
  · simp at hj; subst hj; simp [Addr.add]
  · simp at hj
theorem three_one {k p : Int} {t : ByteArray} : ∀ u ∈ [Value.int .i64 k, .string t, .int .i64 p], u.oneCell' = true := by
  intro u hu
  simp at hu
  rcases hu with h | h | h <;> subst h <;> rfl
/-- A token's cells, as the walk makes them. -/
theorem cells3_ext (s : ByteArray) (k n : Nat) (K : Int) : cells3 ⟨K, ((bl s).drop k).take n, k⟩ = [.int .i64 K, .string (s.extract k (k + n)), .int .i64 k] := by
  have h : s.extract k (k + n) = ⟨(((bl s).drop k).take n).toArray⟩ := bl_eq.2 ((bl_extract _ _ _).trans ((congrArg (fun m => ((bl s).drop k).take m) (Nat.add_sub_cancel_left k n)).trans (bl_mk _).symm))
  unfold cells3
  rw [h]
end Go.Proofs.YthphnacfidofbaaGreatDoor
