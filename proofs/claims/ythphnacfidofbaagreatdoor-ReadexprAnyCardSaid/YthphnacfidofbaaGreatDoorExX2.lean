/- The reference's reader of expressions: the next token's place, a number. -/
import Derived.Test.YthphnacfidofbaaGreatDoorExX1
import Derived.Test.YthphnacfidofbaaGreatDoorTyXMb
namespace Go.Proofs.YthphnacfidofbaaGreatDoor
open Go.RowKit Go.Maps Mth

set_option maxHeartbeats 1600000 in
theorem rdPos_any (b : Nat) (ts : List Tok) (s : St) (w : World) (h : RdX w b ts s) : Calls Tryz.prog 82 #[.pointer (some ⟨b, 0, none⟩)] w fun e w' => e = .returned (.int .i64 (tkP ts s.i)) ∧ Below w.heap.size w w' := by
  obtain ⟨i, q, p⟩ := s
  obtain ⟨lv, hr, ⟨a, cap, rfl, hcap, hc⟩, hi, hp, hl⟩ := h
  obtain ⟨c0, c1, c2, c3, f1, f2, f3⟩ := hr.cells
  have hl1 := hl.1
  have HC := Lib.hid hc
  clear hc hr hp hl
  dsimp only at hi
  by_cases hlt : i < ts.length
  · obtain ⟨t, ht⟩ : ∃ x, ts[i]? = some x := ⟨_, List.getElem?_eq_getElem hlt⟩
    obtain ⟨g, rfl, hg, d0, d1, d2⟩ := HC.out i t ht
    have HE : Hid (tkP ts i = t.pos) := by show _ = _; unfold tkP; rw [ht]
    clear ht
    have hli : ((i : Int) < (ts.length : Int)) := by omega
    go_enter Tryz.func82, Tryz.ntmps82
    go_wp2
    go_quiet (fail)
    go_wp2
    go_quiet (fail)
    go_wp2
    go_ret
    exact ⟨ret_int HE.out.symm, by first | exact below_drewN (below_drewN (Below.refl _ w) _) _ | exact below_drewN (Below.refl _ w) _⟩
  · have HE : Hid (tkP ts i = 0) := by show _ = _; unfold tkP; rw [List.getElem?_eq_none (by omega)]
    have hli : decide ((i : Int) < (ts.length : Int)) = false := by simpa using hlt
    go_enter Tryz.func82, Tryz.ntmps82
    go_wp2
    go_quiet (fail)
    go_wp2
    go_ret
    exact ⟨ret_int HE.out.symm, by first | exact below_drewN (below_drewN (Below.refl _ w) _) _ | exact below_drewN (Below.refl _ w) _⟩

theorem dec_bound : ∀ (l : List UInt8) (acc n : Nat), Lib.decFrom acc l = some n → acc ≤ n := by
  intro l
  induction l with
  | nil => intro acc n h; simp [Lib.decFrom] at h; omega
  | cons c l ih =>
    intro acc n h
    unfold Lib.decFrom at h
    cases hd : Lib.digitVal c with
    | none => rw [hd] at h; simp at h
    | some d =>
      rw [hd] at h
      have := ih _ n h
      omega
theorem dec_step {c : UInt8} {l : List UInt8} {acc n : Nat} (h : Lib.decFrom acc (c :: l) = some n) : 48 ≤ c.toNat ∧ c.toNat ≤ 57 ∧ Lib.decFrom (acc * 10 + (c.toNat - 48)) l = some n := by
  unfold Lib.decFrom at h
  cases hd : Lib.digitVal c with
  | none => rw [hd] at h; simp at h
  | some d =>
    rw [hd] at h
    unfold Lib.digitVal at hd
    split at hd
    · rename_i hq
      simp at hd hq
      subst hd
      have h48 : (48 : UInt8).toNat = 48 := rfl
      have h57 : (57 : UInt8).toNat = 57 := rfl
      refine ⟨by simpa using hq.1, by simpa using hq.2, ?_⟩
      simpa using h
    · simp at hd
theorem dec_lt : ∀ (l : List UInt8) (acc n k : Nat), acc < 10 ^ k → Lib.decFrom acc l = some n → n < 10 ^ (k + l.length) := by
  intro l
  induction l with
  | nil => intro acc n k hk h; simp [Lib.decFrom] at h; subst h; simpa using hk
  | cons c l ih =>
    intro acc n k hk h
    obtain ⟨h1, h2, h3⟩ := dec_step h
    have := ih _ n (k + 1) (by rw [Nat.pow_succ]; omega) h3
    rw [List.length_cons, show k + (l.length + 1) = k + 1 + l.length by omega]
    exact this
theorem numB_dec {x : ByteArray} (h : rkind (bl x) = 3) : ∃ n : Nat, Lib.decFrom 0 (bl x) = some n ∧ numB x = n ∧ n < 1000000000 := by
  obtain ⟨h1, h2, h3⟩ := rkind_int h
  obtain ⟨n, hn⟩ := dec_some (bl x) 0 h3
  refine ⟨n, hn, ?_, ?_⟩
  · unfold numB
    show (match Lib.atoi (bl x) with | some n => n | none => 0) = _
    generalize bl x = l at *
    cases l with
    | nil => exact absurd rfl h1
    | cons c l =>
      have hc : dig c = true := by simp at h3; exact h3.1
      have hn' : Lib.decNat (c :: l) = some n := by unfold Lib.decNat; simpa using hn
      have n1 : (c == 45) = false := by
        rw [beq_eq_false_iff_ne]
        rintro rfl
        revert hc; decide
      have n2 : (c == 43) = false := by
        rw [beq_eq_false_iff_ne]
        rintro rfl
        revert hc; decide
      simp only [Lib.atoi, n1, n2, hn', Bool.false_eq_true, if_false]
      rfl
  · have := dec_lt (bl x) 0 n 0 (by decide) hn
    have h10 : 10 ^ (0 + (bl x).length) ≤ 10 ^ 9 := Nat.pow_le_pow_right (by decide) (by omega)
    have e : (10 : Nat) ^ 9 = 1000000000 := by decide
    omega
set_option maxHeartbeats 1600000 in
theorem rNum_any (x : ByteArray) (w : World) (h : rkind (bl x) = 3) : Calls Tryz.prog 95 #[.string x] w fun e w' => e = .returned (.int .i64 (numB x)) ∧ w = w' := by
  obtain ⟨n, hn, he, hlt⟩ := numB_dec h
  have hsz : x.size ≤ 9 := by rw [← bl_len]; exact (rkind_int h).2.1
  have HE := Lib.hid he
  have HN := Lib.hid hn
  clear h hn he
  go_enter Tryz.func95, Tryz.ntmps95
  go_wp2
  go_loop [3, 4] (fun m i => ∃ k acc : Nat, k ≤ x.size ∧ i = .int .i64 k ∧ m = .int .i64 acc ∧ Hid (Lib.decFrom acc ((bl x).drop k) = some n)) (fun _ i => x.size - (intOf i).toNat)
  case atStart => exact ⟨0, 0, Nat.zero_le _, rfl, rfl, HN⟩
  case round =>
    obtain ⟨k, acc, hk, rfl, rfl, HD⟩ := hrel
    have hb := dec_bound _ _ _ HD.out
    by_cases hlt2 : k < x.size
    · have hl : k < (bl x).length := by rw [bl_len]; exact hlt2
      have hd := HD.out
      rw [List.drop_eq_getElem_cons hl, bl_get x k hlt2] at hd
      obtain ⟨g1, g2, g3⟩ := dec_step hd
      have HG := Lib.hid g3
      have hb3 := dec_bound _ _ _ g3
      have w1 : IntKind.u8.wrap ((x[k].toNat : Int) - 48) = (x[k].toNat : Int) - 48 := by rw [IntKind.wrap_u8]; omega
      have w2 : IntKind.i64.wrap (10 * (acc : Int)) = 10 * (acc : Int) := by rw [IntKind.wrap_i64]; omega
      have w3 : IntKind.i64.wrap (10 * (acc : Int) + ((x[k].toNat : Int) - 48)) = ((acc * 10 + (x[k].toNat - 48) : Nat) : Int) := by rw [IntKind.wrap_i64]; omega
      clear hd g3
      go_wp2
      go_round
      case rel => exact ⟨k + 1, acc * 10 + (x[k].toNat - 48), by omega, by go_num, by first | rfl | (congr 1; omega) | simp_all, HG⟩
      case measure => simp [intOf]; omega
    · have hd := HD.out
      rw [List.drop_eq_nil_of_le (by rw [bl_len]; omega)] at hd
      simp [Lib.decFrom] at hd
      go_wp2
      go_ret
      exact ⟨ret_int (by first | (rw [HE.out, hd]; done) | (rw [HE.out])), rfl⟩
end Go.Proofs.YthphnacfidofbaaGreatDoor
