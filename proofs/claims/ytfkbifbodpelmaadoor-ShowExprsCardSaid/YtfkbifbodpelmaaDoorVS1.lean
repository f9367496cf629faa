import Derived.Test.YtfkbifbodpelmaaDoorVB6
import Derived.Test.YtfkbifbodpelmaaDoorVR1
import Derived.Lib.ItoaNum
import Derived.Lib.ItoaLen
import Derived.Deep.LoopGhost
/- The canonical text of an expression: numbers, atoms, parentheses. -/
namespace Go.Proofs.YtfkbifbodpelmaaDoor
open Go.RowKit Go.Maps Mth

theorem dig_at (d : Nat) (h : d < 10) : (⟨#[48, 49, 50, 51, 52, 53, 54, 55, 56, 57]⟩ : ByteArray).extract d (d + 1) = ⟨#[UInt8.ofNat (48 + d)]⟩ := by
  have all : ∀ d : Fin 10, (⟨#[48, 49, 50, 51, 52, 53, 54, 55, 56, 57]⟩ : ByteArray).extract d.val (d.val + 1) = ⟨#[UInt8.ofNat (48 + d.val)]⟩ := by decide +kernel
  exact all ⟨d, h⟩

theorem dig_step (k : Nat) : (if k / 10 = 0 then [] else Lib.decDigits (k / 10)) ++ [UInt8.ofNat (48 + k % 10)] = Lib.decDigits k := by
  conv => rhs; rw [Lib.decDigits]
  by_cases h10 : k < 10
  · rw [dif_pos h10, if_pos (by omega), Nat.mod_eq_of_lt h10]; rfl
  · rw [dif_neg h10, if_neg (by omega)]
theorem dig_len (n : Nat) (h : n < 18446744073709551616) : (Lib.decDigits n).length ≤ 20 := by rw [Lib.decDigits_length]; exact Lib.nDigits_le20 n h
/-- What a round does to the digits. -/
theorem dig_round (k n : Nat) (x : List UInt8) (h : k ≠ 0) (hx : (if k = 0 then [] else Lib.decDigits k) ++ x = Lib.decDigits n) :
    ∃ y, (⟨#[48, 49, 50, 51, 52, 53, 54, 55, 56, 57]⟩ : ByteArray).extract (k % 10) (k % 10 + 1) ++ ⟨x.toArray⟩ = ⟨y.toArray⟩ ∧ (if k / 10 = 0 then [] else Lib.decDigits (k / 10)) ++ y = Lib.decDigits n := by
  refine ⟨UInt8.ofNat (48 + k % 10) :: x, ?_, ?_⟩
  · rw [dig_at _ (by omega)]; apply ByteArray.ext; simp
  · rw [if_neg h] at hx
    rw [← hx, ← dig_step k]; simp

set_option maxHeartbeats 400000 in
theorem refNumber_pos (n : Nat) (w : World) (h1 : 1 ≤ n) (h2 : n ≤ 9223372036854775807) :
    Calls Tryd.prog 27 #[.int .i64 n] w fun e w' => e = .returned (.string ⟨(Lib.itoa n).toArray⟩) ∧ w = w' := by
  have hz : ¬ (n : Int) = 0 := by omega
  have HI := Lib.hid (Lib.itoa_nonneg n)
  go_enter Tryd.func27, Tryd.ntmps27
  go_wp2
  go_loop [3, 4] (fun a b => ∃ (k : Nat) (x : List UInt8), k ≤ n ∧ b = .int .i64 k ∧ a = .string ⟨x.toArray⟩ ∧ (if k = 0 then [] else Lib.decDigits k) ++ x = Lib.decDigits n) (fun _ b => (intOf b).toNat)
  case atStart => exact ⟨n, [], by omega, rfl, rfl, by rw [if_neg (by omega)]; simp⟩
  case round =>
    obtain ⟨k, x, hk, rfl, rfl, hx⟩ := hrel
    have hxl : x.length ≤ 20 := by
      have := dig_len n (by omega); rw [← hx, List.length_append] at this; omega
    have HX := Lib.hid hx
    clear hx
    by_cases hk0 : k = 0
    · subst hk0
      go_wp2
      go_ret
      exact ⟨by rw [HI.out, ← HX.out]; simp, rfl⟩
    · have h9 : ¬ 9223372036854775807 < min (k % 10 + 1) 10 - k % 10 + x.length := by omega
      obtain ⟨y, hy1, hy2⟩ := dig_round k n x hk0 HX.out
      have HY1 := Lib.hid hy1
      have HY2 := Lib.hid hy2
      clear hy1 hy2
      go_wp2
      go_round
      case rel => exact ⟨k / 10, y, by omega, by go_num, by rw [HY1.out], HY2.out⟩
      case measure => simp [intOf]; omega
theorem refNumber_nat (n : Nat) (w : World) (h2 : n ≤ 9223372036854775807) :
    Calls Tryd.prog 27 #[.int .i64 n] w fun e w' => e = .returned (.string ⟨(Lib.itoa n).toArray⟩) ∧ w = w' := by
  by_cases hz : n = 0
  · subst hz
    go_enter Tryd.func27, Tryd.ntmps27
    go_wp2
    go_ret
    exact ⟨by kernel_rfl, rfl⟩
  · exact refNumber_pos n w (by omega) h2

/-- The text is returned. -/
def ShV (w : World) (l : List UInt8) (e : Ending) (w' : World) : Prop := e = .returned (.string ⟨l.toArray⟩) ∧ Below w.heap.size w w'
def XsAt (T : Ex) : Prop := srcE T = true → (shE T).length ≤ 100000 → ∀ (c : List Value) (S : Nat → Prop) (w : World), RepE w S T c → Calls Tryd.prog 14 #[.agg c.toArray] w (ShV w (shE T))
set_option maxHeartbeats 3200000 in
theorem exAtom_of (T : Ex) (c : List Value) (S : Nat → Prop) (w : World) (h : RepE w S T c) :
    Calls Tryd.prog 34 #[.agg c.toArray] w fun e w' => e = .returned (.bool (atomE T)) ∧ Below w.heap.size w w' := by
  obtain ⟨ka, kc, aa, ac, tk, tn, ti, th, ta, tl, tc, rfl⟩ := h.form
  clear h
  unfold atomE
  have HB : Hid (∀ c t, Below w.heap.size w (w.alloc (.cells c t))) := fun c t => (Below.refl _ w).alloc (Nat.le_refl _) _
  generalize T.k = k
  generalize T.kids.length = kl
  generalize T.arms.length = al
  by_cases h0 : k = 1
  · subst h0
    go_enter Tryd.func34, Tryd.ntmps34
    go_wp2_with fail
    go_ret
    exact ⟨rfl, HB.out _ _⟩
  by_cases h1 : k = 2
  · subst h1
    go_enter Tryd.func34, Tryd.ntmps34
    go_wp2_with fail
    go_ret
    exact ⟨rfl, HB.out _ _⟩
  by_cases h2 : k = 3
  · subst h2
    go_enter Tryd.func34, Tryd.ntmps34
    go_wp2_with fail
    go_ret
    exact ⟨rfl, HB.out _ _⟩
  by_cases h3 : k = 10
  · subst h3
    go_enter Tryd.func34, Tryd.ntmps34
    go_wp2_with fail
    go_ret
    exact ⟨rfl, HB.out _ _⟩
  by_cases h4 : k = 9
  · subst h4
    go_enter Tryd.func34, Tryd.ntmps34
    go_wp2_with fail
    go_ret
    exact ⟨rfl, HB.out _ _⟩
  by_cases h5 : k = 11
  · subst h5
    go_enter Tryd.func34, Tryd.ntmps34
    go_wp2_with fail
    go_ret
    exact ⟨rfl, HB.out _ _⟩
  have hk : (k == 1 || k == 2 || k == 3 || k == 10 || k == 9 || k == 11) = false := by simp [h0, h1, h2, h3, h4, h5]
  rw [hk]
  clear hk
  go_enter Tryd.func34, Tryd.ntmps34
  go_wp2_with fail
  go_ret
  exact ⟨rfl, HB.out _ _⟩
set_option maxHeartbeats 3200000 in
theorem closed_of (T : Ex) (H : XsAt T) (hs : srcE T = true) (hl : (shE T).length ≤ 100000) (b : Bool) (c : List Value) (S : Nat → Prop) (w : World) (h : RepE w S T c) :
    Calls Tryd.prog 33 #[.agg c.toArray, .bool b] w (ShV w (brk (!b) (shE T))) := by
  have HC : Hid (∀ V, Below w.heap.size w V → Calls Tryd.prog 14 #[.agg c.toArray] V (ShV V (shE T))) := fun V hV => H hs hl c S V (h.lift hV)
  have HB : Hid (∀ c t, Below w.heap.size w (w.alloc (.cells c t))) := fun c t => (Below.refl _ w).alloc (Nat.le_refl _) _
  obtain ⟨ka, kc, aa, ac, tk, tn, ti, th, ta, tl, tc, rfl⟩ := h.form
  clear h H hs
  generalize T.k = k at *
  generalize T.p = p at *
  generalize T.n = n at *
  generalize T.m = m at *
  generalize T.kids.length = kl at *
  generalize T.arms.length = al at *
  generalize shE T = l at *
  cases b with
  | true =>
    go_enter Tryd.func33, Tryd.ntmps33
    go_wp2_with fail
    go_at_call 14
    refine (HC.out _ (HB.out _ _)).mono ?_
    rintro e w1 ⟨rfl, hb⟩
    go_wp2
    go_ret
    exact ⟨rfl, (HB.out _ _).trans (hb.mono (HB.out _ _).size)⟩
  | false =>
    go_enter Tryd.func33, Tryd.ntmps33
    go_wp2_with fail
    go_at_call 14
    refine (HC.out _ (HB.out _ _)).mono ?_
    rintro e w1 ⟨rfl, hb⟩
    go_wp2
    go_ret
    exact ⟨by simp [brk]; apply ByteArray.ext; simp, (HB.out _ _).trans (hb.mono (HB.out _ _).size)⟩
end Go.Proofs.YtfkbifbodpelmaaDoor
