/- The contracts of the maker's types, SmallType, ValidType and the law's small. -/
import Derived.Test.YtejlhfjhpminjaaTyMake
import Derived.Test.YtejlhfjhpminjaaTyCon
namespace Go.Proofs.Ytejlhfjhpminjaa
open Go.RowKit Go.Sort Go.Shelf Go.Maps Mth

/-- What the contract of the count says. -/
def CountAt (P : Program) (f : Nat) (T : Ty) : Prop := ∀ (v : Value) (S : Nat → Prop) (w : World) (n : Nat), 1 ≤ n → n ≤ 1000 → Rep w S T v →
  Calls P f #[v, .int .i64 n] w fun e w' => e = .returned (.int .i64 ((n - nodes T : Nat) : Int)) ∧ Below w.heap.size w w'

set_option maxHeartbeats 1600000 in
theorem count_of (T : Ty) (H : ∀ U ∈ T.ts, CountAt Try.prog 43 U) : CountAt Try.prog 43 T := by
  intro v S w n h1 h2 h
  obtain ⟨k, nm, i, hm, s, eT, rfl, hn, hs⟩ := h.open
  have hnT : nodes T = nodesL T.ts + 1 := by cases T; rfl
  obtain ⟨a, cap, rfl, ⟨hc1, hc2⟩, hj⟩ := hs
  have HJ := Lib.hid hj
  have HH := Lib.hid H
  clear hj H eT hn h
  unfold maxLen at hc2
  have HF : Hid (((n - nodes T : Nat) : Int) = ((n - 1 - nodesL T.ts : Nat) : Int)) := by show _ = _; rw [hnT]; omega
  obtain ⟨l, hl⟩ : ∃ l, l = T.ts := ⟨_, rfl⟩
  rw [← hl] at HJ HH hc1 HF ⊢
  clear hl hnT
  have HE0 : Hid (nodesL (l.take 0) = 0) := rfl
  obtain ⟨c, hcc⟩ : ∃ c, c = l.length := ⟨_, rfl⟩
  rw [← hcc] at hc1 ⊢
  have HM := Lib.hid hcc
  clear hcc
  have hn1 : ((n : Int) - 1) = ((n - 1 : Nat) : Int) := by omega
  go_enter Try.func43, Try.ntmps43
  go_wp2
  clear hn1
  go_loopw [1, 5] (fun y x wr => ∃ j q : Nat, j ≤ c ∧ x = .int .i64 j ∧ y = .int .i64 q ∧ Hid (q = n - 1 - nodesL (l.take j)) ∧ q ≤ 1000 ∧ Below (w.heap.size + 1) (w.alloc (.cells #[.int .i64 k, .string nm, .int .i64 i, .int .i64 hm, .slice a c cap] 31)) wr) (fun _ x _ => c - (intOf x).toNat)
  case atStart => exact ⟨0, n - 1, Nat.zero_le _, rfl, rfl, by show _ = _; rw [HE0.out]; rfl, by omega, Below.refl _ _⟩
  case round =>
    obtain ⟨j, q, hj, rfl, rfl, HQ, hq1, hb⟩ := hrel
    have b4 := box_cell hb 4 (.slice a c cap) (by simp)
    have hbw := box_below hb
    have hsz := hb.size
    simp at hsz
    by_cases hlt : j < c
    · by_cases hq0 : 0 < q
      · obtain ⟨U, hU⟩ : ∃ x, l[j]? = some x := ⟨_, List.getElem?_eq_getElem (by rw [← HM.out]; exact hlt)⟩
        have HUm : Hid (U ∈ l) := List.mem_of_getElem? hU
        have hstep : nodesL (l.take (j + 1)) = nodesL (l.take j) + nodes U := by
          rw [List.take_add_one, hU]
          have : ∀ (x y : List Ty), nodesL (x ++ y) = nodesL x + nodesL y := by
            intro x y
            induction x with
            | nil => simp [nodesL]
            | cons t x ih => simp [nodesL, ih]; omega
          rw [this]; simp [nodesL]
        have HQ2 : Hid (q - nodes U = n - 1 - nodesL (l.take (j + 1))) := by show _ = _; rw [hstep]; have := HQ.out; omega
        clear hstep
        obtain ⟨ad, x, rfl, hS, h5, hx⟩ := HJ.out j U hU
        clear hU
        have hx' := hx.lift hbw
        have g5 := h5.kept (hbw.block _ h5.lt)
        obtain ⟨k', n', i', h', s', eU, rfl, hn2, hs2⟩ := hx'.open
        obtain ⟨q0, q1, q2, q3, q4⟩ := five_at g5
        obtain ⟨sa', sc', rfl, -⟩ := hs2
        have HX := Lib.hid hx'
        clear h5 hx g5 eU hn2 hS hx'
        have hji : (j : Int) < (c : Int) := by omega
        generalize U.ts.length = sn' at *
        have HC := Lib.hid (HH.out U HUm.out _ S wr q hq0 hq1 HX.out)
        have hle : q - nodes U ≤ 1000 := by omega
        generalize q - nodes U = r at *
        go_wp2_with (go_at_call 43; refine HC.out.mono ?_; rintro e w1 ⟨rfl, hb1⟩)
        go_roundw
        case rel => exact ⟨j + 1, r, hlt, by go_num, rfl, HQ2, hle, hb.trans (hb1.mono (by omega))⟩
        case measure => simp [intOf]; omega
      · obtain rfl : q = 0 := by omega
        have HF2 : Hid (((n - nodes T : Nat) : Int) = 0) := by
          show _ = _
          rw [HF.out]
          have h1 := HQ.out
          have h2 := nodesL_take l j
          omega
        go_wp2
        go_ret
        exact ⟨ret_int HF2.out.symm, hbw⟩
    · have HF2 : Hid (((n - nodes T : Nat) : Int) = q) := by
        show _ = _
        rw [HF.out, HQ.out, List.take_of_length_le (by rw [← HM.out]; omega)]
      clear hsz
      go_wp2
      go_ret
      exact ⟨ret_int (by rw [HF2.out]), hbw⟩
theorem count_any (T : Ty) : CountAt Try.prog 43 T := Ty.induct count_of T

theorem smallType_any (T : Ty) (v : Value) (S : Nat → Prop) (w : World) (h : Rep w S T v) : Calls Try.prog 30 #[v, .int .i64 60] w fun e w' => e = .returned (.bool (decide (nodes T ≤ 60))) ∧ Below w.heap.size w w' := by
  obtain ⟨k, n, i, hm, s, eT, rfl, hn, hs⟩ := h.open
  have HR := Lib.hid h
  obtain ⟨sa, sc, rfl, -⟩ := hs
  have hb0 : ∀ X Z, Below w.heap.size w (w.alloc (.cells X Z)) := fun X Z => (Below.refl _ w).alloc (Nat.le_refl _) _
  have HC := Lib.hid (fun X Z => count_any T _ S (w.alloc (.cells X Z)) 61 (by omega) (by omega) (HR.out.lift (hb0 X Z)))
  have HD : Hid (decide (nodes T ≤ 60) = decide (0 < 61 - nodes T)) := by show _ = _; rw [Bool.eq_iff_iff]; simp; omega
  clear h eT hn
  generalize T.ts.length = sn at *
  generalize 61 - nodes T = q at *
  go_enter Try.func30, Try.ntmps30
  go_wp2_with (go_at_call 43; refine (HC.out _ _).mono ?_; rintro e w1 ⟨rfl, hb1⟩)
  all_goals
    go_ret
    exact ⟨ret_bool (by rw [HD.out] <;> (rw [Bool.eq_iff_iff]; simp)), (hb0 _ _).trans (hb1.mono (by simp))⟩
/-- What the maker makes of a type that came in. -/
def vt (T : Ty) : Ty := if valid T then T else con intN []
end Go.Proofs.Ytejlhfjhpminjaa
