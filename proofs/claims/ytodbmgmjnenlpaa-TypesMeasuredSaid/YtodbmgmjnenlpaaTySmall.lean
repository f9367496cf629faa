/- The contracts of the maker's types, SmallType, ValidType and the law's small. -/
import Derived.Test.YtodbmgmjnenlpaaTyMake
import Derived.Test.YtodbmgmjnenlpaaTyCon
namespace Go.Proofs.Ytodbmgmjnenlpaa
open Go.RowKit Go.Sort Go.Shelf Go.Maps Mth

/-- What the contract of the count says. -/
def CountAt (P : Program) (f : Nat) (T : Ty) : Prop := ∀ (v : Value) (S : Nat → Prop) (w : World) (n : Nat), 1 ≤ n → n ≤ 1000 → Rep w S T v →
  Calls P f #[v, .int .i64 n] w fun e w' => e = .returned (.int .i64 ((n - nodes T : Nat) : Int)) ∧ Below w.heap.size w w'

set_option maxHeartbeats 1600000 in
theorem count_of (T : Ty) (H : ∀ U ∈ T.ts, CountAt Try.prog 71 U) : CountAt Try.prog 71 T := by
  intro v S w n h1 h2 h
  obtain ⟨k, nm, i, hm, s, eT, rfl, hn, hs⟩ := h.open
  have hnT : nodes T = nodesL T.ts + 1 := by cases T; rfl
  obtain ⟨a, cap, rfl, ⟨hc1, hc2⟩, hj⟩ := hs
  have HJ := Lib.hid hj
  have HH := Lib.hid H
  clear hj H eT hn h
  unfold maxLen at hc2
  have HF : Hid (((n - nodes T : Nat) : Int) = ((n - 1 - nodesL T.ts : Nat) : Int)) := by show _ = _; rw [hnT]; omega
  obtain ⟨l, hl⟩ : ∃ l, l = T.ts := ⟨_, rfl⟩
  rw [← hl] at HJ HH hc1 HF ⊢
  clear hl hnT
  have HE0 : Hid (nodesL (l.take 0) = 0) := rfl
  obtain ⟨c, hcc⟩ : ∃ c, c = l.length := ⟨_, rfl⟩
  rw [← hcc] at hc1 ⊢
  have HM := Lib.hid hcc
  clear hcc
  have hn1 : ((n : Int) - 1) = ((n - 1 : Nat) : Int) := by omega
  go_enter Try.func71, Try.ntmps71
  go_wp2
  clear hn1
  go_loopw [1, 5] (fun y x wr => ∃ j q : Nat, j ≤ c ∧ x = .int .i64 j ∧ y = .int .i64 q ∧ Hid (q = n - 1 - nodesL (l.take j)) ∧ q ≤ 1000 ∧ Below (w.heap.size + 1) (w.alloc (.cells #[.int .i64 k, .string nm, .int .i64 i, .int .i64 hm, .slice a c cap] 24)) wr) (fun _ x _ => c - (intOf x).toNat)
  case atStart => exact ⟨0, n - 1, Nat.zero_le _, rfl, rfl, by show _ = _; rw [HE0.out]; rfl, by omega, Below.refl _ _⟩
  case round =>
    obtain ⟨j, q, hj, rfl, rfl, HQ, hq1, hb⟩ := hrel
    have b4 := box_cell hb 4 (.slice a c cap) (by simp)
    have hbw := box_below hb
    have hsz := hb.size
    simp at hsz
    by_cases hlt : j < c
    · by_cases hq0 : 0 < q
      · obtain ⟨U, hU⟩ : ∃ x, l[j]? = some x := ⟨_, List.getElem?_eq_getElem (by rw [← HM.out]; exact hlt)⟩
        have HUm : Hid (U ∈ l) := List.mem_of_getElem? hU
        have hstep : nodesL (l.take (j + 1)) = nodesL (l.take j) + nodes U := by
          rw [List.take_add_one, hU]
          have : ∀ (x y : List Ty), nodesL (x ++ y) = nodesL x + nodesL y := by
            intro x y
            induction x with
            | nil => simp [nodesL]
            | cons t x ih => simp [nodesL, ih]; omega
          rw [this]; simp [nodesL]
        have HQ2 : Hid (q - nodes U = n - 1 - nodesL (l.take (j + 1))) := by show _ = _; rw [hstep]; have := HQ.out; omega
        clear hstep
        obtain ⟨ad, x, rfl, hS, h5, hx⟩ := HJ.out j U hU
        clear hU
        have hx' := hx.lift hbw
        have g5 := h5.kept (hbw.block _ h5.lt)
        obtain ⟨k', n', i', h', s', eU, rfl, hn2, hs2⟩ := hx'.open
        obtain ⟨q0, q1, q2, q3, q4⟩ := five_at g5
        obtain ⟨sa', sc', rfl, -⟩ := hs2
        have HX := Lib.hid hx'
        clear h5 hx g5 eU hn2 hS hx'
        have hji : (j : Int) < (c : Int) := by omega
        generalize U.ts.length = sn' at *
        have HC := Lib.hid (HH.out U HUm.out _ S wr q hq0 hq1 HX.out)
        have hle : q - nodes U ≤ 1000 := by omega
        generalize q - nodes U = r at *
        go_wp2_with (go_at_call 71; refine HC.out.mono ?_; rintro e w1 ⟨rfl, hb1⟩)
        go_roundw
        case rel => exact ⟨j + 1, r, hlt, by go_num, rfl, HQ2, hle, hb.trans (hb1.mono (by omega))⟩
        case measure => simp [intOf]; omega
      · obtain rfl : q = 0 := by omega
        have HF2 : Hid (((n - nodes T : Nat) : Int) = 0) := by
          show _ = _
          rw [HF.out]
          have h1 := HQ.out
          have h2 := nodesL_take l j
          omega
        go_wp2
        go_ret
        exact ⟨ret_int HF2.out.symm, hbw⟩
    · have HF2 : Hid (((n - nodes T : Nat) : Int) = q) := by
        show _ = _
        rw [HF.out, HQ.out, List.take_of_length_le (by rw [← HM.out]; omega)]
      clear hsz
      go_wp2
      go_ret
      exact ⟨ret_int (by rw [HF2.out]), hbw⟩
theorem count_any (T : Ty) : CountAt Try.prog 71 T := Ty.induct count_of T

theorem smallType_any (T : Ty) (v : Value) (S : Nat → Prop) (w : World) (h : Rep w S T v) : Calls Try.prog 41 #[v, .int .i64 60] w fun e w' => e = .returned (.bool (decide (nodes T ≤ 60))) ∧ Below w.heap.size w w' := by
  obtain ⟨k, n, i, hm, s, eT, rfl, hn, hs⟩ := h.open
  have HR := Lib.hid h
  obtain ⟨sa, sc, rfl, -⟩ := hs
  have hb0 : ∀ X Z, Below w.heap.size w (w.alloc (.cells X Z)) := fun X Z => (Below.refl _ w).alloc (Nat.le_refl _) _
  have HC := Lib.hid (fun X Z => count_any T _ S (w.alloc (.cells X Z)) 61 (by omega) (by omega) (HR.out.lift (hb0 X Z)))
  have HD : Hid (decide (nodes T ≤ 60) = decide (0 < 61 - nodes T)) := by show _ = _; rw [Bool.eq_iff_iff]; simp; omega
  clear h eT hn
  generalize T.ts.length = sn at *
  generalize 61 - nodes T = q at *
  go_enter Try.func41, Try.ntmps41
  go_wp2_with (go_at_call 71; refine (HC.out _ _).mono ?_; rintro e w1 ⟨rfl, hb1⟩)
  all_goals
    go_ret
    exact ⟨ret_bool (by rw [HD.out] <;> (rw [Bool.eq_iff_iff]; simp)), (hb0 _ _).trans (hb1.mono (by simp))⟩
theorem small_any (T : Ty) (v : Value) (S : Nat → Prop) (w : World) (h : Rep w S T v) : Calls Try.prog 9 #[v] w fun e w' => e = .returned (.bool (decide (nodes T ≤ 60))) ∧ Below w.heap.size w w' := by
  obtain ⟨k, n, i, hm, s, eT, rfl, hn, hs⟩ := h.open
  have HR := Lib.hid h
  obtain ⟨sa, sc, rfl, -⟩ := hs
  have hb0 : ∀ X Z, Below w.heap.size w (w.alloc (.cells X Z)) := fun X Z => (Below.refl _ w).alloc (Nat.le_refl _) _
  have HC := Lib.hid (fun X Z => smallType_any T _ S (w.alloc (.cells X Z)) (HR.out.lift (hb0 X Z)))
  clear h eT hn
  generalize T.ts.length = sn at *
  generalize decide (nodes T ≤ 60) = q at *
  go_enter Try.func9, Try.ntmps9
  go_wp2_with (go_at_call 41; refine (HC.out _ _).mono ?_; rintro e w1 ⟨rfl, hb1⟩)
  go_ret
  exact ⟨rfl, (hb0 _ _).trans (hb1.mono (by simp))⟩
/-- What the maker makes of a type that came in. -/
def vt (T : Ty) : Ty := if valid T then T else con intN []
set_option maxHeartbeats 1600000 in
theorem validType_any (T : Ty) (v : Value) (S : Nat → Prop) (w : World) (h : Rep w S T v) : Calls Try.prog 17 #[v] w fun e w' => ∃ u, e = .returned u ∧ Rep w' S (vt T) u ∧ Below w.heap.size w w' := by
  obtain ⟨k, n, i, hm, s, eT, rfl, hn, hs⟩ := h.open
  have HR := Lib.hid h
  obtain ⟨sa, sc, rfl, -⟩ := hs
  have hb0 : ∀ X Y, Below w.heap.size w ((w.alloc (.cells X 24)).alloc (.cells Y 24)) := fun X Y => ((Below.refl _ w).alloc (Nat.le_refl _) _).alloc (by simp) _
  have HC := Lib.hid (fun X Y => refValid_any T _ S ((w.alloc (.cells X 24)).alloc (.cells Y 24)) (HR.out.lift (hb0 X Y)))
  have HV : Hid (vt T = if valid T = true then T else con intN []) := rfl
  have hint : intN.size ≤ maxLen := by unfold maxLen; decide +kernel
  have HI := Lib.hid hint
  clear h eT hn hint
  generalize T.ts.length = sn at *
  generalize valid T = q at *
  go_enter Try.func17, Try.ntmps17
  go_wp2_with fail
  go_at_call 16
  refine (HC.out _ _).mono ?_
  rintro e w1 ⟨rfl, hb1⟩
  have hbw := (hb0 _ _).trans (hb1.mono (hb0 _ _).size)
  have HA : Hid (Box w1 w.heap.size (.int .i64 k) (.string n) (.int .i64 i) (.int .i64 hm) (.slice sa sn sc)) := Box.lift (by unfold Box; rw [heap_at, if_neg (by simp), heap_at, if_pos rfl]) hb1
  have HB : Hid (Zero w1 (w.heap.size + 1)) := Box.lift (by unfold Box; rw [heap_at, if_pos (by simp)]) hb1
  have hsz := hb1.size
  simp at hsz
  clear hb1
  obtain ⟨a0, a1, a2, a3, a4⟩ := HA.out.cells
  cases q with
  | true =>
    go_wp2_with (refine wpList_store5 rfl _ _ rfl _ _ _ _ _ _ HB.out rfl _ _ _ _ _ _ _ rfl ?_; intro w2 hB2 hg2 hs2)
    obtain ⟨c0, c1, c2, c3, c4⟩ := hB2.cells
    refine bodyPost_ret (by simp [results, Try.results17, go_sem, c0, c1, c2, c3, c4]; try rfl) rfl ?_
    refine ⟨_, rfl, ?_, Below.grown hbw hg2 hbw.size (fun j hj => by cases hj; omega)⟩
    rw [HV.out, if_pos trivial]
    exact (HR.out.bound.lift hbw).kept (fun b hb => hb.1) (fun b hb hlt => hg2.block b hlt (by intro e; cases e; have := hb.2; omega))
  | false =>
    go_wp2_with fail
    go_at_call 36
    refine (refInt_any _).mono ?_
    rintro e w2 ⟨rfl, hb2⟩
    have HB2 := Lib.hid (Box.lift HB.out hb2)
    have hbw2 := hbw.trans (hb2.mono hbw.size)
    unfold leafV
    go_wp2_with (refine wpList_store5 rfl _ _ rfl _ _ _ _ _ _ HB2.out rfl _ _ _ _ _ _ _ rfl ?_; intro w3 hB3 hg3 hs3)
    obtain ⟨c0, c1, c2, c3, c4⟩ := hB3.cells
    refine bodyPost_ret (by simp [results, Try.results17, go_sem, c0, c1, c2, c3, c4]; try rfl) rfl ?_
    refine ⟨_, rfl, ?_, Below.grown hbw2 hg3 hbw2.size (fun j hj => by cases hj; omega)⟩
    rw [HV.out, if_neg (by simp)]
    exact rep_leaf _ _ _ _ _ _ HI.out
end Go.Proofs.Ytodbmgmjnenlpaa
