/- The contracts of the counts of nodes and of the package's Depth. -/
import Derived.Test.YtodbmgmjnenlpaaTyDepth
namespace Go.Proofs.Ytodbmgmjnenlpaa
open Go.RowKit Go.Sort Go.Shelf Go.Maps Mth

theorem nodesL_append (x y : List Ty) : nodesL (x ++ y) = nodesL x + nodesL y := by
  induction x with
  | nil => simp [nodesL]
  | cons t x ih => simp only [List.cons_append, nodesL, ih]; omega
def CntAt (P : Program) (f : Nat) (g : Ty → Nat) (T : Ty) : Prop := g T ≤ 1000000 → ∀ (v : Value) (S : Nat → Prop) (w : World), Rep w S T v →
  Calls P f #[v] w fun e w' => e = .returned (.int .i64 (g T : Int)) ∧ Below w.heap.size w w'

set_option maxHeartbeats 1600000 in
theorem refNodes_of (T : Ty) (H : ∀ U ∈ T.ts, CntAt Try.prog 22 nodes U) : CntAt Try.prog 22 nodes T := by
  intro hd v S w h
  obtain ⟨k, nm, i, hm, s, eT, rfl, hn, hs⟩ := h.open
  have hnT : nodes T = nodesL T.ts + 1 := by cases T; rfl
  obtain ⟨a, cap, rfl, ⟨hc1, hc2⟩, hj⟩ := hs
  have HJ := Lib.hid hj
  have HH := Lib.hid H
  clear hj H eT hn h
  unfold maxLen at hc2
  obtain ⟨l, hl⟩ : ∃ l, l = T.ts := ⟨_, rfl⟩
  rw [hnT] at hd ⊢
  rw [← hl] at HJ HH hc1 hd ⊢
  clear hl hnT
  obtain ⟨c, hcc⟩ : ∃ c, c = l.length := ⟨_, rfl⟩
  rw [← hcc] at hc1 ⊢
  have HM := Lib.hid hcc
  clear hcc
  go_enter Try.func22, Try.ntmps22
  go_wp2
  go_loopw [3, 4] (fun y x wr => ∃ j q : Nat, j ≤ c ∧ x = .int .i64 j ∧ y = .int .i64 q ∧ Hid (q = nodesL (l.take j) + 1) ∧ q ≤ 1000000 ∧ Below (w.heap.size + 1) (w.alloc (.cells #[.int .i64 k, .string nm, .int .i64 i, .int .i64 hm, .slice a c cap] 24)) wr) (fun _ x _ => c - (intOf x).toNat)
  case atStart => exact ⟨0, 1, Nat.zero_le _, rfl, rfl, rfl, by omega, Below.refl _ _⟩
  case round =>
    obtain ⟨j, q, hj, rfl, rfl, HQ, hq1, hb⟩ := hrel
    have b4 := box_cell hb 4 (.slice a c cap) (by simp)
    have hbw := box_below hb
    have hsz := hb.size
    simp at hsz
    by_cases hlt : j < c
    · obtain ⟨U, hU⟩ : ∃ x, l[j]? = some x := ⟨_, List.getElem?_eq_getElem (by rw [← HM.out]; exact hlt)⟩
      have HUm : Hid (U ∈ l) := List.mem_of_getElem? hU
      have hstep : nodesL (l.take (j + 1)) = nodesL (l.take j) + nodes U := by
        rw [List.take_add_one, hU, nodesL_append]; simp [nodesL]
      have hle := nodesL_take l (j + 1)
      rw [hstep] at hle
      have hdu : nodes U ≤ 1000000 := by omega
      have hdq : q + nodes U ≤ 1000000 := by have := HQ.out; omega
      have HQ2 : Hid (q + nodes U = nodesL (l.take (j + 1)) + 1) := by show _ = _; rw [hstep, HQ.out]; omega
      clear hstep hle
      obtain ⟨ad, x, rfl, hS, h5, hx⟩ := HJ.out j U hU
      clear hU
      have hx' := hx.lift hbw
      have g5 := h5.kept (hbw.block _ h5.lt)
      obtain ⟨k', n', i', h', s', eU, rfl, hn2, hs2⟩ := hx'.open
      obtain ⟨q0, q1, q2, q3, q4⟩ := five_at g5
      obtain ⟨sa', sc', rfl, -⟩ := hs2
      have HX := Lib.hid hx'
      clear h5 hx g5 eU hn2 hS hx'
      have hji : (j : Int) < (c : Int) := by omega
      generalize U.ts.length = sn' at *
      have HC := Lib.hid (HH.out U HUm.out (by omega) _ S wr HX.out)
      generalize nodes U = r at *
      go_wp2_with (go_at_call 22; refine HC.out.mono ?_; rintro e w1 ⟨rfl, hb1⟩)
      go_roundw
      case rel => exact ⟨j + 1, q + r, hlt, by go_num, by go_num, HQ2, hdq, hb.trans (hb1.mono (by omega))⟩
      case measure => simp [intOf]; omega
    · have HF2 : Hid ((q : Int) = ((nodesL l + 1 : Nat) : Int)) := by
        show _ = _
        rw [HQ.out, List.take_of_length_le (by rw [← HM.out]; omega)]
      clear hsz
      go_wp2
      go_ret
      exact ⟨ret_int HF2.out, hbw⟩
theorem refNodes_any (T : Ty) : CntAt Try.prog 22 nodes T := Ty.induct refNodes_of T

set_option maxHeartbeats 1600000 in
theorem nodes_of (T : Ty) (H : ∀ U ∈ T.ts, CntAt Try.prog 21 nodes U) : CntAt Try.prog 21 nodes T := by
  intro hd v S w h
  obtain ⟨k, nm, i, hm, s, eT, rfl, hn, hs⟩ := h.open
  have hnT : nodes T = nodesL T.ts + 1 := by cases T; rfl
  obtain ⟨a, cap, rfl, ⟨hc1, hc2⟩, hj⟩ := hs
  have HJ := Lib.hid hj
  have HH := Lib.hid H
  clear hj H eT hn h
  unfold maxLen at hc2
  obtain ⟨l, hl⟩ : ∃ l, l = T.ts := ⟨_, rfl⟩
  rw [hnT] at hd ⊢
  rw [← hl] at HJ HH hc1 hd ⊢
  clear hl hnT
  obtain ⟨c, hcc⟩ : ∃ c, c = l.length := ⟨_, rfl⟩
  rw [← hcc] at hc1 ⊢
  have HM := Lib.hid hcc
  clear hcc
  go_enter Try.func21, Try.ntmps21
  go_wp2
  go_loopw [3, 9] (fun y x wr => ∃ j q : Nat, j ≤ c ∧ x = .int .i64 j ∧ y = .int .i64 q ∧ Hid (q = nodesL (l.take j) + 1) ∧ q ≤ 1000000 ∧ Below (w.heap.size + 1) (w.alloc (.cells #[.int .i64 k, .string nm, .int .i64 i, .int .i64 hm, .slice a c cap] 24)) wr) (fun _ x _ => c - (intOf x).toNat)
  case atStart => exact ⟨0, 1, Nat.zero_le _, rfl, rfl, rfl, by omega, Below.refl _ _⟩
  case round =>
    obtain ⟨j, q, hj, rfl, rfl, HQ, hq1, hb⟩ := hrel
    have hbw := box_below hb
    have hsz := hb.size
    simp at hsz
    by_cases hlt : j < c
    · obtain ⟨U, hU⟩ : ∃ x, l[j]? = some x := ⟨_, List.getElem?_eq_getElem (by rw [← HM.out]; exact hlt)⟩
      have HUm : Hid (U ∈ l) := List.mem_of_getElem? hU
      have hstep : nodesL (l.take (j + 1)) = nodesL (l.take j) + nodes U := by
        rw [List.take_add_one, hU, nodesL_append]; simp [nodesL]
      have hle := nodesL_take l (j + 1)
      rw [hstep] at hle
      have hdu : nodes U ≤ 1000000 := by omega
      have hdq : q + nodes U ≤ 1000000 := by have := HQ.out; omega
      have HQ2 : Hid (q + nodes U = nodesL (l.take (j + 1)) + 1) := by show _ = _; rw [hstep, HQ.out]; omega
      clear hstep hle
      obtain ⟨ad, x, rfl, hS, h5, hx⟩ := HJ.out j U hU
      clear hU
      have hx' := hx.lift hbw
      have g5 := h5.kept (hbw.block _ h5.lt)
      obtain ⟨k', n', i', h', s', eU, rfl, hn2, hs2⟩ := hx'.open
      obtain ⟨q0, q1, q2, q3, q4⟩ := five_at g5
      obtain ⟨sa', sc', rfl, -⟩ := hs2
      have HX := Lib.hid hx'
      clear h5 hx g5 eU hn2 hS hx'
      have hji : (j : Int) < (c : Int) := by omega
      generalize U.ts.length = sn' at *
      have hba : ∀ X, Below wr.heap.size wr (wr.alloc (.cells X 24)) := fun X => (Below.refl _ wr).alloc (Nat.le_refl _) _
      have HC := Lib.hid (fun X => HH.out U HUm.out (by omega) _ S (wr.alloc (.cells X 24)) (HX.out.lift (hba X)))
      generalize nodes U = r at *
      go_wp2_with (go_at_call 21; refine (HC.out _).mono ?_; rintro e w1 ⟨rfl, hb1⟩)
      go_roundw
      case rel => exact ⟨j + 1, q + r, hlt, by go_num, by go_num, HQ2, hdq, hb.trans (((hba _).trans (hb1.mono (hba _).size)).mono (by omega))⟩
      case measure => simp [intOf]; omega
    · have HF2 : Hid ((q : Int) = ((nodesL l + 1 : Nat) : Int)) := by
        show _ = _
        rw [HQ.out, List.take_of_length_le (by rw [← HM.out]; omega)]
      clear hsz
      go_wp2
      go_ret
      exact ⟨ret_int HF2.out, hbw⟩
theorem nodes_any (T : Ty) : CntAt Try.prog 21 nodes T := Ty.induct nodes_of T

set_option maxHeartbeats 1600000 in
theorem tyDepth_of (T : Ty) (H : ∀ U ∈ T.ts, CntAt Try.prog 23 dep U) : CntAt Try.prog 23 dep T := by
  intro hd v S w h
  obtain ⟨k, nm, i, hm, s, eT, rfl, hn, hs⟩ := h.open
  have hnT : dep T = depL T.ts := by cases T; rfl
  obtain ⟨a, cap, rfl, ⟨hc1, hc2⟩, hj⟩ := hs
  have HJ := Lib.hid hj
  have HH := Lib.hid H
  clear hj H eT hn h
  unfold maxLen at hc2
  obtain ⟨l, hl⟩ : ∃ l, l = T.ts := ⟨_, rfl⟩
  rw [hnT] at hd ⊢
  rw [← hl] at HJ HH hc1 hd ⊢
  clear hl hnT
  obtain ⟨c, hcc⟩ : ∃ c, c = l.length := ⟨_, rfl⟩
  rw [← hcc] at hc1 ⊢
  have HM := Lib.hid hcc
  clear hcc
  go_enter Try.func23, Try.ntmps23
  go_wp2
  go_loopw [3, 9] (fun y x wr => ∃ j q : Nat, j ≤ c ∧ x = .int .i64 j ∧ y = .int .i64 q ∧ Hid (q = depL (l.take j)) ∧ q ≤ 1000000 ∧ Below (w.heap.size + 1) (w.alloc (.cells #[.int .i64 k, .string nm, .int .i64 i, .int .i64 hm, .slice a c cap] 24)) wr) (fun _ x _ => c - (intOf x).toNat)
  case atStart => exact ⟨0, 0, Nat.zero_le _, rfl, rfl, rfl, by omega, Below.refl _ _⟩
  case round =>
    obtain ⟨j, q, hj, rfl, rfl, HQ, hq1, hb⟩ := hrel
    have hbw := box_below hb
    have hsz := hb.size
    simp at hsz
    by_cases hlt : j < c
    · obtain ⟨U, hU⟩ : ∃ x, l[j]? = some x := ⟨_, List.getElem?_eq_getElem (by rw [← HM.out]; exact hlt)⟩
      have HUm : Hid (U ∈ l) := List.mem_of_getElem? hU
      have hstep : depL (l.take (j + 1)) = max (depL (l.take j)) (dep U + 1) := by
        rw [List.take_add_one, hU, depL_append]; simp [depL]
      have hle := depL_take l (j + 1)
      rw [hstep] at hle
      have hdu : dep U ≤ 999999 := by omega
      have HQ2 : Hid (max q (dep U + 1) = depL (l.take (j + 1))) := by show _ = _; rw [hstep, HQ.out]
      clear hstep hle
      obtain ⟨ad, x, rfl, hS, h5, hx⟩ := HJ.out j U hU
      clear hU
      have hx' := hx.lift hbw
      have g5 := h5.kept (hbw.block _ h5.lt)
      obtain ⟨k', n', i', h', s', eU, rfl, hn2, hs2⟩ := hx'.open
      obtain ⟨q0, q1, q2, q3, q4⟩ := five_at g5
      obtain ⟨sa', sc', rfl, -⟩ := hs2
      have HX := Lib.hid hx'
      clear h5 hx g5 eU hn2 hS hx'
      have hji : (j : Int) < (c : Int) := by omega
      generalize U.ts.length = sn' at *
      have hba : ∀ X, Below wr.heap.size wr (wr.alloc (.cells X 24)) := fun X => (Below.refl _ wr).alloc (Nat.le_refl _) _
      have HC := Lib.hid (fun X => HH.out U HUm.out (by omega) _ S (wr.alloc (.cells X 24)) (HX.out.lift (hba X)))
      generalize dep U = r at *
      have hmx : max (q : Int) ((r : Int) + 1) = ((max q (r + 1) : Nat) : Int) := by omega
      have hml : max q (r + 1) ≤ 1000000 := by omega
      go_wp2_with (go_at_call 23; refine (HC.out _).mono ?_; rintro e w1 ⟨rfl, hb1⟩)
      go_roundw
      case rel => exact ⟨j + 1, max q (r + 1), hlt, by go_num, by simp; omega, HQ2, hml, hb.trans (((hba _).trans (hb1.mono (hba _).size)).mono (by omega))⟩
      case measure => simp [intOf]; omega
    · have HF2 : Hid ((q : Int) = (depL l : Nat)) := by
        show _ = _
        rw [HQ.out, List.take_of_length_le (by rw [← HM.out]; omega)]
      clear hsz
      go_wp2
      go_ret
      exact ⟨ret_int HF2.out, hbw⟩
theorem tyDepth_any (T : Ty) : CntAt Try.prog 23 dep T := Ty.induct tyDepth_of T
theorem refDepth_any (T : Ty) : CntAt Try.prog 24 dep T := depth_any T
end Go.Proofs.Ytodbmgmjnenlpaa
