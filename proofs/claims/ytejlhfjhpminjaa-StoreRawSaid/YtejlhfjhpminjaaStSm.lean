/- Stores: the law's few, sameSlot and same. -/
import Derived.Test.YtejlhfjhpminjaaStBk
import Derived.Test.YtejlhfjhpminjaaTyEq2
import Derived.Test.YtejlhfjhpminjaaTyOrd
import Derived.Test.YtejlhfjhpminjaaTySmall
import Derived.StillTailTactics
namespace Go.Proofs.Ytejlhfjhpminjaa
open Go.RowKit Go.Sort Go.Shelf Go.Maps Mth

theorem small20_any (T : Ty) (v : Value) (S : Nat → Prop) (w : World) (h : Rep w S T v) : Calls Try.prog 30 #[v, .int .i64 20] w fun e w' => e = .returned (.bool (decide (nodes T ≤ 20))) ∧ Below w.heap.size w w' := by
  obtain ⟨n, sa, sn, sc, rfl, -, -⟩ := h.frm
  have HR := Lib.hid h
  have hb0 : ∀ X Z, Below w.heap.size w (w.alloc (.cells X Z)) := fun X Z => (Below.refl _ w).alloc (Nat.le_refl _) _
  have HC := Lib.hid (fun X Z => count_any T _ S (w.alloc (.cells X Z)) 21 (by omega) (by omega) (HR.out.lift (hb0 X Z)))
  have HD : Hid (decide (nodes T ≤ 20) = decide (0 < 21 - nodes T)) := by show _ = _; rw [Bool.eq_iff_iff]; simp; omega
  clear h
  generalize T.k = k at *
  generalize T.i = i at *
  generalize T.h = hm at *
  generalize 21 - nodes T = q at *
  go_enter Try.func30, Try.ntmps30
  go_wp2_with (go_at_call 43; refine (HC.out _ _).mono ?_; rintro e w1 ⟨rfl, hb1⟩)
  all_goals
    go_ret
    exact ⟨ret_bool (by rw [HD.out] <;> (rw [Bool.eq_iff_iff]; simp)), (hb0 _ _).trans (hb1.mono (by simp))⟩
/-- A store with few slots and entries, of small types. -/
def FewS (s : Sto) : Prop := s.slots.length ≤ 6 ∧ s.trail.length ≤ 6 ∧ (∀ x ∈ s.slots, nodes x.ty ≤ 20) ∧ ∀ c ∈ s.trail, nodes c.old.ty ≤ 20
theorem mem_take_succ {α : Type} {l : List α} {j : Nat} {x : α} (h : l[j]? = some x) {p : α → Prop} (h1 : ∀ y ∈ l.take j, p y) (h2 : p x) : ∀ y ∈ l.take (j + 1), p y := by
  intro y hy
  rw [List.take_add_one, h] at hy
  rcases List.mem_append.1 hy with hy | hy
  · exact h1 y hy
  · simp at hy; subst hy; exact h2
set_option maxRecDepth 100000 in
set_option maxHeartbeats 6400000 in
theorem few16_any (s : Sto) (v : Value) (S : Nat → Prop) (w : World) (h : StoR w S s v) : Calls Try.prog 14 #[v] w fun e w' => ∃ b, e = .returned (.bool b) ∧ (b = true → FewS s) ∧ Below w.heap.size w w' := by
  obtain ⟨sa, sc, ta, tc, rfl, hsl, htr⟩ := h
  obtain ⟨V, hV⟩ : ∃ V, V = w.alloc (.cells #[.slice sa s.slots.length sc, .slice ta s.trail.length tc] 27) := ⟨_, rfl⟩
  have hVb : Below w.heap.size w V := by rw [hV]; exact (Below.refl _ w).alloc (Nat.le_refl _) _
  obtain ⟨n, hn⟩ : ∃ n, n = s.slots.length := ⟨_, rfl⟩
  obtain ⟨m, hm⟩ : ∃ n, n = s.trail.length := ⟨_, rfl⟩
  rw [← hn] at hsl hV ⊢
  rw [← hm] at htr hV ⊢
  have hB1 : BoxC 27 V w.heap.size [.slice sa n sc, .slice ta m tc] := by rw [hV]; exact BoxC.made _ w _
  have HB := Lib.hid hB1
  have HVb := Lib.hid hVb
  have HS := Lib.hid (hsl.up hVb)
  have HT := Lib.hid (htr.up hVb)
  have HN := Lib.hid hn
  have HM := Lib.hid hm
  have hF : Hid (FewS s = (n ≤ 6 ∧ m ≤ 6 ∧ (∀ x ∈ s.slots, nodes x.ty ≤ 20) ∧ ∀ c ∈ s.trail, nodes c.old.ty ≤ 20)) := by show _ = _; unfold FewS; rw [hn, hm]
  have c0 := hB1.cell 0 _ rfl
  have c1 := hB1.cell 1 _ rfl
  clear hB1 hsl htr hn hm
  by_cases hsm : n ≤ 6 ∧ m ≤ 6
  · obtain ⟨g1, g2⟩ := hsm
    have g3 : (n : Int) ≤ 6 := by omega
    have g4 : (m : Int) ≤ 6 := by omega
    go_enter Try.func14, Try.ntmps14
    go_upto_region 1 with fail
    rw [← hV]
    clear hV
    go_wp2
    clear c0 c1
    go_loopw [3] (fun x wr => ∃ j : Nat, j ≤ n ∧ x = .int .i64 j ∧ Hid (∀ x ∈ s.slots.take j, nodes x.ty ≤ 20) ∧ Hid (Below V.heap.size V wr)) (fun x _ => n - (intOf x).toNat)
    case atStart => exact ⟨0, Nat.zero_le _, rfl, fun x hx => by simp at hx, Below.refl _ _⟩
    case round =>
      obtain ⟨j, hj, rfl, HA, HD⟩ := hrel
      have c0 := (HB.out.lift HD.out).cell 0 _ rfl
      have hVs := HVb.out.size
      by_cases hlt : j < n
      · have hji : (j : Int) < (n : Int) := by omega
        obtain ⟨x, hx⟩ : ∃ x, s.slots[j]? = some x := ⟨_, List.getElem?_eq_getElem (by rw [← HN.out]; exact hlt)⟩
        obtain ⟨ad, k', nm', i', hm', a', n', c', rfl, -, hr, g0, p1, p2, p3, p4, p5, -, -⟩ := slt_at (HS.out.up HD.out) hx
        have HC := Lib.hid (small20_any _ _ _ wr hr)
        have HMt := Lib.hid (mem_take_succ hx (p := fun x => nodes x.ty ≤ 20) HA.out)
        clear hx hr
        by_cases hsm : nodes x.ty ≤ 20
        · rw [decide_eq_true hsm] at HC
          have HA2 := Lib.hid (HMt.out hsm)
          clear hsm
          go_wp2_with (go_at_call 30; refine HC.out.mono ?_; rintro e w1 ⟨rfl, hb1⟩; have HD1 := Lib.hid (HD.out.trans (hb1.mono HD.out.size)))
          go_roundw
          case rel => exact ⟨j + 1, hlt, by go_num, HA2, HD1⟩
          case measure => simp [intOf]; omega
        · rw [decide_eq_false hsm] at HC
          clear hsm
          go_wp2_with (go_at_call 30; refine HC.out.mono ?_; rintro e w1 ⟨rfl, hb1⟩)
          go_ret
          exact ⟨false, rfl, (fun h => Bool.noConfusion h), HVb.out.trans ((HD.out.trans (hb1.mono HD.out.size)).mono hVs)⟩
      · obtain rfl : n = j := by omega
        have HAll : Hid (∀ x ∈ s.slots, nodes x.ty ≤ 20) := by
          have := HA.out
          rwa [List.take_of_length_le (by rw [← HN.out]; exact Nat.le_refl _)] at this
        go_wp2
        clear c0 HA
        generalize wr = wo at *
        go_loopw [4] (fun x wx => ∃ j : Nat, j ≤ m ∧ x = .int .i64 j ∧ Hid (∀ c ∈ s.trail.take j, nodes c.old.ty ≤ 20) ∧ Hid (Below V.heap.size V wx)) (fun x _ => m - (intOf x).toNat)
        case atStart => exact ⟨0, Nat.zero_le _, rfl, fun x hx => by simp at hx, HD⟩
        case round =>
          clear HD
          obtain ⟨j, hj, rfl, HA, HD⟩ := hrel
          have c1 := (HB.out.lift HD.out).cell 1 _ rfl
          by_cases hlt2 : j < m
          · have hji : (j : Int) < (m : Int) := by omega
            obtain ⟨x, hx⟩ : ∃ x, s.trail[j]? = some x := ⟨_, List.getElem?_eq_getElem (by rw [← HM.out]; exact hlt2)⟩
            obtain ⟨ad, k', nm', i', hm', a', n', c', rfl, -, hr, g0, p1, p2, p3, p4, p5, p6, -, -, -⟩ := chg_at (HT.out.up HD.out) hx
            have HC := Lib.hid (small20_any _ _ _ wr hr)
            have HMt := Lib.hid (mem_take_succ hx (p := fun c => nodes c.old.ty ≤ 20) HA.out)
            clear hx hr
            by_cases hsm : nodes x.old.ty ≤ 20
            · rw [decide_eq_true hsm] at HC
              have HA2 := Lib.hid (HMt.out hsm)
              clear hsm
              go_wp2_with (go_at_call 30; refine HC.out.mono ?_; rintro e w1 ⟨rfl, hb1⟩; have HD1 := Lib.hid (HD.out.trans (hb1.mono HD.out.size)))
              go_roundw
              case rel => exact ⟨j + 1, hlt2, by go_num, HA2, HD1⟩
              case measure => simp [intOf]; omega
            · rw [decide_eq_false hsm] at HC
              clear hsm
              go_wp2_with (go_at_call 30; refine HC.out.mono ?_; rintro e w1 ⟨rfl, hb1⟩)
              go_ret
              exact ⟨false, rfl, (fun h => Bool.noConfusion h), HVb.out.trans ((HD.out.trans (hb1.mono HD.out.size)).mono hVs)⟩
          · obtain rfl : m = j := by omega
            have HAl2 : Hid (∀ c ∈ s.trail, nodes c.old.ty ≤ 20) := by
              have := HA.out
              rwa [List.take_of_length_le (by rw [← HM.out]; exact Nat.le_refl _)] at this
            go_wp2
            go_ret
            exact ⟨true, rfl, fun _ => by rw [hF.out]; exact ⟨g1, g2, HAll.out, HAl2.out⟩, HVb.out.trans (HD.out.mono hVs)⟩
  · have hor : 6 < (n : Int) ∨ ((n : Int) ≤ 6 ∧ 6 < (m : Int)) := by omega
    clear hsm
    rcases hor with g | ⟨g, g'⟩
    all_goals
      go_enter Try.func14, Try.ntmps14
      go_upto_region 1 with fail
      rw [← hV]
      clear hV
      go_wp2
      go_ret
      exact ⟨false, rfl, (fun h => Bool.noConfusion h), hVb⟩
set_option maxHeartbeats 3200000 in
/-- Two values of one slot are the same. -/
theorem sameSlot_any (x : Slt) (S : Nat → Prop) (w : World) (k k' : Int) (n n' : ByteArray) (i i' h h' : Int) (sa sa' : Option Addr) (sn sn' sc sc' : Nat) (hx : Rep w S x.ty (.agg #[.int .i64 k, .string n, .int .i64 i, .int .i64 h, .slice sa sn sc])) (hy : Rep w S x.ty (.agg #[.int .i64 k', .string n', .int .i64 i', .int .i64 h', .slice sa' sn' sc'])) :
    Calls Try.prog 36 #[.agg #[.bool x.bound, .int .i64 k, .string n, .int .i64 i, .int .i64 h, .slice sa sn sc, .int .i64 x.home, .bool x.base], .agg #[.bool x.bound, .int .i64 k', .string n', .int .i64 i', .int .i64 h', .slice sa' sn' sc', .int .i64 x.home, .bool x.base]] w fun e w' => e = .returned (.bool true) ∧ Below w.heap.size w w' := by
  have hb2 : ∀ X Y, Below w.heap.size w ((w.alloc (.cells X 39)).alloc (.cells Y 39)) := fun X Y => ((Below.refl _ w).alloc (Nat.le_refl _) _).alloc (by simp) _
  have HE : Hid (∀ X Y, Calls Try.prog 19 #[.agg #[.int .i64 k, .string n, .int .i64 i, .int .i64 h, .slice sa sn sc], .agg #[.int .i64 k', .string n', .int .i64 i', .int .i64 h', .slice sa' sn' sc']] ((w.alloc (.cells X 39)).alloc (.cells Y 39)) fun e w' => e = .returned (.bool true) ∧ Below ((w.alloc (.cells X 39)).alloc (.cells Y 39)).heap.size ((w.alloc (.cells X 39)).alloc (.cells Y 39)) w') := fun X Y => by
    have := refEqual_any _ _ (Nat.le_refl _) x.ty _ _ _ _ _ (hx.lift (hb2 X Y)) (hy.lift (hb2 X Y))
    rwa [teq_id] at this
  clear hx hy
  go_enter Try.func36, Try.ntmps36
  go_wp2_with (go_at_call 19; refine (HE.out _ _).mono ?_; rintro e w1 ⟨rfl, hb1⟩)
  go_ret
  exact ⟨rfl, (hb2 _ _).trans (hb1.mono (hb2 _ _).size)⟩
end Go.Proofs.Ytejlhfjhpminjaa
