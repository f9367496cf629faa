/- The contracts of the package's Compare. -/
import Derived.Test.YtodbmgmjnenlpaaTyOrd
import Derived.Test.YtodbmgmjnenlpaaTyEq3
import Derived.Test.YtodbmgmjnenlpaaTyInts
import Derived.Deep.RegionHeld3
import Derived.Deep.DeepCutAuto
namespace Go.Proofs.Ytodbmgmjnenlpaa
open Go.RowKit Go.Sort Go.Shelf Mth

theorem isNaNInt_any (a : Int) (w : World) : Calls Try.prog 83 #[.int .i64 a] w fun e w' => e = .returned (.bool false) ∧ w = w' := by
  have h : (a != a) = false := by simp
  go_enter Try.func83, Try.ntmps83
  go_wp2
  go_ret
  exact ⟨rfl, rfl⟩
theorem isNaNStr_any (a : ByteArray) (w : World) : Calls Try.prog 84 #[.string a] w fun e w' => e = .returned (.bool false) ∧ w = w' := by
  have h : (!a.toList == a.toList) = false := by simp
  go_enter Try.func84, Try.ntmps84
  go_wp2
  go_ret
  exact ⟨rfl, rfl⟩
theorem cmpInt_any (a b : Int) (w : World) : Calls Try.prog 67 #[.int .i64 a, .int .i64 b] w fun e w' => e = .returned (.int .i64 (cI a b)) ∧ w = w' := by
  have HE : Hid (cI a b = if a < b then -1 else if b < a then 1 else 0) := rfl
  by_cases h1 : a < b
  · go_enter Try.func67, Try.ntmps67
    go_wp2_with (go_at_call 83; refine (isNaNInt_any _ _).mono ?_; rintro e w' ⟨rfl, rfl⟩)
    go_ret
    exact ⟨ret_int (by rw [HE.out, if_pos h1]), rfl⟩
  · have h1' : decide (a < b) = false := by simpa using h1
    by_cases h2 : b < a
    · go_enter Try.func67, Try.ntmps67
      go_wp2_with (go_at_call 83; refine (isNaNInt_any _ _).mono ?_; rintro e w' ⟨rfl, rfl⟩)
      go_ret
      exact ⟨ret_int (by rw [HE.out, if_neg (by omega), if_pos (by omega)]), rfl⟩
    · have h2' : decide (b < a) = false := by simpa using h2
      go_enter Try.func67, Try.ntmps67
      go_wp2_with (go_at_call 83; refine (isNaNInt_any _ _).mono ?_; rintro e w' ⟨rfl, rfl⟩)
      go_ret
      exact ⟨ret_int (by rw [HE.out, if_neg (by omega), if_neg (by omega)]), rfl⟩
theorem cmpStr_any (a b : ByteArray) (w : World) : Calls Try.prog 68 #[.string a, .string b] w fun e w' => e = .returned (.int .i64 (cB a.toList b.toList)) ∧ w = w' := by
  have HE : Hid (cB a.toList b.toList = if Op.bytesLess a.toList b.toList then -1 else if a.toList == b.toList then 0 else 1) := rfl
  cases h1 : Op.bytesLess a.toList b.toList with
  | true =>
    go_enter Try.func68, Try.ntmps68
    go_wp2_with (go_at_call 84; refine (isNaNStr_any _ _).mono ?_; rintro e w' ⟨rfl, rfl⟩)
    go_ret
    exact ⟨ret_int (by rw [HE.out, h1]; rfl), rfl⟩
  | false =>
    cases h2 : (a.toList == b.toList) with
    | true =>
      have h3 : (!a.toList == b.toList) = false := by rw [h2]; rfl
      go_enter Try.func68, Try.ntmps68
      go_wp2_with (go_at_call 84; refine (isNaNStr_any _ _).mono ?_; rintro e w' ⟨rfl, rfl⟩)
      go_ret
      exact ⟨ret_int (by rw [HE.out, h1, h2]; rfl), rfl⟩
    | false =>
      have h3 : (!a.toList == b.toList) = true := by rw [h2]; rfl
      go_enter Try.func68, Try.ntmps68
      go_wp2_with (go_at_call 84; refine (isNaNStr_any _ _).mono ?_; rintro e w' ⟨rfl, rfl⟩)
      go_ret
      exact ⟨ret_int (by rw [HE.out, h1, h2]; rfl), rfl⟩
theorem refOrder_any (a b : Int) (w : World) : Calls Try.prog 70 #[.int .i64 a, .int .i64 b] w fun e w' => e = .returned (.int .i64 (cI a b)) ∧ w = w' := by
  have HE : Hid (cI a b = if a < b then -1 else if b < a then 1 else 0) := rfl
  by_cases h1 : a < b
  · go_enter Try.func70, Try.ntmps70
    go_wp2
    go_ret
    exact ⟨ret_int (by rw [HE.out, if_pos h1]), rfl⟩
  · have h1' : decide (a < b) = false := by simpa using h1
    by_cases h2 : b < a
    · go_enter Try.func70, Try.ntmps70
      go_wp2
      go_ret
      exact ⟨ret_int (by rw [HE.out, if_neg (by omega), if_pos (by omega)]), rfl⟩
    · have h2' : decide (b < a) = false := by simpa using h2
      go_enter Try.func70, Try.ntmps70
      go_wp2
      go_ret
      exact ⟨ret_int (by rw [HE.out, if_neg (by omega), if_neg (by omega)]), rfl⟩
def orL : List Int → Int
  | [] => 0
  | x :: l => orr x (orL l)
theorem orL_step {l : List Int} {j : Nat} {x : Int} (h : l[j]? = some x) : orL (l.drop j) = orr x (orL (l.drop (j + 1))) := by
  obtain ⟨hl, e⟩ := List.getElem?_eq_some_iff.1 h
  rw [List.drop_eq_getElem_cons hl, e]; rfl
theorem or_any (v : Value) (zs : List Int) (w : World) (h : Ints w v zs) : Calls Try.prog 66 #[v] w fun e w' => e = .returned (.int .i64 (orL zs)) ∧ w = w' := by
  obtain ⟨a, cap, rfl, hc1, hc2, hc⟩ := h
  have HC := Lib.hid hc
  unfold maxLen at hc2
  obtain ⟨m, hm⟩ : ∃ m, m = zs.length := ⟨_, rfl⟩
  rw [← hm] at hc1 ⊢
  have HM := Lib.hid hm
  clear hm hc
  have HE0 : Hid (orL zs = orL (zs.drop 0)) := by show _ = _; simp
  go_enter Try.func66, Try.ntmps66
  go_wp2
  go_loop [8] (fun i => ∃ j : Nat, j ≤ m ∧ i = .int .i64 j ∧ Hid (orL zs = orL (zs.drop j))) (fun i => m - (intOf i).toNat)
  case atStart => exact ⟨0, Nat.zero_le _, rfl, HE0⟩
  case round =>
    obtain ⟨j, hj, rfl, HT⟩ := hrel
    by_cases hlt : j < m
    · obtain ⟨x, hx⟩ : ∃ x, zs[j]? = some x := ⟨_, List.getElem?_eq_getElem (by rw [← HM.out]; exact hlt)⟩
      obtain ⟨ad, rfl, hcell⟩ := HC.out j x hx
      have HS := Lib.hid (orL_step hx)
      clear hx
      have hji : (j : Int) < (m : Int) := by omega
      cases hz : (x != 0) with
      | true =>
        have HS2 : Hid (orL zs = x) := by
          show _ = _
          rw [HT.out, HS.out]; unfold orr; rw [if_neg (by simpa using hz)]
        go_wp2
        go_ret
        exact ⟨ret_int HS2.out.symm, rfl⟩
      | false =>
        have HS2 : Hid (orL zs = orL (zs.drop (j + 1))) := by
          show _ = _
          rw [HT.out, HS.out]; unfold orr; rw [if_pos (by simpa using hz)]
        go_wp2
        go_round
        case rel => exact ⟨j + 1, hlt, by go_num, HS2⟩
        case measure => simp [intOf]; omega
    · have HS2 : Hid (orL zs = 0) := by
        show _ = _
        rw [HT.out, List.drop_eq_nil_of_le (by rw [← HM.out]; omega)]; rfl
      go_wp2
      go_ret
      exact ⟨ret_int HS2.out.symm, rfl⟩

/-- What the contract of a comparison says. -/
def CmpAt (P : Program) (f : Nat) (T : Ty) : Prop := ∀ (U : Ty) (v u : Value) (S S' : Nat → Prop) (w : World), Rep w S T v → Rep w S' U u →
  Calls P f #[v, u] w fun e w' => e = .returned (.int .i64 (cmpT T U)) ∧ Below w.heap.size w w'
theorem cmpL_step {l l' : List Ty} {j : Nat} {t t' : Ty} (h : l[j]? = some t) (h' : l'[j]? = some t') : cmpL (l.drop j) (l'.drop j) = orr (cmpT t t') (cmpL (l.drop (j + 1)) (l'.drop (j + 1))) := by
  obtain ⟨hl, e⟩ := List.getElem?_eq_some_iff.1 h
  obtain ⟨hl', e'⟩ := List.getElem?_eq_some_iff.1 h'
  rw [List.drop_eq_getElem_cons hl, List.drop_eq_getElem_cons hl', e, e']
  simp [cmpL]
theorem cmp_open {T U : Ty} {k n i h ts k' n' i' h' ts'} (eT : T = .mk k n i h ts) (eU : U = .mk k' n' i' h' ts') : cmpT T U = orr (orL [cI k k', cB n.toList n'.toList, cI i i', cI h h', cI ts.length ts'.length]) (cmpL ts ts') := by
  subst eT eU
  simp only [cmpT, orL]
  unfold orr
  repeat' split
  all_goals first | rfl | omega
set_option maxHeartbeats 1600000 in
theorem cmpFunc_of (l l' : List Ty) (H : ∀ T ∈ l, CmpAt Try.prog 37 T) (hl : l'.length = l.length) (v u : Value) (S S' : Nat → Prop) (w : World) (h : RepL w S l v) (h' : RepL w S' l' u) :
    Calls Try.prog 69 #[v, u, .func (.func 37) #[] #[]] w fun e w' => e = .returned (.int .i64 (cmpL l l')) ∧ Below w.heap.size w w' := by
  have eg : ∀ args w, (callFunc 37 args).run Try.prog w = .ok (.enter 37 args) w := enters_of Try.func37 (by kernel_rfl) rfl
  obtain ⟨a, cap, rfl, ⟨hc1, hc2⟩, hj⟩ := h
  obtain ⟨a', cap', rfl, ⟨hc1', hc2'⟩, hj'⟩ := h'
  have HJ := Lib.hid hj
  have HJ' := Lib.hid hj'
  have HH := Lib.hid H
  clear hj hj' H
  unfold maxLen at hc2 hc2'
  rw [hl] at hc1' ⊢
  have HE : Hid (cmpL l l' = cmpL (l.drop 0) (l'.drop 0)) := by show _ = _; simp
  have HN : Hid (l'.length = l.length) := hl
  clear hl
  obtain ⟨m, hm⟩ : ∃ m, m = l.length := ⟨_, rfl⟩
  rw [← hm] at hc1 hc1' ⊢
  have HM := Lib.hid hm
  clear hm
  go_enter Try.func69, Try.ntmps69
  go_wp2
  go_loopw [13] (fun i wr => ∃ j : Nat, j ≤ m ∧ i = .int .i64 j ∧ Hid (cmpL l l' = cmpL (l.drop j) (l'.drop j)) ∧ Below w.heap.size w wr) (fun i _ => m - (intOf i).toNat)
  case atStart => exact ⟨0, Nat.zero_le _, rfl, HE, Below.refl _ _⟩
  case round =>
    obtain ⟨j, hj, rfl, HT, hb⟩ := hrel
    by_cases hlt : j < m
    · obtain ⟨T, hT⟩ : ∃ x, l[j]? = some x := ⟨_, List.getElem?_eq_getElem (by rw [← HM.out]; exact hlt)⟩
      obtain ⟨U, hU⟩ : ∃ x, l'[j]? = some x := ⟨_, List.getElem?_eq_getElem (by rw [HN.out, ← HM.out]; exact hlt)⟩
      have HTm : Hid (T ∈ l) := List.mem_of_getElem? hT
      obtain ⟨ad, x, rfl, hS, h5, hx⟩ := HJ.out j T hT
      obtain ⟨ad', y, rfl, hS', h5', hy⟩ := HJ'.out j U hU
      have HS := Lib.hid (cmpL_step hT hU)
      clear hT hU
      have hx' := hx.lift (hb.mono (Nat.le_refl _))
      have hy' := hy.lift (hb.mono (Nat.le_refl _))
      have g5 := h5.kept (hb.block _ h5.lt)
      have g5' := h5'.kept (hb.block _ h5'.lt)
      obtain ⟨k, n, i, h, s, eT, rfl, hn, hs⟩ := hx'.open
      obtain ⟨k', n', i', h', s', eU, rfl, hn', hs'⟩ := hy'.open
      obtain ⟨q0, q1, q2, q3, q4⟩ := five_at g5
      obtain ⟨r0, r1, r2, r3, r4⟩ := five_at g5'
      obtain ⟨sa, sc, rfl, -⟩ := hs
      obtain ⟨sa', sc', rfl, -⟩ := hs'
      clear h5 h5' hx hy g5 g5' eT eU hn hn' hS hS'
      have HX := Lib.hid hx'
      have HY := Lib.hid hy'
      clear hx' hy'
      have hji : (j : Int) < (m : Int) := by omega
      have hgj : decide (m ≤ j) = false := by simpa using hlt
      generalize T.ts.length = sn at *
      generalize U.ts.length = sn' at *
      have HC : Hid (∀ w' : World, Below wr.heap.size wr w' → Calls Try.prog 37 #[.agg #[.int .i64 k, .string n, .int .i64 i, .int .i64 h, .slice sa sn sc], .agg #[.int .i64 k', .string n', .int .i64 i', .int .i64 h', .slice sa' sn' sc']] w' fun e w'' => e = .returned (.int .i64 (cmpT T U)) ∧ Below w'.heap.size w' w'') :=
        fun w' hb' => HH.out T HTm.out U _ _ S S' w' (HX.out.lift hb') (HY.out.lift hb')
      have A0 : ∀ o, (wr.alloc o).cell? _ = _ := fun o => keep_alloc o r0
      have A1 : ∀ o, (wr.alloc o).cell? _ = _ := fun o => keep_alloc o r1
      have A2 : ∀ o, (wr.alloc o).cell? _ = _ := fun o => keep_alloc o r2
      have A3 : ∀ o, (wr.alloc o).cell? _ = _ := fun o => keep_alloc o r3
      have A4 : ∀ o, (wr.alloc o).cell? _ = _ := fun o => keep_alloc o r4
      have hb2 : ∀ X Y Z Z', Below w.heap.size w ((wr.alloc (.cells X Z)).alloc (.cells Y Z')) := fun X Y Z Z' => (hb.alloc hb.size _).alloc (by have := hb.size; simp; omega) _
      generalize cmpT T U = c at *
      cases hq : (c != 0) with
      | false =>
        have HS2 : Hid (cmpL l l' = cmpL (l.drop (j + 1)) (l'.drop (j + 1))) := by
          show _ = _
          rw [HT.out, HS.out]; unfold orr; rw [if_pos (by simpa using hq)]
        go_wp2_with (go_at_call 37; refine (HC.out _ (((Below.refl _ _).alloc (Nat.le_refl _) _).alloc (by simp) _)).mono ?_; rintro e w1 ⟨rfl, hb1⟩)
        go_roundw
        case rel => exact ⟨j + 1, hlt, by go_num, HS2, (hb2 _ _ _ _).trans (hb1.mono (hb2 _ _ _ _).size)⟩
        case measure => simp [intOf]; omega
      | true =>
        have HS2 : Hid (cmpL l l' = c) := by
          show _ = _
          rw [HT.out, HS.out]; unfold orr; rw [if_neg (by simpa using hq)]
        go_wp2_with (go_at_call 37; refine (HC.out _ (((Below.refl _ _).alloc (Nat.le_refl _) _).alloc (by simp) _)).mono ?_; rintro e w1 ⟨rfl, hb1⟩)
        go_ret
        exact ⟨ret_int HS2.out.symm, (hb2 _ _ _ _).trans (hb1.mono (hb2 _ _ _ _).size)⟩
    · have HS2 : Hid (cmpL l l' = 0) := by
        show _ = _
        rw [HT.out, List.drop_eq_nil_of_le (by rw [← HM.out]; omega), List.drop_eq_nil_of_le (by rw [HN.out, ← HM.out]; omega)]; rfl
      go_wp2
      go_ret
      exact ⟨ret_int HS2.out.symm, hb⟩
theorem ints5 {w : World} {B : Nat} {c1 c2 c3 c4 c5 : Int} {Z : TypeId} (h : w.heap[B]? = some (.cells #[.int .i64 c1, .int .i64 c2, .int .i64 c3, .int .i64 c4, .int .i64 c5] Z (0, 0))) :
    Ints w (.slice (some ⟨B, 0, none⟩) 5 5) [c1, c2, c3, c4, c5] := by
  refine ⟨_, 5, rfl, by simp, by unfold maxLen; decide, fun i x hx => ⟨_, rfl, ?_⟩⟩
  rw [add_zero, Nat.zero_add]
  simp only [World.cell?, h]
  match i with
  | 0 => simp at hx; subst hx; rfl
  | 1 => simp at hx; subst hx; rfl
  | 2 => simp at hx; subst hx; rfl
  | 3 => simp at hx; subst hx; rfl
  | 4 => simp at hx; subst hx; rfl
  | i + 5 => simp at hx
set_option maxRecDepth 100000 in
set_option maxHeartbeats 6400000 in
theorem cmp_of (T : Ty) (H : ∀ U ∈ T.ts, CmpAt Try.prog 37 U) : CmpAt Try.prog 37 T := by
  intro U v u S S' w h h'
  obtain ⟨k, n, i, hm, s, eT, rfl, hn, hs⟩ := h.open
  obtain ⟨k', n', i', hm', s', eU, rfl, hn', hs'⟩ := h'.open
  have HS := Lib.hid hs
  have HS' := Lib.hid hs'
  have HE := Lib.hid (cmp_open eT eU)
  have HF := Lib.hid (fun hl W hb => cmpFunc_of T.ts U.ts H hl s s' S S' W (hs.lift hb) (hs'.lift hb))
  obtain ⟨sa, sc, rfl, -⟩ := hs
  obtain ⟨sa', sc', rfl, -⟩ := hs'
  clear h h' eT eU hn hn' H HS HS'
  generalize T.ts.length = sn at *
  generalize U.ts.length = sn' at *
  have HO : Hid (∀ (W : World) (X Z), X = #[.int .i64 (cI k k'), .int .i64 (cB n.toList n'.toList), .int .i64 (cI i i'), .int .i64 (cI hm hm'), .int .i64 (cI sn sn')] → Calls Try.prog 66 #[.slice (some ⟨W.heap.size, 0, none⟩) 5 5] (W.alloc (.cells X Z)).drew fun e W' => e = .returned (.int .i64 (orL [cI k k', cB n.toList n'.toList, cI i i', cI hm hm', cI sn sn'])) ∧ (W.alloc (.cells X Z)).drew = W') := by
    rintro W X Z rfl
    exact or_any _ _ _ (ints5 (heap_alloc_new W _))
  have HL : Hid (orL [cI k k', cB n.toList n'.toList, cI i i', cI hm hm', cI sn sn'] = 0 → sn' = sn) := by
    intro h0
    simp only [orL] at h0
    have := cI_zero (orr_zero (orr_zero (orr_zero (orr_zero (orr_zero h0).2).2).2).2).1
    omega
  generalize hC1 : cI k k' = c1 at *
  generalize hC2 : cB n.toList n'.toList = c2 at *
  generalize hC3 : cI i i' = c3 at *
  generalize hC4 : cI hm hm' = c4 at *
  generalize hC5 : cI (sn : Int) (sn' : Int) = c5 at *
  have HC1 : Hid (∀ W, Calls Try.prog 67 #[.int .i64 k, .int .i64 k'] W fun e W' => e = .returned (.int .i64 c1) ∧ W = W') := fun W => by rw [← hC1]; exact cmpInt_any _ _ W
  have HC2 : Hid (∀ W, Calls Try.prog 68 #[.string n, .string n'] W fun e W' => e = .returned (.int .i64 c2) ∧ W = W') := fun W => by rw [← hC2]; exact cmpStr_any _ _ W
  have HC3 : Hid (∀ W, Calls Try.prog 67 #[.int .i64 i, .int .i64 i'] W fun e W' => e = .returned (.int .i64 c3) ∧ W = W') := fun W => by rw [← hC3]; exact cmpInt_any _ _ W
  have HC4 : Hid (∀ W, Calls Try.prog 67 #[.int .i64 hm, .int .i64 hm'] W fun e W' => e = .returned (.int .i64 c4) ∧ W = W') := fun W => by rw [← hC4]; exact cmpInt_any _ _ W
  have HC5 : Hid (∀ W, Calls Try.prog 67 #[.int .i64 sn, .int .i64 sn'] W fun e W' => e = .returned (.int .i64 c5) ∧ W = W') := fun W => by rw [← hC5]; exact cmpInt_any _ _ W
  clear hC1 hC2 hC3 hC4 hC5
  generalize orL [c1, c2, c3, c4, c5] = q at *
  generalize cmpL T.ts U.ts = c6 at *
  have hb0 : Below w.heap.size w ((w.alloc (.cells #[.int .i64 k, .string n, .int .i64 i, .int .i64 hm, .slice sa sn sc] 24)).alloc (.cells #[.int .i64 k', .string n', .int .i64 i', .int .i64 hm', .slice sa' sn' sc'] 24)) := ((Below.refl _ w).alloc (Nat.le_refl _) _).alloc (by simp) _
  have HA : Hid (Box ((w.alloc (.cells #[.int .i64 k, .string n, .int .i64 i, .int .i64 hm, .slice sa sn sc] 24)).alloc (.cells #[.int .i64 k', .string n', .int .i64 i', .int .i64 hm', .slice sa' sn' sc'] 24)) w.heap.size (.int .i64 k) (.string n) (.int .i64 i) (.int .i64 hm) (.slice sa sn sc)) := by
    show Box _ _ _ _ _ _ _
    unfold Box; rw [heap_at, if_neg (by simp), heap_at, if_pos rfl]
  have HB : Hid (Box ((w.alloc (.cells #[.int .i64 k, .string n, .int .i64 i, .int .i64 hm, .slice sa sn sc] 24)).alloc (.cells #[.int .i64 k', .string n', .int .i64 i', .int .i64 hm', .slice sa' sn' sc'] 24)) (w.heap.size + 1) (.int .i64 k') (.string n') (.int .i64 i') (.int .i64 hm') (.slice sa' sn' sc')) := by
    show Box _ _ _ _ _ _ _
    unfold Box; rw [heap_at, if_pos (by simp)]
  go_enter Try.func37, Try.ntmps37
  go_upto_region 1 with fail
  generalize ((w.alloc (.cells #[.int .i64 k, .string n, .int .i64 i, .int .i64 hm, .slice sa sn sc] 24)).alloc (.cells #[.int .i64 k', .string n', .int .i64 i', .int .i64 hm', .slice sa' sn' sc'] 24)) = W at *
  obtain ⟨a0, a1, a2, a3, a4⟩ := HA.out.cells
  obtain ⟨b0, b1, b2, b3, b4⟩ := HB.out.cells
  have K : ∀ A, Below W.heap.size W (W.alloc A) := fun A => (Below.refl _ W).alloc (Nat.le_refl _) A
  have HK : Hid (∀ A, (W.alloc A).cell? ⟨w.heap.size, 0, none⟩ = some (.int .i64 k) ∧ (W.alloc A).cell? ⟨w.heap.size, 1, none⟩ = some (.string n) ∧ (W.alloc A).cell? ⟨w.heap.size, 2, none⟩ = some (.int .i64 i) ∧ (W.alloc A).cell? ⟨w.heap.size, 3, none⟩ = some (.int .i64 hm) ∧ (W.alloc A).cell? ⟨w.heap.size, 4, none⟩ = some (.slice sa sn sc) ∧
      (W.alloc A).cell? ⟨w.heap.size + 1, 0, none⟩ = some (.int .i64 k') ∧ (W.alloc A).cell? ⟨w.heap.size + 1, 1, none⟩ = some (.string n') ∧ (W.alloc A).cell? ⟨w.heap.size + 1, 2, none⟩ = some (.int .i64 i') ∧ (W.alloc A).cell? ⟨w.heap.size + 1, 3, none⟩ = some (.int .i64 hm') ∧ (W.alloc A).cell? ⟨w.heap.size + 1, 4, none⟩ = some (.slice sa' sn' sc')) := fun A => by
    obtain ⟨p0, p1, p2, p3, p4⟩ := (Box.lift HA.out (K A)).cells
    obtain ⟨q0, q1, q2, q3, q4⟩ := (Box.lift HB.out (K A)).cells
    exact ⟨p0, p1, p2, p3, p4, q0, q1, q2, q3, q4⟩
  clear K
  go_region_held3 (fun w' => w'.cell? ⟨w.heap.size, 0, none⟩ = some (.int .i64 k) ∧ w'.cell? ⟨w.heap.size, 1, none⟩ = some (.string n) ∧ w'.cell? ⟨w.heap.size, 2, none⟩ = some (.int .i64 i) ∧ w'.cell? ⟨w.heap.size, 3, none⟩ = some (.int .i64 hm) ∧ w'.cell? ⟨w.heap.size, 4, none⟩ = some (.slice sa sn sc) ∧
      w'.cell? ⟨w.heap.size + 1, 0, none⟩ = some (.int .i64 k') ∧ w'.cell? ⟨w.heap.size + 1, 1, none⟩ = some (.string n') ∧ w'.cell? ⟨w.heap.size + 1, 2, none⟩ = some (.int .i64 i') ∧ w'.cell? ⟨w.heap.size + 1, 3, none⟩ = some (.int .i64 hm') ∧ w'.cell? ⟨w.heap.size + 1, 4, none⟩ = some (.slice sa' sn' sc'))
    (first
      | assumption
      | exact ⟨a0, a1, a2, a3, a4, b0, b1, b2, b3, b4⟩
      | exact HK.out _)
    (first
      | (go_at_call 67; (with_reducible refine (HC1.out _).mono ?_); rintro e w' ⟨rfl, rfl⟩)
      | (go_at_call 67; (with_reducible refine (HC3.out _).mono ?_); rintro e w' ⟨rfl, rfl⟩)
      | (go_at_call 67; (with_reducible refine (HC4.out _).mono ?_); rintro e w' ⟨rfl, rfl⟩)
      | (go_at_call 67; (with_reducible refine (HC5.out _).mono ?_); rintro e w' ⟨rfl, rfl⟩)
      | (go_at_call 68; (with_reducible refine (HC2.out _).mono ?_); rintro e w' ⟨rfl, rfl⟩)
      | (go_at_call 66; (refine (HO.out W _ _ rfl).mono ?_); rintro e w' ⟨rfl, rfl⟩))
  all_goals
    have hbA : ∀ A, Below w.heap.size w (W.alloc A).drew := fun A => hb0.trans ((((Below.refl _ W).alloc (Nat.le_refl _) A).drew).mono hb0.size)
    have HbA := Lib.hid hbA
    have z4 := fun A => (HK.out A).2.2.2.2.1
    have z4' := fun A => (HK.out A).2.2.2.2.2.2.2.2.2
    clear a0 a1 a2 a3 a4 b0 b1 b2 b3 b4 hbA HK HC1 HC2 HC3 HC4 HC5 HO
    cases hq : (q != 0) with
    | true =>
      have HR : Hid (cmpT T U = q) := by show _ = _; rw [HE.out]; unfold orr; rw [if_neg (by simpa using hq)]
      go_wp2
      go_ret
      exact ⟨ret_int HR.out.symm, HbA.out _⟩
    | false =>
      have hq0 : q = 0 := by simpa using hq
      have HR : Hid (cmpT T U = c6) := by show _ = _; rw [HE.out]; unfold orr; rw [if_pos hq0]
      have HSn := Lib.hid (HL.out hq0)
      have HF2 := Lib.hid (fun W hb => HF.out HSn.out W hb)
      clear hq0 HL HE HF
      go_wp2_with (go_at_call 69; (with_reducible refine (HF2.out _ (HbA.out _)).mono ?_); rintro e w1 ⟨rfl, hb1⟩)
      go_ret
      exact ⟨ret_int HR.out.symm, (HbA.out _).trans (hb1.mono (HbA.out _).size)⟩
theorem cmp_any (T : Ty) : CmpAt Try.prog 37 T := by
  refine nodes_ind (p := fun T => CmpAt Try.prog 37 T) (fun k n i h ts ih => ?_) T
  exact cmp_of _ ih
end Go.Proofs.Ytodbmgmjnenlpaa
