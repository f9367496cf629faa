import Derived.Test.YtfkbifbodpelmaaDoorVE2
import Derived.Test.YtfkbifbodpelmaaDoorVE4
import Derived.Test.YtfkbifbodpelmaaDoorVS5
/- The writer of expressions: an application; every expression; the package's Expr and Type. -/
namespace Go.Proofs.YtfkbifbodpelmaaDoor
open Go.RowKit Go.Maps Mth

set_option maxRecDepth 100000 in
set_option maxHeartbeats 6400000 in
theorem we_app (T a b2 : Ex) (hk : T.k = 5) (hts : T.kids = [a, b2]) (Ha : WrE a) (Hb : WrE b2) (b : Nat) (l : List UInt8) (w : World) (c : List Value) (hg : Gs w) (hb2 : 2 ≤ b) (hw : Wr b b l w) (hr : RepE w (fun g => g < b) T c)
    (hl : l.length + (brk (!(atomE a || a.k == 5)) (shE a) ++ 32 :: brk (!atomE b2) (shE b2)).length ≤ 500000000) :
    Calls Tryd.prog 31 #[.pointer (some ⟨b, 0, none⟩), .agg c.toArray] w (WrEnd b l (brk (!(atomE a || a.k == 5)) (shE a) ++ 32 :: brk (!atomE b2) (shE b2)) w) := by
  obtain ⟨ka, kc, aa, ac, tk, tn, ti, th, ta, tl, tc, rfl⟩ := hr.form
  have hal : Below w.heap.size w (w.alloc (.cells #[.int .i64 T.k, .int .i64 T.p, .string T.n, .int .i64 T.m, .slice ka T.kids.length kc, .slice aa T.arms.length ac, .int .i64 tk, .string tn, .int .i64 ti, .int .i64 th, .slice ta tl tc] 37)) := (Below.refl _ w).alloc (Nat.le_refl _) _
  have hlt := hw.lt
  have HX0 : Hid (BoxC 37 (w.alloc (.cells #[.int .i64 T.k, .int .i64 T.p, .string T.n, .int .i64 T.m, .slice ka T.kids.length kc, .slice aa T.arms.length ac, .int .i64 tk, .string tn, .int .i64 ti, .int .i64 th, .slice ta tl tc] 37)) w.heap.size [.int .i64 T.k, .int .i64 T.p, .string T.n, .int .i64 T.m, .slice ka T.kids.length kc, .slice aa T.arms.length ac, .int .i64 tk, .string tn, .int .i64 ti, .int .i64 th, .slice ta tl tc]) := BoxC.made _ w _
  have HG0 := Lib.hid (hg.lift hal)
  have HW0 := Lib.hid (hw.lift hal)
  have HF0 : Hid (Fr b b w (w.alloc (.cells #[.int .i64 T.k, .int .i64 T.p, .string T.n, .int .i64 T.m, .slice ka T.kids.length kc, .slice aa T.arms.length ac, .int .i64 tk, .string tn, .int .i64 ti, .int .i64 th, .slice ta tl tc] 37))) := (Fr.refl b b w).alloc (by omega) _
  have HR0 := Lib.hid (hr.lift hal)
  have HHa := Lib.hid Ha
  have HHb := Lib.hid Hb
  have HLn := Lib.hid hl
  obtain ⟨txt, htxt⟩ : ∃ t, t = brk (!(atomE a || a.k == 5)) (shE a) ++ 32 :: brk (!atomE b2) (shE b2) := ⟨_, rfl⟩
  rw [← htxt]
  have HTt := Lib.hid htxt
  clear htxt
  have HK0 : Hid (∀ V, RepE V (fun g => g < b) T [.int .i64 T.k, .int .i64 T.p, .string T.n, .int .i64 T.m, .slice ka T.kids.length kc, .slice aa T.arms.length ac, .int .i64 tk, .string tn, .int .i64 ti, .int .i64 th, .slice ta tl tc] → Calls Tryd.prog 55 #[.agg #[.int .i64 T.k, .int .i64 T.p, .string T.n, .int .i64 T.m, .slice ka T.kids.length kc, .slice aa T.arms.length ac, .int .i64 tk, .string tn, .int .i64 ti, .int .i64 th, .slice ta tl tc], .int .i64 0] V fun e w' => ∃ cu : List Value, e = .returned (.agg cu.toArray) ∧ RepE w' (fun g => g < b) a cu ∧ Below V.heap.size V w') := fun V h => kid0of2_any T a b2 hts _ _ V h
  have HK1 : Hid (∀ V, RepE V (fun g => g < b) T [.int .i64 T.k, .int .i64 T.p, .string T.n, .int .i64 T.m, .slice ka T.kids.length kc, .slice aa T.arms.length ac, .int .i64 tk, .string tn, .int .i64 ti, .int .i64 th, .slice ta tl tc] → Calls Tryd.prog 55 #[.agg #[.int .i64 T.k, .int .i64 T.p, .string T.n, .int .i64 T.m, .slice ka T.kids.length kc, .slice aa T.arms.length ac, .int .i64 tk, .string tn, .int .i64 ti, .int .i64 th, .slice ta tl tc], .int .i64 1] V fun e w' => ∃ cu : List Value, e = .returned (.agg cu.toArray) ∧ RepE w' (fun g => g < b) b2 cu ∧ Below V.heap.size V w') := fun V h => kid1_any T a b2 hts _ _ V h
  clear hts Ha Hb
  rw [hk] at HX0 HG0 HW0 HF0 HR0 HK0 HK1 ⊢
  clear hal hg hw hr hl hk
  go_enter Tryd.func31, Tryd.ntmps31
  go_upto_region 1 with fail
  generalize (w.alloc (.cells #[.int .i64 5, .int .i64 T.p, .string T.n, .int .i64 T.m, .slice ka T.kids.length kc, .slice aa T.arms.length ac, .int .i64 tk, .string tn, .int .i64 ti, .int .i64 th, .slice ta tl tc] 37)) = w0 at *
  have hbV := HF0.out.size
  have hd : Below w0.heap.size w0 w0.drew := (Below.refl _ w0).drew
  have HD := Lib.hid hd
  obtain ⟨c0, c1, c2, c3, c4, c5, c6, c7, c8, c9, c10⟩ := HX0.out.all11
  have HXl := Lib.hid (fun W (hW : Below w0.heap.size w0 W) => (HX0.out.lift hW).all11)
  have HKa := Lib.hid (fun W (hW : Below w0.heap.size w0 W) => HK0.out W (HR0.out.lift hW))
  have HKb := Lib.hid (fun W (hW : Below w0.heap.size w0 W) => HK1.out W (HR0.out.lift hW))
  have HFW : Hid (∀ W, Below w0.heap.size w0 W → Fr b b w W) := fun W hW => HF0.out.below (by omega) hW
  have HCl : Hid (∀ (W : World) (c d : List Value), Below w0.heap.size w0 W → RepE W (fun g => g < b) a c → RepE W (fun g => g < b) b2 d → Calls Tryd.prog 56 #[.pointer (some ⟨b, 0, none⟩), .agg c.toArray, .agg d.toArray] W (WrEnd b l txt W)) := fun W c d hW ha hb => by rw [HTt.out]; exact writeApp_any a b2 HHa.out HHb.out b l W c d (HG0.out.lift hW) hb2 (HW0.out.lift hW) ha hb HLn.out
  clear hd HK0 HK1 HX0 HR0 HG0 HW0 HHa HHb HTt HLn
  generalize T.p = tp0 at *
  generalize T.n = tn0 at *
  generalize T.m = tm0 at *
  generalize T.kids.length = tkl at *
  generalize T.arms.length = tal at *
  go_upto_region 13 with fail
  clear c0 c1 c2 c3 c4 c5 c6 c7 c8 c9 c10
  obtain ⟨c0, c1, c2, c3, c4, c5, c6, c7, c8, c9, c10⟩ := HXl.out _ HD.out
  go_region_with (first
    | (go_at_call_of 55 (Value.int IntKind.i64 0); refine (HKa.out _ ?_).mono ?_; (first | exact HB1.out | exact HD.out); rintro e w1 ⟨cu, rfl, hrk, hb1⟩; (first | have HB1 := Lib.hid (HB1.out.trans (hb1.mono HB1.out.size)) | have HB1 := Lib.hid (HD.out.trans (hb1.mono HD.out.size))); (try have HRb := Lib.hid (HRb.out.lift hb1)); have HRa := Lib.hid hrk; obtain ⟨kau, kcu, aau, acu, tku, tnu, tiu, thu, tau, tlu, tcu, rfl⟩ := hrk.form; obtain ⟨e0, e1, e2, e3, e4, e5, e6, e7, e8, e9, e10⟩ := HXl.out _ HB1.out; clear hb1 hrk)
    | (go_at_call_of 55 (Value.int IntKind.i64 1); refine (HKb.out _ ?_).mono ?_; (first | exact HB1.out | exact HD.out); rintro e w1 ⟨cu, rfl, hrk, hb1⟩; (first | have HB1 := Lib.hid (HB1.out.trans (hb1.mono HB1.out.size)) | have HB1 := Lib.hid (HD.out.trans (hb1.mono HD.out.size))); (try have HRa := Lib.hid (HRa.out.lift hb1)); have HRb := Lib.hid hrk; obtain ⟨kav, kcv, aav, acv, tkv, tnv, tiv, thv, tav, tlv, tcv, rfl⟩ := hrk.form; obtain ⟨e0, e1, e2, e3, e4, e5, e6, e7, e8, e9, e10⟩ := HXl.out _ HB1.out; clear hb1 hrk)
    | (go_at_call 56; refine (HCl.out _ _ _ HB1.out HRa.out HRb.out).mono ?_; rintro e w2 ⟨rfl, hw2, hf2⟩))
  all_goals
    go_wp2
    go_end0
    exact ⟨rfl, hw2, (HFW.out _ HB1.out).trans hf2⟩

theorem itoa_ne (u : Nat) : Lib.itoa (u : Int) ≠ [] := by
  rw [Lib.itoa_nonneg]
  intro h
  have := congrArg List.length h
  rw [Lib.decDigits_length] at this
  have h2 := Lib.nDigits_pos u
  simp at this
  omega
set_option maxHeartbeats 3200000 in
/-- What the cases of an expression that can be written share. -/
theorem we_of (T : Ex) (ihK : ∀ U ∈ T.kids, srcE U = true → WrE U) (ihA : ∀ A ∈ T.arms, srcE A.2 = true → WrE A.2) (hs : srcE T = true) : WrE T := by
  intro b l w c hg hb2 hw hr hl
  obtain ⟨k, p, n, m, t, kids, arms⟩ := T
  simp only [Ex.kids, Ex.arms] at ihK ihA
  simp only [srcE, Bool.and_eq_true] at hs
  obtain ⟨⟨⟨⟨⟨⟨-, htz⟩, hka⟩, hkm⟩, hsK⟩, hsA⟩, hc⟩ := hs
  have HK : ∀ U ∈ kids, WrE U := fun U hU => ihK U hU (srcK_mem hsK hU)
  have HA : ∀ A ∈ arms, WrE A.2 := fun A hA => ihA A hA (srcA_mem hsA hA).2.2.2
  by_cases h1 : (k == 1) = true
  · have e := beq_iff_eq.1 h1; subst e
    have hsh : shE (.mk 1 p n m t kids arms) = bl n := by simp [shE]
    rw [hsh] at hl ⊢
    exact we_var (.mk 1 p n m t kids arms) rfl b l w c hg hb2 hw hr hl
  rw [if_neg h1] at hc
  by_cases h2 : (k == 2) = true
  · have e := beq_iff_eq.1 h2; subst e
    have hsh : shE (.mk 2 p n m t kids arms) = bl n := by simp [shE]
    rw [hsh] at hl ⊢
    exact we_con (.mk 2 p n m t kids arms) rfl b l w c hg hb2 hw hr hl
  rw [if_neg h2] at hc
  by_cases h3 : (k == 3) = true
  · have e := beq_iff_eq.1 h3; subst e
    simp only [show ((3 : Int) == 3) = true from rfl, if_true, Bool.and_eq_true, decide_eq_true_eq] at hc
    obtain ⟨u, rfl⟩ : ∃ u : Nat, m = u := ⟨m.toNat, by omega⟩
    have hsh : shE (.mk 3 p n u t kids arms) = Lib.itoa u := by simp [shE]
    rw [hsh] at hl ⊢
    exact we_int (.mk 3 p n u t kids arms) rfl u rfl (by omega) b l w c hg hw hr hl
  rw [if_neg h3] at hc
  by_cases h4 : (k == 4) = true
  · have e := beq_iff_eq.1 h4; subst e
    simp only [show ((4 : Int) == 4) = true from rfl, if_true, Bool.and_eq_true, beq_iff_eq] at hc
    obtain ⟨a, rfl⟩ := one_of hc.2
    have hsh : shE (.mk 4 p n m t [a] arms) = 92 :: (bl n ++ 46 :: 32 :: shE a) := by simp [shE, shK]
    rw [hsh] at hl ⊢
    exact we_lam (.mk 4 p n m t [a] arms) rfl a rfl (HK a (by simp)) b l w c hg hb2 hw hr hl
  rw [if_neg h4] at hc
  by_cases h5 : (k == 5) = true
  · have e := beq_iff_eq.1 h5; subst e
    simp only [show ((5 : Int) == 5) = true from rfl, if_true, Bool.and_eq_true, beq_iff_eq] at hc
    obtain ⟨a, b2, rfl⟩ := two_of hc.2
    have hsh : shE (.mk 5 p n m t [a, b2] arms) = brk (!(atomE a || a.k == 5)) (shE a) ++ 32 :: brk (!atomE b2) (shE b2) := by simp [shE, shF, shG]
    rw [hsh] at hl ⊢
    exact we_app (.mk 5 p n m t [a, b2] arms) a b2 rfl rfl (HK a (by simp)) (HK b2 (by simp)) b l w c hg hb2 hw hr hl
  rw [if_neg h5] at hc
  by_cases h6 : (k == 6) = true
  · have e := beq_iff_eq.1 h6; subst e
    simp only [show ((6 : Int) == 6 || (6 : Int) == 7) = true from rfl, if_true, Bool.and_eq_true, beq_iff_eq] at hc
    obtain ⟨a, b2, rfl⟩ := two_of hc.2
    have hsh : shE (.mk 6 p n m t [a, b2] arms) = [108, 101, 116] ++ 32 :: (bl n ++ 32 :: 61 :: 32 :: (shE a ++ 32 :: ([105, 110] ++ 32 :: shE b2))) := by simp [shE, shLt, shK]
    rw [hsh] at hl ⊢
    exact we_let (.mk 6 p n m t [a, b2] arms) rfl a b2 rfl (HK a (by simp)) (HK b2 (by simp)) b l w c hg hb2 hw hr hl
  by_cases h7 : (k == 7) = true
  · have e := beq_iff_eq.1 h7; subst e
    simp only [show ((7 : Int) == 6 || (7 : Int) == 7) = true from rfl, if_true, Bool.and_eq_true, beq_iff_eq] at hc
    obtain ⟨a, b2, rfl⟩ := two_of hc.2
    have hsh : shE (.mk 7 p n m t [a, b2] arms) = [108, 101, 116] ++ 32 :: ([114, 101, 99] ++ 32 :: (bl n ++ 32 :: 61 :: 32 :: (shE a ++ 32 :: ([105, 110] ++ 32 :: shE b2)))) := by simp [shE, shLt, shK]
    rw [hsh] at hl ⊢
    exact we_rec (.mk 7 p n m t [a, b2] arms) rfl a b2 rfl (HK a (by simp)) (HK b2 (by simp)) b l w c hg hb2 hw hr hl
  have h67 : (k == 6 || k == 7) = false := by simp [h6, h7]
  rw [h67] at hc
  simp only [Bool.false_eq_true, if_false] at hc
  by_cases h8 : (k == 8) = true
  · have e := beq_iff_eq.1 h8; subst e
    simp only [show ((8 : Int) == 8) = true from rfl, if_true, Bool.and_eq_true, beq_iff_eq] at hc
    obtain ⟨a, rfl⟩ := one_of hc.1.2
    have hsh : shE (.mk 8 p n m t [a] arms) = [99, 97, 115, 101] ++ 32 :: (shE a ++ 32 :: ([111, 102] ++ 32 :: (shA0 arms ++ 32 :: [101, 110, 100]))) := by simp [shE, shK]
    rw [hsh] at hl ⊢
    exact we_case (.mk 8 p n m t [a] arms) rfl a rfl (HK a (by simp)) HA b l w c hg hb2 hw hr hl
  rw [if_neg h8] at hc
  by_cases h9 : (k == 9) = true
  · have e := beq_iff_eq.1 h9; subst e
    simp only [show ((9 : Int) == 9) = true from rfl, if_true, Bool.and_eq_true, beq_iff_eq] at hc
    obtain ⟨a, rfl⟩ := one_of hc.1.2
    have hsh : shE (.mk 9 p n m t [a] arms) = 40 :: (shE a ++ 32 :: 58 :: 32 :: (shT t ++ [41])) := by simp [shE, shK]
    rw [hsh] at hl ⊢
    exact we_ann (.mk 9 p n m t [a] arms) rfl a rfl (HK a (by simp)) hc.2 b l w c hg hb2 hw hr hl
  rw [if_neg h9] at hc
  by_cases h10 : (k == 10) = true
  · have e := beq_iff_eq.1 h10; subst e
    have hsh : shE (.mk 10 p n m t kids arms) = [63] := by simp [shE]
    rw [hsh] at hl ⊢
    exact we_hole (.mk 10 p n m t kids arms) rfl b l w c hg hb2 hw hr hl
  rw [if_neg h10] at hc
  simp only [Bool.and_eq_true, beq_iff_eq] at hc
  have e := hc.1.1; subst e
  obtain ⟨a, rfl⟩ := one_of hc.2
  have hsh : shE (.mk 11 p n m t [a] arms) = 123 :: (shE a ++ [125]) := by simp [shE, shK]
  rw [hsh] at hl ⊢
  exact we_held (.mk 11 p n m t [a] arms) rfl a rfl (HK a (by simp)) b l w c hg hb2 hw hr hl
theorem writeExpr_any : ∀ T, srcE T = true → WrE T := Ex.induct fun T ihK ihA hs => we_of T ihK ihA hs
theorem shE_ne (T : Ex) (hs : srcE T = true) : shE T ≠ [] := by
  obtain ⟨k, p, n, m, t, kids, arms⟩ := T
  simp only [srcE, Bool.and_eq_true] at hs
  obtain ⟨-, hc⟩ := hs
  by_cases h1 : (k == 1) = true
  · rw [if_pos h1] at hc
    simp only [Bool.and_eq_true] at hc
    have := isLo_pos hc.1
    obtain rfl := beq_iff_eq.1 h1
    intro e
    simp only [shE] at e
    simp at e
    rw [e] at this; simp at this
  rw [if_neg h1] at hc
  by_cases h2 : (k == 2) = true
  · rw [if_pos h2] at hc
    simp only [Bool.and_eq_true] at hc
    have := isUp_pos hc.1
    obtain rfl := beq_iff_eq.1 h2
    intro e
    simp only [shE] at e
    simp at e
    rw [e] at this; simp at this
  rw [if_neg h2] at hc
  by_cases h3 : (k == 3) = true
  · rw [if_pos h3] at hc
    simp only [Bool.and_eq_true, decide_eq_true_eq] at hc
    obtain rfl := beq_iff_eq.1 h3
    obtain ⟨u, rfl⟩ : ∃ u : Nat, m = u := ⟨m.toNat, by omega⟩
    have hsh : shE (.mk 3 p n u t kids arms) = Lib.itoa u := by simp [shE]
    rw [hsh]
    exact itoa_ne u
  rw [if_neg h3] at hc
  have n1 : (k == 1 || k == 2) = false := by simp [h1, h2]
  have n3 : (k == 3) = false := by simpa using h3
  by_cases h5 : (k == 5) = true
  · have e := beq_iff_eq.1 h5; subst e
    simp only [show ((5 : Int) == 4) = false from rfl, show ((5 : Int) == 5) = true from rfl, if_true, Bool.false_eq_true, if_false, Bool.and_eq_true, beq_iff_eq] at hc
    obtain ⟨a, b2, rfl⟩ := two_of hc.2
    have hsh : shE (.mk 5 p n m t [a, b2] arms) = brk (!(atomE a || a.k == 5)) (shE a) ++ 32 :: brk (!atomE b2) (shE b2) := by simp [shE, shF, shG]
    rw [hsh]
    simp
  have n5 : (k == 5) = false := by simpa using h5
  simp only [shE, n1, n3, n5, Bool.false_eq_true, if_false]
  repeat' split
  all_goals simp
set_option maxRecDepth 100000 in
set_option maxHeartbeats 3200000 in
theorem showExpr_any (T : Ex) (hs : srcE T = true) (hl : (shE T).length ≤ 500000000) (c : List Value) (S : Nat → Prop) (w : World) (hg : Gs w) (hr : RepE w S T c) :
    Calls Tryd.prog 13 #[.agg c.toArray] w fun e w' => e = .returned (.string ⟨(shE T).toArray⟩) ∧ Below w.heap.size w w' := by
  have hr0 := hr.bound
  obtain ⟨ka, kc, aa, ac, tk, tn, ti, th, ta, tl, tc, rfl⟩ := hr.form
  have hal : Below w.heap.size w (w.alloc (.cells #[.int .i64 T.k, .int .i64 T.p, .string T.n, .int .i64 T.m, .slice ka T.kids.length kc, .slice aa T.arms.length ac, .int .i64 tk, .string tn, .int .i64 ti, .int .i64 th, .slice ta tl tc] 37)) := (Below.refl _ w).alloc (Nat.le_refl _) _
  have hal2 : Below w.heap.size w ((w.alloc (.cells #[.int .i64 T.k, .int .i64 T.p, .string T.n, .int .i64 T.m, .slice ka T.kids.length kc, .slice aa T.arms.length ac, .int .i64 tk, .string tn, .int .i64 ti, .int .i64 th, .slice ta tl tc] 37)).alloc (.cells #[.pointer none, .slice none 0 0] 74)) := hal.alloc (by simp) _
  have HX : Hid (BoxC 37 ((w.alloc (.cells #[.int .i64 T.k, .int .i64 T.p, .string T.n, .int .i64 T.m, .slice ka T.kids.length kc, .slice aa T.arms.length ac, .int .i64 tk, .string tn, .int .i64 ti, .int .i64 th, .slice ta tl tc] 37)).alloc (.cells #[.pointer none, .slice none 0 0] 74)) w.heap.size [.int .i64 T.k, .int .i64 T.p, .string T.n, .int .i64 T.m, .slice ka T.kids.length kc, .slice aa T.arms.length ac, .int .i64 tk, .string tn, .int .i64 ti, .int .i64 th, .slice ta tl tc]) := BoxC.lift (BoxC.made _ w [.int .i64 T.k, .int .i64 T.p, .string T.n, .int .i64 T.m, .slice ka T.kids.length kc, .slice aa T.arms.length ac, .int .i64 tk, .string tn, .int .i64 ti, .int .i64 th, .slice ta tl tc]) ((Below.refl _ _).alloc (Nat.le_refl _) _)
  have HWn : Hid (Wr (w.heap.size + 1) (w.heap.size + 1) [] ((w.alloc (.cells #[.int .i64 T.k, .int .i64 T.p, .string T.n, .int .i64 T.m, .slice ka T.kids.length kc, .slice aa T.arms.length ac, .int .i64 tk, .string tn, .int .i64 ti, .int .i64 th, .slice ta tl tc] 37)).alloc (.cells #[.pointer none, .slice none 0 0] 74))) := by
    have := wr_new (w.alloc (.cells #[.int .i64 T.k, .int .i64 T.p, .string T.n, .int .i64 T.m, .slice ka T.kids.length kc, .slice aa T.arms.length ac, .int .i64 tk, .string tn, .int .i64 ti, .int .i64 th, .slice ta tl tc] 37))
    rw [World.size_alloc] at this
    exact this
  have HR : Hid (RepE ((w.alloc (.cells #[.int .i64 T.k, .int .i64 T.p, .string T.n, .int .i64 T.m, .slice ka T.kids.length kc, .slice aa T.arms.length ac, .int .i64 tk, .string tn, .int .i64 ti, .int .i64 th, .slice ta tl tc] 37)).alloc (.cells #[.pointer none, .slice none 0 0] 74)) (fun g => g < w.heap.size + 1) T [.int .i64 T.k, .int .i64 T.p, .string T.n, .int .i64 T.m, .slice ka T.kids.length kc, .slice aa T.arms.length ac, .int .i64 tk, .string tn, .int .i64 ti, .int .i64 th, .slice ta tl tc]) := (hr0.lift hal2).imp fun g hg => by omega
  have HG := Lib.hid (hg.lift hal2)
  have HB := Lib.hid hal2
  have h2 := hg.size
  have HC := Lib.hid (writeExpr_any T hs (w.heap.size + 1) [] _ _ HG.out (by omega) HWn.out HR.out (by simpa using hl))
  have HNe := Lib.hid (shE_ne T hs)
  clear hal hal2 hg hr hr0 hs HR HWn HG
  generalize shE T = txt at *
  go_enter Tryd.func13, Tryd.ntmps13
  go_upto_region 2 with fail
  generalize ((w.alloc (.cells #[.int .i64 T.k, .int .i64 T.p, .string T.n, .int .i64 T.m, .slice ka T.kids.length kc, .slice aa T.arms.length ac, .int .i64 tk, .string tn, .int .i64 ti, .int .i64 th, .slice ta tl tc] 37)).alloc (.cells #[.pointer none, .slice none 0 0] 74)) = V at *
  obtain ⟨c0, c1, c2, c3, c4, c5, c6, c7, c8, c9, c10⟩ := HX.out.all11
  go_wp2_with fail
  go_at_call 31
  refine HC.out.mono ?_
  rintro e w1 ⟨rfl, hw1, hf1⟩
  have HS := Lib.hid (string_any _ _ w1 hw1 (by simpa using HNe.out))
  have HB1 := Lib.hid (HB.out.trans (hf1.1.mono (Nat.le_succ _)))
  clear hw1 hf1
  go_wp2_with fail
  go_at_call 32
  refine HS.out.mono ?_
  rintro e w2 ⟨rfl, hb2⟩
  go_wp2
  go_ret
  exact ⟨by simp, HB1.out.trans (hb2.mono (Nat.le_succ _))⟩
set_option maxRecDepth 100000 in
set_option maxHeartbeats 3200000 in
theorem showType_any (T : Ty) (hs : wOk T = true) (hne : wT T ≠ []) (hl : (wT T).length ≤ 500000000) (v : Value) (S : Nat → Prop) (w : World) (hg : Gs w) (hr : Rep w S T v) :
    Calls Tryd.prog 19 #[v] w fun e w' => e = .returned (.string ⟨(wT T).toArray⟩) ∧ Below w.heap.size w w' := by
  have hr0 := hr.bound
  obtain ⟨sa, sc, rfl⟩ := rep5 hr
  have hal : Below w.heap.size w (w.alloc (.cells #[.int .i64 T.k, .string T.n, .int .i64 T.i, .int .i64 T.h, .slice sa T.ts.length sc] 35)) := (Below.refl _ w).alloc (Nat.le_refl _) _
  have hal2 : Below w.heap.size w ((w.alloc (.cells #[.int .i64 T.k, .string T.n, .int .i64 T.i, .int .i64 T.h, .slice sa T.ts.length sc] 35)).alloc (.cells #[.pointer none, .slice none 0 0] 74)) := hal.alloc (by simp) _
  have HX : Hid (Box ((w.alloc (.cells #[.int .i64 T.k, .string T.n, .int .i64 T.i, .int .i64 T.h, .slice sa T.ts.length sc] 35)).alloc (.cells #[.pointer none, .slice none 0 0] 74)) w.heap.size (.int .i64 T.k) (.string T.n) (.int .i64 T.i) (.int .i64 T.h) (.slice sa T.ts.length sc)) := Box.lift (Box.made w _ _ _ _ _) ((Below.refl _ _).alloc (Nat.le_refl _) _)
  have HWn : Hid (Wr (w.heap.size + 1) (w.heap.size + 1) [] ((w.alloc (.cells #[.int .i64 T.k, .string T.n, .int .i64 T.i, .int .i64 T.h, .slice sa T.ts.length sc] 35)).alloc (.cells #[.pointer none, .slice none 0 0] 74))) := by
    have := wr_new (w.alloc (.cells #[.int .i64 T.k, .string T.n, .int .i64 T.i, .int .i64 T.h, .slice sa T.ts.length sc] 35))
    rw [World.size_alloc] at this
    exact this
  have HR : Hid (Rep ((w.alloc (.cells #[.int .i64 T.k, .string T.n, .int .i64 T.i, .int .i64 T.h, .slice sa T.ts.length sc] 35)).alloc (.cells #[.pointer none, .slice none 0 0] 74)) (fun g => g < w.heap.size + 1) T (.agg #[.int .i64 T.k, .string T.n, .int .i64 T.i, .int .i64 T.h, .slice sa T.ts.length sc])) := (hr0.lift hal2).imp fun g hg => by omega
  have HG := Lib.hid (hg.lift hal2)
  have HB := Lib.hid hal2
  have h2 := hg.size
  have HC := Lib.hid (type_any T hs (w.heap.size + 1) [] _ _ HG.out (by omega) HWn.out HR.out (by simpa using hl))
  have HNe := Lib.hid hne
  clear hal hal2 hg hr hr0 hs HR HWn HG hne
  generalize wT T = txt at *
  go_enter Tryd.func19, Tryd.ntmps19
  go_upto_region 2 with fail
  generalize ((w.alloc (.cells #[.int .i64 T.k, .string T.n, .int .i64 T.i, .int .i64 T.h, .slice sa T.ts.length sc] 35)).alloc (.cells #[.pointer none, .slice none 0 0] 74)) = V at *
  obtain ⟨b0, b1, b2, b3, b4⟩ := HX.out.cells
  go_wp2_with fail
  go_at_call 47
  refine HC.out.mono ?_
  rintro e w1 ⟨rfl, hw1, hf1⟩
  have HS := Lib.hid (string_any _ _ w1 hw1 (by simpa using HNe.out))
  have HB1 := Lib.hid (HB.out.trans (hf1.1.mono (Nat.le_succ _)))
  clear hw1 hf1
  go_wp2_with fail
  go_at_call 32
  refine HS.out.mono ?_
  rintro e w2 ⟨rfl, hb2⟩
  go_wp2
  go_ret
  exact ⟨by simp, HB1.out.trans (hb2.mono (Nat.le_succ _))⟩
end Go.Proofs.YtfkbifbodpelmaaDoor
