import Derived.Test.YtfkbifbodpelmaaDoorVE3
/- The writer of expressions: all kinds but application. -/
namespace Go.Proofs.YtfkbifbodpelmaaDoor
open Go.RowKit Go.Maps Mth

/-! A written type's text: both writings are the same. -/
theorem src_texts : ∀ T, src T = true → wOk T = true ∧ wT T = shT T := by
  refine tyInd fun T ih hs => ?_
  cases T with
  | mk k n i h ts =>
    have hm := fun U (hU : U ∈ ts) => ih U hU (srcL_mem (by simp only [src, Bool.and_eq_true] at hs; exact hs.2) hU)
    simp only [src, Bool.and_eq_true] at hs
    obtain ⟨⟨⟨hi', -⟩, hk⟩, -⟩ := hs
    have hi : i = 0 := beq_iff_eq.1 hi'
    clear hi'
    have hL : wOkL ts = true := by
      clear hk ih
      induction ts with
      | nil => rfl
      | cons t l ih2 =>
        simp only [wOkL, Bool.and_eq_true]
        exact ⟨(hm t (by simp)).1, ih2 fun U hU => hm U (by simp [hU])⟩
    have hA : wA ts = shA ts := by
      clear hk ih hL
      induction ts with
      | nil => rfl
      | cons t l ih2 =>
        simp only [wA, shA]
        rw [(hm t (by simp)).2, ih2 fun U hU => hm U (by simp [hU])]
    have hB : ∀ l : List Ty, (∀ U ∈ l, U ∈ ts) → wB l = shB l := fun l => by
      induction l with
      | nil => intro _; rfl
      | cons t l ih2 =>
        intro hl
        simp only [wB, shB]
        rw [(hm t (hl t (by simp))).2, ih2 fun U hU => hl U (by simp [hU])]
    have hH : wH ts = shH ts := by
      cases ts with
      | nil => rfl
      | cons t l =>
        simp only [wH, shH]
        rw [(hm t (by simp)).2, hB l fun U hU => by simp [hU]]
    subst hi
    by_cases h5 : (k == 5) = true
    · rw [if_pos h5] at hk
      simp only [Bool.and_eq_true, beq_iff_eq] at hk
      obtain rfl := beq_iff_eq.1 h5
      refine ⟨?_, ?_⟩
      · simp [wOk, hL]
      · simp [wT, shT]
    · rw [if_neg h5] at hk
      simp only [Bool.and_eq_true] at hk
      obtain rfl := beq_iff_eq.1 hk.1
      refine ⟨?_, ?_⟩
      · by_cases ha : (n.toList == [45, 62]) = true
        · rw [if_pos ha] at hk
          simp only [wOk, hL, hk.2]
          simp
        · have ha' : (n.toList == [45, 62]) = false := by simpa using ha
          simp [wOk, hL, bne, ha']
      · simp [wT, shT, hA, hH]
set_option maxRecDepth 100000 in
set_option maxHeartbeats 3200000 in
theorem we_var (T : Ex) (hk : T.k = 1) (b : Nat) (l : List UInt8) (w : World) (c : List Value) (hg : Gs w) (hb2 : 2 ≤ b) (hw : Wr b b l w) (hr : RepE w (fun g => g < b) T c) (hl : l.length + (bl T.n).length ≤ 500000000) :
    Calls Tryd.prog 31 #[.pointer (some ⟨b, 0, none⟩), .agg c.toArray] w (WrEnd b l (bl T.n) w) := by
  obtain ⟨ka, kc, aa, ac, tk, tn, ti, th, ta, tl, tc, rfl⟩ := hr.form
  have hal : Below w.heap.size w (w.alloc (.cells #[.int .i64 T.k, .int .i64 T.p, .string T.n, .int .i64 T.m, .slice ka T.kids.length kc, .slice aa T.arms.length ac, .int .i64 tk, .string tn, .int .i64 ti, .int .i64 th, .slice ta tl tc] 37)) := (Below.refl _ w).alloc (Nat.le_refl _) _
  have hlt := hw.lt
  have HX0 : Hid (BoxC 37 (w.alloc (.cells #[.int .i64 T.k, .int .i64 T.p, .string T.n, .int .i64 T.m, .slice ka T.kids.length kc, .slice aa T.arms.length ac, .int .i64 tk, .string tn, .int .i64 ti, .int .i64 th, .slice ta tl tc] 37)) w.heap.size [.int .i64 T.k, .int .i64 T.p, .string T.n, .int .i64 T.m, .slice ka T.kids.length kc, .slice aa T.arms.length ac, .int .i64 tk, .string tn, .int .i64 ti, .int .i64 th, .slice ta tl tc]) := BoxC.made _ w _
  have HG0 := Lib.hid (hg.lift hal)
  have HW0 := Lib.hid (hw.lift hal)
  have HF0 : Hid (Fr b b w (w.alloc (.cells #[.int .i64 T.k, .int .i64 T.p, .string T.n, .int .i64 T.m, .slice ka T.kids.length kc, .slice aa T.arms.length ac, .int .i64 tk, .string tn, .int .i64 ti, .int .i64 th, .slice ta tl tc] 37))) := (Fr.refl b b w).alloc (by omega) _
  have HR0 := Lib.hid (hr.lift hal)
  rw [bl_len] at hl
  have HLn := Lib.hid hl
  rw [hk] at HX0 HG0 HW0 HF0 HR0 ⊢
  clear hal hg hw hr hl hk
  go_enter Tryd.func31, Tryd.ntmps31
  go_upto_region 1 with fail
  generalize (w.alloc (.cells #[.int .i64 1, .int .i64 T.p, .string T.n, .int .i64 T.m, .slice ka T.kids.length kc, .slice aa T.arms.length ac, .int .i64 tk, .string tn, .int .i64 ti, .int .i64 th, .slice ta tl tc] 37)) = w0 at *
  have hbV := HF0.out.size
  obtain ⟨c0, c1, c2, c3, c4, c5, c6, c7, c8, c9, c10⟩ := HX0.out.all11
  have HWs := Lib.hid (write_s b _ T.n w0 HW0.out (by have h1 := HLn.out; omega))
  go_wp2_with fail
  go_at_call 54
  refine HWs.out.mono ?_
  rintro e w1 ⟨rfl, hwn, hfn⟩
  have HF1 := Lib.hid (HF0.out.trans hfn)
  have HG1 := Lib.hid (HG0.out.frr hb2 hfn)
  have HW1 := Lib.hid hwn
  have HX1 := Lib.hid (HX0.out.fr hfn (by omega) (by decide))
  have HR1 := Lib.hid (HR0.out.fr hfn.1)
  clear hwn hfn HWs HG0 HW0 HF0 HR0 HX0
  go_wp2
  go_end0
  exact ⟨rfl, HW1.out, HF1.out⟩
set_option maxRecDepth 100000 in
set_option maxHeartbeats 3200000 in
theorem we_con (T : Ex) (hk : T.k = 2) (b : Nat) (l : List UInt8) (w : World) (c : List Value) (hg : Gs w) (hb2 : 2 ≤ b) (hw : Wr b b l w) (hr : RepE w (fun g => g < b) T c) (hl : l.length + (bl T.n).length ≤ 500000000) :
    Calls Tryd.prog 31 #[.pointer (some ⟨b, 0, none⟩), .agg c.toArray] w (WrEnd b l (bl T.n) w) := by
  obtain ⟨ka, kc, aa, ac, tk, tn, ti, th, ta, tl, tc, rfl⟩ := hr.form
  have hal : Below w.heap.size w (w.alloc (.cells #[.int .i64 T.k, .int .i64 T.p, .string T.n, .int .i64 T.m, .slice ka T.kids.length kc, .slice aa T.arms.length ac, .int .i64 tk, .string tn, .int .i64 ti, .int .i64 th, .slice ta tl tc] 37)) := (Below.refl _ w).alloc (Nat.le_refl _) _
  have hlt := hw.lt
  have HX0 : Hid (BoxC 37 (w.alloc (.cells #[.int .i64 T.k, .int .i64 T.p, .string T.n, .int .i64 T.m, .slice ka T.kids.length kc, .slice aa T.arms.length ac, .int .i64 tk, .string tn, .int .i64 ti, .int .i64 th, .slice ta tl tc] 37)) w.heap.size [.int .i64 T.k, .int .i64 T.p, .string T.n, .int .i64 T.m, .slice ka T.kids.length kc, .slice aa T.arms.length ac, .int .i64 tk, .string tn, .int .i64 ti, .int .i64 th, .slice ta tl tc]) := BoxC.made _ w _
  have HG0 := Lib.hid (hg.lift hal)
  have HW0 := Lib.hid (hw.lift hal)
  have HF0 : Hid (Fr b b w (w.alloc (.cells #[.int .i64 T.k, .int .i64 T.p, .string T.n, .int .i64 T.m, .slice ka T.kids.length kc, .slice aa T.arms.length ac, .int .i64 tk, .string tn, .int .i64 ti, .int .i64 th, .slice ta tl tc] 37))) := (Fr.refl b b w).alloc (by omega) _
  have HR0 := Lib.hid (hr.lift hal)
  rw [bl_len] at hl
  have HLn := Lib.hid hl
  rw [hk] at HX0 HG0 HW0 HF0 HR0 ⊢
  clear hal hg hw hr hl hk
  go_enter Tryd.func31, Tryd.ntmps31
  go_upto_region 1 with fail
  generalize (w.alloc (.cells #[.int .i64 2, .int .i64 T.p, .string T.n, .int .i64 T.m, .slice ka T.kids.length kc, .slice aa T.arms.length ac, .int .i64 tk, .string tn, .int .i64 ti, .int .i64 th, .slice ta tl tc] 37)) = w0 at *
  have hbV := HF0.out.size
  obtain ⟨c0, c1, c2, c3, c4, c5, c6, c7, c8, c9, c10⟩ := HX0.out.all11
  have HWs := Lib.hid (write_s b _ T.n w0 HW0.out (by have h1 := HLn.out; omega))
  go_wp2_with fail
  go_at_call 54
  refine HWs.out.mono ?_
  rintro e w1 ⟨rfl, hwn, hfn⟩
  have HF1 := Lib.hid (HF0.out.trans hfn)
  have HG1 := Lib.hid (HG0.out.frr hb2 hfn)
  have HW1 := Lib.hid hwn
  have HX1 := Lib.hid (HX0.out.fr hfn (by omega) (by decide))
  have HR1 := Lib.hid (HR0.out.fr hfn.1)
  clear hwn hfn HWs HG0 HW0 HF0 HR0 HX0
  go_wp2
  go_end0
  exact ⟨rfl, HW1.out, HF1.out⟩
set_option maxRecDepth 100000 in
set_option maxHeartbeats 3200000 in
theorem we_hole (T : Ex) (hk : T.k = 10) (b : Nat) (l : List UInt8) (w : World) (c : List Value) (hg : Gs w) (hb2 : 2 ≤ b) (hw : Wr b b l w) (hr : RepE w (fun g => g < b) T c) (hl : l.length + ([63]).length ≤ 500000000) :
    Calls Tryd.prog 31 #[.pointer (some ⟨b, 0, none⟩), .agg c.toArray] w (WrEnd b l ([63]) w) := by
  obtain ⟨ka, kc, aa, ac, tk, tn, ti, th, ta, tl, tc, rfl⟩ := hr.form
  have hal : Below w.heap.size w (w.alloc (.cells #[.int .i64 T.k, .int .i64 T.p, .string T.n, .int .i64 T.m, .slice ka T.kids.length kc, .slice aa T.arms.length ac, .int .i64 tk, .string tn, .int .i64 ti, .int .i64 th, .slice ta tl tc] 37)) := (Below.refl _ w).alloc (Nat.le_refl _) _
  have hlt := hw.lt
  have HX0 : Hid (BoxC 37 (w.alloc (.cells #[.int .i64 T.k, .int .i64 T.p, .string T.n, .int .i64 T.m, .slice ka T.kids.length kc, .slice aa T.arms.length ac, .int .i64 tk, .string tn, .int .i64 ti, .int .i64 th, .slice ta tl tc] 37)) w.heap.size [.int .i64 T.k, .int .i64 T.p, .string T.n, .int .i64 T.m, .slice ka T.kids.length kc, .slice aa T.arms.length ac, .int .i64 tk, .string tn, .int .i64 ti, .int .i64 th, .slice ta tl tc]) := BoxC.made _ w _
  have HG0 := Lib.hid (hg.lift hal)
  have HW0 := Lib.hid (hw.lift hal)
  have HF0 : Hid (Fr b b w (w.alloc (.cells #[.int .i64 T.k, .int .i64 T.p, .string T.n, .int .i64 T.m, .slice ka T.kids.length kc, .slice aa T.arms.length ac, .int .i64 tk, .string tn, .int .i64 ti, .int .i64 th, .slice ta tl tc] 37))) := (Fr.refl b b w).alloc (by omega) _
  have HR0 := Lib.hid (hr.lift hal)
  have HLn := Lib.hid hl
  rw [hk] at HX0 HG0 HW0 HF0 HR0 ⊢
  clear hal hg hw hr hl hk
  go_enter Tryd.func31, Tryd.ntmps31
  go_upto_region 1 with fail
  generalize (w.alloc (.cells #[.int .i64 10, .int .i64 T.p, .string T.n, .int .i64 T.m, .slice ka T.kids.length kc, .slice aa T.arms.length ac, .int .i64 tk, .string tn, .int .i64 ti, .int .i64 th, .slice ta tl tc] 37)) = w0 at *
  have hbV := HF0.out.size
  obtain ⟨c0, c1, c2, c3, c4, c5, c6, c7, c8, c9, c10⟩ := HX0.out.all11
  have HWs := Lib.hid (write_s b _ ⟨#[63]⟩ w0 HW0.out (by have h1 := HLn.out; exact Nat.le_trans h1 (by omega)))
  go_wp2_with fail
  go_at_call 54
  refine HWs.out.mono ?_
  rintro e w1 ⟨rfl, hwn, hfn⟩
  have HF1 := Lib.hid (HF0.out.trans hfn)
  have HG1 := Lib.hid (HG0.out.frr hb2 hfn)
  have HW1 := Lib.hid hwn
  have HX1 := Lib.hid (HX0.out.fr hfn (by omega) (by decide))
  have HR1 := Lib.hid (HR0.out.fr hfn.1)
  clear hwn hfn HWs HG0 HW0 HF0 HR0 HX0
  go_wp2
  go_end0
  exact ⟨rfl, HW1.out, HF1.out⟩
set_option maxRecDepth 100000 in
set_option maxHeartbeats 3200000 in
theorem we_int (T : Ex) (hk : T.k = 3) (u : Nat) (hm : T.m = u) (hu : u ≤ 1000000) (b : Nat) (l : List UInt8) (w : World) (c : List Value) (hg : Gs w) (hw : Wr b b l w) (hr : RepE w (fun g => g < b) T c) (hl : l.length + (Lib.itoa u).length ≤ 500000000) :
    Calls Tryd.prog 31 #[.pointer (some ⟨b, 0, none⟩), .agg c.toArray] w (WrEnd b l (Lib.itoa u) w) := by
  obtain ⟨ka, kc, aa, ac, tk, tn, ti, th, ta, tl, tc, rfl⟩ := hr.form
  have hal : Below w.heap.size w (w.alloc (.cells #[.int .i64 T.k, .int .i64 T.p, .string T.n, .int .i64 T.m, .slice ka T.kids.length kc, .slice aa T.arms.length ac, .int .i64 tk, .string tn, .int .i64 ti, .int .i64 th, .slice ta tl tc] 37)) := (Below.refl _ w).alloc (Nat.le_refl _) _
  have hlt := hw.lt
  have HX0 : Hid (BoxC 37 (w.alloc (.cells #[.int .i64 T.k, .int .i64 T.p, .string T.n, .int .i64 T.m, .slice ka T.kids.length kc, .slice aa T.arms.length ac, .int .i64 tk, .string tn, .int .i64 ti, .int .i64 th, .slice ta tl tc] 37)) w.heap.size [.int .i64 T.k, .int .i64 T.p, .string T.n, .int .i64 T.m, .slice ka T.kids.length kc, .slice aa T.arms.length ac, .int .i64 tk, .string tn, .int .i64 ti, .int .i64 th, .slice ta tl tc]) := BoxC.made _ w _
  have HG0 := Lib.hid (hg.lift hal)
  have HW0 := Lib.hid (hw.lift hal)
  have HF0 : Hid (Fr b b w (w.alloc (.cells #[.int .i64 T.k, .int .i64 T.p, .string T.n, .int .i64 T.m, .slice ka T.kids.length kc, .slice aa T.arms.length ac, .int .i64 tk, .string tn, .int .i64 ti, .int .i64 th, .slice ta tl tc] 37))) := (Fr.refl b b w).alloc (by omega) _
  have HR0 := Lib.hid (hr.lift hal)
  have HLn := Lib.hid hl
  have HI : Hid (∀ V, Gs V → Calls Tryd.prog 26 #[.int .i64 (u : Int)] V fun e w' => e = .returned (.string ⟨(Lib.itoa u).toArray⟩) ∧ Below V.heap.size V w') := fun V hV => (Tryd.strconv_Itoa (u : Int) (by omega) (by omega) V hV.tab).mono fun e w' ⟨x, k, os, y⟩ => ⟨x, by subst y; exact Lib.below_grow _ _ (Nat.le_refl _) _ _⟩
  rw [hm] at HX0 HG0 HW0 HF0 HR0 ⊢
  rw [hk] at HX0 HG0 HW0 HF0 HR0 ⊢
  clear hal hg hw hr hl hk
  go_enter Tryd.func31, Tryd.ntmps31
  go_upto_region 1 with fail
  generalize (w.alloc (.cells #[.int .i64 3, .int .i64 T.p, .string T.n, .int .i64 (u : Int), .slice ka T.kids.length kc, .slice aa T.arms.length ac, .int .i64 tk, .string tn, .int .i64 ti, .int .i64 th, .slice ta tl tc] 37)) = w0 at *
  have hbV := HF0.out.size
  obtain ⟨c0, c1, c2, c3, c4, c5, c6, c7, c8, c9, c10⟩ := HX0.out.all11
  have hsz : (⟨(Lib.itoa u).toArray⟩ : ByteArray).size = (Lib.itoa u).length := by show (Array.size _) = _; simp
  go_wp2_with fail
  go_at_call 26
  refine (HI.out w0 HG0.out).mono ?_
  rintro e w1 ⟨rfl, hb1⟩
  have HWs := Lib.hid (write_s b _ ⟨(Lib.itoa u).toArray⟩ w1 (HW0.out.lift hb1) (by have h1 := HLn.out; rw [hsz]; omega))
  have HF1 := Lib.hid (HF0.out.below (by omega) hb1)
  have hbs : bl ⟨(Lib.itoa u).toArray⟩ = Lib.itoa u := bl_mk _
  have HSb := Lib.hid hbs
  clear hb1 hsz hbs
  generalize (⟨(Lib.itoa u).toArray⟩ : ByteArray) = s at *
  go_wp2_with fail
  go_at_call 54
  refine HWs.out.mono ?_
  rintro e w2 ⟨rfl, hw2, hf2⟩
  go_wp2
  go_end0
  exact ⟨rfl, by rw [HSb.out] at hw2; exact hw2, HF1.out.trans hf2⟩
set_option maxRecDepth 100000 in
set_option maxHeartbeats 3200000 in
theorem we_lam (T : Ex) (hk : T.k = 4) (a : Ex) (hts : T.kids = [a]) (Ha : WrE a) (b : Nat) (l : List UInt8) (w : World) (c : List Value) (hg : Gs w) (hb2 : 2 ≤ b) (hw : Wr b b l w) (hr : RepE w (fun g => g < b) T c) (hl : l.length + (92 :: (bl T.n ++ 46 :: 32 :: shE a)).length ≤ 500000000) :
    Calls Tryd.prog 31 #[.pointer (some ⟨b, 0, none⟩), .agg c.toArray] w (WrEnd b l (92 :: (bl T.n ++ 46 :: 32 :: shE a)) w) := by
  obtain ⟨ka, kc, aa, ac, tk, tn, ti, th, ta, tl, tc, rfl⟩ := hr.form
  have hal : Below w.heap.size w (w.alloc (.cells #[.int .i64 T.k, .int .i64 T.p, .string T.n, .int .i64 T.m, .slice ka T.kids.length kc, .slice aa T.arms.length ac, .int .i64 tk, .string tn, .int .i64 ti, .int .i64 th, .slice ta tl tc] 37)) := (Below.refl _ w).alloc (Nat.le_refl _) _
  have hlt := hw.lt
  have HX0 : Hid (BoxC 37 (w.alloc (.cells #[.int .i64 T.k, .int .i64 T.p, .string T.n, .int .i64 T.m, .slice ka T.kids.length kc, .slice aa T.arms.length ac, .int .i64 tk, .string tn, .int .i64 ti, .int .i64 th, .slice ta tl tc] 37)) w.heap.size [.int .i64 T.k, .int .i64 T.p, .string T.n, .int .i64 T.m, .slice ka T.kids.length kc, .slice aa T.arms.length ac, .int .i64 tk, .string tn, .int .i64 ti, .int .i64 th, .slice ta tl tc]) := BoxC.made _ w _
  have HG0 := Lib.hid (hg.lift hal)
  have HW0 := Lib.hid (hw.lift hal)
  have HF0 : Hid (Fr b b w (w.alloc (.cells #[.int .i64 T.k, .int .i64 T.p, .string T.n, .int .i64 T.m, .slice ka T.kids.length kc, .slice aa T.arms.length ac, .int .i64 tk, .string tn, .int .i64 ti, .int .i64 th, .slice ta tl tc] 37))) := (Fr.refl b b w).alloc (by omega) _
  have HR0 := Lib.hid (hr.lift hal)
  have HK0 : Hid (∀ V, RepE V (fun g => g < b) T [.int .i64 T.k, .int .i64 T.p, .string T.n, .int .i64 T.m, .slice ka T.kids.length kc, .slice aa T.arms.length ac, .int .i64 tk, .string tn, .int .i64 ti, .int .i64 th, .slice ta tl tc] → Calls Tryd.prog 55 #[.agg #[.int .i64 T.k, .int .i64 T.p, .string T.n, .int .i64 T.m, .slice ka T.kids.length kc, .slice aa T.arms.length ac, .int .i64 tk, .string tn, .int .i64 ti, .int .i64 th, .slice ta tl tc], .int .i64 0] V fun e w' => ∃ cu : List Value, e = .returned (.agg cu.toArray) ∧ RepE w' (fun g => g < b) a cu ∧ Below V.heap.size V w') := fun V h => kid0_any T a hts _ _ V h
  have HHa := Lib.hid Ha
  clear hts Ha
  have HLn : Hid (l.length + (1 + (T.n.size + (2 + (shE a).length))) ≤ 500000000) := by
    show _ ≤ _
    simp only [List.length_append, bl_len, List.length_cons] at hl
    omega
  rw [hk] at HX0 HG0 HW0 HF0 HR0 HK0 ⊢
  clear hal hg hw hr hl hk
  go_enter Tryd.func31, Tryd.ntmps31
  go_upto_region 1 with fail
  generalize (w.alloc (.cells #[.int .i64 4, .int .i64 T.p, .string T.n, .int .i64 T.m, .slice ka T.kids.length kc, .slice aa T.arms.length ac, .int .i64 tk, .string tn, .int .i64 ti, .int .i64 th, .slice ta tl tc] 37)) = w0 at *
  have hbV := HF0.out.size
  obtain ⟨c0, c1, c2, c3, c4, c5, c6, c7, c8, c9, c10⟩ := HX0.out.all11
  have z1 : T.n.size ≤ 1000000000 := by have := HLn.out; omega
  have hsz : (⟨#[92]⟩ ++ T.n ++ ⟨#[46, 32]⟩ : ByteArray).size = 1 + T.n.size + 2 := by rw [ByteArray.size_append, ByteArray.size_append]; rfl
  have HWs := Lib.hid (write_s b _ (⟨#[92]⟩ ++ T.n ++ ⟨#[46, 32]⟩) w0 HW0.out (by have h1 := HLn.out; rw [hsz]; omega))
  go_wp2_with fail
  go_at_call 54
  refine HWs.out.mono ?_
  rintro e w1 ⟨rfl, hwn, hfn⟩
  have HF1 := Lib.hid (HF0.out.trans hfn)
  have HG1 := Lib.hid (HG0.out.frr hb2 hfn)
  have HW1 := Lib.hid hwn
  have HX1 := Lib.hid (HX0.out.fr hfn (by omega) (by decide))
  have HR1 := Lib.hid (HR0.out.fr hfn.1)
  clear c0 c1 c2 c3 c4 c5 c6 c7 c8 c9 c10 z1 hwn hfn HWs HG0 HW0 HF0 HR0 HX0
  obtain ⟨c0, c1, c2, c3, c4, c5, c6, c7, c8, c9, c10⟩ := HX1.out.all11
  go_wp2_with fail
  go_at_call 55
  refine (HK0.out w1 HR1.out).mono ?_
  rintro e w1k ⟨cu, rfl, hrk, hbk⟩
  have HG1k := Lib.hid (HG1.out.lift hbk)
  have HW1k := Lib.hid (HW1.out.lift hbk)
  have HF1k := Lib.hid (HF1.out.below (by have := HF1.out.size; omega) hbk)
  have HR1k := Lib.hid (HR1.out.lift hbk)
  have HX1k := Lib.hid (HX1.out.lift hbk)
  have HC1k := Lib.hid (HHa.out b _ w1k _ HG1k.out hb2 HW1k.out hrk (by have h1 := HLn.out; rw [List.length_append, bl_len, hsz]; omega))
  obtain ⟨kak2, kck2, aak2, ack2, tkk2, tnk2, tik2, thk2, tak2, tlk2, tck2, rfl⟩ := hrk.form
  clear hbk hrk c0 c1 c2 c3 c4 c5 c6 c7 c8 c9 c10 HG1 HW1 HF1 HR1 HX1
  go_wp2_with fail
  go_at_call 31
  refine HC1k.out.mono ?_
  rintro e w2 ⟨rfl, hwn, hfn⟩
  have HF2 := Lib.hid (HF1k.out.trans hfn)
  have HG2 := Lib.hid (HG1k.out.frr hb2 hfn)
  have HW2 := Lib.hid hwn
  have HX2 := Lib.hid (HX1k.out.fr hfn (by omega) (by decide))
  have HR2 := Lib.hid (HR1k.out.fr hfn.1)
  clear hwn hfn HG1k HW1k HF1k HR1k HX1k HC1k
  go_wp2
  go_end0
  refine ⟨rfl, ?_, HF2.out⟩
  have e1 : l ++ 92 :: (bl T.n ++ 46 :: 32 :: shE a) = l ++ bl (⟨#[92]⟩ ++ T.n ++ ⟨#[46, 32]⟩) ++ shE a := by rw [bl_app, bl_app]; simp [bl]
  rw [e1]
  exact HW2.out
set_option maxRecDepth 100000 in
set_option maxHeartbeats 3200000 in
theorem we_held (T : Ex) (hk : T.k = 11) (a : Ex) (hts : T.kids = [a]) (Ha : WrE a) (b : Nat) (l : List UInt8) (w : World) (c : List Value) (hg : Gs w) (hb2 : 2 ≤ b) (hw : Wr b b l w) (hr : RepE w (fun g => g < b) T c) (hl : l.length + (123 :: (shE a ++ [125])).length ≤ 500000000) :
    Calls Tryd.prog 31 #[.pointer (some ⟨b, 0, none⟩), .agg c.toArray] w (WrEnd b l (123 :: (shE a ++ [125])) w) := by
  obtain ⟨ka, kc, aa, ac, tk, tn, ti, th, ta, tl, tc, rfl⟩ := hr.form
  have hal : Below w.heap.size w (w.alloc (.cells #[.int .i64 T.k, .int .i64 T.p, .string T.n, .int .i64 T.m, .slice ka T.kids.length kc, .slice aa T.arms.length ac, .int .i64 tk, .string tn, .int .i64 ti, .int .i64 th, .slice ta tl tc] 37)) := (Below.refl _ w).alloc (Nat.le_refl _) _
  have hlt := hw.lt
  have HX0 : Hid (BoxC 37 (w.alloc (.cells #[.int .i64 T.k, .int .i64 T.p, .string T.n, .int .i64 T.m, .slice ka T.kids.length kc, .slice aa T.arms.length ac, .int .i64 tk, .string tn, .int .i64 ti, .int .i64 th, .slice ta tl tc] 37)) w.heap.size [.int .i64 T.k, .int .i64 T.p, .string T.n, .int .i64 T.m, .slice ka T.kids.length kc, .slice aa T.arms.length ac, .int .i64 tk, .string tn, .int .i64 ti, .int .i64 th, .slice ta tl tc]) := BoxC.made _ w _
  have HG0 := Lib.hid (hg.lift hal)
  have HW0 := Lib.hid (hw.lift hal)
  have HF0 : Hid (Fr b b w (w.alloc (.cells #[.int .i64 T.k, .int .i64 T.p, .string T.n, .int .i64 T.m, .slice ka T.kids.length kc, .slice aa T.arms.length ac, .int .i64 tk, .string tn, .int .i64 ti, .int .i64 th, .slice ta tl tc] 37))) := (Fr.refl b b w).alloc (by omega) _
  have HR0 := Lib.hid (hr.lift hal)
  have HK0 : Hid (∀ V, RepE V (fun g => g < b) T [.int .i64 T.k, .int .i64 T.p, .string T.n, .int .i64 T.m, .slice ka T.kids.length kc, .slice aa T.arms.length ac, .int .i64 tk, .string tn, .int .i64 ti, .int .i64 th, .slice ta tl tc] → Calls Tryd.prog 55 #[.agg #[.int .i64 T.k, .int .i64 T.p, .string T.n, .int .i64 T.m, .slice ka T.kids.length kc, .slice aa T.arms.length ac, .int .i64 tk, .string tn, .int .i64 ti, .int .i64 th, .slice ta tl tc], .int .i64 0] V fun e w' => ∃ cu : List Value, e = .returned (.agg cu.toArray) ∧ RepE w' (fun g => g < b) a cu ∧ Below V.heap.size V w') := fun V h => kid0_any T a hts _ _ V h
  have HHa := Lib.hid Ha
  clear hts Ha
  have HLn : Hid (l.length + (1 + ((shE a).length + 1)) ≤ 500000000) := by
    show _ ≤ _
    simp only [List.length_append, List.length_cons, List.length_nil] at hl
    omega
  rw [hk] at HX0 HG0 HW0 HF0 HR0 HK0 ⊢
  clear hal hg hw hr hl hk
  go_enter Tryd.func31, Tryd.ntmps31
  go_upto_region 1 with fail
  generalize (w.alloc (.cells #[.int .i64 11, .int .i64 T.p, .string T.n, .int .i64 T.m, .slice ka T.kids.length kc, .slice aa T.arms.length ac, .int .i64 tk, .string tn, .int .i64 ti, .int .i64 th, .slice ta tl tc] 37)) = w0 at *
  have hbV := HF0.out.size
  obtain ⟨c0, c1, c2, c3, c4, c5, c6, c7, c8, c9, c10⟩ := HX0.out.all11
  have HWs := Lib.hid (write_s b _ ⟨#[123]⟩ w0 HW0.out (by have h1 := HLn.out; show _ + 1 ≤ _; omega))
  go_wp2_with fail
  go_at_call 54
  refine HWs.out.mono ?_
  rintro e w1 ⟨rfl, hwn, hfn⟩
  have HF1 := Lib.hid (HF0.out.trans hfn)
  have HG1 := Lib.hid (HG0.out.frr hb2 hfn)
  have HW1 := Lib.hid hwn
  have HX1 := Lib.hid (HX0.out.fr hfn (by omega) (by decide))
  have HR1 := Lib.hid (HR0.out.fr hfn.1)
  clear c0 c1 c2 c3 c4 c5 c6 c7 c8 c9 c10 hwn hfn HWs HG0 HW0 HF0 HR0 HX0
  obtain ⟨c0, c1, c2, c3, c4, c5, c6, c7, c8, c9, c10⟩ := HX1.out.all11
  go_wp2_with fail
  go_at_call 55
  refine (HK0.out w1 HR1.out).mono ?_
  rintro e w1k ⟨cu, rfl, hrk, hbk⟩
  have HG1k := Lib.hid (HG1.out.lift hbk)
  have HW1k := Lib.hid (HW1.out.lift hbk)
  have HF1k := Lib.hid (HF1.out.below (by have := HF1.out.size; omega) hbk)
  have HR1k := Lib.hid (HR1.out.lift hbk)
  have HX1k := Lib.hid (HX1.out.lift hbk)
  have HC1k := Lib.hid (HHa.out b _ w1k _ HG1k.out hb2 HW1k.out hrk (by have h1 := HLn.out; rw [List.length_append, bl_len]; show _ + 1 + _ ≤ _; omega))
  obtain ⟨kak2, kck2, aak2, ack2, tkk2, tnk2, tik2, thk2, tak2, tlk2, tck2, rfl⟩ := hrk.form
  clear hbk hrk c0 c1 c2 c3 c4 c5 c6 c7 c8 c9 c10 HG1 HW1 HF1 HR1 HX1
  go_wp2_with fail
  go_at_call 31
  refine HC1k.out.mono ?_
  rintro e w2 ⟨rfl, hwn, hfn⟩
  have HF2 := Lib.hid (HF1k.out.trans hfn)
  have HG2 := Lib.hid (HG1k.out.frr hb2 hfn)
  have HW2 := Lib.hid hwn
  have HX2 := Lib.hid (HX1k.out.fr hfn (by omega) (by decide))
  have HR2 := Lib.hid (HR1k.out.fr hfn.1)
  clear hwn hfn HG1k HW1k HF1k HR1k HX1k HC1k
  have HWs := Lib.hid (write_s b _ ⟨#[125]⟩ w2 HW2.out (by have h1 := HLn.out; simp only [List.length_append, bl_len]; show _ + 1 + _ + 1 ≤ _; omega))
  go_wp2_with fail
  go_at_call 54
  refine HWs.out.mono ?_
  rintro e w3 ⟨rfl, hwn, hfn⟩
  have HF3 := Lib.hid (HF2.out.trans hfn)
  have HG3 := Lib.hid (HG2.out.frr hb2 hfn)
  have HW3 := Lib.hid hwn
  have HX3 := Lib.hid (HX2.out.fr hfn (by omega) (by decide))
  have HR3 := Lib.hid (HR2.out.fr hfn.1)
  clear hwn hfn HWs HG2 HW2 HF2 HR2 HX2
  go_wp2
  go_end0
  refine ⟨rfl, ?_, HF3.out⟩
  have e1 : l ++ 123 :: (shE a ++ [125]) = l ++ bl ⟨#[123]⟩ ++ shE a ++ bl ⟨#[125]⟩ := by simp [bl]
  rw [e1]
  exact HW3.out
set_option maxRecDepth 100000 in
set_option maxHeartbeats 3200000 in
theorem we_ann (T : Ex) (hk : T.k = 9) (a : Ex) (hts : T.kids = [a]) (Ha : WrE a) (hsT : src T.t = true) (b : Nat) (l : List UInt8) (w : World) (c : List Value) (hg : Gs w) (hb2 : 2 ≤ b) (hw : Wr b b l w) (hr : RepE w (fun g => g < b) T c) (hl : l.length + (40 :: (shE a ++ 32 :: 58 :: 32 :: (shT T.t ++ [41]))).length ≤ 500000000) :
    Calls Tryd.prog 31 #[.pointer (some ⟨b, 0, none⟩), .agg c.toArray] w (WrEnd b l (40 :: (shE a ++ 32 :: 58 :: 32 :: (shT T.t ++ [41]))) w) := by
  obtain ⟨kv, av, tcx, hcx, -, -, -, hty⟩ := hr.open
  obtain ⟨ka, kc, aa, ac, tk, tn, ti, th, ta, tl, tc, rfl⟩ := hr.form
  have hal : Below w.heap.size w (w.alloc (.cells #[.int .i64 T.k, .int .i64 T.p, .string T.n, .int .i64 T.m, .slice ka T.kids.length kc, .slice aa T.arms.length ac, .int .i64 tk, .string tn, .int .i64 ti, .int .i64 th, .slice ta tl tc] 37)) := (Below.refl _ w).alloc (Nat.le_refl _) _
  have hlt := hw.lt
  have HX0 : Hid (BoxC 37 (w.alloc (.cells #[.int .i64 T.k, .int .i64 T.p, .string T.n, .int .i64 T.m, .slice ka T.kids.length kc, .slice aa T.arms.length ac, .int .i64 tk, .string tn, .int .i64 ti, .int .i64 th, .slice ta tl tc] 37)) w.heap.size [.int .i64 T.k, .int .i64 T.p, .string T.n, .int .i64 T.m, .slice ka T.kids.length kc, .slice aa T.arms.length ac, .int .i64 tk, .string tn, .int .i64 ti, .int .i64 th, .slice ta tl tc]) := BoxC.made _ w _
  have HG0 := Lib.hid (hg.lift hal)
  have HW0 := Lib.hid (hw.lift hal)
  have HF0 : Hid (Fr b b w (w.alloc (.cells #[.int .i64 T.k, .int .i64 T.p, .string T.n, .int .i64 T.m, .slice ka T.kids.length kc, .slice aa T.arms.length ac, .int .i64 tk, .string tn, .int .i64 ti, .int .i64 th, .slice ta tl tc] 37))) := (Fr.refl b b w).alloc (by omega) _
  have HR0 := Lib.hid (hr.lift hal)
  simp only [List.cons.injEq] at hcx
  obtain ⟨-, -, -, -, -, -, rfl⟩ := hcx
  have hsx := src_texts T.t hsT
  have HTy : Hid (WrAt 47 T.t) := type_any T.t hsx.1
  have HTe : Hid (shT T.t = wT T.t) := hsx.2.symm
  have HRt0 := Lib.hid (hty.lift hal)
  rw [HTe.out] at hl ⊢
  have HK0 : Hid (∀ V, RepE V (fun g => g < b) T [.int .i64 T.k, .int .i64 T.p, .string T.n, .int .i64 T.m, .slice ka T.kids.length kc, .slice aa T.arms.length ac, .int .i64 tk, .string tn, .int .i64 ti, .int .i64 th, .slice ta tl tc] → Calls Tryd.prog 55 #[.agg #[.int .i64 T.k, .int .i64 T.p, .string T.n, .int .i64 T.m, .slice ka T.kids.length kc, .slice aa T.arms.length ac, .int .i64 tk, .string tn, .int .i64 ti, .int .i64 th, .slice ta tl tc], .int .i64 0] V fun e w' => ∃ cu : List Value, e = .returned (.agg cu.toArray) ∧ RepE w' (fun g => g < b) a cu ∧ Below V.heap.size V w') := fun V h => kid0_any T a hts _ _ V h
  have HHa := Lib.hid Ha
  clear hts Ha
  have HLn : Hid (l.length + (1 + ((shE a).length + (3 + ((wT T.t).length + 1)))) ≤ 500000000) := by
    show _ ≤ _
    simp only [List.length_append, List.length_cons, List.length_nil] at hl
    omega
  clear hty hsx
  rw [hk] at HX0 HG0 HW0 HF0 HR0 HRt0 HK0 ⊢
  clear hal hg hw hr hl hk
  go_enter Tryd.func31, Tryd.ntmps31
  go_upto_region 1 with fail
  generalize (w.alloc (.cells #[.int .i64 9, .int .i64 T.p, .string T.n, .int .i64 T.m, .slice ka T.kids.length kc, .slice aa T.arms.length ac, .int .i64 tk, .string tn, .int .i64 ti, .int .i64 th, .slice ta tl tc] 37)) = w0 at *
  have hbV := HF0.out.size
  obtain ⟨c0, c1, c2, c3, c4, c5, c6, c7, c8, c9, c10⟩ := HX0.out.all11
  have HWs := Lib.hid (write_s b _ ⟨#[40]⟩ w0 HW0.out (by have h1 := HLn.out; show _ + 1 ≤ _; omega))
  go_wp2_with fail
  go_at_call 54
  refine HWs.out.mono ?_
  rintro e w1 ⟨rfl, hwn, hfn⟩
  have HF1 := Lib.hid (HF0.out.trans hfn)
  have HG1 := Lib.hid (HG0.out.frr hb2 hfn)
  have HW1 := Lib.hid hwn
  have HX1 := Lib.hid (HX0.out.fr hfn (by omega) (by decide))
  have HR1 := Lib.hid (HR0.out.fr hfn.1)
  have HRt1 := Lib.hid (HRt0.out.fr hfn.1)
  clear HRt0 c0 c1 c2 c3 c4 c5 c6 c7 c8 c9 c10 hwn hfn HWs HG0 HW0 HF0 HR0 HX0
  obtain ⟨c0, c1, c2, c3, c4, c5, c6, c7, c8, c9, c10⟩ := HX1.out.all11
  go_wp2_with fail
  go_at_call 55
  refine (HK0.out w1 HR1.out).mono ?_
  rintro e w1k ⟨cu, rfl, hrk, hbk⟩
  have HG1k := Lib.hid (HG1.out.lift hbk)
  have HW1k := Lib.hid (HW1.out.lift hbk)
  have HF1k := Lib.hid (HF1.out.below (by have := HF1.out.size; omega) hbk)
  have HR1k := Lib.hid (HR1.out.lift hbk)
  have HX1k := Lib.hid (HX1.out.lift hbk)
  have HC1k := Lib.hid (HHa.out b _ w1k _ HG1k.out hb2 HW1k.out hrk (by have h1 := HLn.out; rw [List.length_append, bl_len]; show _ + 1 + _ ≤ _; omega))
  obtain ⟨kak2, kck2, aak2, ack2, tkk2, tnk2, tik2, thk2, tak2, tlk2, tck2, rfl⟩ := hrk.form
  have HRtk := Lib.hid (HRt1.out.lift hbk)
  clear HRt1 hbk hrk c0 c1 c2 c3 c4 c5 c6 c7 c8 c9 c10 HG1 HW1 HF1 HR1 HX1
  go_wp2_with fail
  go_at_call 31
  refine HC1k.out.mono ?_
  rintro e w2 ⟨rfl, hwn, hfn⟩
  have HF2 := Lib.hid (HF1k.out.trans hfn)
  have HG2 := Lib.hid (HG1k.out.frr hb2 hfn)
  have HW2 := Lib.hid hwn
  have HX2 := Lib.hid (HX1k.out.fr hfn (by omega) (by decide))
  have HR2 := Lib.hid (HR1k.out.fr hfn.1)
  have HRt2 := Lib.hid (HRtk.out.fr hfn.1)
  clear HRtk hwn hfn HG1k HW1k HF1k HR1k HX1k HC1k
  have HWs := Lib.hid (write_s b _ ⟨#[32, 58, 32]⟩ w2 HW2.out (by have h1 := HLn.out; simp only [List.length_append, bl_len]; show _ + 1 + _ + 3 ≤ _; omega))
  go_wp2_with fail
  go_at_call 54
  refine HWs.out.mono ?_
  rintro e w3 ⟨rfl, hwn, hfn⟩
  have HF3 := Lib.hid (HF2.out.trans hfn)
  have HG3 := Lib.hid (HG2.out.frr hb2 hfn)
  have HW3 := Lib.hid hwn
  have HX3 := Lib.hid (HX2.out.fr hfn (by omega) (by decide))
  have HR3 := Lib.hid (HR2.out.fr hfn.1)
  have HRt3 := Lib.hid (HRt2.out.fr hfn.1)
  clear HRt2 hwn hfn HWs HG2 HW2 HF2 HR2 HX2
  obtain ⟨c0, c1, c2, c3, c4, c5, c6, c7, c8, c9, c10⟩ := HX3.out.all11
  have HCt := Lib.hid (HTy.out b _ w3 _ HG3.out hb2 HW3.out HRt3.out (by have h1 := HLn.out; simp only [List.length_append, bl_len]; show _ + 1 + _ + 3 + _ ≤ _; omega))
  go_wp2_with fail
  go_at_call 47
  refine HCt.out.mono ?_
  rintro e w4 ⟨rfl, hwn, hfn⟩
  have HF4 := Lib.hid (HF3.out.trans hfn)
  have HG4 := Lib.hid (HG3.out.frr hb2 hfn)
  have HW4 := Lib.hid hwn
  have HX4 := Lib.hid (HX3.out.fr hfn (by omega) (by decide))
  have HR4 := Lib.hid (HR3.out.fr hfn.1)
  clear c0 c1 c2 c3 c4 c5 c6 c7 c8 c9 c10 hwn hfn
  have HWs := Lib.hid (write_s b _ ⟨#[41]⟩ w4 HW4.out (by have h1 := HLn.out; simp only [List.length_append, bl_len]; show _ + 1 + _ + 3 + _ + 1 ≤ _; omega))
  go_wp2_with fail
  go_at_call 54
  refine HWs.out.mono ?_
  rintro e w5 ⟨rfl, hwn, hfn⟩
  have HF5 := Lib.hid (HF4.out.trans hfn)
  have HG5 := Lib.hid (HG4.out.frr hb2 hfn)
  have HW5 := Lib.hid hwn
  have HX5 := Lib.hid (HX4.out.fr hfn (by omega) (by decide))
  have HR5 := Lib.hid (HR4.out.fr hfn.1)
  clear hwn hfn HWs HG4 HW4 HF4 HR4 HX4
  go_wp2
  go_end0
  refine ⟨rfl, ?_, HF5.out⟩
  have e1 : l ++ 40 :: (shE a ++ 32 :: 58 :: 32 :: (wT T.t ++ [41])) = l ++ bl ⟨#[40]⟩ ++ shE a ++ bl ⟨#[32, 58, 32]⟩ ++ wT T.t ++ bl ⟨#[41]⟩ := by simp [bl]
  rw [e1]
  exact HW5.out
set_option maxRecDepth 100000 in
set_option maxHeartbeats 3200000 in
theorem we_let (T : Ex) (hk : T.k = 6) (a b2 : Ex) (hts : T.kids = [a, b2]) (Ha : WrE a) (Hb : WrE b2) (b : Nat) (l : List UInt8) (w : World) (c : List Value) (hg : Gs w) (hb2 : 2 ≤ b) (hw : Wr b b l w) (hr : RepE w (fun g => g < b) T c) (hl : l.length + ([108, 101, 116] ++ 32 :: (bl T.n ++ 32 :: 61 :: 32 :: (shE a ++ 32 :: ([105, 110] ++ 32 :: shE b2)))).length ≤ 500000000) :
    Calls Tryd.prog 31 #[.pointer (some ⟨b, 0, none⟩), .agg c.toArray] w (WrEnd b l ([108, 101, 116] ++ 32 :: (bl T.n ++ 32 :: 61 :: 32 :: (shE a ++ 32 :: ([105, 110] ++ 32 :: shE b2)))) w) := by
  obtain ⟨ka, kc, aa, ac, tk, tn, ti, th, ta, tl, tc, rfl⟩ := hr.form
  have hal : Below w.heap.size w (w.alloc (.cells #[.int .i64 T.k, .int .i64 T.p, .string T.n, .int .i64 T.m, .slice ka T.kids.length kc, .slice aa T.arms.length ac, .int .i64 tk, .string tn, .int .i64 ti, .int .i64 th, .slice ta tl tc] 37)) := (Below.refl _ w).alloc (Nat.le_refl _) _
  have hlt := hw.lt
  have HX0 : Hid (BoxC 37 (w.alloc (.cells #[.int .i64 T.k, .int .i64 T.p, .string T.n, .int .i64 T.m, .slice ka T.kids.length kc, .slice aa T.arms.length ac, .int .i64 tk, .string tn, .int .i64 ti, .int .i64 th, .slice ta tl tc] 37)) w.heap.size [.int .i64 T.k, .int .i64 T.p, .string T.n, .int .i64 T.m, .slice ka T.kids.length kc, .slice aa T.arms.length ac, .int .i64 tk, .string tn, .int .i64 ti, .int .i64 th, .slice ta tl tc]) := BoxC.made _ w _
  have HG0 := Lib.hid (hg.lift hal)
  have HW0 := Lib.hid (hw.lift hal)
  have HF0 : Hid (Fr b b w (w.alloc (.cells #[.int .i64 T.k, .int .i64 T.p, .string T.n, .int .i64 T.m, .slice ka T.kids.length kc, .slice aa T.arms.length ac, .int .i64 tk, .string tn, .int .i64 ti, .int .i64 th, .slice ta tl tc] 37))) := (Fr.refl b b w).alloc (by omega) _
  have HR0 := Lib.hid (hr.lift hal)
  have etx : [108, 101, 116] ++ 32 :: (bl T.n ++ 32 :: 61 :: 32 :: (shE a ++ 32 :: ([105, 110] ++ 32 :: shE b2))) = (bl ⟨#[108, 101, 116, 32]⟩ ++ (bl T.n ++ ([32, 61, 32] ++ (shE a ++ ([32, 105, 110, 32] ++ shE b2))))) := by simp [bl]
  have HC := Lib.hid (writeLocal_any T a b2 hts Ha Hb ⟨#[108, 101, 116, 32]⟩ b l _ _ HG0.out hb2 HW0.out HR0.out (by rw [← etx]; exact hl))
  have HTx := Lib.hid etx
  clear etx hts
  rw [hk] at HX0 HG0 HW0 HF0 HR0 HC ⊢
  clear hal hg hw hr hl hk Ha Hb
  go_enter Tryd.func31, Tryd.ntmps31
  go_upto_region 1 with fail
  generalize (w.alloc (.cells #[.int .i64 6, .int .i64 T.p, .string T.n, .int .i64 T.m, .slice ka T.kids.length kc, .slice aa T.arms.length ac, .int .i64 tk, .string tn, .int .i64 ti, .int .i64 th, .slice ta tl tc] 37)) = w0 at *
  have hbV := HF0.out.size
  obtain ⟨c0, c1, c2, c3, c4, c5, c6, c7, c8, c9, c10⟩ := HX0.out.all11
  go_wp2_with fail
  go_at_call 57
  refine HC.out.mono ?_
  rintro e w1 ⟨rfl, hw1, hf1⟩
  go_wp2
  go_end0
  refine ⟨rfl, ?_, HF0.out.trans hf1⟩
  show Wr b b (l ++ ([108, 101, 116] ++ 32 :: (bl T.n ++ 32 :: 61 :: 32 :: (shE a ++ 32 :: ([105, 110] ++ 32 :: shE b2))))) w1
  rw [HTx.out]
  exact hw1
set_option maxRecDepth 100000 in
set_option maxHeartbeats 3200000 in
theorem we_rec (T : Ex) (hk : T.k = 7) (a b2 : Ex) (hts : T.kids = [a, b2]) (Ha : WrE a) (Hb : WrE b2) (b : Nat) (l : List UInt8) (w : World) (c : List Value) (hg : Gs w) (hb2 : 2 ≤ b) (hw : Wr b b l w) (hr : RepE w (fun g => g < b) T c) (hl : l.length + ([108, 101, 116] ++ 32 :: ([114, 101, 99] ++ 32 :: (bl T.n ++ 32 :: 61 :: 32 :: (shE a ++ 32 :: ([105, 110] ++ 32 :: shE b2))))).length ≤ 500000000) :
    Calls Tryd.prog 31 #[.pointer (some ⟨b, 0, none⟩), .agg c.toArray] w (WrEnd b l ([108, 101, 116] ++ 32 :: ([114, 101, 99] ++ 32 :: (bl T.n ++ 32 :: 61 :: 32 :: (shE a ++ 32 :: ([105, 110] ++ 32 :: shE b2))))) w) := by
  obtain ⟨ka, kc, aa, ac, tk, tn, ti, th, ta, tl, tc, rfl⟩ := hr.form
  have hal : Below w.heap.size w (w.alloc (.cells #[.int .i64 T.k, .int .i64 T.p, .string T.n, .int .i64 T.m, .slice ka T.kids.length kc, .slice aa T.arms.length ac, .int .i64 tk, .string tn, .int .i64 ti, .int .i64 th, .slice ta tl tc] 37)) := (Below.refl _ w).alloc (Nat.le_refl _) _
  have hlt := hw.lt
  have HX0 : Hid (BoxC 37 (w.alloc (.cells #[.int .i64 T.k, .int .i64 T.p, .string T.n, .int .i64 T.m, .slice ka T.kids.length kc, .slice aa T.arms.length ac, .int .i64 tk, .string tn, .int .i64 ti, .int .i64 th, .slice ta tl tc] 37)) w.heap.size [.int .i64 T.k, .int .i64 T.p, .string T.n, .int .i64 T.m, .slice ka T.kids.length kc, .slice aa T.arms.length ac, .int .i64 tk, .string tn, .int .i64 ti, .int .i64 th, .slice ta tl tc]) := BoxC.made _ w _
  have HG0 := Lib.hid (hg.lift hal)
  have HW0 := Lib.hid (hw.lift hal)
  have HF0 : Hid (Fr b b w (w.alloc (.cells #[.int .i64 T.k, .int .i64 T.p, .string T.n, .int .i64 T.m, .slice ka T.kids.length kc, .slice aa T.arms.length ac, .int .i64 tk, .string tn, .int .i64 ti, .int .i64 th, .slice ta tl tc] 37))) := (Fr.refl b b w).alloc (by omega) _
  have HR0 := Lib.hid (hr.lift hal)
  have etx : [108, 101, 116] ++ 32 :: ([114, 101, 99] ++ 32 :: (bl T.n ++ 32 :: 61 :: 32 :: (shE a ++ 32 :: ([105, 110] ++ 32 :: shE b2)))) = (bl ⟨#[108, 101, 116, 32, 114, 101, 99, 32]⟩ ++ (bl T.n ++ ([32, 61, 32] ++ (shE a ++ ([32, 105, 110, 32] ++ shE b2))))) := by simp [bl]
  have HC := Lib.hid (writeLocal_any T a b2 hts Ha Hb ⟨#[108, 101, 116, 32, 114, 101, 99, 32]⟩ b l _ _ HG0.out hb2 HW0.out HR0.out (by rw [← etx]; exact hl))
  have HTx := Lib.hid etx
  clear etx hts
  rw [hk] at HX0 HG0 HW0 HF0 HR0 HC ⊢
  clear hal hg hw hr hl hk Ha Hb
  go_enter Tryd.func31, Tryd.ntmps31
  go_upto_region 1 with fail
  generalize (w.alloc (.cells #[.int .i64 7, .int .i64 T.p, .string T.n, .int .i64 T.m, .slice ka T.kids.length kc, .slice aa T.arms.length ac, .int .i64 tk, .string tn, .int .i64 ti, .int .i64 th, .slice ta tl tc] 37)) = w0 at *
  have hbV := HF0.out.size
  obtain ⟨c0, c1, c2, c3, c4, c5, c6, c7, c8, c9, c10⟩ := HX0.out.all11
  go_wp2_with fail
  go_at_call 57
  refine HC.out.mono ?_
  rintro e w1 ⟨rfl, hw1, hf1⟩
  go_wp2
  go_end0
  refine ⟨rfl, ?_, HF0.out.trans hf1⟩
  show Wr b b (l ++ ([108, 101, 116] ++ 32 :: ([114, 101, 99] ++ 32 :: (bl T.n ++ 32 :: 61 :: 32 :: (shE a ++ 32 :: ([105, 110] ++ 32 :: shE b2)))))) w1
  rw [HTx.out]
  exact hw1
set_option maxRecDepth 100000 in
set_option maxHeartbeats 3200000 in
theorem we_case (T : Ex) (hk : T.k = 8) (a : Ex) (hts : T.kids = [a]) (Ha : WrE a) (HA : ∀ A ∈ T.arms, WrE A.2) (b : Nat) (l : List UInt8) (w : World) (c : List Value) (hg : Gs w) (hb2 : 2 ≤ b) (hw : Wr b b l w) (hr : RepE w (fun g => g < b) T c) (hl : l.length + ([99, 97, 115, 101] ++ 32 :: (shE a ++ 32 :: ([111, 102] ++ 32 :: (shA0 T.arms ++ 32 :: [101, 110, 100])))).length ≤ 500000000) :
    Calls Tryd.prog 31 #[.pointer (some ⟨b, 0, none⟩), .agg c.toArray] w (WrEnd b l ([99, 97, 115, 101] ++ 32 :: (shE a ++ 32 :: ([111, 102] ++ 32 :: (shA0 T.arms ++ 32 :: [101, 110, 100])))) w) := by
  obtain ⟨ka, kc, aa, ac, tk, tn, ti, th, ta, tl, tc, rfl⟩ := hr.form
  have hal : Below w.heap.size w (w.alloc (.cells #[.int .i64 T.k, .int .i64 T.p, .string T.n, .int .i64 T.m, .slice ka T.kids.length kc, .slice aa T.arms.length ac, .int .i64 tk, .string tn, .int .i64 ti, .int .i64 th, .slice ta tl tc] 37)) := (Below.refl _ w).alloc (Nat.le_refl _) _
  have hlt := hw.lt
  have HX0 : Hid (BoxC 37 (w.alloc (.cells #[.int .i64 T.k, .int .i64 T.p, .string T.n, .int .i64 T.m, .slice ka T.kids.length kc, .slice aa T.arms.length ac, .int .i64 tk, .string tn, .int .i64 ti, .int .i64 th, .slice ta tl tc] 37)) w.heap.size [.int .i64 T.k, .int .i64 T.p, .string T.n, .int .i64 T.m, .slice ka T.kids.length kc, .slice aa T.arms.length ac, .int .i64 tk, .string tn, .int .i64 ti, .int .i64 th, .slice ta tl tc]) := BoxC.made _ w _
  have HG0 := Lib.hid (hg.lift hal)
  have HW0 := Lib.hid (hw.lift hal)
  have HF0 : Hid (Fr b b w (w.alloc (.cells #[.int .i64 T.k, .int .i64 T.p, .string T.n, .int .i64 T.m, .slice ka T.kids.length kc, .slice aa T.arms.length ac, .int .i64 tk, .string tn, .int .i64 ti, .int .i64 th, .slice ta tl tc] 37))) := (Fr.refl b b w).alloc (by omega) _
  have HR0 := Lib.hid (hr.lift hal)
  have etx : [99, 97, 115, 101] ++ 32 :: (shE a ++ 32 :: ([111, 102] ++ 32 :: (shA0 T.arms ++ 32 :: [101, 110, 100]))) = ([99, 97, 115, 101, 32] ++ (shE a ++ ([32, 111, 102, 32] ++ (shA0 T.arms ++ [32, 101, 110, 100])))) := by simp
  have HC := Lib.hid (writeCase_any T a hts Ha HA b l _ _ HG0.out hb2 HW0.out HR0.out (by rw [← etx]; exact hl))
  have HTx := Lib.hid etx
  clear etx hts
  rw [hk] at HX0 HG0 HW0 HF0 HR0 HC ⊢
  clear hal hg hw hr hl hk Ha HA
  go_enter Tryd.func31, Tryd.ntmps31
  go_upto_region 1 with fail
  generalize (w.alloc (.cells #[.int .i64 8, .int .i64 T.p, .string T.n, .int .i64 T.m, .slice ka T.kids.length kc, .slice aa T.arms.length ac, .int .i64 tk, .string tn, .int .i64 ti, .int .i64 th, .slice ta tl tc] 37)) = w0 at *
  have hbV := HF0.out.size
  obtain ⟨c0, c1, c2, c3, c4, c5, c6, c7, c8, c9, c10⟩ := HX0.out.all11
  go_wp2_with fail
  go_at_call 58
  refine HC.out.mono ?_
  rintro e w1 ⟨rfl, hw1, hf1⟩
  go_wp2
  go_end0
  refine ⟨rfl, ?_, HF0.out.trans hf1⟩
  show Wr b b (l ++ ([99, 97, 115, 101] ++ 32 :: (shE a ++ 32 :: ([111, 102] ++ 32 :: (shA0 T.arms ++ 32 :: [101, 110, 100]))))) w1
  rw [HTx.out]
  exact hw1
end Go.Proofs.YtfkbifbodpelmaaDoor
