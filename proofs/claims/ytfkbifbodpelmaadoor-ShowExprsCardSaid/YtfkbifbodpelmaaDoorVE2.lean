import Derived.Test.YtfkbifbodpelmaaDoorVE1
import Derived.Deep.CutBlock
import Derived.Deep.RegionWith
/- The writers of expressions: a part in parentheses, an application. -/
namespace Go.Proofs.YtfkbifbodpelmaaDoor
open Go.RowKit Go.Maps Mth

set_option maxRecDepth 100000 in
set_option maxHeartbeats 3200000 in
theorem exPart_any (T : Ex) (HT : WrE T) (q : Bool) (b : Nat) (l : List UInt8) (w : World) (c : List Value) (hg : Gs w) (hb2 : 2 ≤ b) (hw : Wr b b l w) (hr : RepE w (fun g => g < b) T c) (hl : l.length + (brk q (shE T)).length ≤ 500000000) :
    Calls Tryd.prog 82 #[.pointer (some ⟨b, 0, none⟩), .agg c.toArray, .func (.func 31) #[] #[], .bool q] w (WrEnd b l (brk q (shE T)) w) := by
  obtain ⟨ka, kc, aa, ac, tk, tn, ti, th, ta, tl, tc, rfl⟩ := hr.form
  have hal : Below w.heap.size w (w.alloc (.cells #[.int .i64 T.k, .int .i64 T.p, .string T.n, .int .i64 T.m, .slice ka T.kids.length kc, .slice aa T.arms.length ac, .int .i64 tk, .string tn, .int .i64 ti, .int .i64 th, .slice ta tl tc] 37)) := (Below.refl _ w).alloc (Nat.le_refl _) _
  have hlt := hw.lt
  have HBx : Hid (BoxC 37 (w.alloc (.cells #[.int .i64 T.k, .int .i64 T.p, .string T.n, .int .i64 T.m, .slice ka T.kids.length kc, .slice aa T.arms.length ac, .int .i64 tk, .string tn, .int .i64 ti, .int .i64 th, .slice ta tl tc] 37)) w.heap.size [.int .i64 T.k, .int .i64 T.p, .string T.n, .int .i64 T.m, .slice ka T.kids.length kc, .slice aa T.arms.length ac, .int .i64 tk, .string tn, .int .i64 ti, .int .i64 th, .slice ta tl tc]) := BoxC.made _ w _
  have HG := Lib.hid (hg.lift hal)
  have HW := Lib.hid (hw.lift hal)
  have HF : Hid (Fr b b w (w.alloc (.cells #[.int .i64 T.k, .int .i64 T.p, .string T.n, .int .i64 T.m, .slice ka T.kids.length kc, .slice aa T.arms.length ac, .int .i64 tk, .string tn, .int .i64 ti, .int .i64 th, .slice ta tl tc] 37))) := (Fr.refl b b w).alloc (by omega) _
  have HR := Lib.hid (hr.lift hal)
  have HHT := Lib.hid HT
  clear hal hg hw hr HT
  go_enter Tryd.func82, Tryd.ntmps82
  go_upto_region 1 with fail
  generalize (w.alloc (.cells #[.int .i64 T.k, .int .i64 T.p, .string T.n, .int .i64 T.m, .slice ka T.kids.length kc, .slice aa T.arms.length ac, .int .i64 tk, .string tn, .int .i64 ti, .int .i64 th, .slice ta tl tc] 37)) = V at *
  obtain ⟨b0, b1, b2, b3, b4, b5, b6, b7, b8, b9, b10⟩ := HBx.out.all11
  have hbV := HF.out.size
  cases q with
  | false =>
    go_wp2_with fail
    go_at_call 31
    refine (HHT.out b l V _ HG.out hb2 HW.out HR.out (by simpa [brk] using hl)).mono ?_
    rintro e w2 ⟨rfl, hw2, hf2⟩
    go_wp2
    go_end0
    exact ⟨rfl, hw2, HF.out.trans hf2⟩
  | true =>
    have hl2 : l.length + (shE T).length + 2 ≤ 500000000 := by simp [brk] at hl; omega
    have HWs := Lib.hid (write_s b l ⟨#[40]⟩ V HW.out (by show _ + 1 ≤ _; omega))
    go_wp2_with fail
    go_at_call 54
    refine HWs.out.mono ?_
    rintro e w2 ⟨rfl, hw2, hf2⟩
    have HBx2 := Lib.hid (HBx.out.fr hf2 (by omega) (by decide))
    have HG2 := Lib.hid (HG.out.frr hb2 hf2)
    have HR2 := Lib.hid (HR.out.fr hf2.1)
    have HF2 := Lib.hid (HF.out.trans hf2)
    have HW2 := Lib.hid hw2
    clear b0 b1 b2 b3 b4 b5 b6 b7 b8 b9 b10 hw2 hf2 HWs
    obtain ⟨b0, b1, b2, b3, b4, b5, b6, b7, b8, b9, b10⟩ := HBx2.out.all11
    go_wp2_with fail
    go_at_call 31
    refine (HHT.out b _ w2 _ HG2.out hb2 HW2.out HR2.out (by simp [bl]; omega)).mono ?_
    rintro e w3 ⟨rfl, hw3, hf3⟩
    have HF3 := Lib.hid (HF2.out.trans hf3)
    have HWs := Lib.hid (write_s b _ ⟨#[41]⟩ w3 hw3 (by simp [bl]; show _ + 1 ≤ _; omega))
    clear b0 b1 b2 b3 b4 b5 b6 b7 b8 b9 b10 hw3 hf3
    go_wp2_with fail
    go_at_call 54
    refine HWs.out.mono ?_
    rintro e w4 ⟨rfl, hw4, hf4⟩
    go_wp2
    go_end0
    exact ⟨rfl, by simpa [bl, brk] using hw4, HF3.out.trans hf4⟩
set_option maxRecDepth 100000 in
set_option maxHeartbeats 6400000 in
theorem writeApp_any (a b2 : Ex) (Ha : WrE a) (Hb : WrE b2) (b : Nat) (l : List UInt8) (w : World) (c d : List Value) (hg : Gs w) (hb2 : 2 ≤ b) (hw : Wr b b l w) (hra : RepE w (fun g => g < b) a c) (hrb : RepE w (fun g => g < b) b2 d)
    (hl : l.length + (brk (!(atomE a || a.k == 5)) (shE a) ++ 32 :: brk (!atomE b2) (shE b2)).length ≤ 500000000) :
    Calls Tryd.prog 56 #[.pointer (some ⟨b, 0, none⟩), .agg c.toArray, .agg d.toArray] w (WrEnd b l (brk (!(atomE a || a.k == 5)) (shE a) ++ 32 :: brk (!atomE b2) (shE b2)) w) := by
  obtain ⟨kau, kcu, aau, acu, tku, tnu, tiu, thu, tau, tlu, tcu, rfl⟩ := hra.form
  obtain ⟨kav, kcv, aav, acv, tkv, tnv, tiv, thv, tav, tlv, tcv, rfl⟩ := hrb.form
  have hlt := hw.lt
  have hal1 : Below w.heap.size w (w.alloc (.cells #[.int .i64 a.k, .int .i64 a.p, .string a.n, .int .i64 a.m, .slice kau a.kids.length kcu, .slice aau a.arms.length acu, .int .i64 tku, .string tnu, .int .i64 tiu, .int .i64 thu, .slice tau tlu tcu] 37)) := (Below.refl _ w).alloc (Nat.le_refl _) _
  have hal : Below w.heap.size w ((w.alloc (.cells #[.int .i64 a.k, .int .i64 a.p, .string a.n, .int .i64 a.m, .slice kau a.kids.length kcu, .slice aau a.arms.length acu, .int .i64 tku, .string tnu, .int .i64 tiu, .int .i64 thu, .slice tau tlu tcu] 37)).alloc (.cells #[.int .i64 b2.k, .int .i64 b2.p, .string b2.n, .int .i64 b2.m, .slice kav b2.kids.length kcv, .slice aav b2.arms.length acv, .int .i64 tkv, .string tnv, .int .i64 tiv, .int .i64 thv, .slice tav tlv tcv] 37)) := hal1.alloc (by simp) _
  have HBx : Hid (BoxC 37 ((w.alloc (.cells #[.int .i64 a.k, .int .i64 a.p, .string a.n, .int .i64 a.m, .slice kau a.kids.length kcu, .slice aau a.arms.length acu, .int .i64 tku, .string tnu, .int .i64 tiu, .int .i64 thu, .slice tau tlu tcu] 37)).alloc (.cells #[.int .i64 b2.k, .int .i64 b2.p, .string b2.n, .int .i64 b2.m, .slice kav b2.kids.length kcv, .slice aav b2.arms.length acv, .int .i64 tkv, .string tnv, .int .i64 tiv, .int .i64 thv, .slice tav tlv tcv] 37)) w.heap.size [.int .i64 a.k, .int .i64 a.p, .string a.n, .int .i64 a.m, .slice kau a.kids.length kcu, .slice aau a.arms.length acu, .int .i64 tku, .string tnu, .int .i64 tiu, .int .i64 thu, .slice tau tlu tcu]) := BoxC.lift (BoxC.made _ w [.int .i64 a.k, .int .i64 a.p, .string a.n, .int .i64 a.m, .slice kau a.kids.length kcu, .slice aau a.arms.length acu, .int .i64 tku, .string tnu, .int .i64 tiu, .int .i64 thu, .slice tau tlu tcu]) ((Below.refl _ _).alloc (Nat.le_refl _) _)
  have HBy : Hid (BoxC 37 ((w.alloc (.cells #[.int .i64 a.k, .int .i64 a.p, .string a.n, .int .i64 a.m, .slice kau a.kids.length kcu, .slice aau a.arms.length acu, .int .i64 tku, .string tnu, .int .i64 tiu, .int .i64 thu, .slice tau tlu tcu] 37)).alloc (.cells #[.int .i64 b2.k, .int .i64 b2.p, .string b2.n, .int .i64 b2.m, .slice kav b2.kids.length kcv, .slice aav b2.arms.length acv, .int .i64 tkv, .string tnv, .int .i64 tiv, .int .i64 thv, .slice tav tlv tcv] 37)) (w.heap.size + 1) [.int .i64 b2.k, .int .i64 b2.p, .string b2.n, .int .i64 b2.m, .slice kav b2.kids.length kcv, .slice aav b2.arms.length acv, .int .i64 tkv, .string tnv, .int .i64 tiv, .int .i64 thv, .slice tav tlv tcv]) := by
    have := BoxC.made 37 (w.alloc (.cells #[.int .i64 a.k, .int .i64 a.p, .string a.n, .int .i64 a.m, .slice kau a.kids.length kcu, .slice aau a.arms.length acu, .int .i64 tku, .string tnu, .int .i64 tiu, .int .i64 thu, .slice tau tlu tcu] 37)) [.int .i64 b2.k, .int .i64 b2.p, .string b2.n, .int .i64 b2.m, .slice kav b2.kids.length kcv, .slice aav b2.arms.length acv, .int .i64 tkv, .string tnv, .int .i64 tiv, .int .i64 thv, .slice tav tlv tcv]
    rw [World.size_alloc] at this
    exact this
  have HG := Lib.hid (hg.lift hal)
  have HW := Lib.hid (hw.lift hal)
  have HF : Hid (Fr b b w ((w.alloc (.cells #[.int .i64 a.k, .int .i64 a.p, .string a.n, .int .i64 a.m, .slice kau a.kids.length kcu, .slice aau a.arms.length acu, .int .i64 tku, .string tnu, .int .i64 tiu, .int .i64 thu, .slice tau tlu tcu] 37)).alloc (.cells #[.int .i64 b2.k, .int .i64 b2.p, .string b2.n, .int .i64 b2.m, .slice kav b2.kids.length kcv, .slice aav b2.arms.length acv, .int .i64 tkv, .string tnv, .int .i64 tiv, .int .i64 thv, .slice tav tlv tcv] 37))) := (Fr.refl b b w).below (by omega) hal
  have HRa := Lib.hid (hra.lift hal)
  have HRb := Lib.hid (hrb.lift hal)
  have HHa := Lib.hid Ha
  have HHb := Lib.hid Hb
  have HLn := Lib.hid hl
  clear hal hal1 hg hw hra hrb Ha Hb hl
  cases hk : (a.k == 5) with
  | false =>
    have hkn : (a.k != 5) = true := by rw [bne, hk]; rfl
    rw [hk] at HLn
    rw [Bool.or_false] at HLn ⊢
    obtain ⟨txa, htxa⟩ : ∃ t, t = brk (!atomE a) (shE a) := ⟨_, rfl⟩
    have HTx : Hid (l ++ (brk (!atomE a) (shE a) ++ 32 :: brk (!atomE b2) (shE b2)) = l ++ txa ++ bl ⟨#[32]⟩ ++ brk (!atomE b2) (shE b2)) := by show _ = _; rw [← htxa]; simp [bl]
    obtain ⟨txb, htxb⟩ : ∃ t, t = brk (!atomE b2) (shE b2) := ⟨_, rfl⟩
    rw [← htxb] at HLn HTx ⊢
    rw [← htxa] at HLn HTx ⊢
    have HTa := Lib.hid htxa
    have HTb := Lib.hid htxb
    clear htxa htxb
    go_enter Tryd.func56, Tryd.ntmps56
    go_upto_region 1 with fail
    generalize ((w.alloc (.cells #[.int .i64 a.k, .int .i64 a.p, .string a.n, .int .i64 a.m, .slice kau a.kids.length kcu, .slice aau a.arms.length acu, .int .i64 tku, .string tnu, .int .i64 tiu, .int .i64 thu, .slice tau tlu tcu] 37)).alloc (.cells #[.int .i64 b2.k, .int .i64 b2.p, .string b2.n, .int .i64 b2.m, .slice kav b2.kids.length kcv, .slice aav b2.arms.length acv, .int .i64 tkv, .string tnv, .int .i64 tiv, .int .i64 thv, .slice tav tlv tcv] 37)) = V at *
    have hbV := HF.out.size
    have hd : Below V.heap.size V V.drew := (Below.refl _ V).drew
    have HD := Lib.hid hd
    have HFW : Hid (∀ W, Below V.heap.size V W → Fr b b w W) := fun W hW => HF.out.below (by omega) hW
    obtain ⟨a0, a1, a2, a3, a4, a5, a6, a7, a8, a9, a10⟩ := (HBx.out.lift hd).all11
    clear hd
    have HAt : Hid (∀ W, Below V.heap.size V W → Calls Tryd.prog 83 #[.agg #[.int .i64 a.k, .int .i64 a.p, .string a.n, .int .i64 a.m, .slice kau a.kids.length kcu, .slice aau a.arms.length acu, .int .i64 tku, .string tnu, .int .i64 tiu, .int .i64 thu, .slice tau tlu tcu]] W fun e w' => e = .returned (.bool (atomE a)) ∧ Below W.heap.size W w') := fun W hW => isAtom_any a _ _ W (HRa.out.lift hW)
    have HPa : Hid (∀ W, Below V.heap.size V W → Calls Tryd.prog 82 #[.pointer (some ⟨b, 0, none⟩), .agg #[.int .i64 a.k, .int .i64 a.p, .string a.n, .int .i64 a.m, .slice kau a.kids.length kcu, .slice aau a.arms.length acu, .int .i64 tku, .string tnu, .int .i64 tiu, .int .i64 thu, .slice tau tlu tcu], .func (.func 31) #[] #[], .bool (!atomE a)] W (WrEnd b l txa W)) := fun W hW => by rw [HTa.out]; exact exPart_any a HHa.out _ b l W _ (HG.out.lift hW) hb2 (HW.out.lift hW) (HRa.out.lift hW) (by have h1 := HLn.out; rw [HTa.out] at h1; simp only [List.length_append, List.length_cons] at h1; omega)
    have HXl := Lib.hid (fun W (hW : Below V.heap.size V W) => (HBx.out.lift hW).all11)
    generalize atomE a = xa at *
    generalize a.k = ak at *
    generalize a.p = ap at *
    generalize a.n = an at *
    generalize a.m = am at *
    generalize a.kids.length = akl at *
    generalize a.arms.length = aal at *
    clear hk
    go_wp2_with fail
    go_region_with (first
      | (go_at_call 83; refine (HAt.out _ HD.out).mono ?_; rintro e w1 ⟨rfl, hb1⟩; have HB1 := Lib.hid (HD.out.trans (hb1.mono HD.out.size)); obtain ⟨c0, c1, c2, c3, c4, c5, c6, c7, c8, c9, c10⟩ := HXl.out _ HB1.out; clear hb1)
      | (go_at_call 82; refine (HPa.out _ HB1.out).mono ?_; rintro e w2 ⟨rfl, hw2, hf2⟩; have HF2 := Lib.hid ((HFW.out _ HB1.out).trans hf2); have HY2 := Lib.hid ((HBy.out.lift HB1.out).fr hf2 (by omega) (by decide)); have HR2 := Lib.hid ((HRb.out.lift HB1.out).fr hf2.1); have HG2 := Lib.hid ((HG.out.lift HB1.out).frr hb2 hf2); have HW2 := Lib.hid hw2; clear hw2 hf2))
    all_goals
     clear HAt HPa HXl a0 a1 a2 a3 a4 a5 a6 a7 a8 a9 a10 c0 c1 c2 c3 c4 c5 c6 c7 c8 c9 c10 HBx HBy HRa HRb HG HW HD HB1
     have HWs := Lib.hid (write_s b _ ⟨#[32]⟩ w2 HW2.out (by have h1 := HLn.out; simp only [List.length_append, List.length_cons] at h1 ⊢; show _ + 1 ≤ _; omega))
     go_wp2_with fail
     go_at_call 54
     refine HWs.out.mono ?_
     rintro e w3 ⟨rfl, hw3, hf3⟩
     have HF3 := Lib.hid (HF2.out.trans hf3)
     have HY3 := Lib.hid (HY2.out.fr hf3 (by omega) (by decide))
     have HR3 := Lib.hid (HR2.out.fr hf3.1)
     have HG3 := Lib.hid (HG2.out.frr hb2 hf3)
     have HW3 := Lib.hid hw3
     clear hw3 hf3 HWs HF2 HY2 HR2 HG2 HW2
     have hd3 : Below w3.heap.size w3 w3.drew := (Below.refl _ w3).drew
     have HD3 := Lib.hid hd3
     obtain ⟨g0, g1, g2, g3, g4, g5, g6, g7, g8, g9, g10⟩ := (HY3.out.lift hd3).all11
     have HAt2 : Hid (∀ W, Below w3.heap.size w3 W → Calls Tryd.prog 83 #[.agg #[.int .i64 b2.k, .int .i64 b2.p, .string b2.n, .int .i64 b2.m, .slice kav b2.kids.length kcv, .slice aav b2.arms.length acv, .int .i64 tkv, .string tnv, .int .i64 tiv, .int .i64 thv, .slice tav tlv tcv]] W fun e w' => e = .returned (.bool (atomE b2)) ∧ Below W.heap.size W w') := fun W hW => isAtom_any b2 _ _ W (HR3.out.lift hW)
     have HPb : Hid (∀ W, Below w3.heap.size w3 W → Calls Tryd.prog 82 #[.pointer (some ⟨b, 0, none⟩), .agg #[.int .i64 b2.k, .int .i64 b2.p, .string b2.n, .int .i64 b2.m, .slice kav b2.kids.length kcv, .slice aav b2.arms.length acv, .int .i64 tkv, .string tnv, .int .i64 tiv, .int .i64 thv, .slice tav tlv tcv], .func (.func 31) #[] #[], .bool (!atomE b2)] W (WrEnd b (l ++ txa ++ bl ⟨#[32]⟩) txb W)) := fun W hW => by rw [HTb.out]; exact exPart_any b2 HHb.out _ b _ W _ (HG3.out.lift hW) hb2 (HW3.out.lift hW) (HR3.out.lift hW) (by have h1 := HLn.out; rw [HTb.out] at h1; simp only [List.length_append, List.length_cons] at h1 ⊢; show _ + 1 + _ ≤ _; omega)
     have HFW3 : Hid (∀ W, Below w3.heap.size w3 W → Fr b b w W) := fun W hW => HF3.out.below (by have := HF3.out.size; omega) hW
     have HY3l := Lib.hid (fun W (hW : Below w3.heap.size w3 W) => (HY3.out.lift hW).all11)
     clear hd3
     generalize atomE b2 = xb at *
     generalize b2.k = bk at *
     generalize b2.p = bp at *
     generalize b2.n = bn at *
     generalize b2.m = bm at *
     generalize b2.kids.length = bkl at *
     generalize b2.arms.length = bal at *
     go_wp2_with fail
     go_region_with (first
       | (go_at_call 83; refine (HAt2.out _ HD3.out).mono ?_; rintro e w4 ⟨rfl, hb4⟩; have HB4 := Lib.hid (HD3.out.trans (hb4.mono HD3.out.size)); obtain ⟨e0, e1, e2, e3, e4, e5, e6, e7, e8, e9, e10⟩ := HY3l.out _ HB4.out; clear hb4)
       | (go_at_call 82; refine (HPb.out _ HB4.out).mono ?_; rintro e w5 ⟨rfl, hw5, hf5⟩))
     all_goals
       go_wp2
       go_end0
       exact ⟨rfl, by rw [HTx.out]; exact hw5, (HFW3.out _ HB4.out).trans hf5⟩
  | true =>
    have hkn : (a.k != 5) = false := by rw [bne, hk]; rfl
    rw [hk] at HLn
    rw [Bool.or_true, Bool.not_true] at HLn ⊢
    rw [show brk false (shE a) = shE a from rfl] at HLn ⊢
    obtain ⟨txa, htxa⟩ : ∃ t, t = shE a := ⟨_, rfl⟩
    have HTx : Hid (l ++ (shE a ++ 32 :: brk (!atomE b2) (shE b2)) = l ++ txa ++ bl ⟨#[32]⟩ ++ brk (!atomE b2) (shE b2)) := by show _ = _; rw [← htxa]; simp [bl]
    obtain ⟨txb, htxb⟩ : ∃ t, t = brk (!atomE b2) (shE b2) := ⟨_, rfl⟩
    rw [← htxb] at HLn HTx ⊢
    rw [← htxa] at HLn HTx ⊢
    have HTa := Lib.hid htxa
    have HTb := Lib.hid htxb
    clear htxa htxb
    go_enter Tryd.func56, Tryd.ntmps56
    go_upto_region 1 with fail
    generalize ((w.alloc (.cells #[.int .i64 a.k, .int .i64 a.p, .string a.n, .int .i64 a.m, .slice kau a.kids.length kcu, .slice aau a.arms.length acu, .int .i64 tku, .string tnu, .int .i64 tiu, .int .i64 thu, .slice tau tlu tcu] 37)).alloc (.cells #[.int .i64 b2.k, .int .i64 b2.p, .string b2.n, .int .i64 b2.m, .slice kav b2.kids.length kcv, .slice aav b2.arms.length acv, .int .i64 tkv, .string tnv, .int .i64 tiv, .int .i64 thv, .slice tav tlv tcv] 37)) = V at *
    have hbV := HF.out.size
    have hd : Below V.heap.size V V.drew := (Below.refl _ V).drew
    have HD := Lib.hid hd
    have HFW : Hid (∀ W, Below V.heap.size V W → Fr b b w W) := fun W hW => HF.out.below (by omega) hW
    obtain ⟨a0, a1, a2, a3, a4, a5, a6, a7, a8, a9, a10⟩ := (HBx.out.lift hd).all11
    clear hd
    have HPa : Hid (∀ W, Below V.heap.size V W → Calls Tryd.prog 82 #[.pointer (some ⟨b, 0, none⟩), .agg #[.int .i64 a.k, .int .i64 a.p, .string a.n, .int .i64 a.m, .slice kau a.kids.length kcu, .slice aau a.arms.length acu, .int .i64 tku, .string tnu, .int .i64 tiu, .int .i64 thu, .slice tau tlu tcu], .func (.func 31) #[] #[], .bool false] W (WrEnd b l txa W)) := fun W hW => by rw [HTa.out]; exact exPart_any a HHa.out false b l W _ (HG.out.lift hW) hb2 (HW.out.lift hW) (HRa.out.lift hW) (by have h1 := HLn.out; rw [HTa.out] at h1; simp only [List.length_append, List.length_cons] at h1; show _ + (shE a).length ≤ _; omega)
    generalize a.k = ak at *
    generalize a.p = ap at *
    generalize a.n = an at *
    generalize a.m = am at *
    generalize a.kids.length = akl at *
    generalize a.arms.length = aal at *
    clear hk
    go_wp2_with fail
    go_region_with
      (go_at_call 82; refine (HPa.out _ HD.out).mono ?_; rintro e w2 ⟨rfl, hw2, hf2⟩; have HF2 := Lib.hid ((HFW.out _ HD.out).trans hf2); have HY2 := Lib.hid ((HBy.out.lift HD.out).fr hf2 (by omega) (by decide)); have HR2 := Lib.hid ((HRb.out.lift HD.out).fr hf2.1); have HG2 := Lib.hid ((HG.out.lift HD.out).frr hb2 hf2); have HW2 := Lib.hid hw2; clear hw2 hf2)
    all_goals
     clear HPa a0 a1 a2 a3 a4 a5 a6 a7 a8 a9 a10 HBx HBy HRa HRb HG HW HD
     have HWs := Lib.hid (write_s b _ ⟨#[32]⟩ w2 HW2.out (by have h1 := HLn.out; simp only [List.length_append, List.length_cons] at h1 ⊢; show _ + 1 ≤ _; omega))
     go_wp2_with fail
     go_at_call 54
     refine HWs.out.mono ?_
     rintro e w3 ⟨rfl, hw3, hf3⟩
     have HF3 := Lib.hid (HF2.out.trans hf3)
     have HY3 := Lib.hid (HY2.out.fr hf3 (by omega) (by decide))
     have HR3 := Lib.hid (HR2.out.fr hf3.1)
     have HG3 := Lib.hid (HG2.out.frr hb2 hf3)
     have HW3 := Lib.hid hw3
     clear hw3 hf3 HWs HF2 HY2 HR2 HG2 HW2
     have hd3 : Below w3.heap.size w3 w3.drew := (Below.refl _ w3).drew
     have HD3 := Lib.hid hd3
     obtain ⟨g0, g1, g2, g3, g4, g5, g6, g7, g8, g9, g10⟩ := (HY3.out.lift hd3).all11
     have HAt2 : Hid (∀ W, Below w3.heap.size w3 W → Calls Tryd.prog 83 #[.agg #[.int .i64 b2.k, .int .i64 b2.p, .string b2.n, .int .i64 b2.m, .slice kav b2.kids.length kcv, .slice aav b2.arms.length acv, .int .i64 tkv, .string tnv, .int .i64 tiv, .int .i64 thv, .slice tav tlv tcv]] W fun e w' => e = .returned (.bool (atomE b2)) ∧ Below W.heap.size W w') := fun W hW => isAtom_any b2 _ _ W (HR3.out.lift hW)
     have HPb : Hid (∀ W, Below w3.heap.size w3 W → Calls Tryd.prog 82 #[.pointer (some ⟨b, 0, none⟩), .agg #[.int .i64 b2.k, .int .i64 b2.p, .string b2.n, .int .i64 b2.m, .slice kav b2.kids.length kcv, .slice aav b2.arms.length acv, .int .i64 tkv, .string tnv, .int .i64 tiv, .int .i64 thv, .slice tav tlv tcv], .func (.func 31) #[] #[], .bool (!atomE b2)] W (WrEnd b (l ++ txa ++ bl ⟨#[32]⟩) txb W)) := fun W hW => by rw [HTb.out]; exact exPart_any b2 HHb.out _ b _ W _ (HG3.out.lift hW) hb2 (HW3.out.lift hW) (HR3.out.lift hW) (by have h1 := HLn.out; rw [HTb.out] at h1; simp only [List.length_append, List.length_cons] at h1 ⊢; show _ + 1 + _ ≤ _; omega)
     have HFW3 : Hid (∀ W, Below w3.heap.size w3 W → Fr b b w W) := fun W hW => HF3.out.below (by have := HF3.out.size; omega) hW
     have HY3l := Lib.hid (fun W (hW : Below w3.heap.size w3 W) => (HY3.out.lift hW).all11)
     clear hd3
     generalize atomE b2 = xb at *
     generalize b2.k = bk at *
     generalize b2.p = bp at *
     generalize b2.n = bn at *
     generalize b2.m = bm at *
     generalize b2.kids.length = bkl at *
     generalize b2.arms.length = bal at *
     go_wp2_with fail
     go_region_with (first
       | (go_at_call 83; refine (HAt2.out _ HD3.out).mono ?_; rintro e w4 ⟨rfl, hb4⟩; have HB4 := Lib.hid (HD3.out.trans (hb4.mono HD3.out.size)); obtain ⟨e0, e1, e2, e3, e4, e5, e6, e7, e8, e9, e10⟩ := HY3l.out _ HB4.out; clear hb4)
       | (go_at_call 82; refine (HPb.out _ HB4.out).mono ?_; rintro e w5 ⟨rfl, hw5, hf5⟩))
     all_goals
       go_wp2
       go_end0
       exact ⟨rfl, by rw [HTx.out]; exact hw5, (HFW3.out _ HB4.out).trans hf5⟩
end Go.Proofs.YtfkbifbodpelmaaDoor
