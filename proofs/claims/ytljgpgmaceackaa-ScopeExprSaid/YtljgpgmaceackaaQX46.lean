import Derived.Test.YtljgpgmaceackaaQX43
import Derived.Test.YtljgpgmaceackaaQX09
import Derived.Test.YtljgpgmaceackaaQX11
import Derived.Test.YtljgpgmaceackaaQX45
/- Law 10's own sanity check is true. -/
namespace Go.Proofs.Ytljgpgmaceackaa
open Go.RowKit Go.Maps Mth S3

theorem bl_inj {s t : ByteArray} (h : bl s = bl t) : s = t := by
  cases s; cases t
  simp only [bl] at h
  rw [Array.toList_inj.1 h]
theorem map_bl_inj : ∀ {l m : List ByteArray}, l.map bl = m.map bl → l = m
  | [], [], _ => rfl
  | [], _ :: _, h => by simp at h
  | _ :: _, [], h => by simp at h
  | x :: l, y :: m, h => by
    simp only [List.map_cons, List.cons.injEq] at h
    rw [bl_inj h.1, map_bl_inj h.2]
theorem tx1_fit : (readT tx1).map (fun T => fitV 10 100 T) = some true := by decide +kernel
theorem tx2_arms : (readT tx2).map (fun T => (armsI T.arms (dsOf 2) 0, decide (T.arms.length ≤ 1000))) = some (some 0, true) := by decide +kernel
theorem tx3_var : (readT tx3).map (fun T => T.k) = some 1 := by decide +kernel
theorem two_lit (W : World) (s t : ByteArray) : SlG StrE (W.alloc (.cells #[.string s, .string t] 9)) (fun _ => True) [s, t] (.slice (some ⟨W.heap.size, 0, none⟩) 2 2) := by
  refine ⟨some ⟨W.heap.size, 0, none⟩, 2, rfl, ⟨Nat.le_refl _, by simp [maxLen]⟩, fun j x hx => ?_⟩
  match j, hx with
  | 0, hx =>
    simp at hx; subst hx
    refine ⟨_, [.string s], rfl, trivial, fun m u hu => ?_, rfl⟩
    match m, hu with
    | 0, hu => simp at hu; subst hu; simp [Addr.add]
    | m + 1, hu => simp at hu
  | 1, hx =>
    simp at hx; subst hx
    refine ⟨_, [.string t], rfl, trivial, fun m u hu => ?_, rfl⟩
    match m, hu with
    | 0, hu => simp at hu; subst hu; simp [Addr.add, show StrE.k = 1 from rfl]
    | m + 1, hu => simp at hu
  | j + 2, hx => simp at hx
theorem ints_lit (W : World) (a b : Int) : Ints (W.alloc (.cells #[.int .i64 a, .int .i64 b] 3)) (.slice (some ⟨W.heap.size, 0, none⟩) 2 2) [a, b] := by
  refine ⟨some ⟨W.heap.size, 0, none⟩, 2, rfl, Nat.le_refl _, by simp [maxLen], fun j x hx => ?_⟩
  match j, hx with
  | 0, hx => simp at hx; subst hx; exact ⟨_, rfl, by simp [Addr.add]⟩
  | 1, hx => simp at hx; subst hx; exact ⟨_, rfl, by simp [Addr.add]⟩
  | j + 2, hx => simp at hx
theorem fld5 (a b c d e f g h i j k : Value) (w : World) : (Instr.field 36 (.agg #[a, b, c, d, e, f, g, h, i, j, k]) 5).run Try.prog w = .ok f w := by kernel_rfl
theorem Try.fltErr (a b : Int) (w : World) : (Instr.field 45 (.agg #[.int .i64 a, .int .i64 b]) 0).run Try.prog w = .ok (.int .i64 a) w := by kernel_rfl
set_option maxRecDepth 100000 in
set_option maxHeartbeats 12800000 in
theorem first10_any (w : World) : Calls Try.prog 4 #[] w fun e w' => e = .returned (.bool true) ∧ Below w.heap.size w w' ∧ w.heap.size < w'.heap.size := by
  obtain ⟨T1, hT1, ht1⟩ := etext_of tx1_ok
  obtain ⟨T2, hT2, ht2⟩ := etext_of tx2_ok
  obtain ⟨T3, hT3, ht3⟩ := etext_of tx3_ok
  have hv := tx1_vis
  rw [hT1] at hv
  simp only [Option.map_some, Option.some.injEq, Prod.mk.injEq] at hv
  have v1 : visN T1 [0, 0] = [⟨#[120]⟩] := map_bl_inj hv.1
  have v2 : visN T1 [0, 1] = [⟨#[120]⟩, ⟨#[121]⟩] := map_bl_inj hv.2
  have hfit := tx1_fit
  rw [hT1] at hfit
  simp only [Option.map_some, Option.some.injEq] at hfit
  have ha := tx2_arms
  rw [hT2] at ha
  simp only [Option.map_some, Option.some.injEq, Prod.mk.injEq, decide_eq_true_eq] at ha
  have hk3 := tx3_var
  rw [hT3] at hk3
  simp only [Option.map_some, Option.some.injEq] at hk3
  have HX1 := Lib.hid (fun V => expr10_any tx1 T1 ht1 V)
  have HX2 := Lib.hid (fun V => expr10_any tx2 T2 ht2 V)
  have HX3 := Lib.hid (fun V => expr10_any tx3 T3 ht3 V)
  unfold tx1 at HX1
  unfold tx2 at HX2
  unfold tx3 at HX3
  have HD := Lib.hid (fun V => datasB_any 2 V)
  have HVi : Hid (∀ (S : Nat → Prop) (c : List Value) (V : World) (zs : List Int) (pv : Value), RepE V S T1 c → Ints V pv zs → Calls Try.prog 16 #[.agg c.toArray, pv] V fun e w' => ∃ u, e = .returned u ∧ SlG StrE w' (fun _ => True) (visN T1 zs) u ∧ Below V.heap.size V w') := fun S c V zs pv h1 h2 => pkVis_any inner_any 10 100 (by decide) T1 hfit zs S c pv V h1 h2
  have HAr : Hid (∀ (S S' : Nat → Prop) (V : World) (dv av : Value), SlG DatE V S (dsOf 2) dv → SlG AmE V S' T2.arms av → Calls Try.prog 14 #[dv, av] V fun e w' => e = .returned (.tuple #[.int .i64 0, .bool true]) ∧ Below V.heap.size V w') := fun S S' V dv av h1 h2 => by
    have := arms_any (dsOf 2) T2.arms (by have := ha.2; omega) dv av S S' V h1 h2
    rw [ha.1] at this
    exact this
  have HVa := Lib.hid (fun dv S c V => scopeVar_any T3 hk3 dv S c V)
  have HMk : Hid (∀ V : World, BoxC 36 (V.alloc (.cells #[.int .i64 0, .int .i64 0, .string ⟨#[]⟩, .int .i64 0, .slice none 0 0, .slice none 0 0, .int .i64 0, .string ⟨#[]⟩, .int .i64 0, .int .i64 0, .slice none 0 0] 36)) V.heap.size zE) := fun V => BoxC.made _ V zE
  clear hT1 hT2 hT3 ht1 ht2 ht3 hv hfit ha hk3
  go_enter Try.func4, Try.ntmps4
  go_upto_region 1 with fail
  go_upto_region 2 with (first
    | (go_at_call 13; refine (HX1.out _).mono ?_; rintro e w1 ⟨c, rfl, hr1, hb1⟩; obtain ⟨ka, kc, aa, ac, tk, tn, ti, th, ta, tl, tc, rfl⟩ := hr1.form; have HR1 := Lib.hid hr1; have HB1 := Lib.hid hb1; clear hr1 hb1)
    | (refine wpList_storeC rfl _ _ rfl _ _ _ (HMk.out _) rfl rfl sizeEx rfl HR1.out.len.2 ?_; intro w2 hB2 hg2 hs2))
  have hw12 : Below w1.heap.size w1 w2 := Below.grown ((Below.refl _ w1).alloc (Nat.le_refl _) _) hg2 ((Below.refl _ w1).alloc (Nat.le_refl _) _).size (fun k hk => by have h1 := Option.some.inj hk; omega)
  have HR2 := Lib.hid (HR1.out.lift hw12)
  have HB2 := Lib.hid (HB1.out.trans (hw12.mono HB1.out.size))
  have hlt : w.heap.size < w2.heap.size := by
    have h1 := HB1.out.size
    have h2 := hB2.lt
    omega
  have HLt := Lib.hid hlt
  have HBx := Lib.hid hB2
  clear hg2 hs2 hB2 hw12 HR1 HB1 HX1 HMk hlt
  generalize w1.heap.size = B at *
  generalize T1.kids.length = kn at *
  generalize T1.arms.length = an at *
  go_upto_region 3 with (go_at_call 10; refine (HD.out _).mono ?_; rintro e w3 ⟨dv, rfl, hd3, hb3⟩)
  have HD3 := Lib.hid hd3.slG
  have HB3 := Lib.hid hb3
  clear hd3 hb3 HD
  go_upto_region 4 with (first
    | (go_at_call 13; refine (HX2.out _).mono ?_; rintro e w4 ⟨c2, rfl, hr4, hb4⟩; obtain ⟨ka2, kc2, aa2, ac2, tk2, tn2, ti2, th2, ta2, tl2, tc2, rfl⟩ := hr4.form; have HA4 := Lib.hid hr4.armsOf; have HD4 := Lib.hid (HD3.out.lift' hb4); have HB4 := Lib.hid (HB3.out.trans (hb4.mono HB3.out.size)); clear hr4 hb4; have hf5 := fld5 (.int .i64 T2.k) (.int .i64 T2.p) (.string T2.n) (.int .i64 T2.m) (.slice ka2 T2.kids.length kc2) (.slice aa2 T2.arms.length ac2) (.int .i64 tk2) (.string tn2) (.int .i64 ti2) (.int .i64 th2) (.slice ta2 tl2 tc2))
    | (go_at_call 14; refine (HAr.out _ _ _ _ _ HD4.out HA4.out).mono ?_; rintro e w5 ⟨rfl, hb5⟩; have HD5 := Lib.hid (HD4.out.lift' hb5); have HB5 := Lib.hid (HB4.out.trans (hb5.mono HB4.out.size)); clear hb5 HA4))
  have hB5x : ∀ X, Below w2.heap.size w2 (w5.alloc X) := fun X => HB5.out.alloc HB5.out.size X
  have HB5x := Lib.hid hB5x
  have hfe := Try.fltErr 9 T3.p
  have tok1 : True := trivial
  have tok2 : True := trivial
  have tok3 : True := trivial
  have tok4 : True := trivial
  obtain ⟨b0, b1, b2, b3, b4, b5, b6, b7, b8, b9, b10⟩ := bx11 (HBx.out.lift HB5.out)
  clear hB5x hf5 HD4 HB4 HD3 HX2 HAr HD5
  go_wp2_with (first
    | (go_at_call 16; have _t := tok1; (with_reducible refine (HVi.out _ _ _ [0, 0] _ (HR2.out.lift (HB5x.out _)) (ints_lit _ 0 0)).mono ?_); rintro e w6 ⟨u6, rfl, hs6, hb6⟩; rw [v1] at hs6; obtain ⟨a6, c6, rfl, -⟩ := slice_form hs6; have HS6 := Lib.hid hs6; have HB6 := Lib.hid (keepCall (W := w2) (HB5x.out _) hb6); clear tok1 hs6 hb6 b0 b1 b2 b3 b4 b5 b6 b7 b8 b9 b10)
    | (go_at_call 15; have _t := tok2; (refine (same_any _ _ _ _ _ _ (HS6.out.lift' ((Below.refl _ w6).alloc (Nat.le_refl _) _)) (one_str w6 _)).mono ?_); rintro e w7 ⟨rfl, hb7⟩; have HB7 := Lib.hid (keepCall (W := w2) (HB6.out.alloc HB6.out.size _) hb7); obtain ⟨b0, b1, b2, b3, b4, b5, b6, b7, b8, b9, b10⟩ := bx11 (HBx.out.lift HB7.out); clear tok2 hb7)
    | (go_at_call 16; have _t := tok3; (with_reducible refine (HVi.out _ _ _ [0, 1] _ (HR2.out.lift (HB7.out.alloc HB7.out.size _)) (ints_lit _ 0 1)).mono ?_); rintro e w8 ⟨u8, rfl, hs8, hb8⟩; rw [v2] at hs8; obtain ⟨a8, c8, rfl, -⟩ := slice_form hs8; have HS8 := Lib.hid hs8; have HB8 := Lib.hid (keepCall (W := w2) (HB7.out.alloc HB7.out.size _) hb8); clear tok3 hs8 hb8 b0 b1 b2 b3 b4 b5 b6 b7 b8 b9 b10)
    | (go_at_call 15; have _t := tok4; (refine (same_any _ _ _ _ _ _ (HS8.out.lift' ((Below.refl _ w8).alloc (Nat.le_refl _) _)) (two_lit w8 _ _)).mono ?_); rintro e w9 ⟨rfl, hb9⟩; have HB9 := Lib.hid (keepCall (W := w2) (HB8.out.alloc HB8.out.size _) hb9); clear tok4 hb9)
    | (go_at_call 13; refine (HX3.out _).mono ?_; rintro e w10 ⟨c3, rfl, hr10, hb10⟩; obtain ⟨ka3, kc3, aa3, ac3, tk3, tn3, ti3, th3, ta3, tl3, tc3, rfl⟩ := hr10.form; have HR10 := Lib.hid hr10; have HB10 := Lib.hid (keepCall (W := w2) HB9.out hb10); clear hr10 hb10)
    | (go_at_call 11; refine (HVa.out _ _ _ _ HR10.out).mono ?_; rintro e w11 ⟨rfl, hb11⟩; have HB11 := Lib.hid (keepCall (W := w2) HB10.out hb11); clear hb11))
  go_ret
  exact ⟨rfl, HB2.out.trans (HB11.out.mono HB2.out.size), Nat.lt_of_lt_of_le HLt.out HB11.out.size⟩
end Go.Proofs.Ytljgpgmaceackaa
