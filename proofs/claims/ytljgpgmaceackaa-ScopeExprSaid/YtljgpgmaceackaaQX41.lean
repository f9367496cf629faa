import Derived.Test.YtljgpgmaceackaaQX40
import Derived.Test.YtljgpgmaceackaaQX33
import Derived.Test.YtljgpgmaceackaaQX14
import Derived.Test.YtljgpgmaceackaaQX27
import Derived.Test.YtljgpgmaceackaaQX23
/- The reference's ParseExpr at a text that is read as an expression. -/
namespace Go.Proofs.Ytljgpgmaceackaa
open Go.RowKit Go.Maps Mth S3

theorem tokAt_own {w : World} {base : Nat} {lv : Value} {ts : List Tok} (h : w.ownsRow base 113 3 lv ts.length (row3 ts)) (hne : ts ≠ []) : TokAt w (fun g => base ≤ g) lv ts := by
  obtain ⟨g, cap, e, hlt, hc⟩ := S3.tok_cells h hne
  rcases h.2 with ⟨e', -⟩ | ⟨g', cap', cur, e', hg, -, hn, hm, -⟩
  · rw [e] at e'; cases e'
  · rw [e] at e'
    simp only [Value.slice.injEq, Option.some.injEq, Addr.mk.injEq] at e'
    obtain ⟨⟨rfl, -⟩, -, rfl⟩ := e'
    refine ⟨_, cap, e, ⟨hn, hm⟩, fun j t ht => ⟨g, rfl, hg, ?_⟩⟩
    exact hc j t ht
/-- A text that is read as an expression, and what ParseExpr asks besides. -/
structure EText (s : ByteArray) (T : Ex) : Prop where
  size : s.size ≤ 4000
  err : ferr (bl s) = 0
  pos : fpos (bl s) = 0
  ne : ftoks (bl s) ≠ []
  read : ∃ F p, F ≤ 900000 ∧ zRead F (ftoks (bl s)) ⟨startAt (ftoks (bl s)) 0, false, 0⟩ = some (T, ⟨(ftoks (bl s)).length, false, p⟩)
  fit : fitE 41 T = true
set_option maxRecDepth 100000 in
set_option maxHeartbeats 6400000 in
theorem parseExpr_any (s : ByteArray) (T : Ex) (h : EText s T) (w : World) :
    Calls Try.prog 31 #[.string s] w fun e w' => ∃ c, e = .returned (.tuple #[.agg (List.toArray c), .agg #[.int .i64 0, .int .i64 0]]) ∧ RepE w' (fun g => w.heap.size + 2 ≤ g) T c ∧ Below w.heap.size w w' := by
  obtain ⟨hsz, herr, hpos, hne, ⟨F, p, hF, hread⟩, hfit⟩ := h
  obtain ⟨hok, hval⟩ := ftoks_ok (bl s)
  have HSc : Hid (∀ V, Calls Try.prog 44 #[.string s] V fun e w' => ∃ lv, e = .returned (.tuple #[lv, .agg #[.int .i64 0, .int .i64 0]]) ∧ TokAt w' (fun g => V.heap.size ≤ g) lv (ftoks (bl s)) ∧ Below V.heap.size V w') := fun V => (refScan_any s V (by omega)).mono fun e w' ⟨lv, h1, h2, h3⟩ => by
    rw [herr, hpos] at h1
    exact ⟨lv, h1, (tokAt_own h2 hne).kept (fun g hg => by omega) (fun _ _ _ => rfl), h3⟩
  have HM := Lib.hid (((zAll_any (ftoks (bl s)) hok hval F hF).1 F (Nat.le_refl _) ⟨startAt (ftoks (bl s)) 0, false, 0⟩) T _ hread)
  have HDe := Lib.hid (fun S c w (h : RepE w S T c) => deepExpr_any T hfit S c w h)
  have HWi := Lib.hid (fun S c w (h : RepE w S T c) => wide_any 41 (by decide) T hfit S c w h)
  have HOk := Lib.hid hok
  have HO : Hid (OutE w _) := outE_new w
  clear hread hfit hval herr hpos hne hok
  generalize ftoks (bl s) = ts at *
  go_enter Try.func31, Try.ntmps31
  go_upto_region 1 with fail
  generalize ((w.alloc (.cells #[.int .i64 0, .int .i64 0, .string ⟨#[]⟩, .int .i64 0, .slice none 0 0, .slice none 0 0, .int .i64 0, .string ⟨#[]⟩, .int .i64 0, .int .i64 0, .slice none 0 0] 36)).alloc (.cells #[.int .i64 0, .int .i64 0] 45)) = V at *
  go_wp2_with fail
  go_at_call 44
  refine (HSc.out V).mono ?_
  rintro e w1 ⟨lv, rfl, htok, hb1⟩
  obtain ⟨la, lc, hlv, -, -⟩ := id htok
  subst hlv
  have hal : Below w1.heap.size w1 (w1.alloc (.cells #[.int .i64 0, .int .i64 0] 45)) := (Below.refl _ w1).alloc (Nat.le_refl _) _
  have HFl : Hid (BoxC 45 (w1.alloc (.cells #[.int .i64 0, .int .i64 0] 45)) w1.heap.size [.int .i64 0, .int .i64 0]) := BoxC.made _ w1 _
  have HT1 := Lib.hid (htok.lift hal)
  have HO1 := Lib.hid ((HO.out.lift hb1).lift hal)
  have hVs := HO.out.size
  have h1s := hb1.size
  have HL1 : Hid (w.heap.size + 2 ≤ w1.heap.size) := by show _ ≤ _; omega
  have hz1 : (w1.alloc (.cells #[.int .i64 0, .int .i64 0] 45)).heap.size = w1.heap.size + 1 := by simp
  have HZ1 := Lib.hid hz1
  clear htok hb1 hal HO HSc hz1
  go_upto_region 2 with fail
  generalize (w1.alloc (.cells #[.int .i64 0, .int .i64 0] 45)) = W1 at *
  generalize w1.heap.size = D at *
  have f0 := HFl.out.cell 0 _ rfl
  have HN : Hid (Calls Try.prog 45 #[.slice la ts.length lc, .int .i64 0] W1 fun e w' => e = .returned (.pointer (some ⟨W1.heap.size, 0, none⟩)) ∧ RdX w' W1.heap.size ts ⟨startAt ts 0, false, 0⟩ ∧ Below W1.heap.size W1 w') := by
    obtain ⟨a, cap, hv, hcap, hc⟩ := HT1.out
    refine new_any ts HOk.out (fun g => g < W1.heap.size) _ 0 W1 ⟨a, cap, hv, hcap, fun j t ht => ?_⟩
    obtain ⟨g, ha, hs, h1, h2, h3⟩ := hc j t ht
    exact ⟨g, ha, World.block_lt_of_cell? _ _ h1, h1, h2, h3⟩
  go_wp2_with (go_at_call 45; refine HN.out.mono ?_; rintro e w2 ⟨rfl, hr2, hb2⟩; have HR2 := Lib.hid hr2; have HF2 := Lib.hid (HFl.out.lift hb2); have HO2 := Lib.hid (HO1.out.lift hb2); have hlt2 := hr2.lt; clear hr2 hb2 f0)
  have HZ2 : Hid (D < W1.heap.size) := by show _ < _; rw [HZ1.out]; omega
  clear HN HT1 HFl HO1 HZ1
  generalize W1.heap.size = b at *
  refine (HM.out b (b + 1) w2 (Nat.lt_succ_self b) hlt2 HR2.out).mono ?_
  rintro e w3 ⟨c, rfl, hrep, hr3, hg3⟩
  obtain ⟨ka, kc, aa, ac, tk, tn, ti, th, ta, tl, tc, rfl⟩ := hrep.form
  have hb2' : w.heap.size + 2 ≤ b := by have h1 := HL1.out; have h2 := HZ2.out; omega
  have hal : Below w3.heap.size w3 (w3.alloc (.cells #[.int .i64 T.k, .int .i64 T.p, .string T.n, .int .i64 T.m, .slice ka T.kids.length kc, .slice aa T.arms.length ac, .int .i64 tk, .string tn, .int .i64 ti, .int .i64 th, .slice ta tl tc] 36)) := (Below.refl _ w3).alloc (Nat.le_refl _) _
  have HX := Lib.hid (BoxC.made 36 w3 [.int .i64 T.k, .int .i64 T.p, .string T.n, .int .i64 T.m, .slice ka T.kids.length kc, .slice aa T.arms.length ac, .int .i64 tk, .string tn, .int .i64 ti, .int .i64 th, .slice ta tl tc])
  have HRp := Lib.hid (hrep.lift hal)
  have HR3 := Lib.hid (hr3.lift hal)
  have HF3 := Lib.hid ((HF2.out.grown hg3 (by intro e; have := Option.some.inj e; have := HZ2.out; omega)).lift hal)
  have HO3 := Lib.hid ((HO2.out.grown hb2' hg3).lift hal)
  clear hrep hr3 hg3 hal HR2 HF2 HO2 HM
  simp only [List.toArray] at HX HRp
  go_upto_region 6 with fail
  generalize (w3.alloc (.cells #[.int .i64 T.k, .int .i64 T.p, .string T.n, .int .i64 T.m, .slice ka T.kids.length kc, .slice aa T.arms.length ac, .int .i64 tk, .string tn, .int .i64 ti, .int .i64 th, .slice ta tl tc] 36)) = W3 at *
  generalize w3.heap.size = E at *
  have HRx := Lib.hid HR3.out
  obtain ⟨lv', hrd, -, -, -, -⟩ := HR3.out
  obtain ⟨c0, c1, c2, c3, -, -, -⟩ := hrd.cells
  obtain ⟨x0, x1, x2, x3, x4, x5, x6, x7, x8, x9, x10⟩ := bx11 HX.out
  have HDe3 := Lib.hid (HDe.out _ _ W3 HRp.out)
  clear hrd HDe
  go_wp2_with (go_at_call 48; refine HDe3.out.mono ?_; rintro e w4 ⟨rfl, hb4⟩; have HB4 := Lib.hid hb4; obtain ⟨x0, x1, x2, x3, x4, x5, x6, x7, x8, x9, x10⟩ := bx11 (HX.out.lift hb4); have HRp4 := Lib.hid (HRp.out.lift hb4); clear hb4)
  have HWi4 := Lib.hid (HWi.out _ _ w4 HRp4.out)
  clear HWi HDe3
  simp only [List.toArray] at HWi4
  refine HWi4.out.mono ?_
  rintro e w5 ⟨rfl, hb5⟩
  have hb35 := HB4.out.trans (hb5.mono HB4.out.size)
  have HRp5 := Lib.hid (HRp4.out.lift hb5)
  have HO5 := Lib.hid (HO3.out.lift hb35)
  obtain ⟨x0, x1, x2, x3, x4, x5, x6, x7, x8, x9, x10⟩ := bx11 (HX.out.lift hb35)
  have g0 := (HF3.out.lift hb35).cell 0 _ rfl
  have g1 := (HF3.out.lift hb35).cell 1 _ rfl
  have HF := Lib.hid (HO5.out.fin (.int .i64 T.k) (.int .i64 T.p) (.string T.n) (.int .i64 T.m) (.slice ka T.kids.length kc) (.slice aa T.arms.length ac) (.int .i64 tk) (.string tn) (.int .i64 ti) (.int .i64 th) (.slice ta tl tc) (.int .i64 0) (.int .i64 0))
  obtain ⟨t0, t1, t2, t3, t4, t5, t6, t7, t8, t9, t10⟩ := HO5.out.typ.all11
  obtain ⟨y0, y1, y2, y3, y4, y5, y6, y7, y8, y9, y10⟩ := HO5.out.typ.free11
  obtain ⟨⟨z0, z1⟩, k0, k1⟩ := HO5.out.flt.all2
  clear hb35 hb5 HWi4 HRp4 HB4 HO3 HX HF3 HRx HRp
  go_wp2
  go_region
  obtain ⟨hB, hF, hL, hK⟩ := HF.out
  clear HF t0 t1 t2 t3 t4 t5 t6 t7 t8 t9 t10 y0 y1 y2 y3 y4 y5 y6 y7 y8 y9 y10 z0 z1 k0 k1 x0 x1 x2 x3 x4 x5 x6 x7 x8 x9 x10 g0 g1
  generalize (((((((((((((w5.setCell ⟨w.heap.size, 0, none⟩ (.int .i64 T.k)).setCell ⟨w.heap.size, 1, none⟩ (.int .i64 T.p)).setCell ⟨w.heap.size, 2, none⟩ (.string T.n)).setCell ⟨w.heap.size, 3, none⟩ (.int .i64 T.m)).setCell ⟨w.heap.size, 4, none⟩ (.slice ka T.kids.length kc)).setCell ⟨w.heap.size, 5, none⟩ (.slice aa T.arms.length ac)).setCell ⟨w.heap.size, 6, none⟩ (.int .i64 tk)).setCell ⟨w.heap.size, 7, none⟩ (.string tn)).setCell ⟨w.heap.size, 8, none⟩ (.int .i64 ti)).setCell ⟨w.heap.size, 9, none⟩ (.int .i64 th)).setCell ⟨w.heap.size, 10, none⟩ (.slice ta tl tc)).setCell ⟨w.heap.size + 1, 0, none⟩ (.int .i64 0)).setCell ⟨w.heap.size + 1, 1, none⟩ (.int .i64 0)) = X at *
  have hdr : Below X.heap.size X X.drew := (Below.refl _ X).drew
  obtain ⟨c0, c1, c2, c3, c4, c5, c6, c7, c8, c9, c10⟩ := (hB.lift hdr).all11
  obtain ⟨⟨u0, u1⟩, -⟩ := (hF.lift hdr).all2
  have hRX := HRp5.out.kept (S' := fun g => w.heap.size + 2 ≤ g) (fun g hg => by have : b + 1 ≤ g := hg; omega) (fun g hg hl => hK g (by have : b + 1 ≤ g := hg; omega) hl)
  have hRX' := hRX.lift hdr
  have hLX := hL.trans (hdr.mono hL.size)
  clear hB hF hK hRX hL hdr
  generalize X.drew = Y at *
  go_wp2
  refine bodyPost_ret (by simp [results, Try.results31, go_sem, c0, c1, c2, c3, c4, c5, c6, c7, c8, c9, c10, u0, u1]; try rfl) rfl ?_
  exact ⟨_, rfl, hRX', hLX⟩
end Go.Proofs.Ytljgpgmaceackaa

/- The law's expr. -/
namespace Go.Proofs.Ytljgpgmaceackaa
open Go.RowKit Go.Maps Mth S3

set_option maxRecDepth 100000 in
set_option maxHeartbeats 3200000 in
theorem expr10_any (s : ByteArray) (T : Ex) (h : EText s T) (w : World) :
    Calls Try.prog 13 #[.string s] w fun e w' => ∃ c, e = .returned (.agg (List.toArray c)) ∧ RepE w' (fun g => w.heap.size < g) T c ∧ Below w.heap.size w w' := by
  have HP := Lib.hid (fun V => parseExpr_any s T h V)
  have hal : Below w.heap.size w (w.alloc (.cells #[.int .i64 0, .int .i64 0, .string ⟨#[]⟩, .int .i64 0, .slice none 0 0, .slice none 0 0, .int .i64 0, .string ⟨#[]⟩, .int .i64 0, .int .i64 0, .slice none 0 0] 36)) := (Below.refl _ w).alloc (Nat.le_refl _) _
  have HX := Lib.hid (BoxC.made 36 w [.int .i64 0, .int .i64 0, .string ⟨#[]⟩, .int .i64 0, .slice none 0 0, .slice none 0 0, .int .i64 0, .string ⟨#[]⟩, .int .i64 0, .int .i64 0, .slice none 0 0])
  have hz : (w.alloc (.cells #[.int .i64 0, .int .i64 0, .string ⟨#[]⟩, .int .i64 0, .slice none 0 0, .slice none 0 0, .int .i64 0, .string ⟨#[]⟩, .int .i64 0, .int .i64 0, .slice none 0 0] 36)).heap.size = w.heap.size + 1 := by simp
  have HA := Lib.hid hal
  have HZ := Lib.hid hz
  clear h hal hz
  simp only [List.toArray] at HX
  go_enter Try.func13, Try.ntmps13
  go_upto_region 1 with fail
  generalize (w.alloc (.cells #[.int .i64 0, .int .i64 0, .string ⟨#[]⟩, .int .i64 0, .slice none 0 0, .slice none 0 0, .int .i64 0, .string ⟨#[]⟩, .int .i64 0, .int .i64 0, .slice none 0 0] 36)) = V at *
  go_wp2_with fail
  go_at_call 31
  refine (HP.out V).mono ?_
  rintro e w1 ⟨c, rfl, hr, hb1⟩
  obtain ⟨ka, kc, aa, ac, tk, tn, ti, th, ta, tl, tc, rfl⟩ := hr.form
  generalize T.kids.length = kn at *
  generalize T.arms.length = an at *
  have hb2 : ∀ X Y, Below w1.heap.size w1 ((w1.alloc X).alloc Y) := fun X Y => ((Below.refl _ w1).alloc (Nat.le_refl _) _).alloc (by simp) _
  have HR2 := Lib.hid (fun X Y => hr.lift (hb2 X Y))
  have HX2 := Lib.hid (fun X Y => (HX.out.lift hb1).lift (hb2 X Y))
  have HB2 := Lib.hid (fun X Y => HA.out.trans ((hb1.trans ((hb2 X Y).mono hb1.size)).mono HA.out.size))
  have hv := HZ.out
  clear hr hb1 hb2 HP
  go_wp2_with (refine wpList_storeC rfl _ _ rfl _ _ [.int .i64 T.k, .int .i64 T.p, .string T.n, .int .i64 T.m, .slice ka kn kc, .slice aa an ac, .int .i64 tk, .string tn, .int .i64 ti, .int .i64 th, .slice ta tl tc] (HX2.out _ _) rfl rfl sizeEx rfl (by intro u hu; simp at hu; rcases hu with rfl | rfl | rfl | rfl | rfl | rfl | rfl | rfl | rfl | rfl | rfl <;> rfl) ?_; intro w3 hB3 hg3 hs3)
  obtain ⟨c0, c1, c2, c3, c4, c5, c6, c7, c8, c9, c10⟩ := bx11 hB3
  refine bodyPost_ret (by simp [results, Try.results13, go_sem, c0, c1, c2, c3, c4, c5, c6, c7, c8, c9, c10]; try rfl) rfl ?_
  refine ⟨_, rfl, (HR2.out _ _).kept (fun g hg => by omega) (fun g hg hl => hg3.block g hl (by intro e; have := Option.some.inj e; omega)), Below.grown (HB2.out _ _) hg3 (HB2.out _ _).size (fun k hk => by have := Option.some.inj hk; omega)⟩
end Go.Proofs.Ytljgpgmaceackaa
