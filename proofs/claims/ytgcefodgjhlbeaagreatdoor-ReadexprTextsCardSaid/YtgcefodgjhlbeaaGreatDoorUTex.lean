/- The law ReadexprTexts returns true at every input, and every argument reads behind the call as it read before. Conditions: the seven listed variables lie as the program's text lays them (the card ties them to the pruned copy of the project). -/
import Derived.Test.YtgcefodgjhlbeaaGreatDoorULw
import Derived.Test.YtgcefodgjhlbeaaGreatDoorUKit
namespace Go.Proofs.YtgcefodgjhlbeaaGreatDoor
open Go.RowKit Go.Maps Mth

set_option maxRecDepth 100000 in
set_option maxHeartbeats 16000000 in
theorem readexprTexts_any (ea : Addr) (bits : Int) (cv : Value) (zs : List Int) (z piece : Int) (w : World) (hz : Ints w cv zs) (hg : G2 ea w) :
  Calls Tryz.prog 3 #[.int .i64 bits, cv, .int .i64 z, .int .i64 piece] w fun e w' => e = .returned (.bool true) ∧ Below w.heap.size w w' := by
 have HFi := Lib.hid (first6_any ea w hg)
 have HZ := Lib.hid hz
 have HG := Lib.hid hg
 obtain ⟨za, zc, rfl, -, -, -⟩ := hz
 have HFw : Hid (∀ V, Below w.heap.size w V → Calls Tryz.prog 6 #[.slice za zs.length zc] V fun e w' => e = .returned (.bool (decide (zs.length ≤ 60))) ∧ V = w') := fun V hb => S3.few_any _ zs V (HZ.out.lift hb)
 clear hg
 obtain ⟨zn, hzn⟩ : ∃ n, n = zs.length := ⟨_, rfl⟩
 rw [← hzn] at HZ HFw ⊢
 have HZn := Lib.hid hzn
 clear hzn
 cases h60 : decide (zn ≤ 60) with
 | false =>
  rw [h60] at HFw
  clear h60
  go_enter Tryz.func3, Tryz.ntmps3
  go_wp2_with fail
  go_at_call 5
  refine HFi.out.mono ?_
  rintro e w1 ⟨rfl, hb1⟩
  go_wp2_with fail
  go_at_call 6
  refine (HFw.out _ hb1).mono ?_
  rintro e w2 ⟨rfl, rfl⟩
  go_wp2
  go_ret
  exact ⟨rfl, hb1⟩
 | true =>
  rw [h60] at HFw
  have hle : zn ≤ 60 := by simpa using h60
  clear h60
  have HDa := Lib.hid (fun V => S3.datas_any bits V)
  have HMk := Lib.hid (MR.raw_any 4)
  go_enter Tryz.func3, Tryz.ntmps3
  go_wp2_with fail
  go_at_call 5
  refine HFi.out.mono ?_
  rintro e w1 ⟨rfl, hb1⟩
  have HB1 := Lib.hid hb1
  clear hb1 HFi
  go_wp2_with fail
  go_at_call 6
  refine (HFw.out _ HB1.out).mono ?_
  rintro e w2 ⟨rfl, rfl⟩
  clear HFw
  have hTq := tape_newE (w1 := w1) HZn.out (by rw [← HZn.out]; omega) HZ.out HB1.out
  have HTq := Lib.hid hTq
  have hal : Below w1.heap.size w1 (w1.alloc (.cells #[.slice za zn zc, .int .i64 0] 27)) := (Below.refl _ w1).alloc (Nat.le_refl _) _
  have HB2 := Lib.hid (HB1.out.trans (hal.mono HB1.out.size))
  have hsz : (w1.alloc (.cells #[.slice za zn zc, .int .i64 0] 27)).heap.size = w1.heap.size + 1 := by simp
  have HSz := Lib.hid hsz
  have HWl := Lib.hid HB1.out.size
  clear hTq hal hsz
  go_wp2_with fail
  go_at_call 8
  generalize (w1.alloc (.cells #[.slice za zn zc, .int .i64 0] 27)) = V2 at *
  generalize w1.heap.size = b at *
  refine (HDa.out V2).mono ?_
  rintro e V3 ⟨ds, dv, rfl, hds, hsd, hb3⟩
  have HDs := Lib.hid hds
  have HSd := Lib.hid hsd
  have HTq3 := Lib.hid (HTq.out.lift hb3)
  have HB3 := Lib.hid (HB2.out.trans (hb3.mono HB2.out.size))
  clear hds hsd hb3 HTq HB2 HDa
  go_wp2_with fail
  go_at_call 7
  refine (HMk.out 4 ds dv _ b V3.heap.size V3 rfl (by omega) HDs.out HSd.out (fun c hc => by have := HSz.out; omega) HTq3.out (Nat.le_refl _)).mono ?_
  rintro e V5 ⟨u, rfl, T, c, rfl, hrep, hok, -, hg5⟩
  obtain ⟨ka, kc, aa, ac, tk, tn, ti, th, ta, tl, tc, rfl⟩ := hrep.form
  have HMd := Lib.hid (me_new HB3.out HWl.out hrep hok hg5)
  clear hrep hok hg5 HSd HTq3 HB3 HMk HDs HSz HWl
  simp only [List.toArray] at HMd
  go_upto_region 7 with fail
  generalize (V5.alloc (.cells #[.int .i64 T.k, .int .i64 T.p, .string T.n, .int .i64 T.m, .slice ka T.kids.length kc, .slice aa T.arms.length ac, .int .i64 tk, .string tn, .int .i64 ti, .int .i64 th, .slice ta tl tc] 34)) = V6 at *
  generalize V5.heap.size = B at *
  obtain ⟨c0, c1, c2, c3, c4, c5, c6, c7, c8, c9, c10⟩ := HMd.out.box.all11
  go_wp2_with fail
  go_at_call 10
  refine (HMd.out.show (by omega)).mono ?_
  rintro e V7 ⟨s, rfl, hs, hb7⟩
  have HMd7 := Lib.hid (HMd.out.lift hb7)
  have HGV := Lib.hid (HG.out.lift HMd7.out.low)
  have hsl := HMd7.out.len (by omega)
  have hsz : s.size ≤ 2805 := by rw [← bl_len, hs]; exact hsl
  have HL := Lib.hid hsl
  have HS := Lib.hid hs
  clear c0 c1 c2 c3 c4 c5 c6 c7 c8 c9 c10 hb7 hsl HMd HL
  have hkt := toksE_of (m := 0) (s := s) (by omega) HMd7.out.ok (by omega) (by rw [hs]; rfl)
  obtain ⟨T', hRd, hst⟩ := rdE_text HMd7.out.ok.1 (ts := ftoks (bl s)) (by rw [hkt]; rfl)
  have HSc : Hid (Calls Tryz.prog 9 #[.string s] V7 (ScanEnd V7 (ftoks (bl s)))) := scan6_any s V7 (by omega)
  have HOk := Lib.hid (ftoks_ok (bl s))
  have hbnd := rdE_bnd (ftoks (bl s)) HOk.out.1 0
  rw [hRd] at hbnd
  have HRd := Lib.hid hRd
  have HSt := Lib.hid hst
  have HBn : Hid (bndE T' = true) := hbnd
  clear hkt hs HS
  generalize ftoks (bl s) = tks at *
  clear hRd hst hbnd
  go_wp2_with fail
  go_at_call 9
  refine HSc.out.mono ?_
  rintro e V8 ⟨lv, rfl, hrow, hb8⟩
  have htk := tokAt_of_row hrow
  have hsrc := SrcTk.of_row hrow
  have HMd8 := Lib.hid (HMd7.out.lift hb8)
  have HG8 := Lib.hid (HGV.out.lift hb8)
  have HR : Hid (RdCE 11 V8 lv 0 (rdE tks 0)) := rdCE_of fun V hb => pkExpr_any tks HOk.out.1 HOk.out.2 ea _ lv 0 V (htk.lift hb) (HG8.out.lift hb)
  rw [HRd.out] at HR
  have HMu : Hid (∀ V, Below V8.heap.size V8 V → Calls Tryz.prog 12 #[lv, .int .i64 z, .int .i64 piece] V fun e w' => ∃ ts v, e = .returned v ∧ TokAt w' (fun _ => True) v ts ∧ TkOk ts ∧ TkVal ts ∧ Below V.heap.size V w') := fun V hb => mutated_any tks lv z piece V (hsrc.lift hb) HOk.out.1 HOk.out.2
  obtain ⟨la, lc, rfl, -, -⟩ := htk
  clear hrow hb8 hsrc HSc HMd7 HOk HGV HRd HG
  generalize tks.length = ln at *
  go_wp2_with fail
  go_at_call 11
  refine (HR.out _ (Below.refl _ _)).mono ?_
  rintro e x1 ⟨ka1, kc1, aa1, ac1, tk1, tn1, ti1, th1, ta1, tl1, tc1, rfl, hrep, hbx⟩
  have HTa : Hid (TwoE x1.heap.size T' [.int .i64 T'.k, .int .i64 T'.p, .string T'.n, .int .i64 T'.m, .slice ka1 T'.kids.length kc1, .slice aa1 T'.arms.length ac1, .int .i64 tk1, .string tn1, .int .i64 ti1, .int .i64 th1, .slice ta1 tl1 tc1] 0 0 _) := twoE_made 0 0 hrep
  have hby := hbx.trans ((twoE_below x1 [.int .i64 T'.k, .int .i64 T'.p, .string T'.n, .int .i64 T'.m, .slice ka1 T'.kids.length kc1, .slice aa1 T'.arms.length ac1, .int .i64 tk1, .string tn1, .int .i64 ti1, .int .i64 th1, .slice ta1 tl1 tc1] 0 0).mono hbx.size)
  have HMd8 := Lib.hid (HMd8.out.lift hby)
  have HG8 := Lib.hid (HG8.out.lift hby)
  have HB9 := Lib.hid hby
  clear hrep hbx hby
  simp only [List.toArray] at HTa HMd8 HG8 HB9
  go_upto_region 9 with fail
  generalize ((x1.alloc (.cells #[.int .i64 T'.k, .int .i64 T'.p, .string T'.n, .int .i64 T'.m, .slice ka1 T'.kids.length kc1, .slice aa1 T'.arms.length ac1, .int .i64 tk1, .string tn1, .int .i64 ti1, .int .i64 th1, .slice ta1 tl1 tc1] 34)).alloc (.cells #[.int .i64 0, .int .i64 0] 43)) = y1 at *
  generalize x1.heap.size = b1 at *
  go_wp2_with fail
  go_at_call 12
  refine (HMu.out _ HB9.out).mono ?_
  rintro e x2 ⟨ts, mv, rfl, htm, hokm, hvalm, hb2⟩
  have HMd8 := Lib.hid (HMd8.out.lift hb2)
  have HG8 := Lib.hid (HG8.out.lift hb2)
  have HTa := Lib.hid (HTa.out.lift hb2)
  have HFr : Hid (RdCE 11 x2 mv 0 (rdE ts 0)) := rdCE_of fun V hb => pkExpr_any ts hokm hvalm ea _ mv 0 V (htm.lift hb) (HG8.out.lift hb)
  have HFf : Hid (RdCE 13 x2 mv 0 (rdE ts 0)) := rdCE_of fun V hb => rfExpr_any ts hokm hvalm _ mv 0 V (htm.lift hb)
  have HBd := Lib.hid (rdE_bnd ts hokm 0)
  obtain ⟨ma, mc, rfl, -, -⟩ := htm
  clear hokm hvalm hb2 HMu HB9 HR
  generalize rdE ts 0 = r at *
  obtain ⟨rT, rn, re, rp⟩ := r
  dsimp only at HBd
  generalize ts.length = mn at *
  go_wp2_with fail
  go_at_call 11
  refine (HFr.out _ (Below.refl _ _)).mono ?_
  rintro e x3 ⟨ka2, kc2, aa2, ac2, tk2, tn2, ti2, th2, ta2, tl2, tc2, rfl, hrep, hbx⟩
  have HTb : Hid (TwoE x3.heap.size rT [.int .i64 rT.k, .int .i64 rT.p, .string rT.n, .int .i64 rT.m, .slice ka2 rT.kids.length kc2, .slice aa2 rT.arms.length ac2, .int .i64 tk2, .string tn2, .int .i64 ti2, .int .i64 th2, .slice ta2 tl2 tc2] re rp _) := twoE_made re rp hrep
  have hby := hbx.trans ((twoE_below x3 [.int .i64 rT.k, .int .i64 rT.p, .string rT.n, .int .i64 rT.m, .slice ka2 rT.kids.length kc2, .slice aa2 rT.arms.length ac2, .int .i64 tk2, .string tn2, .int .i64 ti2, .int .i64 th2, .slice ta2 tl2 tc2] re rp).mono hbx.size)
  have HMd8 := Lib.hid (HMd8.out.lift hby)
  have HTa := Lib.hid (HTa.out.lift hby)
  have HB3 := Lib.hid hby
  clear hrep hbx hby
  simp only [List.toArray] at HTb HMd8 HTa HB3
  go_upto_region 11 with fail
  generalize ((x3.alloc (.cells #[.int .i64 rT.k, .int .i64 rT.p, .string rT.n, .int .i64 rT.m, .slice ka2 rT.kids.length kc2, .slice aa2 rT.arms.length ac2, .int .i64 tk2, .string tn2, .int .i64 ti2, .int .i64 th2, .slice ta2 tl2 tc2] 34)).alloc (.cells #[.int .i64 re, .int .i64 rp] 43)) = y3 at *
  generalize x3.heap.size = b2 at *
  go_wp2_with fail
  go_at_call 13
  refine (HFf.out _ HB3.out).mono ?_
  rintro e x4 ⟨ka3, kc3, aa3, ac3, tk3, tn3, ti3, th3, ta3, tl3, tc3, rfl, hrep, hbx⟩
  have HTc : Hid (TwoE x4.heap.size rT [.int .i64 rT.k, .int .i64 rT.p, .string rT.n, .int .i64 rT.m, .slice ka3 rT.kids.length kc3, .slice aa3 rT.arms.length ac3, .int .i64 tk3, .string tn3, .int .i64 ti3, .int .i64 th3, .slice ta3 tl3 tc3] re rp _) := twoE_made re rp hrep
  have hby := hbx.trans ((twoE_below x4 [.int .i64 rT.k, .int .i64 rT.p, .string rT.n, .int .i64 rT.m, .slice ka3 rT.kids.length kc3, .slice aa3 rT.arms.length ac3, .int .i64 tk3, .string tn3, .int .i64 ti3, .int .i64 th3, .slice ta3 tl3 tc3] re rp).mono hbx.size)
  have HMd8 := Lib.hid (HMd8.out.lift hby)
  have HTa := Lib.hid (HTa.out.lift hby)
  have HTb := Lib.hid (HTb.out.lift hby)
  clear hrep hbx hby
  simp only [List.toArray] at HTc HMd8 HTa HTb
  go_upto_region 12 with fail
  generalize ((x4.alloc (.cells #[.int .i64 rT.k, .int .i64 rT.p, .string rT.n, .int .i64 rT.m, .slice ka3 rT.kids.length kc3, .slice aa3 rT.arms.length ac3, .int .i64 tk3, .string tn3, .int .i64 ti3, .int .i64 th3, .slice ta3 tl3 tc3] 34)).alloc (.cells #[.int .i64 re, .int .i64 rp] 43)) = y4 at *
  generalize x4.heap.size = b3 at *
  obtain ⟨⟨f0, f1⟩, -⟩ := HTa.out.flt.all2
  obtain ⟨c0, c1, c2, c3, c4, c5, c6, c7, c8, c9, c10⟩ := HTa.out.box.all11
  obtain ⟨d0, d1, d2, d3, d4, d5, d6, d7, d8, d9, d10⟩ := HMd8.out.box.all11
  go_wp2_with fail
  go_at_call 14
  refine (same_strip' HSt.out HBn.out _ _ _ _ _ HTa.out.rep HMd8.out.rep).mono ?_
  rintro e y5 ⟨rfl, hb5⟩
  have HMd8 := Lib.hid (HMd8.out.lift hb5)
  have HTb := Lib.hid (HTb.out.lift hb5)
  have HTc := Lib.hid (HTc.out.lift hb5)
  clear f0 f1 c0 c1 c2 c3 c4 c5 c6 c7 c8 c9 c10 d0 d1 d2 d3 d4 d5 d6 d7 d8 d9 d10 hb5 HTa HSt HBn
  obtain ⟨c0, c1, c2, c3, c4, c5, c6, c7, c8, c9, c10⟩ := HTb.out.box.all11
  obtain ⟨d0, d1, d2, d3, d4, d5, d6, d7, d8, d9, d10⟩ := HTc.out.box.all11
  go_wp2_with fail
  go_at_call 15
  refine (sameAll_any rT HBd.out _ _ _ _ _ HTb.out.rep HTc.out.rep).mono ?_
  rintro e y6 ⟨rfl, hb6⟩
  have HMd8 := Lib.hid (HMd8.out.lift hb6)
  have HTb := Lib.hid (HTb.out.lift hb6)
  have HTc := Lib.hid (HTc.out.lift hb6)
  clear c0 c1 c2 c3 c4 c5 c6 c7 c8 c9 c10 d0 d1 d2 d3 d4 d5 d6 d7 d8 d9 d10 hb6
  obtain ⟨⟨f0, f1⟩, -⟩ := HTb.out.flt.all2
  obtain ⟨⟨g0, g1⟩, -⟩ := HTc.out.flt.all2
  go_wp2
  go_ret
  exact ⟨rfl, HMd8.out.low⟩
end Go.Proofs.YtgcefodgjhlbeaaGreatDoor

namespace Go.Proofs.YtgcefodgjhlbeaaGreatDoor.readexprTexts
open Go.ChangeShapes Go.WideShapes Go.ChangeAt Go.ChangeMaps Go.RowKit

set_option maxRecDepth 100000 in
theorem contract (H : Type) (enc : TypeId × Value → H) (W : World) (base : Nat) (args : Array Value) (ds gs : List (DataW H)) (before : List MemPlace)
  (hval : ∀ (j : Nat) t v, Tryz.f3.params[j]? = some t → args[j]? = some v → Value.okWide Tryz.prog W .any base t v)
  (hW : DataW.Whole enc Tryz.prog Tryz.f3.params.toList Rows.readexprTextsSpec.vars false W args.toList ds gs before) (hL : laidMetH Tryz.prog laid7 W) :
  Calls Tryz.prog 3 args W fun e W' => ∃ v, e = .returned v ∧ Rows.readexprTextsSpec.post enc Tryz.prog Tryz.f3 false true false false W args v W' := by
 have hW' := hW
 obtain ⟨p, q, hA0, hV, rfl, hfz, hnd⟩ := hW
 have hA : DataW.TrodAll enc Tryz.prog W 0 (fun _ => true) true Tryz.f3.params.toList args.toList ds p := hA0
 rw [Tryz.params3] at hA hval
 obtain ⟨v0, vs0, d0, ds0, p0, q0, hargs, rfl, rfl, h0, r0⟩ := trodAll_cons hA
 obtain ⟨v1, vs1, d1, ds1, p1, q1, rfl, rfl, rfl, h1, r1⟩ := trodAll_cons r0
 obtain ⟨v2, vs2, d2, ds2, p2, q2, rfl, rfl, rfl, h2, r2⟩ := trodAll_cons r1
 obtain ⟨v3, vs3, d3, ds3, p3, q3, rfl, rfl, rfl, h3, r3⟩ := trodAll_cons r2
 obtain ⟨rfl, rfl, rfl⟩ := trodAll_nil r3
 obtain rfl : args = #[v0, v1, v2, v3] := by cases args; simp_all
 obtain ⟨rfl, rfl⟩ := trodVars_none hV
 obtain ⟨bits, rfl, rfl, rfl, wbits⟩ := open_int Tryz.underlying3 (hval 0 3 v0 rfl rfl) h0
 obtain ⟨zs, wzs⟩ := ints_open (hval 1 22 v1 rfl rfl) h1
 obtain ⟨at_, rfl, rfl, rfl, wat_⟩ := open_int Tryz.underlying3 (hval 2 3 v2 rfl rfl) h2
 obtain ⟨piece, rfl, rfl, rfl, wpiece⟩ := open_int Tryz.underlying3 (hval 3 3 v3 rfl rfl) h3
 obtain ⟨ea, hg⟩ := g2_of_laid hL
 refine (readexprTexts_any ea bits v1 zs at_ piece W wzs hg).mono fun e W' ⟨he, hb⟩ => ?_
 subst he
 exact law_post rfl (by kernel_rfl) rfl hW' rfl rfl rfl hb
set_option maxRecDepth 100000 in
theorem lifted (os : Os) (started : os.Started) (H : Type) (enc : TypeId × Value → H) :
  ReturnsInHanded {} Tryz.checked os 3 .any (fun w args => (Rows.readexprTextsSpec.pre enc Tryz.prog Tryz.f3 [] false w args ∧ laidMetH Tryz.prog laid7 w) ∧ sizedMet enc Tryz.prog Tryz.f3 (OpenSpec.ofChange Rows.readexprTextsSpec) false w args)
   (Rows.readexprTextsSpec.post enc Tryz.prog Tryz.f3 false true false false) := by
 refine returnsInHanded_of_change_and (C := Tryz.checked) (X := fun w _ => laidMetH Tryz.prog laid7 w) (fun _ _ _ hh h => h.of_heap hh) Tryz.own started (by kernel_rfl) Tryz.func3
  (ChangeSpec.witness_shaped (enc := enc) (C := Tryz.checked) (os := os) (X := fun w _ => laidMetH Tryz.prog laid7 w) false (World.doorLaid Tryz.prog 400 os) #[.int .i64 0, .slice none 0 0, .int .i64 0, .int .i64 0] 8 rfl (World.shaped_of_RefB (by kernel_rfl) (by kernel_rfl)) (by kernel_rfl) (by kernel_rfl) (by kernel_rfl) (door_met os _)) ?_
 intro W base args ds gs before hval hW _ _ hL _
 exact contract H enc W base args ds gs before hval hW hL
theorem said : Rows.ReadexprTextsSaid :=
 OpenClaim.holds_of_wide 3 Tryz.f3 rfl rfl rfl rfl rfl rfl rfl ⟨rfl, rfl, rfl, rfl, rfl⟩ rfl rfl rfl rfl rfl (by kernel_rfl) Tryz.func3 (by kernel_rfl)
  (of_decide_eq_true (by kernel_rfl)) (by unfold Func.isWrapper; first | (rw [if_pos (by decide +kernel)]; kernel_rfl) | (rw [if_neg (by decide +kernel)]; exact ⟨rfl, rfl⟩))
  (fun os started H enc _ => lifted os started H enc)
theorem plain (f : FuncId) (fn : Func) (hf : Tryz.pinned.checked.prog.funcNamed Rows.readexprTextsRow.func = some f) (hfn : Tryz.pinned.checked.prog.funcs[f]? = some fn) :
  true = Tryz.pinned.checked.prog.looks [] ∧ ∀ (j : Nat) t, fn.params[j]? = some t → Tryz.pinned.checked.prog.wantsStandIn t = false := by
 obtain rfl : f = 3 := Option.some.inj ((show Tryz.prog.funcNamed Rows.readexprTextsRow.func = some 3 by kernel_rfl).symm.trans hf) |>.symm
 obtain rfl : fn = Tryz.f3 := (Option.some.inj (Tryz.func3.symm.trans hfn)).symm
 refine ⟨by kernel_rfl, fun j t ht => ?_⟩
 rw [Tryz.params3] at ht
 have hm : t ∈ [3, 22, 3, 3] := by simpa using Array.mem_of_getElem? ht
 have hall : ([3, 22, 3, 3].all fun u => !Tryz.prog.wantsStandIn u) = true := by kernel_rfl
 exact (show Tryz.prog.wantsStandIn t = false by simpa using List.all_eq_true.1 hall t hm)
theorem card : Rows.ReadexprTextsCardSaid :=
 Claim7.holds_tied_plain_at .later [] _ _ _ _ said (fun _ h => by cases h) (by kernel_rfl) (fun _ h => by cases h) readexprTexts_row_tie rfl ⟨rfl, rfl⟩ (by kernel_rfl) rfl plain (by kernel_rfl)
#print axioms card
end Go.Proofs.YtgcefodgjhlbeaaGreatDoor.readexprTexts
