/- The law ReadexprParentheses returns true at every input, and every argument reads behind the call as it read before. Conditions: the seven listed variables lie as the program's text lays them (the card ties them to the pruned copy of the project). -/
import Derived.Test.YtgcefodgjhlbeaaGreatDoorCLw
import Derived.Test.YtgcefodgjhlbeaaGreatDoorCKit
/- The law ReadexprParentheses returns true at every input. -/
namespace Go.Proofs.YtgcefodgjhlbeaaGreatDoor
open Go.RowKit Go.Maps Mth

set_option maxRecDepth 100000 in
set_option maxHeartbeats 16000000 in
theorem readexprParentheses_any (ea : Addr) (bits : Int) (cv : Value) (zs : List Int) (n : Int) (w : World) (hz : Ints w cv zs) (hg : G2 ea w) :
    Calls Tryz.prog 4 #[.int .i64 bits, cv, .int .i64 n] w fun e w' => e = .returned (.bool true) ∧ Below w.heap.size w w' := by
  have HFi := Lib.hid (first6_any ea w hg)
  have HZ := Lib.hid hz
  have HG := Lib.hid hg
  obtain ⟨za, zc, rfl, -, -, -⟩ := hz
  have HFw : Hid (∀ V, Below w.heap.size w V → Calls Tryz.prog 6 #[.slice za zs.length zc] V fun e w' => e = .returned (.bool (decide (zs.length ≤ 60))) ∧ V = w') := fun V hb => S3.few_any _ zs V (HZ.out.lift hb)
  clear hg
  obtain ⟨zn, hzn⟩ : ∃ n, n = zs.length := ⟨_, rfl⟩
  rw [← hzn] at HZ HFw ⊢
  have HZn := Lib.hid hzn
  clear hzn
  cases h60 : decide (zn ≤ 60) with
  | false =>
    rw [h60] at HFw
    clear h60
    go_enter Tryz.func4, Tryz.ntmps4
    go_wp2_with fail
    go_at_call 5
    refine HFi.out.mono ?_
    rintro e w1 ⟨rfl, hb1⟩
    go_wp2_with fail
    go_at_call 6
    refine (HFw.out _ hb1).mono ?_
    rintro e w2 ⟨rfl, rfl⟩
    go_wp2
    go_ret
    exact ⟨rfl, hb1⟩
  | true =>
    rw [h60] at HFw
    have hle : zn ≤ 60 := by simpa using h60
    clear h60
    have HDa := Lib.hid (fun V => S3.datas_any bits V)
    have HMk := Lib.hid (MR.raw_any 3)
    go_enter Tryz.func4, Tryz.ntmps4
    go_wp2_with fail
    go_at_call 5
    refine HFi.out.mono ?_
    rintro e w1 ⟨rfl, hb1⟩
    have HB1 := Lib.hid hb1
    clear hb1 HFi
    go_wp2_with fail
    go_at_call 6
    refine (HFw.out _ HB1.out).mono ?_
    rintro e w2 ⟨rfl, rfl⟩
    clear HFw
    have hTq := tape_newE (w1 := w1) HZn.out (by rw [← HZn.out]; omega) HZ.out HB1.out
    have HTq := Lib.hid hTq
    have hal : Below w1.heap.size w1 (w1.alloc (.cells #[.slice za zn zc, .int .i64 0] 27)) := (Below.refl _ w1).alloc (Nat.le_refl _) _
    have HB2 := Lib.hid (HB1.out.trans (hal.mono HB1.out.size))
    have hsz : (w1.alloc (.cells #[.slice za zn zc, .int .i64 0] 27)).heap.size = w1.heap.size + 1 := by simp
    have HSz := Lib.hid hsz
    have HWl := Lib.hid HB1.out.size
    clear hTq hal hsz
    go_wp2_with fail
    go_at_call 8
    generalize (w1.alloc (.cells #[.slice za zn zc, .int .i64 0] 27)) = V2 at *
    generalize w1.heap.size = b at *
    refine (HDa.out V2).mono ?_
    rintro e V3 ⟨ds, dv, rfl, hds, hsd, hb3⟩
    have HDs := Lib.hid hds
    have HSd := Lib.hid hsd
    have HTq3 := Lib.hid (HTq.out.lift hb3)
    have HB3 := Lib.hid (HB2.out.trans (hb3.mono HB2.out.size))
    clear hds hsd hb3 HTq HB2 HDa
    go_wp2_with fail
    go_at_call 7
    refine (HMk.out 3 ds dv _ b V3.heap.size V3 rfl (by omega) HDs.out HSd.out (fun c hc => by have := HSz.out; omega) HTq3.out (Nat.le_refl _)).mono ?_
    rintro e V5 ⟨u, rfl, T, c, rfl, hrep, hok, -, hg5⟩
    obtain ⟨ka, kc, aa, ac, tk, tn, ti, th, ta, tl, tc, rfl⟩ := hrep.form
    have HMd := Lib.hid (me_new HB3.out HWl.out hrep hok hg5)
    clear hrep hok hg5 HSd HTq3 HB3 HMk HDs HSz HWl
    simp only [List.toArray] at HMd
    go_upto_region 7 with fail
    generalize (V5.alloc (.cells #[.int .i64 T.k, .int .i64 T.p, .string T.n, .int .i64 T.m, .slice ka T.kids.length kc, .slice aa T.arms.length ac, .int .i64 tk, .string tn, .int .i64 ti, .int .i64 th, .slice ta tl tc] 34)) = V6 at *
    generalize V5.heap.size = B at *
    obtain ⟨c0, c1, c2, c3, c4, c5, c6, c7, c8, c9, c10⟩ := HMd.out.box.all11
    go_wp2_with fail
    go_at_call 10
    refine (HMd.out.show (by omega)).mono ?_
    rintro e V7 ⟨s, rfl, hs, hb7⟩
    have HMd7 := Lib.hid (HMd.out.lift hb7)
    have HGV := Lib.hid (HG.out.lift HMd7.out.low)
    have hsl := HMd7.out.len (by omega)
    have hsz : s.size ≤ 2805 := by rw [← bl_len, hs]; exact hsl
    have HL := Lib.hid hsl
    have HS := Lib.hid hs
    have hr1 := Int.emod_nonneg n (b := 5) (by omega)
    have hr2 := Int.emod_lt_of_pos n (b := 5) (by omega)
    have HMod : Hid (∀ w, Calls Tryz.prog 16 #[.int .i64 n, .int .i64 5] w fun e w' => e = .returned (.int .i64 (n % 5)) ∧ w = w') := fun w => S3.mod_any n 5 w (by omega) (by omega)
    generalize n % 5 = r at *
    clear c0 c1 c2 c3 c4 c5 c6 c7 c8 c9 c10 hb7 hs hsl HMd
    go_wp2_with (go_at_call 16; refine (HMod.out _).mono ?_; rintro e w' ⟨rfl, rfl⟩)
    clear HMod
    go_loop [9, 10] (fun y i => ∃ (z : Int) (s : ByteArray), -1 ≤ z ∧ z ≤ r ∧ i = .int .i64 z ∧ y = .string s ∧ s.size ≤ 3000 ∧ Hid (bl s = parT (r - z).toNat (shE T))) (fun _ i => (intOf i + 1).toNat)
    case atStart => exact ⟨r, s, by omega, by omega, rfl, rfl, by omega, by show _ = _; rw [HS.out]; simp [parT]⟩
    case round =>
      obtain ⟨z, x, hz1, hz2, rfl, rfl, hx, HX⟩ := hrel
      by_cases hge : 0 ≤ z
      · have HX2 : Hid (bl (⟨#[40]⟩ ++ x ++ ⟨#[41]⟩) = parT (r - (z - 1)).toNat (shE T)) := by
          show _ = _
          rw [show (r - (z - 1)).toNat = (r - z).toNat + 1 by omega]
          exact parE_snoc _ _ _ HX.out
        have hx2 : (⟨#[40]⟩ ++ x ++ ⟨#[41]⟩).size ≤ 3000 := by
          have h1 := parT_len (shE T) (r - (z - 1)).toNat
          have h2 := HL.out
          rw [← bl_len, HX2.out]
          omega
        have HXz := Lib.hid hx2
        clear hx2
        go_wp2
        go_round
        case rel => exact ⟨z - 1, _, by omega, by omega, rfl, rfl, HXz.out, HX2⟩
        case measure => simp [intOf]; omega
      · obtain rfl : z = -1 := by omega
        clear hge hz1 hz2
        have hm : (r - -1).toNat = r.toNat + 1 := by omega
        rw [hm] at HX
        obtain ⟨T', hRd, hst⟩ := rdEA_par (m := r.toNat) HMd7.out.ok.1 (toksE_of (by omega) HMd7.out.ok (by omega) HX.out)
        have HSc : Hid (Calls Tryz.prog 9 #[.string x] V7 (ScanEnd V7 (ftoks (bl x)))) := scan6_any x V7 (by omega)
        have HOk := Lib.hid (ftoks_ok (bl x))
        have hbnd := rdEA_bnd (ftoks (bl x)) HOk.out.1 0
        rw [hRd] at hbnd
        have HRd := Lib.hid hRd
        have HSt := Lib.hid hst
        have HBn : Hid (bndE T' = true) := hbnd
        generalize ftoks (bl x) = tks at *
        clear hm hRd hst hbnd
        go_wp2_with fail
        go_at_call 9
        refine HSc.out.mono ?_
        rintro e V8 ⟨lv, rfl, hrow, hb8⟩
        have htk := tokAt_of_row hrow
        have HMd8 := Lib.hid (HMd7.out.lift hb8)
        have HR : Hid (RdCE 17 V8 lv 0 (rdEA tks 0)) := rdCE_of fun V hb => pkExprAtom_any tks HOk.out.1 HOk.out.2 ea _ lv 0 V (htk.lift hb) ((HGV.out.lift hb8).lift hb)
        rw [HRd.out] at HR
        obtain ⟨la, lc, rfl, -, -⟩ := htk
        clear hrow hb8 HSc HMd7 HOk HGV HRd
        generalize tks.length = ln at *
        go_wp2_with fail
        go_at_call 17
        refine (HR.out _ (Below.refl _ _)).mono ?_
        rintro e x1 ⟨ka1, kc1, aa1, ac1, tk1, tn1, ti1, th1, ta1, tl1, tc1, rfl, hrep, hbx⟩
        have HTw : Hid (TwoE x1.heap.size T' [.int .i64 T'.k, .int .i64 T'.p, .string T'.n, .int .i64 T'.m, .slice ka1 T'.kids.length kc1, .slice aa1 T'.arms.length ac1, .int .i64 tk1, .string tn1, .int .i64 ti1, .int .i64 th1, .slice ta1 tl1 tc1] 0 0 _) := twoE_made 0 0 hrep
        have HMd9 := Lib.hid (HMd8.out.lift (hbx.trans ((twoE_below x1 [.int .i64 T'.k, .int .i64 T'.p, .string T'.n, .int .i64 T'.m, .slice ka1 T'.kids.length kc1, .slice aa1 T'.arms.length ac1, .int .i64 tk1, .string tn1, .int .i64 ti1, .int .i64 th1, .slice ta1 tl1 tc1] 0 0).mono hbx.size)))
        clear hrep hbx HR HMd8
        simp only [List.toArray] at HTw HMd9
        go_upto_region 14 with fail
        generalize ((x1.alloc (.cells #[.int .i64 T'.k, .int .i64 T'.p, .string T'.n, .int .i64 T'.m, .slice ka1 T'.kids.length kc1, .slice aa1 T'.arms.length ac1, .int .i64 tk1, .string tn1, .int .i64 ti1, .int .i64 th1, .slice ta1 tl1 tc1] 34)).alloc (.cells #[.int .i64 0, .int .i64 0] 43)) = y1 at *
        generalize x1.heap.size = b1 at *
        obtain ⟨c0, c1, c2, c3, c4, c5, c6, c7, c8, c9, c10⟩ := HMd9.out.box.all11
        obtain ⟨d0, d1, d2, d3, d4, d5, d6, d7, d8, d9, d10⟩ := HTw.out.box.all11
        obtain ⟨⟨f0, f1⟩, -⟩ := HTw.out.flt.all2
        have HEq := Lib.hid (same_strip HSt.out HBn.out _ _ _ _ y1 HMd9.out.rep HTw.out.rep)
        go_wp2_with fail
        go_at_call 14
        refine HEq.out.mono ?_
        rintro e w9 ⟨rfl, hb9⟩
        go_wp2
        go_ret
        exact ⟨rfl, HMd9.out.low.trans (hb9.mono HMd9.out.low.size)⟩
end Go.Proofs.YtgcefodgjhlbeaaGreatDoor

/- The law ReadexprParentheses returns true at every input, and every argument reads behind the call as it read before. Conditions: the seven listed variables lie as the program's text lays them (the card ties them to the pruned copy of the project). -/
namespace Go.Proofs.YtgcefodgjhlbeaaGreatDoor.readexprParentheses
open Go.ChangeShapes Go.WideShapes Go.ChangeAt Go.ChangeMaps Go.RowKit

set_option maxRecDepth 100000 in
/-- What the walk gives for every argument and every world in which the listed variable lies. -/
theorem contract (H : Type) (enc : TypeId × Value → H) (W : World) (base : Nat) (args : Array Value) (ds gs : List (DataW H)) (before : List MemPlace)
    (hval : ∀ (j : Nat) t v, Tryz.f4.params[j]? = some t → args[j]? = some v → Value.okWide Tryz.prog W .any base t v)
    (hW : DataW.Whole enc Tryz.prog Tryz.f4.params.toList Rows.readexprParenthesesSpec.vars false W args.toList ds gs before) (hL : laidMetH Tryz.prog laid7 W) :
    Calls Tryz.prog 4 args W fun e W' => ∃ v, e = .returned v ∧ Rows.readexprParenthesesSpec.post enc Tryz.prog Tryz.f4 false true false false W args v W' := by
  have hW' := hW
  obtain ⟨p, q, hA0, hV, rfl, hfz, hnd⟩ := hW
  have hA : DataW.TrodAll enc Tryz.prog W 0 (fun _ => true) true Tryz.f4.params.toList args.toList ds p := hA0
  rw [Tryz.params4] at hA hval
  obtain ⟨v0, vs0, d0, ds0, p0, q0, hargs, rfl, rfl, h0, r0⟩ := trodAll_cons hA
  obtain ⟨v1, vs1, d1, ds1, p1, q1, rfl, rfl, rfl, h1, r1⟩ := trodAll_cons r0
  obtain ⟨v2, vs2, d2, ds2, p2, q2, rfl, rfl, rfl, h2, r2⟩ := trodAll_cons r1
  obtain ⟨rfl, rfl, rfl⟩ := trodAll_nil r2
  obtain rfl : args = #[v0, v1, v2] := by cases args; simp_all
  obtain ⟨rfl, rfl⟩ := trodVars_none hV
  obtain ⟨bits, rfl, rfl, rfl, wbits⟩ := open_int Tryz.underlying3 (hval 0 3 v0 rfl rfl) h0
  obtain ⟨zs, wzs⟩ := ints_open (hval 1 22 v1 rfl rfl) h1
  obtain ⟨n, rfl, rfl, rfl, wn⟩ := open_int Tryz.underlying3 (hval 2 3 v2 rfl rfl) h2
  obtain ⟨ea, hg⟩ := g2_of_laid hL
  refine (readexprParentheses_any ea bits v1 zs n W wzs hg).mono fun e W' ⟨he, hb⟩ => ?_
  subst he
  exact law_post rfl (by kernel_rfl) rfl hW' rfl rfl rfl hb

set_option maxRecDepth 100000 in
theorem lifted (os : Os) (started : os.Started) (H : Type) (enc : TypeId × Value → H) :
    ReturnsInHanded {} Tryz.checked os 4 .any (fun w args => (Rows.readexprParenthesesSpec.pre enc Tryz.prog Tryz.f4 [] false w args ∧ laidMetH Tryz.prog laid7 w) ∧ sizedMet enc Tryz.prog Tryz.f4 (OpenSpec.ofChange Rows.readexprParenthesesSpec) false w args)
      (Rows.readexprParenthesesSpec.post enc Tryz.prog Tryz.f4 false true false false) := by
  refine returnsInHanded_of_change_and (C := Tryz.checked) (X := fun w _ => laidMetH Tryz.prog laid7 w) (fun _ _ _ hh h => h.of_heap hh) Tryz.own started (by kernel_rfl) Tryz.func4
    (ChangeSpec.witness_shaped (enc := enc) (C := Tryz.checked) (os := os) (X := fun w _ => laidMetH Tryz.prog laid7 w) false (World.doorLaid Tryz.prog 400 os) #[.int .i64 0, .slice none 0 0, .int .i64 0] 8 rfl (World.shaped_of_RefB (by kernel_rfl) (by kernel_rfl)) (by kernel_rfl) (by kernel_rfl) (by kernel_rfl) (door_met os _)) ?_
  intro W base args ds gs before hval hW _ _ hL _
  exact contract H enc W base args ds gs before hval hW hL

theorem said : Rows.ReadexprParenthesesSaid :=
  OpenClaim.holds_of_wide 4 Tryz.f4 rfl rfl rfl rfl rfl rfl rfl ⟨rfl, rfl, rfl, rfl, rfl⟩ rfl rfl rfl rfl rfl (by kernel_rfl) Tryz.func4 (by kernel_rfl)
    (of_decide_eq_true (by kernel_rfl)) (by unfold Func.isWrapper; first | (rw [if_pos (by decide +kernel)]; kernel_rfl) | (rw [if_neg (by decide +kernel)]; exact ⟨rfl, rfl⟩))
    (fun os started H enc _ => lifted os started H enc)

/-- No parameter wants a stand-in; the program's own looks are off. -/
theorem plain (f : FuncId) (fn : Func) (hf : Tryz.pinned.checked.prog.funcNamed Rows.readexprParenthesesRow.func = some f) (hfn : Tryz.pinned.checked.prog.funcs[f]? = some fn) :
    true = Tryz.pinned.checked.prog.looks [] ∧ ∀ (j : Nat) t, fn.params[j]? = some t → Tryz.pinned.checked.prog.wantsStandIn t = false := by
  obtain rfl : f = 4 := Option.some.inj ((show Tryz.prog.funcNamed Rows.readexprParenthesesRow.func = some 4 by kernel_rfl).symm.trans hf) |>.symm
  obtain rfl : fn = Tryz.f4 := (Option.some.inj (Tryz.func4.symm.trans hfn)).symm
  refine ⟨by kernel_rfl, fun j t ht => ?_⟩
  rw [Tryz.params4] at ht
  have hm : t ∈ [3, 22, 3] := by simpa using Array.mem_of_getElem? ht
  have hall : ([3, 22, 3].all fun u => !Tryz.prog.wantsStandIn u) = true := by kernel_rfl
  exact (show Tryz.prog.wantsStandIn t = false by simpa using List.all_eq_true.1 hall t hm)

/-- The card. -/
theorem card : Rows.ReadexprParenthesesCardSaid :=
  Claim7.holds_tied_plain_at .later [] _ _ _ _ said (fun _ h => by cases h) (by kernel_rfl) (fun _ h => by cases h) readexprParentheses_row_tie rfl ⟨rfl, rfl⟩ (by kernel_rfl) rfl plain (by kernel_rfl)

#print axioms card
end Go.Proofs.YtgcefodgjhlbeaaGreatDoor.readexprParentheses
