/- The law ShowExprs returns true at every input, and every argument reads behind the call as it read before. Conditions: the four listed variables (tables of Go's library and the package's letters) lie as the program's text lays them (the card ties them to the pruned copy of the project). -/
import Derived.Test.YtfkbifbodpelmaaDoorVM6
import Derived.Test.YtfkbifbodpelmaaDoorVF
/- The law ShowExprs returns true at every input. -/
namespace Go.Proofs.YtfkbifbodpelmaaDoor
open Go.RowKit Go.Maps Mth

set_option maxRecDepth 100000 in
set_option maxHeartbeats 16000000 in
theorem showExprs_any (bits : Int) (cv : Value) (zs : List Int) (w : World) (hz : Ints w cv zs) (hg : Gs w) :
    Calls Tryd.prog 4 #[.int .i64 bits, cv] w fun e w' => e = .returned (.bool true) ∧ Below w.heap.size w w' := by
  have HFi := Lib.hid (first8_any w hg)
  have HZ := Lib.hid hz
  have HG := Lib.hid hg
  obtain ⟨za, zc, rfl, -, -, -⟩ := hz
  have HFw : Hid (∀ V, Below w.heap.size w V → Calls Tryd.prog 10 #[.slice za zs.length zc] V fun e w' => e = .returned (.bool (decide (zs.length ≤ 60))) ∧ V = w') := fun V hb => S3.few_any _ zs V (HZ.out.lift hb)
  clear hg
  obtain ⟨zn, hzn⟩ : ∃ n, n = zs.length := ⟨_, rfl⟩
  rw [← hzn] at HZ HFw ⊢
  have HZn := Lib.hid hzn
  clear hzn
  cases h60 : decide (zn ≤ 60) with
  | false =>
    rw [h60] at HFw
    clear h60
    go_enter Tryd.func4, Tryd.ntmps4
    go_wp2_with fail
    go_at_call 6
    refine HFi.out.mono ?_
    rintro e w1 ⟨rfl, hb1⟩
    go_wp2_with fail
    go_at_call 10
    refine (HFw.out _ hb1).mono ?_
    rintro e w2 ⟨rfl, rfl⟩
    go_wp2
    go_ret
    exact ⟨rfl, hb1⟩
  | true =>
    rw [h60] at HFw
    have hle : zn ≤ 60 := by simpa using h60
    clear h60
    have HDa := Lib.hid (fun V => S3.datas_any bits V)
    have HMk := Lib.hid (MR.raw_any 5)
    go_enter Tryd.func4, Tryd.ntmps4
    go_wp2_with fail
    go_at_call 6
    refine HFi.out.mono ?_
    rintro e w1 ⟨rfl, hb1⟩
    have HB1 := Lib.hid hb1
    clear hb1 HFi
    go_wp2_with fail
    go_at_call 10
    refine (HFw.out _ HB1.out).mono ?_
    rintro e w2 ⟨rfl, rfl⟩
    clear HFw
    have hTq := tape_newE (w1 := w1) HZn.out (by rw [← HZn.out]; omega) HZ.out HB1.out
    have HTq := Lib.hid hTq
    have hal : Below w1.heap.size w1 (w1.alloc (.cells #[.slice za zn zc, .int .i64 0] 30)) := (Below.refl _ w1).alloc (Nat.le_refl _) _
    have HB2 := Lib.hid (HB1.out.trans (hal.mono HB1.out.size))
    have hsz : (w1.alloc (.cells #[.slice za zn zc, .int .i64 0] 30)).heap.size = w1.heap.size + 1 := by simp
    have HSz := Lib.hid hsz
    have HWl := Lib.hid HB1.out.size
    clear hTq hal hsz
    go_wp2_with fail
    go_at_call 12
    generalize (w1.alloc (.cells #[.slice za zn zc, .int .i64 0] 30)) = V2 at *
    generalize w1.heap.size = b at *
    refine (HDa.out V2).mono ?_
    rintro e V3 ⟨ds, dv, rfl, hds, hsd, hb3⟩
    have HDs := Lib.hid hds
    have HSd := Lib.hid hsd
    have HTq3 := Lib.hid (HTq.out.lift hb3)
    have HB3 := Lib.hid (HB2.out.trans (hb3.mono HB2.out.size))
    clear hds hsd hb3 HTq HB2 HDa
    go_wp2_with fail
    go_at_call 11
    refine (HMk.out 5 ds dv _ b V3.heap.size V3 rfl (by omega) HDs.out HSd.out (fun c hc => by have := HSz.out; omega) HTq3.out (Nat.le_refl _)).mono ?_
    rintro e V5 ⟨u, rfl, T, c, rfl, hrep, hok, -, hg5⟩
    obtain ⟨ka, kc, aa, ac, tk, tn, ti, th, ta, tl, tc, rfl⟩ := hrep.form
    have HMd := Lib.hid (me_new HB3.out HWl.out hrep hok hg5)
    clear hrep hok hg5 HSd HTq3 HB3 HMk HDs HSz HWl
    simp only [List.toArray] at HMd
    go_upto_region 7 with fail
    generalize (V5.alloc (.cells #[.int .i64 T.k, .int .i64 T.p, .string T.n, .int .i64 T.m, .slice ka T.kids.length kc, .slice aa T.arms.length ac, .int .i64 tk, .string tn, .int .i64 ti, .int .i64 th, .slice ta tl tc] 37)) = V6 at *
    generalize V5.heap.size = B at *
    have HG6 := Lib.hid (HG.out.lift HMd.out.low)
    have HA : Hid (∀ W, Below V6.heap.size V6 W → Calls Tryd.prog 13 #[.agg #[.int .i64 T.k, .int .i64 T.p, .string T.n, .int .i64 T.m, .slice ka T.kids.length kc, .slice aa T.arms.length ac, .int .i64 tk, .string tn, .int .i64 ti, .int .i64 th, .slice ta tl tc]] W fun e w' => e = .returned (.string ⟨(shE T).toArray⟩) ∧ Below W.heap.size W w') := fun W hW => showExpr_any T HMd.out.ok.1 (Nat.le_trans HMd.out.len5 (by omega)) _ _ W (HG6.out.lift hW) (HMd.out.rep.lift hW)
    have HBr : Hid (∀ W, Below V6.heap.size V6 W → Calls Tryd.prog 14 #[.agg #[.int .i64 T.k, .int .i64 T.p, .string T.n, .int .i64 T.m, .slice ka T.kids.length kc, .slice aa T.arms.length ac, .int .i64 tk, .string tn, .int .i64 ti, .int .i64 th, .slice ta tl tc]] W fun e w' => e = .returned (.string ⟨(shE T).toArray⟩) ∧ Below W.heap.size W w') := fun W hW => xs_any T HMd.out.ok.1 HMd.out.len5 _ _ W (HMd.out.rep.lift hW)
    have HLo := Lib.hid HMd.out.low
    obtain ⟨p0, p1, p2, p3, p4, p5, p6, p7, p8, p9, p10⟩ := HMd.out.box.all11
    have P0 := cell_regrown p0; have P1 := cell_regrown p1; have P2 := cell_regrown p2; have P3 := cell_regrown p3; have P4 := cell_regrown p4; have P5 := cell_regrown p5; have P6 := cell_regrown p6; have P7 := cell_regrown p7; have P8 := cell_regrown p8; have P9 := cell_regrown p9; have P10 := cell_regrown p10
    clear HMd HG6 HG HZ
    generalize (⟨(shE T).toArray⟩ : ByteArray) = s at *
    go_wp2_with fail
    refine wp_region_quiet_below (by kernel_rfl) (by kernel_rfl) ?_
    repeat (quiet_step (first
        | (go_at_call 13; exact Calls.regrown_of (HA.out _ (below_regrown _ _ _)))
        | (go_at_call 14; exact Calls.regrown_of (HBr.out _ (below_regrown _ _ _)))))
    refine wpQuiet_nil ?_
    intro _ hw'
    obtain ⟨⟨dq, osq⟩, hw''⟩ := hw'
    subst hw''
    have HL := Lib.hid (HLo.out.trans ((below_regrown V6 dq osq).mono HLo.out.size))
    clear p0 p1 p2 p3 p4 p5 p6 p7 p8 p9 p10 P0 P1 P2 P3 P4 P5 P6 P7 P8 P9 P10
    go_wp2
    go_ret
    exact ⟨rfl, HL.out⟩
end Go.Proofs.YtfkbifbodpelmaaDoor

/- The law ShowExprs returns true at every input, and every argument reads behind the call as it read before. Conditions: the four listed variables (tables of Go's library and the package's letters) lie as the program's text lays them (the card ties them to the pruned copy of the project). -/
namespace Go.Proofs.YtfkbifbodpelmaaDoor.showExprs
open Go.ChangeShapes Go.WideShapes Go.ChangeAt Go.ChangeMaps Go.RowKit Mth

set_option maxRecDepth 100000 in
/-- What the walk gives for every argument and every world in which the listed tables lie. -/
theorem contract (H : Type) (enc : TypeId × Value → H) (W : World) (base : Nat) (args : Array Value) (ds gs : List (DataW H)) (before : List MemPlace)
    (hval : ∀ (j : Nat) t v, Tryd.f4.params[j]? = some t → args[j]? = some v → Value.okWide Tryd.prog W .any base t v)
    (hW : DataW.Whole enc Tryd.prog Tryd.f4.params.toList Rows.showExprsSpec.vars false W args.toList ds gs before) (hL : laidMetH Tryd.prog laid4 W) :
    Calls Tryd.prog 4 args W fun e W' => ∃ v, e = .returned v ∧ Rows.showExprsSpec.post enc Tryd.prog Tryd.f4 false true false false W args v W' := by
  have hW' := hW
  obtain ⟨p, q, hA0, hV, rfl, hfz, hnd⟩ := hW
  have hA : DataW.TrodAll enc Tryd.prog W 0 (fun _ => true) true Tryd.f4.params.toList args.toList ds p := hA0
  rw [Tryd.params4] at hA hval
  obtain ⟨v0, vs0, d0, ds0, p0, q0, hargs, rfl, rfl, h0, r0⟩ := trodAll_cons hA
  obtain ⟨v1, vs1, d1, ds1, p1, q1, rfl, rfl, rfl, h1, r1⟩ := trodAll_cons r0
  obtain ⟨rfl, rfl, rfl⟩ := trodAll_nil r1
  obtain rfl : args = #[v0, v1] := by cases args; simp_all
  obtain ⟨rfl, rfl⟩ := trodVars_none hV
  obtain ⟨bits, rfl, rfl, rfl, -⟩ := open_int Tryd.underlying3 (hval 0 3 v0 rfl rfl) h0
  obtain ⟨zs, wzs⟩ := ints_open (hval 1 26 v1 rfl rfl) h1
  refine (showExprs_any bits v1 zs W wzs (gs_of_laid hL)).mono fun e W' ⟨he, hb⟩ => ?_
  subst he
  exact law_post rfl (by kernel_rfl) rfl hW' rfl rfl rfl hb

set_option maxRecDepth 100000 in
theorem lifted (os : Os) (started : os.Started) (H : Type) (enc : TypeId × Value → H) :
    ReturnsInHanded {} Tryd.checked os 4 .any (fun w args => (Rows.showExprsSpec.pre enc Tryd.prog Tryd.f4 [] false w args ∧ laidMetH Tryd.prog laid4 w) ∧ sizedMet enc Tryd.prog Tryd.f4 (OpenSpec.ofChange Rows.showExprsSpec) false w args)
      (Rows.showExprsSpec.post enc Tryd.prog Tryd.f4 false true false false) := by
  refine returnsInHanded_of_change_and (C := Tryd.checked) (X := fun w _ => laidMetH Tryd.prog laid4 w) (fun _ _ _ hh h => h.of_heap hh) Tryd.own started (by kernel_rfl) Tryd.func4
    (ChangeSpec.witness_shaped (enc := enc) (C := Tryd.checked) (os := os) (X := fun w _ => laidMetH Tryd.prog laid4 w) false (World.doorLaid Tryd.prog 400 os) #[.int .i64 0, .slice none 0 0] 8 rfl (World.shaped_of_RefB (by kernel_rfl) (by kernel_rfl)) (by kernel_rfl) (by kernel_rfl) (by kernel_rfl) (door_met os _)) ?_
  intro W base args ds gs before hval hW _ _ hL _
  exact contract H enc W base args ds gs before hval hW hL

theorem said : Rows.ShowExprsSaid :=
  OpenClaim.holds_of_wide 4 Tryd.f4 rfl rfl rfl rfl rfl rfl rfl ⟨rfl, rfl, rfl, rfl, rfl⟩ rfl rfl rfl rfl rfl (by kernel_rfl) Tryd.func4 (by kernel_rfl)
    (of_decide_eq_true (by kernel_rfl)) (by unfold Func.isWrapper; first | (rw [if_pos (by decide +kernel)]; kernel_rfl) | (rw [if_neg (by decide +kernel)]; exact ⟨rfl, rfl⟩))
    (fun os started H enc _ => lifted os started H enc)

/-- No parameter wants a stand-in; the program's own looks are off. -/
theorem plain (f : FuncId) (fn : Func) (hf : Tryd.pinned.checked.prog.funcNamed Rows.showExprsRow.func = some f) (hfn : Tryd.pinned.checked.prog.funcs[f]? = some fn) :
    false = Tryd.pinned.checked.prog.looks [] ∧ ∀ (j : Nat) t, fn.params[j]? = some t → Tryd.pinned.checked.prog.wantsStandIn t = false := by
  obtain rfl : f = 4 := Option.some.inj ((show Tryd.prog.funcNamed Rows.showExprsRow.func = some 4 by kernel_rfl).symm.trans hf) |>.symm
  obtain rfl : fn = Tryd.f4 := (Option.some.inj (Tryd.func4.symm.trans hfn)).symm
  refine ⟨by kernel_rfl, fun j t ht => ?_⟩
  rw [Tryd.params4] at ht
  have hm : t ∈ [3, 26] := by simpa using Array.mem_of_getElem? ht
  have hall : ([3, 26].all fun u => !Tryd.prog.wantsStandIn u) = true := by kernel_rfl
  exact (show Tryd.prog.wantsStandIn t = false by simpa using List.all_eq_true.1 hall t hm)

/-- The card. -/
theorem card : Rows.ShowExprsCardSaid :=
  Claim7.holds_tied_plain_at .later [] _ _ _ _ said (fun _ h => by cases h) (by kernel_rfl) (fun _ h => by cases h) showExprs_row_tie rfl ⟨rfl, rfl⟩ (by kernel_rfl) rfl plain (by kernel_rfl)

#print axioms card
end Go.Proofs.YtfkbifbodpelmaaDoor.showExprs
