import Derived.Test.YtbbplpmjpadgiaaGreatDoorTyKit
import Derived.Test.YtbbplpmjpadgiaaGreatDoorExMa
import Derived.LaidMore
import Derived.MakeChecks
import Derived.Stop.LaidErr
import Derived.Test.YtbbplpmjpadgiaaGreatDoorExMj
import Derived.Deep.LoopGhost
/- What the laws of the readexpr rows share: the seven listed variables. -/
namespace Go.Proofs.YtbbplpmjpadgiaaGreatDoor
open Go.ChangeShapes Go.WideShapes Go.ChangeAt Go.RowKit Go.Deep Mth

theorem Tryz.gUn : Tryz.prog.globalNamed "typedholes/readexpr.errUnexpected" = some 0 := by kernel_rfl
theorem Tryz.gUnType : (Tryz.prog.globals[0]?).map (·.type) = some 115 := by kernel_rfl
theorem Tryz.cellsEs : Tryz.prog.cellsOf 200 = 1 := by kernel_rfl
theorem Tryz.cellsStr : Tryz.prog.cellsOf 9 = 1 := by kernel_rfl
theorem Tryz.star : "*" ++ "errors.errorString" = "*errors.errorString" := by decide
theorem Tryz.rowEs (u : TypeId) (h : Tryz.prog.typeName? 3 u = some "*errors.errorString") : u = 198 :=
  typeName_ptr_named (nm := "errors.errorString") (by rw [Tryz.star]; kernel_rfl) (by kernel_rfl) (by decide) u (by rw [Tryz.star]; exact h)
def laid7 : List (String × DataW Unit) := Rows.readexprStartsRow.laid
theorem laid7_plain : (laid7.filter fun x => x.2.handleName?.isNone) = [("math/bits.deBruijn32tab", Rows.laid_math_bits_deBruijn32tab), ("math/bits.deBruijn64tab", Rows.laid_math_bits_deBruijn64tab), ("internal/strconv.uint64pow10", Rows.laid_internal_strconv_uint64pow10), ("strconv.ErrRange", Rows.laid_strconv_ErrRange), ("strconv.ErrSyntax", Rows.laid_strconv_ErrSyntax), ("typedholes/readexpr.errUnexpected", Rows.laid_typedholes_readexpr_errUnexpected)] := by kernel_rfl
theorem laid7_handle : (laid7.filter fun x => x.2.handleName?.isSome) = laid1 := by kernel_rfl
/-- What the condition gives a walk: the two variables that are read. -/
theorem g2_of_laid {W : World} (h : laidMetH Tryz.prog laid7 W) : ∃ ea, G2 ea W := by
  unfold laidMetH at h
  rw [laid7_plain, laid7_handle] at h
  have h' : laidMet Tryz.prog [("math/bits.deBruijn32tab", Rows.laid_math_bits_deBruijn32tab), ("math/bits.deBruijn64tab", Rows.laid_math_bits_deBruijn64tab), ("internal/strconv.uint64pow10", Rows.laid_internal_strconv_uint64pow10), ("strconv.ErrRange", Rows.laid_strconv_ErrRange), ("strconv.ErrSyntax", Rows.laid_strconv_ErrSyntax), ("typedholes/readexpr.errUnexpected", Rows.laid_typedholes_readexpr_errUnexpected)] W ∧ handlesMet Tryz.prog laid1 W := h
  have hgl : Gl W := gl_of_laid (show laidMetH Tryz.prog laid1 W from ⟨laidMet_nil _ _, h'.2⟩)
  obtain ⟨a, s, hv, -, -, -⟩ := laid_sentinel h'.1.tail.tail.tail.tail.tail Tryz.gUn Tryz.gUnType Tryz.underlying115 Tryz.rowEs Tryz.underlying198 Tryz.underlying200 rfl rfl Tryz.underlying9 Tryz.cellsEs Tryz.cellsStr
  refine ⟨a, hgl, ?_⟩
  show W.cell? ⟨0, 0, none⟩ = _
  simpa [EV] using World.var?_cell Tryz.gUn hv 0
theorem door_met (os : Os) (args : Array Value) : laidMetH Tryz.prog laid7 ((World.doorLaid Tryz.prog 400 os).forCall (fun _ _ => 0) ⟨#[], args, []⟩).memory :=
  laidMetH_of_parts3 (fuel := 8) (laidMet_of_run' 8 (by kernel_rfl) (by kernel_rfl)) (by kernel_rfl) (by kernel_rfl)
end Go.Proofs.YtbbplpmjpadgiaaGreatDoor

/- The law ReadexprStarts returns true at every input. -/
namespace Go.Proofs.YtbbplpmjpadgiaaGreatDoor
open Go.RowKit Go.Maps Go.Sort Mth

theorem nine_new {w : World} {Z : TypeId} {n : Nat} (hn : n = w.heap.size) (r s t : Raw) : ∀ (j : Nat) (u : Value), (rawRow [r, s, t])[j]? = some u → (w.alloc (.cells #[.int .i64 r.k, .string r.x, .int .i64 r.p, .int .i64 s.k, .string s.x, .int .i64 s.p, .int .i64 t.k, .string t.x, .int .i64 t.p] Z)).cell? ((⟨n, 0, none⟩ : Addr).add j) = some u := by
  subst hn
  intro j u hj
  have hl := (List.getElem?_eq_some_iff.1 hj).1
  rw [rawRow_len] at hl
  have hc : j = 0 ∨ j = 1 ∨ j = 2 ∨ j = 3 ∨ j = 4 ∨ j = 5 ∨ j = 6 ∨ j = 7 ∨ j = 8 := by simp at hl; omega
  rcases hc with rfl | rfl | rfl | rfl | rfl | rfl | rfl | rfl | rfl
  all_goals
    simp [rawRow, rawC] at hj
    subst hj
    simp [Addr.add]
theorem nine_one (r s t : Raw) : ∀ u ∈ rawRow [r, s, t], u.oneCell' = true := by
  intro u hu
  simp [rawRow, rawC] at hu
  rcases hu with h | h | h | h | h | h | h | h | h <;> subst h <;> rfl
theorem row_raw3 {w : World} {base : Nat} {v : Value} {ts : List Tok} (r s t : Raw) (h : w.ownsRow base 44 3 v (ts.length + 3) (row3 ts ++ rawRow [r, s, t])) (hok : TkOk ts) (hr : r.x.size ≤ maxLen) (hs : s.x.size ≤ maxLen) (ht : t.x.size ≤ maxLen) : ∃ (R : List Raw) (a : Option Addr) (cap : Nat), v = .slice a R.length cap ∧ RawAt w (.slice a R.length cap) R ∧ RawOk R := by
  have e : (ts.map tokRaw ++ [r, s, t]).length = ts.length + 3 := by simp
  rw [row3_raw, ← rawRow_append, ← e] at h
  have h' := rawAt_of_row h
  obtain ⟨a, cap, hv, rest⟩ := h'
  refine ⟨_, a, cap, hv, ⟨a, cap, rfl, rest⟩, by rw [e]; have := hok.1; omega, fun q hq => ?_⟩
  rcases List.mem_append.1 hq with hq | hq
  · obtain ⟨t, ht, rfl⟩ := List.mem_map.1 hq
    have := (hok.2 t ht).1
    show (⟨t.text.toArray⟩ : ByteArray).size ≤ maxLen
    have e2 : (⟨t.text.toArray⟩ : ByteArray).size = t.text.length := by rw [← bl_len, bl_mk]
    rw [e2]; unfold maxLen; omega
  · simp at hq
    rcases hq with rfl | rfl | rfl
    · exact hr
    · exact hs
    · exact ht

set_option maxRecDepth 100000 in
set_option maxHeartbeats 8000000 in
theorem readexprStarts_any (ea : Addr) (kind piece : Int) (s : ByteArray) (w : World) (hs : s.size ≤ maxLen) (hg : G2 ea w) :
    Calls Tryz.prog 8 #[.int .i64 kind, .int .i64 piece, .string s] w fun e w' => e = .returned (.bool true) ∧ Below w.heap.size w w' := by
  have HFi := Lib.hid (first6_any ea w hg)
  clear hg
  unfold maxLen at hs
  cases h20 : decide (20 < (s.size : Int)) with
  | true =>
    go_enter Tryz.func8, Tryz.ntmps8
    go_wp2_with (go_at_call 21; refine HFi.out.mono ?_; rintro e w1 ⟨rfl, hb1⟩)
    go_ret
    exact ⟨rfl, hb1⟩
  | false =>
    obtain ⟨m, hm⟩ : ∃ m : Int, kind % 6 = m := ⟨_, rfl⟩
    have HMd : Hid (∀ w, Calls Tryz.prog 19 #[.int .i64 kind, .int .i64 6] w fun e w' => e = .returned (.int .i64 m) ∧ w = w') := fun w => by have := mod_any kind 6 w (by omega) (by omega); rwa [hm] at this
    clear hm
    go_enter Tryz.func8, Tryz.ntmps8
    go_wp2_with fail
    go_at_call 21
    refine HFi.out.mono ?_
    rintro e w1 ⟨rfl, hb1⟩
    have HB1 := Lib.hid hb1
    have HBa := Lib.hid (keepAlloc (.cells #[.int .i64 piece] 3) hb1)
    have HWd := Lib.hid (words6_any _ [piece] (w1.alloc (.cells #[.int .i64 piece] 3)) (ints_one rfl piece) (by simp))
    clear hb1 HFi
    go_wp2_with fail
    go_at_call 23
    refine HWd.out.mono ?_
    rintro e w2 ⟨ts, ⟨v, rfl, hrow, hb2⟩, hok, -⟩
    have HB2 := Lib.hid (keepCall HBa.out hb2)
    have HOk := Lib.hid hok
    have hl := hok.1
    have hal : Below w2.heap.size w2 (w2.alloc (.cells #[.int .i64 kind, .string s, .int .i64 0, .int .i64 m, .string ⟨#[63]⟩, .int .i64 0, .int .i64 m, .string ⟨#[123]⟩, .int .i64 0] 44)) := (Below.refl _ w2).alloc (Nat.le_refl _) _
    have HOwn := Lib.hid (ownsRow_below (ownsRow_base hrow (Nat.le_trans HB1.out.size (by simp : w1.heap.size ≤ (w1.alloc (.cells #[.int .i64 piece] 3)).heap.size))) hal)
    have HBl := Lib.hid (keepCall HB2.out hal)
    have hbs := HBl.out.size
    obtain ⟨inf, hi, hz0, hz1, hz2⟩ := info_parts Tryz.info44
    have HIn := Lib.hid (And.intro hi (And.intro hz0 (And.intro hz1 hz2)))
    have hN1 : ts.length + 3 ≤ maxLen := by unfold maxLen; omega
    have hN2 : (ts.length + 3) * 32 ≤ 140737488355328 := by omega
    have HNN := Lib.hid (And.intro hN1 hN2)
    have HS0 := Lib.hid hs
    have hc40 : (⟨#[63]⟩ : ByteArray).size ≤ maxLen ∧ (⟨#[123]⟩ : ByteArray).size ≤ maxLen := by unfold maxLen; decide +kernel
    have HC40 := Lib.hid hc40
    clear hc40
    clear hrow hb2 hok hal hi hz0 hz1 hz2 hN1 hN2 HB1 HBa HWd
    go_wp2_with (first
      | (go_at_call 19; refine (HMd.out _).mono ?_; rintro e w' ⟨rfl, rfl⟩)
      | (at_builtin; refine wpList_append_own_at _ rfl _ _ 35 rfl w.heap.size 44 inf _ 3 32 Tryz.underlying35 HIn.out.1 HIn.out.2.1 HIn.out.2.2.1 HIn.out.2.2.2 rfl (by decide) v ts.length (row3 ts) rfl HOwn.out _ 3 3 (rawRow [⟨kind, s, 0⟩, ⟨m, ⟨#[63]⟩, 0⟩, ⟨m, ⟨#[123]⟩, 0⟩]) rfl (by rw [rawRow_len]; rfl) (nine_new rfl ⟨kind, s, 0⟩ ⟨m, ⟨#[63]⟩, 0⟩ ⟨m, ⟨#[123]⟩, 0⟩) (nine_one _ _ _) HNN.out.1 HNN.out.2 hbs ?_; intro v' V hown' hg' _ _; obtain ⟨R, a', c', rfl, hraw, hrok⟩ := row_raw3 _ _ _ hown' HOk.out (by unfold maxLen; exact HS0.out) HC40.out.1 HC40.out.2))
    have HBV := Lib.hid (Below.grown HBl.out hg' HBl.out.size (fun k hk => (HOwn.out.lt k hk).1))
    clear hown' hg' HOwn HBl hbs HNN HIn HB2 HMd HOk HC40 HS0
    obtain ⟨a2, c2, hv2, hcap2, hj2⟩ := hraw
    have HJ := Lib.hid hj2
    have HRk := Lib.hid hrok
    have hRl := hrok.1
    obtain ⟨rfl, rfl⟩ : a2 = a' ∧ c2 = c' := by simp at hv2; exact ⟨hv2.1.symm, hv2.2.symm⟩
    clear hj2 hrok hv2
    obtain ⟨N, hN⟩ : ∃ N, N = R.length := ⟨_, rfl⟩
    rw [← hN] at hRl hcap2 ⊢
    have HNl := Lib.hid hN
    clear hN
    go_loopg [29] N (fun g i wr => ∃ j : Nat, j + g = N ∧ i = .int .i64 j ∧ Hid (Below V.heap.size V wr))
    case atStart => exact ⟨0, by omega, rfl, Below.refl _ V⟩
    case round =>
      obtain ⟨j, hj, rfl, HBr⟩ := hrel
      by_cases hlt : j < N
      · obtain ⟨g, rfl⟩ : ∃ g, gk = g + 1 := ⟨gk - 1, by omega⟩
        obtain ⟨r, hr⟩ : ∃ r, R[j]? = some r := ⟨_, List.getElem?_eq_getElem (by rw [← HNl.out]; exact hlt)⟩
        obtain ⟨ad, rfl, q0, q1, q2⟩ := HJ.out j r hr
        have hrx := HRk.out.2 r (List.mem_of_getElem? hr)
        have HRx : Hid (r.x.size ≤ 9223372036854775807) := by unfold maxLen at hrx; exact hrx
        obtain ⟨rk, rx, rp⟩ := r
        dsimp only at q0 q1 q2 HRx
        have HBx : Hid (∀ X, Below V.heap.size V (wr.alloc X)) := fun X => keepAlloc X HBr.out
        have e0 : wr.cell? (ad.add (j * 3)) = some (.int .i64 rk) := by rw [HBr.out.cell (World.block_lt_of_cell? _ _ q0)]; exact q0
        have e1 : wr.cell? ⟨(ad.add (j * 3)).block, (ad.add (j * 3)).off + 1, none⟩ = some (.string rx) := by rw [HBr.out.cell (World.block_lt_of_cell? _ _ q1)]; exact q1
        have e2 : wr.cell? ⟨(ad.add (j * 3)).block, (ad.add (j * 3)).off + 2, none⟩ = some (.int .i64 rp) := by rw [HBr.out.cell (World.block_lt_of_cell? _ _ q2)]; exact q2
        have hji : (j : Int) < (N : Int) := by omega
        have hj0 : (0 : Int) ≤ (j : Int) := by omega
        have hn := tok_cells (heap_alloc_new wr (.cells #[.int .i64 rk, .string rx, .int .i64 rp] 44))
        have HN := Lib.hid hn
        have HVa := Lib.hid (fun w => valid_any rk rx rp w HRx.out)
        have HSa := Lib.hid (fun w => xStarts_any rk rx rp w)
        have HSb := Lib.hid (fun w => rstarts6_any rk rx rp w)
        clear hn q0 q1 q2 hr hrx
        generalize valB rk rx rp = vb at *
        generalize stB rk rx = sb at *
        cases vb <;> cases sb
        all_goals
          go_upto_region 8 with fail
          have HW := Lib.hid (HBx.out (.cells #[.int .i64 rk, .string rx, .int .i64 rp] 44))
          clear e0 e1 e2
          generalize (wr.alloc (.cells #[.int .i64 rk, .string rx, .int .i64 rp] 44)) = W at *
          obtain ⟨⟨c0, c1, c2⟩, -⟩ := HN.out
          have G0 := cell_regrown c0
          have G1 := cell_regrown c1
          have G2 := cell_regrown c2
          refine wp_region_quiet_below (by kernel_rfl) (by kernel_rfl) ?_
          repeat (quiet_step ((first | (go_at_call 34; exact Calls.regrown_of (HVa.out _)) | (go_at_call 35; exact Calls.regrown_of (HSa.out _)) | (go_at_call 36; exact Calls.regrown_of (HSb.out _)))))
          refine wpQuiet_nil ?_
          intro _ hw'
          obtain ⟨⟨dq, osq⟩, hw''⟩ := hw'
          subst hw''
          have HZ := Lib.hid (HW.out.trans ((below_regrown W dq osq).mono HW.out.size))
          clear c0 c1 c2 G0 G1 G2 HN HW HBx HBr
          generalize grow (redrawn W dq) osq = Z at *
          go_wp2
          go_roundg g
          case measure => omega
          case rel => exact ⟨j + 1, by omega, by go_num, HZ⟩
      · obtain rfl : j = N := by omega
        have HE := Lib.hid (HBV.out.trans (HBr.out.mono HBV.out.size))
        go_wp2
        go_ret
        exact ⟨rfl, HE.out⟩
end Go.Proofs.YtbbplpmjpadgiaaGreatDoor

/- The law ReadexprStarts returns true at every input, and every argument reads behind the call as it read before. Conditions: the seven listed variables lie as the program's text lays them (the card ties it to the pruned copy of the project). -/
namespace Go.Proofs.YtbbplpmjpadgiaaGreatDoor.readexprStarts
open Go.ChangeShapes Go.WideShapes Go.ChangeAt Go.ChangeMaps Go.RowKit

set_option maxRecDepth 100000 in
/-- What the walk gives for every argument and every world in which the listed variables lie. -/
theorem contract (H : Type) (enc : TypeId × Value → H) (W : World) (base : Nat) (args : Array Value) (ds gs : List (DataW H)) (before : List MemPlace)
    (hval : ∀ (j : Nat) t v, Tryz.f8.params[j]? = some t → args[j]? = some v → Value.okWide Tryz.prog W .any base t v)
    (hW : DataW.Whole enc Tryz.prog Tryz.f8.params.toList Rows.readexprStartsSpec.vars false W args.toList ds gs before) (hL : laidMetH Tryz.prog laid7 W) :
    Calls Tryz.prog 8 args W fun e W' => ∃ v, e = .returned v ∧ Rows.readexprStartsSpec.post enc Tryz.prog Tryz.f8 false true false false W args v W' := by
  have hW' := hW
  obtain ⟨p, q, hA0, hV, rfl, hfz, hnd⟩ := hW
  have hA : DataW.TrodAll enc Tryz.prog W 0 (fun _ => true) true Tryz.f8.params.toList args.toList ds p := hA0
  rw [Tryz.params8] at hA hval
  obtain ⟨v0, vs0, d0, ds0, p0, q0, hargs, rfl, rfl, h0, r0⟩ := trodAll_cons hA
  obtain ⟨v1, vs1, d1, ds1, p1, q1, rfl, rfl, rfl, h1, r1⟩ := trodAll_cons r0
  obtain ⟨v2, vs2, d2, ds2, p2, q2, rfl, rfl, rfl, h2, r2⟩ := trodAll_cons r1
  obtain ⟨rfl, rfl, rfl⟩ := trodAll_nil r2
  obtain rfl : args = #[v0, v1, v2] := by cases args; simp_all
  obtain ⟨rfl, rfl⟩ := trodVars_none hV
  obtain ⟨k, rfl, rfl, rfl, wk⟩ := open_int Tryz.underlying3 (hval 0 3 v0 rfl rfl) h0
  obtain ⟨z, rfl, rfl, rfl, wz⟩ := open_int Tryz.underlying3 (hval 1 3 v1 rfl rfl) h1
  obtain ⟨s, rfl, rfl, rfl, ws⟩ := open_string Tryz.underlying9 (hval 2 9 v2 rfl rfl) h2
  obtain ⟨ea, hg⟩ := g2_of_laid hL
  refine (readexprStarts_any ea k z s W ws hg).mono fun e W' ⟨he, hb⟩ => ?_
  subst he
  exact law_post rfl (by kernel_rfl) rfl hW' rfl rfl rfl hb

set_option maxRecDepth 100000 in
theorem lifted (os : Os) (started : os.Started) (H : Type) (enc : TypeId × Value → H) :
    ReturnsInHanded {} Tryz.checked os 8 .any (fun w args => (Rows.readexprStartsSpec.pre enc Tryz.prog Tryz.f8 [] false w args ∧ laidMetH Tryz.prog laid7 w) ∧ sizedMet enc Tryz.prog Tryz.f8 (OpenSpec.ofChange Rows.readexprStartsSpec) false w args)
      (Rows.readexprStartsSpec.post enc Tryz.prog Tryz.f8 false true false false) := by
  refine returnsInHanded_of_change_and (C := Tryz.checked) (X := fun w _ => laidMetH Tryz.prog laid7 w) (fun _ _ _ hh h => h.of_heap hh) Tryz.own started (by kernel_rfl) Tryz.func8
    (ChangeSpec.witness_shaped (enc := enc) (C := Tryz.checked) (os := os) (X := fun w _ => laidMetH Tryz.prog laid7 w) false (World.doorLaid Tryz.prog 400 os) #[.int .i64 0, .int .i64 0, .string ⟨#[]⟩] 8 rfl (World.shaped_of_RefB (by kernel_rfl) (by kernel_rfl)) (by kernel_rfl) (by kernel_rfl) (by kernel_rfl) (door_met os _)) ?_
  intro W base args ds gs before hval hW _ _ hL _
  exact contract H enc W base args ds gs before hval hW hL

theorem said : Rows.ReadexprStartsSaid :=
  OpenClaim.holds_of_wide 8 Tryz.f8 rfl rfl rfl rfl rfl rfl rfl ⟨rfl, rfl, rfl, rfl, rfl⟩ rfl rfl rfl rfl rfl (by kernel_rfl) Tryz.func8 (by kernel_rfl)
    (of_decide_eq_true (by kernel_rfl)) (by unfold Func.isWrapper; first | (rw [if_pos (by decide +kernel)]; kernel_rfl) | (rw [if_neg (by decide +kernel)]; exact ⟨rfl, rfl⟩))
    (fun os started H enc _ => lifted os started H enc)

/-- No parameter wants a stand-in; the program's own looks are off. -/
theorem plain (f : FuncId) (fn : Func) (hf : Tryz.pinned.checked.prog.funcNamed Rows.readexprStartsRow.func = some f) (hfn : Tryz.pinned.checked.prog.funcs[f]? = some fn) :
    true = Tryz.pinned.checked.prog.looks [] ∧ ∀ (j : Nat) t, fn.params[j]? = some t → Tryz.pinned.checked.prog.wantsStandIn t = false := by
  obtain rfl : f = 8 := Option.some.inj ((show Tryz.prog.funcNamed Rows.readexprStartsRow.func = some 8 by kernel_rfl).symm.trans hf) |>.symm
  obtain rfl : fn = Tryz.f8 := (Option.some.inj (Tryz.func8.symm.trans hfn)).symm
  refine ⟨by kernel_rfl, fun j t ht => ?_⟩
  rw [Tryz.params8] at ht
  have hm : t ∈ [3, 3, 9] := by simpa using Array.mem_of_getElem? ht
  have hall : ([3, 3, 9].all fun u => !Tryz.prog.wantsStandIn u) = true := by kernel_rfl
  exact (show Tryz.prog.wantsStandIn t = false by simpa using List.all_eq_true.1 hall t hm)

/-- The card. -/
theorem card : Rows.ReadexprStartsCardSaid :=
  Claim7.holds_tied_plain_at .later [] _ _ _ _ said (fun _ h => by cases h) (by kernel_rfl) (fun _ h => by cases h) readexprStarts_row_tie rfl ⟨rfl, rfl⟩ (by kernel_rfl) rfl plain (by kernel_rfl)

#print axioms card
end Go.Proofs.YtbbplpmjpadgiaaGreatDoor.readexprStarts
