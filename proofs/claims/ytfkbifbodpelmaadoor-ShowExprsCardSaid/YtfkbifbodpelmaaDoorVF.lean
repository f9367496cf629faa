import Derived.Test.YtfkbifbodpelmaaDoorVE5
import Derived.Test.YtfkbifbodpelmaaDoorCards
import Derived.Test.YtfkbifbodpelmaaDoorTie
import Derived.Deep.Slices
import Derived.ProofKit
import Derived.OpenShut
import Derived.LaidMore
import Derived.MakeChecks
import Derived.Lib.LaidTab
import Derived.Deep.DeepHandedRow
import Derived.Stop.LaidErr
import Derived.LaidHandle
import Derived.LaidLaws
import Derived.ChangeVars
import Derived.JoinedOf
import Derived.Stop.Joined
import Derived.SevenTiedAt
/- The examples of the chapter: law 8's first. -/
namespace Go.Proofs.YtfkbifbodpelmaaDoor
open Go.RowKit Go.Maps Mth

theorem refVar_any (i : Int) (w : World) : Calls Tryd.prog 25 #[.int .i64 i] w fun e w' => e = .returned (leafV 1 ⟨#[]⟩ i 0) ∧ Below w.heap.size w w' := by
  go_enter Tryd.func25, Tryd.ntmps25
  go_wp2
  go_returns
  exact ⟨rfl, (Below.refl _ w).alloc (Nat.le_refl _) _⟩
theorem refBound_any (i : Int) (w : World) : Calls Tryd.prog 24 #[.int .i64 i] w fun e w' => e = .returned (leafV 2 ⟨#[]⟩ i 0) ∧ Below w.heap.size w w' := by
  go_enter Tryd.func24, Tryd.ntmps24
  go_wp2
  go_returns
  exact ⟨rfl, (Below.refl _ w).alloc (Nat.le_refl _) _⟩

def vrE (f : ByteArray) : Ex := .mk 1 0 f 0 zTy [] []
def apE (f : ByteArray) (a : Ex) : Ex := .mk 5 0 ⟨#[]⟩ 0 zTy [vrE f, a] []
set_option maxRecDepth 100000 in
set_option maxHeartbeats 3200000 in
theorem func1_any (f : ByteArray) (hf : f.size ≤ maxLen) (a : Ex) (c : List Value) (S : Nat → Prop) (w : World) (hS : ∀ g, w.heap.size ≤ g → S g) (h : RepE w S a c) :
    Calls Tryd.prog 22 #[.string f, .agg c.toArray] w fun e w' => ∃ cu : List Value, e = .returned (.agg cu.toArray) ∧ RepE w' S (apE f a) cu ∧ Below w.heap.size w w' := by
  have hb0 := h.bound
  obtain ⟨ka, kc, aa, ac, tk, tn, ti, th, ta, tl, tc, rfl⟩ := h.form
  have hal : Below w.heap.size w ((w.alloc (.cells #[.int .i64 a.k, .int .i64 a.p, .string a.n, .int .i64 a.m, .slice ka a.kids.length kc, .slice aa a.arms.length ac, .int .i64 tk, .string tn, .int .i64 ti, .int .i64 th, .slice ta tl tc] 37)).alloc (.cells #[.int .i64 0, .int .i64 0, .string ⟨#[]⟩, .int .i64 0, .slice none 0 0, .slice none 0 0, .int .i64 0, .string ⟨#[]⟩, .int .i64 0, .int .i64 0, .slice none 0 0] 37)) := ((Below.refl _ w).alloc (Nat.le_refl _) _).alloc (by simp) _
  have hsz : ((w.alloc (.cells #[.int .i64 a.k, .int .i64 a.p, .string a.n, .int .i64 a.m, .slice ka a.kids.length kc, .slice aa a.arms.length ac, .int .i64 tk, .string tn, .int .i64 ti, .int .i64 th, .slice ta tl tc] 37)).alloc (.cells #[.int .i64 0, .int .i64 0, .string ⟨#[]⟩, .int .i64 0, .slice none 0 0, .slice none 0 0, .int .i64 0, .string ⟨#[]⟩, .int .i64 0, .int .i64 0, .slice none 0 0] 37)).heap.size = w.heap.size + 1 + 1 := by simp
  have HSz := Lib.hid hsz
  have HB0 := Lib.hid hal
  have HBZ : Hid (BoxC 37 ((w.alloc (.cells #[.int .i64 a.k, .int .i64 a.p, .string a.n, .int .i64 a.m, .slice ka a.kids.length kc, .slice aa a.arms.length ac, .int .i64 tk, .string tn, .int .i64 ti, .int .i64 th, .slice ta tl tc] 37)).alloc (.cells #[.int .i64 0, .int .i64 0, .string ⟨#[]⟩, .int .i64 0, .slice none 0 0, .slice none 0 0, .int .i64 0, .string ⟨#[]⟩, .int .i64 0, .int .i64 0, .slice none 0 0] 37)) (w.heap.size + 1) zExC) := by
    have := zx_made (w.alloc (.cells #[.int .i64 a.k, .int .i64 a.p, .string a.n, .int .i64 a.m, .slice ka a.kids.length kc, .slice aa a.arms.length ac, .int .i64 tk, .string tn, .int .i64 ti, .int .i64 th, .slice ta tl tc] 37))
    rw [World.size_alloc] at this
    exact this
  have HBX : Hid (BoxC 37 ((w.alloc (.cells #[.int .i64 a.k, .int .i64 a.p, .string a.n, .int .i64 a.m, .slice ka a.kids.length kc, .slice aa a.arms.length ac, .int .i64 tk, .string tn, .int .i64 ti, .int .i64 th, .slice ta tl tc] 37)).alloc (.cells #[.int .i64 0, .int .i64 0, .string ⟨#[]⟩, .int .i64 0, .slice none 0 0, .slice none 0 0, .int .i64 0, .string ⟨#[]⟩, .int .i64 0, .int .i64 0, .slice none 0 0] 37)) w.heap.size [.int .i64 a.k, .int .i64 a.p, .string a.n, .int .i64 a.m, .slice ka a.kids.length kc, .slice aa a.arms.length ac, .int .i64 tk, .string tn, .int .i64 ti, .int .i64 th, .slice ta tl tc]) := BoxC.lift (BoxC.made _ w [.int .i64 a.k, .int .i64 a.p, .string a.n, .int .i64 a.m, .slice ka a.kids.length kc, .slice aa a.arms.length ac, .int .i64 tk, .string tn, .int .i64 ti, .int .i64 th, .slice ta tl tc]) ((Below.refl _ _).alloc (Nat.le_refl _) _)
  have HRa : Hid (RepE ((w.alloc (.cells #[.int .i64 a.k, .int .i64 a.p, .string a.n, .int .i64 a.m, .slice ka a.kids.length kc, .slice aa a.arms.length ac, .int .i64 tk, .string tn, .int .i64 ti, .int .i64 th, .slice ta tl tc] 37)).alloc (.cells #[.int .i64 0, .int .i64 0, .string ⟨#[]⟩, .int .i64 0, .slice none 0 0, .slice none 0 0, .int .i64 0, .string ⟨#[]⟩, .int .i64 0, .int .i64 0, .slice none 0 0] 37)) (fun g => S g ∧ g ≠ w.heap.size + 1) a [.int .i64 a.k, .int .i64 a.p, .string a.n, .int .i64 a.m, .slice ka a.kids.length kc, .slice aa a.arms.length ac, .int .i64 tk, .string tn, .int .i64 ti, .int .i64 th, .slice ta tl tc]) := (hb0.lift hal).imp fun g hg => ⟨hg.1, by have := hg.2; omega⟩
  have HS := Lib.hid hS
  clear h hb0 hal hsz hS
  go_enter Tryd.func22, Tryd.ntmps22
  go_upto_region 1 with fail
  generalize ((w.alloc (.cells #[.int .i64 a.k, .int .i64 a.p, .string a.n, .int .i64 a.m, .slice ka a.kids.length kc, .slice aa a.arms.length ac, .int .i64 tk, .string tn, .int .i64 ti, .int .i64 th, .slice ta tl tc] 37)).alloc (.cells #[.int .i64 0, .int .i64 0, .string ⟨#[]⟩, .int .i64 0, .slice none 0 0, .slice none 0 0, .int .i64 0, .string ⟨#[]⟩, .int .i64 0, .int .i64 0, .slice none 0 0] 37)) = V at *
  have hkid := two_newE (repE_leaf V (fun g => S g ∧ g ≠ w.heap.size + 1) 1 0 f 0 hf) HRa.out 37 (w.heap.size + 1 + 1) HSz.out.symm (S' := fun g => S g ∧ g ≠ w.heap.size + 1) (fun _ h => h) ⟨HS.out _ (by omega), by omega⟩
  have HRes := Lib.hid (repE_kids 5 0 ⟨#[]⟩ 0 (Nat.zero_le _) hkid)
  have hal2 : Below V.heap.size V (V.alloc (.cells #[.int .i64 1, .int .i64 0, .string f, .int .i64 0, .slice none 0 0, .slice none 0 0, .int .i64 0, .string ⟨#[]⟩, .int .i64 0, .int .i64 0, .slice none 0 0, .int .i64 a.k, .int .i64 a.p, .string a.n, .int .i64 a.m, .slice ka a.kids.length kc, .slice aa a.arms.length ac, .int .i64 tk, .string tn, .int .i64 ti, .int .i64 th, .slice ta tl tc] 37)) := (Below.refl _ V).alloc (Nat.le_refl _) _
  have HZ2 := Lib.hid (HBZ.out.lift hal2)
  have HB2 := Lib.hid (HB0.out.trans (hal2.mono HB0.out.size))
  clear hkid hal2
  obtain ⟨b0, b1, b2, b3, b4, b5, b6, b7, b8, b9, b10⟩ := HBX.out.all11
  have hVs := HSz.out
  go_wp2_with (refine wpList_storeC rfl _ _ rfl _ _ _ HZ2.out rfl rfl HRes.out.size HRes.out.len0 HRes.out.len.2 ?_; intro v8 hB8 hg8 hs8)
  obtain ⟨e0, e1, e2, e3, e4, e5, e6, e7, e8, e9, e10⟩ := hB8.all11
  refine bodyPost_ret (by simp [results, Tryd.results22, go_sem, e0, e1, e2, e3, e4, e5, e6, e7, e8, e9, e10]; try rfl) rfl ?_
  refine ⟨_, rfl, HRes.out.kept (fun g hg => hg.1) (fun g hg hl => hg8.block g hl (by intro e; have := Option.some.inj e; exact hg.2 this)), Below.grown HB2.out hg8 HB2.out.size (fun k hk => by cases hk; omega)⟩
def exF : Ex := apE ⟨#[102]⟩ (apE ⟨#[103]⟩ (vrE ⟨#[120]⟩))
def bdT (i : Int) : Ty := .mk 2 ⟨#[]⟩ i 0 []
def vrT (i : Int) : Ty := .mk 1 ⟨#[]⟩ i 0 []
def arT (a c : Ty) : Ty := .mk 4 arrN 0 0 [a, c]
def exT : Ty := arT (arT (bdT 0) (bdT 1)) (vrT 1)
theorem exF_src : srcE exF = true := by decide +kernel
theorem exF_text : shE exF = [102, 32, 40, 103, 32, 120, 41] := by decide +kernel
theorem exT_ok : wOk exT = true := by decide +kernel
theorem exT_text : wT exT = [40, 97, 32, 45, 62, 32, 98, 41, 32, 45, 62, 32, 95, 98] := by decide +kernel
theorem ltr27 : ltr 27 = [98, 49] := by decide +kernel
set_option maxRecDepth 100000 in
set_option maxHeartbeats 6400000 in
theorem first8_any (w : World) (hg : Gs w) : Calls Tryd.prog 6 #[] w fun e w' => e = .returned (.bool true) ∧ Below w.heap.size w w' := by
  have HG := Lib.hid hg
  clear hg
  go_enter Tryd.func6, Tryd.ntmps6
  go_wp2_with fail
  go_at_call 22
  refine (func1_any ⟨#[103]⟩ (by unfold maxLen; decide) (vrE ⟨#[120]⟩) _ (fun _ => True) _ (fun _ _ => trivial) (repE_leaf _ _ 1 0 ⟨#[120]⟩ 0 (by unfold maxLen; decide))).mono ?_
  rintro e w1 ⟨c1, rfl, hr1, hb1⟩
  have HB1 := Lib.hid hb1
  have HF1 := Lib.hid (func1_any ⟨#[102]⟩ (by unfold maxLen; decide) _ _ (fun _ => True) w1 (fun _ _ => trivial) hr1)
  obtain ⟨kax, kcx, aax, acx, tkx, tnx, tix, thx, tax, tlx, tcx, rfl⟩ := hr1.form
  clear hr1 hb1
  go_wp2_with fail
  go_at_call 22
  refine HF1.out.mono ?_
  rintro e w2 ⟨c2, rfl, hr2, hb2⟩
  have hr2' : RepE w2 (fun _ => True) exF c2 := hr2
  obtain ⟨kau, kcu, aau, acu, tku, tnu, tiu, thu, tau, tlu, tcu, rfl⟩ := hr2'.form
  have hal : Below w2.heap.size w2 (w2.alloc (.cells #[.int .i64 exF.k, .int .i64 exF.p, .string exF.n, .int .i64 exF.m, .slice kau exF.kids.length kcu, .slice aau exF.arms.length acu, .int .i64 tku, .string tnu, .int .i64 tiu, .int .i64 thu, .slice tau tlu tcu] 37)) := (Below.refl _ w2).alloc (Nat.le_refl _) _
  have HX : Hid (BoxC 37 (w2.alloc (.cells #[.int .i64 exF.k, .int .i64 exF.p, .string exF.n, .int .i64 exF.m, .slice kau exF.kids.length kcu, .slice aau exF.arms.length acu, .int .i64 tku, .string tnu, .int .i64 tiu, .int .i64 thu, .slice tau tlu tcu] 37)) w2.heap.size [.int .i64 exF.k, .int .i64 exF.p, .string exF.n, .int .i64 exF.m, .slice kau exF.kids.length kcu, .slice aau exF.arms.length acu, .int .i64 tku, .string tnu, .int .i64 tiu, .int .i64 thu, .slice tau tlu tcu]) := BoxC.made _ w2 _
  have HR := Lib.hid (hr2'.lift hal)
  have HB2 := Lib.hid ((HB1.out.trans (hb2.mono HB1.out.size)).trans (hal.mono (HB1.out.trans (hb2.mono HB1.out.size)).size))
  clear hr2 hr2' hb2 hal HF1 HB1
  go_upto_region 2 with fail
  generalize (w2.alloc (.cells #[.int .i64 exF.k, .int .i64 exF.p, .string exF.n, .int .i64 exF.m, .slice kau exF.kids.length kcu, .slice aau exF.arms.length acu, .int .i64 tku, .string tnu, .int .i64 tiu, .int .i64 thu, .slice tau tlu tcu] 37)) = V at *
  generalize w2.heap.size = B at *
  have hVl := HX.out.lt
  go_wp2_with fail
  go_at_call 24
  refine (refBound_any 0 V).mono ?_
  rintro e w3 ⟨rfl, hb3⟩
  unfold leafV
  go_wp2_with fail
  go_at_call 24
  refine (refBound_any 1 w3).mono ?_
  rintro e w4 ⟨rfl, hb4⟩
  have HA1 := Lib.hid (refArrow_any (bdT 0) (bdT 1) _ _ (fun _ => True) w4 (fun _ _ => trivial) (rep_leaf w4 _ 2 ⟨#[]⟩ 0 0 (Nat.zero_le _)) (rep_leaf w4 _ 2 ⟨#[]⟩ 1 0 (Nat.zero_le _)))
  have HB4 := Lib.hid (hb3.trans (hb4.mono hb3.size))
  clear hb3 hb4
  unfold leafV at HA1 ⊢
  go_wp2_with fail
  go_at_call 23
  refine HA1.out.mono ?_
  rintro e w5 ⟨a1, d1, rfl, hl5, hb5⟩
  have hr5 : Rep w5 (fun _ => True) (arT (bdT 0) (bdT 1)) (.agg #[.int .i64 4, .string arrN, .int .i64 0, .int .i64 0, .slice a1 2 d1]) := Rep.close (by unfold maxLen; decide) hl5
  have HB5 := Lib.hid (HB4.out.trans (hb5.mono HB4.out.size))
  have HR5 := Lib.hid hr5
  clear hl5 hb5 hr5 HA1 HB4
  go_wp2_with fail
  go_at_call 25
  refine (refVar_any 1 w5).mono ?_
  rintro e w6 ⟨rfl, hb6⟩
  have HA2 := Lib.hid (refArrow_any (arT (bdT 0) (bdT 1)) (vrT 1) _ _ (fun _ => True) w6 (fun _ _ => trivial) (HR5.out.lift hb6) (rep_leaf w6 _ 1 ⟨#[]⟩ 1 0 (Nat.zero_le _)))
  have HB6 := Lib.hid (HB5.out.trans (hb6.mono HB5.out.size))
  clear hb6 HB5 HR5
  unfold leafV at HA2 ⊢
  go_wp2_with fail
  go_at_call 23
  refine HA2.out.mono ?_
  rintro e w7 ⟨a2, d2, rfl, hl7, hb7⟩
  have hr7 : Rep w7 (fun _ => True) exT (.agg #[.int .i64 4, .string arrN, .int .i64 0, .int .i64 0, .slice a2 2 d2]) := Rep.close (by unfold maxLen; decide) hl7
  have hal : Below w7.heap.size w7 (w7.alloc (.cells #[.int .i64 4, .string arrN, .int .i64 0, .int .i64 0, .slice a2 2 d2] 35)) := (Below.refl _ w7).alloc (Nat.le_refl _) _
  have HB7 := Lib.hid ((HB6.out.trans (hb7.mono HB6.out.size)).trans (hal.mono (HB6.out.trans (hb7.mono HB6.out.size)).size))
  have HY : Hid (Box (w7.alloc (.cells #[.int .i64 4, .string arrN, .int .i64 0, .int .i64 0, .slice a2 2 d2] 35)) w7.heap.size (.int .i64 4) (.string arrN) (.int .i64 0) (.int .i64 0) (.slice a2 2 d2)) := Box.made _ _ _ _ _ _
  have HR7 := Lib.hid (hr7.lift hal)
  clear hl7 hb7 hr7 hal HA2 HB6
  go_upto_region 3 with fail
  generalize (w7.alloc (.cells #[.int .i64 4, .string arrN, .int .i64 0, .int .i64 0, .slice a2 2 d2] 35)) = V8 at *
  generalize w7.heap.size = B8 at *
  have HXl := Lib.hid (HX.out.lift HB7.out)
  have HB := Lib.hid (HB2.out.trans (HB7.out.mono HB2.out.size))
  have HG8 := Lib.hid (HG.out.lift HB.out)
  have hSE := showExpr_any exF exF_src (by rw [exF_text]; decide) _ _ V8 HG8.out (HR.out.lift HB7.out)
  rw [exF_text] at hSE
  have HSE := Lib.hid hSE
  have hST : ∀ W, Below V8.heap.size V8 W → Calls Tryd.prog 19 #[.agg #[.int .i64 4, .string arrN, .int .i64 0, .int .i64 0, .slice a2 2 d2]] W fun e w' => e = .returned (.string ⟨(wT exT).toArray⟩) ∧ Below W.heap.size W w' := fun W hW => showType_any exT exT_ok (by rw [exT_text]; simp) (by rw [exT_text]; decide) _ _ W (HG8.out.lift hW) (HR7.out.lift hW)
  rw [exT_text] at hST
  have HST := Lib.hid hST
  have hLt : ∀ W, Below V8.heap.size V8 W → Calls Tryd.prog 7 #[.int .i64 27] W fun e w' => e = .returned (.string ⟨(ltr 27).toArray⟩) ∧ Below W.heap.size W w' := fun W hW => letter_any 27 W (by omega) (by omega) (HG8.out.lift hW)
  rw [ltr27] at hLt
  have HLt := Lib.hid hLt
  clear hSE hST hLt HX HR HR7 HG8 hVl
  obtain ⟨c0, c1, c2, c3, c4, c5, c6, c7, c8, c9, c10⟩ := HXl.out.all11
  go_wp2_with (first
    | (go_at_call 13; refine HSE.out.mono ?_; rintro e w9 ⟨rfl, hb9⟩; have HB9 := Lib.hid hb9; have HY9 := Lib.hid (HY.out.lift hb9); obtain ⟨d0, d1, d2, d3, d4⟩ := HY9.out.cells; clear hb9)
    | (go_at_call 19; refine (HST.out _ HB9.out).mono ?_; rintro e w10 ⟨rfl, hb10⟩; have HB10 := Lib.hid (HB9.out.trans (hb10.mono HB9.out.size)); clear hb10)
    | (go_at_call 7; refine (HLt.out _ HB10.out).mono ?_; rintro e w11 ⟨rfl, hb11⟩))
  go_ret
  exact ⟨rfl, HB.out.trans ((HB10.out.trans (hb11.mono HB10.out.size)).mono HB.out.size)⟩
end Go.Proofs.YtfkbifbodpelmaaDoor

/- What every law of this seat shares: the listed variables, what came in, the step from a walk to the given statement. -/
namespace Go.Proofs.YtfkbifbodpelmaaDoor
open Go.ChangeShapes Go.WideShapes Go.ChangeAt Go.RowKit Go.Deep Mth

theorem Tryd.own : ownKnob Tryd.prog.godebug = none := by kernel_rfl
theorem Tryd.laidOut : laidOutB Tryd.prog = true := by kernel_rfl
theorem Tryd.cells3 : Tryd.prog.cellsOf 3 = 1 := by kernel_rfl
theorem Tryd.cells9 : Tryd.prog.cellsOf 9 = 1 := by kernel_rfl
theorem Tryd.gPowType : (Tryd.prog.globals[1]?).map (·.type) = some 141 := by kernel_rfl
theorem Tryd.cells141 : Tryd.prog.cellsOf 141 = 20 := by kernel_rfl
theorem Tryd.cells133 : Tryd.prog.cellsOf 133 = 1 := by kernel_rfl
theorem Tryd.gLet : Tryd.prog.globalNamed "typedholes/show.letters" = some 0 := by kernel_rfl
theorem Tryd.gLetType : (Tryd.prog.globals[0]?).map (·.type) = some 58 := by kernel_rfl
theorem Tryd.cells58 : Tryd.prog.cellsOf 58 = 26 := by kernel_rfl

/-- A table of texts as a row lists it. -/
def strData {H : Type} (zs : List (List UInt8)) : DataW H := .agg (zs.map fun z => .lit (.string z))
/-- An array of texts that reads as the table holds the table's texts, cell for cell. -/
theorem cells_of_strs {H : Type} {enc : TypeId × Value → H} {P : Program} {w : World} {base : Nat} {sp : Nat → Bool} {held : Bool} {fuel : Nat} {t e : TypeId} {n : Nat} {cs : List Value} {zs : List (List UInt8)} {p : List MemPlace}
    (ht : P.underlying t = some (.array n e)) (he : P.underlying e = some .string) (hce : P.cellsOf e = 1) (hct : P.cellsOf t = n)
    (h : DataW.trod enc P w base sp held fuel t cs = some (strData zs, p)) : ∀ (i : Nat) (z : List UInt8), zs[i]? = some z → ∃ b : ByteArray, cs[i]? = some (.string b) ∧ b.data.toList = z := by
  cases fuel with
  | zero => simp [DataW.trod] at h
  | succ fuel =>
    simp only [DataW.trod, ht, hce, hct, Nat.mul_one] at h
    split at h
    · rename_i hl
      obtain ⟨xs, hm, hx⟩ := Option.map_eq_some_iff.1 h
      have hxs : xs.map (·.1) = zs.map fun z => (DataW.lit (.string z) : DataW H) := by
        have := congrArg Prod.fst hx
        simpa [strData] using this
      have hxl : xs.length = n := by simpa using Lib.mapM_length hm
      intro i z hz
      have hi : i < n := by
        have h1 := congrArg List.length hxs
        simp at h1
        have h2 := (List.getElem?_eq_some_iff.1 hz).1
        omega
      obtain ⟨y, hy, hf⟩ := Lib.mapM_at hm i i (by simp [hi])
      obtain ⟨s, hc, e1, -⟩ := DataW.trod_string he hf
      have h1 : cs[i]? = some (.string s) := by
        have := congrArg (·[0]?) hc
        simpa [List.getElem?_take, List.getElem?_drop] using this
      have h2 : (xs.map (·.1))[i]? = some y.1 := by simp [hy]
      rw [hxs] at h2
      simp only [List.getElem?_map, hz, Option.map_some, Option.some.injEq] at h2
      refine ⟨s, h1, ?_⟩
      rw [e1] at h2
      simpa using h2.symm
    · cases h
/-- The four tables that every row of this seat lists. -/
def laid4 : List (String × DataW Unit) := Rows.showLettersRow.laid
def abc : List (List UInt8) := [[97], [98], [99], [100], [101], [102], [103], [104], [105], [106], [107], [108], [109], [110], [111], [112], [113], [114], [115], [116], [117], [118], [119], [120], [121], [122]]
theorem laid4_eq : laid4 = [("math/bits.deBruijn32tab", Rows.laid_math_bits_deBruijn32tab), ("math/bits.deBruijn64tab", Rows.laid_math_bits_deBruijn64tab), ("internal/strconv.uint64pow10", Lib.tabData .u64 Lib.pow10Tab), ("typedholes/show.letters", strData abc)] := by kernel_rfl
theorem abc_get : ∀ k : Fin 26, abc[k.1]? = some [UInt8.ofNat (97 + k.1)] := by decide +kernel
/-- What the list gives the walks. -/
theorem gs_of_laid {W : World} (h : laidMetH Tryd.prog laid4 W) : Gs W := by
  rw [MakeChecks.laidMetH_plain _ _ _ (by kernel_rfl), laid4_eq] at h
  have h2 := laidMet.tail (laidMet.tail h)
  refine ⟨Lib.tabIs_of_head (rest := [("typedholes/show.letters", strData abc)]) Tryd.gPow Tryd.gPowType Tryd.underlying141 Tryd.underlying133 Tryd.cells133 Tryd.cells141 h2, ?_⟩
  obtain ⟨ps, ⟨g', t', cs, fuel, p, q, hg', ht', hvar, hd, _, _⟩, _⟩ := laidMet.tail h2
  obtain rfl := Option.some.inj (Tryd.gLet.symm.trans hg')
  obtain rfl := Option.some.inj (Tryd.gLetType.symm.trans ht')
  intro k hk
  obtain ⟨b, hb, hbz⟩ := cells_of_strs Tryd.underlying58 Tryd.underlying9 Tryd.cells9 Tryd.cells58 hd k _ (abc_get ⟨k, hk⟩)
  rw [World.var?_cell Tryd.gLet hvar k]
  have e1 : b = ⟨#[UInt8.ofNat (97 + k)]⟩ := by
    apply ByteArray.ext
    apply Array.ext'
    exact hbz
  rw [← e1]
  simpa using hb
theorem door_met (os : Os) (args : Array Value) : laidMetH Tryd.prog laid4 ((World.doorLaid Tryd.prog 400 os).forCall (fun _ _ => 0) ⟨#[], args, []⟩).memory :=
  laidMetH_of_parts3 (fuel := 8) (laidMet_of_run' 8 (by kernel_rfl) (by kernel_rfl)) (by kernel_rfl) (by kernel_rfl)

/-- Arguments that were read before a call that only makes memory read so behind it. -/
theorem trodAll_below {P : Program} (hlo : laidOutB P = true) {H : Type} {enc : TypeId × Value → H} {W W' : World} (hb : Below W.heap.size W W') :
    ∀ (ts : List TypeId) (vs : List Value) (ds : List (DataW H)) (ps : List MemPlace), (∀ t ∈ ts, P.readableRec t = true ∧ t < P.types.size) →
      DataW.TrodAll enc P W 0 (fun _ => true) true ts vs ds ps → (∀ x ∈ ps, x.block < W.heap.size) → DataW.TrodAll enc P W' 0 (fun b => decide (b < W.heap.size)) true ts vs ds ps := by
  intro ts
  induction ts with
  | nil =>
    intro vs ds ps _ h _
    obtain ⟨rfl, rfl, rfl⟩ := trodAll_nil h
    exact trodAll_mk0
  | cons t ts ih =>
    intro vs ds ps hr h hl
    obtain ⟨v, vs', d, ds', p, q, rfl, rfl, rfl, h1, h2⟩ := trodAll_cons h
    exact ⟨p, q, Below.trod hlo (hr t (by simp)).1 (hr t (by simp)).2 h1 hb (fun x hx => hl x (by simp [hx])), ih vs' ds' q (fun t ht => hr t (by simp [ht])) h2 (fun x hx => hl x (by simp [hx])), rfl⟩
theorem all_parts {P : Program} {ts : List TypeId} (h : (ts.all fun t => P.readableRec t && decide (t < P.types.size)) = true) : ∀ t ∈ ts, P.readableRec t = true ∧ t < P.types.size := fun t ht => by
  simpa using List.all_eq_true.1 h t ht

/-- The step from a walk's end to what the row says of it. -/
theorem law_post {f : Func} {s : ChangeSpec} {H : Type} {enc : TypeId × Value → H} {W W' : World} {args : Array Value} {ds gs : List (DataW H)} {before : List MemPlace}
    (hft : f.resultTypes = #[4]) (hpr : (f.params.toList.all fun t => Tryd.prog.readableRec t && decide (t < Tryd.prog.types.size)) = true) (hv : s.vars = [])
    (hW : DataW.Whole enc Tryd.prog f.params.toList s.vars false W args.toList ds gs before)
    (h1 : (s.fn H (ds ++ gs)).results = [.lit (.bool true)]) (h2 : (s.fn H (ds ++ gs)).args = ds) (h3 : (s.fn H (ds ++ gs)).vars = []) (hb : Below W.heap.size W W') :
    ∃ v, Ending.returned (.bool true) = .returned v ∧ s.post enc Tryd.prog f false true false false W args v W' := by
  have hW' := hW
  obtain ⟨p, q, hA, hV, rfl, hfz, hnd⟩ := hW
  rw [hv] at hV
  obtain ⟨rfl, rfl⟩ := trodVars_none hV
  refine ⟨_, rfl, ds, [], p ++ [], [], p, [], hW', ?_, ?_, ?_, hb.frame _, fun h => by cases h⟩
  · rw [h1, hft]; exact trodAll_mk1 (shut_bool Tryd.underlying4 _)
  · rw [h2]; exact trodAll_below Tryd.laidOut hb _ _ _ _ (all_parts hpr) hA (fun x hx => hW'.lt x (by simp [hx]))
  · rw [h3, hv]; rfl

set_option maxRecDepth 100000 in
/-- A slice of numbers that came in. -/
theorem ints_open {H : Type} {enc : TypeId × Value → H} {W : World} {base : Nat} {v : Value} {d : DataW H} {p : List MemPlace} (hval : Value.okWide Tryd.prog W .any base 26 v) (h : DataW.Trod enc Tryd.prog W 0 (fun _ => true) true 26 v d p) :
    ∃ zs, Ints W v zs := by
  obtain ⟨a0, len, cap, rfl⟩ := okWide_slice Tryd.underlying26 hval
  obtain ⟨fuel, hf⟩ := h
  rcases open_ints Tryd.underlying26 Tryd.underlying3 Tryd.cells3 hf with ⟨hcs, _⟩ | ⟨a, len', cap', zs, hcs, _, hl, hm, hz, _, hcell, _⟩
  · simp [Value.cells] at hcs
    obtain ⟨rfl, rfl, rfl⟩ := hcs
    exact ⟨[], none, 0, rfl, by simp, by simp, fun i x h => by simp at h⟩
  · simp [Value.cells] at hcs
    obtain ⟨rfl, rfl, rfl⟩ := hcs
    simp only [if_true] at hz
    have ht : (zs.take len).length = len := by rw [List.length_take]; omega
    refine ⟨zs.take len, some a, cap, by rw [ht], by rw [ht]; exact hl, hm, fun i x hx => ?_⟩
    have hi : i < len := by
      have := (List.getElem?_eq_some_iff.1 hx).1
      omega
    have hx' : zs[i]? = some x := by rw [List.getElem?_take_of_lt hi] at hx; exact hx
    refine ⟨a, rfl, ?_⟩
    have := hcell i (by omega)
    rw [this, List.getD, hx']
    rfl
end Go.Proofs.YtfkbifbodpelmaaDoor
