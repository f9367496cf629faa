/- Stores: the law's first. -/
import Derived.Test.YtejlhfjhpminjaaStRb
import Derived.Test.YtejlhfjhpminjaaStRs
import Derived.Test.YtejlhfjhpminjaaTyEq2
import Derived.Deep.DeepCutAuto
namespace Go.Proofs.Ytejlhfjhpminjaa
open Go.RowKit Go.Sort Go.Shelf Go.Maps Mth

def v0T : Ty := .mk 1 ⟨#[]⟩ 0 0 []
def intT : Ty := .mk 4 intN 0 0 []
def s16a : Sto := ⟨[⟨false, zTy, 0, false⟩], [⟨0, slZ, true⟩]⟩
def s16b : Sto := ⟨[⟨true, intT, 0, false⟩], [⟨0, slZ, true⟩, ⟨0, ⟨false, zTy, 0, false⟩, false⟩]⟩
theorem fresh16 : stFresh stNew 0 false = s16a := rfl
theorem set16 : stSet s16a 0 ⟨true, intT, 0, false⟩ = s16b := rfl
theorem back16 : (stBack s16b 0).slots = [] := rfl
theorem walk16 : walkF s16b.slots 1 v0T = intT := rfl
theorem walk16' : walkF s16b.slots 1 intT = intT := rfl
theorem res16 : Res (walkF s16b.slots 1) intT v0T := by
  unfold intT
  rw [Res]
  exact ⟨rfl, rfl, rfl, rfl, by rw [ResL]; rfl⟩
theorem sz16 : szF (walkF s16b.slots 1) 4001 v0T 4000 ≤ 4000 := (szF_iff res16 (by omega)).2 (by simp [intT, nodes, nodesL])
theorem SlG.any {α : Type} {E : El α} {w : World} {S : Nat → Prop} {xs : List α} {v : Value} (h : SlG E w S xs v) : SlG E w (fun _ => True) xs v := h.kept (fun _ _ => trivial) fun _ _ _ => rfl
theorem int_rep (w : World) (S : Nat → Prop) : Rep w S intT (.agg #[.int .i64 4, .string intN, .int .i64 0, .int .i64 0, .slice none 0 0]) := rep_leaf w S 4 intN 0 0 (by unfold maxLen; decide +kernel)
theorem v0_rep (w : World) (S : Nat → Prop) : Rep w S v0T (.agg #[.int .i64 1, .string ⟨#[]⟩, .int .i64 0, .int .i64 0, .slice none 0 0]) := rep_leaf w S 1 ⟨#[]⟩ 0 0 (Nat.zero_le _)
theorem put_store {x : World} {B : Nat} {c0 c1 : Value} (hz : BoxC 27 x B [c0, c1]) {S : Nat → Prop} (hS : ∀ b, S b → b ≠ B) {sl : List Slt} {tr : List Chg} {a b : Value} (h1 : SlG SltE x S sl a) (h2 : SlG ChgE x S tr b) :
    BoxC 27 ((x.setCell ⟨B, 0, none⟩ a).setCell ⟨B, 1, none⟩ b) B [a, b] ∧ SlG SltE ((x.setCell ⟨B, 0, none⟩ a).setCell ⟨B, 1, none⟩ b) (fun _ => True) sl a ∧ SlG ChgE ((x.setCell ⟨B, 0, none⟩ a).setCell ⟨B, 1, none⟩ b) (fun _ => True) tr b ∧ x.grownBy ((x.setCell ⟨B, 0, none⟩ a).setCell ⟨B, 1, none⟩ b) (some B) := by
  obtain ⟨q1, q2⟩ := set2 hz a b
  exact ⟨q1, h1.kept (fun _ _ => trivial) (fun c hc hl => q2.block c hl (fun e => hS c hc (Option.some.inj e))), h2.kept (fun _ _ => trivial) (fun c hc hl => q2.block c hl (fun e => hS c hc (Option.some.inj e))), q2⟩
set_option maxRecDepth 100000 in
set_option maxHeartbeats 12000000 in
theorem first16_any (w : World) : Calls Try.prog 5 #[] w fun e w' => e = .returned (.bool true) ∧ RowKit.Below w.heap.size w w' := by
  have HAl : Hid (∀ (w : World) (o : Obj), RowKit.Below w.heap.size w (w.alloc o)) := fun w o => (Below.refl _ w).alloc (Nat.le_refl _) o
  have HNw := Lib.hid (fun W => new_any W)
  have HFr : Hid (∀ W, Calls Try.prog 8 #[.agg #[.slice none 0 0, .slice none 0 0], .int .i64 0, .bool false] W fun e w' => ∃ sa sc ta tc, e = .returned (.tuple #[.agg #[.slice sa 1 sc, .slice ta 1 tc], .agg #[.int .i64 1, .string ⟨#[]⟩, .int .i64 0, .int .i64 0, .slice none 0 0]]) ∧ SlG SltE w' (fun _ => True) s16a.slots (.slice sa 1 sc) ∧ SlG ChgE w' (fun _ => True) s16a.trail (.slice ta 1 tc) ∧ Below W.heap.size W w') := fun W => (fresh_any stNew 0 false _ (fun _ => True) W (by decide) (by decide) ⟨none, 0, none, 0, rfl, slG_nil _ _ _, slG_nil _ _ _⟩).mono fun e w' ⟨u, h1, ⟨sa, sc, ta, tc, h2, h3, h4⟩, h5⟩ => ⟨sa, sc, ta, tc, by rw [h1, h2]; rfl, h3.any, h4.any, h5⟩
  have HI : Hid (∀ W, Calls Try.prog 18 #[] W fun e w' => e = .returned (.agg #[.int .i64 4, .string intN, .int .i64 0, .int .i64 0, .slice none 0 0]) ∧ Below W.heap.size W w') := fun W => refInt_any W
  have HVr : Hid (∀ W, Calls Try.prog 11 #[.int .i64 0] W fun e w' => e = .returned (.agg #[.int .i64 1, .string ⟨#[]⟩, .int .i64 0, .int .i64 0, .slice none 0 0]) ∧ Below W.heap.size W w') := fun W => refVar_any 0 W
  go_enter Try.func5, Try.ntmps5
  go_wp2_with fail
  go_at_call 7
  refine (HNw.out _).mono ?_
  rintro e w1 ⟨rfl, hb1⟩
  go_wp2_with fail
  go_at_call 8
  refine (HFr.out _).mono ?_
  rintro e w2 ⟨sa, sc, ta, tc, rfl, hs2, ht2, hb2⟩
  have hb12 := hb1.trans (hb2.mono hb1.size)
  have hal2 := (HAl.out w2 (.cells #[.slice sa 1 sc, .slice ta 1 tc] 27)).trans ((HAl.out (w2.alloc (.cells #[.slice sa 1 sc, .slice ta 1 tc] 27)) (.cells #[.int .i64 1, .string ⟨#[]⟩, .int .i64 0, .int .i64 0, .slice none 0 0] 31)).mono (by simp))
  have hB1 : BoxC 27 ((w2.alloc (.cells #[.slice sa 1 sc, .slice ta 1 tc] 27)).alloc (.cells #[.int .i64 1, .string ⟨#[]⟩, .int .i64 0, .int .i64 0, .slice none 0 0] 31)) w2.heap.size [.slice sa 1 sc, .slice ta 1 tc] := by unfold BoxC; rw [heap_at, if_neg (by simp), heap_at, if_pos rfl]
  have hB2 : Box ((w2.alloc (.cells #[.slice sa 1 sc, .slice ta 1 tc] 27)).alloc (.cells #[.int .i64 1, .string ⟨#[]⟩, .int .i64 0, .int .i64 0, .slice none 0 0] 31)) (w2.heap.size + 1) (.int .i64 1) (.string ⟨#[]⟩) (.int .i64 0) (.int .i64 0) (.slice none 0 0) := by unfold Box; rw [heap_at, if_pos (by simp)]
  have HSa : Hid (SlG SltE ((w2.alloc (.cells #[.slice sa 1 sc, .slice ta 1 tc] 27)).alloc (.cells #[.int .i64 1, .string ⟨#[]⟩, .int .i64 0, .int .i64 0, .slice none 0 0] 31)) (fun _ => True) s16a.slots (.slice sa 1 sc)) := hs2.up hal2
  have HTa : Hid (SlG ChgE ((w2.alloc (.cells #[.slice sa 1 sc, .slice ta 1 tc] 27)).alloc (.cells #[.int .i64 1, .string ⟨#[]⟩, .int .i64 0, .int .i64 0, .slice none 0 0] 31)) (fun _ => True) s16a.trail (.slice ta 1 tc)) := ht2.up hal2
  have HL := Lib.hid (hb12.trans (hal2.mono hb12.size))
  have HB1 := Lib.hid hB1
  have HB2 := Lib.hid hB2
  clear hs2 ht2 hb1 hb2 hb12 hal2 hB1 hB2
  go_upto_region 2 with fail
  generalize ((w2.alloc (.cells #[.slice sa 1 sc, .slice ta 1 tc] 27)).alloc (.cells #[.int .i64 1, .string ⟨#[]⟩, .int .i64 0, .int .i64 0, .slice none 0 0] 31)) = V at *
  generalize w2.heap.size + 1 = b2 at *
  generalize w2.heap.size = b1 at *
  have HK : Hid (∀ W, Below V.heap.size V W → W.cell? ⟨b1, 0, none⟩ = some (.slice sa 1 sc) ∧ W.cell? ⟨b1, 1, none⟩ = some (.slice ta 1 tc)) := fun W hb => ⟨(HB1.out.lift hb).cell 0 _ rfl, (HB1.out.lift hb).cell 1 _ rfl⟩
  have HSt : Hid (∀ W, Below V.heap.size V W → Calls Try.prog 9 #[.agg #[.slice sa 1 sc, .slice ta 1 tc], .int .i64 0, .agg #[.bool true, .int .i64 4, .string intN, .int .i64 0, .int .i64 0, .slice none 0 0, .int .i64 0, .bool false]] W fun e w' => ∃ sa' sc' ta' tc', e = .returned (.tuple #[.agg #[.slice sa' 1 sc', .slice ta' 2 tc'], .bool true]) ∧ SlG SltE w' (fun b => b < V.heap.size ∨ W.heap.size ≤ b) s16b.slots (.slice sa' 1 sc') ∧ SlG ChgE w' (fun b => b < V.heap.size ∨ W.heap.size ≤ b) s16b.trail (.slice ta' 2 tc') ∧ Below W.heap.size W w') := fun W hb =>
    (set_any s16a 0 ⟨true, intT, 0, false⟩ _ 4 intN 0 0 none 0 0 (fun b => b < V.heap.size) W (by decide) (by decide) ⟨sa, sc, ta, tc, rfl, SlG.kept (fun _ h => h.2) (fun _ _ _ => rfl) (HSa.out.bound.up hb), SlG.kept (fun _ h => h.2) (fun _ _ _ => rfl) (HTa.out.bound.up hb)⟩ (int_rep _ _)).mono fun e w' ⟨u, h1, h2, h5⟩ => by
      rw [if_pos (by decide)] at h2
      obtain ⟨sa', sc', ta', tc', h2, h3, h4⟩ := h2
      exact ⟨sa', sc', ta', tc', by rw [h1, h2]; rfl, h3.kept (fun b hb => hb.imp (fun h => h.1) (fun h => h)) (fun _ _ _ => rfl), h4.kept (fun b hb => hb.imp (fun h => h.1) (fun h => h)) (fun _ _ _ => rfl), h5⟩
  have HBM : Hid (∀ w : World, BoxC 27 (w.alloc (.cells #[.slice none 0 0, .slice none 0 0] 27)) w.heap.size [.slice none 0 0, .slice none 0 0]) := fun w => BoxC.made _ w _
  have HD0 : Hid (Below V.heap.size V V.drew) := (Below.refl _ V).drew
  have HDZ : Hid (Below V.heap.size V (V.alloc (.cells #[.slice none 0 0, .slice none 0 0] 27)).drew) := ((Below.refl _ V).alloc (Nat.le_refl _) _).drew
  have HZD : Hid (BoxC 27 (V.alloc (.cells #[.slice none 0 0, .slice none 0 0] 27)).drew V.heap.size [.slice none 0 0, .slice none 0 0]) := (HBM.out V).lift (Below.refl _ _).drew
  have h1V : ¬ (b1 = V.heap.size) := by have := HB1.out.lt; omega
  have HNe : Hid (∀ x : World, Below V.heap.size V x → ¬ (b1 = x.heap.size)) := fun x hx => by have := HB1.out.lt; have := hx.size; omega
  try go_frame
  go_cut [3, 4] (fun s3 s4 wx => ∃ (B3 : Nat) (sb : Option Addr) (sd : Nat) (tb : Option Addr) (td : Nat), s3 = .pointer (some ⟨B3, 0, none⟩) ∧ s4 = .bool true ∧ Hid (BoxC 27 wx B3 [.slice sb 1 sd, .slice tb 2 td] ∧ SlG SltE wx (fun _ => True) s16b.slots (.slice sb 1 sd) ∧ SlG ChgE wx (fun _ => True) s16b.trail (.slice tb 2 td) ∧ Below V.heap.size V wx))
  case first =>
    go_region_held3 (fun W' => W'.cell? ⟨b1, 0, none⟩ = some (.slice sa 1 sc) ∧ W'.cell? ⟨b1, 1, none⟩ = some (.slice ta 1 tc))
      (first
        | with_reducible exact keepA (HK.out x2 HD2.out) h1V _ _
        | with_reducible exact keepA (HK.out x2 HD2.out) (HNe.out x1 HD1.out) _ _
        | with_reducible exact HK.out x2 HD2.out
        | with_reducible exact HK.out x1 HD1.out
        | with_reducible exact HK.out V.drew HD0.out
        | with_reducible exact HK.out _ HDZ.out
        | with_reducible exact HK.out (x1.alloc _) (HD1.out.alloc HD1.out.size _)
        | with_reducible exact HK.out (x2.alloc _) (HD2.out.alloc HD2.out.size _))
      (first
        | (go_at_call 18; (with_reducible refine (HI.out V.drew).mono ?_); rintro e x1 ⟨rfl, hb⟩; have HD1 := Lib.hid (RowKit.Below.trans HD0.out (RowKit.Below.mono hb (RowKit.Below.size HD0.out))); clear hb)
        | (go_at_call 18; (with_reducible refine (HI.out (V.alloc (.cells #[.slice none 0 0, .slice none 0 0] 27)).drew).mono ?_); rintro e x1 ⟨rfl, hb⟩; have HD1 := Lib.hid (RowKit.Below.trans HDZ.out (RowKit.Below.mono hb (RowKit.Below.size HDZ.out))); have HZ1 := Lib.hid (BoxC.lift HZD.out hb); clear hb)
        | (go_at_call 9; (with_reducible refine (HSt.out x1 HD1.out).mono ?_); rintro e x2 ⟨sa', sc', ta', tc', rfl, hs, ht, hb⟩; have HD2 := Lib.hid (RowKit.Below.trans HD1.out (RowKit.Below.mono hb (RowKit.Below.size HD1.out))); have HS2 := Lib.hid hs; have HT2 := Lib.hid ht; have HZ2 := Lib.hid (BoxC.lift HZ1.out hb); have HZl := Lib.hid (BoxC.lt HZ1.out); have y0 := BoxC.cell HZ2.out 0 _ rfl; have y1 := BoxC.cell HZ2.out 1 _ rfl; have z0 := BoxC.free HZ2.out 0; have z1 := BoxC.free HZ2.out 1; clear hs ht hb)
        | (go_at_call 9; (with_reducible refine (HSt.out x1 HD1.out).mono ?_); rintro e x2 ⟨sa', sc', ta', tc', rfl, hs, ht, hb⟩; have HD2 := Lib.hid (RowKit.Below.trans HD1.out (RowKit.Below.mono hb (RowKit.Below.size HD1.out))); have HS2 := Lib.hid hs; have HT2 := Lib.hid ht; clear hs ht hb)
        | (go_at_call 9; (with_reducible refine (HSt.out (x1.alloc (.cells #[.slice none 0 0, .slice none 0 0] 27)) (HD1.out.alloc HD1.out.size _)).mono ?_); rintro e x2 ⟨sa', sc', ta', tc', rfl, hs, ht, hb⟩; have HD2 := Lib.hid (RowKit.Below.trans (HD1.out.alloc HD1.out.size (.cells #[.slice none 0 0, .slice none 0 0] 27)) (RowKit.Below.mono hb (RowKit.Below.size (HD1.out.alloc HD1.out.size (.cells #[.slice none 0 0, .slice none 0 0] 27))))); have HS2 := Lib.hid hs; have HT2 := Lib.hid ht; have HZ2 := Lib.hid (BoxC.lift (HBM.out x1) hb); have y0 := BoxC.cell HZ2.out 0 _ rfl; have y1 := BoxC.cell HZ2.out 1 _ rfl; have z0 := BoxC.free HZ2.out 0; have z1 := BoxC.free HZ2.out 1; clear hs ht hb))
    all_goals
      go_wp2_with fail
      go_meet
    · have hal := HAl.out x2 (.cells #[.slice sa' 1 sc', .slice ta' 2 tc'] 27)
      refine ⟨_, sa', sc', ta', tc', rfl, rfl, ?_⟩
      show _ ∧ _
      exact ⟨BoxC.made _ x2 _, HS2.out.any.up hal, HT2.out.any.up hal, HD2.out.trans (hal.mono HD2.out.size)⟩
    · have hs1 := HD1.out.size
      obtain ⟨r1, r2, r3, r4⟩ := put_store HZ2.out (fun b hb => by simp at hb; omega) HS2.out HT2.out
      refine ⟨_, sa', sc', ta', tc', rfl, rfl, ?_⟩
      show _ ∧ _
      exact ⟨r1, r2, r3, Below.grown HD2.out r4 HD2.out.size (fun q e => by cases e; exact hs1)⟩
    · have hs1 := HD1.out.size
      have hzl := HZl.out
      obtain ⟨r1, r2, r3, r4⟩ := put_store HZ2.out (fun b hb => by omega) HS2.out HT2.out
      refine ⟨_, sa', sc', ta', tc', rfl, rfl, ?_⟩
      show _ ∧ _
      exact ⟨r1, r2, r3, Below.grown HD2.out r4 HD2.out.size (fun q e => by cases e; exact Nat.le_refl _)⟩
  case rest =>
    obtain ⟨B3, sb, sd, tb, td, rfl, rfl, hI⟩ := hcut
    have HBs := Lib.hid hI.1
    have HS3 := Lib.hid hI.2.1
    have HT3 := Lib.hid hI.2.2.1
    have HD3 := Lib.hid hI.2.2.2
    have HB3 := Lib.hid (HB2.out.lift hI.2.2.2)
    have HRs : Hid (Calls Try.prog 12 #[.agg #[.slice sb 1 sd, .slice tb 2 td], .agg #[.int .i64 1, .string ⟨#[]⟩, .int .i64 0, .int .i64 0, .slice none 0 0]] wc fun e w' => ∃ xa xc, e = .returned (.tuple #[.agg #[.int .i64 4, .string intN, .int .i64 0, .int .i64 0, .slice xa 0 xc], .bool true]) ∧ Rep w' (fun _ => True) intT (.agg #[.int .i64 4, .string intN, .int .i64 0, .int .i64 0, .slice xa 0 xc]) ∧ Below wc.heap.size wc w') :=
      (resolve_any s16b.slots 1 rfl (by decide) v0T sb sd tb 2 td _ (fun _ => True) wc HS3.out (v0_rep _ _)).mono fun e w' ⟨⟨u, b, h1, h2, h3, h4⟩, h5⟩ => by
        have hb : b = true := by rw [h2]; exact decide_eq_true sz16
        subst hb
        have hr := h3 rfl intT res16
        obtain ⟨n', a', m', c', rfl, hn, hm⟩ := hr.frm
        have hn' : n' = intN := hn
        have hm' : m' = 0 := hm
        subst hn' hm'
        exact ⟨a', c', h1, hr.imp (fun _ _ => trivial), h5⟩
    clear hI
    have e0 := HBs.out.cell 0 _ rfl
    have e1 := HBs.out.cell 1 _ rfl
    obtain ⟨d0, d1, d2, d3, d4⟩ := HB3.out.cells
    clear HSa HTa HB1 HB2 HFr HSt HK HBM HZD HDZ HD0
    go_wp2_with fail
    go_at_call 12
    refine HRs.out.mono ?_
    rintro e w5 ⟨xa, xc, rfl, hrx, hb5⟩
    have hal5 := HAl.out w5 (.cells #[.int .i64 4, .string intN, .int .i64 0, .int .i64 0, .slice xa 0 xc] 31)
    have hb55 : Below wc.heap.size wc (w5.alloc (.cells #[.int .i64 4, .string intN, .int .i64 0, .int .i64 0, .slice xa 0 xc] 31)) := hb5.trans (hal5.mono hb5.size)
    have HBx : Hid (Box (w5.alloc (.cells #[.int .i64 4, .string intN, .int .i64 0, .int .i64 0, .slice xa 0 xc] 31)) w5.heap.size (.int .i64 4) (.string intN) (.int .i64 0) (.int .i64 0) (.slice xa 0 xc)) := Box.made _ _ _ _ _ _
    have HRx := Lib.hid (hrx.lift hal5)
    have HBs5 := Lib.hid (HBs.out.lift hb55)
    have HS5 := Lib.hid (HS3.out.up hb55)
    have HT5 := Lib.hid (HT3.out.up hb55)
    have HB5 := Lib.hid (HB3.out.lift hb55)
    have HD5 := Lib.hid (HD3.out.trans (hb55.mono HD3.out.size))
    clear e0 e1 d0 d1 d2 d3 d4 hrx hb5 hal5 hb55 HRs HBs HS3 HT3 HB3 HD3
    go_upto_region 4 with fail
    generalize (w5.alloc (.cells #[.int .i64 4, .string intN, .int .i64 0, .int .i64 0, .slice xa 0 xc] 31)) = w6 at *
    generalize w5.heap.size = b5 at *
    have HRb : Hid (Calls Try.prog 16 #[.agg #[.slice sb 1 sd, .slice tb 2 td], .int .i64 0] w6 fun e w' => ∃ xa' xc' ya' yl' yc', e = .returned (.tuple #[.agg #[.slice xa' 0 xc', .slice ya' yl' yc'], .bool true]) ∧ Below w6.heap.size w6 w') :=
      (rollback_any s16b 0 _ (fun _ => True) w6 (by decide) (by decide) ⟨sb, sd, tb, td, rfl, HS5.out, HT5.out⟩).mono fun e w' ⟨u, h1, h2, h5⟩ => by
        rw [if_pos (by decide)] at h2
        obtain ⟨sa', sc', ta', tc', h2, -, -⟩ := h2
        exact ⟨sa', sc', ta', _, tc', by rw [h1, h2]; rfl, h5⟩
    have e0 := HBs5.out.cell 0 _ rfl
    have e1 := HBs5.out.cell 1 _ rfl
    go_wp2_with fail
    go_at_call 16
    refine HRb.out.mono ?_
    rintro e w7 ⟨xa', xc', ya', yl', yc', rfl, hb7⟩
    have hal7 := HAl.out w7 (.cells #[.slice xa' 0 xc', .slice ya' yl' yc'] 27)
    have hb77 : Below w6.heap.size w6 (w7.alloc (.cells #[.slice xa' 0 xc', .slice ya' yl' yc'] 27)) := hb7.trans (hal7.mono hb7.size)
    have HBv : Hid (BoxC 27 (w7.alloc (.cells #[.slice xa' 0 xc', .slice ya' yl' yc'] 27)) w7.heap.size [.slice xa' 0 xc', .slice ya' yl' yc']) := BoxC.made _ w7 _
    have HBs7 := Lib.hid (HBs5.out.lift hb77)
    have HB7 := Lib.hid (HB5.out.lift hb77)
    have HBx7 := Lib.hid (Box.lift HBx.out hb77)
    have HRx7 := Lib.hid (HRx.out.lift hb77)
    have HD7 := Lib.hid (HD5.out.trans (hb77.mono HD5.out.size))
    clear e0 e1 hb7 hal7 hb77 HRb HBs5 HS5 HT5 HB5 HBx HRx HD5
    go_upto_region 5 with fail
    generalize (w7.alloc (.cells #[.slice xa' 0 xc', .slice ya' yl' yc'] 27)) = w8 at *
    generalize w7.heap.size = b7 at *
    have hc := HB7.out.cells
    have hx := HBx7.out.cells
    have HK8 : Hid (∀ W, Below w8.heap.size w8 W → W.cell? ⟨b2, 0, none⟩ = some (.int .i64 1) ∧ W.cell? ⟨b2, 1, none⟩ = some (.string ⟨#[]⟩) ∧ W.cell? ⟨b2, 2, none⟩ = some (.int .i64 0) ∧ W.cell? ⟨b2, 3, none⟩ = some (.int .i64 0) ∧ W.cell? ⟨b2, 4, none⟩ = some (.slice none 0 0) ∧ W.cell? ⟨b5, 0, none⟩ = some (.int .i64 4) ∧ W.cell? ⟨b5, 1, none⟩ = some (.string intN) ∧ W.cell? ⟨b5, 2, none⟩ = some (.int .i64 0) ∧ W.cell? ⟨b5, 3, none⟩ = some (.int .i64 0) ∧ W.cell? ⟨b5, 4, none⟩ = some (.slice xa 0 xc) ∧ W.cell? ⟨b7, 0, none⟩ = some (.slice xa' 0 xc') ∧ W.cell? ⟨B3, 0, none⟩ = some (.slice sb 1 sd) ∧ W.cell? ⟨B3, 1, none⟩ = some (.slice tb 2 td)) := fun W hb => by
      obtain ⟨a0, a1, a2, a3, a4⟩ := (Box.lift HB7.out hb).cells
      obtain ⟨a5, a6, a7, a8, a9⟩ := (Box.lift HBx7.out hb).cells
      exact ⟨a0, a1, a2, a3, a4, a5, a6, a7, a8, a9, (HBv.out.lift hb).cell 0 _ rfl, (HBs7.out.lift hb).cell 0 _ rfl, (HBs7.out.lift hb).cell 1 _ rfl⟩
    clear hc hx
    have HEq1 : Hid (∀ W, Calls Try.prog 19 #[.agg #[.int .i64 1, .string ⟨#[]⟩, .int .i64 0, .int .i64 0, .slice none 0 0], .agg #[.int .i64 1, .string ⟨#[]⟩, .int .i64 0, .int .i64 0, .slice none 0 0]] W fun e w' => e = .returned (.bool true) ∧ Below W.heap.size W w') := fun W => by
      have := refEqual_any _ _ (Nat.le_refl _) v0T _ _ _ _ W (v0_rep W (fun _ => True)) (v0_rep W (fun _ => True))
      rwa [show teq v0T v0T = true from by decide +kernel] at this
    have HEq2 : Hid (∀ W, Below w8.heap.size w8 W → Calls Try.prog 19 #[.agg #[.int .i64 4, .string intN, .int .i64 0, .int .i64 0, .slice xa 0 xc], .agg #[.int .i64 4, .string intN, .int .i64 0, .int .i64 0, .slice none 0 0]] W fun e w' => e = .returned (.bool true) ∧ Below W.heap.size W w') := fun W hb => by
      have := refEqual_any _ _ (Nat.le_refl _) intT _ _ _ _ W (HRx7.out.lift hb) (int_rep W (fun _ => True))
      rwa [show teq intT intT = true from by decide +kernel] at this
    have HMk : Hid (∀ W, Calls Try.prog 20 #[.agg #[.slice sb 1 sd, .slice tb 2 td]] W fun e w' => e = .returned (.int .i64 2) ∧ Below W.heap.size W w') := fun W => mark_any sb 1 sd tb 2 td W
    have HE0 : Hid (Below w8.heap.size w8 w8.drew) := (Below.refl _ w8).drew
    go_region_held3 (fun W' => W'.cell? ⟨b2, 0, none⟩ = some (.int .i64 1) ∧ W'.cell? ⟨b2, 1, none⟩ = some (.string ⟨#[]⟩) ∧ W'.cell? ⟨b2, 2, none⟩ = some (.int .i64 0) ∧ W'.cell? ⟨b2, 3, none⟩ = some (.int .i64 0) ∧ W'.cell? ⟨b2, 4, none⟩ = some (.slice none 0 0) ∧ W'.cell? ⟨b5, 0, none⟩ = some (.int .i64 4) ∧ W'.cell? ⟨b5, 1, none⟩ = some (.string intN) ∧ W'.cell? ⟨b5, 2, none⟩ = some (.int .i64 0) ∧ W'.cell? ⟨b5, 3, none⟩ = some (.int .i64 0) ∧ W'.cell? ⟨b5, 4, none⟩ = some (.slice xa 0 xc) ∧ W'.cell? ⟨b7, 0, none⟩ = some (.slice xa' 0 xc') ∧ W'.cell? ⟨B3, 0, none⟩ = some (.slice sb 1 sd) ∧ W'.cell? ⟨B3, 1, none⟩ = some (.slice tb 2 td))
      (first
        | with_reducible exact HK8.out x5 HE5.out
        | with_reducible exact HK8.out x4 HE4.out
        | with_reducible exact HK8.out x3 HE3.out
        | with_reducible exact HK8.out x2 HE2.out
        | with_reducible exact HK8.out x1 HE1.out
        | with_reducible exact HK8.out w8.drew HE0.out)
      (first
        | (go_at_call 11; (with_reducible refine (HVr.out w8.drew).mono ?_); rintro e x1 ⟨rfl, hb⟩; have HE1 := Lib.hid (RowKit.Below.trans HE0.out (RowKit.Below.mono hb (RowKit.Below.size HE0.out))); clear hb)
        | (go_at_call 19; (with_reducible refine (HEq1.out x1).mono ?_); rintro e x2 ⟨rfl, hb⟩; have HE2 := Lib.hid (RowKit.Below.trans HE1.out (RowKit.Below.mono hb (RowKit.Below.size HE1.out))); clear hb)
        | (go_at_call 18; (with_reducible refine (HI.out x2).mono ?_); rintro e x3 ⟨rfl, hb⟩; have HE3 := Lib.hid (RowKit.Below.trans HE2.out (RowKit.Below.mono hb (RowKit.Below.size HE2.out))); clear hb)
        | (go_at_call 19; (with_reducible refine (HEq2.out x3 HE3.out).mono ?_); rintro e x4 ⟨rfl, hb⟩; have HE4 := Lib.hid (RowKit.Below.trans HE3.out (RowKit.Below.mono hb (RowKit.Below.size HE3.out))); clear hb)
        | (go_at_call 20; (with_reducible refine (HMk.out x4).mono ?_); rintro e x5 ⟨rfl, hb⟩; have HE5 := Lib.hid (RowKit.Below.trans HE4.out (RowKit.Below.mono hb (RowKit.Below.size HE4.out))); clear hb))
    all_goals
      go_wp2
      go_ret
      exact ⟨rfl, HL.out.trans ((HD7.out.trans (HE5.out.mono HD7.out.size)).mono HL.out.size)⟩
end Go.Proofs.Ytejlhfjhpminjaa
