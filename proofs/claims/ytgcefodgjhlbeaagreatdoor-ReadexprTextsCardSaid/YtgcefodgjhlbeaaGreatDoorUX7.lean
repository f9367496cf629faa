import Derived.Test.YtgcefodgjhlbeaaGreatDoorUX3
import Derived.Test.YtgcefodgjhlbeaaGreatDoorUE1
import Derived.Test.YtgcefodgjhlbeaaGreatDoorUX4
import Derived.Test.YtgcefodgjhlbeaaGreatDoorUX5
import Derived.Test.YtgcefodgjhlbeaaGreatDoorUB5
namespace Go.Proofs.YtgcefodgjhlbeaaGreatDoor
open Go.RowKit Go.Maps Mth

set_option maxRecDepth 100000 in
set_option maxHeartbeats 6400000 in
theorem done6_any (ts : List Tok) (b : Nat) (s : St) (T : Ex) (S : Nat → Prop) (c : List Value) (w : World) (hr : RdX w b ts s) (h : RepE w S T c) :
  Calls Tryz.prog 31 #[.pointer (some ⟨b, 0, none⟩), .agg c.toArray] w fun e w' => ∃ v, e = .returned v ∧ ResEAt w' S (resY T s) v ∧ Below w.heap.size w w' := by
 have HR := Lib.hid h
 obtain ⟨ka, kc, aa, ac, tk, tn, ti, th, ta, tl, tc, rfl⟩ := h.form
 have hbl := hr.lt
 obtain ⟨i, q, p⟩ := s
 have hb1 : Below w.heap.size w (w.alloc (.cells #[.int .i64 T.k, .int .i64 T.p, .string T.n, .int .i64 T.m, .slice ka T.kids.length kc, .slice aa T.arms.length ac, .int .i64 tk, .string tn, .int .i64 ti, .int .i64 th, .slice ta tl tc] 34)) := (Below.refl _ w).alloc (Nat.le_refl _) _
 have HA := Lib.hid (BoxC.made 34 w [.int .i64 T.k, .int .i64 T.p, .string T.n, .int .i64 T.m, .slice ka T.kids.length kc, .slice aa T.arms.length ac, .int .i64 tk, .string tn, .int .i64 ti, .int .i64 th, .slice ta tl tc])
 have hs1 : (w.alloc (.cells #[.int .i64 T.k, .int .i64 T.p, .string T.n, .int .i64 T.m, .slice ka T.kids.length kc, .slice aa T.arms.length ac, .int .i64 tk, .string tn, .int .i64 ti, .int .i64 th, .slice ta tl tc] 34)).heap.size = w.heap.size + 1 := by simp
 have HRd : Hid (∀ V, Below (w.alloc (.cells #[.int .i64 T.k, .int .i64 T.p, .string T.n, .int .i64 T.m, .slice ka T.kids.length kc, .slice aa T.arms.length ac, .int .i64 tk, .string tn, .int .i64 ti, .int .i64 th, .slice ta tl tc] 34)).heap.size (w.alloc (.cells #[.int .i64 T.k, .int .i64 T.p, .string T.n, .int .i64 T.m, .slice ka T.kids.length kc, .slice aa T.arms.length ac, .int .i64 tk, .string tn, .int .i64 ti, .int .i64 th, .slice ta tl tc] 34)) V → V.cell? ⟨b, 1, none⟩ = some (.int .i64 i) ∧ V.cell? ⟨b, 2, none⟩ = some (.bool q) ∧ V.cell? ⟨b, 3, none⟩ = some (.int .i64 p)) := fun V hb => by
  obtain ⟨lv, hrd, -⟩ := (hr.lift hb1).lift hb
  obtain ⟨-, c1, c2, c3, -⟩ := hrd.cells
  exact ⟨c1, c2, c3⟩
 have HB1 := Lib.hid hb1
 have HO := Lib.hid (outE_new (w.alloc (.cells #[.int .i64 T.k, .int .i64 T.p, .string T.n, .int .i64 T.m, .slice ka T.kids.length kc, .slice aa T.arms.length ac, .int .i64 tk, .string tn, .int .i64 ti, .int .i64 th, .slice ta tl tc] 34)))
 clear h hr hb1
 simp only [List.toArray] at HA
 generalize hw1 : (w.alloc (.cells #[.int .i64 T.k, .int .i64 T.p, .string T.n, .int .i64 T.m, .slice ka T.kids.length kc, .slice aa T.arms.length ac, .int .i64 tk, .string tn, .int .i64 ti, .int .i64 th, .slice ta tl tc] 34)) = w1 at *
 cases q
 ·go_enter Tryz.func31, Tryz.ntmps31
  go_upto_region 1 with fail
  have hs0 := HO.out.size
  generalize ((w1.alloc (.cells #[.int .i64 0, .int .i64 0, .string ⟨#[]⟩, .int .i64 0, .slice none 0 0, .slice none 0 0, .int .i64 0, .string ⟨#[]⟩, .int .i64 0, .int .i64 0, .slice none 0 0] 34)).alloc (.cells #[.int .i64 0, .int .i64 0] 43)) = V at *
  obtain ⟨r1, r2, r3⟩ := HRd.out V HO.out.low
  have HAV := Lib.hid (HA.out.lift HO.out.low)
  have hne1 : b ≠ w.heap.size + 1 := by omega
  have hne2 : b ≠ w.heap.size + 1 + 1 := by omega
  obtain ⟨a0, a1, a2, a3, a4, a5, a6, a7, a8, a9, a10⟩ := HAV.out.all11
  obtain ⟨t0, t1, t2, t3, t4, t5, t6, t7, t8, t9, t10⟩ := HO.out.typ.all11
  obtain ⟨y0, y1, y2, y3, y4, y5, y6, y7, y8, y9, y10⟩ := HO.out.typ.free11
  obtain ⟨⟨z0, z1⟩, k0, k1⟩ := HO.out.flt.all2
  rw [hs1] at t0 t1 t2 t3 t4 t5 t6 t7 t8 t9 t10 y0 y1 y2 y3 y4 y5 y6 y7 y8 y9 y10 z0 z1 k0 k1
  have HN1 := Lib.hid hs1
  clear hs1 hs0 hw1
  go_wp2
  go_region
  all_goals
   obtain ⟨hB, hF, hL0, -⟩ := HO.out.fin (.int .i64 T.k) (.int .i64 T.p) (.string T.n) (.int .i64 T.m) (.slice ka T.kids.length kc) (.slice aa T.arms.length ac) (.int .i64 tk) (.string tn) (.int .i64 ti) (.int .i64 th) (.slice ta tl tc) (.int .i64 0) (.int .i64 0)
   rw [HN1.out] at hB hF hL0
   clear r1 r2 r3 a0 a1 a2 a3 a4 a5 a6 a7 a8 a9 a10 t0 t1 t2 t3 t4 t5 t6 t7 t8 t9 t10 y0 y1 y2 y3 y4 y5 y6 y7 y8 y9 y10 z0 z1 k0 k1
   generalize (((((((((((((V.setCell ⟨w.heap.size + 1, 0, none⟩ (.int .i64 T.k)).setCell ⟨w.heap.size + 1, 1, none⟩ (.int .i64 T.p)).setCell ⟨w.heap.size + 1, 2, none⟩ (.string T.n)).setCell ⟨w.heap.size + 1, 3, none⟩ (.int .i64 T.m)).setCell ⟨w.heap.size + 1, 4, none⟩ (.slice ka T.kids.length kc)).setCell ⟨w.heap.size + 1, 5, none⟩ (.slice aa T.arms.length ac)).setCell ⟨w.heap.size + 1, 6, none⟩ (.int .i64 tk)).setCell ⟨w.heap.size + 1, 7, none⟩ (.string tn)).setCell ⟨w.heap.size + 1, 8, none⟩ (.int .i64 ti)).setCell ⟨w.heap.size + 1, 9, none⟩ (.int .i64 th)).setCell ⟨w.heap.size + 1, 10, none⟩ (.slice ta tl tc)).setCell ⟨w.heap.size + 1 + 1, 0, none⟩ (.int .i64 0)).setCell ⟨w.heap.size + 1 + 1, 1, none⟩ (.int .i64 0)) = X at *
   have hB' : BoxC 34 X.drew (w.heap.size + 1) _ := hB
   have hF' : BoxC 43 X.drew (w.heap.size + 1 + 1) _ := hF
   have hL : Below w.heap.size w X.drew := (HB1.out.trans (hL0.mono (by omega))).drew
   obtain ⟨c0, c1, c2, c3, c4, c5, c6, c7, c8, c9, c10⟩ := hB'.all11
   obtain ⟨⟨u0, u1⟩, -⟩ := hF'.all2
   go_wp2
   refine bodyPost_ret (by simp [results, Tryz.results31, go_sem, c0, c1, c2, c3, c4, c5, c6, c7, c8, c9, c10, u0, u1]; try rfl) rfl ?_
   exact ⟨_, rfl, ⟨_, rfl, HR.out.lift hL⟩, hL⟩
 ·go_enter Tryz.func31, Tryz.ntmps31
  go_upto_region 1 with fail
  have hs0 := HO.out.size
  generalize ((w1.alloc (.cells #[.int .i64 0, .int .i64 0, .string ⟨#[]⟩, .int .i64 0, .slice none 0 0, .slice none 0 0, .int .i64 0, .string ⟨#[]⟩, .int .i64 0, .int .i64 0, .slice none 0 0] 34)).alloc (.cells #[.int .i64 0, .int .i64 0] 43)) = V at *
  obtain ⟨r1, r2, r3⟩ := HRd.out V HO.out.low
  have HAV := Lib.hid (HA.out.lift HO.out.low)
  have hne1 : b ≠ w.heap.size + 1 := by omega
  have hne2 : b ≠ w.heap.size + 1 + 1 := by omega
  obtain ⟨a0, a1, a2, a3, a4, a5, a6, a7, a8, a9, a10⟩ := HAV.out.all11
  obtain ⟨t0, t1, t2, t3, t4, t5, t6, t7, t8, t9, t10⟩ := HO.out.typ.all11
  obtain ⟨y0, y1, y2, y3, y4, y5, y6, y7, y8, y9, y10⟩ := HO.out.typ.free11
  obtain ⟨⟨z0, z1⟩, k0, k1⟩ := HO.out.flt.all2
  rw [hs1] at t0 t1 t2 t3 t4 t5 t6 t7 t8 t9 t10 y0 y1 y2 y3 y4 y5 y6 y7 y8 y9 y10 z0 z1 k0 k1
  have HN1 := Lib.hid hs1
  clear hs1 hs0 hw1
  go_wp2
  go_region
  all_goals
   obtain ⟨hB, hF, hL0, -⟩ := HO.out.fin (.int .i64 0) (.int .i64 0) (.string ⟨#[]⟩) (.int .i64 0) (.slice none 0 0) (.slice none 0 0) (.int .i64 0) (.string ⟨#[]⟩) (.int .i64 0) (.int .i64 0) (.slice none 0 0) (.int .i64 3) (.int .i64 p)
   rw [HN1.out] at hB hF hL0
   clear r1 r2 r3 a0 a1 a2 a3 a4 a5 a6 a7 a8 a9 a10 t0 t1 t2 t3 t4 t5 t6 t7 t8 t9 t10 y0 y1 y2 y3 y4 y5 y6 y7 y8 y9 y10 z0 z1 k0 k1
   generalize (((((((((((((V.setCell ⟨w.heap.size + 1, 0, none⟩ (.int .i64 0)).setCell ⟨w.heap.size + 1, 1, none⟩ (.int .i64 0)).setCell ⟨w.heap.size + 1, 2, none⟩ (.string ⟨#[]⟩)).setCell ⟨w.heap.size + 1, 3, none⟩ (.int .i64 0)).setCell ⟨w.heap.size + 1, 4, none⟩ (.slice none 0 0)).setCell ⟨w.heap.size + 1, 5, none⟩ (.slice none 0 0)).setCell ⟨w.heap.size + 1, 6, none⟩ (.int .i64 0)).setCell ⟨w.heap.size + 1, 7, none⟩ (.string ⟨#[]⟩)).setCell ⟨w.heap.size + 1, 8, none⟩ (.int .i64 0)).setCell ⟨w.heap.size + 1, 9, none⟩ (.int .i64 0)).setCell ⟨w.heap.size + 1, 10, none⟩ (.slice none 0 0)).setCell ⟨w.heap.size + 1 + 1, 0, none⟩ (.int .i64 3)).setCell ⟨w.heap.size + 1 + 1, 1, none⟩ (.int .i64 p)) = X at *
   have hB' : BoxC 34 X.drew (w.heap.size + 1) _ := hB
   have hF' : BoxC 43 X.drew (w.heap.size + 1 + 1) _ := hF
   have hL : Below w.heap.size w X.drew := (HB1.out.trans (hL0.mono (by omega))).drew
   obtain ⟨c0, c1, c2, c3, c4, c5, c6, c7, c8, c9, c10⟩ := hB'.all11
   obtain ⟨⟨u0, u1⟩, -⟩ := hF'.all2
   go_wp2
   refine bodyPost_ret (by simp [results, Tryz.results31, go_sem, c0, c1, c2, c3, c4, c5, c6, c7, c8, c9, c10, u0, u1]; try rfl) rfl ?_
   exact ⟨_, rfl, ⟨_, rfl, repE_zero _ _⟩, hL⟩
set_option maxRecDepth 100000 in
set_option maxHeartbeats 6400000 in
theorem zExprCall (ts : List Tok) (hok : TkOk ts) (S : Nat → Prop) (lv : Value) (k : Int) (T : Ex) (s : St) (r : Option (Ex × St)) (hr : r = some (T, s)) (HM : ZAt 32 #[] ts ⟨startAt ts k, false, 0⟩ r) (w : World) (h : TokAt w S lv ts) :
  Calls Tryz.prog 13 #[lv, .int .i64 k] w fun e w' => ∃ v, e = .returned v ∧ ResEAt w' (fun c => w.heap.size ≤ c) (resY T s) v ∧ Below w.heap.size w w' := by
 have HO : Hid (OutE w _) := outE_new w
 have HN : Hid (∀ V, Below w.heap.size w V → Calls Tryz.prog 30 #[lv, .int .i64 k] V fun e w' => e = .returned (.pointer (some ⟨V.heap.size, 0, none⟩)) ∧ RdX w' V.heap.size ts ⟨startAt ts k, false, 0⟩ ∧ Below V.heap.size V w') := fun V hb => by
  obtain ⟨a, cap, hv, hcap, hc⟩ := h
  refine new_any ts hok (fun g => g < w.heap.size) lv k V (TokAt.kept (fun _ h => h) (fun g hg hl => hb.block g hg) (w := w) ⟨a, cap, hv, hcap, fun j t ht => ?_⟩)
  obtain ⟨g, ha, hs, h1, h2, h3⟩ := hc j t ht
  exact ⟨g, ha, World.block_lt_of_cell? _ _ h1, h1, h2, h3⟩
 have HT := Lib.hid (fun (b : Nat) (V : World) (hb : b + 1 ≤ V.heap.size) (hr' : RdX V b ts ⟨startAt ts k, false, 0⟩) => HM T s hr b (b + 1) V (Nat.lt_succ_self b) hb hr')
 have HDn : Hid (∀ (b : Nat) (S : Nat → Prop) (c : List Value) (V : World), RdX V b ts s → RepE V S T c → Calls Tryz.prog 31 #[.pointer (some ⟨b, 0, none⟩), .agg c.toArray] V fun e w' => ∃ v, e = .returned v ∧ ResEAt w' S (resY T s) v ∧ Below V.heap.size V w') := fun b S c V h1 h2 => done6_any ts b s T S c V h1 h2
 clear hr HM
 generalize resY T s = R at *
 obtain ⟨q, qn, qe, qp⟩ := R
 obtain ⟨a, cap, rfl, -, -⟩ := h
 go_enter Tryz.func13, Tryz.ntmps13
 go_upto_region 1 with fail
 generalize ((w.alloc (.cells #[.int .i64 0, .int .i64 0, .string ⟨#[]⟩, .int .i64 0, .slice none 0 0, .slice none 0 0, .int .i64 0, .string ⟨#[]⟩, .int .i64 0, .int .i64 0, .slice none 0 0] 34)).alloc (.cells #[.int .i64 0, .int .i64 0] 43)) = V at *
 go_wp2_with fail
 go_at_call 30
 refine (HN.out V HO.out.low).mono ?_
 rintro e w1 ⟨rfl, hr1, hb1⟩
 have HO1 := Lib.hid (HO.out.lift hb1)
 have HR1 := Lib.hid hr1
 have hs0 := HO.out.size
 have hlt := hr1.lt
 clear hr1 hb1 HO HN
 generalize V.heap.size = b at *
 go_wp2_with fail
 go_at_call 32
 refine (HT.out b w1 hlt HR1.out).mono ?_
 rintro e w2 ⟨c, rfl, hrep, hr2, hg2⟩
 have HO2 := Lib.hid (HO1.out.grown hs0 hg2)
 have HR2 := Lib.hid hr2
 have HP2 := Lib.hid hrep
 obtain ⟨ka0, kc0, aa0, ac0, tk0, tn0, ti0, th0, ta0, tl0, tc0, rfl⟩ := hrep.form
 clear hrep hr2 hg2 HO1 HR1 HT
 go_wp2_with fail
 go_at_call 31
 refine (HDn.out b _ _ w2 HR2.out HP2.out).mono ?_
 rintro e w3 ⟨v, rfl, ⟨c, rfl, hrep3⟩, hb3⟩
 have HO3 := Lib.hid (HO2.out.lift hb3)
 have HP3 := Lib.hid (hrep3.imp (S' := fun g => w.heap.size + 2 ≤ g) (fun g hg => by have : b + 1 ≤ g := hg; omega))
 dsimp only at hrep3 HP3
 obtain ⟨ka, kc, aa, ac, tk, tn, ti, th, ta, tl, tc, rfl⟩ := hrep3.form
 clear hrep3 hb3 HO2 HR2 HP2
 have HF := Lib.hid (HO3.out.fin (.int .i64 q.k) (.int .i64 q.p) (.string q.n) (.int .i64 q.m) (.slice ka q.kids.length kc) (.slice aa q.arms.length ac) (.int .i64 tk) (.string tn) (.int .i64 ti) (.int .i64 th) (.slice ta tl tc) (.int .i64 qe) (.int .i64 qp))
 obtain ⟨t0, t1, t2, t3, t4, t5, t6, t7, t8, t9, t10⟩ := HO3.out.typ.all11
 obtain ⟨y0, y1, y2, y3, y4, y5, y6, y7, y8, y9, y10⟩ := HO3.out.typ.free11
 obtain ⟨⟨z0, z1⟩, k0, k1⟩ := HO3.out.flt.all2
 go_wp2
 obtain ⟨hB, hF, hL, hK⟩ := HF.out
 clear HF t0 t1 t2 t3 t4 t5 t6 t7 t8 t9 t10 y0 y1 y2 y3 y4 y5 y6 y7 y8 y9 y10 z0 z1 k0 k1
 generalize (((((((((((((w3.setCell ⟨w.heap.size, 0, none⟩ (.int .i64 q.k)).setCell ⟨w.heap.size, 1, none⟩ (.int .i64 q.p)).setCell ⟨w.heap.size, 2, none⟩ (.string q.n)).setCell ⟨w.heap.size, 3, none⟩ (.int .i64 q.m)).setCell ⟨w.heap.size, 4, none⟩ (.slice ka q.kids.length kc)).setCell ⟨w.heap.size, 5, none⟩ (.slice aa q.arms.length ac)).setCell ⟨w.heap.size, 6, none⟩ (.int .i64 tk)).setCell ⟨w.heap.size, 7, none⟩ (.string tn)).setCell ⟨w.heap.size, 8, none⟩ (.int .i64 ti)).setCell ⟨w.heap.size, 9, none⟩ (.int .i64 th)).setCell ⟨w.heap.size, 10, none⟩ (.slice ta tl tc)).setCell ⟨w.heap.size + 1, 0, none⟩ (.int .i64 qe)).setCell ⟨w.heap.size + 1, 1, none⟩ (.int .i64 qp)) = X at *
 obtain ⟨c0, c1, c2, c3, c4, c5, c6, c7, c8, c9, c10⟩ := hB.all11
 obtain ⟨⟨u0, u1⟩, -⟩ := hF.all2
 refine bodyPost_ret (by simp [results, Tryz.results13, go_sem, c0, c1, c2, c3, c4, c5, c6, c7, c8, c9, c10, u0, u1]; try rfl) rfl ?_
 exact ⟨_, rfl, ⟨_, rfl, HP3.out.kept (fun c hc => by have : w.heap.size + 2 ≤ c := hc; omega) (fun c hc hlt => hK c hc hlt)⟩, hL⟩
end Go.Proofs.YtgcefodgjhlbeaaGreatDoor

namespace Go.Proofs.YtgcefodgjhlbeaaGreatDoor
open Go.RowKit Go.Maps Mth

theorem zAt_none (fid : FuncId) (more : Array Value) (ts : List Tok) (s : St) : ZAt fid more ts s none := fun T j h => by cases h
theorem zAll_any (ts : List Tok) (hok : TkOk ts) (hv : TkVal ts) : ∀ f, f ≤ 900000 → (∀ g, g ≤ f → ∀ s, ZAt 32 #[] ts s (zRead g ts s)) ∧ (∀ g, g ≤ f → ∀ s, ZAt 60 #[] ts s (zAtom g ts s)) ∧ (∀ g, g ≤ f → ∀ s p, ZAt 59 #[.int .i64 p] ts s (zCas g ts s p)) := by
 intro f
 induction f with
 | zero =>
  intro _
  refine ⟨fun g hg s => ?_, fun g hg s => ?_, fun g hg s p => ?_⟩
  all_goals
   obtain rfl : g = 0 := by omega
  ·simp only [zRead]; exact zAt_none _ _ _ _
  ·simp only [zAtom]; exact zAt_none _ _ _ _
  ·simp only [zCas]; exact zAt_none _ _ _ _
 | succ f ih =>
  intro hf
  obtain ⟨i1, i2, i3⟩ := ih (by omega)
  have hl := hok.1
  refine ⟨fun g hg s => ?_, fun g hg s => ?_, fun g hg s p => ?_⟩
  ·by_cases h : g ≤ f
   ·exact i1 g h s
   ·obtain rfl : g = f + 1 := by omega
    exact zRead_of ts hok hv s f (by omega) i1 i2 i3
  ·by_cases h : g ≤ f
   ·exact i2 g h s
   ·obtain rfl : g = f + 1 := by omega
    exact zAtom_of ts hok hv s f (by omega) (by omega) i1
  ·by_cases h : g ≤ f
   ·exact i3 g h s p
   ·obtain rfl : g = f + 1 := by omega
    exact zCas_of ts hok s p f (by omega) i1
theorem resY_same {T T' : Ex} {s s' : St} (h : EqS T s T' s') : resY T' s' = resY T s := by
 rcases h.cases with ⟨h1, h2, h3⟩ | ⟨h1, rfl, rfl, -⟩
 ·unfold resY; rw [h1, h2, h3]; rfl
 ·rfl
theorem rfExpr_any (ts : List Tok) (hok : TkOk ts) (hv : TkVal ts) (S : Nat → Prop) (lv : Value) (k : Int) (w : World) (h : TokAt w S lv ts) :
  Calls Tryz.prog 13 #[lv, .int .i64 k] w fun e w' => ∃ v, e = .returned v ∧ ResEAt w' (fun c => w.heap.size ≤ c) (rdE ts k) v ∧ Below w.heap.size w w' := by
 have hl := hok.1
 have hm := mu_le ts ⟨startAt ts k, false, 0⟩
 obtain ⟨T, s', hr, -⟩ := (yends ts (6 * ts.length + 6)).expr ⟨startAt ts k, false, 0⟩ (by omega)
 obtain ⟨T', s1', hz, hE⟩ := (same_ex ts hv (6 * ts.length + 6)).expr ⟨startAt ts k, false, 0⟩ T s' (fun _ => rfl) hr
 have e : rdE ts k = resY T' s1' := by unfold rdE; rw [hr, resY_same hE]; rfl
 rw [e]
 exact zExprCall ts hok S lv k T' s1' _ hz ((zAll_any ts hok hv (6 * ts.length + 6) (by omega)).1 _ (Nat.le_refl _) _) w h
theorem resY_bnd {T : Ex} {s : St} (h : bndE T = true) : bndE (resY T s).T = true := by
 unfold resY
 split
 ·rfl
 ·exact h
theorem rdE_bnd (ts : List Tok) (hok : TkOk ts) (k : Int) : bndE (rdE ts k).T = true := by
 have hl := hok.1
 unfold rdE rdOfY
 split
 ·rename_i T s h
  exact resY_bnd ((ybds ts _ (by omega)).expr _ _ _ h)
 ·rfl
theorem rdEA_bnd (ts : List Tok) (hok : TkOk ts) (k : Int) : bndE (rdEA ts k).T = true := by
 have hl := hok.1
 unfold rdEA rdOfY
 split
 ·rename_i T s h
  exact resY_bnd ((ybds ts _ (by omega)).atom _ _ _ h)
 ·rfl
end Go.Proofs.YtgcefodgjhlbeaaGreatDoor
