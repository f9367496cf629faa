import Derived.Test.YtgcefodgjhlbeaaGreatDoorUB4
import Derived.Test.YtgcefodgjhlbeaaGreatDoorUB5
import Derived.Test.YtgcefodgjhlbeaaGreatDoorUC6
namespace Go.Proofs.YtgcefodgjhlbeaaGreatDoor
open Go.RowKit Go.Maps Mth

structure YAll (ts : List Tok) (f : Nat) : Prop where
 expr : ∀ s, YAt 28 #[] ts s (yExpr f ts s)
 fn : ∀ s, s.i < ts.length → YAt 50 #[] ts s (yFun f ts s)
 loc : ∀ s, s.i < ts.length → YAt 52 #[] ts s (yLoc f ts s)
 cas : ∀ s, s.i < ts.length → YAt 53 #[] ts s (yCas f ts s)
 app : ∀ s, YAt 54 #[] ts s (yApp f ts s)
 atom : ∀ s, YAt 37 #[] ts s (yAtom f ts s)
 enc : ∀ s p, YAt 67 #[.int .i64 p] ts s (yEnc f ts s p)
 held : ∀ s p, YAt 68 #[.int .i64 p] ts s (yHeld f ts s p)
 arm : ∀ s, YAtA 86 ts s (yArm f ts s)
theorem yAt_none (fid : Nat) (m : Array Value) (ts : List Tok) (s : St) : YAt fid m ts s none := fun T j h => by cases h
theorem yAll_any (ts : List Tok) (hv : TkVal ts) (HTy : ∀ s, yM ts s ⟨#[58]⟩ = true → TypAt ts (xStep s)) : ∀ f, f ≤ 900000 → YAll ts f := by
 intro f
 induction f using Nat.strongRecOn with
 | ind f ih =>
  intro hf
  cases f with
  | zero =>
   refine ⟨fun s => ?_, fun s _ => ?_, fun s _ => ?_, fun s _ => ?_, fun s => ?_, fun s => ?_, fun s p => ?_, fun s p => ?_, fun s => ?_⟩
   ·unfold yExpr; exact yAt_none _ _ _ _
   ·unfold yFun; exact yAt_none _ _ _ _
   ·unfold yLoc; exact yAt_none _ _ _ _
   ·unfold yCas; exact yAt_none _ _ _ _
   ·unfold yApp; exact yAt_none _ _ _ _
   ·unfold yAtom; exact yAt_none _ _ _ _
   ·unfold yEnc; exact yAt_none _ _ _ _
   ·unfold yHeld; exact yAt_none _ _ _ _
   ·unfold yArm; exact fun T j h => by cases h
  | succ n =>
   have H := ih n (Nat.lt_succ_self n) (by omega)
   refine ⟨fun s => ?_, fun s hs => ?_, fun s hs => ?_, fun s hs => ?_, fun s => ?_, fun s => ?_, fun s p => ?_, fun s p => ?_, fun s => ?_⟩
   ·exact yExpr_of ts s n (fun h => H.fn s (yM_lt h).2) (fun h => H.loc s (yW_lt h).2) (fun h => H.cas s (yW_lt h).2) (H.app s)
   ·exact yFun_of ts s n hs H.expr
   ·cases n with
    | zero => unfold yLoc yLoc2; exact yAt_none _ _ _ _
    | succ m => exact yLoc_of ts s m hs (ih m (by omega) (by omega)).expr
   ·exact yCas_of ts s n (by omega) hs H.expr (fun g hg s => (ih g (by omega) (by omega)).arm s)
   ·exact yApp_of ts s n (fun g hg s => (ih g (by omega) (by omega)).atom s)
   ·exact yAtom_of ts hv s n H.enc H.held
   ·exact yEnc_of ts s n p H.expr HTy
   ·exact yHeld_of ts s n p H.expr
   ·exact yArm_of ts s n (by omega) H.expr
end Go.Proofs.YtgcefodgjhlbeaaGreatDoor

namespace Go.Proofs.YtgcefodgjhlbeaaGreatDoor
open Go.RowKit Go.Maps Mth

structure ResE where
 T : Ex
 n : Int
 e : Int
 p : Int
def ResEAt (w : World) (S : Nat → Prop) (r : ResE) (v : Value) : Prop := ∃ c, v = .tuple #[.agg (List.toArray c), .int .i64 r.n, .agg #[.int .i64 r.e, .int .i64 r.p]] ∧ RepE w S r.T c
def resY (T : Ex) (s : St) : ResE := if s.bad then ⟨zEx, 0, 3, s.p⟩ else ⟨T, s.i, 0, 0⟩
structure OutE (w : World) (V : World) : Prop where
 typ : BoxC 34 V w.heap.size zExC
 flt : BoxC 43 V (w.heap.size + 1) [.int .i64 0, .int .i64 0]
 low : Below w.heap.size w V
 size : w.heap.size + 2 ≤ V.heap.size
theorem outE_new (w : World) : OutE w ((w.alloc (.cells #[.int .i64 0, .int .i64 0, .string ⟨#[]⟩, .int .i64 0, .slice none 0 0, .slice none 0 0, .int .i64 0, .string ⟨#[]⟩, .int .i64 0, .int .i64 0, .slice none 0 0] 34)).alloc (.cells #[.int .i64 0, .int .i64 0] 43)) := by
 refine ⟨?_, ?_, ((Below.refl _ w).alloc (Nat.le_refl _) _).alloc (by simp) _, by simp⟩
 ·show (_ : Array _)[_]? = _
  rw [heap_at, if_neg (by simp), heap_at, if_pos rfl]; rfl
 ·show (_ : Array _)[_]? = _
  rw [heap_at, if_pos (by simp)]
theorem OutE.lift {w V V' : World} (h : OutE w V) (hb : Below V.heap.size V V') : OutE w V' :=
 ⟨h.typ.lift hb, h.flt.lift hb, h.low.trans (hb.mono h.low.size), Nat.le_trans h.size hb.size⟩
theorem OutE.grown {w V V' : World} {b : Nat} (h : OutE w V) (hb : w.heap.size + 2 ≤ b) (hg : V.grownBy V' (some b)) : OutE w V' :=
 ⟨h.typ.grown hg (by intro e; have := Option.some.inj e; omega), h.flt.grown hg (by intro e; have := Option.some.inj e; omega), Below.grown h.low hg h.low.size (fun k hk => by have := Option.some.inj hk; omega), Nat.le_trans h.size hg.size⟩
theorem OutE.fin {w V : World} (h : OutE w V) (v0 v1 v2 v3 v4 v5 v6 v7 v8 v9 v10 e0 e1 : Value) :
  BoxC 34 (((((((((((((V.setCell ⟨w.heap.size, 0, none⟩ v0).setCell ⟨w.heap.size, 1, none⟩ v1).setCell ⟨w.heap.size, 2, none⟩ v2).setCell ⟨w.heap.size, 3, none⟩ v3).setCell ⟨w.heap.size, 4, none⟩ v4).setCell ⟨w.heap.size, 5, none⟩ v5).setCell ⟨w.heap.size, 6, none⟩ v6).setCell ⟨w.heap.size, 7, none⟩ v7).setCell ⟨w.heap.size, 8, none⟩ v8).setCell ⟨w.heap.size, 9, none⟩ v9).setCell ⟨w.heap.size, 10, none⟩ v10).setCell ⟨w.heap.size + 1, 0, none⟩ e0).setCell ⟨w.heap.size + 1, 1, none⟩ e1) w.heap.size [v0, v1, v2, v3, v4, v5, v6, v7, v8, v9, v10] ∧
  BoxC 43 (((((((((((((V.setCell ⟨w.heap.size, 0, none⟩ v0).setCell ⟨w.heap.size, 1, none⟩ v1).setCell ⟨w.heap.size, 2, none⟩ v2).setCell ⟨w.heap.size, 3, none⟩ v3).setCell ⟨w.heap.size, 4, none⟩ v4).setCell ⟨w.heap.size, 5, none⟩ v5).setCell ⟨w.heap.size, 6, none⟩ v6).setCell ⟨w.heap.size, 7, none⟩ v7).setCell ⟨w.heap.size, 8, none⟩ v8).setCell ⟨w.heap.size, 9, none⟩ v9).setCell ⟨w.heap.size, 10, none⟩ v10).setCell ⟨w.heap.size + 1, 0, none⟩ e0).setCell ⟨w.heap.size + 1, 1, none⟩ e1) (w.heap.size + 1) [e0, e1] ∧
  Below w.heap.size w (((((((((((((V.setCell ⟨w.heap.size, 0, none⟩ v0).setCell ⟨w.heap.size, 1, none⟩ v1).setCell ⟨w.heap.size, 2, none⟩ v2).setCell ⟨w.heap.size, 3, none⟩ v3).setCell ⟨w.heap.size, 4, none⟩ v4).setCell ⟨w.heap.size, 5, none⟩ v5).setCell ⟨w.heap.size, 6, none⟩ v6).setCell ⟨w.heap.size, 7, none⟩ v7).setCell ⟨w.heap.size, 8, none⟩ v8).setCell ⟨w.heap.size, 9, none⟩ v9).setCell ⟨w.heap.size, 10, none⟩ v10).setCell ⟨w.heap.size + 1, 0, none⟩ e0).setCell ⟨w.heap.size + 1, 1, none⟩ e1) ∧
  ∀ c, w.heap.size + 2 ≤ c → c < V.heap.size → (((((((((((((V.setCell ⟨w.heap.size, 0, none⟩ v0).setCell ⟨w.heap.size, 1, none⟩ v1).setCell ⟨w.heap.size, 2, none⟩ v2).setCell ⟨w.heap.size, 3, none⟩ v3).setCell ⟨w.heap.size, 4, none⟩ v4).setCell ⟨w.heap.size, 5, none⟩ v5).setCell ⟨w.heap.size, 6, none⟩ v6).setCell ⟨w.heap.size, 7, none⟩ v7).setCell ⟨w.heap.size, 8, none⟩ v8).setCell ⟨w.heap.size, 9, none⟩ v9).setCell ⟨w.heap.size, 10, none⟩ v10).setCell ⟨w.heap.size + 1, 0, none⟩ e0).setCell ⟨w.heap.size + 1, 1, none⟩ e1).heap[c]? = V.heap[c]? := by
 obtain ⟨hB, hG⟩ := h.typ.set11 v0 v1 v2 v3 v4 v5 v6 v7 v8 v9 v10
 have hF := h.flt.grown hG (by intro e; have := Option.some.inj e; omega)
 have hL := Below.grown h.low hG h.low.size (fun k hk => by have := Option.some.inj hk; omega)
 generalize (((((((((((V.setCell ⟨w.heap.size, 0, none⟩ v0).setCell ⟨w.heap.size, 1, none⟩ v1).setCell ⟨w.heap.size, 2, none⟩ v2).setCell ⟨w.heap.size, 3, none⟩ v3).setCell ⟨w.heap.size, 4, none⟩ v4).setCell ⟨w.heap.size, 5, none⟩ v5).setCell ⟨w.heap.size, 6, none⟩ v6).setCell ⟨w.heap.size, 7, none⟩ v7).setCell ⟨w.heap.size, 8, none⟩ v8).setCell ⟨w.heap.size, 9, none⟩ v9).setCell ⟨w.heap.size, 10, none⟩ v10) = V1 at *
 obtain ⟨a0, g0, -⟩ := hF.set 0 e0
 obtain ⟨a1, g1, -⟩ := a0.set 1 e1
 have g01 := grown_trans g0 g1
 refine ⟨hB.grown g01 (by intro e; have := Option.some.inj e; omega), a1, Below.grown hL g01 hL.size (fun k hk => by have := Option.some.inj hk; omega), fun c hc hlt => ?_⟩
 rw [g01.block c (Nat.lt_of_lt_of_le hlt hG.size) (by intro e; have := Option.some.inj e; omega), hG.block c hlt (by intro e; have := Option.some.inj e; omega)]
theorem BoxC.all2 {t : TypeId} {w : World} {B : Nat} {c0 c1 : Value} (h : BoxC t w B [c0, c1]) : (w.cell? ⟨B, 0, none⟩ = some c0 ∧ w.cell? ⟨B, 1, none⟩ = some c1) ∧ w.frozen? ⟨B, 0, none⟩ = false ∧ w.frozen? ⟨B, 1, none⟩ = false :=
 ⟨⟨h.cell 0 _ rfl, h.cell 1 _ rfl⟩, h.free 0, h.free 1⟩
set_option maxRecDepth 100000 in
set_option maxHeartbeats 6400000 in
theorem yRead52 (ts : List Tok) (hok : TkOk ts) (ea : Addr) (S : Nat → Prop) (lv : Value) (k : Int) (T : Ex) (s' : St) (r : Option (Ex × St)) (hr : r = some (T, s')) (HM : YAt 28 #[] ts ⟨startAt ts k, false, 0⟩ r) (w : World) (h : TokAt w S lv ts) (hg2 : G2 ea w) :
  Calls Tryz.prog 27 #[lv, .int .i64 k, .func (.func 28) #[] #[]] w fun e w' => ∃ v, e = .returned v ∧ ResEAt w' (fun c => w.heap.size ≤ c) (resY T s') v ∧ Below w.heap.size w w' := by
 have eg : ∀ args w, (callFunc 28 args).run Tryz.prog w = .ok (.enter 28 args) w := enters_of Tryz.func28 (by kernel_rfl) rfl
 have HO : Hid (OutE w _) := outE_new w
 have HC := Lib.hid (fun (b : Nat) (V : World) (h : RdY ea V b ts ⟨startAt ts k, false, 0⟩) => HM T s' hr ea b V.heap.size V h.lt (Nat.le_refl _) h)
 have hi := startAt_le ts k
 have hw1 : 3 < w.heap.size := hg2.gl.lt
 have hl := hok.1
 have HF : Hid (∀ i V, OutE w V → i ≤ ts.length → RdY ea (V.alloc (.cells #[lv, .int .i64 (i : Nat), .nilIface, .int .i64 0] 100)) V.heap.size ts ⟨i, false, 0⟩ ∧ OutE w (V.alloc (.cells #[lv, .int .i64 (i : Nat), .nilIface, .int .i64 0] 100))) := fun i V hV hi => by
  have hb : Below V.heap.size V (V.alloc (.cells #[lv, .int .i64 (i : Nat), .nilIface, .int .i64 0] 100)) := (Below.refl _ V).alloc (Nat.le_refl _) _
  have hbw := hV.low.trans (hb.mono hV.low.size)
  refine ⟨⟨lv, heap_alloc_new V _, TokAt.below h hV.low.size hbw, hi, hok, hg2.lift hbw, ?_⟩, hV.lift hb⟩
  have := hV.size
  omega
 have hcase : (k < 0 ∧ startAt ts k = ts.length) ∨ (decide (k < 0) = false ∧ (ts.length : Int) < k ∧ startAt ts k = ts.length) ∨ (∃ n : Nat, k = n ∧ n ≤ ts.length ∧ startAt ts k = n) := by
  by_cases h1 : k < 0
  ·exact .inl ⟨h1, by unfold startAt; rw [if_pos (.inl h1)]⟩
  ·by_cases h2 : (ts.length : Int) < k
   ·exact .inr (.inl ⟨by simpa using h1, h2, by unfold startAt; rw [if_pos (.inr h2)]⟩)
   ·exact .inr (.inr ⟨k.toNat, by omega, by omega, by unfold startAt; rw [if_neg (by omega)]⟩)
 obtain ⟨a, cap, rfl, hcap, -⟩ := h
 clear hr HM hg2 r
 obtain ⟨i0, hi0⟩ : ∃ i0, startAt ts k = i0 := ⟨_, rfl⟩
 rw [hi0] at hcase HC hi
 clear hi0
 rcases hcase with ⟨h1, rfl⟩ | ⟨h1, h2, rfl⟩ | ⟨n, rfl, h2, rfl⟩
 rotate_left 2
 have h3 : decide ((i0 : Int) < 0) = false := by simp
 have h4 : decide (ts.length < i0) = false := by simp; omega
 all_goals
  go_enter Tryz.func27, Tryz.ntmps27
  go_upto_region 3 with fail
  generalize ((w.alloc (.cells #[.int .i64 0, .int .i64 0, .string ⟨#[]⟩, .int .i64 0, .slice none 0 0, .slice none 0 0, .int .i64 0, .string ⟨#[]⟩, .int .i64 0, .int .i64 0, .slice none 0 0] 34)).alloc (.cells #[.int .i64 0, .int .i64 0] 43)) = V at *
  obtain ⟨hr0, ho1⟩ := HF.out _ V HO.out hi
  have HR0 := Lib.hid hr0
  have HO1 := Lib.hid ho1
  clear hr0 ho1
  have hle := HO.out.size
  clear HF HO
  go_upto_region 4 with fail
  generalize (V.alloc _) = V1 at *
  generalize V.heap.size = b at *
  go_wp2_with fail
  go_at_call 28
  refine (HC.out b V1 HR0.out).mono ?_
  rintro e w1 ⟨c, rfl, hrep, hrd, hg⟩
  obtain ⟨ka, kc, aa, ac, tk, tn, ti, th, ta, tl, tc, rfl⟩ := hrep.form
  have hb1 := HR0.out.lt
  have hbx : Below w1.heap.size w1 (w1.alloc (.cells #[.int .i64 T.k, .int .i64 T.p, .string T.n, .int .i64 T.m, .slice ka T.kids.length kc, .slice aa T.arms.length ac, .int .i64 tk, .string tn, .int .i64 ti, .int .i64 th, .slice ta tl tc] 34)) := (Below.refl _ w1).alloc (Nat.le_refl _) _
  have HR2 := Lib.hid (hrd.lift hbx)
  have HO2 := Lib.hid ((HO1.out.grown hle hg).lift hbx)
  have HP2 := Lib.hid ((hrep.imp (S' := fun g => b < g) (fun _ hg => Nat.lt_of_lt_of_le hb1 hg)).lift hbx)
  have HB2 : Hid (BoxC 34 (w1.alloc (.cells #[.int .i64 T.k, .int .i64 T.p, .string T.n, .int .i64 T.m, .slice ka T.kids.length kc, .slice aa T.arms.length ac, .int .i64 tk, .string tn, .int .i64 ti, .int .i64 th, .slice ta tl tc] 34)) w1.heap.size [.int .i64 T.k, .int .i64 T.p, .string T.n, .int .i64 T.m, .slice ka T.kids.length kc, .slice aa T.arms.length ac, .int .i64 tk, .string tn, .int .i64 ti, .int .i64 th, .slice ta tl tc]) := BoxC.made 34 w1 _
  have hlt1 : b < w1.heap.size := hrd.lt
  clear hrep hrd hg hbx HR0 HO1 HC hb1
  go_upto_region 5 with fail
  generalize (w1.alloc (.cells #[.int .i64 T.k, .int .i64 T.p, .string T.n, .int .i64 T.m, .slice ka T.kids.length kc, .slice aa T.arms.length ac, .int .i64 tk, .string tn, .int .i64 ti, .int .i64 th, .slice ta tl tc] 34)) = V2 at *
  generalize w1.heap.size = n4 at *
  obtain ⟨a', cap', ⟨r0, r1, r2, r3⟩, -⟩ := HR2.out.cells
  have g0 := HR2.out.g2.un
  obtain ⟨i, q, p⟩ := s'
  have HI := Lib.hid (is_any ea q)
  dsimp only at *
  go_wp2_with fail
  go_at_call 47
  refine (HI.out _).mono ?_
  rintro e w3 ⟨rfl, rfl⟩
  obtain ⟨t0, t1, t2, t3, t4, t5, t6, t7, t8, t9, t10⟩ := HO2.out.typ.all11
  obtain ⟨y0, y1, y2, y3, y4, y5, y6, y7, y8, y9, y10⟩ := HO2.out.typ.free11
  obtain ⟨⟨z0, z1⟩, k0, k1⟩ := HO2.out.flt.all2
  obtain ⟨d0, d1, d2, d3, d4, d5, d6, d7, d8, d9, d10⟩ := HB2.out.all11
  have hne1 : b ≠ w.heap.size := by omega
  have hne2 : b ≠ w.heap.size + 1 := by omega
  have hne3 : n4 ≠ w.heap.size := by omega
  have hne4 : n4 ≠ w.heap.size + 1 := by omega
  clear r0 r2 g0
  cases q with
  | true =>
   have HE := Lib.hid (HO2.out.fin (.int .i64 0) (.int .i64 0) (.string ⟨#[]⟩) (.int .i64 0) (.slice none 0 0) (.slice none 0 0) (.int .i64 0) (.string ⟨#[]⟩) (.int .i64 0) (.int .i64 0) (.slice none 0 0) (.int .i64 3) (.int .i64 p))
   go_wp2
   go_region
   all_goals
    obtain ⟨hB, hF, hL, hK⟩ := HE.out
    clear HE t0 t1 t2 t3 t4 t5 t6 t7 t8 t9 t10 y0 y1 y2 y3 y4 y5 y6 y7 y8 y9 y10 z0 z1 k0 k1 d0 d1 d2 d3 d4 d5 d6 d7 d8 d9 d10 r1 r3
    generalize (((((((((((((w3.setCell ⟨w.heap.size, 0, none⟩ (.int .i64 0)).setCell ⟨w.heap.size, 1, none⟩ (.int .i64 0)).setCell ⟨w.heap.size, 2, none⟩ (.string ⟨#[]⟩)).setCell ⟨w.heap.size, 3, none⟩ (.int .i64 0)).setCell ⟨w.heap.size, 4, none⟩ (.slice none 0 0)).setCell ⟨w.heap.size, 5, none⟩ (.slice none 0 0)).setCell ⟨w.heap.size, 6, none⟩ (.int .i64 0)).setCell ⟨w.heap.size, 7, none⟩ (.string ⟨#[]⟩)).setCell ⟨w.heap.size, 8, none⟩ (.int .i64 0)).setCell ⟨w.heap.size, 9, none⟩ (.int .i64 0)).setCell ⟨w.heap.size, 10, none⟩ (.slice none 0 0)).setCell ⟨w.heap.size + 1, 0, none⟩ (.int .i64 3)).setCell ⟨w.heap.size + 1, 1, none⟩ (.int .i64 p)) = X at *
    have hB' : BoxC 34 X.drew w.heap.size [.int .i64 0, .int .i64 0, .string ⟨#[]⟩, .int .i64 0, .slice none 0 0, .slice none 0 0, .int .i64 0, .string ⟨#[]⟩, .int .i64 0, .int .i64 0, .slice none 0 0] := hB
    have hF' : BoxC 43 X.drew (w.heap.size + 1) [.int .i64 3, .int .i64 p] := hF
    obtain ⟨c0, c1, c2, c3, c4, c5, c6, c7, c8, c9, c10⟩ := hB'.all11
    obtain ⟨⟨u0, u1⟩, -⟩ := hF'.all2
    go_wp2
    refine bodyPost_ret (by simp [results, Tryz.results27, go_sem, c0, c1, c2, c3, c4, c5, c6, c7, c8, c9, c10, u0, u1]; try rfl) rfl ?_
    exact ⟨_, rfl, ⟨_, rfl, repE_zero _ _⟩, hL.drew⟩
  | false =>
   have HE := Lib.hid (HO2.out.fin (.int .i64 T.k) (.int .i64 T.p) (.string T.n) (.int .i64 T.m) (.slice ka T.kids.length kc) (.slice aa T.arms.length ac) (.int .i64 tk) (.string tn) (.int .i64 ti) (.int .i64 th) (.slice ta tl tc) (.int .i64 0) (.int .i64 0))
   go_wp2
   go_region
   all_goals
    obtain ⟨hB, hF, hL, hK⟩ := HE.out
    clear HE t0 t1 t2 t3 t4 t5 t6 t7 t8 t9 t10 y0 y1 y2 y3 y4 y5 y6 y7 y8 y9 y10 z0 z1 k0 k1 d0 d1 d2 d3 d4 d5 d6 d7 d8 d9 d10 r1 r3
    generalize (((((((((((((w3.setCell ⟨w.heap.size, 0, none⟩ (.int .i64 T.k)).setCell ⟨w.heap.size, 1, none⟩ (.int .i64 T.p)).setCell ⟨w.heap.size, 2, none⟩ (.string T.n)).setCell ⟨w.heap.size, 3, none⟩ (.int .i64 T.m)).setCell ⟨w.heap.size, 4, none⟩ (.slice ka T.kids.length kc)).setCell ⟨w.heap.size, 5, none⟩ (.slice aa T.arms.length ac)).setCell ⟨w.heap.size, 6, none⟩ (.int .i64 tk)).setCell ⟨w.heap.size, 7, none⟩ (.string tn)).setCell ⟨w.heap.size, 8, none⟩ (.int .i64 ti)).setCell ⟨w.heap.size, 9, none⟩ (.int .i64 th)).setCell ⟨w.heap.size, 10, none⟩ (.slice ta tl tc)).setCell ⟨w.heap.size + 1, 0, none⟩ (.int .i64 0)).setCell ⟨w.heap.size + 1, 1, none⟩ (.int .i64 0)) = X at *
    have hB' : BoxC 34 X.drew w.heap.size [.int .i64 T.k, .int .i64 T.p, .string T.n, .int .i64 T.m, .slice ka T.kids.length kc, .slice aa T.arms.length ac, .int .i64 tk, .string tn, .int .i64 ti, .int .i64 th, .slice ta tl tc] := hB
    have hF' : BoxC 43 X.drew (w.heap.size + 1) [.int .i64 0, .int .i64 0] := hF
    obtain ⟨c0, c1, c2, c3, c4, c5, c6, c7, c8, c9, c10⟩ := hB'.all11
    obtain ⟨⟨u0, u1⟩, -⟩ := hF'.all2
    go_wp2
    refine bodyPost_ret (by simp [results, Tryz.results27, go_sem, c0, c1, c2, c3, c4, c5, c6, c7, c8, c9, c10, u0, u1]; try rfl) rfl ?_
    exact ⟨_, rfl, ⟨_, rfl, (HP2.out.kept (S' := fun c => w.heap.size ≤ c) (fun c hc => by have : b < c := hc; omega) (fun c hc hlt => hK c (by have : b < c := hc; omega) hlt)).lift (Below.refl _ X).drew⟩, hL.drew⟩
set_option maxRecDepth 100000 in
set_option maxHeartbeats 6400000 in
theorem yRead56 (ts : List Tok) (hok : TkOk ts) (ea : Addr) (S : Nat → Prop) (lv : Value) (k : Int) (T : Ex) (s' : St) (r : Option (Ex × St)) (hr : r = some (T, s')) (HM : YAt 37 #[] ts ⟨startAt ts k, false, 0⟩ r) (w : World) (h : TokAt w S lv ts) (hg2 : G2 ea w) :
  Calls Tryz.prog 27 #[lv, .int .i64 k, .func (.func 37) #[] #[]] w fun e w' => ∃ v, e = .returned v ∧ ResEAt w' (fun c => w.heap.size ≤ c) (resY T s') v ∧ Below w.heap.size w w' := by
 have eg : ∀ args w, (callFunc 37 args).run Tryz.prog w = .ok (.enter 37 args) w := enters_of Tryz.func37 (by kernel_rfl) rfl
 have HO : Hid (OutE w _) := outE_new w
 have HC := Lib.hid (fun (b : Nat) (V : World) (h : RdY ea V b ts ⟨startAt ts k, false, 0⟩) => HM T s' hr ea b V.heap.size V h.lt (Nat.le_refl _) h)
 have hi := startAt_le ts k
 have hw1 : 3 < w.heap.size := hg2.gl.lt
 have hl := hok.1
 have HF : Hid (∀ i V, OutE w V → i ≤ ts.length → RdY ea (V.alloc (.cells #[lv, .int .i64 (i : Nat), .nilIface, .int .i64 0] 100)) V.heap.size ts ⟨i, false, 0⟩ ∧ OutE w (V.alloc (.cells #[lv, .int .i64 (i : Nat), .nilIface, .int .i64 0] 100))) := fun i V hV hi => by
  have hb : Below V.heap.size V (V.alloc (.cells #[lv, .int .i64 (i : Nat), .nilIface, .int .i64 0] 100)) := (Below.refl _ V).alloc (Nat.le_refl _) _
  have hbw := hV.low.trans (hb.mono hV.low.size)
  refine ⟨⟨lv, heap_alloc_new V _, TokAt.below h hV.low.size hbw, hi, hok, hg2.lift hbw, ?_⟩, hV.lift hb⟩
  have := hV.size
  omega
 have hcase : (k < 0 ∧ startAt ts k = ts.length) ∨ (decide (k < 0) = false ∧ (ts.length : Int) < k ∧ startAt ts k = ts.length) ∨ (∃ n : Nat, k = n ∧ n ≤ ts.length ∧ startAt ts k = n) := by
  by_cases h1 : k < 0
  ·exact .inl ⟨h1, by unfold startAt; rw [if_pos (.inl h1)]⟩
  ·by_cases h2 : (ts.length : Int) < k
   ·exact .inr (.inl ⟨by simpa using h1, h2, by unfold startAt; rw [if_pos (.inr h2)]⟩)
   ·exact .inr (.inr ⟨k.toNat, by omega, by omega, by unfold startAt; rw [if_neg (by omega)]⟩)
 obtain ⟨a, cap, rfl, hcap, -⟩ := h
 clear hr HM hg2 r
 obtain ⟨i0, hi0⟩ : ∃ i0, startAt ts k = i0 := ⟨_, rfl⟩
 rw [hi0] at hcase HC hi
 clear hi0
 rcases hcase with ⟨h1, rfl⟩ | ⟨h1, h2, rfl⟩ | ⟨n, rfl, h2, rfl⟩
 rotate_left 2
 have h3 : decide ((i0 : Int) < 0) = false := by simp
 have h4 : decide (ts.length < i0) = false := by simp; omega
 all_goals
  go_enter Tryz.func27, Tryz.ntmps27
  go_upto_region 3 with fail
  generalize ((w.alloc (.cells #[.int .i64 0, .int .i64 0, .string ⟨#[]⟩, .int .i64 0, .slice none 0 0, .slice none 0 0, .int .i64 0, .string ⟨#[]⟩, .int .i64 0, .int .i64 0, .slice none 0 0] 34)).alloc (.cells #[.int .i64 0, .int .i64 0] 43)) = V at *
  obtain ⟨hr0, ho1⟩ := HF.out _ V HO.out hi
  have HR0 := Lib.hid hr0
  have HO1 := Lib.hid ho1
  clear hr0 ho1
  have hle := HO.out.size
  clear HF HO
  go_upto_region 4 with fail
  generalize (V.alloc _) = V1 at *
  generalize V.heap.size = b at *
  go_wp2_with fail
  go_at_call 37
  refine (HC.out b V1 HR0.out).mono ?_
  rintro e w1 ⟨c, rfl, hrep, hrd, hg⟩
  obtain ⟨ka, kc, aa, ac, tk, tn, ti, th, ta, tl, tc, rfl⟩ := hrep.form
  have hb1 := HR0.out.lt
  have hbx : Below w1.heap.size w1 (w1.alloc (.cells #[.int .i64 T.k, .int .i64 T.p, .string T.n, .int .i64 T.m, .slice ka T.kids.length kc, .slice aa T.arms.length ac, .int .i64 tk, .string tn, .int .i64 ti, .int .i64 th, .slice ta tl tc] 34)) := (Below.refl _ w1).alloc (Nat.le_refl _) _
  have HR2 := Lib.hid (hrd.lift hbx)
  have HO2 := Lib.hid ((HO1.out.grown hle hg).lift hbx)
  have HP2 := Lib.hid ((hrep.imp (S' := fun g => b < g) (fun _ hg => Nat.lt_of_lt_of_le hb1 hg)).lift hbx)
  have HB2 : Hid (BoxC 34 (w1.alloc (.cells #[.int .i64 T.k, .int .i64 T.p, .string T.n, .int .i64 T.m, .slice ka T.kids.length kc, .slice aa T.arms.length ac, .int .i64 tk, .string tn, .int .i64 ti, .int .i64 th, .slice ta tl tc] 34)) w1.heap.size [.int .i64 T.k, .int .i64 T.p, .string T.n, .int .i64 T.m, .slice ka T.kids.length kc, .slice aa T.arms.length ac, .int .i64 tk, .string tn, .int .i64 ti, .int .i64 th, .slice ta tl tc]) := BoxC.made 34 w1 _
  have hlt1 : b < w1.heap.size := hrd.lt
  clear hrep hrd hg hbx HR0 HO1 HC hb1
  go_upto_region 5 with fail
  generalize (w1.alloc (.cells #[.int .i64 T.k, .int .i64 T.p, .string T.n, .int .i64 T.m, .slice ka T.kids.length kc, .slice aa T.arms.length ac, .int .i64 tk, .string tn, .int .i64 ti, .int .i64 th, .slice ta tl tc] 34)) = V2 at *
  generalize w1.heap.size = n4 at *
  obtain ⟨a', cap', ⟨r0, r1, r2, r3⟩, -⟩ := HR2.out.cells
  have g0 := HR2.out.g2.un
  obtain ⟨i, q, p⟩ := s'
  have HI := Lib.hid (is_any ea q)
  dsimp only at *
  go_wp2_with fail
  go_at_call 47
  refine (HI.out _).mono ?_
  rintro e w3 ⟨rfl, rfl⟩
  obtain ⟨t0, t1, t2, t3, t4, t5, t6, t7, t8, t9, t10⟩ := HO2.out.typ.all11
  obtain ⟨y0, y1, y2, y3, y4, y5, y6, y7, y8, y9, y10⟩ := HO2.out.typ.free11
  obtain ⟨⟨z0, z1⟩, k0, k1⟩ := HO2.out.flt.all2
  obtain ⟨d0, d1, d2, d3, d4, d5, d6, d7, d8, d9, d10⟩ := HB2.out.all11
  have hne1 : b ≠ w.heap.size := by omega
  have hne2 : b ≠ w.heap.size + 1 := by omega
  have hne3 : n4 ≠ w.heap.size := by omega
  have hne4 : n4 ≠ w.heap.size + 1 := by omega
  clear r0 r2 g0
  cases q with
  | true =>
   have HE := Lib.hid (HO2.out.fin (.int .i64 0) (.int .i64 0) (.string ⟨#[]⟩) (.int .i64 0) (.slice none 0 0) (.slice none 0 0) (.int .i64 0) (.string ⟨#[]⟩) (.int .i64 0) (.int .i64 0) (.slice none 0 0) (.int .i64 3) (.int .i64 p))
   go_wp2
   go_region
   all_goals
    obtain ⟨hB, hF, hL, hK⟩ := HE.out
    clear HE t0 t1 t2 t3 t4 t5 t6 t7 t8 t9 t10 y0 y1 y2 y3 y4 y5 y6 y7 y8 y9 y10 z0 z1 k0 k1 d0 d1 d2 d3 d4 d5 d6 d7 d8 d9 d10 r1 r3
    generalize (((((((((((((w3.setCell ⟨w.heap.size, 0, none⟩ (.int .i64 0)).setCell ⟨w.heap.size, 1, none⟩ (.int .i64 0)).setCell ⟨w.heap.size, 2, none⟩ (.string ⟨#[]⟩)).setCell ⟨w.heap.size, 3, none⟩ (.int .i64 0)).setCell ⟨w.heap.size, 4, none⟩ (.slice none 0 0)).setCell ⟨w.heap.size, 5, none⟩ (.slice none 0 0)).setCell ⟨w.heap.size, 6, none⟩ (.int .i64 0)).setCell ⟨w.heap.size, 7, none⟩ (.string ⟨#[]⟩)).setCell ⟨w.heap.size, 8, none⟩ (.int .i64 0)).setCell ⟨w.heap.size, 9, none⟩ (.int .i64 0)).setCell ⟨w.heap.size, 10, none⟩ (.slice none 0 0)).setCell ⟨w.heap.size + 1, 0, none⟩ (.int .i64 3)).setCell ⟨w.heap.size + 1, 1, none⟩ (.int .i64 p)) = X at *
    have hB' : BoxC 34 X.drew w.heap.size [.int .i64 0, .int .i64 0, .string ⟨#[]⟩, .int .i64 0, .slice none 0 0, .slice none 0 0, .int .i64 0, .string ⟨#[]⟩, .int .i64 0, .int .i64 0, .slice none 0 0] := hB
    have hF' : BoxC 43 X.drew (w.heap.size + 1) [.int .i64 3, .int .i64 p] := hF
    obtain ⟨c0, c1, c2, c3, c4, c5, c6, c7, c8, c9, c10⟩ := hB'.all11
    obtain ⟨⟨u0, u1⟩, -⟩ := hF'.all2
    go_wp2
    refine bodyPost_ret (by simp [results, Tryz.results27, go_sem, c0, c1, c2, c3, c4, c5, c6, c7, c8, c9, c10, u0, u1]; try rfl) rfl ?_
    exact ⟨_, rfl, ⟨_, rfl, repE_zero _ _⟩, hL.drew⟩
  | false =>
   have HE := Lib.hid (HO2.out.fin (.int .i64 T.k) (.int .i64 T.p) (.string T.n) (.int .i64 T.m) (.slice ka T.kids.length kc) (.slice aa T.arms.length ac) (.int .i64 tk) (.string tn) (.int .i64 ti) (.int .i64 th) (.slice ta tl tc) (.int .i64 0) (.int .i64 0))
   go_wp2
   go_region
   all_goals
    obtain ⟨hB, hF, hL, hK⟩ := HE.out
    clear HE t0 t1 t2 t3 t4 t5 t6 t7 t8 t9 t10 y0 y1 y2 y3 y4 y5 y6 y7 y8 y9 y10 z0 z1 k0 k1 d0 d1 d2 d3 d4 d5 d6 d7 d8 d9 d10 r1 r3
    generalize (((((((((((((w3.setCell ⟨w.heap.size, 0, none⟩ (.int .i64 T.k)).setCell ⟨w.heap.size, 1, none⟩ (.int .i64 T.p)).setCell ⟨w.heap.size, 2, none⟩ (.string T.n)).setCell ⟨w.heap.size, 3, none⟩ (.int .i64 T.m)).setCell ⟨w.heap.size, 4, none⟩ (.slice ka T.kids.length kc)).setCell ⟨w.heap.size, 5, none⟩ (.slice aa T.arms.length ac)).setCell ⟨w.heap.size, 6, none⟩ (.int .i64 tk)).setCell ⟨w.heap.size, 7, none⟩ (.string tn)).setCell ⟨w.heap.size, 8, none⟩ (.int .i64 ti)).setCell ⟨w.heap.size, 9, none⟩ (.int .i64 th)).setCell ⟨w.heap.size, 10, none⟩ (.slice ta tl tc)).setCell ⟨w.heap.size + 1, 0, none⟩ (.int .i64 0)).setCell ⟨w.heap.size + 1, 1, none⟩ (.int .i64 0)) = X at *
    have hB' : BoxC 34 X.drew w.heap.size [.int .i64 T.k, .int .i64 T.p, .string T.n, .int .i64 T.m, .slice ka T.kids.length kc, .slice aa T.arms.length ac, .int .i64 tk, .string tn, .int .i64 ti, .int .i64 th, .slice ta tl tc] := hB
    have hF' : BoxC 43 X.drew (w.heap.size + 1) [.int .i64 0, .int .i64 0] := hF
    obtain ⟨c0, c1, c2, c3, c4, c5, c6, c7, c8, c9, c10⟩ := hB'.all11
    obtain ⟨⟨u0, u1⟩, -⟩ := hF'.all2
    go_wp2
    refine bodyPost_ret (by simp [results, Tryz.results27, go_sem, c0, c1, c2, c3, c4, c5, c6, c7, c8, c9, c10, u0, u1]; try rfl) rfl ?_
    exact ⟨_, rfl, ⟨_, rfl, (HP2.out.kept (S' := fun c => w.heap.size ≤ c) (fun c hc => by have : b < c := hc; omega) (fun c hc hlt => hK c (by have : b < c := hc; omega) hlt)).lift (Below.refl _ X).drew⟩, hL.drew⟩
end Go.Proofs.YtgcefodgjhlbeaaGreatDoor

namespace Go.Proofs.YtgcefodgjhlbeaaGreatDoor
open Go.RowKit Go.Maps Mth

set_option maxRecDepth 100000 in
set_option maxHeartbeats 6400000 in
theorem yExprCall (ts : List Tok) (hok : TkOk ts) (ea : Addr) (S : Nat → Prop) (lv : Value) (k : Int) (T : Ex) (s' : St) (r : Option (Ex × St)) (hr : r = some (T, s')) (HM : YAt 28 #[] ts ⟨startAt ts k, false, 0⟩ r) (w : World) (h : TokAt w S lv ts) (hg2 : G2 ea w) :
  Calls Tryz.prog 11 #[lv, .int .i64 k] w fun e w' => ∃ v, e = .returned v ∧ ResEAt w' (fun c => w.heap.size ≤ c) (resY T s') v ∧ Below w.heap.size w w' := by
 have HO : Hid (OutE w _) := outE_new w
 have HC : Hid (∀ V, Below w.heap.size w V → Calls Tryz.prog 27 #[lv, .int .i64 k, .func (.func 28) #[] #[]] V fun e w' => ∃ v, e = .returned v ∧ ResEAt w' (fun c => V.heap.size ≤ c) (resY T s') v ∧ Below V.heap.size V w') := fun V hb => yRead52 ts hok ea S lv k T s' r hr HM V (h.lift hb) (hg2.lift hb)
 generalize resY T s' = R at *
 obtain ⟨q, qn, qe, qp⟩ := R
 obtain ⟨a, cap, rfl, -, -⟩ := h
 clear hr HM hg2
 go_enter Tryz.func11, Tryz.ntmps11
 go_upto_region 1 with fail
 generalize ((w.alloc (.cells #[.int .i64 0, .int .i64 0, .string ⟨#[]⟩, .int .i64 0, .slice none 0 0, .slice none 0 0, .int .i64 0, .string ⟨#[]⟩, .int .i64 0, .int .i64 0, .slice none 0 0] 34)).alloc (.cells #[.int .i64 0, .int .i64 0] 43)) = V at *
 have hs0 := HO.out.size
 go_wp2_with fail
 go_at_call 27
 refine (HC.out V HO.out.low).mono ?_
 rintro e w3 ⟨v, rfl, ⟨c, rfl, hrep3⟩, hb3⟩
 have HO3 := Lib.hid (HO.out.lift hb3)
 have HP3 := Lib.hid (hrep3.imp (S' := fun g => w.heap.size + 2 ≤ g) (fun _ hg => Nat.le_trans hs0 hg))
 dsimp only at hrep3 HP3
 obtain ⟨ka, kc, aa, ac, tk, tn, ti, th, ta, tl, tc, rfl⟩ := hrep3.form
 clear hrep3 hb3 HO HC
 have HF := Lib.hid (HO3.out.fin (.int .i64 q.k) (.int .i64 q.p) (.string q.n) (.int .i64 q.m) (.slice ka q.kids.length kc) (.slice aa q.arms.length ac) (.int .i64 tk) (.string tn) (.int .i64 ti) (.int .i64 th) (.slice ta tl tc) (.int .i64 qe) (.int .i64 qp))
 obtain ⟨t0, t1, t2, t3, t4, t5, t6, t7, t8, t9, t10⟩ := HO3.out.typ.all11
 obtain ⟨y0, y1, y2, y3, y4, y5, y6, y7, y8, y9, y10⟩ := HO3.out.typ.free11
 obtain ⟨⟨z0, z1⟩, k0, k1⟩ := HO3.out.flt.all2
 go_wp2
 obtain ⟨hB, hF, hL, hK⟩ := HF.out
 clear HF t0 t1 t2 t3 t4 t5 t6 t7 t8 t9 t10 y0 y1 y2 y3 y4 y5 y6 y7 y8 y9 y10 z0 z1 k0 k1
 generalize (((((((((((((w3.setCell ⟨w.heap.size, 0, none⟩ (.int .i64 q.k)).setCell ⟨w.heap.size, 1, none⟩ (.int .i64 q.p)).setCell ⟨w.heap.size, 2, none⟩ (.string q.n)).setCell ⟨w.heap.size, 3, none⟩ (.int .i64 q.m)).setCell ⟨w.heap.size, 4, none⟩ (.slice ka q.kids.length kc)).setCell ⟨w.heap.size, 5, none⟩ (.slice aa q.arms.length ac)).setCell ⟨w.heap.size, 6, none⟩ (.int .i64 tk)).setCell ⟨w.heap.size, 7, none⟩ (.string tn)).setCell ⟨w.heap.size, 8, none⟩ (.int .i64 ti)).setCell ⟨w.heap.size, 9, none⟩ (.int .i64 th)).setCell ⟨w.heap.size, 10, none⟩ (.slice ta tl tc)).setCell ⟨w.heap.size + 1, 0, none⟩ (.int .i64 qe)).setCell ⟨w.heap.size + 1, 1, none⟩ (.int .i64 qp)) = X at *
 obtain ⟨c0, c1, c2, c3, c4, c5, c6, c7, c8, c9, c10⟩ := hB.all11
 obtain ⟨⟨u0, u1⟩, -⟩ := hF.all2
 refine bodyPost_ret (by simp [results, Tryz.results11, go_sem, c0, c1, c2, c3, c4, c5, c6, c7, c8, c9, c10, u0, u1]; try rfl) rfl ?_
 exact ⟨_, rfl, ⟨_, rfl, HP3.out.kept (fun c hc => by have : w.heap.size + 2 ≤ c := hc; omega) (fun c hc hlt => hK c hc hlt)⟩, hL⟩
set_option maxRecDepth 100000 in
set_option maxHeartbeats 6400000 in
theorem yAtomCall (ts : List Tok) (hok : TkOk ts) (ea : Addr) (S : Nat → Prop) (lv : Value) (k : Int) (T : Ex) (s' : St) (r : Option (Ex × St)) (hr : r = some (T, s')) (HM : YAt 37 #[] ts ⟨startAt ts k, false, 0⟩ r) (w : World) (h : TokAt w S lv ts) (hg2 : G2 ea w) :
  Calls Tryz.prog 17 #[lv, .int .i64 k] w fun e w' => ∃ v, e = .returned v ∧ ResEAt w' (fun c => w.heap.size ≤ c) (resY T s') v ∧ Below w.heap.size w w' := by
 have HO : Hid (OutE w _) := outE_new w
 have HC : Hid (∀ V, Below w.heap.size w V → Calls Tryz.prog 27 #[lv, .int .i64 k, .func (.func 37) #[] #[]] V fun e w' => ∃ v, e = .returned v ∧ ResEAt w' (fun c => V.heap.size ≤ c) (resY T s') v ∧ Below V.heap.size V w') := fun V hb => yRead56 ts hok ea S lv k T s' r hr HM V (h.lift hb) (hg2.lift hb)
 generalize resY T s' = R at *
 obtain ⟨q, qn, qe, qp⟩ := R
 obtain ⟨a, cap, rfl, -, -⟩ := h
 clear hr HM hg2
 go_enter Tryz.func17, Tryz.ntmps17
 go_upto_region 1 with fail
 generalize ((w.alloc (.cells #[.int .i64 0, .int .i64 0, .string ⟨#[]⟩, .int .i64 0, .slice none 0 0, .slice none 0 0, .int .i64 0, .string ⟨#[]⟩, .int .i64 0, .int .i64 0, .slice none 0 0] 34)).alloc (.cells #[.int .i64 0, .int .i64 0] 43)) = V at *
 have hs0 := HO.out.size
 go_wp2_with fail
 go_at_call 27
 refine (HC.out V HO.out.low).mono ?_
 rintro e w3 ⟨v, rfl, ⟨c, rfl, hrep3⟩, hb3⟩
 have HO3 := Lib.hid (HO.out.lift hb3)
 have HP3 := Lib.hid (hrep3.imp (S' := fun g => w.heap.size + 2 ≤ g) (fun _ hg => Nat.le_trans hs0 hg))
 dsimp only at hrep3 HP3
 obtain ⟨ka, kc, aa, ac, tk, tn, ti, th, ta, tl, tc, rfl⟩ := hrep3.form
 clear hrep3 hb3 HO HC
 have HF := Lib.hid (HO3.out.fin (.int .i64 q.k) (.int .i64 q.p) (.string q.n) (.int .i64 q.m) (.slice ka q.kids.length kc) (.slice aa q.arms.length ac) (.int .i64 tk) (.string tn) (.int .i64 ti) (.int .i64 th) (.slice ta tl tc) (.int .i64 qe) (.int .i64 qp))
 obtain ⟨t0, t1, t2, t3, t4, t5, t6, t7, t8, t9, t10⟩ := HO3.out.typ.all11
 obtain ⟨y0, y1, y2, y3, y4, y5, y6, y7, y8, y9, y10⟩ := HO3.out.typ.free11
 obtain ⟨⟨z0, z1⟩, k0, k1⟩ := HO3.out.flt.all2
 go_wp2
 obtain ⟨hB, hF, hL, hK⟩ := HF.out
 clear HF t0 t1 t2 t3 t4 t5 t6 t7 t8 t9 t10 y0 y1 y2 y3 y4 y5 y6 y7 y8 y9 y10 z0 z1 k0 k1
 generalize (((((((((((((w3.setCell ⟨w.heap.size, 0, none⟩ (.int .i64 q.k)).setCell ⟨w.heap.size, 1, none⟩ (.int .i64 q.p)).setCell ⟨w.heap.size, 2, none⟩ (.string q.n)).setCell ⟨w.heap.size, 3, none⟩ (.int .i64 q.m)).setCell ⟨w.heap.size, 4, none⟩ (.slice ka q.kids.length kc)).setCell ⟨w.heap.size, 5, none⟩ (.slice aa q.arms.length ac)).setCell ⟨w.heap.size, 6, none⟩ (.int .i64 tk)).setCell ⟨w.heap.size, 7, none⟩ (.string tn)).setCell ⟨w.heap.size, 8, none⟩ (.int .i64 ti)).setCell ⟨w.heap.size, 9, none⟩ (.int .i64 th)).setCell ⟨w.heap.size, 10, none⟩ (.slice ta tl tc)).setCell ⟨w.heap.size + 1, 0, none⟩ (.int .i64 qe)).setCell ⟨w.heap.size + 1, 1, none⟩ (.int .i64 qp)) = X at *
 obtain ⟨c0, c1, c2, c3, c4, c5, c6, c7, c8, c9, c10⟩ := hB.all11
 obtain ⟨⟨u0, u1⟩, -⟩ := hF.all2
 refine bodyPost_ret (by simp [results, Tryz.results17, go_sem, c0, c1, c2, c3, c4, c5, c6, c7, c8, c9, c10, u0, u1]; try rfl) rfl ?_
 exact ⟨_, rfl, ⟨_, rfl, HP3.out.kept (fun c hc => by have : w.heap.size + 2 ≤ c := hc; omega) (fun c hc hlt => hK c hc hlt)⟩, hL⟩
end Go.Proofs.YtgcefodgjhlbeaaGreatDoor

namespace Go.Proofs.YtgcefodgjhlbeaaGreatDoor
open Go.RowKit Mth

def rdOfY : Option (Ex × St) → ResE
 | some (T, s) => resY T s
 | none => resY zEx ⟨0, true, 0⟩
def rdE (ts : List Tok) (k : Int) : ResE := rdOfY (yExpr (6 * ts.length + 6) ts ⟨startAt ts k, false, 0⟩)
def rdEA (ts : List Tok) (k : Int) : ResE := rdOfY (yAtom (6 * ts.length + 6) ts ⟨startAt ts k, false, 0⟩)
theorem mu_le (ts : List Tok) (s : St) : mu ts s ≤ ts.length := by unfold mu; split <;> omega
theorem pkExpr_any (ts : List Tok) (hok : TkOk ts) (hv : TkVal ts) (ea : Addr) (S : Nat → Prop) (lv : Value) (k : Int) (w : World) (h : TokAt w S lv ts) (hg2 : G2 ea w) :
  Calls Tryz.prog 11 #[lv, .int .i64 k] w fun e w' => ∃ v, e = .returned v ∧ ResEAt w' (fun c => w.heap.size ≤ c) (rdE ts k) v ∧ Below w.heap.size w w' := by
 have hl := hok.1
 have hm := mu_le ts ⟨startAt ts k, false, 0⟩
 obtain ⟨T, s', hr, -⟩ := (yends ts (6 * ts.length + 6)).expr ⟨startAt ts k, false, 0⟩ (by omega)
 have e : rdE ts k = resY T s' := by unfold rdE; rw [hr]; rfl
 rw [e]
 exact yExprCall ts hok ea S lv k T s' _ hr ((yAll_any ts hv (fun s _ => yTyp_any ts (xStep s)) _ (by omega)).expr _) w h hg2
theorem pkExprAtom_any (ts : List Tok) (hok : TkOk ts) (hv : TkVal ts) (ea : Addr) (S : Nat → Prop) (lv : Value) (k : Int) (w : World) (h : TokAt w S lv ts) (hg2 : G2 ea w) :
  Calls Tryz.prog 17 #[lv, .int .i64 k] w fun e w' => ∃ v, e = .returned v ∧ ResEAt w' (fun c => w.heap.size ≤ c) (rdEA ts k) v ∧ Below w.heap.size w w' := by
 have hl := hok.1
 have hm := mu_le ts ⟨startAt ts k, false, 0⟩
 obtain ⟨T, s', hr, -, -⟩ := (yends ts (6 * ts.length + 6)).atom ⟨startAt ts k, false, 0⟩ (by omega)
 have e : rdEA ts k = resY T s' := by unfold rdEA; rw [hr]; rfl
 rw [e]
 exact yAtomCall ts hok ea S lv k T s' _ hr ((yAll_any ts hv (fun s _ => yTyp_any ts (xStep s)) _ (by omega)).atom _) w h hg2
end Go.Proofs.YtgcefodgjhlbeaaGreatDoor

namespace Go.Proofs.YtgcefodgjhlbeaaGreatDoor
open Go.RowKit Go.Maps Mth

def ReadsE (ws : List (List UInt8)) (T : Ex) : Prop := ∀ f ts i rest, (kt ts).drop i = wk ws ++ rest → NoSt rest → 6 * (ts.length - i) + 6 ≤ f → ∃ T', yExpr f ts ⟨i, false, 0⟩ = some (T', ⟨i + ws.length, false, 0⟩) ∧ strip T' = T
theorem encE {ws : List (List UInt8)} {T : Ex} (hT : ReadsE ws T) {f : Nat} {ts : List Tok} {i : Nat} {rest : List (Int × List UInt8)} (h : (kt ts).drop i = wk ([40] :: (ws ++ [[41]])) ++ rest) (hf : 6 * (ts.length - i) + 3 ≤ f) :
  ∃ T', yAtom f ts ⟨i, false, 0⟩ = some (T', ⟨i + ([40] :: (ws ++ [[41]])).length, false, 0⟩) ∧ strip T' = T := by
 obtain ⟨f, rfl⟩ : ∃ g, f = g + 2 := ⟨f - 2, by omega⟩
 have d0 : (kt ts).drop i = (5, [40]) :: (wk ws ++ ((5, [41]) :: rest)) := by rw [h]; simp [wk]; decide
 obtain ⟨-, -, -, -, d1, hlt⟩ := st_at d0
 obtain ⟨T', hr, hs⟩ := hT f ts (i + 1) _ d1 (noSt_mark (by decide)) (by omega)
 have d2 := drop_add d1
 rw [wk_len] at d2
 obtain ⟨-, -, m2, -, -, -⟩ := st_at d2
 refine ⟨T', ?_, hs⟩
 rw [atom_open d0]
 unfold yEnc
 rw [hr]
 dsimp only
 rw [m2, m2, show ((5 : Int) == 5 && ([41] : List UInt8) == bl ⟨#[58]⟩) = false from by decide, show ((5 : Int) == 5 && ([41] : List UInt8) == bl ⟨#[41]⟩) = true from by decide]
 show some (T', (⟨i + 1 + ws.length + 1, false, 0⟩ : St)) = _
 simp only [List.length_cons, List.length_append, List.length_nil]
 congr 3
 omega
theorem parE {ws : List (List UInt8)} {T : Ex} (hT : ReadsE ws T) : ReadsE ([40] :: (ws ++ [[41]])) T := by
 intro f ts i rest h hst hf
 obtain ⟨f, rfl⟩ : ∃ g, f = g + 3 := ⟨f - 3, by omega⟩
 obtain ⟨T', ha, hs⟩ := encE (f := f + 1) hT h (by omega)
 refine ⟨T', ?_, hs⟩
 rw [expr_app (atom_st ha)]
 conv => lhs; unfold yApp
 rw [ha]
 dsimp only
 have hd := drop_add h
 rw [wk_len] at hd
 unfold yApps
 rw [noSt_at hd hst]
 rfl
theorem par_readsE {T : Ex} {ws : List (List UInt8)} (h : ReadsE ws T) : ∀ n, ReadsE (parTk n ws) T
 | 0 => h
 | n + 1 => parE (par_readsE h n)
theorem rdE_of {ts : List Tok} {T : Ex} {n : Nat} (h : yExpr (6 * ts.length + 6) ts ⟨0, false, 0⟩ = some (T, ⟨n, false, 0⟩)) : rdE ts 0 = ⟨T, n, 0, 0⟩ := by
 unfold rdE; rw [start_zero, h]; rfl
theorem rdEA_of {ts : List Tok} {T : Ex} {n : Nat} (h : yAtom (6 * ts.length + 6) ts ⟨0, false, 0⟩ = some (T, ⟨n, false, 0⟩)) : rdEA ts 0 = ⟨T, n, 0, 0⟩ := by
 unfold rdEA; rw [start_zero, h]; rfl
theorem rdE_text {T : Ex} (hs : srcE T = true) {ts : List Tok} (h : kt ts = wk (tkE T)) : ∃ T', rdE ts 0 = ⟨T', ts.length, 0, 0⟩ ∧ strip T' = T := by
 have hl : ts.length = (tkE T).length := by rw [← kt_len ts, h, wk_len]
 obtain ⟨T', h1, h2⟩ := (ex_ok T hs).2.2 (6 * ts.length + 6) ts 0 [] (by rw [List.append_nil]; exact h) noSt_nil (by omega)
 refine ⟨T', ?_, h2⟩
 rw [rdE_of h1, hl]
 simp
theorem rdEA_par {T : Ex} (hs : srcE T = true) {m : Nat} {ts : List Tok} (h : kt ts = wk (parTk (m + 1) (tkE T))) : ∃ T', rdEA ts 0 = ⟨T', ts.length, 0, 0⟩ ∧ strip T' = T := by
 have hl : ts.length = (parTk (m + 1) (tkE T)).length := by rw [← kt_len ts, h, wk_len]
 obtain ⟨T', h1, h2⟩ := encE (f := 6 * ts.length + 6) (ts := ts) (i := 0) (rest := []) (par_readsE (T := T) (ws := tkE T) (ex_ok T hs).2.2 m) (by rw [List.append_nil]; exact h) (by omega)
 refine ⟨T', ?_, h2⟩
 rw [rdEA_of h1, hl]
 simp [parTk]
end Go.Proofs.YtgcefodgjhlbeaaGreatDoor
