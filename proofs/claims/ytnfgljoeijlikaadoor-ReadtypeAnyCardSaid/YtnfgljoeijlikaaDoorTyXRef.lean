/- The reference's Type and Atom: what they return. -/
import Derived.Test.YtnfgljoeijlikaaDoorTyXAll
namespace Go.Proofs.YtnfgljoeijlikaaDoor
open Go.RowKit Go.Maps Mth

/-- The two variables of the results: a type, an error. -/
structure Outs (w : World) (V : World) : Prop where
  typ : Zero V w.heap.size
  flt : V.heap[w.heap.size + 1]? = some (.cells #[.int .i64 0, .int .i64 0] 33 (0, 0))
  low : Below w.heap.size w V
  size : w.heap.size + 2 ≤ V.heap.size
theorem outs_new (w : World) : Outs w ((w.alloc (.cells #[.int .i64 0, .string ⟨#[]⟩, .int .i64 0, .int .i64 0, .slice none 0 0] 30)).alloc (.cells #[.int .i64 0, .int .i64 0] 33)) := by
  refine ⟨?_, ?_, ((Below.refl _ w).alloc (Nat.le_refl _) _).alloc (by simp) _, by simp⟩
  · show Box _ _ _ _ _ _ _
    unfold Box; rw [heap_at, if_neg (by simp), heap_at, if_pos rfl]
  · rw [heap_at, if_pos (by simp)]
theorem Outs.lift {w V V' : World} (h : Outs w V) (hb : Below V.heap.size V V') : Outs w V' :=
  ⟨Box.lift h.typ hb, by rw [hb.block _ (Array.getElem?_eq_some_iff.1 h.flt).1]; exact h.flt, h.low.trans (hb.mono h.low.size), Nat.le_trans h.size hb.size⟩
theorem Outs.grown {w V V' : World} {b : Nat} (h : Outs w V) (hb : w.heap.size + 2 ≤ b) (hg : V.grownBy V' (some b)) : Outs w V' :=
  ⟨Box.grown h.typ hg (by intro e; have := Option.some.inj e; omega), by rw [hg.block _ (Array.getElem?_eq_some_iff.1 h.flt).1 (by intro e; have := Option.some.inj e; omega)]; exact h.flt, Below.grown h.low hg h.low.size (fun k hk => by have := Option.some.inj hk; omega), Nat.le_trans h.size hg.size⟩
theorem Outs.fcells {w V : World} (h : Outs w V) : V.cell? ⟨w.heap.size + 1, 0, none⟩ = some (.int .i64 0) ∧ V.cell? ⟨w.heap.size + 1, 1, none⟩ = some (.int .i64 0) ∧ V.frozen? ⟨w.heap.size + 1, 0, none⟩ = false ∧ V.frozen? ⟨w.heap.size + 1, 1, none⟩ = false := by
  have hF := h.flt
  refine ⟨by simp [World.cell?, hF], by simp [World.cell?, hF], by simp [World.frozen?, hF], by simp [World.frozen?, hF]⟩
/-- The results, stored. -/
theorem Outs.fin {w V : World} (h : Outs w V) (v0 v1 v2 v3 v4 e0 e1 : Value) :
    Box (((((((V.setCell ⟨w.heap.size, 0, none⟩ v0).setCell ⟨w.heap.size, 1, none⟩ v1).setCell ⟨w.heap.size, 2, none⟩ v2).setCell ⟨w.heap.size, 3, none⟩ v3).setCell ⟨w.heap.size, 4, none⟩ v4).setCell ⟨w.heap.size + 1, 0, none⟩ e0).setCell ⟨w.heap.size + 1, 1, none⟩ e1) w.heap.size v0 v1 v2 v3 v4 ∧
    (((((((V.setCell ⟨w.heap.size, 0, none⟩ v0).setCell ⟨w.heap.size, 1, none⟩ v1).setCell ⟨w.heap.size, 2, none⟩ v2).setCell ⟨w.heap.size, 3, none⟩ v3).setCell ⟨w.heap.size, 4, none⟩ v4).setCell ⟨w.heap.size + 1, 0, none⟩ e0).setCell ⟨w.heap.size + 1, 1, none⟩ e1).cell? ⟨w.heap.size + 1, 0, none⟩ = some e0 ∧
    (((((((V.setCell ⟨w.heap.size, 0, none⟩ v0).setCell ⟨w.heap.size, 1, none⟩ v1).setCell ⟨w.heap.size, 2, none⟩ v2).setCell ⟨w.heap.size, 3, none⟩ v3).setCell ⟨w.heap.size, 4, none⟩ v4).setCell ⟨w.heap.size + 1, 0, none⟩ e0).setCell ⟨w.heap.size + 1, 1, none⟩ e1).cell? ⟨w.heap.size + 1, 1, none⟩ = some e1 ∧
    Below w.heap.size w (((((((V.setCell ⟨w.heap.size, 0, none⟩ v0).setCell ⟨w.heap.size, 1, none⟩ v1).setCell ⟨w.heap.size, 2, none⟩ v2).setCell ⟨w.heap.size, 3, none⟩ v3).setCell ⟨w.heap.size, 4, none⟩ v4).setCell ⟨w.heap.size + 1, 0, none⟩ e0).setCell ⟨w.heap.size + 1, 1, none⟩ e1) ∧
    ∀ c, w.heap.size + 2 ≤ c → c < V.heap.size → (((((((V.setCell ⟨w.heap.size, 0, none⟩ v0).setCell ⟨w.heap.size, 1, none⟩ v1).setCell ⟨w.heap.size, 2, none⟩ v2).setCell ⟨w.heap.size, 3, none⟩ v3).setCell ⟨w.heap.size, 4, none⟩ v4).setCell ⟨w.heap.size + 1, 0, none⟩ e0).setCell ⟨w.heap.size + 1, 1, none⟩ e1).heap[c]? = V.heap[c]? := by
  obtain ⟨hB, hG, hS⟩ := set5 h.typ v0 v1 v2 v3 v4
  have hn2 : w.heap.size + 1 < V.heap.size := (Array.getElem?_eq_some_iff.1 h.flt).1
  have hF := (hG.block (w.heap.size + 1) hn2 (by intro e; have := Option.some.inj e; omega)).trans h.flt
  have hL := Below.grown h.low hG h.low.size (fun k hk => by have := Option.some.inj hk; omega)
  generalize (((((V.setCell ⟨w.heap.size, 0, none⟩ v0).setCell ⟨w.heap.size, 1, none⟩ v1).setCell ⟨w.heap.size, 2, none⟩ v2).setCell ⟨w.heap.size, 3, none⟩ v3).setCell ⟨w.heap.size, 4, none⟩ v4) = V1 at *
  obtain ⟨a0, g0, -⟩ := set1 hF 0 e0
  obtain ⟨a1, g1, -⟩ := set1 a0 1 e1
  have g01 := grown_trans g0 g1
  have hB' : Box ((V1.setCell ⟨w.heap.size + 1, 0, none⟩ e0).setCell ⟨w.heap.size + 1, 1, none⟩ e1) w.heap.size v0 v1 v2 v3 v4 := hB.kept (g01.block _ hB.lt (by intro e; have := Option.some.inj e; omega))
  have hL' := Below.grown hL g01 hL.size (fun k hk => by have := Option.some.inj hk; omega)
  generalize (V1.setCell ⟨w.heap.size + 1, 0, none⟩ e0).setCell ⟨w.heap.size + 1, 1, none⟩ e1 = V2 at *
  refine ⟨hB', ?_, ?_, hL', fun c hc hlt => ?_⟩
  · simp [World.cell?, a1]
  · simp [World.cell?, a1]
  · rw [g01.block c (Nat.lt_of_lt_of_le hlt hG.size) (by intro e; have := Option.some.inj e; omega), hG.block c hlt (by intro e; have := Option.some.inj e; omega)]
set_option maxHeartbeats 3200000 in
theorem refType_any (ts : List Tok) (hok : TkOk ts) (S : Nat → Prop) (lv : Value) (k : Int) (f : Nat) (hf : f ≤ 900000) (T : Ty) (s : St) (hx : xType f ts ⟨startAt ts k, false, 0⟩ = some (T, s)) (w : World) (h : TokAt w S lv ts) :
    Calls Tryd.prog 10 #[lv, .int .i64 k] w fun e w' => ∃ v, e = .returned v ∧ ResAt w' (fun c => w.heap.size ≤ c) (resOf T s) v ∧ Below w.heap.size w w' := by
  have HO : Hid (Outs w _) := outs_new w
  have HN : Hid (∀ V, Below w.heap.size w V → Calls Tryd.prog 24 #[lv, .int .i64 k] V fun e w' => e = .returned (.pointer (some ⟨V.heap.size, 0, none⟩)) ∧ RdX w' V.heap.size ts ⟨startAt ts k, false, 0⟩ ∧ Below V.heap.size V w') := fun V hb => by
    obtain ⟨a, cap, hv, hcap, hc⟩ := h
    refine new_any ts hok (fun g => g < w.heap.size) lv k V (TokAt.kept (fun _ h => h) (fun g hg hl => hb.block g hg) (w := w) ⟨a, cap, hv, hcap, fun j t ht => ?_⟩)
    obtain ⟨g, ha, hs, h1, h2, h3⟩ := hc j t ht
    exact ⟨g, ha, World.block_lt_of_cell? _ _ h1, h1, h2, h3⟩
  have HT : Hid (∀ (b : Nat) (V : World), b + 1 ≤ V.heap.size → RdX V b ts ⟨startAt ts k, false, 0⟩ → Calls Tryd.prog 26 #[.pointer (some ⟨b, 0, none⟩)] V fun e w' => ∃ u, e = .returned u ∧ Rep w' (fun c => b + 1 ≤ c) T u ∧ RdX w' b ts s ∧ V.grownBy w' (some b)) := fun b V hb hr => xtype_any ts hok f hf _ T s hx b (b + 1) V (Nat.lt_succ_self b) hb hr
  have HDn : Hid (∀ (b : Nat) (S : Nat → Prop) (u : Value) (V : World), RdX V b ts s → Rep V S T u → Calls Tryd.prog 25 #[.pointer (some ⟨b, 0, none⟩), u] V fun e w' => ∃ v, e = .returned v ∧ ResAt w' S (resOf T s) v ∧ Below V.heap.size V w') := fun b S u V h1 h2 => done_any ts b s T S u V h1 h2
  clear hx
  generalize resOf T s = R at *
  obtain ⟨RT, rn, re, rp⟩ := R
  obtain ⟨a, cap, rfl, -, -⟩ := h
  go_enter Tryd.func10, Tryd.ntmps10
  go_upto_region 1 with fail
  generalize ((w.alloc (.cells #[.int .i64 0, .string ⟨#[]⟩, .int .i64 0, .int .i64 0, .slice none 0 0] 30)).alloc (.cells #[.int .i64 0, .int .i64 0] 33)) = V at *
  go_wp2_with fail
  go_at_call 24
  refine (HN.out V HO.out.low).mono ?_
  rintro e w1 ⟨rfl, hr1, hb1⟩
  have HO1 := Lib.hid (HO.out.lift hb1)
  have HR1 := Lib.hid hr1
  have hs0 := HO.out.size
  have hlt := hr1.lt
  clear hr1 hb1 HO HN
  generalize V.heap.size = b at *
  go_wp2_with fail
  go_at_call 26
  refine (HT.out b w1 hlt HR1.out).mono ?_
  rintro e w2 ⟨u, rfl, hrep, hr2, hg2⟩
  have HO2 := Lib.hid (HO1.out.grown hs0 hg2)
  have HR2 := Lib.hid hr2
  have HP2 := Lib.hid hrep
  clear hrep hr2 hg2 HO1 HR1 HT
  go_wp2_with fail
  go_at_call 25
  refine (HDn.out b _ u w2 HR2.out HP2.out).mono ?_
  rintro e w3 ⟨v, rfl, ⟨u3, rfl, hrep3⟩, hb3⟩
  have HO3 := Lib.hid (HO2.out.lift hb3)
  have HP3 := Lib.hid hrep3
  obtain ⟨uk, un, ui, uh, ua, um, uc, rfl⟩ := hrep3.form
  clear hrep3 hb3 HO2 HR2 HP2
  have HF := Lib.hid (HO3.out.fin (.int .i64 uk) (.string un) (.int .i64 ui) (.int .i64 uh) (.slice ua um uc) (.int .i64 re) (.int .i64 rp))
  obtain ⟨f0, f1, k0, k1⟩ := HO3.out.fcells
  obtain ⟨t0, t1, t2, t3, t4⟩ := HO3.out.typ.cells
  obtain ⟨g0, g1, g2, g3, g4⟩ := HO3.out.typ.frozen
  go_wp2
  obtain ⟨hB, z0, z1, hL, hK⟩ := HF.out
  clear HF t0 t1 t2 t3 t4 g0 g1 g2 g3 g4 f0 f1 k0 k1
  generalize (((((((w3.setCell ⟨w.heap.size, 0, none⟩ (.int .i64 uk)).setCell ⟨w.heap.size, 1, none⟩ (.string un)).setCell ⟨w.heap.size, 2, none⟩ (.int .i64 ui)).setCell ⟨w.heap.size, 3, none⟩ (.int .i64 uh)).setCell ⟨w.heap.size, 4, none⟩ (.slice ua um uc)).setCell ⟨w.heap.size + 1, 0, none⟩ (.int .i64 re)).setCell ⟨w.heap.size + 1, 1, none⟩ (.int .i64 rp)) = X at *
  obtain ⟨c0, c1, c2, c3, c4⟩ := hB.cells
  refine bodyPost_ret (by simp [results, Tryd.results10, go_sem, c0, c1, c2, c3, c4, z0, z1]; try rfl) rfl ?_
  exact ⟨_, rfl, ⟨_, rfl, HP3.out.kept (fun c hc => by omega) (fun c hc hlt => hK c (by omega) hlt)⟩, hL⟩
set_option maxHeartbeats 3200000 in
theorem refAtom_any (ts : List Tok) (hok : TkOk ts) (S : Nat → Prop) (lv : Value) (k : Int) (f : Nat) (hf : f ≤ 900000) (T : Ty) (s : St) (hx : xAtom f ts ⟨startAt ts k, false, 0⟩ = some (T, s)) (w : World) (h : TokAt w S lv ts) :
    Calls Tryd.prog 12 #[lv, .int .i64 k] w fun e w' => ∃ v, e = .returned v ∧ ResAt w' (fun c => w.heap.size ≤ c) (resOf T s) v ∧ Below w.heap.size w w' := by
  have HO : Hid (Outs w _) := outs_new w
  have HN : Hid (∀ V, Below w.heap.size w V → Calls Tryd.prog 24 #[lv, .int .i64 k] V fun e w' => e = .returned (.pointer (some ⟨V.heap.size, 0, none⟩)) ∧ RdX w' V.heap.size ts ⟨startAt ts k, false, 0⟩ ∧ Below V.heap.size V w') := fun V hb => by
    obtain ⟨a, cap, hv, hcap, hc⟩ := h
    refine new_any ts hok (fun g => g < w.heap.size) lv k V (TokAt.kept (fun _ h => h) (fun g hg hl => hb.block g hg) (w := w) ⟨a, cap, hv, hcap, fun j t ht => ?_⟩)
    obtain ⟨g, ha, hs, h1, h2, h3⟩ := hc j t ht
    exact ⟨g, ha, World.block_lt_of_cell? _ _ h1, h1, h2, h3⟩
  have HT : Hid (∀ (b : Nat) (V : World), b + 1 ≤ V.heap.size → RdX V b ts ⟨startAt ts k, false, 0⟩ → Calls Tryd.prog 28 #[.pointer (some ⟨b, 0, none⟩)] V fun e w' => ∃ u, e = .returned u ∧ Rep w' (fun c => b + 1 ≤ c) T u ∧ RdX w' b ts s ∧ V.grownBy w' (some b)) := fun b V hb hr => xatom_any ts hok f hf _ T s hx b (b + 1) V (Nat.lt_succ_self b) hb hr
  have HDn : Hid (∀ (b : Nat) (S : Nat → Prop) (u : Value) (V : World), RdX V b ts s → Rep V S T u → Calls Tryd.prog 25 #[.pointer (some ⟨b, 0, none⟩), u] V fun e w' => ∃ v, e = .returned v ∧ ResAt w' S (resOf T s) v ∧ Below V.heap.size V w') := fun b S u V h1 h2 => done_any ts b s T S u V h1 h2
  clear hx
  generalize resOf T s = R at *
  obtain ⟨RT, rn, re, rp⟩ := R
  obtain ⟨a, cap, rfl, -, -⟩ := h
  go_enter Tryd.func12, Tryd.ntmps12
  go_upto_region 1 with fail
  generalize ((w.alloc (.cells #[.int .i64 0, .string ⟨#[]⟩, .int .i64 0, .int .i64 0, .slice none 0 0] 30)).alloc (.cells #[.int .i64 0, .int .i64 0] 33)) = V at *
  go_wp2_with fail
  go_at_call 24
  refine (HN.out V HO.out.low).mono ?_
  rintro e w1 ⟨rfl, hr1, hb1⟩
  have HO1 := Lib.hid (HO.out.lift hb1)
  have HR1 := Lib.hid hr1
  have hs0 := HO.out.size
  have hlt := hr1.lt
  clear hr1 hb1 HO HN
  generalize V.heap.size = b at *
  go_wp2_with fail
  go_at_call 28
  refine (HT.out b w1 hlt HR1.out).mono ?_
  rintro e w2 ⟨u, rfl, hrep, hr2, hg2⟩
  have HO2 := Lib.hid (HO1.out.grown hs0 hg2)
  have HR2 := Lib.hid hr2
  have HP2 := Lib.hid hrep
  clear hrep hr2 hg2 HO1 HR1 HT
  go_wp2_with fail
  go_at_call 25
  refine (HDn.out b _ u w2 HR2.out HP2.out).mono ?_
  rintro e w3 ⟨v, rfl, ⟨u3, rfl, hrep3⟩, hb3⟩
  have HO3 := Lib.hid (HO2.out.lift hb3)
  have HP3 := Lib.hid hrep3
  obtain ⟨uk, un, ui, uh, ua, um, uc, rfl⟩ := hrep3.form
  clear hrep3 hb3 HO2 HR2 HP2
  have HF := Lib.hid (HO3.out.fin (.int .i64 uk) (.string un) (.int .i64 ui) (.int .i64 uh) (.slice ua um uc) (.int .i64 re) (.int .i64 rp))
  obtain ⟨f0, f1, k0, k1⟩ := HO3.out.fcells
  obtain ⟨t0, t1, t2, t3, t4⟩ := HO3.out.typ.cells
  obtain ⟨g0, g1, g2, g3, g4⟩ := HO3.out.typ.frozen
  go_wp2
  obtain ⟨hB, z0, z1, hL, hK⟩ := HF.out
  clear HF t0 t1 t2 t3 t4 g0 g1 g2 g3 g4 f0 f1 k0 k1
  generalize (((((((w3.setCell ⟨w.heap.size, 0, none⟩ (.int .i64 uk)).setCell ⟨w.heap.size, 1, none⟩ (.string un)).setCell ⟨w.heap.size, 2, none⟩ (.int .i64 ui)).setCell ⟨w.heap.size, 3, none⟩ (.int .i64 uh)).setCell ⟨w.heap.size, 4, none⟩ (.slice ua um uc)).setCell ⟨w.heap.size + 1, 0, none⟩ (.int .i64 re)).setCell ⟨w.heap.size + 1, 1, none⟩ (.int .i64 rp)) = X at *
  obtain ⟨c0, c1, c2, c3, c4⟩ := hB.cells
  refine bodyPost_ret (by simp [results, Tryd.results12, go_sem, c0, c1, c2, c3, c4, z0, z1]; try rfl) rfl ?_
  exact ⟨_, rfl, ⟨_, rfl, HP3.out.kept (fun c hc => by omega) (fun c hc hlt => hK c (by omega) hlt)⟩, hL⟩
end Go.Proofs.YtnfgljoeijlikaaDoor
