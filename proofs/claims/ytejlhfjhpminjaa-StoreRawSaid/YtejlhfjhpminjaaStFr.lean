/- Stores: New, Mark, Fresh of the package. -/
import Derived.Test.YtejlhfjhpminjaaStOp
namespace Go.Proofs.Ytejlhfjhpminjaa
open Go.RowKit Go.Sort Go.Shelf Go.Maps Mth

/-- The value stands for the store. -/
def StoR (w : World) (S : Nat → Prop) (s : Sto) (v : Value) : Prop := ∃ (sa : Option Addr) (sc : Nat) (ta : Option Addr) (tc : Nat), v = .agg #[.slice sa s.slots.length sc, .slice ta s.trail.length tc] ∧ SlG SltE w S s.slots (.slice sa s.slots.length sc) ∧ SlG ChgE w S s.trail (.slice ta s.trail.length tc)
theorem StoR.kept {w w' : World} {S S' : Nat → Prop} {s : Sto} {v : Value} (h1 : ∀ b, S b → S' b) (h2 : ∀ b, S b → b < w.heap.size → w'.heap[b]? = w.heap[b]?) (h : StoR w S s v) : StoR w' S' s v := by
  obtain ⟨sa, sc, ta, tc, e, a, b⟩ := h
  exact ⟨sa, sc, ta, tc, e, a.kept h1 h2, b.kept h1 h2⟩
theorem StoR.lift {w w' : World} {S : Nat → Prop} {s : Sto} {v : Value} (h : StoR w S s v) (hb : Below w.heap.size w w') : StoR w' S s v := h.kept (fun _ h => h) fun b _ hl => hb.block b hl
theorem StoR.imp {w : World} {S S' : Nat → Prop} {s : Sto} {v : Value} (h : StoR w S s v) (h1 : ∀ b, S b → S' b) : StoR w S' s v := h.kept h1 fun _ _ _ => rfl
theorem StoR.bound {w : World} {S : Nat → Prop} {s : Sto} {v : Value} (h : StoR w S s v) : StoR w (fun b => S b ∧ b < w.heap.size) s v := by
  obtain ⟨sa, sc, ta, tc, e, a, b⟩ := h
  exact ⟨sa, sc, ta, tc, e, a.bound, b.bound⟩
def stFresh (s : Sto) (home : Int) (base : Bool) : Sto := ⟨s.slots ++ [⟨false, zTy, home, base⟩], s.trail ++ [⟨s.slots.length, slZ, true⟩]⟩
def stSet (s : Sto) (id : Nat) (x : Slt) : Sto := ⟨s.slots.set id x, s.trail ++ [⟨id, (s.slots[id]?).getD slZ, false⟩]⟩
def stNew : Sto := ⟨[], []⟩
theorem new_any (w : World) : Calls Try.prog 7 #[] w fun e w' => e = .returned (.agg #[.slice none 0 0, .slice none 0 0]) ∧ Below w.heap.size w w' := by
  go_enter Try.func7, Try.ntmps7
  go_wp2
  go_returns
  exact ⟨rfl, (Below.refl _ w).alloc (Nat.le_refl _) _⟩
theorem mark_any (sa : Option Addr) (n sc : Nat) (ta : Option Addr) (tn tc : Nat) (w : World) : Calls Try.prog 20 #[.agg #[.slice sa n sc, .slice ta tn tc]] w fun e w' => e = .returned (.int .i64 (tn : Int)) ∧ Below w.heap.size w w' := by
  go_enter Try.func20, Try.ntmps20
  go_wp2
  go_ret
  exact ⟨rfl, (Below.refl _ w).alloc (Nat.le_refl _) _⟩
theorem tyVar_any (i : Int) (w : World) : Calls Try.prog 23 #[.int .i64 i] w fun e w' => e = .returned (leafV 1 ⟨#[]⟩ i 0) ∧ Below w.heap.size w w' := by
  go_enter Try.func23, Try.ntmps23
  go_wp2
  go_returns
  exact ⟨rfl, (Below.refl _ w).alloc (Nat.le_refl _) _⟩
theorem cell_set {W : World} {B B' m k : Nat} {v : Value} (h : B' ≠ B) : (W.setCell ⟨B, m, none⟩ v).cell? ⟨B', k, none⟩ = W.cell? ⟨B', k, none⟩ := World.cell?_of_block (Below.heap_setCell _ _ _ _ (fun e => h (by first | exact e | exact e.symm)))
theorem set2 {t : TypeId} {w : World} {B : Nat} {c0 c1 : Value} (h : BoxC t w B [c0, c1]) (v0 v1 : Value) :
    BoxC t ((w.setCell ⟨B, 0, none⟩ v0).setCell ⟨B, 1, none⟩ v1) B [v0, v1] ∧ w.grownBy ((w.setCell ⟨B, 0, none⟩ v0).setCell ⟨B, 1, none⟩ v1) (some B) := by
  obtain ⟨a0, g0, s0⟩ := h.set 0 v0
  obtain ⟨a1, g1, s1⟩ := a0.set 1 v1
  exact ⟨a1, grown_trans g0 g1⟩
/-- What two cells of block A say outlives stores into other blocks. -/
theorem keepA {W : World} {A : Nat} {p q : Value} (h : W.cell? ⟨A, 0, none⟩ = some p ∧ W.cell? ⟨A, 1, none⟩ = some q) {B : Nat} (hne : A ≠ B) (a b : Value) : ((W.setCell ⟨B, 0, none⟩ a).setCell ⟨B, 1, none⟩ b).cell? ⟨A, 0, none⟩ = some p ∧ ((W.setCell ⟨B, 0, none⟩ a).setCell ⟨B, 1, none⟩ b).cell? ⟨A, 1, none⟩ = some q := by
  rw [cell_set hne, cell_set hne, cell_set hne, cell_set hne]; exact h
theorem keepT {W : World} {A : Nat} {p q : Value} (h : W.cell? ⟨A, 0, none⟩ = some p ∧ W.cell? ⟨A, 1, none⟩ = some q) {B : Nat} (hne : A ≠ B) (a b c d e : Value) : (((((W.setCell ⟨B, 0, none⟩ a).setCell ⟨B, 1, none⟩ b).setCell ⟨B, 2, none⟩ c).setCell ⟨B, 3, none⟩ d).setCell ⟨B, 4, none⟩ e).cell? ⟨A, 0, none⟩ = some p ∧ (((((W.setCell ⟨B, 0, none⟩ a).setCell ⟨B, 1, none⟩ b).setCell ⟨B, 2, none⟩ c).setCell ⟨B, 3, none⟩ d).setCell ⟨B, 4, none⟩ e).cell? ⟨A, 1, none⟩ = some q := by
  constructor
  · rw [cell_set hne, cell_set hne, cell_set hne, cell_set hne, cell_set hne]; exact h.1
  · rw [cell_set hne, cell_set hne, cell_set hne, cell_set hne, cell_set hne]; exact h.2
set_option maxRecDepth 100000 in
set_option maxHeartbeats 6400000 in
theorem fresh_any (s : Sto) (home : Int) (base : Bool) (v : Value) (S : Nat → Prop) (w : World) (h1 : s.slots.length < 1000000) (h2 : s.trail.length < 1000000) (hs : StoR w S s v) :
    Calls Try.prog 8 #[v, .int .i64 home, .bool base] w fun e w' => ∃ u, e = .returned (.tuple #[u, .agg #[.int .i64 1, .string ⟨#[]⟩, .int .i64 (s.slots.length : Int), .int .i64 0, .slice none 0 0]]) ∧ StoR w' (fun b => S b ∧ b < w.heap.size ∨ w.heap.size ≤ b) (stFresh s home base) u ∧ Below w.heap.size w w' := by
  obtain ⟨sa, sc, ta, tc, rfl, hsl, htr⟩ := hs
  obtain ⟨n, hn⟩ : ∃ n, n = s.slots.length := ⟨_, rfl⟩
  obtain ⟨m, hm⟩ : ∃ n, n = s.trail.length := ⟨_, rfl⟩
  rw [← hn] at h1 hsl ⊢
  rw [← hm] at h2 htr ⊢
  obtain ⟨V, hV⟩ : ∃ V, V = ((w.alloc (.cells #[.slice sa n sc, .slice ta m tc] 27)).alloc (.cells #[.slice none 0 0, .slice none 0 0] 27)).alloc (.cells #[.int .i64 0, .string ⟨#[]⟩, .int .i64 0, .int .i64 0, .slice none 0 0] 31) := ⟨_, rfl⟩
  have hVb : Below w.heap.size w V := by rw [hV]; exact (((Below.refl _ w).alloc (Nat.le_refl _) _).alloc (by simp) _).alloc (by simp; omega) _
  have hB1 : BoxC 27 V w.heap.size [.slice sa n sc, .slice ta m tc] := by unfold BoxC; rw [hV, heap_at, if_neg (by simp; omega), heap_at, if_neg (by simp), heap_at, if_pos rfl]
  have hB2 : BoxC 27 V (w.heap.size + 1) [.slice none 0 0, .slice none 0 0] := by unfold BoxC; rw [hV, heap_at, if_neg (by simp), heap_at, if_pos (by simp)]
  have hB3 : Zero V (w.heap.size + 1 + 1) := by unfold Zero Box; rw [hV, heap_at, if_pos (by simp)]
  have HB2 := Lib.hid hB2
  have HB3 := Lib.hid hB3
  have HVb := Lib.hid hVb
  have HVl : Hid (w.heap.size + 2 < V.heap.size) := hB3.lt
  have HS : Hid (SlG SltE w (fun b => S b ∧ b < w.heap.size) s.slots (.slice sa n sc)) := hsl.bound
  have HT : Hid (SlG ChgE w (fun b => S b ∧ b < w.heap.size) s.trail (.slice ta m tc)) := htr.bound
  have hk1 := hB1.cell 0 _ rfl
  have hk2 := hB1.cell 1 _ rfl
  have HK : Hid (∀ W, Below V.heap.size V W → W.cell? ⟨w.heap.size, 0, none⟩ = some (.slice sa n sc) ∧ W.cell? ⟨w.heap.size, 1, none⟩ = some (.slice ta m tc)) := fun W hb => ⟨(hb.cell (World.block_lt_of_cell? _ _ hk1)).trans hk1, (hb.cell (World.block_lt_of_cell? _ _ hk2)).trans hk2⟩
  have HWs : Hid (∀ W, Below V.heap.size V W → Calls Try.prog 21 #[.slice sa n sc, .agg #[.bool false, .int .i64 0, .string ⟨#[]⟩, .int .i64 0, .int .i64 0, .slice none 0 0, .int .i64 home, .bool base]] W _) := fun W hb => withS_any s.slots ⟨false, zTy, home, base⟩ sa n sc false 0 ⟨#[]⟩ 0 0 none 0 0 home base _ W hn h1 (hsl.bound.up (hVb.trans (hb.mono hVb.size))) (sltV_zero _ _ _ _)
  have HWc : Hid (∀ W, Below V.heap.size V W → Calls Try.prog 22 #[.slice ta m tc, .agg #[.int .i64 (n : Int), .bool false, .int .i64 0, .string ⟨#[]⟩, .int .i64 0, .int .i64 0, .slice none 0 0, .int .i64 0, .bool false, .bool true]] W _) := fun W hb => withC_any s.trail ⟨(n : Int), slZ, true⟩ ta m tc false 0 ⟨#[]⟩ 0 0 none 0 0 0 false _ _ _ W hm h2 (htr.bound.up (hVb.trans (hb.mono hVb.size))) ⟨_, rfl, sltV_zero _ _ 0 false⟩
  have HVr : Hid (∀ (i : Int) (W : World), Calls Try.prog 23 #[.int .i64 i] W fun e w' => e = .returned (.agg #[.int .i64 1, .string ⟨#[]⟩, .int .i64 i, .int .i64 0, .slice none 0 0]) ∧ Below W.heap.size W w') := fun i W => tyVar_any i W
  have HD0 : Hid (Below V.heap.size V V.drew) := (Below.refl _ V).drew
  have HN := Lib.hid hn
  have HM := Lib.hid hm
  obtain ⟨c0, c1⟩ := HK.out V (Below.refl _ _)
  clear hB1 hB2 hB3 hsl htr hVb hk1 hk2 hn hm
  go_enter Try.func8, Try.ntmps8
  go_upto_region 1 with fail
  rw [← hV]
  clear hV
  go_upto_region 2 with fail
  clear c0 c1
  have hVl := HVl.out
  have h12 : ¬ (w.heap.size = w.heap.size + 1) := by omega
  have h13 : ¬ (w.heap.size = w.heap.size + 1 + 1) := by omega
  have h23 : ¬ (w.heap.size + 1 = w.heap.size + 1 + 1) := by omega
  have h21 : ¬ (w.heap.size + 1 = w.heap.size) := by omega
  have h31 : ¬ (w.heap.size + 1 + 1 = w.heap.size) := by omega
  have h32 : ¬ (w.heap.size + 1 + 1 = w.heap.size + 1) := by omega
  have HL2 : Hid (w.heap.size ≤ w.heap.size + 1) := by show _ ≤ _; omega
  have HL3 : Hid (w.heap.size ≤ w.heap.size + 1 + 1) := by show _ ≤ _; omega
  have HV3 : Hid (w.heap.size + 1 + 1 < V.heap.size) := hVl
  have HV2 : Hid (w.heap.size + 1 < V.heap.size) := by show _ < _; omega
  clear hVl HVl
  generalize w.heap.size + 1 + 1 = b3 at *
  generalize w.heap.size + 1 = b2 at *
  go_region_held3 (fun W' => W'.cell? ⟨w.heap.size, 0, none⟩ = some (.slice sa n sc) ∧ W'.cell? ⟨w.heap.size, 1, none⟩ = some (.slice ta m tc))
    (first
      | with_reducible exact keepT (keepA (HK.out x3 HD3.out) h12 _ _) h13 _ _ _ _ _
      | with_reducible exact keepA (keepT (HK.out x3 HD3.out) h13 _ _ _ _ _) h12 _ _
      | with_reducible exact keepA (HK.out x3 HD3.out) h12 _ _
      | with_reducible exact keepT (HK.out x3 HD3.out) h13 _ _ _ _ _
      | with_reducible exact HK.out x3 HD3.out
      | with_reducible exact HK.out x2 HD2.out
      | with_reducible exact HK.out x1 HD1.out
      | with_reducible exact HK.out V.drew HD0.out)
    (first
      | (go_at_call 21; (with_reducible refine (HWs.out _ HD0.out).mono ?_); rintro e x1 ⟨g1, rfl, hg1, hr1, hb⟩; have HD1 := Lib.hid (RowKit.Below.trans HD0.out (RowKit.Below.mono hb (RowKit.Below.size HD0.out))); have HR1 := Lib.hid hr1; have HG1 := Lib.hid hg1; clear hr1 hb hg1)
      | (go_at_call 22; (with_reducible refine (HWc.out _ HD1.out).mono ?_); rintro e x2 ⟨g2, rfl, hg2, hr2, hb⟩; have HD2 := Lib.hid (RowKit.Below.trans HD1.out (RowKit.Below.mono hb (RowKit.Below.size HD1.out))); have HR12 := Lib.hid (RowG.lift HR1.out hb); have HR2 := Lib.hid hr2; have HG2 := Lib.hid hg2; clear hr2 hb hg2)
      | (go_at_call 23; (with_reducible refine (HVr.out _ _).mono ?_); rintro e x3 ⟨rfl, hb⟩; have HD3 := Lib.hid (RowKit.Below.trans HD2.out (RowKit.Below.mono hb (RowKit.Below.size HD2.out))); have HR13 := Lib.hid (RowG.lift HR12.out hb); have HR23 := Lib.hid (RowG.lift HR2.out hb); have HB23 := Lib.hid (BoxC.lift HB2.out HD3.out); have HB33 := Lib.hid (Box.lift HB3.out HD3.out); have y0 := BoxC.cell HB23.out 0 _ rfl; have y1 := BoxC.cell HB23.out 1 _ rfl; have z0 := BoxC.free HB23.out 0; have z1 := BoxC.free HB23.out 1; obtain ⟨y2, y3, y4, y5, y6⟩ := Box.cells HB33.out; obtain ⟨z2, z3, z4, z5, z6⟩ := Box.frozen HB33.out; clear hb))
  clear y0 y1 y2 y3 y4 y5 y6 z0 z1 z2 z3 z4 z5 z6
  obtain ⟨q1, q2⟩ := set2 HB23.out (.slice (some ⟨g1, 0, none⟩) (n + 1) (n + 1)) (.slice (some ⟨g2, 0, none⟩) (m + 1) (m + 1))
  generalize ((x3.setCell ⟨b2, 0, none⟩ (.slice (some ⟨g1, 0, none⟩) (n + 1) (n + 1))).setCell ⟨b2, 1, none⟩ (.slice (some ⟨g2, 0, none⟩) (m + 1) (m + 1))) = x4 at *
  obtain ⟨q3, q4, -⟩ := set5 (HB33.out.kept (q2.block _ HB33.out.lt (by intro e; exact h32 (Option.some.inj e)))) (.int .i64 1) (.string ⟨#[]⟩) (.int .i64 (n : Int)) (.int .i64 0) (.slice none 0 0)
  generalize (((((x4.setCell ⟨b3, 0, none⟩ (.int .i64 1)).setCell ⟨b3, 1, none⟩ (.string ⟨#[]⟩)).setCell ⟨b3, 2, none⟩ (.int .i64 (n : Int))).setCell ⟨b3, 3, none⟩ (.int .i64 0)).setCell ⟨b3, 4, none⟩ (.slice none 0 0)) = x5 at *
  have hq1 := q1.grown q4 (by intro e; exact h23 (Option.some.inj e))
  have c0 := hq1.cell 0 _ rfl
  have c1 := hq1.cell 1 _ rfl
  obtain ⟨d0, d1, d2, d3, d4⟩ := q3.cells
  go_wp2
  refine bodyPost_ret (v := .tuple #[.agg #[.slice (some ⟨g1, 0, none⟩) (n + 1) (n + 1), .slice (some ⟨g2, 0, none⟩) (m + 1) (m + 1)], .agg #[.int .i64 1, .string ⟨#[]⟩, .int .i64 (n : Int), .int .i64 0, .slice none 0 0]]) (by simp [results, Try.results8, go_sem, c0, c1, d0, d1, d2, d3, d4]; try rfl) rfl ?_
  have hb3 : Below w.heap.size w x3 := HVb.out.trans (HD3.out.mono HVb.out.size)
  have hb4 := Below.grown hb3 q2 hb3.size (fun k hk => by cases hk; exact HL2.out)
  have hb5 := Below.grown hb4 q4 hb4.size (fun k hk => by cases hk; exact HL3.out)
  have hl1 := HVb.out.size
  have hl2 := HD0.out.size
  have hl3 := HD1.out.size
  have hv2 := HV2.out
  have hv3 := HV3.out
  refine ⟨_, rfl, ⟨some ⟨g1, 0, none⟩, n + 1, some ⟨g2, 0, none⟩, m + 1, ?_, ?_, ?_⟩, hb5⟩
  · simp [stFresh, ← HN.out, ← HM.out]
  · have h0 := HR13.out.slG (S' := fun b => (S b ∧ b < w.heap.size ∨ w.heap.size ≤ b) ∧ b ≠ b2 ∧ b ≠ b3) (fun b hb => ⟨.inl hb.1, by have := hb.1.2; have := HL2.out; have := HL3.out; omega⟩) (fun b hb => ⟨.inr (by omega), by omega⟩)
    have h1 := (h0.kept (S' := fun b => (S b ∧ b < w.heap.size ∨ w.heap.size ≤ b) ∧ b ≠ b2 ∧ b ≠ b3) (fun _ h => h) (fun b hb hl => q2.block b hl (fun e => hb.2.1 (Option.some.inj e)))).kept (S' := fun b => S b ∧ b < w.heap.size ∨ w.heap.size ≤ b) (fun _ h => h.1) (fun b hb hl => q4.block b hl (fun e => hb.2.2 (Option.some.inj e)))
    have e : (stFresh s home base).slots = s.slots ++ [⟨false, zTy, home, base⟩] := rfl
    rw [e, List.length_append, ← HN.out]
    exact h1
  · have h0 := HR23.out.slG (S' := fun b => (S b ∧ b < w.heap.size ∨ w.heap.size ≤ b) ∧ b ≠ b2 ∧ b ≠ b3) (fun b hb => ⟨.inl hb.1, by have := hb.1.2; have := HL2.out; have := HL3.out; omega⟩) (fun b hb => ⟨.inr (by omega), by omega⟩)
    have h1 := (h0.kept (S' := fun b => (S b ∧ b < w.heap.size ∨ w.heap.size ≤ b) ∧ b ≠ b2 ∧ b ≠ b3) (fun _ h => h) (fun b hb hl => q2.block b hl (fun e => hb.2.1 (Option.some.inj e)))).kept (S' := fun b => S b ∧ b < w.heap.size ∨ w.heap.size ≤ b) (fun _ h => h.1) (fun b hb hl => q4.block b hl (fun e => hb.2.2 (Option.some.inj e)))
    have e : (stFresh s home base).trail = s.trail ++ [⟨(n : Int), slZ, true⟩] := by rw [HN.out]; rfl
    rw [e, List.length_append, ← HM.out]
    exact h1
end Go.Proofs.Ytejlhfjhpminjaa
