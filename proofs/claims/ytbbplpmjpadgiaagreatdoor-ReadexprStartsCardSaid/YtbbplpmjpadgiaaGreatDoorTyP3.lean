/- types.Con and types.Arrow. -/
import Derived.Test.YtbbplpmjpadgiaaGreatDoorTyP2
namespace Go.Proofs.YtbbplpmjpadgiaaGreatDoor
open Go.RowKit Go.Maps Mth

set_option maxHeartbeats 1600000 in
theorem con_any (n : ByteArray) (ts : List Ty) (hl : ts.length ≤ 1000000) (a : Option Addr) (cap : Nat) (S : Nat → Prop) (w : World) (hS : ∀ b, w.heap.size ≤ b → S b) (h : RepL w S ts (.slice a ts.length cap)) :
    Calls Tryz.prog 76 #[.string n, .slice a ts.length cap] w fun e w' => ∃ a c, e = .returned (.agg #[.int .i64 4, .string n, .int .i64 0, .int .i64 0, .slice a ts.length c]) ∧ RepL w' S ts (.slice a ts.length c) ∧ Below w.heap.size w w' := by
  have hb0 : Below w.heap.size w (w.alloc (.cells #[.int .i64 0, .string ⟨#[]⟩, .int .i64 0, .int .i64 0, .slice none 0 0] 30)) := (Below.refl _ w).alloc (Nat.le_refl _) _
  have HZ : Hid (Zero (w.alloc (.cells #[.int .i64 0, .string ⟨#[]⟩, .int .i64 0, .int .i64 0, .slice none 0 0] 30)) w.heap.size) := Box.made _ _ _ _ _ _
  have hsz : (w.alloc (.cells #[.int .i64 0, .string ⟨#[]⟩, .int .i64 0, .int .i64 0, .slice none 0 0] 30)).heap.size = w.heap.size + 1 := by simp
  have HC : Hid (Calls Tryz.prog 115 #[.slice a ts.length cap] (w.alloc (.cells #[.int .i64 0, .string ⟨#[]⟩, .int .i64 0, .int .i64 0, .slice none 0 0] 30)) fun e w' => ∃ a c, e = .returned (.slice a ts.length c) ∧ RepL w' (fun b => S b ∧ b ≠ w.heap.size) ts (.slice a ts.length c) ∧ Below (w.alloc (.cells #[.int .i64 0, .string ⟨#[]⟩, .int .i64 0, .int .i64 0, .slice none 0 0] 30)).heap.size (w.alloc (.cells #[.int .i64 0, .string ⟨#[]⟩, .int .i64 0, .int .i64 0, .slice none 0 0] 30)) w') :=
    clone_any ts hl _ (fun b => S b ∧ b ≠ w.heap.size) _ (fun b hb => by rw [hsz] at hb; exact ⟨hS b (by omega), by omega⟩) (by
      obtain ⟨a', cap', hv, hcap, hj⟩ := h
      refine ⟨a', cap', hv, hcap, fun j T hT => ?_⟩
      obtain ⟨ad, x, h1, h2, h3, h4⟩ := hj j T hT
      exact ⟨ad, x, h1, ⟨h2, by have := h3.lt; omega⟩, h3.kept (hb0.block _ h3.lt), (h4.bound.lift hb0).imp fun b hb => ⟨hb.1, by have := hb.2; omega⟩⟩)
  have HB0 := Lib.hid hb0
  clear h hb0 hsz
  generalize ts.length = m at *
  go_enter Tryz.func76, Tryz.ntmps76
  go_upto_region 1 with fail
  generalize (w.alloc (.cells #[.int .i64 0, .string ⟨#[]⟩, .int .i64 0, .int .i64 0, .slice none 0 0] 30)) = V at *
  go_wp2_with fail
  go_at_call 115
  refine HC.out.mono ?_
  rintro e w1 ⟨a1, c1, rfl, hrep, hb1⟩
  have HZ1 := Lib.hid (Box.lift HZ.out hb1)
  have HR1 := Lib.hid hrep
  have HB1 := Lib.hid (HB0.out.trans (hb1.mono HB0.out.size))
  clear hrep hb1 HZ HC
  go_wp2_with (refine wpList_store5 rfl _ _ rfl _ _ _ _ _ _ HZ1.out rfl _ _ _ _ _ _ _ rfl ?_; intro w2 hB2 hg2 hs2)
  obtain ⟨c0, c1', c2, c3, c4⟩ := hB2.cells
  refine bodyPost_ret (by simp [results, Tryz.results76, go_sem, c0, c1', c2, c3, c4]; try rfl) rfl ?_
  exact ⟨a1, c1, rfl, HR1.out.kept (fun b hb => hb.1) (fun b hb hlt => hg2.block b hlt (by intro e; have := Option.some.inj e; exact hb.2 this)), Below.grown HB1.out hg2 HB1.out.size (fun k hk => by have := Option.some.inj hk; omega)⟩
set_option maxHeartbeats 1600000 in
theorem arrow_any (T U : Ty) (v u : Value) (S : Nat → Prop) (w : World) (hS : ∀ b, w.heap.size ≤ b → S b) (h : Rep w S T v) (h' : Rep w S U u) :
    Calls Tryz.prog 73 #[v, u] w fun e w' => ∃ a c, e = .returned (.agg #[.int .i64 4, .string arrN, .int .i64 0, .int .i64 0, .slice a 2 c]) ∧ RepL w' S [T, U] (.slice a 2 c) ∧ Below w.heap.size w w' := by
  obtain ⟨k, n, i, hm, s, eT, rfl, hn, hs⟩ := h.open
  obtain ⟨k', n', i', hm', s', eU, rfl, hn', hs'⟩ := h'.open
  obtain ⟨sa, sc, rfl, -⟩ := hs
  obtain ⟨sa', sc', rfl, -⟩ := hs'
  have HR := Lib.hid h
  have HR' := Lib.hid h'
  clear h h' eT eU hn hn'
  generalize T.ts.length = sn at *
  generalize U.ts.length = sn' at *
  go_enter Tryz.func73, Tryz.ntmps73
  go_wp2_with fail
  go_at_call 76
  have hb3 : ∀ A B C, Below w.heap.size w (((w.alloc (.cells A 30)).alloc (.cells B 30)).alloc (.cells C 30)) := fun A B C => (((Below.refl _ w).alloc (Nat.le_refl _) _).alloc (by simp) _).alloc (by simp; omega) _
  refine (con_any arrN [T, U] (by simp) (some ⟨w.heap.size + 1 + 1 + 1, 0, none⟩) 2 (fun b => S b ∧ b ≠ w.heap.size + 1 + 1) _ (fun b hb => ⟨hS b (by simp at hb; omega), by simp at hb; omega⟩)
    (two_new (hb3 _ _ _) (HR.out.bound.imp fun b hb => ⟨hb.1, by omega⟩) (HR'.out.bound.imp fun b hb => ⟨hb.1, by omega⟩) _ _ (by simp) ⟨hS _ (by omega), by omega⟩)).mono ?_
  rintro e w1 ⟨a, c, rfl, hrep, hb1⟩
  have hbw := (((hb3 _ _ _).alloc (hb3 _ _ _).size _)).trans (hb1.mono (by simp; omega))
  have HB : Hid (Zero w1 (w.heap.size + 1 + 1)) := Box.lift (by unfold Box; rw [heap_at, if_neg (by simp), heap_at, if_pos (by simp)]) hb1
  have hsz := hb1.size
  clear hb1
  go_wp2_with (refine wpList_store5 rfl _ _ rfl _ _ _ _ _ _ HB.out rfl _ _ _ _ _ _ _ rfl ?_; intro w2 hB2 hg2 hs2)
  obtain ⟨c0, c1, c2, c3, c4⟩ := hB2.cells
  refine bodyPost_ret (by simp [results, Tryz.results73, go_sem, c0, c1, c2, c3, c4]; try rfl) rfl ?_
  exact ⟨a, c, rfl, hrep.kept (fun b hb => hb.1) (fun b hb hlt => hg2.block b hlt (by intro e; cases e; exact hb.2 rfl)), Below.grown hbw hg2 hbw.size (fun j hj => by cases hj; omega)⟩
end Go.Proofs.YtbbplpmjpadgiaaGreatDoor
