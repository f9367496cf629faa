/- Stores: hasSlot, standsFor, Walk. -/
import Derived.Test.YtejlhfjhpminjaaStEl
namespace Go.Proofs.Ytejlhfjhpminjaa
open Go.RowKit Go.Sort Go.Shelf Go.Maps Mth

set_option maxHeartbeats 1600000 in
theorem hasSlot_any (sa : Option Addr) (n sc : Nat) (ta : Option Addr) (tn tc : Nat) (id : Int) (w : World) :
    Calls Try.prog 24 #[.agg #[.slice sa n sc, .slice ta tn tc], .int .i64 id] w fun e w' => e = .returned (.bool (decide (0 ≤ id) && decide (id < (n : Int)))) ∧ Below w.heap.size w w' := by
  have hb : Below w.heap.size w (w.alloc (.cells #[.slice sa n sc, .slice ta tn tc] 27)) := (Below.refl _ w).alloc (Nat.le_refl _) _
  cases h0 : decide (0 ≤ id)
  all_goals
    go_enter Try.func24, Try.ntmps24
    go_wp2
    go_ret
    exact ⟨by first | rfl | simp, hb⟩
theorem SlG.up {α : Type} {E : El α} {w w' : World} {S : Nat → Prop} {xs : List α} {v : Value} (h : SlG E w S xs v) (hb : Below w.heap.size w w') : SlG E w' S xs v := h.kept (fun _ h => h) fun b _ hl => hb.block b hl
/-- The cells of a slot of a list. -/
theorem slt_at {w : World} {S : Nat → Prop} {sl : List Slt} {sa : Option Addr} {n sc : Nat} (h : SlG SltE w S sl (.slice sa n sc)) {j : Nat} {x : Slt} (hj : sl[j]? = some x) :
    ∃ (ad : Addr) (k : Int) (nm : ByteArray) (i hm : Int) (a' : Option Addr) (n' c' : Nat), sa = some ad ∧ S ad.block ∧ Rep w S x.ty (.agg #[.int .i64 k, .string nm, .int .i64 i, .int .i64 hm, .slice a' n' c']) ∧
      (w.cell? (ad.add (j * 8)) = some (.bool x.bound) ∧ w.cell? ⟨(ad.add (j * 8)).block, (ad.add (j * 8)).off + 1, none⟩ = some (.int .i64 k) ∧ w.cell? ⟨(ad.add (j * 8)).block, (ad.add (j * 8)).off + 2, none⟩ = some (.string nm) ∧
       w.cell? ⟨(ad.add (j * 8)).block, (ad.add (j * 8)).off + 3, none⟩ = some (.int .i64 i) ∧ w.cell? ⟨(ad.add (j * 8)).block, (ad.add (j * 8)).off + 4, none⟩ = some (.int .i64 hm) ∧ w.cell? ⟨(ad.add (j * 8)).block, (ad.add (j * 8)).off + 5, none⟩ = some (.slice a' n' c') ∧
       w.cell? ⟨(ad.add (j * 8)).block, (ad.add (j * 8)).off + 6, none⟩ = some (.int .i64 x.home) ∧ w.cell? ⟨(ad.add (j * 8)).block, (ad.add (j * 8)).off + 7, none⟩ = some (.bool x.base)) := by
  obtain ⟨a, cap, e, hcap, hg⟩ := h
  cases e
  obtain ⟨ad, c, h1, h2, h3, k, nm, i, hm, a', n', c', rfl, hr⟩ := hg j x hj
  refine ⟨ad, k, nm, i, hm, a', n', c', h1, h2, hr, h3 0 _ rfl, ?_, ?_, ?_, ?_, ?_, ?_, ?_⟩
  · rw [add_add' _ _ _ (by omega)]; exact h3 1 _ rfl
  · rw [add_add' _ _ _ (by omega)]; exact h3 2 _ rfl
  · rw [add_add' _ _ _ (by omega)]; exact h3 3 _ rfl
  · rw [add_add' _ _ _ (by omega)]; exact h3 4 _ rfl
  · rw [add_add' _ _ _ (by omega)]; exact h3 5 _ rfl
  · rw [add_add' _ _ _ (by omega)]; exact h3 6 _ rfl
  · rw [add_add' _ _ _ (by omega)]; exact h3 7 _ rfl
set_option maxHeartbeats 3200000 in
theorem standsFor_any (sl : List Slt) (T : Ty) (sa : Option Addr) (n sc : Nat) (ta : Option Addr) (tn tc : Nat) (v : Value) (S : Nat → Prop) (w : World) (hn : n = sl.length) (hs : SlG SltE w S sl (.slice sa n sc)) (hv : Rep w S T v) :
    Calls Try.prog 39 #[.agg #[.slice sa n sc, .slice ta tn tc], v] w fun e w' => (∃ u, e = .returned (.tuple #[u, .bool (stand sl T).isSome]) ∧ Rep w' (fun b => S b ∧ b < w.heap.size) ((stand sl T).getD zTy) u) ∧ Below w.heap.size w w' := by
  obtain ⟨nm, xa, xn, xc, rfl, -, -⟩ := hv.frm
  obtain ⟨k, hk⟩ : ∃ k, k = T.k := ⟨_, rfl⟩
  obtain ⟨i, hi⟩ : ∃ i, i = T.i := ⟨_, rfl⟩
  obtain ⟨hh, hhe⟩ : ∃ h, h = T.h := ⟨_, rfl⟩
  rw [← hk, ← hi, ← hhe] at hv ⊢
  have HK := Lib.hid hk
  have HI := Lib.hid hi
  clear hk hi hhe
  obtain ⟨V, hV⟩ : ∃ V, V = ((w.alloc (.cells #[.slice sa n sc, .slice ta tn tc] 27)).alloc (.cells #[.int .i64 k, .string nm, .int .i64 i, .int .i64 hh, .slice xa xn xc] 31)).alloc (.cells #[.int .i64 0, .string ⟨#[]⟩, .int .i64 0, .int .i64 0, .slice none 0 0] 31) := ⟨_, rfl⟩
  have hVb : Below w.heap.size w V := by rw [hV]; exact (((Below.refl _ w).alloc (Nat.le_refl _) _).alloc (by simp) _).alloc (by simp; omega) _
  have hB1 : BoxC 27 V w.heap.size [.slice sa n sc, .slice ta tn tc] := by unfold BoxC; rw [hV, heap_at, if_neg (by simp; omega), heap_at, if_neg (by simp), heap_at, if_pos rfl]
  have hB2 : Box V (w.heap.size + 1) (.int .i64 k) (.string nm) (.int .i64 i) (.int .i64 hh) (.slice xa xn xc) := by unfold Box; rw [hV, heap_at, if_neg (by simp), heap_at, if_pos (by simp)]
  have hB3 : Zero V (w.heap.size + 2) := by unfold Zero Box; rw [hV, heap_at, if_pos (by simp)]
  have HZ := Lib.hid hB3
  have HVb := Lib.hid hVb
  have HHs : Hid (∀ W, Below V.heap.size V W → Calls Try.prog 24 #[.agg #[.slice sa n sc, .slice ta tn tc], .int .i64 i] W _) := fun W _ => hasSlot_any sa n sc ta tn tc i W
  have HZ2 : Hid (∀ W, Below V.heap.size V W → Zero W (w.heap.size + 2)) := fun W hb => Box.lift hB3 hb
  have c0 := hB1.cell 0 _ rfl
  have c1 := hB1.cell 1 _ rfl
  obtain ⟨d0, d1, d2, d3, d4⟩ := hB2.cells
  have hR0 : Below V.heap.size V V := Below.refl _ _
  have HDone : Hid (∀ W (k : Int) (n : ByteArray) (i h : Int) (sa : Option Addr) (sn sc : Nat), Below V.heap.size V W → ∀ W2, Box W2 (w.heap.size + 2) (.int .i64 k) (.string n) (.int .i64 i) (.int .i64 h) (.slice sa sn sc) → W.grownBy W2 (some (w.heap.size + 2)) → Below w.heap.size w W2) := fun W k n i h sa sn sc hb W2 _ hg => Below.grown (hVb.trans (hb.mono hVb.size)) hg (Nat.le_trans hVb.size hb.size) (fun j hj => by cases hj; omega)
  have HOpn := Lib.hid hs
  clear hB1 hB2 hB3 hv hs
  have HN := Lib.hid hn
  clear hn
  have HNone : Hid (stand sl T = none → ∀ W W2 : World, Below V.heap.size V W → Zero W2 (w.heap.size + 2) → W.grownBy W2 (some (w.heap.size + 2)) → (∃ u, (.returned (.tuple #[.agg #[.int .i64 0, .string ⟨#[]⟩, .int .i64 0, .int .i64 0, .slice none 0 0], .bool false]) : Ending) = .returned (.tuple #[u, .bool (stand sl T).isSome]) ∧ Rep W2 (fun b => S b ∧ b < w.heap.size) ((stand sl T).getD zTy) u) ∧ Below w.heap.size w W2) := by
    intro h W W2 hb hB hg
    refine ⟨⟨_, by rw [h]; rfl, ?_⟩, HDone.out W _ _ _ _ _ _ _ hb W2 hB hg⟩
    rw [h]
    exact rep_leaf _ _ 0 ⟨#[]⟩ 0 0 (Nat.zero_le _)
  clear HDone
  have hslot : ¬ (k = 1 ∧ 0 ≤ i ∧ i < (n : Int)) → stand sl T = none := by
    intro h
    rw [HK.out, HI.out] at h
    by_cases h1 : T.k = 1
    · by_cases h2 : 0 ≤ T.i
      · exact stand_big (by rw [← HN.out]; omega)
      · exact stand_neg h2
    · exact stand_none_kind h1
  by_cases hk1 : k = 1
  · subst hk1
    have hsl : (decide (0 ≤ i) && decide (i < (n : Int))) = false ∨ (0 ≤ i ∧ i < (n : Int)) := by
      by_cases h : 0 ≤ i ∧ i < (n : Int)
      · exact .inr h
      · exact .inl (by simp; omega)
    rcases hsl with hsl | ⟨hi0, hin⟩
    · have HF := Lib.hid (HNone.out (hslot (by simp at hsl; omega)))
      rw [hsl] at HHs
      clear hsl hslot HNone
      go_enter Try.func39, Try.ntmps39
      go_upto_region 1 with fail
      rw [← hV]
      clear hV
      go_wp2_with (first
        | (go_at_call 24; refine (HHs.out V hR0).mono ?_; rintro e w1 ⟨rfl, hb1⟩; have HZ1 := Lib.hid (HZ2.out w1 hb1))
        | (refine wpList_store5 rfl _ _ rfl _ _ _ _ _ _ HZ1.out rfl _ _ _ _ _ _ _ rfl ?_; intro w2 hB2 hg2 hs2))
      obtain ⟨c0, c1, c2, c3, c4⟩ := hB2.cells
      refine bodyPost_ret (v := .tuple #[.agg #[.int .i64 0, .string ⟨#[]⟩, .int .i64 0, .int .i64 0, .slice none 0 0], .bool false]) (by simp [results, Try.results39, go_sem, c0, c1, c2, c3, c4]; try rfl) rfl ?_
      exact HF.out w1 w2 hb1 hB2 hg2
    · have hbt : (decide (0 ≤ i) && decide (i < (n : Int))) = true := by simp; omega
      rw [hbt] at HHs
      clear hbt hslot
      obtain ⟨x, hx⟩ : ∃ x, sl[i.toNat]? = some x := ⟨_, List.getElem?_eq_getElem (by rw [← HN.out]; omega)⟩
      have hst : stand sl T = if x.bound then some x.ty else none := stand_at HK.out.symm (by rw [← HI.out]; exact hi0) (by rw [← HI.out]; exact hx)
      obtain ⟨j, hj⟩ : ∃ j : Nat, i = (j : Int) := ⟨i.toNat, by omega⟩
      have hjt : i.toNat = j := by omega
      rw [hjt] at hx
      clear hjt
      obtain ⟨ad, k', nm', i', hm', a', n', c', rfl, hS, hr, g0, g1, g2, g3, g4, g5, -, -⟩ := slt_at (HOpn.out.bound.up HVb.out) hx
      have HRx := Lib.hid hr
      have hjn : j < n := by omega
      have hjn2 : (j : Int) < (n : Int) := by omega
      clear hx hi0 hin hr hS
      subst hj
      have kp : ∀ {p : Addr} {u : Value}, V.cell? p = some u → Hid (∀ W, Below V.heap.size V W → W.cell? p = some u) := fun {p u} h => Lib.hid fun W hb => (hb.cell (World.block_lt_of_cell? _ _ h)).trans h
      have K0 := kp g0; have K1 := kp g1; have K2 := kp g2; have K3 := kp g3; have K4 := kp g4; have K5 := kp g5; have KS := kp c0; have KI := kp d2
      clear kp
      cases hxb : x.bound with
      | false =>
        have HF := Lib.hid (HNone.out (by rw [hst, hxb]; rfl))
        rw [hxb] at K0
        clear hst hxb HNone g0
        go_enter Try.func39, Try.ntmps39
        go_upto_region 1 with fail
        rw [← hV]
        clear hV
        go_wp2_with (first
          | (go_at_call 24; refine (HHs.out V hR0).mono ?_; rintro e w1 ⟨rfl, hb1⟩; have HZ1 := Lib.hid (HZ2.out w1 hb1); have q0 := K0.out w1 hb1; have q1 := KS.out w1 hb1; have q2 := KI.out w1 hb1)
          | (refine wpList_store5 rfl _ _ rfl _ _ _ _ _ _ HZ1.out rfl _ _ _ _ _ _ _ rfl ?_; intro w2 hB2 hg2 hs2))
        obtain ⟨c0, c1, c2, c3, c4⟩ := hB2.cells
        refine bodyPost_ret (v := .tuple #[.agg #[.int .i64 0, .string ⟨#[]⟩, .int .i64 0, .int .i64 0, .slice none 0 0], .bool false]) (by simp [results, Try.results39, go_sem, c0, c1, c2, c3, c4]; try rfl) rfl ?_
        exact HF.out w1 w2 hb1 hB2 hg2
      | true =>
        rw [hxb] at K0 hst
        have HSt : Hid (stand sl T = some x.ty) := by show _ = _; rw [hst]; rfl
        clear hst hxb HNone g0
        go_enter Try.func39, Try.ntmps39
        go_upto_region 1 with fail
        rw [← hV]
        clear hV
        go_wp2_with (first
          | (go_at_call 24; refine (HHs.out V hR0).mono ?_; rintro e w1 ⟨rfl, hb1⟩; have HZ1 := Lib.hid (HZ2.out w1 hb1); have q0 := K0.out w1 hb1; have q1 := KS.out w1 hb1; have q2 := KI.out w1 hb1; have r1 := K1.out w1 hb1; have r2 := K2.out w1 hb1; have r3 := K3.out w1 hb1; have r4 := K4.out w1 hb1; have r5 := K5.out w1 hb1)
          | (refine wpList_store5 rfl _ _ rfl _ _ _ _ _ _ HZ1.out rfl _ _ _ _ _ _ _ rfl ?_; intro w2 hB2 hg2 hs2))
        obtain ⟨c0, c1, c2, c3, c4⟩ := hB2.cells
        refine bodyPost_ret (v := .tuple #[.agg #[.int .i64 k', .string nm', .int .i64 i', .int .i64 hm', .slice a' n' c'], .bool true]) (by simp [results, Try.results39, go_sem, c0, c1, c2, c3, c4]; try rfl) rfl ?_
        have hw1 := HVb.out.trans (hb1.mono HVb.out.size)
        refine ⟨⟨_, by rw [HSt.out]; rfl, ?_⟩, Below.grown hw1 hg2 hw1.size (fun j hj => by cases hj; omega)⟩
        rw [HSt.out]
        exact (HRx.out.kept (fun _ h => h) (fun b hb hl => (hg2.block b (Nat.lt_of_lt_of_le hl hb1.size) (by intro e; have := Option.some.inj e; have := hb.2; omega)).trans (hb1.block b hl)))
  · have HF := Lib.hid (HNone.out (hslot (by omega)))
    clear hslot HNone
    go_enter Try.func39, Try.ntmps39
    go_upto_region 1 with fail
    rw [← hV]
    clear hV
    go_wp2_with (refine wpList_store5 rfl _ _ rfl _ _ _ _ _ _ HZ.out rfl _ _ _ _ _ _ _ rfl ?_; intro w2 hB2 hg2 hs2)
    obtain ⟨c0, c1, c2, c3, c4⟩ := hB2.cells
    refine bodyPost_ret (v := .tuple #[.agg #[.int .i64 0, .string ⟨#[]⟩, .int .i64 0, .int .i64 0, .slice none 0 0], .bool false]) (by simp [results, Try.results39, go_sem, c0, c1, c2, c3, c4]; try rfl) rfl ?_
    exact HF.out V w2 hR0 hB2 hg2
end Go.Proofs.Ytejlhfjhpminjaa
