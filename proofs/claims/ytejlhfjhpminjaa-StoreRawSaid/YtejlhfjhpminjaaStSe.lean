/- Stores: the package's Set. -/
import Derived.Test.YtejlhfjhpminjaaStFr
namespace Go.Proofs.Ytejlhfjhpminjaa
open Go.RowKit Go.Sort Go.Shelf Go.Maps Mth

theorem RowG.base {α : Type} {E : El α} {w : World} {b1 b2 : Nat} {S : Nat → Prop} {v : Value} {xs : List α} (h : RowG E w b1 S v xs) (hb : b2 ≤ b1) : RowG E w b2 S v xs := by
  obtain ⟨L, hown, hl, hr⟩ := h
  refine ⟨L, ⟨hown.1, ?_⟩, hl, hr⟩
  rcases hown.2 with h | ⟨g, cap, cur, hv, hg, rest⟩
  · exact .inl h
  · exact .inr ⟨g, cap, cur, hv, Nat.le_trans hb hg, rest⟩
/-- Ten cells outside of block B outlive two stores into it. -/
theorem keep10 {W : World} {B : Nat} {p0 p1 p2 p3 p4 p5 p6 p7 p8 p9 : Addr} {a0 a1 a2 a3 a4 a5 a6 a7 a8 a9 : Value} (h : W.cell? p0 = some a0 ∧ W.cell? p1 = some a1 ∧ W.cell? p2 = some a2 ∧ W.cell? p3 = some a3 ∧ W.cell? p4 = some a4 ∧ W.cell? p5 = some a5 ∧ W.cell? p6 = some a6 ∧ W.cell? p7 = some a7 ∧ W.cell? p8 = some a8 ∧ W.cell? p9 = some a9) (hne : p0.block ≠ B ∧ p1.block ≠ B ∧ p2.block ≠ B ∧ p3.block ≠ B ∧ p4.block ≠ B ∧ p5.block ≠ B ∧ p6.block ≠ B ∧ p7.block ≠ B ∧ p8.block ≠ B ∧ p9.block ≠ B) (a b : Value) : ((W.setCell ⟨B, 0, none⟩ a).setCell ⟨B, 1, none⟩ b).cell? p0 = some a0 ∧ ((W.setCell ⟨B, 0, none⟩ a).setCell ⟨B, 1, none⟩ b).cell? p1 = some a1 ∧ ((W.setCell ⟨B, 0, none⟩ a).setCell ⟨B, 1, none⟩ b).cell? p2 = some a2 ∧ ((W.setCell ⟨B, 0, none⟩ a).setCell ⟨B, 1, none⟩ b).cell? p3 = some a3 ∧ ((W.setCell ⟨B, 0, none⟩ a).setCell ⟨B, 1, none⟩ b).cell? p4 = some a4 ∧ ((W.setCell ⟨B, 0, none⟩ a).setCell ⟨B, 1, none⟩ b).cell? p5 = some a5 ∧ ((W.setCell ⟨B, 0, none⟩ a).setCell ⟨B, 1, none⟩ b).cell? p6 = some a6 ∧ ((W.setCell ⟨B, 0, none⟩ a).setCell ⟨B, 1, none⟩ b).cell? p7 = some a7 ∧ ((W.setCell ⟨B, 0, none⟩ a).setCell ⟨B, 1, none⟩ b).cell? p8 = some a8 ∧ ((W.setCell ⟨B, 0, none⟩ a).setCell ⟨B, 1, none⟩ b).cell? p9 = some a9 := by
  have key : ∀ (p : Addr) (v : Value), p.block ≠ B → W.cell? p = some v → ((W.setCell ⟨B, 0, none⟩ a).setCell ⟨B, 1, none⟩ b).cell? p = some v := by
    intro p v hp hc
    rw [← hc]
    exact World.cell?_of_block (((Below.heap_setCell _ _ _ _ (fun e => hp (by first | exact e | exact e.symm))).trans (Below.heap_setCell _ _ _ _ (fun e => hp (by first | exact e | exact e.symm)))))
  obtain ⟨h0, h1, h2, h3, h4, h5, h6, h7, h8, h9⟩ := h
  obtain ⟨n0, n1, n2, n3, n4, n5, n6, n7, n8, n9⟩ := hne
  exact ⟨key _ _ n0 h0, key _ _ n1 h1, key _ _ n2 h2, key _ _ n3 h3, key _ _ n4 h4, key _ _ n5 h5, key _ _ n6 h6, key _ _ n7 h7, key _ _ n8 h8, key _ _ n9 h9⟩
set_option maxRecDepth 100000 in
set_option maxHeartbeats 6400000 in
theorem set_any (s : Sto) (id : Int) (x : Slt) (v : Value) (k : Int) (nm : ByteArray) (i hh : Int) (xa : Option Addr) (xn xc : Nat) (S : Nat → Prop) (w : World) (h1 : s.slots.length < 1000000) (h2 : s.trail.length < 1000000) (hs : StoR w S s v) (hx : Rep w S x.ty (.agg #[.int .i64 k, .string nm, .int .i64 i, .int .i64 hh, .slice xa xn xc])) :
    Calls Try.prog 9 #[v, .int .i64 id, .agg #[.bool x.bound, .int .i64 k, .string nm, .int .i64 i, .int .i64 hh, .slice xa xn xc, .int .i64 x.home, .bool x.base]] w fun e w' => ∃ u, e = .returned (.tuple #[u, .bool (decide (0 ≤ id) && decide (id < (s.slots.length : Int)))]) ∧ StoR w' (fun b => S b ∧ b < w.heap.size ∨ w.heap.size ≤ b) (if 0 ≤ id ∧ id < (s.slots.length : Int) then stSet s id.toNat x else s) u ∧ Below w.heap.size w w' := by
  have HSto := Lib.hid hs
  obtain ⟨sa, sc, ta, tc, rfl, hsl, htr⟩ := hs
  obtain ⟨n, hn⟩ : ∃ n, n = s.slots.length := ⟨_, rfl⟩
  obtain ⟨m, hm⟩ : ∃ n, n = s.trail.length := ⟨_, rfl⟩
  rw [← hn] at h1 hsl HSto ⊢
  rw [← hm] at h2 htr HSto ⊢
  obtain ⟨R, hR⟩ : ∃ R, R = if 0 ≤ id ∧ id < (n : Int) then stSet s id.toNat x else s := ⟨_, rfl⟩
  rw [← hR]
  obtain ⟨V, hV⟩ : ∃ V, V = ((w.alloc (.cells #[.slice sa n sc, .slice ta m tc] 27)).alloc (.cells #[.bool x.bound, .int .i64 k, .string nm, .int .i64 i, .int .i64 hh, .slice xa xn xc, .int .i64 x.home, .bool x.base] 39)).alloc (.cells #[.slice none 0 0, .slice none 0 0] 27) := ⟨_, rfl⟩
  have hVb : Below w.heap.size w V := by rw [hV]; exact (((Below.refl _ w).alloc (Nat.le_refl _) _).alloc (by simp) _).alloc (by simp; omega) _
  have hB1 : BoxC 27 V w.heap.size [.slice sa n sc, .slice ta m tc] := by unfold BoxC; rw [hV, heap_at, if_neg (by simp; omega), heap_at, if_neg (by simp), heap_at, if_pos rfl]
  have hB2 : BoxC 39 V (w.heap.size + 1) [.bool x.bound, .int .i64 k, .string nm, .int .i64 i, .int .i64 hh, .slice xa xn xc, .int .i64 x.home, .bool x.base] := by unfold BoxC; rw [hV, heap_at, if_neg (by simp), heap_at, if_pos (by simp)]
  have hB3 : BoxC 27 V (w.heap.size + 1 + 1) [.slice none 0 0, .slice none 0 0] := by unfold BoxC; rw [hV, heap_at, if_pos (by simp)]
  have HB1 := Lib.hid hB1
  have HB2 := Lib.hid hB2
  have HB3 := Lib.hid hB3
  have HVb := Lib.hid hVb
  have HVl : Hid (w.heap.size + 1 + 1 < V.heap.size) := hB3.lt
  have HS : Hid (SlG SltE V (fun b => S b ∧ b < w.heap.size) s.slots (.slice sa n sc)) := hsl.bound.up hVb
  have HT : Hid (SlG ChgE V (fun b => S b ∧ b < w.heap.size) s.trail (.slice ta m tc)) := htr.bound.up hVb
  have HX : Hid (Rep V (fun b => S b ∧ b < w.heap.size) x.ty (.agg #[.int .i64 k, .string nm, .int .i64 i, .int .i64 hh, .slice xa xn xc])) := hx.bound.lift hVb
  have HHs : Hid (∀ W, Calls Try.prog 24 #[.agg #[.slice sa n sc, .slice ta m tc], .int .i64 id] W _) := fun W => hasSlot_any sa n sc ta m tc id W
  have HN := Lib.hid hn
  have HM := Lib.hid hm
  have c0 := hB1.cell 0 _ rfl
  have c1 := hB1.cell 1 _ rfl
  clear hB1 hB2 hB3 hsl htr hn hm hx
  by_cases hin : 0 ≤ id ∧ id < (n : Int)
  · have hbt : (decide (0 ≤ id) && decide (id < (n : Int))) = true := by simp; omega
    rw [if_pos hin] at hR
    rw [hbt] at HHs ⊢
    clear hbt
    obtain ⟨j, hj⟩ : ∃ j : Nat, id = (j : Int) := ⟨id.toNat, by omega⟩
    subst hj
    rw [Int.toNat_natCast] at hR
    have HR := Lib.hid hR
    clear hR
    have hjn : j < n := by omega
    have hjn2 : (j : Int) < (n : Int) := by omega
    clear hin
    go_enter Try.func9, Try.ntmps9
    go_upto_region 1 with fail
    rw [← hV]
    clear hV
    go_wp2_with fail
    go_at_call 24
    refine (HHs.out V).mono ?_
    rintro e w1 ⟨rfl, hb1⟩
    have HCp := Lib.hid (copiedS_any s.slots sa n sc _ w1 HN.out (by omega) (HS.out.up hb1))
    have hw1 := hVb.trans (hb1.mono hVb.size)
    clear c0 c1
    have c0 := (HB1.out.lift hb1).cell 0 _ rfl
    have hVs := hb1.size
    have HB11 := Lib.hid (HB1.out.lift hb1)
    have HB21 := Lib.hid (HB2.out.lift hb1)
    have HB31 := Lib.hid (HB3.out.lift hb1)
    have HX1 := Lib.hid (HX.out.lift hb1)
    have HS1 := Lib.hid (HS.out.up hb1)
    have HT1 := Lib.hid (HT.out.up hb1)
    have HL1 := Lib.hid hw1
    have HG : Hid (w.heap.size + 1 + 1 < w1.heap.size) := by have := HVl.out; show _ < _; omega
    clear hb1 hw1 HHs HB1 HB2 HB3 HX HS HT
    go_wp2_with fail
    go_at_call 25
    refine HCp.out.mono ?_
    rintro e W2 ⟨rfl, hrow, hb2⟩
    have hw1s := HG.out
    have HRow : Hid (RowG SltE W2 (w.heap.size + 1 + 1 + 1) (fun b => S b ∧ b < w.heap.size) (.slice (some ⟨w1.heap.size, 0, none⟩) n n) s.slots) := (hrow.weaken (S' := fun b => S b ∧ b < w.heap.size) (fun b hb _ _ => hb.1)).base hw1s
    have HB12 := Lib.hid (HB11.out.lift hb2)
    have HB22 := Lib.hid (HB21.out.lift hb2)
    have HB32 := Lib.hid (HB31.out.lift hb2)
    have HX2 : Hid (Rep W2 (fun b => (S b ∧ b < w.heap.size) ∧ b ≠ w1.heap.size) x.ty (.agg #[.int .i64 k, .string nm, .int .i64 i, .int .i64 hh, .slice xa xn xc])) := (HX1.out.lift hb2).imp fun b hb => ⟨hb, by omega⟩
    have HS2 := Lib.hid (HS1.out.up hb2)
    have HT2 := Lib.hid (HT1.out.up hb2)
    have HL2 := Lib.hid (HL1.out.trans (hb2.mono HL1.out.size))
    have hg2 : w1.heap.size < W2.heap.size := (hrow.lt _ rfl).2
    clear hrow hb2 HCp HX1 HS1 HT1 HL1 HB11 HB21 HB31 c0
    generalize w1.heap.size = g at *
    have hjl : j < s.slots.length := by rw [← HN.out]; exact hjn
    have hHx : SltE.rep W2 (fun b => (S b ∧ b < w.heap.size) ∧ b ≠ g) x [.bool x.bound, .int .i64 k, .string nm, .int .i64 i, .int .i64 hh, .slice xa xn xc, .int .i64 x.home, .bool x.base] := ⟨k, nm, i, hh, xa, xn, xc, rfl, HX2.out⟩
    obtain ⟨v0, v1, v2, v3, v4, v5, v6, v7, ⟨p0, p1, p2, p3, p4, p5, p6, p7⟩, hf⟩ := HRow.out.atsS hjl
    have HPut := Lib.hid (HRow.out.putS hjl hHx)
    have f0 := hf (j * 8); have f1 := hf (j * 8 + 1); have f2 := hf (j * 8 + 2); have f3 := hf (j * 8 + 3); have f4 := hf (j * 8 + 4); have f5 := hf (j * 8 + 5); have f6 := hf (j * 8 + 6); have f7 := hf (j * 8 + 7)
    have b0 := HB22.out.cell 0 _ rfl; have b1 := HB22.out.cell 1 _ rfl; have b2 := HB22.out.cell 2 _ rfl; have b3 := HB22.out.cell 3 _ rfl; have b4 := HB22.out.cell 4 _ rfl; have b5 := HB22.out.cell 5 _ rfl; have b6 := HB22.out.cell 6 _ rfl; have b7 := HB22.out.cell 7 _ rfl
    clear hf hHx
    go_upto_region 5 with fail
    clear p0 p1 p2 p3 p4 p5 p6 p7 f0 f1 f2 f3 f4 f5 f6 f7 b0 b1 b2 b3 b4 b5 b6 b7
    have hgr := HPut.out.2
    have hne : ∀ b, b < g → some b ≠ some g := fun b hb e => by have := Option.some.inj e; omega
    have HRow3 := Lib.hid HPut.out.1
    have HB13 := Lib.hid (HB12.out.grown hgr (hne _ (by omega)))
    have HB33 := Lib.hid (HB32.out.grown hgr (hne _ (by omega)))
    have HS3 : Hid (SlG SltE _ (fun b => S b ∧ b < w.heap.size) s.slots (.slice sa n sc)) := SlG.kept (fun _ h => h) (fun b hb hl => hgr.block b hl (hne _ (by have := hb.2; omega))) HS2.out
    have HT3 : Hid (SlG ChgE _ (fun b => S b ∧ b < w.heap.size) s.trail (.slice ta m tc)) := SlG.kept (fun _ h => h) (fun b hb hl => hgr.block b hl (hne _ (by have := hb.2; omega))) HT2.out
    have HL3 := Lib.hid (Below.grown HL2.out hgr HL2.out.size (fun q hq => by cases hq; omega))
    have hgs := hgr.size
    clear hgr HPut HRow HB12 HB22 HB32 HX2 HS2 HT2 HL2 hne
    generalize ((((((((W2.setCell ⟨g, j * 8, none⟩ (.bool x.bound)).setCell ⟨g, j * 8 + 1, none⟩ (.int .i64 k)).setCell ⟨g, j * 8 + 2, none⟩ (.string nm)).setCell ⟨g, j * 8 + 3, none⟩ (.int .i64 i)).setCell ⟨g, j * 8 + 4, none⟩ (.int .i64 hh)).setCell ⟨g, j * 8 + 5, none⟩ (.slice xa xn xc)).setCell ⟨g, j * 8 + 6, none⟩ (.int .i64 x.home)).setCell ⟨g, j * 8 + 7, none⟩ (.bool x.base)) = W3 at *
    obtain ⟨y, hy⟩ : ∃ y, s.slots[j]? = some y := ⟨_, List.getElem?_eq_getElem hjl⟩
    obtain ⟨ad, yk, yn, yi, yh, ya, ym, yc, rfl, hSb, hry, g0, g1, g2, g3, g4, g5, g6, g7⟩ := slt_at HS3.out hy
    have hk0 := HB13.out.cell 0 _ rfl
    have hk1 := HB13.out.cell 1 _ rfl
    have HK : Hid (∀ W', Below W3.heap.size W3 W' → W'.cell? ⟨w.heap.size, 0, none⟩ = some (.slice (some ad) n sc) ∧ W'.cell? ⟨w.heap.size, 1, none⟩ = some (.slice ta m tc) ∧ W'.cell? (ad.add (j * 8)) = some (.bool y.bound) ∧ W'.cell? ⟨(ad.add (j * 8)).block, (ad.add (j * 8)).off + 1, none⟩ = some (.int .i64 yk) ∧ W'.cell? ⟨(ad.add (j * 8)).block, (ad.add (j * 8)).off + 2, none⟩ = some (.string yn) ∧ W'.cell? ⟨(ad.add (j * 8)).block, (ad.add (j * 8)).off + 3, none⟩ = some (.int .i64 yi) ∧ W'.cell? ⟨(ad.add (j * 8)).block, (ad.add (j * 8)).off + 4, none⟩ = some (.int .i64 yh) ∧ W'.cell? ⟨(ad.add (j * 8)).block, (ad.add (j * 8)).off + 5, none⟩ = some (.slice ya ym yc) ∧ W'.cell? ⟨(ad.add (j * 8)).block, (ad.add (j * 8)).off + 6, none⟩ = some (.int .i64 y.home) ∧ W'.cell? ⟨(ad.add (j * 8)).block, (ad.add (j * 8)).off + 7, none⟩ = some (.bool y.base)) := fun W' hb => by
      have kk : ∀ p v, W3.cell? p = some v → W'.cell? p = some v := fun p v h => (hb.cell (World.block_lt_of_cell? _ _ h)).trans h
      exact ⟨kk _ _ hk0, kk _ _ hk1, kk _ _ g0, kk _ _ g1, kk _ _ g2, kk _ _ g3, kk _ _ g4, kk _ _ g5, kk _ _ g6, kk _ _ g7⟩
    have HY : Hid (s.slots[j]? = some y) := hy
    have HWc : Hid (∀ W, Below W3.heap.size W3 W → Calls Try.prog 22 #[.slice ta m tc, .agg #[.int .i64 (j : Int), .bool y.bound, .int .i64 yk, .string yn, .int .i64 yi, .int .i64 yh, .slice ya ym yc, .int .i64 y.home, .bool y.base, .bool false]] W _) := fun W hb => withC_any s.trail ⟨(j : Int), y, false⟩ ta m tc y.bound yk yn yi yh ya ym yc y.home y.base _ _ (fun b => S b ∧ b < w.heap.size) W HM.out h2 (HT3.out.up hb) ⟨_, rfl, yk, yn, yi, yh, ya, ym, yc, rfl, hry.lift hb⟩
    have HD0 : Hid (Below W3.heap.size W3 W3.drew) := (Below.refl _ W3).drew
    have hSad := hSb.2
    have hNE : w.heap.size ≠ w.heap.size + 1 + 1 ∧ w.heap.size ≠ w.heap.size + 1 + 1 ∧ (ad.add (j * 8)).block ≠ w.heap.size + 1 + 1 ∧ (ad.add (j * 8)).block ≠ w.heap.size + 1 + 1 ∧ (ad.add (j * 8)).block ≠ w.heap.size + 1 + 1 ∧ (ad.add (j * 8)).block ≠ w.heap.size + 1 + 1 ∧ (ad.add (j * 8)).block ≠ w.heap.size + 1 + 1 ∧ (ad.add (j * 8)).block ≠ w.heap.size + 1 + 1 ∧ (ad.add (j * 8)).block ≠ w.heap.size + 1 + 1 ∧ (ad.add (j * 8)).block ≠ w.heap.size + 1 + 1 := by
      have e : (ad.add (j * 8)).block = ad.block := add_block _ _
      rw [e]
      refine ⟨by omega, by omega, by omega, by omega, by omega, by omega, by omega, by omega, by omega, by omega⟩
    have HNE := Lib.hid hNE
    clear hy hry g0 g1 g2 g3 g4 g5 g6 g7 hk0 hk1 hSb hNE hSad
    have hHW : Hid (W3.heap.size = W3.heap.size) := rfl
    have HB3l : Hid (w.heap.size + 1 + 1 < g) := hw1s
    have HSb2 : Hid (w.heap.size ≤ w.heap.size + 1 + 1) := by show _ ≤ _; omega
    clear hw1s hVs HG HVl hHW
    generalize w.heap.size + 1 + 1 = b3 at *
    go_region_held3 (fun W' => W'.cell? ⟨w.heap.size, 0, none⟩ = some (.slice (some ad) n sc) ∧ W'.cell? ⟨w.heap.size, 1, none⟩ = some (.slice ta m tc) ∧ W'.cell? (ad.add (j * 8)) = some (.bool y.bound) ∧ W'.cell? ⟨(ad.add (j * 8)).block, (ad.add (j * 8)).off + 1, none⟩ = some (.int .i64 yk) ∧ W'.cell? ⟨(ad.add (j * 8)).block, (ad.add (j * 8)).off + 2, none⟩ = some (.string yn) ∧ W'.cell? ⟨(ad.add (j * 8)).block, (ad.add (j * 8)).off + 3, none⟩ = some (.int .i64 yi) ∧ W'.cell? ⟨(ad.add (j * 8)).block, (ad.add (j * 8)).off + 4, none⟩ = some (.int .i64 yh) ∧ W'.cell? ⟨(ad.add (j * 8)).block, (ad.add (j * 8)).off + 5, none⟩ = some (.slice ya ym yc) ∧ W'.cell? ⟨(ad.add (j * 8)).block, (ad.add (j * 8)).off + 6, none⟩ = some (.int .i64 y.home) ∧ W'.cell? ⟨(ad.add (j * 8)).block, (ad.add (j * 8)).off + 7, none⟩ = some (.bool y.base))
      (first
        | with_reducible exact keep10 (HK.out x2 HD2.out) HNE.out _ _
        | with_reducible exact HK.out x2 HD2.out
        | with_reducible exact HK.out W3.drew HD0.out)
      (first
        | (go_at_call 22; (with_reducible refine (HWc.out _ HD0.out).mono ?_); rintro e x2 ⟨g2, rfl, hg2, hr2, hb⟩; have HD2 := Lib.hid (RowKit.Below.trans HD0.out (RowKit.Below.mono hb (RowKit.Below.size HD0.out))); have HR2 := Lib.hid hr2; have HG2 := Lib.hid hg2; have HB34 := Lib.hid (BoxC.lift HB33.out HD2.out); have z0 := BoxC.cell HB34.out 0 _ rfl; have z1 := BoxC.cell HB34.out 1 _ rfl; have z2 := BoxC.free HB34.out 0; have z3 := BoxC.free HB34.out 1; clear hr2 hb hg2))
    clear z0 z1 z2 z3
    obtain ⟨q1, q2⟩ := set2 HB34.out (.slice (some ⟨g, 0, none⟩) n n) (.slice (some ⟨g2, 0, none⟩) (m + 1) (m + 1))
    generalize ((x2.setCell ⟨b3, 0, none⟩ (.slice (some ⟨g, 0, none⟩) n n)).setCell ⟨b3, 1, none⟩ (.slice (some ⟨g2, 0, none⟩) (m + 1) (m + 1))) = x4 at *
    have c0 := q1.cell 0 _ rfl
    have c1 := q1.cell 1 _ rfl
    go_wp2
    refine bodyPost_ret (v := .tuple #[.agg #[.slice (some ⟨g, 0, none⟩) n n, .slice (some ⟨g2, 0, none⟩) (m + 1) (m + 1)], .bool true]) (by simp [results, Try.results9, go_sem, c0, c1]; try rfl) rfl ?_
    have hb3 : Below w.heap.size w x2 := HL3.out.trans (HD2.out.mono HL3.out.size)
    have hb4 := Below.grown hb3 q2 hb3.size (fun k hk => by cases hk; exact HSb2.out)
    have hl2 := HD0.out.size
    have hbg := HB3l.out
    have hb3l := HSb2.out
    have hl3 := HL3.out.size
    have hg2' := HG2.out
    refine ⟨_, rfl, ?_, hb4⟩
    rw [HR.out]
    refine ⟨some ⟨g, 0, none⟩, n, some ⟨g2, 0, none⟩, m + 1, ?_, ?_, ?_⟩
    · simp [stSet, ← HN.out, ← HM.out]
    · have h0 := (HRow3.out.lift HD2.out).slG (S' := fun b => (S b ∧ b < w.heap.size ∨ w.heap.size ≤ b) ∧ b ≠ b3) (fun b hb => ⟨.inl hb, by have := hb.2; omega⟩) (fun b hb => ⟨.inr (by omega), by omega⟩)
      have h1 := h0.kept (S' := fun b => S b ∧ b < w.heap.size ∨ w.heap.size ≤ b) (fun _ h => h.1) (fun b hb hl => q2.block b hl (fun e => hb.2 (Option.some.inj e)))
      have e : (stSet s j x).slots = s.slots.set j x := rfl
      rw [e, List.length_set, ← HN.out]
      exact h1
    · have h0 := HR2.out.slG (S' := fun b => (S b ∧ b < w.heap.size ∨ w.heap.size ≤ b) ∧ b ≠ b3) (fun b hb => ⟨.inl hb.1, by have := hb.1.2; omega⟩) (fun b hb => ⟨.inr (by omega), by omega⟩)
      have h1 := h0.kept (S' := fun b => S b ∧ b < w.heap.size ∨ w.heap.size ≤ b) (fun _ h => h.1) (fun b hb hl => q2.block b hl (fun e => hb.2 (Option.some.inj e)))
      have e : (stSet s j x).trail = s.trail ++ [⟨(j : Int), y, false⟩] := by unfold stSet; rw [HY.out]; rfl
      rw [e, List.length_append, ← HM.out]
      exact h1
  · have hbt : (decide (0 ≤ id) && decide (id < (n : Int))) = false := by
      by_cases h0 : 0 ≤ id <;> simp [h0]
      omega
    rw [if_neg hin] at hR
    have HR := Lib.hid hR
    clear hR
    rw [hbt] at HHs ⊢
    clear hbt hin
    go_enter Try.func9, Try.ntmps9
    go_upto_region 1 with fail
    rw [← hV]
    clear hV
    go_wp2_with fail
    go_at_call 24
    refine (HHs.out V).mono ?_
    rintro e w1 ⟨rfl, hb1⟩
    clear c0 c1
    have c0 := (HB1.out.lift hb1).cell 0 _ rfl
    have c1 := (HB1.out.lift hb1).cell 1 _ rfl
    have HB31 := Lib.hid (HB3.out.lift hb1)
    have HL1 := Lib.hid (hVb.trans (hb1.mono hVb.size))
    have hz0 := HB31.out.cell 0 _ rfl
    have hz1 := HB31.out.cell 1 _ rfl
    have hz2 := HB31.out.free 0
    have hz3 := HB31.out.free 1
    go_wp2
    obtain ⟨q1, q2⟩ := set2 HB31.out (.slice sa n sc) (.slice ta m tc)
    generalize ((w1.setCell ⟨w.heap.size + 1 + 1, 0, none⟩ (.slice sa n sc)).setCell ⟨w.heap.size + 1 + 1, 1, none⟩ (.slice ta m tc)) = x4 at *
    have d0 := q1.cell 0 _ rfl
    have d1 := q1.cell 1 _ rfl
    refine bodyPost_ret (v := .tuple #[.agg #[.slice sa n sc, .slice ta m tc], .bool false]) (by simp [results, Try.results9, go_sem, d0, d1]; try rfl) rfl ?_
    have hb4 := Below.grown HL1.out q2 HL1.out.size (fun k hk => by cases hk; omega)
    refine ⟨_, rfl, ?_, hb4⟩
    rw [HR.out]
    refine StoR.kept (fun b hb => .inl hb) (fun b hb hl => hb4.block b hl) HSto.out.bound
end Go.Proofs.Ytejlhfjhpminjaa
