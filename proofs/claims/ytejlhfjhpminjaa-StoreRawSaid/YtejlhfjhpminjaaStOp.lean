/- Stores: with and copied. -/
import Derived.Test.YtejlhfjhpminjaaStWk
namespace Go.Proofs.Ytejlhfjhpminjaa
open Go.RowKit Go.Sort Go.Shelf Go.Maps Mth

/-- The cells of an element of an owned row: S. -/
theorem RowG.atsS {w : World} {base : Nat} {S : Nat → Prop} {g n cap : Nat} {xs : List Slt} (h : RowG SltE w base S (.slice (some ⟨g, 0, none⟩) n cap) xs) {j : Nat} (hj : j < xs.length) :
    ∃ v0 v1 v2 v3 v4 v5 v6 v7, (w.cell? ⟨g, j * 8, none⟩ = some v0 ∧ w.cell? ⟨g, j * 8 + 1, none⟩ = some v1 ∧ w.cell? ⟨g, j * 8 + 2, none⟩ = some v2 ∧ w.cell? ⟨g, j * 8 + 3, none⟩ = some v3 ∧ w.cell? ⟨g, j * 8 + 4, none⟩ = some v4 ∧ w.cell? ⟨g, j * 8 + 5, none⟩ = some v5 ∧ w.cell? ⟨g, j * 8 + 6, none⟩ = some v6 ∧ w.cell? ⟨g, j * 8 + 7, none⟩ = some v7) ∧ (∀ q, w.frozen? ⟨g, q, none⟩ = false) := by
  obtain ⟨cc, hr, hc⟩ := rowG_getT h (List.getElem?_eq_getElem hj)
  have hl := (SltE.len hr).1
  match cc, hl with
  | [v0, v1, v2, v3, v4, v5, v6, v7], _ =>
    exact ⟨v0, v1, v2, v3, v4, v5, v6, v7, ⟨hc 0 _ rfl, hc 1 _ rfl, hc 2 _ rfl, hc 3 _ rfl, hc 4 _ rfl, hc 5 _ rfl, hc 6 _ rfl, hc 7 _ rfl⟩, fun q => h.free q⟩
theorem RowG.putS {w : World} {base : Nat} {S : Nat → Prop} {g n cap : Nat} {xs : List Slt} (h : RowG SltE w base S (.slice (some ⟨g, 0, none⟩) n cap) xs) {j : Nat} (hj : j < xs.length) {x : Slt} {q0 : Bool} {k : Int} {nm : ByteArray} {i hh : Int} {sa : Option Addr} {sn sc : Nat} {q6 : Int} {q7 : Bool} (hT : SltE.rep w (fun b => S b ∧ b ≠ g) x [.bool q0, .int .i64 k, .string nm, .int .i64 i, .int .i64 hh, .slice sa sn sc, .int .i64 q6, .bool q7]) :
    RowG SltE ((((((((w.setCell ⟨g, j * 8, none⟩ (.bool q0)).setCell ⟨g, j * 8 + 1, none⟩ (.int .i64 k)).setCell ⟨g, j * 8 + 2, none⟩ (.string nm)).setCell ⟨g, j * 8 + 3, none⟩ (.int .i64 i)).setCell ⟨g, j * 8 + 4, none⟩ (.int .i64 hh)).setCell ⟨g, j * 8 + 5, none⟩ (.slice sa sn sc)).setCell ⟨g, j * 8 + 6, none⟩ (.int .i64 q6)).setCell ⟨g, j * 8 + 7, none⟩ (.bool q7)) base S (.slice (some ⟨g, 0, none⟩) n cap) (xs.set j x) ∧ w.grownBy ((((((((w.setCell ⟨g, j * 8, none⟩ (.bool q0)).setCell ⟨g, j * 8 + 1, none⟩ (.int .i64 k)).setCell ⟨g, j * 8 + 2, none⟩ (.string nm)).setCell ⟨g, j * 8 + 3, none⟩ (.int .i64 i)).setCell ⟨g, j * 8 + 4, none⟩ (.int .i64 hh)).setCell ⟨g, j * 8 + 5, none⟩ (.slice sa sn sc)).setCell ⟨g, j * 8 + 6, none⟩ (.int .i64 q6)).setCell ⟨g, j * 8 + 7, none⟩ (.bool q7)) (some g) := by
  have hput := h.put (List.getElem?_eq_getElem hj) x 0 [.bool q0, .int .i64 k, .string nm, .int .i64 i, .int .i64 hh, .slice sa sn sc, .int .i64 q6, .bool q7] (fun cc hc => ⟨[], cc, [], by simp, rfl, by rw [(SltE.len hc).1]; rfl, hT⟩)
  have hch : w.setCells g (j * SltE.k + 0) [.bool q0, .int .i64 k, .string nm, .int .i64 i, .int .i64 hh, .slice sa sn sc, .int .i64 q6, .bool q7] = ((((((((w.setCell ⟨g, j * 8, none⟩ (.bool q0)).setCell ⟨g, j * 8 + 1, none⟩ (.int .i64 k)).setCell ⟨g, j * 8 + 2, none⟩ (.string nm)).setCell ⟨g, j * 8 + 3, none⟩ (.int .i64 i)).setCell ⟨g, j * 8 + 4, none⟩ (.int .i64 hh)).setCell ⟨g, j * 8 + 5, none⟩ (.slice sa sn sc)).setCell ⟨g, j * 8 + 6, none⟩ (.int .i64 q6)).setCell ⟨g, j * 8 + 7, none⟩ (.bool q7)) := by
    rw [show SltE.k = 8 from rfl]
    simp only [World.setCells, Nat.add_zero, Nat.add_assoc, Nat.reduceAdd]
  rw [hch] at hput
  exact hput
set_option maxRecDepth 100000 in
set_option maxHeartbeats 6400000 in
theorem withS_any (xs : List Slt) (x : Slt) (a : Option Addr) (n c : Nat) (q0 : Bool) (k : Int) (nm : ByteArray) (i hh : Int) (sa : Option Addr) (sn sc : Nat) (q6 : Int) (q7 : Bool) (S : Nat → Prop) (w : World) (hl : n = xs.length) (hn : n < 1000000) (hs : SlG SltE w S xs (.slice a n c)) (hx : SltE.rep w S x [.bool q0, .int .i64 k, .string nm, .int .i64 i, .int .i64 hh, .slice sa sn sc, .int .i64 q6, .bool q7]) :
    Calls Try.prog 21 #[.slice a n c, .agg #[.bool q0, .int .i64 k, .string nm, .int .i64 i, .int .i64 hh, .slice sa sn sc, .int .i64 q6, .bool q7]] w fun e w' => ∃ g, e = .returned (.slice (some ⟨g, 0, none⟩) (n + 1) (n + 1)) ∧ w.heap.size ≤ g ∧ RowG SltE w' w.heap.size (fun b => S b ∧ b < w.heap.size) (.slice (some ⟨g, 0, none⟩) (n + 1) (n + 1)) (xs ++ [x]) ∧ Below w.heap.size w w' := by
  obtain ⟨V, hV⟩ : ∃ V, V = w.alloc (.cells #[.bool q0, .int .i64 k, .string nm, .int .i64 i, .int .i64 hh, .slice sa sn sc, .int .i64 q6, .bool q7] 39) := ⟨_, rfl⟩
  have hVb : Below w.heap.size w V := by rw [hV]; exact (Below.refl _ w).alloc (Nat.le_refl _) _
  have hB : BoxC 39 V w.heap.size [.bool q0, .int .i64 k, .string nm, .int .i64 i, .int .i64 hh, .slice sa sn sc, .int .i64 q6, .bool q7] := by rw [hV]; exact BoxC.made _ w _
  have hVs : V.heap.size = w.heap.size + 1 := by rw [hV]; simp
  have HB := Lib.hid hB
  have HVs := Lib.hid hVs
  have HVb := Lib.hid hVb
  have HS : Hid (SlG SltE V (fun b => S b ∧ b < w.heap.size) xs (.slice a n c)) := hs.bound.up hVb
  have HX : Hid (SltE.rep V (fun b => S b ∧ b < w.heap.size) x [.bool q0, .int .i64 k, .string nm, .int .i64 i, .int .i64 hh, .slice sa sn sc, .int .i64 q6, .bool q7]) := SltE.kept (fun _ h => h) (fun b _ hl => hVb.block b hl) (SltE.bound hx)
  have HL := Lib.hid hl
  clear hs hx hB hl hVs
  go_enter Try.func21, Try.ntmps21
  go_upto_region 1 with fail
  rw [← hV]
  clear hV
  go_upto_region 2 with (at_make; refine wpList_makeZ zr_slt rfl _ _ rfl (n + 1) _ rfl rfl (by go_num) (by omega) ?_; intro cur hcur)
  have hal : Below V.heap.size V (V.alloc (.cells cur SltE.e)) := (Below.refl _ V).alloc (Nat.le_refl _) _
  have hS2 : SlG SltE (V.alloc (.cells cur SltE.e)) (fun b => S b ∧ b < w.heap.size) xs (.slice a n c) := HS.out.up hal
  have hN : (V.alloc (.cells cur SltE.e)).heap[V.heap.size]? = some (.cells cur SltE.e (0, 0)) := heap_alloc_new V _
  have HX2 : Hid (SltE.rep (V.alloc (.cells cur SltE.e)) (fun b => S b ∧ b < w.heap.size) x [.bool q0, .int .i64 k, .string nm, .int .i64 i, .int .i64 hh, .slice sa sn sc, .int .i64 q6, .bool q7]) := SltE.kept (fun _ h => h) (fun b _ hl => hal.block b hl) HX.out
  have HB2 := Lib.hid (HB.out.lift hal)
  have HL2 := Lib.hid (hVb.trans (hal.mono hVb.size))
  have hWs : (V.alloc (.cells cur SltE.e)).heap.size = V.heap.size + 1 := by simp
  have HWs := Lib.hid hWs
  generalize (V.alloc (.cells cur SltE.e)) = W at *
  have hgw : ∀ b, S b ∧ b < w.heap.size → b ≠ V.heap.size := fun b hb => by have := HVs.out; omega
  clear hal hWs
  go_upto_region 3 with (refine wpList_copyZ zr_slt rfl _ _ rfl xs n (n + 1) V.heap.size HL.out rfl cur hN hcur (by omega) (by omega) a c rfl _ hS2 hgw w.heap.size (by have := HVs.out; omega) ?_; intro u w2 hrow2 hg2)
  have HR2 : Hid (RowG SltE w2 w.heap.size (fun b => S b ∧ b < w.heap.size) (.slice (some ⟨V.heap.size, 0, none⟩) (n + 1) (n + 1)) (xs ++ List.replicate (n + 1 - n) slZ)) := hrow2
  have HL3 : Hid (Below w.heap.size w w2) := Below.grown HL2.out hg2 HL2.out.size (fun q hq => by cases hq; have := HVs.out; omega)
  have HX3 : Hid (SltE.rep w2 (fun b => (S b ∧ b < w.heap.size) ∧ b ≠ V.heap.size) x [.bool q0, .int .i64 k, .string nm, .int .i64 i, .int .i64 hh, .slice sa sn sc, .int .i64 q6, .bool q7]) := SltE.kept (fun b hb => ⟨hb, hgw b hb⟩) (fun b hb hl => hg2.block b hl (fun e => hgw b hb (Option.some.inj e))) HX2.out
  have HB3 := Lib.hid (HB2.out.grown hg2 (by intro e; have := Option.some.inj e; have := HVs.out; omega))
  have HG : Hid (w.heap.size ≤ V.heap.size) := hVb.size
  have HLen : Hid (n < (xs ++ List.replicate (n + 1 - n) slZ).length) := by show _ < _; rw [List.length_append, ← HL.out, List.length_replicate]; omega
  have HSet : Hid ((xs ++ List.replicate (n + 1 - n) slZ).set n x = xs ++ [x]) := by
    show _ = _
    rw [show n + 1 - n = 1 from by omega, HL.out, List.set_append_right _ _ (Nat.le_refl _), Nat.sub_self]; rfl
  clear hrow2 hg2 hS2 hN hcur hgw HX HX2 HB HB2 HS HL2 hVb HWs
  generalize V.heap.size = g at *
  obtain ⟨z0, z1, z2, z3, z4, z5, z6, z7, ⟨c0, c1, c2, c3, c4, c5, c6, c7⟩, hf⟩ := HR2.out.atsS HLen.out
  have f0 := hf (n * 8)
  have f1 := hf (n * 8 + 1)
  have f2 := hf (n * 8 + 2)
  have f3 := hf (n * 8 + 3)
  have f4 := hf (n * 8 + 4)
  have f5 := hf (n * 8 + 5)
  have f6 := hf (n * 8 + 6)
  have f7 := hf (n * 8 + 7)
  have b0 := HB3.out.cell 0 _ rfl
  have b1 := HB3.out.cell 1 _ rfl
  have b2 := HB3.out.cell 2 _ rfl
  have b3 := HB3.out.cell 3 _ rfl
  have b4 := HB3.out.cell 4 _ rfl
  have b5 := HB3.out.cell 5 _ rfl
  have b6 := HB3.out.cell 6 _ rfl
  have b7 := HB3.out.cell 7 _ rfl
  have HPut := Lib.hid (HR2.out.putS HLen.out HX3.out)
  clear hf
  go_wp2
  go_ret
  refine ⟨g, rfl, HG.out, ?_, Below.grown HL3.out HPut.out.2 HL3.out.size (fun q hq => by cases hq; exact HG.out)⟩
  rw [← HSet.out]
  exact HPut.out.1
set_option maxRecDepth 100000 in
set_option maxHeartbeats 6400000 in
theorem copiedS_any (xs : List Slt) (a : Option Addr) (n c : Nat) (S : Nat → Prop) (w : World) (hl : n = xs.length) (hn : n ≤ 1000000) (hs : SlG SltE w S xs (.slice a n c)) :
    Calls Try.prog 25 #[.slice a n c] w fun e w' => e = .returned (.slice (some ⟨w.heap.size, 0, none⟩) n n) ∧ RowG SltE w' w.heap.size (fun b => S b ∧ b < w.heap.size) (.slice (some ⟨w.heap.size, 0, none⟩) n n) xs ∧ Below w.heap.size w w' := by
  have HS : Hid (SlG SltE w (fun b => S b ∧ b < w.heap.size) xs (.slice a n c)) := hs.bound
  have HL := Lib.hid hl
  clear hs hl
  go_enter Try.func25, Try.ntmps25
  go_upto_region 2 with (at_make; refine wpList_makeZ zr_slt rfl _ _ rfl n _ rfl rfl rfl hn ?_; intro cur hcur)
  have hal : Below w.heap.size w (w.alloc (.cells cur SltE.e)) := (Below.refl _ w).alloc (Nat.le_refl _) _
  have hS2 : SlG SltE (w.alloc (.cells cur SltE.e)) (fun b => S b ∧ b < w.heap.size) xs (.slice a n c) := HS.out.up hal
  have hN : (w.alloc (.cells cur SltE.e)).heap[w.heap.size]? = some (.cells cur SltE.e (0, 0)) := heap_alloc_new w _
  have HL2 := Lib.hid hal
  generalize (w.alloc (.cells cur SltE.e)) = W at *
  have hgw : ∀ b, S b ∧ b < w.heap.size → b ≠ w.heap.size := fun b hb => by omega
  clear hal
  go_upto_region 3 with (refine wpList_copyZ zr_slt rfl _ _ rfl xs n n w.heap.size HL.out rfl cur hN hcur hn (Nat.le_refl _) a c rfl _ hS2 hgw w.heap.size (Nat.le_refl _) ?_; intro u w2 hrow2 hg2)
  have HR2 := Lib.hid hrow2
  have HL3 : Hid (Below w.heap.size w w2) := Below.grown HL2.out hg2 HL2.out.size (fun q hq => by cases hq; exact Nat.le_refl _)
  clear hrow2 hg2 hS2 hN hcur hgw
  go_wp2
  go_ret
  refine ⟨rfl, ?_, HL3.out⟩
  have := HR2.out
  rwa [Nat.sub_self, List.replicate_zero, List.append_nil] at this

/-- The cells of an element of an owned row: C. -/
theorem RowG.atsC {w : World} {base : Nat} {S : Nat → Prop} {g n cap : Nat} {xs : List Chg} (h : RowG ChgE w base S (.slice (some ⟨g, 0, none⟩) n cap) xs) {j : Nat} (hj : j < xs.length) :
    ∃ v0 v1 v2 v3 v4 v5 v6 v7 v8 v9, (w.cell? ⟨g, j * 10, none⟩ = some v0 ∧ w.cell? ⟨g, j * 10 + 1, none⟩ = some v1 ∧ w.cell? ⟨g, j * 10 + 2, none⟩ = some v2 ∧ w.cell? ⟨g, j * 10 + 3, none⟩ = some v3 ∧ w.cell? ⟨g, j * 10 + 4, none⟩ = some v4 ∧ w.cell? ⟨g, j * 10 + 5, none⟩ = some v5 ∧ w.cell? ⟨g, j * 10 + 6, none⟩ = some v6 ∧ w.cell? ⟨g, j * 10 + 7, none⟩ = some v7 ∧ w.cell? ⟨g, j * 10 + 8, none⟩ = some v8 ∧ w.cell? ⟨g, j * 10 + 9, none⟩ = some v9) ∧ (∀ q, w.frozen? ⟨g, q, none⟩ = false) := by
  obtain ⟨cc, hr, hc⟩ := rowG_getT h (List.getElem?_eq_getElem hj)
  have hl := (ChgE.len hr).1
  match cc, hl with
  | [v0, v1, v2, v3, v4, v5, v6, v7, v8, v9], _ =>
    exact ⟨v0, v1, v2, v3, v4, v5, v6, v7, v8, v9, ⟨hc 0 _ rfl, hc 1 _ rfl, hc 2 _ rfl, hc 3 _ rfl, hc 4 _ rfl, hc 5 _ rfl, hc 6 _ rfl, hc 7 _ rfl, hc 8 _ rfl, hc 9 _ rfl⟩, fun q => h.free q⟩
theorem RowG.putC {w : World} {base : Nat} {S : Nat → Prop} {g n cap : Nat} {xs : List Chg} (h : RowG ChgE w base S (.slice (some ⟨g, 0, none⟩) n cap) xs) {j : Nat} (hj : j < xs.length) {x : Chg} {q0 : Bool} {k : Int} {nm : ByteArray} {i hh : Int} {sa : Option Addr} {sn sc : Nat} {q6 : Int} {q7 : Bool} {p0 : Int} {p9 : Bool} (hT : ChgE.rep w (fun b => S b ∧ b ≠ g) x [.int .i64 p0, .bool q0, .int .i64 k, .string nm, .int .i64 i, .int .i64 hh, .slice sa sn sc, .int .i64 q6, .bool q7, .bool p9]) :
    RowG ChgE ((((((((((w.setCell ⟨g, j * 10, none⟩ (.int .i64 p0)).setCell ⟨g, j * 10 + 1, none⟩ (.bool q0)).setCell ⟨g, j * 10 + 2, none⟩ (.int .i64 k)).setCell ⟨g, j * 10 + 3, none⟩ (.string nm)).setCell ⟨g, j * 10 + 4, none⟩ (.int .i64 i)).setCell ⟨g, j * 10 + 5, none⟩ (.int .i64 hh)).setCell ⟨g, j * 10 + 6, none⟩ (.slice sa sn sc)).setCell ⟨g, j * 10 + 7, none⟩ (.int .i64 q6)).setCell ⟨g, j * 10 + 8, none⟩ (.bool q7)).setCell ⟨g, j * 10 + 9, none⟩ (.bool p9)) base S (.slice (some ⟨g, 0, none⟩) n cap) (xs.set j x) ∧ w.grownBy ((((((((((w.setCell ⟨g, j * 10, none⟩ (.int .i64 p0)).setCell ⟨g, j * 10 + 1, none⟩ (.bool q0)).setCell ⟨g, j * 10 + 2, none⟩ (.int .i64 k)).setCell ⟨g, j * 10 + 3, none⟩ (.string nm)).setCell ⟨g, j * 10 + 4, none⟩ (.int .i64 i)).setCell ⟨g, j * 10 + 5, none⟩ (.int .i64 hh)).setCell ⟨g, j * 10 + 6, none⟩ (.slice sa sn sc)).setCell ⟨g, j * 10 + 7, none⟩ (.int .i64 q6)).setCell ⟨g, j * 10 + 8, none⟩ (.bool q7)).setCell ⟨g, j * 10 + 9, none⟩ (.bool p9)) (some g) := by
  have hput := h.put (List.getElem?_eq_getElem hj) x 0 [.int .i64 p0, .bool q0, .int .i64 k, .string nm, .int .i64 i, .int .i64 hh, .slice sa sn sc, .int .i64 q6, .bool q7, .bool p9] (fun cc hc => ⟨[], cc, [], by simp, rfl, by rw [(ChgE.len hc).1]; rfl, hT⟩)
  have hch : w.setCells g (j * ChgE.k + 0) [.int .i64 p0, .bool q0, .int .i64 k, .string nm, .int .i64 i, .int .i64 hh, .slice sa sn sc, .int .i64 q6, .bool q7, .bool p9] = ((((((((((w.setCell ⟨g, j * 10, none⟩ (.int .i64 p0)).setCell ⟨g, j * 10 + 1, none⟩ (.bool q0)).setCell ⟨g, j * 10 + 2, none⟩ (.int .i64 k)).setCell ⟨g, j * 10 + 3, none⟩ (.string nm)).setCell ⟨g, j * 10 + 4, none⟩ (.int .i64 i)).setCell ⟨g, j * 10 + 5, none⟩ (.int .i64 hh)).setCell ⟨g, j * 10 + 6, none⟩ (.slice sa sn sc)).setCell ⟨g, j * 10 + 7, none⟩ (.int .i64 q6)).setCell ⟨g, j * 10 + 8, none⟩ (.bool q7)).setCell ⟨g, j * 10 + 9, none⟩ (.bool p9)) := by
    rw [show ChgE.k = 10 from rfl]
    simp only [World.setCells, Nat.add_zero, Nat.add_assoc, Nat.reduceAdd]
  rw [hch] at hput
  exact hput
set_option maxRecDepth 100000 in
set_option maxHeartbeats 6400000 in
theorem withC_any (xs : List Chg) (x : Chg) (a : Option Addr) (n c : Nat) (q0 : Bool) (k : Int) (nm : ByteArray) (i hh : Int) (sa : Option Addr) (sn sc : Nat) (q6 : Int) (q7 : Bool) (p0 : Int) (p9 : Bool) (S : Nat → Prop) (w : World) (hl : n = xs.length) (hn : n < 1000000) (hs : SlG ChgE w S xs (.slice a n c)) (hx : ChgE.rep w S x [.int .i64 p0, .bool q0, .int .i64 k, .string nm, .int .i64 i, .int .i64 hh, .slice sa sn sc, .int .i64 q6, .bool q7, .bool p9]) :
    Calls Try.prog 22 #[.slice a n c, .agg #[.int .i64 p0, .bool q0, .int .i64 k, .string nm, .int .i64 i, .int .i64 hh, .slice sa sn sc, .int .i64 q6, .bool q7, .bool p9]] w fun e w' => ∃ g, e = .returned (.slice (some ⟨g, 0, none⟩) (n + 1) (n + 1)) ∧ w.heap.size ≤ g ∧ RowG ChgE w' w.heap.size (fun b => S b ∧ b < w.heap.size) (.slice (some ⟨g, 0, none⟩) (n + 1) (n + 1)) (xs ++ [x]) ∧ Below w.heap.size w w' := by
  obtain ⟨V, hV⟩ : ∃ V, V = w.alloc (.cells #[.int .i64 p0, .bool q0, .int .i64 k, .string nm, .int .i64 i, .int .i64 hh, .slice sa sn sc, .int .i64 q6, .bool q7, .bool p9] 55) := ⟨_, rfl⟩
  have hVb : Below w.heap.size w V := by rw [hV]; exact (Below.refl _ w).alloc (Nat.le_refl _) _
  have hB : BoxC 55 V w.heap.size [.int .i64 p0, .bool q0, .int .i64 k, .string nm, .int .i64 i, .int .i64 hh, .slice sa sn sc, .int .i64 q6, .bool q7, .bool p9] := by rw [hV]; exact BoxC.made _ w _
  have hVs : V.heap.size = w.heap.size + 1 := by rw [hV]; simp
  have HB := Lib.hid hB
  have HVs := Lib.hid hVs
  have HVb := Lib.hid hVb
  have HS : Hid (SlG ChgE V (fun b => S b ∧ b < w.heap.size) xs (.slice a n c)) := hs.bound.up hVb
  have HX : Hid (ChgE.rep V (fun b => S b ∧ b < w.heap.size) x [.int .i64 p0, .bool q0, .int .i64 k, .string nm, .int .i64 i, .int .i64 hh, .slice sa sn sc, .int .i64 q6, .bool q7, .bool p9]) := ChgE.kept (fun _ h => h) (fun b _ hl => hVb.block b hl) (ChgE.bound hx)
  have HL := Lib.hid hl
  clear hs hx hB hl hVs
  go_enter Try.func22, Try.ntmps22
  go_upto_region 1 with fail
  rw [← hV]
  clear hV
  go_upto_region 2 with (at_make; refine wpList_makeZ zr_chg rfl _ _ rfl (n + 1) _ rfl rfl (by go_num) (by omega) ?_; intro cur hcur)
  have hal : Below V.heap.size V (V.alloc (.cells cur ChgE.e)) := (Below.refl _ V).alloc (Nat.le_refl _) _
  have hS2 : SlG ChgE (V.alloc (.cells cur ChgE.e)) (fun b => S b ∧ b < w.heap.size) xs (.slice a n c) := HS.out.up hal
  have hN : (V.alloc (.cells cur ChgE.e)).heap[V.heap.size]? = some (.cells cur ChgE.e (0, 0)) := heap_alloc_new V _
  have HX2 : Hid (ChgE.rep (V.alloc (.cells cur ChgE.e)) (fun b => S b ∧ b < w.heap.size) x [.int .i64 p0, .bool q0, .int .i64 k, .string nm, .int .i64 i, .int .i64 hh, .slice sa sn sc, .int .i64 q6, .bool q7, .bool p9]) := ChgE.kept (fun _ h => h) (fun b _ hl => hal.block b hl) HX.out
  have HB2 := Lib.hid (HB.out.lift hal)
  have HL2 := Lib.hid (hVb.trans (hal.mono hVb.size))
  have hWs : (V.alloc (.cells cur ChgE.e)).heap.size = V.heap.size + 1 := by simp
  have HWs := Lib.hid hWs
  generalize (V.alloc (.cells cur ChgE.e)) = W at *
  have hgw : ∀ b, S b ∧ b < w.heap.size → b ≠ V.heap.size := fun b hb => by have := HVs.out; omega
  clear hal hWs
  go_upto_region 3 with (refine wpList_copyZ zr_chg rfl _ _ rfl xs n (n + 1) V.heap.size HL.out rfl cur hN hcur (by omega) (by omega) a c rfl _ hS2 hgw w.heap.size (by have := HVs.out; omega) ?_; intro u w2 hrow2 hg2)
  have HR2 : Hid (RowG ChgE w2 w.heap.size (fun b => S b ∧ b < w.heap.size) (.slice (some ⟨V.heap.size, 0, none⟩) (n + 1) (n + 1)) (xs ++ List.replicate (n + 1 - n) chZ)) := hrow2
  have HL3 : Hid (Below w.heap.size w w2) := Below.grown HL2.out hg2 HL2.out.size (fun q hq => by cases hq; have := HVs.out; omega)
  have HX3 : Hid (ChgE.rep w2 (fun b => (S b ∧ b < w.heap.size) ∧ b ≠ V.heap.size) x [.int .i64 p0, .bool q0, .int .i64 k, .string nm, .int .i64 i, .int .i64 hh, .slice sa sn sc, .int .i64 q6, .bool q7, .bool p9]) := ChgE.kept (fun b hb => ⟨hb, hgw b hb⟩) (fun b hb hl => hg2.block b hl (fun e => hgw b hb (Option.some.inj e))) HX2.out
  have HB3 := Lib.hid (HB2.out.grown hg2 (by intro e; have := Option.some.inj e; have := HVs.out; omega))
  have HG : Hid (w.heap.size ≤ V.heap.size) := hVb.size
  have HLen : Hid (n < (xs ++ List.replicate (n + 1 - n) chZ).length) := by show _ < _; rw [List.length_append, ← HL.out, List.length_replicate]; omega
  have HSet : Hid ((xs ++ List.replicate (n + 1 - n) chZ).set n x = xs ++ [x]) := by
    show _ = _
    rw [show n + 1 - n = 1 from by omega, HL.out, List.set_append_right _ _ (Nat.le_refl _), Nat.sub_self]; rfl
  clear hrow2 hg2 hS2 hN hcur hgw HX HX2 HB HB2 HS HL2 hVb HWs
  generalize V.heap.size = g at *
  obtain ⟨z0, z1, z2, z3, z4, z5, z6, z7, z8, z9, ⟨c0, c1, c2, c3, c4, c5, c6, c7, c8, c9⟩, hf⟩ := HR2.out.atsC HLen.out
  have f0 := hf (n * 10)
  have f1 := hf (n * 10 + 1)
  have f2 := hf (n * 10 + 2)
  have f3 := hf (n * 10 + 3)
  have f4 := hf (n * 10 + 4)
  have f5 := hf (n * 10 + 5)
  have f6 := hf (n * 10 + 6)
  have f7 := hf (n * 10 + 7)
  have f8 := hf (n * 10 + 8)
  have f9 := hf (n * 10 + 9)
  have b0 := HB3.out.cell 0 _ rfl
  have b1 := HB3.out.cell 1 _ rfl
  have b2 := HB3.out.cell 2 _ rfl
  have b3 := HB3.out.cell 3 _ rfl
  have b4 := HB3.out.cell 4 _ rfl
  have b5 := HB3.out.cell 5 _ rfl
  have b6 := HB3.out.cell 6 _ rfl
  have b7 := HB3.out.cell 7 _ rfl
  have b8 := HB3.out.cell 8 _ rfl
  have b9 := HB3.out.cell 9 _ rfl
  have HPut := Lib.hid (HR2.out.putC HLen.out HX3.out)
  clear hf
  go_wp2
  go_ret
  refine ⟨g, rfl, HG.out, ?_, Below.grown HL3.out HPut.out.2 HL3.out.size (fun q hq => by cases hq; exact HG.out)⟩
  rw [← HSet.out]
  exact HPut.out.1
end Go.Proofs.Ytejlhfjhpminjaa
