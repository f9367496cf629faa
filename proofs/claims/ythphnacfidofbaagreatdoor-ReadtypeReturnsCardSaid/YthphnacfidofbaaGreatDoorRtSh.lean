/- The canonical text of a written type: what the reference's functions return. -/
import Derived.Test.YthphnacfidofbaaGreatDoorRtMa
import Derived.Test.YthphnacfidofbaaGreatDoorTyGeMa
import Derived.RegionTactic
import Derived.Deep.CutBlock
namespace Go.Proofs.YthphnacfidofbaaGreatDoor
open Go.RowKit Go.Maps Mth

theorem src_arr {T : Ty} (h : src T = true) (ha : isArr T = true) : ∃ a c, T.ts = [a, c] := by
  cases T with
  | mk k n i hm ts =>
    simp only [isArr, Ty.k, Ty.n, Bool.and_eq_true] at ha
    obtain ⟨h4, hn⟩ := ha
    rw [beq_iff_eq] at h4
    subst h4
    simp only [src, Bool.and_eq_true] at h
    obtain ⟨⟨-, hk⟩, -⟩ := h
    have e5 : ((4 : Int) == 5) = false := rfl
    rw [e5] at hk
    simp only [Bool.false_eq_true, if_false, Bool.and_eq_true] at hk
    rw [hn] at hk
    simp only [if_true, beq_iff_eq] at hk
    match ts, hk.2 with
    | [a, c], _ => exact ⟨a, c, rfl⟩
/-- What IsArrow returns. -/
def IsArrEnd (w : World) (S : Nat → Prop) (T : Ty) (e : Ending) (w' : World) : Prop :=
  ∃ k0 n0 i0 h0 a0 m0 c0 k1 n1 i1 h1 a1 m1 c1, e = .returned (.tuple #[.agg #[.int .i64 k0, .string n0, .int .i64 i0, .int .i64 h0, .slice a0 m0 c0], .agg #[.int .i64 k1, .string n1, .int .i64 i1, .int .i64 h1, .slice a1 m1 c1], .bool (isArr T)]) ∧ Below w.heap.size w w' ∧
    (isArr T = true → ∀ a c, T.ts = [a, c] → Rep w' S a (.agg #[.int .i64 k0, .string n0, .int .i64 i0, .int .i64 h0, .slice a0 m0 c0]) ∧ Rep w' S c (.agg #[.int .i64 k1, .string n1, .int .i64 i1, .int .i64 h1, .slice a1 m1 c1]))
/-- The worlds of IsArrow: the parameter, the two results. -/
structure IA (w V : World) (c0 c1 c2 c3 c4 : Value) : Prop where
  par : Box V w.heap.size c0 c1 c2 c3 c4
  r0 : Zero V (w.heap.size + 1)
  r1 : Zero V (w.heap.size + 1 + 1)
  low : Below w.heap.size w V
theorem ia_new (w : World) (c0 c1 c2 c3 c4 : Value) : IA w (((w.alloc (.cells #[c0, c1, c2, c3, c4] 30)).alloc (.cells #[.int .i64 0, .string ⟨#[]⟩, .int .i64 0, .int .i64 0, .slice none 0 0] 30)).alloc (.cells #[.int .i64 0, .string ⟨#[]⟩, .int .i64 0, .int .i64 0, .slice none 0 0] 30)) c0 c1 c2 c3 c4 := by
  refine ⟨?_, ?_, ?_, (((Below.refl _ w).alloc (Nat.le_refl _) _).alloc (by simp) _).alloc (by simp; omega) _⟩
  · unfold Box; rw [heap_at, if_neg (by simp; omega), heap_at, if_neg (by simp), heap_at, if_pos rfl]
  · show Box _ _ _ _ _ _ _
    unfold Box; rw [heap_at, if_neg (by simp), heap_at, if_pos (by simp)]
  · show Box _ _ _ _ _ _ _
    unfold Box; rw [heap_at, if_pos (by simp)]
theorem IA.fin1 {w V : World} {c0 c1 c2 c3 c4 : Value} (h : IA w V c0 c1 c2 c3 c4) (v0 v1 v2 v3 v4 : Value) :
    Box (((((V.setCell ⟨w.heap.size + 1, 0, none⟩ v0).setCell ⟨w.heap.size + 1, 1, none⟩ v1).setCell ⟨w.heap.size + 1, 2, none⟩ v2).setCell ⟨w.heap.size + 1, 3, none⟩ v3).setCell ⟨w.heap.size + 1, 4, none⟩ v4) (w.heap.size + 1) v0 v1 v2 v3 v4 ∧ Zero (((((V.setCell ⟨w.heap.size + 1, 0, none⟩ v0).setCell ⟨w.heap.size + 1, 1, none⟩ v1).setCell ⟨w.heap.size + 1, 2, none⟩ v2).setCell ⟨w.heap.size + 1, 3, none⟩ v3).setCell ⟨w.heap.size + 1, 4, none⟩ v4) (w.heap.size + 1 + 1) ∧ Below w.heap.size w (((((V.setCell ⟨w.heap.size + 1, 0, none⟩ v0).setCell ⟨w.heap.size + 1, 1, none⟩ v1).setCell ⟨w.heap.size + 1, 2, none⟩ v2).setCell ⟨w.heap.size + 1, 3, none⟩ v3).setCell ⟨w.heap.size + 1, 4, none⟩ v4) := by
  obtain ⟨hB, hG, -⟩ := set5 h.r0 v0 v1 v2 v3 v4
  have h1 := h.r1.kept (hG.block _ h.r1.lt (by intro e; have := Option.some.inj e; omega))
  have hL := Below.grown h.low hG h.low.size (fun k hk => by have := Option.some.inj hk; omega)
  generalize (((((V.setCell ⟨w.heap.size + 1, 0, none⟩ v0).setCell ⟨w.heap.size + 1, 1, none⟩ v1).setCell ⟨w.heap.size + 1, 2, none⟩ v2).setCell ⟨w.heap.size + 1, 3, none⟩ v3).setCell ⟨w.heap.size + 1, 4, none⟩ v4) = V1 at *
  exact ⟨hB, h1, hL⟩
theorem fin2 {w V : World} {v0 v1 v2 v3 v4 : Value} (hB : Box V (w.heap.size + 1) v0 v1 v2 v3 v4) (h1 : Zero V (w.heap.size + 1 + 1)) (hL : Below w.heap.size w V) (u0 u1 u2 u3 u4 : Value) :
    Box (((((V.setCell ⟨w.heap.size + 1 + 1, 0, none⟩ u0).setCell ⟨w.heap.size + 1 + 1, 1, none⟩ u1).setCell ⟨w.heap.size + 1 + 1, 2, none⟩ u2).setCell ⟨w.heap.size + 1 + 1, 3, none⟩ u3).setCell ⟨w.heap.size + 1 + 1, 4, none⟩ u4).drew (w.heap.size + 1) v0 v1 v2 v3 v4 ∧ Box (((((V.setCell ⟨w.heap.size + 1 + 1, 0, none⟩ u0).setCell ⟨w.heap.size + 1 + 1, 1, none⟩ u1).setCell ⟨w.heap.size + 1 + 1, 2, none⟩ u2).setCell ⟨w.heap.size + 1 + 1, 3, none⟩ u3).setCell ⟨w.heap.size + 1 + 1, 4, none⟩ u4).drew (w.heap.size + 1 + 1) u0 u1 u2 u3 u4 ∧ Below w.heap.size w (((((V.setCell ⟨w.heap.size + 1 + 1, 0, none⟩ u0).setCell ⟨w.heap.size + 1 + 1, 1, none⟩ u1).setCell ⟨w.heap.size + 1 + 1, 2, none⟩ u2).setCell ⟨w.heap.size + 1 + 1, 3, none⟩ u3).setCell ⟨w.heap.size + 1 + 1, 4, none⟩ u4).drew := by
  obtain ⟨hB2, hG2, -⟩ := set5 h1 u0 u1 u2 u3 u4
  have h3 := hB.kept (hG2.block _ hB.lt (by intro e; have := Option.some.inj e; omega))
  have h4 := Below.grown hL hG2 hL.size (fun k hk => by have := Option.some.inj hk; omega)
  generalize (((((V.setCell ⟨w.heap.size + 1 + 1, 0, none⟩ u0).setCell ⟨w.heap.size + 1 + 1, 1, none⟩ u1).setCell ⟨w.heap.size + 1 + 1, 2, none⟩ u2).setCell ⟨w.heap.size + 1 + 1, 3, none⟩ u3).setCell ⟨w.heap.size + 1 + 1, 4, none⟩ u4) = V1 at *
  exact ⟨h3, hB2, h4.drew⟩
theorem five0 {w : World} {ad : Addr} {v0 v1 v2 v3 v4 : Value} (h5 : Five w ad 0 (.agg #[v0, v1, v2, v3, v4])) :
    w.cell? ad = some v0 ∧ w.cell? ⟨ad.block, ad.off + 1, none⟩ = some v1 ∧ w.cell? ⟨ad.block, ad.off + 2, none⟩ = some v2 ∧ w.cell? ⟨ad.block, ad.off + 3, none⟩ = some v3 ∧ w.cell? ⟨ad.block, ad.off + 4, none⟩ = some v4 := by
  obtain ⟨c0, c1, c2, c3, c4, hv, h⟩ := h5
  simp at hv
  obtain ⟨rfl, rfl, rfl, rfl, rfl⟩ := hv
  have e : ad.add (0 * 5) = ad := by unfold Addr.add; simp
  rw [e] at h
  exact h
theorem five1 {w : World} {ad : Addr} {v0 v1 v2 v3 v4 : Value} (h5 : Five w ad 1 (.agg #[v0, v1, v2, v3, v4])) :
    w.cell? ⟨ad.block, ad.off + 5, none⟩ = some v0 ∧ w.cell? ⟨ad.block, ad.off + 5 + 1, none⟩ = some v1 ∧ w.cell? ⟨ad.block, ad.off + 5 + 2, none⟩ = some v2 ∧ w.cell? ⟨ad.block, ad.off + 5 + 3, none⟩ = some v3 ∧ w.cell? ⟨ad.block, ad.off + 5 + 4, none⟩ = some v4 := by
  obtain ⟨c0, c1, c2, c3, c4, hv, h⟩ := h5
  simp at hv
  obtain ⟨rfl, rfl, rfl, rfl, rfl⟩ := hv
  have e : ad.add (1 * 5) = ⟨ad.block, ad.off + 5, none⟩ := by unfold Addr.add; simp
  rw [e] at h
  exact h
set_option maxRecDepth 100000 in
set_option maxHeartbeats 3200000 in
theorem isArrow_any (T : Ty) (hT : isArr T = true → ∃ a c, T.ts = [a, c]) (v : Value) (S : Nat → Prop) (w : World) (h : Rep w S T v) :
    Calls Tryz.prog 41 #[v] w (IsArrEnd w S T) := by
  have HR := Lib.hid h
  obtain ⟨k, n, i, hm, s, eT, rfl, hn, hs⟩ := h.open
  obtain ⟨sa, sc, rfl, hcap, hj⟩ := hs
  have hk : T.k = k := by rw [eT]; rfl
  have hn' : T.n = n := by rw [eT]; rfl
  have HIA := Lib.hid (ia_new w (.int .i64 k) (.string n) (.int .i64 i) (.int .i64 hm) (.slice sa T.ts.length sc))
  have HA : Hid (isArr T = (k == 4 && n.toList == [45, 62])) := by show _ = _; unfold isArr; rw [hk, hn']
  have HJ := Lib.hid hj
  clear h eT hn hk hn' hj
  have HF : isArr T = false → ∀ V : World, Below w.heap.size w V → IsArrEnd w S T (.returned (.tuple #[.agg #[.int .i64 0, .string ⟨#[]⟩, .int .i64 0, .int .i64 0, .slice none 0 0], .agg #[.int .i64 0, .string ⟨#[]⟩, .int .i64 0, .int .i64 0, .slice none 0 0], .bool false])) V := fun h V hV =>
    ⟨_, _, _, _, _, _, _, _, _, _, _, _, _, _, by rw [h], hV, fun h' => by rw [h] at h'; cases h'⟩
  cases h4 : (k == 4) with
  | false =>
    have HE := Lib.hid (HF (by rw [HA.out, h4]; rfl) _ HIA.out.low)
    clear HJ hT HA HF HIA HR
    generalize T.ts.length = tn at *
    go_enter Tryz.func41, Tryz.ntmps41
    go_wp2
    refine bodyPost_ret (by simp [results, Tryz.results41, go_sem]; try rfl) rfl ?_
    exact HE.out
  | true =>
    cases hA : (n.toList == [45, 62]) with
    | false =>
      have HE := Lib.hid (HF (by rw [HA.out, h4, hA]; rfl) _ HIA.out.low)
      clear HJ hT HA HF HIA HR
      generalize T.ts.length = tn at *
      go_enter Tryz.func41, Tryz.ntmps41
      go_wp2
      refine bodyPost_ret (by simp [results, Tryz.results41, go_sem]; try rfl) rfl ?_
      exact HE.out
    | true =>
      have HI : Hid (isArr T = true) := by show _ = _; rw [HA.out, h4, hA]; rfl
      obtain ⟨a, c, eTs⟩ := hT HI.out
      have HTs := Lib.hid eTs
      obtain ⟨ad, x, rfl, hS0, h50, hx0⟩ := HJ.out 0 a (by rw [eTs]; rfl)
      obtain ⟨ad', y, e', hS1, h51, hx1⟩ := HJ.out 1 c (by rw [eTs]; rfl)
      cases e'
      have hlen : T.ts.length = 2 := by rw [eTs]; rfl
      rw [hlen] at HIA HR hcap ⊢
      clear eTs HJ hT HA HF hlen
      obtain ⟨k0, n0, i0, m0, s0, -, rfl, -, hs0⟩ := hx0.open
      obtain ⟨a0, p0, rfl, -⟩ := hs0
      obtain ⟨k1, n1, i1, m1, s1, -, rfl, -, hs1⟩ := hx1.open
      obtain ⟨a1, p1, rfl, -⟩ := hs1
      have HX0 := Lib.hid hx0
      have HX1 := Lib.hid hx1
      generalize a.ts.length = l0 at *
      generalize c.ts.length = l1 at *
      have HG0 := Lib.hid h50
      have HG1 := Lib.hid h51
      have had : ad.block < w.heap.size := h50.lt
      clear hx0 hx1 h50 h51 hS0 hS1
      go_enter Tryz.func41, Tryz.ntmps41
      go_upto_region 1 with fail
      generalize (((w.alloc (.cells #[.int .i64 k, .string n, .int .i64 i, .int .i64 hm, .slice (some ad) 2 sc] 30)).alloc (.cells #[.int .i64 0, .string ⟨#[]⟩, .int .i64 0, .int .i64 0, .slice none 0 0] 30)).alloc (.cells #[.int .i64 0, .string ⟨#[]⟩, .int .i64 0, .int .i64 0, .slice none 0 0] 30)) = V at *
      have g0 := HG0.out.kept (HIA.out.low.block _ had)
      have g1 := HG1.out.kept (HIA.out.low.block _ had)
      obtain ⟨q0, q1, q2, q3, q4⟩ := five0 g0
      obtain ⟨u0, u1, u2, u3, u4⟩ := five1 g1
      obtain ⟨b0, b1, b2, b3, b4⟩ := HIA.out.par.cells
      obtain ⟨t0, t1, t2, t3, t4⟩ := HIA.out.r0.cells
      obtain ⟨f0, f1, f2, f3, f4⟩ := HIA.out.r0.frozen
      obtain ⟨z0, z1, z2, z3, z4⟩ := HIA.out.r1.cells
      obtain ⟨y0, y1, y2, y3, y4⟩ := HIA.out.r1.frozen
      clear g0 g1
      go_wp2
      go_region
      all_goals
        obtain ⟨hA0, hA1, hA2⟩ := HIA.out.fin1 (.int .i64 k0) (.string n0) (.int .i64 i0) (.int .i64 m0) (.slice a0 l0 p0)
        clear q0 q1 q2 q3 q4 u0 u1 u2 u3 u4 b0 b1 b2 b3 b4 t0 t1 t2 t3 t4 f0 f1 f2 f3 f4 z0 z1 z2 z3 z4 y0 y1 y2 y3 y4
        generalize (((((V.setCell ⟨w.heap.size + 1, 0, none⟩ (.int .i64 k0)).setCell ⟨w.heap.size + 1, 1, none⟩ (.string n0)).setCell ⟨w.heap.size + 1, 2, none⟩ (.int .i64 i0)).setCell ⟨w.heap.size + 1, 3, none⟩ (.int .i64 m0)).setCell ⟨w.heap.size + 1, 4, none⟩ (.slice a0 l0 p0)) = V1 at *
        obtain ⟨hB0, hB1, hL⟩ := fin2 hA0 hA1 hA2 (.int .i64 k1) (.string n1) (.int .i64 i1) (.int .i64 m1) (.slice a1 l1 p1)
        clear hA0 hA1 hA2
        generalize (((((V1.setCell ⟨w.heap.size + 1 + 1, 0, none⟩ (.int .i64 k1)).setCell ⟨w.heap.size + 1 + 1, 1, none⟩ (.string n1)).setCell ⟨w.heap.size + 1 + 1, 2, none⟩ (.int .i64 i1)).setCell ⟨w.heap.size + 1 + 1, 3, none⟩ (.int .i64 m1)).setCell ⟨w.heap.size + 1 + 1, 4, none⟩ (.slice a1 l1 p1)).drew = X at *
        obtain ⟨c0, c1, c2, c3, c4⟩ := hB0.cells
        obtain ⟨d0, d1, d2, d3, d4⟩ := hB1.cells
        go_wp2
        refine bodyPost_ret (by simp [results, Tryz.results41, go_sem, c0, c1, c2, c3, c4, d0, d1, d2, d3, d4]; try rfl) rfl ?_
        refine ⟨_, _, _, _, _, _, _, _, _, _, _, _, _, _, by rw [HI.out], hL, fun _ a' c' e' => ?_⟩
        rw [HTs.out] at e'
        cases e'
        exact ⟨HX0.out.lift hL, HX1.out.lift hL⟩
end Go.Proofs.YthphnacfidofbaaGreatDoor
