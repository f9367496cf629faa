import Derived.Test.YtafpngmfhajedaaTyGen
import Derived.RegionTactic
import Derived.Deep.CutBlock
import Derived.Test.YtafpngmfhajedaaQG
import Derived.Test.YtafpngmfhajedaaQT
import Derived.Deep.RegionHeld3
/- The reference's IsArrow. -/
namespace Go.Proofs.Ytafpngmfhajedaa
open Go.RowKit Go.Maps Mth

def isArr (T : Ty) : Bool := T.k == 4 && T.n.toList == [45, 62]
/-- What IsArrow returns. -/
def IsArrEnd (w : World) (S : Nat → Prop) (T : Ty) (e : Ending) (w' : World) : Prop :=
  ∃ k0 n0 i0 h0 a0 m0 c0 k1 n1 i1 h1 a1 m1 c1, e = .returned (.tuple #[.agg #[.int .i64 k0, .string n0, .int .i64 i0, .int .i64 h0, .slice a0 m0 c0], .agg #[.int .i64 k1, .string n1, .int .i64 i1, .int .i64 h1, .slice a1 m1 c1], .bool (isArr T)]) ∧ Below w.heap.size w w' ∧
    (isArr T = true → ∀ a c, T.ts = [a, c] → Rep w' S a (.agg #[.int .i64 k0, .string n0, .int .i64 i0, .int .i64 h0, .slice a0 m0 c0]) ∧ Rep w' S c (.agg #[.int .i64 k1, .string n1, .int .i64 i1, .int .i64 h1, .slice a1 m1 c1]))
/-- The worlds of IsArrow: the parameter, the two results. -/
structure IA (w V : World) (c0 c1 c2 c3 c4 : Value) : Prop where
  par : Box V w.heap.size c0 c1 c2 c3 c4
  r0 : Zero V (w.heap.size + 1)
  r1 : Zero V (w.heap.size + 1 + 1)
  low : Below w.heap.size w V
theorem ia_new (w : World) (c0 c1 c2 c3 c4 : Value) : IA w (((w.alloc (.cells #[c0, c1, c2, c3, c4] 39)).alloc (.cells #[.int .i64 0, .string ⟨#[]⟩, .int .i64 0, .int .i64 0, .slice none 0 0] 39)).alloc (.cells #[.int .i64 0, .string ⟨#[]⟩, .int .i64 0, .int .i64 0, .slice none 0 0] 39)) c0 c1 c2 c3 c4 := by
  refine ⟨?_, ?_, ?_, (((Below.refl _ w).alloc (Nat.le_refl _) _).alloc (by simp) _).alloc (by simp; omega) _⟩
  · unfold Box; rw [heap_at, if_neg (by simp; omega), heap_at, if_neg (by simp), heap_at, if_pos rfl]
  · show Box _ _ _ _ _ _ _
    unfold Box; rw [heap_at, if_neg (by simp), heap_at, if_pos (by simp)]
  · show Box _ _ _ _ _ _ _
    unfold Box; rw [heap_at, if_pos (by simp)]
theorem IA.fin1 {w V : World} {c0 c1 c2 c3 c4 : Value} (h : IA w V c0 c1 c2 c3 c4) (v0 v1 v2 v3 v4 : Value) :
    Box (((((V.setCell ⟨w.heap.size + 1, 0, none⟩ v0).setCell ⟨w.heap.size + 1, 1, none⟩ v1).setCell ⟨w.heap.size + 1, 2, none⟩ v2).setCell ⟨w.heap.size + 1, 3, none⟩ v3).setCell ⟨w.heap.size + 1, 4, none⟩ v4) (w.heap.size + 1) v0 v1 v2 v3 v4 ∧ Zero (((((V.setCell ⟨w.heap.size + 1, 0, none⟩ v0).setCell ⟨w.heap.size + 1, 1, none⟩ v1).setCell ⟨w.heap.size + 1, 2, none⟩ v2).setCell ⟨w.heap.size + 1, 3, none⟩ v3).setCell ⟨w.heap.size + 1, 4, none⟩ v4) (w.heap.size + 1 + 1) ∧ Below w.heap.size w (((((V.setCell ⟨w.heap.size + 1, 0, none⟩ v0).setCell ⟨w.heap.size + 1, 1, none⟩ v1).setCell ⟨w.heap.size + 1, 2, none⟩ v2).setCell ⟨w.heap.size + 1, 3, none⟩ v3).setCell ⟨w.heap.size + 1, 4, none⟩ v4) := by
  obtain ⟨hB, hG, -⟩ := set5 h.r0 v0 v1 v2 v3 v4
  have h1 := h.r1.kept (hG.block _ h.r1.lt (by intro e; have := Option.some.inj e; omega))
  have hL := Below.grown h.low hG h.low.size (fun k hk => by have := Option.some.inj hk; omega)
  generalize (((((V.setCell ⟨w.heap.size + 1, 0, none⟩ v0).setCell ⟨w.heap.size + 1, 1, none⟩ v1).setCell ⟨w.heap.size + 1, 2, none⟩ v2).setCell ⟨w.heap.size + 1, 3, none⟩ v3).setCell ⟨w.heap.size + 1, 4, none⟩ v4) = V1 at *
  exact ⟨hB, h1, hL⟩
theorem fin2 {w V : World} {v0 v1 v2 v3 v4 : Value} (hB : Box V (w.heap.size + 1) v0 v1 v2 v3 v4) (h1 : Zero V (w.heap.size + 1 + 1)) (hL : Below w.heap.size w V) (u0 u1 u2 u3 u4 : Value) :
    Box (((((V.setCell ⟨w.heap.size + 1 + 1, 0, none⟩ u0).setCell ⟨w.heap.size + 1 + 1, 1, none⟩ u1).setCell ⟨w.heap.size + 1 + 1, 2, none⟩ u2).setCell ⟨w.heap.size + 1 + 1, 3, none⟩ u3).setCell ⟨w.heap.size + 1 + 1, 4, none⟩ u4).drew (w.heap.size + 1) v0 v1 v2 v3 v4 ∧ Box (((((V.setCell ⟨w.heap.size + 1 + 1, 0, none⟩ u0).setCell ⟨w.heap.size + 1 + 1, 1, none⟩ u1).setCell ⟨w.heap.size + 1 + 1, 2, none⟩ u2).setCell ⟨w.heap.size + 1 + 1, 3, none⟩ u3).setCell ⟨w.heap.size + 1 + 1, 4, none⟩ u4).drew (w.heap.size + 1 + 1) u0 u1 u2 u3 u4 ∧ Below w.heap.size w (((((V.setCell ⟨w.heap.size + 1 + 1, 0, none⟩ u0).setCell ⟨w.heap.size + 1 + 1, 1, none⟩ u1).setCell ⟨w.heap.size + 1 + 1, 2, none⟩ u2).setCell ⟨w.heap.size + 1 + 1, 3, none⟩ u3).setCell ⟨w.heap.size + 1 + 1, 4, none⟩ u4).drew := by
  obtain ⟨hB2, hG2, -⟩ := set5 h1 u0 u1 u2 u3 u4
  have h3 := hB.kept (hG2.block _ hB.lt (by intro e; have := Option.some.inj e; omega))
  have h4 := Below.grown hL hG2 hL.size (fun k hk => by have := Option.some.inj hk; omega)
  generalize (((((V.setCell ⟨w.heap.size + 1 + 1, 0, none⟩ u0).setCell ⟨w.heap.size + 1 + 1, 1, none⟩ u1).setCell ⟨w.heap.size + 1 + 1, 2, none⟩ u2).setCell ⟨w.heap.size + 1 + 1, 3, none⟩ u3).setCell ⟨w.heap.size + 1 + 1, 4, none⟩ u4) = V1 at *
  exact ⟨h3, hB2, h4.drew⟩
theorem five0 {w : World} {ad : Addr} {v0 v1 v2 v3 v4 : Value} (h5 : Five w ad 0 (.agg #[v0, v1, v2, v3, v4])) :
    w.cell? ad = some v0 ∧ w.cell? ⟨ad.block, ad.off + 1, none⟩ = some v1 ∧ w.cell? ⟨ad.block, ad.off + 2, none⟩ = some v2 ∧ w.cell? ⟨ad.block, ad.off + 3, none⟩ = some v3 ∧ w.cell? ⟨ad.block, ad.off + 4, none⟩ = some v4 := by
  obtain ⟨c0, c1, c2, c3, c4, hv, h⟩ := h5
  simp at hv
  obtain ⟨rfl, rfl, rfl, rfl, rfl⟩ := hv
  have e : ad.add (0 * 5) = ad := by unfold Addr.add; simp
  rw [e] at h
  exact h
theorem five1 {w : World} {ad : Addr} {v0 v1 v2 v3 v4 : Value} (h5 : Five w ad 1 (.agg #[v0, v1, v2, v3, v4])) :
    w.cell? ⟨ad.block, ad.off + 5, none⟩ = some v0 ∧ w.cell? ⟨ad.block, ad.off + 5 + 1, none⟩ = some v1 ∧ w.cell? ⟨ad.block, ad.off + 5 + 2, none⟩ = some v2 ∧ w.cell? ⟨ad.block, ad.off + 5 + 3, none⟩ = some v3 ∧ w.cell? ⟨ad.block, ad.off + 5 + 4, none⟩ = some v4 := by
  obtain ⟨c0, c1, c2, c3, c4, hv, h⟩ := h5
  simp at hv
  obtain ⟨rfl, rfl, rfl, rfl, rfl⟩ := hv
  have e : ad.add (1 * 5) = ⟨ad.block, ad.off + 5, none⟩ := by unfold Addr.add; simp
  rw [e] at h
  exact h
set_option maxRecDepth 100000 in
set_option maxHeartbeats 3200000 in
theorem isArrow_any (T : Ty) (hT : isArr T = true → ∃ a c, T.ts = [a, c]) (v : Value) (S : Nat → Prop) (w : World) (h : Rep w S T v) :
    Calls Try.prog 14 #[v] w (IsArrEnd w S T) := by
  have HR := Lib.hid h
  obtain ⟨k, n, i, hm, s, eT, rfl, hn, hs⟩ := h.open
  obtain ⟨sa, sc, rfl, hcap, hj⟩ := hs
  have hk : T.k = k := by rw [eT]; rfl
  have hn' : T.n = n := by rw [eT]; rfl
  have HIA := Lib.hid (ia_new w (.int .i64 k) (.string n) (.int .i64 i) (.int .i64 hm) (.slice sa T.ts.length sc))
  have HA : Hid (isArr T = (k == 4 && n.toList == [45, 62])) := by show _ = _; unfold isArr; rw [hk, hn']
  have HJ := Lib.hid hj
  clear h eT hn hk hn' hj
  have HF : isArr T = false → ∀ V : World, Below w.heap.size w V → IsArrEnd w S T (.returned (.tuple #[.agg #[.int .i64 0, .string ⟨#[]⟩, .int .i64 0, .int .i64 0, .slice none 0 0], .agg #[.int .i64 0, .string ⟨#[]⟩, .int .i64 0, .int .i64 0, .slice none 0 0], .bool false])) V := fun h V hV =>
    ⟨_, _, _, _, _, _, _, _, _, _, _, _, _, _, by rw [h], hV, fun h' => by rw [h] at h'; cases h'⟩
  cases h4 : (k == 4) with
  | false =>
    have HE := Lib.hid (HF (by rw [HA.out, h4]; rfl) _ HIA.out.low)
    clear HJ hT HA HF HIA HR
    generalize T.ts.length = tn at *
    go_enter Try.func14, Try.ntmps14
    go_wp2
    refine bodyPost_ret (by simp [results, Try.results14, go_sem]; try rfl) rfl ?_
    exact HE.out
  | true =>
    cases hA : (n.toList == [45, 62]) with
    | false =>
      have HE := Lib.hid (HF (by rw [HA.out, h4, hA]; rfl) _ HIA.out.low)
      clear HJ hT HA HF HIA HR
      generalize T.ts.length = tn at *
      go_enter Try.func14, Try.ntmps14
      go_wp2
      refine bodyPost_ret (by simp [results, Try.results14, go_sem]; try rfl) rfl ?_
      exact HE.out
    | true =>
      have HI : Hid (isArr T = true) := by show _ = _; rw [HA.out, h4, hA]; rfl
      obtain ⟨a, c, eTs⟩ := hT HI.out
      have HTs := Lib.hid eTs
      obtain ⟨ad, x, rfl, hS0, h50, hx0⟩ := HJ.out 0 a (by rw [eTs]; rfl)
      obtain ⟨ad', y, e', hS1, h51, hx1⟩ := HJ.out 1 c (by rw [eTs]; rfl)
      cases e'
      have hlen : T.ts.length = 2 := by rw [eTs]; rfl
      rw [hlen] at HIA HR hcap ⊢
      clear eTs HJ hT HA HF hlen
      obtain ⟨k0, n0, i0, m0, s0, -, rfl, -, hs0⟩ := hx0.open
      obtain ⟨a0, p0, rfl, -⟩ := hs0
      obtain ⟨k1, n1, i1, m1, s1, -, rfl, -, hs1⟩ := hx1.open
      obtain ⟨a1, p1, rfl, -⟩ := hs1
      have HX0 := Lib.hid hx0
      have HX1 := Lib.hid hx1
      generalize a.ts.length = l0 at *
      generalize c.ts.length = l1 at *
      have HG0 := Lib.hid h50
      have HG1 := Lib.hid h51
      have had : ad.block < w.heap.size := h50.lt
      clear hx0 hx1 h50 h51 hS0 hS1
      go_enter Try.func14, Try.ntmps14
      go_upto_region 1 with fail
      generalize (((w.alloc (.cells #[.int .i64 k, .string n, .int .i64 i, .int .i64 hm, .slice (some ad) 2 sc] 39)).alloc (.cells #[.int .i64 0, .string ⟨#[]⟩, .int .i64 0, .int .i64 0, .slice none 0 0] 39)).alloc (.cells #[.int .i64 0, .string ⟨#[]⟩, .int .i64 0, .int .i64 0, .slice none 0 0] 39)) = V at *
      have g0 := HG0.out.kept (HIA.out.low.block _ had)
      have g1 := HG1.out.kept (HIA.out.low.block _ had)
      obtain ⟨q0, q1, q2, q3, q4⟩ := five0 g0
      obtain ⟨u0, u1, u2, u3, u4⟩ := five1 g1
      obtain ⟨b0, b1, b2, b3, b4⟩ := HIA.out.par.cells
      obtain ⟨t0, t1, t2, t3, t4⟩ := HIA.out.r0.cells
      obtain ⟨f0, f1, f2, f3, f4⟩ := HIA.out.r0.frozen
      obtain ⟨z0, z1, z2, z3, z4⟩ := HIA.out.r1.cells
      obtain ⟨y0, y1, y2, y3, y4⟩ := HIA.out.r1.frozen
      clear g0 g1
      go_wp2
      go_region
      all_goals
        obtain ⟨hA0, hA1, hA2⟩ := HIA.out.fin1 (.int .i64 k0) (.string n0) (.int .i64 i0) (.int .i64 m0) (.slice a0 l0 p0)
        clear q0 q1 q2 q3 q4 u0 u1 u2 u3 u4 b0 b1 b2 b3 b4 t0 t1 t2 t3 t4 f0 f1 f2 f3 f4 z0 z1 z2 z3 z4 y0 y1 y2 y3 y4
        generalize (((((V.setCell ⟨w.heap.size + 1, 0, none⟩ (.int .i64 k0)).setCell ⟨w.heap.size + 1, 1, none⟩ (.string n0)).setCell ⟨w.heap.size + 1, 2, none⟩ (.int .i64 i0)).setCell ⟨w.heap.size + 1, 3, none⟩ (.int .i64 m0)).setCell ⟨w.heap.size + 1, 4, none⟩ (.slice a0 l0 p0)) = V1 at *
        obtain ⟨hB0, hB1, hL⟩ := fin2 hA0 hA1 hA2 (.int .i64 k1) (.string n1) (.int .i64 i1) (.int .i64 m1) (.slice a1 l1 p1)
        clear hA0 hA1 hA2
        generalize (((((V1.setCell ⟨w.heap.size + 1 + 1, 0, none⟩ (.int .i64 k1)).setCell ⟨w.heap.size + 1 + 1, 1, none⟩ (.string n1)).setCell ⟨w.heap.size + 1 + 1, 2, none⟩ (.int .i64 i1)).setCell ⟨w.heap.size + 1 + 1, 3, none⟩ (.int .i64 m1)).setCell ⟨w.heap.size + 1 + 1, 4, none⟩ (.slice a1 l1 p1)).drew = X at *
        obtain ⟨c0, c1, c2, c3, c4⟩ := hB0.cells
        obtain ⟨d0, d1, d2, d3, d4⟩ := hB1.cells
        go_wp2
        refine bodyPost_ret (by simp [results, Try.results14, go_sem, c0, c1, c2, c3, c4, d0, d1, d2, d3, d4]; try rfl) rfl ?_
        refine ⟨_, _, _, _, _, _, _, _, _, _, _, _, _, _, by rw [HI.out], hL, fun _ a' c' e' => ?_⟩
        rw [HTs.out] at e'
        cases e'
        exact ⟨HX0.out.lift hL, HX1.out.lift hL⟩
end Go.Proofs.Ytafpngmfhajedaa

/- The law DeclareSchemes returns true at every input, if the law's made does as it is to do. -/
namespace Go.Proofs.Ytafpngmfhajedaa
open Go.RowKit Go.Sort Go.Shelf Go.Maps Mth

theorem rep_res {w : World} {S : Nat → Prop} {d : Dat} {k : Int} {n : ByteArray} {i h : Int} {a : Option Addr} {m c : Nat} (H : Rep w S (resT d) (.agg #[.int .i64 k, .string n, .int .i64 i, .int .i64 h, .slice a m c])) : n = d.name ∧ m = d.params.length := by
  obtain ⟨k', n', i', h', s, eT, ev, hn, hs⟩ := H.open
  obtain ⟨a', c', rfl, -⟩ := hs
  unfold resT con at eT
  simp only [Ty.mk.injEq] at eT
  simp at ev
  refine ⟨by rw [ev.2.1, eT.2.1], ?_⟩
  rw [ev.2.2.2.2.2.1]
  show (bndTs d.params.length).length = _
  rw [bndTs_len]
/-- The scheme's box and the box of the type that is taken apart. -/
structure LpSt (w : World) (B E : Nat) (N : Int) (k : Int) (n : ByteArray) (i h : Int) (a : Option Addr) (m c : Nat) (T0 T : Ty) (k' : Int) (n' : ByteArray) (i' h' : Int) (a' : Option Addr) (m' c' : Nat) (wq : World) : Prop where
  bx : BoxC 41 wq B [.int .i64 N, .int .i64 k, .string n, .int .i64 i, .int .i64 h, .slice a m c]
  r0 : Rep wq (fun b => b < E) T0 (.agg #[.int .i64 k, .string n, .int .i64 i, .int .i64 h, .slice a m c])
  tb : Box wq E (.int .i64 k') (.string n') (.int .i64 i') (.int .i64 h') (.slice a' m' c')
  r1 : Rep wq (fun b => b < E) T (.agg #[.int .i64 k', .string n', .int .i64 i', .int .i64 h', .slice a' m' c'])
  low : Below w.heap.size w wq
  lt : B < E
  wl : w.heap.size ≤ B
theorem arr_isArr (A B : Ty) : isArr (con arrN [A, B]) = true := by
  show ((4 : Int) == 4 && arrN.toList == [45, 62]) = true
  decide +kernel
theorem isArrow_con (A B : Ty) (v : Value) (S : Nat → Prop) (w : World) (h : Rep w S (con arrN [A, B]) v) :
    Calls Try.prog 14 #[v] w fun e w' => ∃ k0 n0 i0 h0 a0 m0 c0 k1 n1 i1 h1 a1 m1 c1, e = .returned (.tuple #[.agg #[.int .i64 k0, .string n0, .int .i64 i0, .int .i64 h0, .slice a0 m0 c0], .agg #[.int .i64 k1, .string n1, .int .i64 i1, .int .i64 h1, .slice a1 m1 c1], .bool true]) ∧ Below w.heap.size w w' ∧ Rep w' S B (.agg #[.int .i64 k1, .string n1, .int .i64 i1, .int .i64 h1, .slice a1 m1 c1]) := by
  refine (isArrow_any (con arrN [A, B]) (fun _ => ⟨A, B, rfl⟩) v S w h).mono ?_
  rintro e w' ⟨k0, n0, i0, h0, a0, m0, c0, k1, n1, i1, h1, a1, m1, c1, he, hb, hr⟩
  rw [arr_isArr] at he hr
  exact ⟨k0, n0, i0, h0, a0, m0, c0, k1, n1, i1, h1, a1, m1, c1, he, hb, (hr rfl A B rfl).2⟩
set_option maxRecDepth 100000 in
set_option maxHeartbeats 12800000 in
theorem declareSchemes_of (HMA : MadeAt) (cv : Value) (zs : List Int) (w : World) (hz : Ints w cv zs) :
    Calls Try.prog 4 #[cv] w fun e w' => e = .returned (.bool true) ∧ Below w.heap.size w w' := by
  have HFi := Lib.hid (fun w => first9_any w)
  have HFw : Hid (∀ w', Below w.heap.size w w' → Calls Try.prog 8 #[cv] w' fun e w'' => e = .returned (.bool (decide (zs.length ≤ 60))) ∧ w' = w'') := fun w' hb => few_any cv zs w' (hz.lift hb)
  have HMd : Hid (zs.length ≤ 60 → ∀ V, Below w.heap.size w V → w.heap.size < V.heap.size → Calls Try.prog 9 #[cv] V fun e w' => ∃ a c ds, e = .returned (.slice a ds.length c) ∧ GoodM ds ∧ SlG DatE w' (fun _ => True) ds (.slice a ds.length c) ∧ Below V.heap.size V w') := fun h V hV hl => (HMA cv zs V w (by omega) hz hV hl).mono fun e w' ⟨v, ds, h1, h2, h3, h4, h5⟩ => by
    obtain ⟨a, c, rfl, -⟩ := slice_form h3
    exact ⟨a, c, ds, h1, h2, h3, h4⟩
  obtain ⟨ca, cc, rfl, -, -, -⟩ := hz
  generalize zs.length = zn at *
  clear HMA
  cases hfw : decide (zn ≤ 60)
  all_goals
    rw [hfw] at HFw
    have HFwp := Lib.hid hfw
    clear hfw
    go_enter Try.func4, Try.ntmps4
    go_wp2_with fail
    go_at_call 7
    refine (HFi.out _).mono ?_
    rintro e w1 ⟨rfl, hb1, hs1⟩
    go_wp2_with (go_at_call 8; refine (HFw.out _ hb1).mono ?_; rintro e w2 ⟨rfl, rfl⟩)
  any_goals (go_ret; exact ⟨rfl, hb1⟩)
  refine (HMd.out (of_decide_eq_true HFwp.out) w1 hb1 hs1).mono ?_
  rintro e w2 ⟨a1, c1, ds, rfl, hM, hd, hb2⟩
  have HB2 := Lib.hid (hb1.trans (hb2.mono hb1.size))
  have HLs := Lib.hid hd
  have HCa : Hid (Calls Try.prog 10 #[.slice a1 ds.length c1] w2 fun e w' => e = .returned (.agg #[.int .i64 (chk ds).1, .int .i64 (chk ds).2]) ∧ Below w2.heap.size w2 w') := check_any ds hM.good hM.names _ _ w2 hd
  have HOk : Hid ((chk ds).1 = 0 → ∀ (i k : Nat) (d : Dat) (c : Ctor), ds[i]? = some d → d.ctors[k]? = some c → sch ds c.name = some (d.params.length, conT d c.fields) ∧ valid (conT d c.fields) = true) := fun h i k d c => sch_ok hM h
  have HG := Lib.hid hM.good
  have HNm := Lib.hid hM.num
  have HVl := Lib.hid hM.val
  clear hb1 hs1 hb2 HMd HFw HFwp HFi hM hd
  generalize (chk ds).1 = p1 at *
  generalize (chk ds).2 = p2 at *
  have hf : ∀ w, (Instr.field 29 (.agg #[.int .i64 p1, .int .i64 p2]) 0).run Try.prog w = .ok (.int .i64 p1) w := Try.fltErr p1 p2
  obtain ⟨dn, hdn⟩ : ∃ n, n = ds.length := ⟨_, rfl⟩
  rw [← hdn] at HLs HCa HNm ⊢
  have HDn := Lib.hid hdn
  have hl : dn ≤ 4 := HNm.out
  clear hdn HNm
  cases hp : (p1 == 0) with
  | false =>
    have hpn : (p1 != 0) = true := by rw [bne, hp]; rfl
    go_wp2_with (go_at_call 10; refine HCa.out.mono ?_; rintro e w3 ⟨rfl, hb3⟩)
    go_ret
    exact ⟨rfl, HB2.out.trans (hb3.mono HB2.out.size)⟩
  | true =>
    have hpn : (p1 != 0) = false := by rw [bne, hp]; rfl
    have HSc := Lib.hid (HOk.out (by simpa using hp))
    clear HOk
    go_upto_region 8 with (go_at_call 10; refine HCa.out.mono ?_; rintro e w3 ⟨rfl, hb3⟩; have HB3 := Lib.hid (HB2.out.trans (hb3.mono HB2.out.size)); have HL3 := Lib.hid (HLs.out.lift' hb3); clear hb3)
    clear HCa HLs HB2 hf
    generalize w3 = W at *
    have HR0 : Hid (Below W.heap.size W W) := Below.refl _ _
    go_wp2
    go_loopw [4] (fun x wr => ∃ i : Nat, i ≤ dn ∧ x = .int .i64 i ∧ Hid (Below W.heap.size W wr)) (fun x _ => dn - (intOf x).toNat)
    case atStart => exact ⟨0, Nat.zero_le _, rfl, HR0⟩
    case round =>
      clear HR0
      obtain ⟨i, hi, rfl, HB⟩ := hrel
      by_cases hit : i < dn
      · obtain ⟨d, hd⟩ : ∃ x, ds[i]? = some x := ⟨_, List.getElem?_eq_getElem (by rw [← HDn.out]; exact hit)⟩
        have HSd := Lib.hid (fun (k : Nat) (c : Ctor) => HSc.out i k d c hd)
        have hcl := (HVl.out d (List.mem_of_getElem? hd)).1
        have HVc := Lib.hid (HVl.out d (List.mem_of_getElem? hd)).2
        obtain ⟨ad, pa, pc, ca', cc', rfl, hp', hct, q0, q1, q2, q3⟩ := dat_at (HL3.out.lift' HB.out) hd
        have HCt := Lib.hid hct
        have HQ1 := Lib.hid q1; have HQ2 := Lib.hid q2; have HQ3 := Lib.hid q3
        have hii : (i : Int) < (dn : Int) := by omega
        clear hp' hct hd q0 q1 q2 q3
        obtain ⟨cl, hcl'⟩ : ∃ n, n = d.ctors.length := ⟨_, rfl⟩
        rw [← hcl'] at HQ3 HCt hcl
        have HCn := Lib.hid hcl'
        clear hcl'
        have HR1 : Hid (Below wr.heap.size wr wr) := Below.refl _ _
        obtain ⟨pl, hpl⟩ : ∃ n, n = d.params.length := ⟨_, rfl⟩
        rw [← hpl] at HQ2 HSd
        have HPl := Lib.hid hpl
        clear hpl
        generalize wr = W1 at *
        go_wp2
        go_loopw [5] (fun x wr => ∃ k : Nat, k ≤ cl ∧ x = .int .i64 k ∧ Hid (Below W1.heap.size W1 wr)) (fun x _ => cl - (intOf x).toNat)
        case atStart => exact ⟨0, Nat.zero_le _, rfl, HR1⟩
        case round =>
          clear HR1
          obtain ⟨k, hk, rfl, HBk⟩ := hrel
          have kW : ∀ {p : Addr} {u : Value}, W1.cell? p = some u → wr.cell? p = some u := fun {p u} h => (HBk.out.cell (World.block_lt_of_cell? _ _ h)).trans h
          have q3 := kW HQ3.out
          by_cases hkt : k < cl
          · obtain ⟨c, hc⟩ : ∃ x, d.ctors[k]? = some x := ⟨_, List.getElem?_eq_getElem (by rw [← HCn.out]; exact hkt)⟩
            obtain ⟨hs1, hs2⟩ := HSd.out k c hc
            have hfl := (HVc.out c (List.mem_of_getElem? hc)).1
            obtain ⟨ad2, fa, fc, rfl, -, r0, r1, r2⟩ := ctor_at (HCt.out.lift' HBk.out) hc
            have hk1 := kW HQ1.out; have hk2 := kW HQ2.out
            have HK1 := Lib.hid hk1; have HK2 := Lib.hid hk2; have HK3 := Lib.hid q3; have HJ2 := Lib.hid r2
            have HBw := Lib.hid (HB.out.trans (HBk.out.mono HB.out.size))
            have HCo : Hid (Calls Try.prog 13 #[.slice (some ad) dn c1, .string c.name] wr fun e w' => ∃ ck cn ci ch ca cm cz, e = .returned (.tuple #[.agg #[.int .i64 pl, .int .i64 ck, .string cn, .int .i64 ci, .int .i64 ch, .slice ca cm cz], .bool true]) ∧ Rep w' (fun _ => True) (conT d c.fields) (.agg #[.int .i64 ck, .string cn, .int .i64 ci, .int .i64 ch, .slice ca cm cz]) ∧ Below wr.heap.size wr w') := by
              have := constructor_any ds HG.out c.name _ _ wr (HL3.out.lift' HBw.out)
              rw [hs1] at this
              refine this.mono ?_
              rintro e w' ⟨⟨v, rfl, hv⟩, hb⟩
              obtain ⟨ck, cn, ci, ch, ca, cm, cz, rfl, hr⟩ := hv.form
              exact ⟨ck, cn, ci, ch, ca, cm, cz, rfl, hr, hb⟩
            have HVd : Hid (∀ v S V, Rep V S (conT d c.fields) v → Calls Try.prog 15 #[v] V fun e w' => e = .returned (.bool true) ∧ Below V.heap.size V w') := fun v S V h => by
              have := refValid_any (conT d c.fields) v S V h
              rwa [hs2] at this
            have hki : (k : Int) < (cl : Int) := by omega
            obtain ⟨fl, hfl'⟩ : ∃ n, n = c.fields.length := ⟨_, rfl⟩
            rw [← hfl'] at r2 hfl HJ2
            have HFl := Lib.hid hfl'
            clear hs1 hs2 hc kW r0 hk1 hk2 hfl'
            go_wp2_with fail
            go_at_call 13
            refine HCo.out.mono ?_
            rintro e w4 ⟨ck, cn, ci, ch, ca, cm, cz, rfl, hr, hb4⟩
            have hA4 : Below w4.heap.size w4 (w4.alloc (.cells #[.int .i64 pl, .int .i64 ck, .string cn, .int .i64 ci, .int .i64 ch, .slice ca cm cz] 41)) := (Below.refl _ w4).alloc (Nat.le_refl _) _
            have HX4 : Hid (BoxC 41 (w4.alloc (.cells #[.int .i64 pl, .int .i64 ck, .string cn, .int .i64 ci, .int .i64 ch, .slice ca cm cz] 41)) w4.heap.size [.int .i64 pl, .int .i64 ck, .string cn, .int .i64 ci, .int .i64 ch, .slice ca cm cz]) := BoxC.made _ w4 _
            have HR4 := Lib.hid (hr.bound.lift hA4)
            have HB4 := Lib.hid (hb4.trans (hA4.mono hb4.size))
            have hz4 : (w4.alloc (.cells #[.int .i64 pl, .int .i64 ck, .string cn, .int .i64 ci, .int .i64 ch, .slice ca cm cz] 41)).heap.size = w4.heap.size + 1 := by simp
            have HZ4 := Lib.hid hb4.size
            clear HCo hr hb4 hA4 q3 r1 r2
            go_upto_region 15 with fail
            generalize (w4.alloc (.cells #[.int .i64 pl, .int .i64 ck, .string cn, .int .i64 ci, .int .i64 ch, .slice ca cm cz] 41)) = W4 at *
            have HA5 : Hid (Below W4.heap.size W4 (W4.alloc (.cells #[.int .i64 ck, .string cn, .int .i64 ci, .int .i64 ch, .slice ca cm cz] 39))) := (Below.refl _ W4).alloc (Nat.le_refl _) _
            have HS0 : Hid (LpSt wr w4.heap.size W4.heap.size pl ck cn ci ch ca cm cz (conT d c.fields) (conT d (c.fields.drop 0)) ck cn ci ch ca cm cz (W4.alloc (.cells #[.int .i64 ck, .string cn, .int .i64 ci, .int .i64 ch, .slice ca cm cz] 39))) := by
              have hr := (HR4.out.lift HA5.out).kept (S' := fun b => b < W4.heap.size) (fun b hb => by have := hb.2; omega) (fun _ _ _ => rfl)
              exact ⟨HX4.out.lift HA5.out, hr, Box.made _ _ _ _ _ _, hr, HB4.out.trans (HA5.out.mono HB4.out.size), by omega, HZ4.out⟩
            have b1 := HX4.out.cell 1 _ rfl; have b2 := HX4.out.cell 2 _ rfl; have b3 := HX4.out.cell 3 _ rfl; have b4 := HX4.out.cell 4 _ rfl; have b5 := HX4.out.cell 5 _ rfl
            clear HX4 HR4 HB4 HA5 HZ4
            generalize w4.heap.size = B at *
            go_upto_region 16 with fail
            generalize (W4.alloc (.cells #[.int .i64 ck, .string cn, .int .i64 ci, .int .i64 ch, .slice ca cm cz] 39)) = W5 at *
            rw [hz4] at HS0
            clear b1 b2 b3 b4 b5 hz4
            have p3 := (HS0.out.low.cell (World.block_lt_of_cell? _ _ HK3.out)).trans HK3.out
            clear p3
            generalize wr = Wk at *
            go_wp2
            go_loopw [7, 9] (fun s x wq => ∃ (j : Nat) (k' : Int) (n' : ByteArray) (i' h' : Int) (a' : Option Addr) (m' c' : Nat), j ≤ fl ∧ s = .bool true ∧ x = .int .i64 j ∧ Hid (LpSt Wk B (B + 1) pl ck cn ci ch ca cm cz (conT d c.fields) (conT d (c.fields.drop j)) k' n' i' h' a' m' c' wq)) (fun _ x _ => fl - (intOf x).toNat)
            case atStart => exact ⟨0, _, _, _, _, _, _, _, Nat.zero_le _, rfl, rfl, HS0⟩
            case round =>
              clear HS0
              obtain ⟨j, k', n', i', h', a', m', c', hj, rfl, rfl, HS⟩ := hrel
              have q3 := (HS.out.low.cell (World.block_lt_of_cell? _ _ HK3.out)).trans HK3.out
              have r2 := (HS.out.low.cell (World.block_lt_of_cell? _ _ HJ2.out)).trans HJ2.out
              by_cases hjt : j < fl
              · obtain ⟨U, hU⟩ : ∃ x, c.fields[j]? = some x := ⟨_, List.getElem?_eq_getElem (by rw [← HFl.out]; exact hjt)⟩
                have hrr := HS.out.r1
                rw [conT_drop d hU] at hrr
                have HIA := Lib.hid (isArrow_con _ _ _ _ _ hrr)
                obtain ⟨b0, b1, b2, b3, b4⟩ := HS.out.tb.cells
                have hji : (j : Int) < (fl : Int) := by omega
                clear hrr hU
                go_wp2_with (first
                  | (go_at_call 14; refine HIA.out.mono ?_; rintro e w6 ⟨k0, n0, i0, h0, a0, m0, c0, k1, n1, i1, h1, a1, m1, c1', rfl, hb6, hr6⟩; have HB6 := Lib.hid hb6; have HR6 := Lib.hid hr6; have HT6 := Lib.hid (HS.out.tb.lift hb6); clear hb6 hr6 b0 b1 b2 b3 b4)
                  | (refine wpList_store5 rfl _ _ rfl _ _ _ _ _ _ HT6.out rfl _ _ _ _ _ _ _ rfl ?_; intro w7 hB7 hg7 hs7; have HS7 : Hid (LpSt Wk B (B + 1) pl ck cn ci ch ca cm cz (conT d c.fields) (conT d (c.fields.drop (j + 1))) k1 n1 i1 h1 a1 m1 c1' w7) := ⟨(HS.out.bx.lift HB6.out).grown hg7 (by intro e; have := Option.some.inj e; omega), (HS.out.r0.lift HB6.out).kept (fun _ h => h) (fun b hb hl => hg7.block b hl (by intro e; have := Option.some.inj e; omega)), hB7, HR6.out.kept (fun _ h => h) (fun b hb hl => hg7.block b hl (by intro e; have := Option.some.inj e; omega)), Below.grown (HS.out.low.trans (HB6.out.mono HS.out.low.size)) hg7 (Nat.le_trans HS.out.low.size HB6.out.size) (fun k hk => by have := Option.some.inj hk; have := HS.out.wl; omega), Nat.lt_succ_self _, HS.out.wl⟩; clear hB7 hg7 hs7))
                go_roundw
                case rel => exact ⟨j + 1, _, _, _, _, _, _, _, hjt, rfl, by go_num, HS7⟩
                case measure => simp [intOf]; omega
              · have hre := HS.out.r1
                rw [show j = c.fields.length by rw [← HFl.out]; omega, conT_end] at hre
                obtain ⟨rfl, hm'⟩ := rep_res hre
                rw [← HPl.out] at hm'
                have hm2 := hm'.symm
                clear hm'
                subst hm2
                have HKc : Hid (∀ V, Below wr.heap.size wr V → V.cell? ⟨B, 0, none⟩ = some (.int .i64 pl) ∧ V.cell? ⟨B, 1, none⟩ = some (.int .i64 ck) ∧ V.cell? ⟨B, 2, none⟩ = some (.string cn) ∧ V.cell? ⟨B, 3, none⟩ = some (.int .i64 ci) ∧ V.cell? ⟨B, 4, none⟩ = some (.int .i64 ch) ∧ V.cell? ⟨B, 5, none⟩ = some (.slice ca cm cz) ∧ V.cell? ⟨B + 1, 1, none⟩ = some (.string d.name) ∧ V.cell? ⟨B + 1, 4, none⟩ = some (.slice a' pl c') ∧ V.cell? ⟨(ad.add (i * 4)).block, (ad.add (i * 4)).off + 1, none⟩ = some (.string d.name) ∧ V.cell? ⟨(ad.add (i * 4)).block, (ad.add (i * 4)).off + 2, none⟩ = some (.slice pa pl pc) ∧ Below wr.heap.size wr V) := fun V hV => by
                  have hl := HS.out.low.trans (hV.mono HS.out.low.size)
                  have hb := HS.out.bx.lift hV
                  obtain ⟨t0, t1, t2, t3, t4⟩ := (HS.out.tb.lift hV).cells
                  exact ⟨hb.cell 0 _ rfl, hb.cell 1 _ rfl, hb.cell 2 _ rfl, hb.cell 3 _ rfl, hb.cell 4 _ rfl, hb.cell 5 _ rfl, t1, t4, (hl.cell (World.block_lt_of_cell? _ _ HK1.out)).trans HK1.out, (hl.cell (World.block_lt_of_cell? _ _ HK2.out)).trans HK2.out, hV⟩
                have HVq : Hid (∀ V, Below wr.heap.size wr V → Calls Try.prog 15 #[.agg #[.int .i64 ck, .string cn, .int .i64 ci, .int .i64 ch, .slice ca cm cz]] V fun e w' => e = .returned (.bool true) ∧ Below V.heap.size V w') := fun V hV => HVd.out _ _ V (HS.out.r0.lift hV)
                have HLow := Lib.hid HS.out.low
                go_upto_region 20 with fail
                clear q3 r2
                go_region_held3 (fun V => V.cell? ⟨B, 0, none⟩ = some (.int .i64 pl) ∧ V.cell? ⟨B, 1, none⟩ = some (.int .i64 ck) ∧ V.cell? ⟨B, 2, none⟩ = some (.string cn) ∧ V.cell? ⟨B, 3, none⟩ = some (.int .i64 ci) ∧ V.cell? ⟨B, 4, none⟩ = some (.int .i64 ch) ∧ V.cell? ⟨B, 5, none⟩ = some (.slice ca cm cz) ∧ V.cell? ⟨B + 1, 1, none⟩ = some (.string d.name) ∧ V.cell? ⟨B + 1, 4, none⟩ = some (.slice a' pl c') ∧ V.cell? ⟨(ad.add (i * 4)).block, (ad.add (i * 4)).off + 1, none⟩ = some (.string d.name) ∧ V.cell? ⟨(ad.add (i * 4)).block, (ad.add (i * 4)).off + 2, none⟩ = some (.slice pa pl pc) ∧ Below wr.heap.size wr V)
                  (with_reducible exact HKc.out _ (by first | exact (Below.refl _ _).drew | assumption))
                  (first
                    | (go_at_call 15; (with_reducible refine (HVq.out _ (by first | exact (Below.refl _ _).drew | assumption)).mono ?_); rintro e w' ⟨rfl, hbV⟩; have hk := keepCall' (W := wr) (by first | exact (Below.refl _ _).drew | assumption) hbV))
                all_goals
                  have hfin : Below wr.heap.size wr w' := by assumption
                  go_wp2
                  go_roundw
                  case rel => exact ⟨k + 1, hkt, by go_num, HBk.out.trans ((HLow.out.trans (hfin.mono HLow.out.size)).mono HBk.out.size)⟩
                  case measure => simp [intOf]; omega
          · go_wp2
            go_roundw
            case rel => exact ⟨i + 1, hit, by go_num, HB.out.trans (HBk.out.mono HB.out.size)⟩
            case measure => simp [intOf]; omega
      · go_wp2
        go_ret
        exact ⟨rfl, HB3.out.trans (HB.out.mono HB3.out.size)⟩
end Go.Proofs.Ytafpngmfhajedaa

/- The law DeclareSchemes returns true at every input, and every argument reads behind the call as it read before. No condition. -/
namespace Go.Proofs.Ytafpngmfhajedaa.declareSchemes
open Go.ChangeShapes Go.WideShapes Go.ChangeAt Go.ChangeMaps Go.RowKit

set_option maxRecDepth 100000 in
/-- What the walk gives for every argument and every world. -/
theorem contract (H : Type) (enc : TypeId × Value → H) (W : World) (base : Nat) (args : Array Value) (ds gs : List (DataW H)) (before : List MemPlace)
    (hval : ∀ (j : Nat) t v, Try.f4.params[j]? = some t → args[j]? = some v → Value.okWide Try.prog W .any base t v)
    (hW : DataW.Whole enc Try.prog Try.f4.params.toList Rows.declareSchemesSpec.vars false W args.toList ds gs before) :
    Calls Try.prog 4 args W fun e W' => ∃ v, e = .returned v ∧ Rows.declareSchemesSpec.post enc Try.prog Try.f4 false true false false W args v W' := by
  have hW' := hW
  obtain ⟨p, q, hA0, hV, rfl, hfz, hnd⟩ := hW
  have hA : DataW.TrodAll enc Try.prog W 0 (fun _ => true) true Try.f4.params.toList args.toList ds p := hA0
  rw [Try.params4] at hA hval
  obtain ⟨v0, vs0, d0, ds0, p0, q0, hargs, rfl, rfl, h0, r0⟩ := trodAll_cons hA
  obtain ⟨rfl, rfl, rfl⟩ := trodAll_nil r0
  obtain rfl : args = #[v0] := by cases args; simp_all
  obtain ⟨rfl, rfl⟩ := trodVars_none hV
  obtain ⟨zs, wzs⟩ := ints_open (hval 0 22 v0 rfl rfl) h0
  refine (declareSchemes_of made9_any v0 zs W wzs).mono fun e W' ⟨he, hb⟩ => ?_
  subst he
  exact law_post rfl (by kernel_rfl) rfl hW' rfl rfl rfl hb

set_option maxRecDepth 100000 in
theorem lifted (os : Os) (started : os.Started) (H : Type) (enc : TypeId × Value → H) :
    ReturnsInHanded {} Try.checked os 4 .any (Rows.declareSchemesSpec.pre6 enc Try.prog Try.f4 Rows.declareSchemesRow.domain false) (Rows.declareSchemesSpec.post enc Try.prog Try.f4 false true false false) := by
  refine returnsInHanded_of_change (C := Try.checked) Try.own started (by kernel_rfl) Try.func4
    (ChangeSpec.witness6 (enc := enc) (C := Try.checked) false ⟨#[], #[.slice none 0 0], []⟩ 8 (by kernel_rfl) (by kernel_rfl) (by kernel_rfl) (by kernel_rfl)) ?_
  intro W base args ds gs before hval hW _ _
  exact contract H enc W base args ds gs before hval hW

theorem said : Rows.DeclareSchemesSaid :=
  OpenClaim.holds_of_wide 4 Try.f4 rfl rfl rfl rfl rfl rfl rfl ⟨rfl, rfl, rfl, rfl, rfl⟩ rfl rfl rfl rfl rfl (by kernel_rfl) Try.func4 (by kernel_rfl)
    (of_decide_eq_true (by kernel_rfl)) (by unfold Func.isWrapper; first | (rw [if_pos (by decide +kernel)]; kernel_rfl) | (rw [if_neg (by decide +kernel)]; exact ⟨rfl, rfl⟩))
    (fun os started H enc _ => lifted os started H enc)

#print axioms said
end Go.Proofs.Ytafpngmfhajedaa.declareSchemes
