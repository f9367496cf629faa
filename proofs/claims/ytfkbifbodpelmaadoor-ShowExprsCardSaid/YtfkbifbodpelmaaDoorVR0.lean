import Derived.Test.YtfkbifbodpelmaaDoorVA1
import Derived.RegionTactic
import Derived.Deep.CutBlock
import Derived.Lib.OthersKept
/- Plain facts: texts made of parts whose scan is known. -/
namespace Go.Proofs.YtfkbifbodpelmaaDoor
open Mth

/-- The kinds and texts that token texts have. -/
def wk (ws : List (List UInt8)) : List (Int × List UInt8) := ws.map fun x => (rkind x, x)
end Go.Proofs.YtfkbifbodpelmaaDoor

/- Plain facts: the canonical text of a written type, its tokens, its length. -/
namespace Go.Proofs.YtfkbifbodpelmaaDoor
open Go.RowKit Go.Maps Mth

theorem tyInd {p : Ty → Prop} (h : ∀ T, (∀ U ∈ T.ts, p U) → p T) : ∀ T, p T := by
  have : ∀ (m : Nat) (T : Ty), nodes T ≤ m → p T := by
    intro m
    induction m with
    | zero => intro T h; have := nodes_pos T; omega
    | succ m ih =>
      intro T hm
      refine h T fun U hU => ih U ?_
      have := nodesL_mem hU
      cases T
      simp only [nodes, Ty.ts] at *
      omega
  exact fun T => this _ T (Nat.le_refl _)
def isArr (T : Ty) : Bool := T.k == 4 && T.n.toList == [45, 62]
def conArgs (T : Ty) : Bool := T.k == 4 && T.ts.length != 0
/-! A type that can be written: names and constructors alone. -/
mutual
def src : Ty → Bool
  | .mk k n i h ts => i == 0 && h == 0 && (if k == 5 then isLo (bl n) && ts.length == 0 else k == 4 && (if n.toList == [45, 62] then ts.length == 2 else isUp (bl n))) && srcL ts
def srcL : List Ty → Bool
  | [] => true
  | t :: l => src t && srcL l
end
theorem srcL_mem : ∀ {l : List Ty}, srcL l = true → ∀ {T : Ty}, T ∈ l → src T = true := by
  intro l
  induction l with
  | nil => intro _ T h; simp at h
  | cons t l ih =>
    intro h T hT
    simp only [srcL, Bool.and_eq_true] at h
    rcases List.mem_cons.1 hT with rfl | hT
    · exact h.1
    · exact ih h.2 hT
def brk (q : Bool) (l : List UInt8) : List UInt8 := if q then 40 :: (l ++ [41]) else l
def brkW (q : Bool) (l : List (List UInt8)) : List (List UInt8) := if q then [40] :: (l ++ [[41]]) else l
/-! The canonical text. -/
mutual
def shT : Ty → List UInt8
  | .mk k n _ _ ts => if k == 5 then bl n else if n.toList == [45, 62] then shH ts else bl n ++ shA ts
def shH : List Ty → List UInt8
  | [] => []
  | t :: l => brk (isArr t) (shT t) ++ shB l
def shB : List Ty → List UInt8
  | [] => []
  | t :: l => 32 :: ([45, 62] ++ 32 :: (shT t ++ shB l))
def shA : List Ty → List UInt8
  | [] => []
  | t :: l => 32 :: (brk (conArgs t) (shT t) ++ shA l)
end
/-! Its tokens. -/
mutual
def tkT : Ty → List (List UInt8)
  | .mk k n _ _ ts => if k == 5 then [bl n] else if n.toList == [45, 62] then tkH ts else bl n :: tkA ts
def tkH : List Ty → List (List UInt8)
  | [] => []
  | t :: l => brkW (isArr t) (tkT t) ++ tkB l
def tkB : List Ty → List (List UInt8)
  | [] => []
  | t :: l => [45, 62] :: (tkT t ++ tkB l)
def tkA : List Ty → List (List UInt8)
  | [] => []
  | t :: l => brkW (conArgs t) (tkT t) ++ tkA l
end
theorem isLo_len {l : List UInt8} (h : isLo l = true) : l.length ≤ 12 := by
  unfold isLo at h; simp only [Bool.and_eq_true, decide_eq_true_eq] at h; exact h.1.2
theorem isUp_len {l : List UInt8} (h : isUp l = true) : l.length ≤ 12 := by
  unfold isUp at h; simp only [Bool.and_eq_true, decide_eq_true_eq] at h; exact h.2
theorem brk_len (q : Bool) (l : List UInt8) : (brk q l).length ≤ l.length + 2 := by
  cases q <;> simp [brk]
theorem shT_len2 : ∀ T, src T = true → (shT T).length + 8 ≤ 23 * nodes T := by
  refine tyInd fun T ih hs => ?_
  cases T with
  | mk k n i h ts =>
    simp only [src, Bool.and_eq_true] at hs
    obtain ⟨⟨-, hk⟩, hl⟩ := hs
    have ih' : ∀ U ∈ ts, (shT U).length + 8 ≤ 23 * nodes U := fun U hU => ih U hU (srcL_mem hl hU)
    simp only [shT, nodes]
    cases h5 : k == 5 with
    | true =>
      rw [h5] at hk
      simp only [if_true, Bool.and_eq_true] at hk ⊢
      have := isLo_len hk.1
      omega
    | false =>
      rw [h5] at hk
      simp only [Bool.false_eq_true, if_false, Bool.and_eq_true] at hk ⊢
      cases ha : n.toList == [45, 62] with
      | true =>
        rw [ha] at hk
        simp only [if_true, beq_iff_eq] at hk ⊢
        match ts, hk.2 with
        | [a, c], _ =>
          have h1 := ih' a (by simp)
          have h2 := ih' c (by simp)
          have h3 := brk_len (isArr a) (shT a)
          simp only [shH, shB, nodesL, List.length_append, List.length_cons, List.length_nil]
          omega
      | false =>
        rw [ha] at hk
        simp only [Bool.false_eq_true, if_false] at hk ⊢
        have h1 := isUp_len hk.2
        have hA : ∀ l : List Ty, (∀ U ∈ l, (shT U).length + 8 ≤ 23 * nodes U) → (shA l).length ≤ 23 * nodesL l := by
          intro l
          induction l with
          | nil => intro _; simp [shA]
          | cons t l ihl =>
            intro hh
            have h1 := hh t (by simp)
            have h2 := ihl fun U hU => hh U (by simp [hU])
            have h3 := brk_len (conArgs t) (shT t)
            simp only [shA, nodesL, List.length_cons, List.length_append]
            omega
        have h2 := hA ts ih'
        rw [List.length_append]
        omega
end Go.Proofs.YtfkbifbodpelmaaDoor

/- The canonical text of a written type: what the reference's functions return. -/
namespace Go.Proofs.YtfkbifbodpelmaaDoor
open Go.RowKit Go.Maps Mth

theorem src_arr {T : Ty} (h : src T = true) (ha : isArr T = true) : ∃ a c, T.ts = [a, c] := by
  cases T with
  | mk k n i hm ts =>
    simp only [isArr, Ty.k, Ty.n, Bool.and_eq_true] at ha
    obtain ⟨h4, hn⟩ := ha
    rw [beq_iff_eq] at h4
    subst h4
    simp only [src, Bool.and_eq_true] at h
    obtain ⟨⟨-, hk⟩, -⟩ := h
    have e5 : ((4 : Int) == 5) = false := rfl
    rw [e5] at hk
    simp only [Bool.false_eq_true, if_false, Bool.and_eq_true] at hk
    rw [hn] at hk
    simp only [if_true, beq_iff_eq] at hk
    match ts, hk.2 with
    | [a, c], _ => exact ⟨a, c, rfl⟩
/-- What IsArrow returns. -/
def IsArrEnd (w : World) (S : Nat → Prop) (T : Ty) (e : Ending) (w' : World) : Prop :=
  ∃ k0 n0 i0 h0 a0 m0 c0 k1 n1 i1 h1 a1 m1 c1, e = .returned (.tuple #[.agg #[.int .i64 k0, .string n0, .int .i64 i0, .int .i64 h0, .slice a0 m0 c0], .agg #[.int .i64 k1, .string n1, .int .i64 i1, .int .i64 h1, .slice a1 m1 c1], .bool (isArr T)]) ∧ Below w.heap.size w w' ∧
    (isArr T = true → ∀ a c, T.ts = [a, c] → Rep w' S a (.agg #[.int .i64 k0, .string n0, .int .i64 i0, .int .i64 h0, .slice a0 m0 c0]) ∧ Rep w' S c (.agg #[.int .i64 k1, .string n1, .int .i64 i1, .int .i64 h1, .slice a1 m1 c1]))
/-- The worlds of IsArrow: the parameter, the two results. -/
structure IA (w V : World) (c0 c1 c2 c3 c4 : Value) : Prop where
  par : Box V w.heap.size c0 c1 c2 c3 c4
  r0 : Zero V (w.heap.size + 1)
  r1 : Zero V (w.heap.size + 1 + 1)
  low : Below w.heap.size w V
theorem ia_new (w : World) (c0 c1 c2 c3 c4 : Value) : IA w (((w.alloc (.cells #[c0, c1, c2, c3, c4] 35)).alloc (.cells #[.int .i64 0, .string ⟨#[]⟩, .int .i64 0, .int .i64 0, .slice none 0 0] 35)).alloc (.cells #[.int .i64 0, .string ⟨#[]⟩, .int .i64 0, .int .i64 0, .slice none 0 0] 35)) c0 c1 c2 c3 c4 := by
  refine ⟨?_, ?_, ?_, (((Below.refl _ w).alloc (Nat.le_refl _) _).alloc (by simp) _).alloc (by simp; omega) _⟩
  · unfold Box; rw [heap_at, if_neg (by simp; omega), heap_at, if_neg (by simp), heap_at, if_pos rfl]
  · show Box _ _ _ _ _ _ _
    unfold Box; rw [heap_at, if_neg (by simp), heap_at, if_pos (by simp)]
  · show Box _ _ _ _ _ _ _
    unfold Box; rw [heap_at, if_pos (by simp)]
theorem IA.fin1 {w V : World} {c0 c1 c2 c3 c4 : Value} (h : IA w V c0 c1 c2 c3 c4) (v0 v1 v2 v3 v4 : Value) :
    Box (((((V.setCell ⟨w.heap.size + 1, 0, none⟩ v0).setCell ⟨w.heap.size + 1, 1, none⟩ v1).setCell ⟨w.heap.size + 1, 2, none⟩ v2).setCell ⟨w.heap.size + 1, 3, none⟩ v3).setCell ⟨w.heap.size + 1, 4, none⟩ v4) (w.heap.size + 1) v0 v1 v2 v3 v4 ∧ Zero (((((V.setCell ⟨w.heap.size + 1, 0, none⟩ v0).setCell ⟨w.heap.size + 1, 1, none⟩ v1).setCell ⟨w.heap.size + 1, 2, none⟩ v2).setCell ⟨w.heap.size + 1, 3, none⟩ v3).setCell ⟨w.heap.size + 1, 4, none⟩ v4) (w.heap.size + 1 + 1) ∧ Below w.heap.size w (((((V.setCell ⟨w.heap.size + 1, 0, none⟩ v0).setCell ⟨w.heap.size + 1, 1, none⟩ v1).setCell ⟨w.heap.size + 1, 2, none⟩ v2).setCell ⟨w.heap.size + 1, 3, none⟩ v3).setCell ⟨w.heap.size + 1, 4, none⟩ v4) := by
  obtain ⟨hB, hG, -⟩ := set5 h.r0 v0 v1 v2 v3 v4
  have h1 := h.r1.kept (hG.block _ h.r1.lt (by intro e; have := Option.some.inj e; omega))
  have hL := Below.grown h.low hG h.low.size (fun k hk => by have := Option.some.inj hk; omega)
  generalize (((((V.setCell ⟨w.heap.size + 1, 0, none⟩ v0).setCell ⟨w.heap.size + 1, 1, none⟩ v1).setCell ⟨w.heap.size + 1, 2, none⟩ v2).setCell ⟨w.heap.size + 1, 3, none⟩ v3).setCell ⟨w.heap.size + 1, 4, none⟩ v4) = V1 at *
  exact ⟨hB, h1, hL⟩
theorem fin2 {w V : World} {v0 v1 v2 v3 v4 : Value} (hB : Box V (w.heap.size + 1) v0 v1 v2 v3 v4) (h1 : Zero V (w.heap.size + 1 + 1)) (hL : Below w.heap.size w V) (u0 u1 u2 u3 u4 : Value) :
    Box (((((V.setCell ⟨w.heap.size + 1 + 1, 0, none⟩ u0).setCell ⟨w.heap.size + 1 + 1, 1, none⟩ u1).setCell ⟨w.heap.size + 1 + 1, 2, none⟩ u2).setCell ⟨w.heap.size + 1 + 1, 3, none⟩ u3).setCell ⟨w.heap.size + 1 + 1, 4, none⟩ u4).drew (w.heap.size + 1) v0 v1 v2 v3 v4 ∧ Box (((((V.setCell ⟨w.heap.size + 1 + 1, 0, none⟩ u0).setCell ⟨w.heap.size + 1 + 1, 1, none⟩ u1).setCell ⟨w.heap.size + 1 + 1, 2, none⟩ u2).setCell ⟨w.heap.size + 1 + 1, 3, none⟩ u3).setCell ⟨w.heap.size + 1 + 1, 4, none⟩ u4).drew (w.heap.size + 1 + 1) u0 u1 u2 u3 u4 ∧ Below w.heap.size w (((((V.setCell ⟨w.heap.size + 1 + 1, 0, none⟩ u0).setCell ⟨w.heap.size + 1 + 1, 1, none⟩ u1).setCell ⟨w.heap.size + 1 + 1, 2, none⟩ u2).setCell ⟨w.heap.size + 1 + 1, 3, none⟩ u3).setCell ⟨w.heap.size + 1 + 1, 4, none⟩ u4).drew := by
  obtain ⟨hB2, hG2, -⟩ := set5 h1 u0 u1 u2 u3 u4
  have h3 := hB.kept (hG2.block _ hB.lt (by intro e; have := Option.some.inj e; omega))
  have h4 := Below.grown hL hG2 hL.size (fun k hk => by have := Option.some.inj hk; omega)
  generalize (((((V.setCell ⟨w.heap.size + 1 + 1, 0, none⟩ u0).setCell ⟨w.heap.size + 1 + 1, 1, none⟩ u1).setCell ⟨w.heap.size + 1 + 1, 2, none⟩ u2).setCell ⟨w.heap.size + 1 + 1, 3, none⟩ u3).setCell ⟨w.heap.size + 1 + 1, 4, none⟩ u4) = V1 at *
  exact ⟨h3, hB2, h4.drew⟩
theorem five0 {w : World} {ad : Addr} {v0 v1 v2 v3 v4 : Value} (h5 : Five w ad 0 (.agg #[v0, v1, v2, v3, v4])) :
    w.cell? ad = some v0 ∧ w.cell? ⟨ad.block, ad.off + 1, none⟩ = some v1 ∧ w.cell? ⟨ad.block, ad.off + 2, none⟩ = some v2 ∧ w.cell? ⟨ad.block, ad.off + 3, none⟩ = some v3 ∧ w.cell? ⟨ad.block, ad.off + 4, none⟩ = some v4 := by
  obtain ⟨c0, c1, c2, c3, c4, hv, h⟩ := h5
  simp at hv
  obtain ⟨rfl, rfl, rfl, rfl, rfl⟩ := hv
  have e : ad.add (0 * 5) = ad := by unfold Addr.add; simp
  rw [e] at h
  exact h
theorem five1 {w : World} {ad : Addr} {v0 v1 v2 v3 v4 : Value} (h5 : Five w ad 1 (.agg #[v0, v1, v2, v3, v4])) :
    w.cell? ⟨ad.block, ad.off + 5, none⟩ = some v0 ∧ w.cell? ⟨ad.block, ad.off + 5 + 1, none⟩ = some v1 ∧ w.cell? ⟨ad.block, ad.off + 5 + 2, none⟩ = some v2 ∧ w.cell? ⟨ad.block, ad.off + 5 + 3, none⟩ = some v3 ∧ w.cell? ⟨ad.block, ad.off + 5 + 4, none⟩ = some v4 := by
  obtain ⟨c0, c1, c2, c3, c4, hv, h⟩ := h5
  simp at hv
  obtain ⟨rfl, rfl, rfl, rfl, rfl⟩ := hv
  have e : ad.add (1 * 5) = ⟨ad.block, ad.off + 5, none⟩ := by unfold Addr.add; simp
  rw [e] at h
  exact h
set_option maxRecDepth 100000 in
set_option maxHeartbeats 3200000 in
theorem isArrow_any (T : Ty) (hT : isArr T = true → ∃ a c, T.ts = [a, c]) (v : Value) (S : Nat → Prop) (w : World) (h : Rep w S T v) :
    Calls Tryd.prog 59 #[v] w (IsArrEnd w S T) := by
  have HR := Lib.hid h
  obtain ⟨k, n, i, hm, s, eT, rfl, hn, hs⟩ := h.open
  obtain ⟨sa, sc, rfl, hcap, hj⟩ := hs
  have hk : T.k = k := by rw [eT]; rfl
  have hn' : T.n = n := by rw [eT]; rfl
  have HIA := Lib.hid (ia_new w (.int .i64 k) (.string n) (.int .i64 i) (.int .i64 hm) (.slice sa T.ts.length sc))
  have HA : Hid (isArr T = (k == 4 && n.toList == [45, 62])) := by show _ = _; unfold isArr; rw [hk, hn']
  have HJ := Lib.hid hj
  clear h eT hn hk hn' hj
  have HF : isArr T = false → ∀ V : World, Below w.heap.size w V → IsArrEnd w S T (.returned (.tuple #[.agg #[.int .i64 0, .string ⟨#[]⟩, .int .i64 0, .int .i64 0, .slice none 0 0], .agg #[.int .i64 0, .string ⟨#[]⟩, .int .i64 0, .int .i64 0, .slice none 0 0], .bool false])) V := fun h V hV =>
    ⟨_, _, _, _, _, _, _, _, _, _, _, _, _, _, by rw [h], hV, fun h' => by rw [h] at h'; cases h'⟩
  cases h4 : (k == 4) with
  | false =>
    have HE := Lib.hid (HF (by rw [HA.out, h4]; rfl) _ HIA.out.low)
    clear HJ hT HA HF HIA HR
    generalize T.ts.length = tn at *
    go_enter Tryd.func59, Tryd.ntmps59
    go_wp2
    refine bodyPost_ret (by simp [results, Tryd.results59, go_sem]; try rfl) rfl ?_
    exact HE.out
  | true =>
    cases hA : (n.toList == [45, 62]) with
    | false =>
      have HE := Lib.hid (HF (by rw [HA.out, h4, hA]; rfl) _ HIA.out.low)
      clear HJ hT HA HF HIA HR
      generalize T.ts.length = tn at *
      go_enter Tryd.func59, Tryd.ntmps59
      go_wp2
      refine bodyPost_ret (by simp [results, Tryd.results59, go_sem]; try rfl) rfl ?_
      exact HE.out
    | true =>
      have HI : Hid (isArr T = true) := by show _ = _; rw [HA.out, h4, hA]; rfl
      obtain ⟨a, c, eTs⟩ := hT HI.out
      have HTs := Lib.hid eTs
      obtain ⟨ad, x, rfl, hS0, h50, hx0⟩ := HJ.out 0 a (by rw [eTs]; rfl)
      obtain ⟨ad', y, e', hS1, h51, hx1⟩ := HJ.out 1 c (by rw [eTs]; rfl)
      cases e'
      have hlen : T.ts.length = 2 := by rw [eTs]; rfl
      rw [hlen] at HIA HR hcap ⊢
      clear eTs HJ hT HA HF hlen
      obtain ⟨k0, n0, i0, m0, s0, -, rfl, -, hs0⟩ := hx0.open
      obtain ⟨a0, p0, rfl, -⟩ := hs0
      obtain ⟨k1, n1, i1, m1, s1, -, rfl, -, hs1⟩ := hx1.open
      obtain ⟨a1, p1, rfl, -⟩ := hs1
      have HX0 := Lib.hid hx0
      have HX1 := Lib.hid hx1
      generalize a.ts.length = l0 at *
      generalize c.ts.length = l1 at *
      have HG0 := Lib.hid h50
      have HG1 := Lib.hid h51
      have had : ad.block < w.heap.size := h50.lt
      clear hx0 hx1 h50 h51 hS0 hS1
      go_enter Tryd.func59, Tryd.ntmps59
      go_upto_region 1 with fail
      generalize (((w.alloc (.cells #[.int .i64 k, .string n, .int .i64 i, .int .i64 hm, .slice (some ad) 2 sc] 35)).alloc (.cells #[.int .i64 0, .string ⟨#[]⟩, .int .i64 0, .int .i64 0, .slice none 0 0] 35)).alloc (.cells #[.int .i64 0, .string ⟨#[]⟩, .int .i64 0, .int .i64 0, .slice none 0 0] 35)) = V at *
      have g0 := HG0.out.kept (HIA.out.low.block _ had)
      have g1 := HG1.out.kept (HIA.out.low.block _ had)
      obtain ⟨q0, q1, q2, q3, q4⟩ := five0 g0
      obtain ⟨u0, u1, u2, u3, u4⟩ := five1 g1
      obtain ⟨b0, b1, b2, b3, b4⟩ := HIA.out.par.cells
      obtain ⟨t0, t1, t2, t3, t4⟩ := HIA.out.r0.cells
      obtain ⟨f0, f1, f2, f3, f4⟩ := HIA.out.r0.frozen
      obtain ⟨z0, z1, z2, z3, z4⟩ := HIA.out.r1.cells
      obtain ⟨y0, y1, y2, y3, y4⟩ := HIA.out.r1.frozen
      clear g0 g1
      go_wp2
      go_region
      all_goals
        obtain ⟨hA0, hA1, hA2⟩ := HIA.out.fin1 (.int .i64 k0) (.string n0) (.int .i64 i0) (.int .i64 m0) (.slice a0 l0 p0)
        clear q0 q1 q2 q3 q4 u0 u1 u2 u3 u4 b0 b1 b2 b3 b4 t0 t1 t2 t3 t4 f0 f1 f2 f3 f4 z0 z1 z2 z3 z4 y0 y1 y2 y3 y4
        generalize (((((V.setCell ⟨w.heap.size + 1, 0, none⟩ (.int .i64 k0)).setCell ⟨w.heap.size + 1, 1, none⟩ (.string n0)).setCell ⟨w.heap.size + 1, 2, none⟩ (.int .i64 i0)).setCell ⟨w.heap.size + 1, 3, none⟩ (.int .i64 m0)).setCell ⟨w.heap.size + 1, 4, none⟩ (.slice a0 l0 p0)) = V1 at *
        obtain ⟨hB0, hB1, hL⟩ := fin2 hA0 hA1 hA2 (.int .i64 k1) (.string n1) (.int .i64 i1) (.int .i64 m1) (.slice a1 l1 p1)
        clear hA0 hA1 hA2
        generalize (((((V1.setCell ⟨w.heap.size + 1 + 1, 0, none⟩ (.int .i64 k1)).setCell ⟨w.heap.size + 1 + 1, 1, none⟩ (.string n1)).setCell ⟨w.heap.size + 1 + 1, 2, none⟩ (.int .i64 i1)).setCell ⟨w.heap.size + 1 + 1, 3, none⟩ (.int .i64 m1)).setCell ⟨w.heap.size + 1 + 1, 4, none⟩ (.slice a1 l1 p1)).drew = X at *
        obtain ⟨c0, c1, c2, c3, c4⟩ := hB0.cells
        obtain ⟨d0, d1, d2, d3, d4⟩ := hB1.cells
        go_wp2
        refine bodyPost_ret (by simp [results, Tryd.results59, go_sem, c0, c1, c2, c3, c4, d0, d1, d2, d3, d4]; try rfl) rfl ?_
        refine ⟨_, _, _, _, _, _, _, _, _, _, _, _, _, _, by rw [HI.out], hL, fun _ a' c' e' => ?_⟩
        rw [HTs.out] at e'
        cases e'
        exact ⟨HX0.out.lift hL, HX1.out.lift hL⟩
end Go.Proofs.YtfkbifbodpelmaaDoor

/- The package's IsArrow. -/
namespace Go.Proofs.YtfkbifbodpelmaaDoor
open Go.RowKit Go.Maps Mth

theorem fin2n {w V : World} {v0 v1 v2 v3 v4 : Value} (hB : Box V (w.heap.size + 1) v0 v1 v2 v3 v4) (h1 : Zero V (w.heap.size + 1 + 1)) (hL : Below w.heap.size w V) (u0 u1 u2 u3 u4 : Value) :
    Box (((((V.setCell ⟨w.heap.size + 1 + 1, 0, none⟩ u0).setCell ⟨w.heap.size + 1 + 1, 1, none⟩ u1).setCell ⟨w.heap.size + 1 + 1, 2, none⟩ u2).setCell ⟨w.heap.size + 1 + 1, 3, none⟩ u3).setCell ⟨w.heap.size + 1 + 1, 4, none⟩ u4) (w.heap.size + 1) v0 v1 v2 v3 v4 ∧ Box (((((V.setCell ⟨w.heap.size + 1 + 1, 0, none⟩ u0).setCell ⟨w.heap.size + 1 + 1, 1, none⟩ u1).setCell ⟨w.heap.size + 1 + 1, 2, none⟩ u2).setCell ⟨w.heap.size + 1 + 1, 3, none⟩ u3).setCell ⟨w.heap.size + 1 + 1, 4, none⟩ u4) (w.heap.size + 1 + 1) u0 u1 u2 u3 u4 ∧ Below w.heap.size w (((((V.setCell ⟨w.heap.size + 1 + 1, 0, none⟩ u0).setCell ⟨w.heap.size + 1 + 1, 1, none⟩ u1).setCell ⟨w.heap.size + 1 + 1, 2, none⟩ u2).setCell ⟨w.heap.size + 1 + 1, 3, none⟩ u3).setCell ⟨w.heap.size + 1 + 1, 4, none⟩ u4) := by
  obtain ⟨hB2, hG2, -⟩ := set5 h1 u0 u1 u2 u3 u4
  have h3 := hB.kept (hG2.block _ hB.lt (by intro e; have := Option.some.inj e; omega))
  have h4 := Below.grown hL hG2 hL.size (fun k hk => by have := Option.some.inj hk; omega)
  exact ⟨h3, hB2, h4⟩
set_option maxRecDepth 100000 in
set_option maxHeartbeats 3200000 in
theorem pkArrow_any (T : Ty) (hT : isArr T = true → ∃ a c, T.ts = [a, c]) (v : Value) (S : Nat → Prop) (w : World) (h : Rep w S T v) :
    Calls Tryd.prog 94 #[v] w (IsArrEnd w S T) := by
  have HR := Lib.hid h
  obtain ⟨k, n, i, hm, s, eT, rfl, hn, hs⟩ := h.open
  obtain ⟨sa, sc, rfl, hcap, hj⟩ := hs
  have hk : T.k = k := by rw [eT]; rfl
  have hn' : T.n = n := by rw [eT]; rfl
  have HIA := Lib.hid (ia_new w (.int .i64 k) (.string n) (.int .i64 i) (.int .i64 hm) (.slice sa T.ts.length sc))
  have HA : Hid (isArr T = (k == 4 && n.toList == [45, 62])) := by show _ = _; unfold isArr; rw [hk, hn']
  have HJ := Lib.hid hj
  clear h eT hn hk hn' hj
  have HF : isArr T = false → ∀ V : World, Below w.heap.size w V → IsArrEnd w S T (.returned (.tuple #[.agg #[.int .i64 0, .string ⟨#[]⟩, .int .i64 0, .int .i64 0, .slice none 0 0], .agg #[.int .i64 0, .string ⟨#[]⟩, .int .i64 0, .int .i64 0, .slice none 0 0], .bool false])) V := fun h V hV =>
    ⟨_, _, _, _, _, _, _, _, _, _, _, _, _, _, by rw [h], hV, fun h' => by rw [h] at h'; cases h'⟩
  cases h4 : (k == 4) with
  | false =>
    have hn4 : (k != 4) = true := by rw [bne, h4]; rfl
    have HF := Lib.hid (HF (by rw [HA.out, h4]; rfl))
    clear HJ hT HA HR
    generalize T.ts.length = tn at *
    go_enter Tryd.func94, Tryd.ntmps94
    go_upto_region 1 with fail
    generalize (((w.alloc (.cells #[.int .i64 k, .string n, .int .i64 i, .int .i64 hm, .slice sa tn sc] 35)).alloc (.cells #[.int .i64 0, .string ⟨#[]⟩, .int .i64 0, .int .i64 0, .slice none 0 0] 35)).alloc (.cells #[.int .i64 0, .string ⟨#[]⟩, .int .i64 0, .int .i64 0, .slice none 0 0] 35)) = V at *
    obtain ⟨b0, b1, b2, b3, b4⟩ := HIA.out.par.cells
    obtain ⟨t0, t1, t2, t3, t4⟩ := HIA.out.r0.cells
    obtain ⟨f0, f1, f2, f3, f4⟩ := HIA.out.r0.frozen
    obtain ⟨z0, z1, z2, z3, z4⟩ := HIA.out.r1.cells
    obtain ⟨y0, y1, y2, y3, y4⟩ := HIA.out.r1.frozen
    go_wp2
    obtain ⟨hA0, hA1, hA2⟩ := HIA.out.fin1 (.int .i64 0) (.string ⟨#[]⟩) (.int .i64 0) (.int .i64 0) (.slice none 0 0)
    clear t0 t1 t2 t3 t4 f0 f1 f2 f3 f4 z0 z1 z2 z3 z4 y0 y1 y2 y3 y4
    generalize (((((V.setCell ⟨w.heap.size + 1, 0, none⟩ (.int .i64 0)).setCell ⟨w.heap.size + 1, 1, none⟩ (.string ⟨#[]⟩)).setCell ⟨w.heap.size + 1, 2, none⟩ (.int .i64 0)).setCell ⟨w.heap.size + 1, 3, none⟩ (.int .i64 0)).setCell ⟨w.heap.size + 1, 4, none⟩ (.slice none 0 0)) = V1 at *
    obtain ⟨hB0, hB1, hL⟩ := fin2n hA0 hA1 hA2 (.int .i64 0) (.string ⟨#[]⟩) (.int .i64 0) (.int .i64 0) (.slice none 0 0)
    clear hA0 hA1 hA2
    generalize (((((V1.setCell ⟨w.heap.size + 1 + 1, 0, none⟩ (.int .i64 0)).setCell ⟨w.heap.size + 1 + 1, 1, none⟩ (.string ⟨#[]⟩)).setCell ⟨w.heap.size + 1 + 1, 2, none⟩ (.int .i64 0)).setCell ⟨w.heap.size + 1 + 1, 3, none⟩ (.int .i64 0)).setCell ⟨w.heap.size + 1 + 1, 4, none⟩ (.slice none 0 0)) = X at *
    obtain ⟨c0, c1, c2, c3, c4⟩ := hB0.cells
    obtain ⟨d0, d1, d2, d3, d4⟩ := hB1.cells
    refine bodyPost_ret (by simp [results, Tryd.results94, go_sem, c0, c1, c2, c3, c4, d0, d1, d2, d3, d4]; try rfl) rfl ?_
    exact HF.out X hL
  | true =>
    cases hA : (n.toList == [45, 62]) with
    | false =>
      have hn4 : (k != 4) = false := by rw [bne, h4]; rfl
      have hnA : (n.toList != [45, 62]) = true := by rw [bne, hA]; rfl
      have HF := Lib.hid (HF (by rw [HA.out, h4, hA]; rfl))
      clear HJ hT HA HR
      generalize T.ts.length = tn at *
      go_enter Tryd.func94, Tryd.ntmps94
      go_upto_region 1 with fail
      generalize (((w.alloc (.cells #[.int .i64 k, .string n, .int .i64 i, .int .i64 hm, .slice sa tn sc] 35)).alloc (.cells #[.int .i64 0, .string ⟨#[]⟩, .int .i64 0, .int .i64 0, .slice none 0 0] 35)).alloc (.cells #[.int .i64 0, .string ⟨#[]⟩, .int .i64 0, .int .i64 0, .slice none 0 0] 35)) = V at *
      obtain ⟨b0, b1, b2, b3, b4⟩ := HIA.out.par.cells
      obtain ⟨t0, t1, t2, t3, t4⟩ := HIA.out.r0.cells
      obtain ⟨f0, f1, f2, f3, f4⟩ := HIA.out.r0.frozen
      obtain ⟨z0, z1, z2, z3, z4⟩ := HIA.out.r1.cells
      obtain ⟨y0, y1, y2, y3, y4⟩ := HIA.out.r1.frozen
      go_wp2
      obtain ⟨hA0, hA1, hA2⟩ := HIA.out.fin1 (.int .i64 0) (.string ⟨#[]⟩) (.int .i64 0) (.int .i64 0) (.slice none 0 0)
      clear t0 t1 t2 t3 t4 f0 f1 f2 f3 f4 z0 z1 z2 z3 z4 y0 y1 y2 y3 y4
      generalize (((((V.setCell ⟨w.heap.size + 1, 0, none⟩ (.int .i64 0)).setCell ⟨w.heap.size + 1, 1, none⟩ (.string ⟨#[]⟩)).setCell ⟨w.heap.size + 1, 2, none⟩ (.int .i64 0)).setCell ⟨w.heap.size + 1, 3, none⟩ (.int .i64 0)).setCell ⟨w.heap.size + 1, 4, none⟩ (.slice none 0 0)) = V1 at *
      obtain ⟨hB0, hB1, hL⟩ := fin2n hA0 hA1 hA2 (.int .i64 0) (.string ⟨#[]⟩) (.int .i64 0) (.int .i64 0) (.slice none 0 0)
      clear hA0 hA1 hA2
      generalize (((((V1.setCell ⟨w.heap.size + 1 + 1, 0, none⟩ (.int .i64 0)).setCell ⟨w.heap.size + 1 + 1, 1, none⟩ (.string ⟨#[]⟩)).setCell ⟨w.heap.size + 1 + 1, 2, none⟩ (.int .i64 0)).setCell ⟨w.heap.size + 1 + 1, 3, none⟩ (.int .i64 0)).setCell ⟨w.heap.size + 1 + 1, 4, none⟩ (.slice none 0 0)) = X at *
      obtain ⟨c0, c1, c2, c3, c4⟩ := hB0.cells
      obtain ⟨d0, d1, d2, d3, d4⟩ := hB1.cells
      refine bodyPost_ret (by simp [results, Tryd.results94, go_sem, c0, c1, c2, c3, c4, d0, d1, d2, d3, d4]; try rfl) rfl ?_
      exact HF.out X hL
    | true =>
      have HI : Hid (isArr T = true) := by show _ = _; rw [HA.out, h4, hA]; rfl
      obtain ⟨a, c, eTs⟩ := hT HI.out
      have HTs := Lib.hid eTs
      obtain ⟨ad, x, rfl, hS0, h50, hx0⟩ := HJ.out 0 a (by rw [eTs]; rfl)
      obtain ⟨ad', y, e', hS1, h51, hx1⟩ := HJ.out 1 c (by rw [eTs]; rfl)
      cases e'
      have hlen : T.ts.length = 2 := by rw [eTs]; rfl
      rw [hlen] at HIA HR hcap ⊢
      clear eTs HJ hT HA HF hlen
      obtain ⟨k0, n0, i0, m0, s0, -, rfl, -, hs0⟩ := hx0.open
      obtain ⟨a0, p0, rfl, -⟩ := hs0
      obtain ⟨k1, n1, i1, m1, s1, -, rfl, -, hs1⟩ := hx1.open
      obtain ⟨a1, p1, rfl, -⟩ := hs1
      have HX0 := Lib.hid hx0
      have HX1 := Lib.hid hx1
      generalize a.ts.length = l0 at *
      generalize c.ts.length = l1 at *
      have HG0 := Lib.hid h50
      have HG1 := Lib.hid h51
      have had : ad.block < w.heap.size := h50.lt
      clear hx0 hx1 h50 h51 hS0 hS1
      go_enter Tryd.func94, Tryd.ntmps94
      go_upto_region 1 with fail
      generalize (((w.alloc (.cells #[.int .i64 k, .string n, .int .i64 i, .int .i64 hm, .slice (some ad) 2 sc] 35)).alloc (.cells #[.int .i64 0, .string ⟨#[]⟩, .int .i64 0, .int .i64 0, .slice none 0 0] 35)).alloc (.cells #[.int .i64 0, .string ⟨#[]⟩, .int .i64 0, .int .i64 0, .slice none 0 0] 35)) = V at *
      have hn4 : (k != 4) = false := by rw [bne, h4]; rfl
      have hnA : (n.toList != [45, 62]) = false := by rw [bne, hA]; rfl
      have g0 := HG0.out.kept (HIA.out.low.block _ had)
      have g1 := HG1.out.kept (HIA.out.low.block _ had)
      obtain ⟨q0, q1, q2, q3, q4⟩ := five0 g0
      obtain ⟨u0, u1, u2, u3, u4⟩ := five1 g1
      obtain ⟨b0, b1, b2, b3, b4⟩ := HIA.out.par.cells
      obtain ⟨t0, t1, t2, t3, t4⟩ := HIA.out.r0.cells
      obtain ⟨f0, f1, f2, f3, f4⟩ := HIA.out.r0.frozen
      obtain ⟨z0, z1, z2, z3, z4⟩ := HIA.out.r1.cells
      obtain ⟨y0, y1, y2, y3, y4⟩ := HIA.out.r1.frozen
      clear g0 g1
      go_wp2
      go_region
      all_goals
        obtain ⟨hA0, hA1, hA2⟩ := HIA.out.fin1 (.int .i64 k0) (.string n0) (.int .i64 i0) (.int .i64 m0) (.slice a0 l0 p0)
        clear q0 q1 q2 q3 q4 u0 u1 u2 u3 u4 b0 b1 b2 b3 b4 t0 t1 t2 t3 t4 f0 f1 f2 f3 f4 z0 z1 z2 z3 z4 y0 y1 y2 y3 y4
        generalize (((((V.setCell ⟨w.heap.size + 1, 0, none⟩ (.int .i64 k0)).setCell ⟨w.heap.size + 1, 1, none⟩ (.string n0)).setCell ⟨w.heap.size + 1, 2, none⟩ (.int .i64 i0)).setCell ⟨w.heap.size + 1, 3, none⟩ (.int .i64 m0)).setCell ⟨w.heap.size + 1, 4, none⟩ (.slice a0 l0 p0)) = V1 at *
        obtain ⟨hB0, hB1, hL⟩ := fin2 hA0 hA1 hA2 (.int .i64 k1) (.string n1) (.int .i64 i1) (.int .i64 m1) (.slice a1 l1 p1)
        clear hA0 hA1 hA2
        generalize (((((V1.setCell ⟨w.heap.size + 1 + 1, 0, none⟩ (.int .i64 k1)).setCell ⟨w.heap.size + 1 + 1, 1, none⟩ (.string n1)).setCell ⟨w.heap.size + 1 + 1, 2, none⟩ (.int .i64 i1)).setCell ⟨w.heap.size + 1 + 1, 3, none⟩ (.int .i64 m1)).setCell ⟨w.heap.size + 1 + 1, 4, none⟩ (.slice a1 l1 p1)).drew = X at *
        obtain ⟨c0, c1, c2, c3, c4⟩ := hB0.cells
        obtain ⟨d0, d1, d2, d3, d4⟩ := hB1.cells
        go_wp2
        refine bodyPost_ret (by simp [results, Tryd.results94, go_sem, c0, c1, c2, c3, c4, d0, d1, d2, d3, d4]; try rfl) rfl ?_
        refine ⟨_, _, _, _, _, _, _, _, _, _, _, _, _, _, by rw [HI.out], hL, fun _ a' c' e' => ?_⟩
        rw [HTs.out] at e'
        cases e'
        exact ⟨HX0.out.lift hL, HX1.out.lift hL⟩
end Go.Proofs.YtfkbifbodpelmaaDoor

/- A text that is written piece by piece: what strings.Builder does. -/
namespace Go.Proofs.YtfkbifbodpelmaaDoor
open Go.RowKit Mth

theorem bdSize : (Tryd.prog.info? 74).map (·.size) = some 2 := by kernel_rfl
theorem bdLies : liesAt Tryd.prog Tryd.prog.depth 74 (2 / Tryd.prog.cellsOf 74) 0 74 1 = true := by kernel_rfl
theorem byInfo : (Tryd.prog.info? 5).map (fun i => (i.zero, i.size, i.bytes)) = some (some (.int .u8 0), 1, 1) := by kernel_rfl
/-- The text so far, in the variable b. -/
def Wr (B b : Nat) (l : List UInt8) (w : World) : Prop := Lib.IsBuilderF 74 5 B b (Lib.byteCells l) w
/-- What a writer leaves alone. -/
def Fr (B b : Nat) (w w' : World) : Prop := Below B w w' ∧ Lib.OthersKept 5 (some b) w w'
theorem Fr.refl (B b : Nat) (w : World) : Fr B b w w := ⟨Below.refl _ _, Lib.OthersKept.refl _ _ _⟩
theorem Fr.trans {B b : Nat} {w v x : World} (h : Fr B b w v) (k : Fr B b v x) : Fr B b w x := ⟨h.1.trans k.1, h.2.trans k.2⟩
theorem Fr.size {B b : Nat} {w w' : World} (h : Fr B b w w') : w.heap.size ≤ w'.heap.size := h.1.size
theorem Fr.alloc {B b : Nat} {w v : World} (h : Fr B b w v) (hB : B ≤ v.heap.size) (o : Obj) : Fr B b w (v.alloc o) := ⟨h.1.alloc hB _, h.2.alloc o⟩
theorem Fr.drew {B b : Nat} {w v : World} (h : Fr B b w v) : Fr B b w v.drew := ⟨h.1.drew, h.2⟩
theorem Wr.lt {B b : Nat} {l : List UInt8} {w : World} (h : Wr B b l w) : B ≤ b ∧ b < w.heap.size := by
  rcases h with h | h
  · exact ⟨h.1, h.lt⟩
  · exact ⟨h.1, h.lt⟩
set_option maxHeartbeats 800000 in
set_option maxRecDepth 100000 in
theorem check_used (b : Nat) (w : World) (h0 : w.cell? ⟨b, 0, none⟩ = some (.pointer (some ⟨b, 0, none⟩))) :
    Calls Tryd.prog 81 #[.pointer (some ⟨b, 0, none⟩)] w fun e w' => e = .returned (.tuple #[]) ∧ w' = w := by
  obtain ⟨j, hj, -⟩ := Option.map_eq_some_iff.1 bdSize
  have hq := Lib.run_neq_ptr_same (P := Tryd.prog) w ⟨b, 0, none⟩ Tryd.underlying71 hj
  go_enter Tryd.func81, Tryd.ntmps81
  go_wp2
  go_end0
  exact ⟨rfl, rfl⟩
set_option maxHeartbeats 800000 in
set_option maxRecDepth 100000 in
theorem check_fresh (b : Nat) (w : World) (h0 : w.cell? ⟨b, 0, none⟩ = some (.pointer none)) (hs : w.shape? b = some (74, 2)) (hf : w.frozen? ⟨b, 0, none⟩ = false) :
    Calls Tryd.prog 81 #[.pointer (some ⟨b, 0, none⟩)] w fun e w' => e = .returned (.tuple #[]) ∧ w' = w.setCell ⟨b, 0, none⟩ (.pointer (some ⟨b, 0, none⟩)) := by
  obtain ⟨j, hj, hjs⟩ := Option.map_eq_some_iff.1 bdSize
  have k1 := Lib.run_to_unsafe (P := Tryd.prog) w ⟨b, 0, none⟩ Tryd.underlying71 Tryd.underlying138 hj (by rw [hjs]; decide) hs (Nat.zero_lt_succ 1)
  have k2 := Lib.run_from_unsafe (P := Tryd.prog) w ⟨b, 0, none⟩ Tryd.underlying138 Tryd.underlying71 hj hs bdLies
  go_enter Tryd.func81, Tryd.ntmps81
  go_wp2
  rw [run_callFunc_extern Tryd.func101 (by kernel_rfl) (by kernel_rfl) (by kernel_rfl) (e := Extern.AbiNoEscape.same) (by kernel_rfl), Lib.run_noEscape]
  simp only [Result.andThen]
  rw [Oper.upon_value]
  go_wp2
  go_end0
  exact ⟨rfl, rfl⟩
/-- The check: behind it the variable knows its own place. -/
theorem check_any (B b : Nat) (l : List UInt8) (w : World) (h : Wr B b l w) :
    Calls Tryd.prog 81 #[.pointer (some ⟨b, 0, none⟩)] w fun e w' => e = .returned (.tuple #[]) ∧ Lib.BuilderAtF 74 5 B b (.pointer (some ⟨b, 0, none⟩)) (Lib.byteCells l) w' ∧ Fr B b w w' := by
  rcases h with h | h
  · refine (check_fresh b w h.cell0 h.shape h.frozen0).mono ?_
    rintro e w' ⟨he, hw⟩
    subst he hw
    exact ⟨rfl, h.used _, (Below.refl B w).setCell (p := ⟨b, 0, none⟩) h.1 _, (Lib.OthersKept.refl _ _ w).setCell ⟨b, 0, none⟩ rfl _⟩
  · refine (check_used b w h.cell0).mono ?_
    rintro e w' ⟨he, hw⟩
    subst he hw
    exact ⟨rfl, h, Fr.refl _ _ _⟩
set_option maxHeartbeats 1600000 in
set_option maxRecDepth 100000 in
theorem write_any (B b : Nat) (l : List UInt8) (s : ByteArray) (w : World) (h : Wr B b l w) (hl : l.length + s.size ≤ 1000000000) :
    Calls Tryd.prog 54 #[.pointer (some ⟨b, 0, none⟩), .string s] w fun e w' => e = .returned (.tuple #[.int .i64 s.size, .nilIface]) ∧ Wr B b (l ++ bl s) w' ∧ Fr B b w w' := by
  obtain ⟨i0, hi, hz0, hz1, hz2⟩ := info_parts byInfo
  have hBw := h.lt
  have HC := Lib.hid (check_any B b l w h)
  have hcl : (Lib.byteCells l).length = l.length := by simp [Lib.byteCells]
  have HCl := Lib.hid hcl
  clear h hcl
  go_enter Tryd.func54, Tryd.ntmps54
  go_wp2_with fail
  go_at_call 81
  refine HC.out.mono ?_
  rintro e w1 ⟨rfl, hb1, hf1⟩
  obtain ⟨hB, v, hbk, hown, hne⟩ := hb1
  have hsz := hf1.size
  have HF := Lib.hid hf1
  have HO := Lib.hid hown
  have HN := Lib.hid hne
  have HK := Lib.hid hbk
  rw [HCl.out] at hown
  have HO2 := Lib.hid hown
  have c1 : w1.cell? ⟨b, 1, none⟩ = some v := by rw [Lib.cell_of_heap hbk]; rfl
  clear hf1 hown hne hbk
  go_wp2_with (at_builtin; refine Lib.wpList_append_own_stringF _ rfl _ _ 72 9 rfl B 5 i0 Tryd.underlying72 Tryd.underlying9 hi hz0 hz1 hz2 v l.length (Lib.byteCells l) rfl HO2.out s rfl ?c3 ?c4 ?c5 ?_)
  case c3 => unfold maxLen; omega
  case c4 => omega
  case c5 => omega
  intro v' w2 hown2 hg2 _
  have hlt : b < w1.heap.size := by omega
  have hb2 : w2.heap[b]? = some (.cells #[.pointer (some ⟨b, 0, none⟩), v] 74 (0, 0)) := by
    rw [hg2.block b hlt (fun e => HN.out e.symm)]
    exact HK.out
  have HB2 := Lib.hid hb2
  have HO3 := Lib.hid hown2
  have HG2 := Lib.hid hg2
  have d1 : w2.cell? ⟨b, 1, none⟩ = some v := by rw [Lib.cell_of_heap hb2]; rfl
  have f1 : w2.frozen? ⟨b, 1, none⟩ = false := Lib.frozen_of_heap hb2 1
  obtain ⟨ao, m, cap, rfl⟩ : ∃ ao m cap, v' = .slice ao m cap := by
    rcases hown2.2 with ⟨hv, _⟩ | ⟨g, cap, cur, fz, hv, _⟩
    · exact ⟨_, _, _, hv⟩
    · exact ⟨_, _, _, hv⟩
  clear hown2 hg2 hb2
  go_wp2
  go_ret2
  refine ⟨rfl, .inr (Lib.BuilderAtF.put hB HB2.out (bs' := Lib.byteCells (l ++ bl s)) ?_ (by decide)), ?_, ?_⟩
  · have e1 : (Lib.byteCells (l ++ bl s)).length = l.length + s.size := by simp [Lib.byteCells, bl_len]
    rw [e1, Lib.byteCells_append]
    exact HO3.out
  · exact (Below.grown HF.out.1 HG2.out (by omega) (fun k hk => (HO.out.lt k hk).1)).setCell (p := ⟨b, 1, none⟩) hB _
  · exact (HF.out.2.grown HG2.out (Lib.ownsRowF_kind HO.out)).setCell ⟨b, 1, none⟩ rfl _
end Go.Proofs.YtfkbifbodpelmaaDoor
