/- The law TypesEqual returns true at every input. -/
import Derived.Test.YtodbmgmjnenlpaaTyMade
import Derived.Test.YtodbmgmjnenlpaaTyFirst
import Derived.Test.YtodbmgmjnenlpaaTySmall
import Derived.Test.YtodbmgmjnenlpaaTyEq3
import Derived.Test.YtodbmgmjnenlpaaTyKit
import Derived.Test.YtodbmgmjnenlpaaTyPType
import Derived.Deep.CutBlock
namespace Go.Proofs.Ytodbmgmjnenlpaa
open Go.RowKit Go.Sort Go.Shelf Go.Maps Mth

/-- The two boxes of the arguments. -/
structure E2 (w : World) (a0 a1 a2 a3 a4 b0 b1 b2 b3 b4 : Value) (v : World) : Prop where
  x : Box v w.heap.size a0 a1 a2 a3 a4
  y : Box v (w.heap.size + 1) b0 b1 b2 b3 b4
  low : Below w.heap.size w v
theorem E2.lift {w v v' : World} {a0 a1 a2 a3 a4 b0 b1 b2 b3 b4 : Value} (h : E2 w a0 a1 a2 a3 a4 b0 b1 b2 b3 b4 v) (hb : Below v.heap.size v v') : E2 w a0 a1 a2 a3 a4 b0 b1 b2 b3 b4 v' :=
  ⟨Box.lift h.x hb, Box.lift h.y hb, h.low.trans (hb.mono h.low.size)⟩
def AfterA (w : World) (a0 a1 a2 a3 a4 b0 b1 b2 b3 b4 : Value) (T : Ty) (u : Value) (v : World) : Prop := Rep v (fun c => c < w.heap.size) T u ∧ E2 w a0 a1 a2 a3 a4 b0 b1 b2 b3 b4 v
def AfterB (w : World) (a0 a1 a2 a3 a4 b0 b1 b2 b3 b4 : Value) (T U : Ty) (t u : Value) (v : World) : Prop := Rep v (fun c => c < w.heap.size) T t ∧ Rep v (fun c => c < w.heap.size) U u ∧ E2 w a0 a1 a2 a3 a4 b0 b1 b2 b3 b4 v
/-- Both are stored. -/
theorem e2_end {w v : World} {a0 a1 a2 a3 a4 b0 b1 b2 b3 b4 : Value} {T U : Ty} {p0 p1 p2 p3 p4 q0 q1 q2 q3 q4 : Value} (h : AfterB w a0 a1 a2 a3 a4 b0 b1 b2 b3 b4 T U (.agg #[p0, p1, p2, p3, p4]) (.agg #[q0, q1, q2, q3, q4]) v) :
    AfterB w p0 p1 p2 p3 p4 q0 q1 q2 q3 q4 T U (.agg #[p0, p1, p2, p3, p4]) (.agg #[q0, q1, q2, q3, q4])
      ((((((((((v.setCell ⟨w.heap.size, 0, none⟩ p0).setCell ⟨w.heap.size, 1, none⟩ p1).setCell ⟨w.heap.size, 2, none⟩ p2).setCell ⟨w.heap.size, 3, none⟩ p3).setCell ⟨w.heap.size, 4, none⟩ p4).setCell ⟨w.heap.size + 1, 0, none⟩ q0).setCell ⟨w.heap.size + 1, 1, none⟩ q1).setCell ⟨w.heap.size + 1, 2, none⟩ q2).setCell ⟨w.heap.size + 1, 3, none⟩ q3).setCell ⟨w.heap.size + 1, 4, none⟩ q4) := by
  obtain ⟨hT, hU, hE⟩ := h
  obtain ⟨hX, hg, hs⟩ := set5 hE.x p0 p1 p2 p3 p4
  have hY := Box.grown hE.y hg (by intro e; have := Option.some.inj e; omega)
  have hl := Below.grown hE.low hg hE.low.size (fun k hk => by cases hk; exact Nat.le_refl _)
  have hT' := hT.kept (fun _ h => h) (fun c hc hlt => hg.block c hlt (by intro e; have := Option.some.inj e; omega))
  have hU' := hU.kept (fun _ h => h) (fun c hc hlt => hg.block c hlt (by intro e; have := Option.some.inj e; omega))
  generalize (((((v.setCell ⟨w.heap.size, 0, none⟩ p0).setCell ⟨w.heap.size, 1, none⟩ p1).setCell ⟨w.heap.size, 2, none⟩ p2).setCell ⟨w.heap.size, 3, none⟩ p3).setCell ⟨w.heap.size, 4, none⟩ p4) = v1 at *
  obtain ⟨hY2, hg2, -⟩ := set5 hY q0 q1 q2 q3 q4
  exact ⟨hT'.kept (fun _ h => h) (fun c hc hlt => hg2.block c hlt (by intro e; have := Option.some.inj e; omega)), hU'.kept (fun _ h => h) (fun c hc hlt => hg2.block c hlt (by intro e; have := Option.some.inj e; omega)),
    Box.grown hX hg2 (by intro e; have := Option.some.inj e; omega), hY2, Below.grown hl hg2 hl.size (fun k hk => by cases hk; omega)⟩
theorem enterVT (v : Value) (w : World) : (callFunc 17 #[v]).run Try.prog w = .ok (.enter 17 #[v]) w := by kernel_rfl
/-- What the two arguments became. -/
def EMade (w : World) (T U : Ty) (v : World) : Prop :=
  ∃ (k : Int) (n : ByteArray) (i h : Int) (a : Option Addr) (m c : Nat) (k' : Int) (n' : ByteArray) (i' h' : Int) (a' : Option Addr) (m' c' : Nat),
    AfterB w (.int .i64 k) (.string n) (.int .i64 i) (.int .i64 h) (.slice a m c) (.int .i64 k') (.string n') (.int .i64 i') (.int .i64 h') (.slice a' m' c') T U (.agg #[.int .i64 k, .string n, .int .i64 i, .int .i64 h, .slice a m c]) (.agg #[.int .i64 k', .string n', .int .i64 i', .int .i64 h', .slice a' m' c']) v

theorem teq_refl (T : Ty) : teq T T = true := by
  refine Ty.induct (p := fun T => teq T T = true) (fun T ih => ?_) T
  cases T with
  | mk k n i h ts =>
    have : teqL ts ts = true := by
      have key : ∀ l : List Ty, (∀ U ∈ l, teq U U = true) → teqL l l = true := by
        intro l
        induction l with
        | nil => intro _; rfl
        | cons x l ihl => intro hl; simp [teqL, hl x (by simp), ihl fun U hU => hl U (by simp [hU])]
      exact key ts ih
    simp [teq, this]
theorem AfterB.grow {w v v' : World} {a0 a1 a2 a3 a4 b0 b1 b2 b3 b4 : Value} {T U : Ty} {t u : Value} {row : Option Nat} (h : AfterB w a0 a1 a2 a3 a4 b0 b1 b2 b3 b4 T U t u v) (hg : v.grownBy v' row) (hr : ∀ k, row = some k → w.heap.size + 2 ≤ k) : AfterB w a0 a1 a2 a3 a4 b0 b1 b2 b3 b4 T U t u v' :=
  ⟨h.1.kept (fun _ h => h) (fun c hc hlt => hg.block c hlt (by intro e; have := hr _ e.symm; omega)), h.2.1.kept (fun _ h => h) (fun c hc hlt => hg.block c hlt (by intro e; have := hr _ e.symm; omega)),
    Box.grown h.2.2.x hg (by intro e; have := hr _ e.symm; omega), Box.grown h.2.2.y hg (by intro e; have := hr _ e.symm; omega), Below.grown h.2.2.low hg h.2.2.low.size (fun k hk => by have := hr k hk; omega)⟩
/-- What holds when the third type is made. -/
structure MSt (w : World) (D b : Nat) (p0 p1 p2 p3 p4 q0 q1 q2 q3 q4 t0 t1 t2 t3 t4 : Value) (T U V : Ty) (v : World) : Prop where
  e : AfterB w p0 p1 p2 p3 p4 q0 q1 q2 q3 q4 T U (.agg #[p0, p1, p2, p3, p4]) (.agg #[q0, q1, q2, q3, q4]) v
  t : Box v D t0 t1 t2 t3 t4
  rep : Rep v (fun c => b < c ∧ c < D) V (.agg #[t0, t1, t2, t3, t4])
  tp : Tq v b
  lt1 : w.heap.size + 2 ≤ b
  lt2 : b < D
  size : D + 1 ≤ v.heap.size
theorem MSt.call {w v v' : World} {D b : Nat} {p0 p1 p2 p3 p4 q0 q1 q2 q3 q4 t0 t1 t2 t3 t4 : Value} {T U V : Ty} (h : MSt w D b p0 p1 p2 p3 p4 q0 q1 q2 q3 q4 t0 t1 t2 t3 t4 T U V v) (ht : Tq v' b) (hg : v.grownBy v' (some b)) : MSt w D b p0 p1 p2 p3 p4 q0 q1 q2 q3 q4 t0 t1 t2 t3 t4 T U V v' := by
  have h1 := h.lt1
  have h2 := h.lt2
  exact ⟨h.e.grow hg (fun k hk => by cases hk; exact h1), Box.grown h.t hg (by intro e; have := Option.some.inj e; omega), h.rep.kept (fun _ h => h) (fun c hc hlt => hg.block c hlt (by intro e; have := Option.some.inj e; omega)), ht, h1, h2, Nat.le_trans h.size hg.size⟩
theorem MSt.lift {w v v' : World} {D b : Nat} {p0 p1 p2 p3 p4 q0 q1 q2 q3 q4 t0 t1 t2 t3 t4 : Value} {T U V : Ty} (h : MSt w D b p0 p1 p2 p3 p4 q0 q1 q2 q3 q4 t0 t1 t2 t3 t4 T U V v) (hb : Below v.heap.size v v') : MSt w D b p0 p1 p2 p3 p4 q0 q1 q2 q3 q4 t0 t1 t2 t3 t4 T U V v' := h.call (h.tp.lift hb) (grown_of_below hb _)
/-- A later struct is stored. -/
theorem MSt.store {w v v' : World} {D b R : Nat} {p0 p1 p2 p3 p4 q0 q1 q2 q3 q4 t0 t1 t2 t3 t4 : Value} {T U V : Ty} (h : MSt w D b p0 p1 p2 p3 p4 q0 q1 q2 q3 q4 t0 t1 t2 t3 t4 T U V v) (hg : v.grownBy v' (some R)) (hR : D < R) : MSt w D b p0 p1 p2 p3 p4 q0 q1 q2 q3 q4 t0 t1 t2 t3 t4 T U V v' := by
  have h1 := h.lt1
  have h2 := h.lt2
  exact ⟨h.e.grow hg (fun k hk => by cases hk; omega), Box.grown h.t hg (by intro e; have := Option.some.inj e; omega), h.rep.kept (fun _ h => h) (fun c hc hlt => hg.block c hlt (by intro e; have := Option.some.inj e; omega)), h.tp.other (by omega) hg, h1, h2, Nat.le_trans h.size hg.size⟩
/-- Four boxes that stay. -/
theorem keep20 {W w1 w2 : World} {A B C D : Nat} {a0 a1 a2 a3 a4 b0 b1 b2 b3 b4 c0 c1 c2 c3 c4 d0 d1 d2 d3 d4 : Value} (h0 : w1.cell? ⟨A, 0, none⟩ = some a0) (h1 : w1.cell? ⟨A, 1, none⟩ = some a1) (h2 : w1.cell? ⟨A, 2, none⟩ = some a2) (h3 : w1.cell? ⟨A, 3, none⟩ = some a3) (h4 : w1.cell? ⟨A, 4, none⟩ = some a4)
    (k0 : w1.cell? ⟨B, 0, none⟩ = some b0) (k1 : w1.cell? ⟨B, 1, none⟩ = some b1) (k2 : w1.cell? ⟨B, 2, none⟩ = some b2) (k3 : w1.cell? ⟨B, 3, none⟩ = some b3) (k4 : w1.cell? ⟨B, 4, none⟩ = some b4)
    (l0 : w1.cell? ⟨C, 0, none⟩ = some c0) (l1 : w1.cell? ⟨C, 1, none⟩ = some c1) (l2 : w1.cell? ⟨C, 2, none⟩ = some c2) (l3 : w1.cell? ⟨C, 3, none⟩ = some c3) (l4 : w1.cell? ⟨C, 4, none⟩ = some c4)
    (m0 : w1.cell? ⟨D, 0, none⟩ = some d0) (m1 : w1.cell? ⟨D, 1, none⟩ = some d1) (m2 : w1.cell? ⟨D, 2, none⟩ = some d2) (m3 : w1.cell? ⟨D, 3, none⟩ = some d3) (m4 : w1.cell? ⟨D, 4, none⟩ = some d4) (hW : Below W.heap.size W w1) (hb : Below w1.heap.size w1 w2) :
    w2.cell? ⟨A, 0, none⟩ = some a0 ∧ w2.cell? ⟨A, 1, none⟩ = some a1 ∧ w2.cell? ⟨A, 2, none⟩ = some a2 ∧ w2.cell? ⟨A, 3, none⟩ = some a3 ∧ w2.cell? ⟨A, 4, none⟩ = some a4 ∧
    w2.cell? ⟨B, 0, none⟩ = some b0 ∧ w2.cell? ⟨B, 1, none⟩ = some b1 ∧ w2.cell? ⟨B, 2, none⟩ = some b2 ∧ w2.cell? ⟨B, 3, none⟩ = some b3 ∧ w2.cell? ⟨B, 4, none⟩ = some b4 ∧
    w2.cell? ⟨C, 0, none⟩ = some c0 ∧ w2.cell? ⟨C, 1, none⟩ = some c1 ∧ w2.cell? ⟨C, 2, none⟩ = some c2 ∧ w2.cell? ⟨C, 3, none⟩ = some c3 ∧ w2.cell? ⟨C, 4, none⟩ = some c4 ∧
    w2.cell? ⟨D, 0, none⟩ = some d0 ∧ w2.cell? ⟨D, 1, none⟩ = some d1 ∧ w2.cell? ⟨D, 2, none⟩ = some d2 ∧ w2.cell? ⟨D, 3, none⟩ = some d3 ∧ w2.cell? ⟨D, 4, none⟩ = some d4 ∧ Below W.heap.size W w2 := by
  have k : ∀ p v, w1.cell? p = some v → w2.cell? p = some v := fun p v h => (hb.cell (World.block_lt_of_cell? _ _ h)).trans h
  exact ⟨k _ _ h0, k _ _ h1, k _ _ h2, k _ _ h3, k _ _ h4, k _ _ k0, k _ _ k1, k _ _ k2, k _ _ k3, k _ _ k4, k _ _ l0, k _ _ l1, k _ _ l2, k _ _ l3, k _ _ l4, k _ _ m0, k _ _ m1, k _ _ m2, k _ _ m3, k _ _ m4, hW.trans (hb.mono hW.size)⟩

set_option maxRecDepth 100000 in
set_option maxHeartbeats 20000000 in
theorem typesEqual_any (R O : Ty) (rv ov : Value) (S S' : Nat → Prop) (bits : Int) (cv : Value) (zs : List Int) (w : World) (hr : Rep w S R rv) (ho : Rep w S' O ov) (hz : Ints w cv zs) :
    Calls Try.prog 4 #[rv, ov, .int .i64 bits, cv] w fun e w' => e = .returned (.bool true) ∧ Below w.heap.size w w' := by
  have HR := Lib.hid hr
  have HO := Lib.hid ho
  have HZ := Lib.hid hz
  obtain ⟨rk, rn, ri, rh, ra, rm, rc, rfl⟩ := hr.form
  obtain ⟨ok, on, oi, oh, oa, om, oc, rfl⟩ := ho.form
  obtain ⟨ca, cc, rfl, -, -, -⟩ := hz
  have HFi := Lib.hid (fun w => lawFirst_any w)
  have hb0 : Below w.heap.size w ((w.alloc (.cells #[.int .i64 rk, .string rn, .int .i64 ri, .int .i64 rh, .slice ra rm rc] 24)).alloc (.cells #[.int .i64 ok, .string on, .int .i64 oi, .int .i64 oh, .slice oa om oc] 24)) := ((Below.refl _ w).alloc (Nat.le_refl _) _).alloc (by simp) _
  have HX0 : Hid (Box ((w.alloc (.cells #[.int .i64 rk, .string rn, .int .i64 ri, .int .i64 rh, .slice ra rm rc] 24)).alloc (.cells #[.int .i64 ok, .string on, .int .i64 oi, .int .i64 oh, .slice oa om oc] 24)) w.heap.size (.int .i64 rk) (.string rn) (.int .i64 ri) (.int .i64 rh) (.slice ra rm rc)) := by
    show Box _ _ _ _ _ _ _
    unfold Box; rw [heap_at, if_neg (by simp), heap_at, if_pos rfl]
  have HY0 : Hid (Box ((w.alloc (.cells #[.int .i64 rk, .string rn, .int .i64 ri, .int .i64 rh, .slice ra rm rc] 24)).alloc (.cells #[.int .i64 ok, .string on, .int .i64 oi, .int .i64 oh, .slice oa om oc] 24)) (w.heap.size + 1) (.int .i64 ok) (.string on) (.int .i64 oi) (.int .i64 oh) (.slice oa om oc)) := by
    show Box _ _ _ _ _ _ _
    unfold Box; rw [heap_at, if_pos (by simp)]
  have HSm : Hid (∀ w', Below w.heap.size w w' → Calls Try.prog 9 #[.agg #[.int .i64 rk, .string rn, .int .i64 ri, .int .i64 rh, .slice ra rm rc]] w' fun e w'' => e = .returned (.bool (decide (nodes R ≤ 60))) ∧ Below w'.heap.size w' w'') := fun w' hb => small_any R _ S w' (HR.out.lift hb)
  have HSo : Hid (∀ w', Below w.heap.size w w' → Calls Try.prog 9 #[.agg #[.int .i64 ok, .string on, .int .i64 oi, .int .i64 oh, .slice oa om oc]] w' fun e w'' => e = .returned (.bool (decide (nodes O ≤ 60))) ∧ Below w'.heap.size w' w'') := fun w' hb => small_any O _ S' w' (HO.out.lift hb)
  have HFw : Hid (∀ w', Below w.heap.size w w' → Calls Try.prog 10 #[.slice ca zs.length cc] w' fun e w'' => e = .returned (.bool (decide (zs.length ≤ 60))) ∧ w' = w'') := fun w' hb => few_any _ zs w' (HZ.out.lift hb)
  have HMd : Hid (zs.length ≤ 60 → ∀ w', Below w.heap.size w w' → Calls Try.prog 11 #[.int .i64 bits, .slice ca zs.length cc] w' fun e w'' => ∃ (b : Nat) (T : Ty) (u : Value), e = .returned (.tuple #[u, .pointer (some ⟨b, 0, none⟩)]) ∧ w'.heap.size ≤ b ∧ Rep w'' (fun c => b < c) T u ∧ Ok 4 T ∧ Tq w'' b ∧ Below w'.heap.size w' w'') := fun h w' hb => made_any bits _ zs w' (by omega) (HZ.out.lift hb)
  clear hr ho
  generalize zs.length = zn at *
  cases hsm : decide (nodes R ≤ 60) <;> cases hso : decide (nodes O ≤ 60) <;> cases hfw : decide (zn ≤ 60)
  all_goals
    rw [hsm] at HSm
    rw [hso] at HSo
    rw [hfw] at HFw
    have HFwp := Lib.hid hfw
    clear hsm hso hfw
    go_enter Try.func4, Try.ntmps4
    go_wp2_with fail
    go_at_call 8
    refine (HFi.out _).mono ?_
    rintro e w1 ⟨rfl, hb1⟩
    have hbw1 := hb0.trans (hb1.mono hb0.size)
    have HX1 := Lib.hid (Box.lift HX0.out hb1)
    have HY1 := Lib.hid (Box.lift HY0.out hb1)
    obtain ⟨x0, x1, x2, x3, x4⟩ := HX1.out.cells
    go_wp2_with fail
    go_at_call 9
    refine (HSm.out _ hbw1).mono ?_
    rintro e w2 ⟨rfl, hb2⟩
    have hbw2 := hbw1.trans (hb2.mono hbw1.size)
    have HX2 := Lib.hid (Box.lift HX1.out hb2)
    have HY2 := Lib.hid (Box.lift HY1.out hb2)
    clear x0 x1 x2 x3 x4
    obtain ⟨x0, x1, x2, x3, x4⟩ := HX2.out.cells
    obtain ⟨y0, y1, y2, y3, y4⟩ := HY2.out.cells
    clear hb1 hb2 HX1 HY1 hbw1
    go_wp2_with fail
  any_goals (go_ret; exact ⟨rfl, hbw2⟩)
  all_goals
    go_at_call 9
    refine (HSo.out _ hbw2).mono ?_
    rintro e w3 ⟨rfl, hb3⟩
    have hbw3 := hbw2.trans (hb3.mono hbw2.size)
    have HX3 := Lib.hid (Box.lift HX2.out hb3)
    have HY3 := Lib.hid (Box.lift HY2.out hb3)
    clear x0 x1 x2 x3 x4 y0 y1 y2 y3 y4
    obtain ⟨x0, x1, x2, x3, x4⟩ := HX3.out.cells
    obtain ⟨y0, y1, y2, y3, y4⟩ := HY3.out.cells
    clear hb3 HX2 HY2
    go_wp2_with (go_at_call 10; refine (HFw.out _ hbw3).mono ?_; rintro e w4 ⟨rfl, rfl⟩)
  any_goals (go_ret; exact ⟨rfl, hbw3⟩)
  have HE3 : Hid (E2 w (.int .i64 rk) (.string rn) (.int .i64 ri) (.int .i64 rh) (.slice ra rm rc) (.int .i64 ok) (.string on) (.int .i64 oi) (.int .i64 oh) (.slice oa om oc) w3) := ⟨HX3.out, HY3.out, hbw3⟩
  clear x0 x1 x2 x3 x4 y0 y1 y2 y3 y4 HX3 HY3 hbw3 hbw2 HX0 HY0 hb0 HSm HSo HFw HFi
  go_cut [8] (fun s8 wx => s8 = .bool false ∧ Hid (EMade w (vt R) (vt O) wx))
  case first =>
    have hbd : Below w3.heap.size w3 w3.drew := (Below.refl _ w3).drew
    have HE4 := Lib.hid (HE3.out.lift hbd)
    obtain ⟨x0, x1, x2, x3, x4⟩ := HE4.out.x.cells
    obtain ⟨y0, y1, y2, y3, y4⟩ := HE4.out.y.cells
    have HRs := Lib.hid ((HR.out.bound.imp (S' := fun c => c < w.heap.size) (fun c hc => hc.2)))
    have HOs := Lib.hid ((HO.out.bound.imp (S' := fun c => c < w.heap.size) (fun c hc => hc.2)))
    have HCa : Hid (Calls Try.prog 17 #[.agg #[.int .i64 rk, .string rn, .int .i64 ri, .int .i64 rh, .slice ra rm rc]] w3.drew fun e v' => ∃ u, e = .returned u ∧ AfterA w (.int .i64 rk) (.string rn) (.int .i64 ri) (.int .i64 rh) (.slice ra rm rc) (.int .i64 ok) (.string on) (.int .i64 oi) (.int .i64 oh) (.slice oa om oc) (vt R) u v') :=
      (validType_any R _ _ _ (HRs.out.lift HE4.out.low)).mono fun e v' ⟨u, h1, h2, h3⟩ => ⟨u, h1, h2, HE4.out.lift h3⟩
    have HCb : Hid (∀ v u, AfterA w (.int .i64 rk) (.string rn) (.int .i64 ri) (.int .i64 rh) (.slice ra rm rc) (.int .i64 ok) (.string on) (.int .i64 oi) (.int .i64 oh) (.slice oa om oc) (vt R) u v → Calls Try.prog 17 #[.agg #[.int .i64 ok, .string on, .int .i64 oi, .int .i64 oh, .slice oa om oc]] v fun e v' => ∃ u', e = .returned u' ∧ AfterB w (.int .i64 rk) (.string rn) (.int .i64 ri) (.int .i64 rh) (.slice ra rm rc) (.int .i64 ok) (.string on) (.int .i64 oi) (.int .i64 oh) (.slice oa om oc) (vt R) (vt O) u u' v') := fun v u hA =>
      (validType_any O _ _ _ (HOs.out.lift hA.2.low)).mono fun e v' ⟨u', h1, h2, h3⟩ => ⟨u', h1, hA.1.lift h3, h2, hA.2.lift h3⟩
    clear hbd HE3
    go_region_law
      (first
        | ((with_reducible refine step_call1 17 enterVT (.agg #[.int .i64 rk, .string rn, .int .i64 ri, .int .i64 rh, .slice ra rm rc]) (fun u w' => AfterA w (.int .i64 rk) (.string rn) (.int .i64 ri) (.int .i64 rh) (.slice ra rm rc) (.int .i64 ok) (.string on) (.int .i64 oi) (.int .i64 oh) (.slice oa om oc) (vt R) u w') ?_ ?_ ?_); (rfl); (exact HCa.out); (rintro u1 v1 hA); (have HA := Lib.hid hA); (clear x0 x1 x2 x3 x4 y0 y1 y2 y3 y4); (obtain ⟨x0, x1, x2, x3, x4⟩ := hA.2.x.cells); (obtain ⟨y0, y1, y2, y3, y4⟩ := hA.2.y.cells); clear hA)
        | ((with_reducible refine step_call1 17 enterVT (.agg #[.int .i64 ok, .string on, .int .i64 oi, .int .i64 oh, .slice oa om oc]) (fun u w' => AfterB w (.int .i64 rk) (.string rn) (.int .i64 ri) (.int .i64 rh) (.slice ra rm rc) (.int .i64 ok) (.string on) (.int .i64 oi) (.int .i64 oh) (.slice oa om oc) (vt R) (vt O) u1 u w') ?_ ?_ ?_); (rfl); (exact HCb.out _ _ HA.out); (rintro u2 v2 hB); (have HB := Lib.hid hB); (obtain ⟨pk, pn, pi, ph, pa, pm, pc, rfl⟩ := hB.1.form); (obtain ⟨qk, qn, qi, qh, qa, qm, qc, rfl⟩ := hB.2.1.form); (clear x0 x1 x2 x3 x4 y0 y1 y2 y3 y4); (obtain ⟨x0, x1, x2, x3, x4⟩ := hB.2.2.x.cells); (obtain ⟨y0, y1, y2, y3, y4⟩ := hB.2.2.y.cells); (obtain ⟨f0, f1, f2, f3, f4⟩ := hB.2.2.x.frozen); (obtain ⟨g0, g1, g2, g3, g4⟩ := hB.2.2.y.frozen); clear hB))
    all_goals
      go_wp2_with fail
      go_meet
      exact ⟨rfl, _, _, _, _, _, _, _, _, _, _, _, _, _, _, e2_end HB.out⟩
  case rest =>
    obtain ⟨rfl, HE⟩ := hcut
    clear HE3
    generalize wc = wF at *
    obtain ⟨pk, pn, pi, ph, pa, pm, pc, qk, qn, qi, qh, qa, qm, qc, hE⟩ := HE.out
    have HEF := Lib.hid hE
    have hlF := hE.2.2.low
    have hsF := hE.2.2.y.lt
    clear hE HE HR HO
    go_wp2_with fail
    go_at_call 11
    refine (HMd.out (of_decide_eq_true HFwp.out) _ hlF).mono ?_
    rintro e w4 ⟨b, T, u, rfl, hb, hrep, hok, htq, hb4⟩
    have HE4 := Lib.hid (HEF.out.grow (grown_of_below hb4 none) (fun k hk => by cases hk))
    have HRep4 := Lib.hid hrep.bound
    have HOk := Lib.hid hok
    have HTq4 := Lib.hid htq
    have hbw : w.heap.size + 2 ≤ b := by omega
    have hbD : b < w4.heap.size := htq.lt
    obtain ⟨uk, un, ui, uh, ua, um, uc, rfl⟩ := hrep.form
    have HBM : Hid (∀ w : World, Zero (w.alloc (.cells #[.int .i64 0, .string ⟨#[]⟩, .int .i64 0, .int .i64 0, .slice none 0 0] 24)) w.heap.size) := fun w => Box.made _ _ _ _ _ _
    have HAl : Hid (∀ w : World, Below w.heap.size w (w.alloc (.cells #[.int .i64 0, .string ⟨#[]⟩, .int .i64 0, .int .i64 0, .slice none 0 0] 24))) := fun w => (Below.refl _ w).alloc (Nat.le_refl _) _
    clear hrep hok htq hb4 hb HMd HEF hsF hlF
    go_upto_region 7 with (refine wpList_store5 rfl _ _ rfl _ _ _ _ _ _ (HBM.out _) rfl _ _ _ _ _ _ _ rfl ?_; intro w5 hB5 hg5 hs5)
    have h45 : w5.heap.size = w4.heap.size + 1 := by rw [hs5]; simp
    have HM5 : Hid (MSt w w4.heap.size b (.int .i64 pk) (.string pn) (.int .i64 pi) (.int .i64 ph) (.slice pa pm pc) (.int .i64 qk) (.string qn) (.int .i64 qi) (.int .i64 qh) (.slice qa qm qc) (.int .i64 uk) (.string un) (.int .i64 ui) (.int .i64 uh) (.slice ua um uc) (vt R) (vt O) T w5) :=
      ⟨(HE4.out.grow (grown_of_below (HAl.out w4) none) (fun k hk => by cases hk)).grow hg5 (fun k hk => by cases hk; omega), hB5, (HRep4.out.lift (HAl.out w4)).kept (fun _ h => h) (fun c hc hlt => hg5.block c hlt (by intro e; have := Option.some.inj e; have := hc.2; omega)), (HTq4.out.lift (HAl.out w4)).other hbD hg5, hbw, hbD, by omega⟩
    have hD5 : w4.heap.size < w5.heap.size := by omega
    generalize w4.heap.size = D at *
    clear hB5 hg5 hs5 h45 HE4 HRep4 HTq4
    have HDt := Lib.hid (fun w => datas_any bits w)
    have HLv := Lib.hid (fun w => mkLeaves_any w)
    have HMk := Lib.hid (mkType_any 3)
    go_wp2_with fail
    go_at_call 18
    refine (HDt.out _).mono ?_
    rintro e w6 ⟨ds, dv, rfl, hds, hsd, hb6⟩
    have HM6 := Lib.hid (HM5.out.lift hb6)
    have HSd := Lib.hid hsd
    have HDs := Lib.hid hds
    have h56 := hb6.size
    obtain ⟨da, dc, rfl⟩ := slG_form hsd
    clear hsd hds hb6 HM5
    generalize ds.length = dn at *
    go_wp2_with fail
    go_at_call 14
    refine (HLv.out _).mono ?_
    rintro e w7 ⟨lv, rfl, hrow, hb7⟩
    have HM7 := Lib.hid (HM6.out.lift hb7)
    have h67 := hb7.size
    have HSd7 : Hid (SlG DatE w7 (fun c => b < c) ds (.slice da dn dc)) := SlG.kept (fun c hc => by omega) (fun c _ hlt => hb7.block c hlt) HSd.out
    have HL7 : Hid (SlG TyE w7 (fun c => b < c) leavesL lv) := RowG.slG hrow (fun c hc => by omega) (fun c hc => by omega)
    clear hrow hb7 HSd HM6
    go_wp2_with fail
    go_at_call 13
    refine (HMk.out 3 ds _ leavesL lv (fun c => b < c) b w7.heap.size w7 rfl (by decide) HDs.out leavesL_ok HSd7.out HL7.out (fun c hc => Nat.ne_of_gt hc) HM7.out.tp (Nat.le_refl _)).mono ?_
    rintro e w8 ⟨x, rfl, X, hrep, hok, htq, hg8⟩
    have HM8 := Lib.hid (HM7.out.call htq hg8)
    have HX8 := Lib.hid hrep.bound
    have h78 := hg8.size
    have hD8 : D < w8.heap.size := by omega
    obtain ⟨xk, xn, xi, xh, xa, xm, xc, rfl⟩ := hrep.form
    clear hrep hok htq hg8 HM7 HSd7 HL7 HMk HLv HDt HDs
    go_wp2_with (refine wpList_store5 rfl _ _ rfl _ _ _ _ _ _ (HBM.out _) rfl _ _ _ _ _ _ _ rfl ?_; intro w9 hB9 hg9 hs9)
    have HM9 := Lib.hid ((HM8.out.lift (HAl.out w8)).store hg9 hD8)
    have HX9 : Hid (Rep w9 (fun _ => True) X (.agg #[.int .i64 xk, .string xn, .int .i64 xi, .int .i64 xh, .slice xa xm xc])) := (HX8.out.lift (HAl.out w8)).kept (fun _ _ => trivial) (fun c hc hlt => hg9.block c hlt (by intro e; have := Option.some.inj e; have := hc.2; omega))
    have HB9 := Lib.hid hB9
    generalize w8.heap.size = E at *
    clear hB9 hg9 hs9 HM8 HX8 HBM HAl hD5 h56 h67 h78
    have HTR := Lib.hid (fun T => teq_refl T)
    have HC1 : Hid (∀ w', Below w9.heap.size w9 w' → Calls Try.prog 19 #[.agg #[.int .i64 pk, .string pn, .int .i64 pi, .int .i64 ph, .slice pa pm pc], .agg #[.int .i64 qk, .string qn, .int .i64 qi, .int .i64 qh, .slice qa qm qc]] w' fun e w'' => e = .returned (.bool (teq (vt R) (vt O))) ∧ Below w'.heap.size w' w'') := fun w' hb => equal_any _ _ (Nat.le_refl _) _ _ _ _ _ w' (HM9.out.e.1.lift hb) (HM9.out.e.2.1.lift hb)
    have HC2 : Hid (∀ w', Below w9.heap.size w9 w' → Calls Try.prog 20 #[.agg #[.int .i64 pk, .string pn, .int .i64 pi, .int .i64 ph, .slice pa pm pc], .agg #[.int .i64 qk, .string qn, .int .i64 qi, .int .i64 qh, .slice qa qm qc]] w' fun e w'' => e = .returned (.bool (teq (vt R) (vt O))) ∧ Below w'.heap.size w' w'') := fun w' hb => refEqual_any _ _ (Nat.le_refl _) _ _ _ _ _ w' (HM9.out.e.1.lift hb) (HM9.out.e.2.1.lift hb)
    have HC3 : Hid (∀ w', Below w9.heap.size w9 w' → Calls Try.prog 19 #[.agg #[.int .i64 pk, .string pn, .int .i64 pi, .int .i64 ph, .slice pa pm pc], .agg #[.int .i64 pk, .string pn, .int .i64 pi, .int .i64 ph, .slice pa pm pc]] w' fun e w'' => e = .returned (.bool true) ∧ Below w'.heap.size w' w'') := fun w' hb => by
      have := equal_any _ _ (Nat.le_refl _) _ _ _ _ _ w' (HM9.out.e.1.lift hb) (HM9.out.e.1.lift hb)
      rwa [HTR.out] at this
    have HC4 : Hid (∀ w', Below w9.heap.size w9 w' → Calls Try.prog 19 #[.agg #[.int .i64 uk, .string un, .int .i64 ui, .int .i64 uh, .slice ua um uc], .agg #[.int .i64 xk, .string xn, .int .i64 xi, .int .i64 xh, .slice xa xm xc]] w' fun e w'' => e = .returned (.bool (teq T X)) ∧ Below w'.heap.size w' w'') := fun w' hb => equal_any _ _ (Nat.le_refl _) _ _ _ _ _ w' (HM9.out.rep.lift hb) (HX9.out.lift hb)
    have HC5 : Hid (∀ w', Below w9.heap.size w9 w' → Calls Try.prog 20 #[.agg #[.int .i64 uk, .string un, .int .i64 ui, .int .i64 uh, .slice ua um uc], .agg #[.int .i64 xk, .string xn, .int .i64 xi, .int .i64 xh, .slice xa xm xc]] w' fun e w'' => e = .returned (.bool (teq T X)) ∧ Below w'.heap.size w' w'') := fun w' hb => refEqual_any _ _ (Nat.le_refl _) _ _ _ _ _ w' (HM9.out.rep.lift hb) (HX9.out.lift hb)
    have HC6 : Hid (∀ w', Below w9.heap.size w9 w' → Calls Try.prog 19 #[.agg #[.int .i64 uk, .string un, .int .i64 ui, .int .i64 uh, .slice ua um uc], .agg #[.int .i64 uk, .string un, .int .i64 ui, .int .i64 uh, .slice ua um uc]] w' fun e w'' => e = .returned (.bool true) ∧ Below w'.heap.size w' w'') := fun w' hb => by
      have := equal_any _ _ (Nat.le_refl _) _ _ _ _ _ w' (HM9.out.rep.lift hb) (HM9.out.rep.lift hb)
      rwa [HTR.out] at this
    obtain ⟨p0, p1, p2, p3, p4⟩ := HM9.out.e.2.2.x.cells
    obtain ⟨q0, q1, q2, q3, q4⟩ := HM9.out.e.2.2.y.cells
    obtain ⟨t0, t1, t2, t3, t4⟩ := HM9.out.t.cells
    obtain ⟨x0, x1, x2, x3, x4⟩ := HB9.out.cells
    have HLow := Lib.hid HM9.out.e.2.2.low
    generalize teq (vt R) (vt O) = qr at *
    generalize teq T X = qu at *
    have hqr : (qr == qr) = true := by simp
    have hqu : (qu == qu) = true := by simp
    clear HM9 HX9 HB9 HTR HOk
    go_wp2_with fail
    go_region_held3 (fun w' => w'.cell? ⟨w.heap.size, 0, none⟩ = some (.int .i64 pk) ∧ w'.cell? ⟨w.heap.size, 1, none⟩ = some (.string pn) ∧ w'.cell? ⟨w.heap.size, 2, none⟩ = some (.int .i64 pi) ∧ w'.cell? ⟨w.heap.size, 3, none⟩ = some (.int .i64 ph) ∧ w'.cell? ⟨w.heap.size, 4, none⟩ = some (.slice pa pm pc) ∧
        w'.cell? ⟨w.heap.size + 1, 0, none⟩ = some (.int .i64 qk) ∧ w'.cell? ⟨w.heap.size + 1, 1, none⟩ = some (.string qn) ∧ w'.cell? ⟨w.heap.size + 1, 2, none⟩ = some (.int .i64 qi) ∧ w'.cell? ⟨w.heap.size + 1, 3, none⟩ = some (.int .i64 qh) ∧ w'.cell? ⟨w.heap.size + 1, 4, none⟩ = some (.slice qa qm qc) ∧
        w'.cell? ⟨D, 0, none⟩ = some (.int .i64 uk) ∧ w'.cell? ⟨D, 1, none⟩ = some (.string un) ∧ w'.cell? ⟨D, 2, none⟩ = some (.int .i64 ui) ∧ w'.cell? ⟨D, 3, none⟩ = some (.int .i64 uh) ∧ w'.cell? ⟨D, 4, none⟩ = some (.slice ua um uc) ∧
        w'.cell? ⟨E, 0, none⟩ = some (.int .i64 xk) ∧ w'.cell? ⟨E, 1, none⟩ = some (.string xn) ∧ w'.cell? ⟨E, 2, none⟩ = some (.int .i64 xi) ∧ w'.cell? ⟨E, 3, none⟩ = some (.int .i64 xh) ∧ w'.cell? ⟨E, 4, none⟩ = some (.slice xa xm xc) ∧ Below w9.heap.size w9 w')
      (first
        | (go_split_ands; exact keep20 (by assumption) (by assumption) (by assumption) (by assumption) (by assumption) (by assumption) (by assumption) (by assumption) (by assumption) (by assumption) (by assumption) (by assumption) (by assumption) (by assumption) (by assumption) (by assumption) (by assumption) (by assumption) (by assumption) (by assumption) (by assumption) hb)
        | exact ⟨p0, p1, p2, p3, p4, q0, q1, q2, q3, q4, t0, t1, t2, t3, t4, x0, x1, x2, x3, x4, (Below.refl _ w9).drew⟩)
      (first
        | (go_at_call 19; (with_reducible refine (HC1.out _ ?_).mono ?_); (go_split_ands; assumption); rintro e w' ⟨rfl, hb⟩)
        | (go_at_call 19; (with_reducible refine (HC3.out _ ?_).mono ?_); (go_split_ands; assumption); rintro e w' ⟨rfl, hb⟩)
        | (go_at_call 19; (with_reducible refine (HC4.out _ ?_).mono ?_); (go_split_ands; assumption); rintro e w' ⟨rfl, hb⟩)
        | (go_at_call 19; (with_reducible refine (HC6.out _ ?_).mono ?_); (go_split_ands; assumption); rintro e w' ⟨rfl, hb⟩)
        | (go_at_call 20; (with_reducible refine (HC2.out _ ?_).mono ?_); (go_split_ands; assumption); rintro e w' ⟨rfl, hb⟩)
        | (go_at_call 20; (with_reducible refine (HC5.out _ ?_).mono ?_); (go_split_ands; assumption); rintro e w' ⟨rfl, hb⟩))
    go_split_ands
    have hbF : Below w9.heap.size w9 w' := by assumption
    go_wp2
    go_ret
    exact ⟨rfl, HLow.out.trans (hbF.mono HLow.out.size)⟩
end Go.Proofs.Ytodbmgmjnenlpaa
