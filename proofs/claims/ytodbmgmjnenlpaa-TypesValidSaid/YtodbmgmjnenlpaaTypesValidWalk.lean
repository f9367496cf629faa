/- The law TypesValid returns true at every input. -/
import Derived.Test.YtodbmgmjnenlpaaTyMade
import Derived.Test.YtodbmgmjnenlpaaTyFirst
import Derived.Test.YtodbmgmjnenlpaaTySmall
import Derived.Test.YtodbmgmjnenlpaaTyKit
import Derived.Deep.CutBlock
namespace Go.Proofs.Ytodbmgmjnenlpaa
open Go.RowKit Go.Sort Go.Shelf Go.Maps Mth

/-- Three boxes that stay. -/
theorem keep15 {W w1 w2 : World} {A B C : Nat} {a0 a1 a2 a3 a4 b0 b1 b2 b3 b4 c0 c1 c2 c3 c4 : Value} (h0 : w1.cell? ⟨A, 0, none⟩ = some a0) (h1 : w1.cell? ⟨A, 1, none⟩ = some a1) (h2 : w1.cell? ⟨A, 2, none⟩ = some a2) (h3 : w1.cell? ⟨A, 3, none⟩ = some a3) (h4 : w1.cell? ⟨A, 4, none⟩ = some a4)
    (k0 : w1.cell? ⟨B, 0, none⟩ = some b0) (k1 : w1.cell? ⟨B, 1, none⟩ = some b1) (k2 : w1.cell? ⟨B, 2, none⟩ = some b2) (k3 : w1.cell? ⟨B, 3, none⟩ = some b3) (k4 : w1.cell? ⟨B, 4, none⟩ = some b4)
    (l0 : w1.cell? ⟨C, 0, none⟩ = some c0) (l1 : w1.cell? ⟨C, 1, none⟩ = some c1) (l2 : w1.cell? ⟨C, 2, none⟩ = some c2) (l3 : w1.cell? ⟨C, 3, none⟩ = some c3) (l4 : w1.cell? ⟨C, 4, none⟩ = some c4) (hW : Below W.heap.size W w1) (hb : Below w1.heap.size w1 w2) :
    w2.cell? ⟨A, 0, none⟩ = some a0 ∧ w2.cell? ⟨A, 1, none⟩ = some a1 ∧ w2.cell? ⟨A, 2, none⟩ = some a2 ∧ w2.cell? ⟨A, 3, none⟩ = some a3 ∧ w2.cell? ⟨A, 4, none⟩ = some a4 ∧
    w2.cell? ⟨B, 0, none⟩ = some b0 ∧ w2.cell? ⟨B, 1, none⟩ = some b1 ∧ w2.cell? ⟨B, 2, none⟩ = some b2 ∧ w2.cell? ⟨B, 3, none⟩ = some b3 ∧ w2.cell? ⟨B, 4, none⟩ = some b4 ∧
    w2.cell? ⟨C, 0, none⟩ = some c0 ∧ w2.cell? ⟨C, 1, none⟩ = some c1 ∧ w2.cell? ⟨C, 2, none⟩ = some c2 ∧ w2.cell? ⟨C, 3, none⟩ = some c3 ∧ w2.cell? ⟨C, 4, none⟩ = some c4 ∧ Below W.heap.size W w2 := by
  have k : ∀ p v, w1.cell? p = some v → w2.cell? p = some v := fun p v h => (hb.cell (World.block_lt_of_cell? _ _ h)).trans h
  exact ⟨k _ _ h0, k _ _ h1, k _ _ h2, k _ _ h3, k _ _ h4, k _ _ k0, k _ _ k1, k _ _ k2, k _ _ k3, k _ _ k4, k _ _ l0, k _ _ l1, k _ _ l2, k _ _ l3, k _ _ l4, hW.trans (hb.mono hW.size)⟩
/-- What holds when the two types are made. -/
structure VSt (w : World) (D b : Nat) (r0 r1 r2 r3 r4 t0 t1 t2 t3 t4 u0 u1 u2 u3 u4 : Value) (T : Ty) (v : World) : Prop where
  x : Box v w.heap.size r0 r1 r2 r3 r4
  t : Box v D t0 t1 t2 t3 t4
  u : Box v (D + 1) u0 u1 u2 u3 u4
  tp : Tq v b
  rep : Rep v (fun c => b < c ∧ c < D) T (.agg #[t0, t1, t2, t3, t4])
  low : Below w.heap.size w v
  lt1 : w.heap.size < b
  lt2 : b < D
  size : D + 2 ≤ v.heap.size
section
variable {w v v' : World} {D b : Nat} {r0 r1 r2 r3 r4 t0 t1 t2 t3 t4 u0 u1 u2 u3 u4 : Value} {T : Ty}
theorem VSt.call (h : VSt w D b r0 r1 r2 r3 r4 t0 t1 t2 t3 t4 u0 u1 u2 u3 u4 T v) (ht : Tq v' b) (hg : v.grownBy v' (some b)) : VSt w D b r0 r1 r2 r3 r4 t0 t1 t2 t3 t4 u0 u1 u2 u3 u4 T v' := by
  have h1 := h.lt1
  have h2 := h.lt2
  exact ⟨Box.grown h.x hg (by intro e; have := Option.some.inj e; omega), Box.grown h.t hg (by intro e; have := Option.some.inj e; omega), Box.grown h.u hg (by intro e; have := Option.some.inj e; omega), ht,
    h.rep.kept (fun _ h => h) (fun c hc hlt => hg.block c hlt (by intro e; have := Option.some.inj e; omega)), Below.grown h.low hg h.low.size (fun k hk => by cases hk; omega), h1, h2, Nat.le_trans h.size hg.size⟩
theorem VSt.lift (h : VSt w D b r0 r1 r2 r3 r4 t0 t1 t2 t3 t4 u0 u1 u2 u3 u4 T v) (hb : Below v.heap.size v v') : VSt w D b r0 r1 r2 r3 r4 t0 t1 t2 t3 t4 u0 u1 u2 u3 u4 T v' := h.call (h.tp.lift hb) (grown_of_below hb _)
/-- The second type's struct is changed. -/
theorem VSt.put (h : VSt w D b r0 r1 r2 r3 r4 t0 t1 t2 t3 t4 u0 u1 u2 u3 u4 T v) (m : Nat) (y : Value) {z0 z1 z2 z3 z4 : Value} (hz : (#[u0, u1, u2, u3, u4] : Array Value).setIfInBounds m y = #[z0, z1, z2, z3, z4]) :
    VSt w D b r0 r1 r2 r3 r4 t0 t1 t2 t3 t4 z0 z1 z2 z3 z4 T (v.setCell ⟨D + 1, m, none⟩ y) := by
  obtain ⟨e1, e2, e3⟩ := set1 h.u m y
  have h1 := h.lt1
  have h2 := h.lt2
  refine ⟨Box.grown h.x e2 (by intro e; have := Option.some.inj e; omega), Box.grown h.t e2 (by intro e; have := Option.some.inj e; omega), ?_, h.tp.other (by omega) e2,
    h.rep.kept (fun _ h => h) (fun c hc hlt => e2.block c hlt (by intro e; have := Option.some.inj e; omega)), Below.grown h.low e2 h.low.size (fun k hk => by cases hk; omega), h1, h2, by rw [e3]; exact h.size⟩
  unfold Box
  rw [e1, hz]
end

/-- Three boxes that stay, and the world from which only memory was made. -/
structure K3 (w : World) (D : Nat) (r0 r1 r2 r3 r4 t0 t1 t2 t3 t4 u0 u1 u2 u3 u4 : Value) (wF v : World) : Prop where
  x : Box v w.heap.size r0 r1 r2 r3 r4
  t : Box v D t0 t1 t2 t3 t4
  u : Box v (D + 1) u0 u1 u2 u3 u4
  low : Below wF.heap.size wF v
theorem K3.lift {w : World} {D : Nat} {r0 r1 r2 r3 r4 t0 t1 t2 t3 t4 u0 u1 u2 u3 u4 : Value} {wF v v' : World} (h : K3 w D r0 r1 r2 r3 r4 t0 t1 t2 t3 t4 u0 u1 u2 u3 u4 wF v) (hb : Below v.heap.size v v') : K3 w D r0 r1 r2 r3 r4 t0 t1 t2 t3 t4 u0 u1 u2 u3 u4 wF v' :=
  ⟨Box.lift h.x hb, Box.lift h.t hb, Box.lift h.u hb, h.low.trans (hb.mono h.low.size)⟩
theorem VSt.grow {w v v' : World} {D b : Nat} {r0 r1 r2 r3 r4 t0 t1 t2 t3 t4 u0 u1 u2 u3 u4 : Value} {T : Ty} {row : Option Nat} (h : VSt w D b r0 r1 r2 r3 r4 t0 t1 t2 t3 t4 u0 u1 u2 u3 u4 T v) (hg : v.grownBy v' row) (hr : ∀ k, row = some k → D + 2 ≤ k) : VSt w D b r0 r1 r2 r3 r4 t0 t1 t2 t3 t4 u0 u1 u2 u3 u4 T v' := by
  have h1 := h.lt1
  have h2 := h.lt2
  refine ⟨Box.grown h.x hg (by intro e; have := hr _ e.symm; omega), Box.grown h.t hg (by intro e; have := hr _ e.symm; omega), Box.grown h.u hg (by intro e; have := hr _ e.symm; omega), ?_,
    h.rep.kept (fun _ h => h) (fun c hc hlt => hg.block c hlt (by intro e; have := hr _ e.symm; omega)), Below.grown h.low hg h.low.size (fun k hk => by have := hr k hk; omega), h1, h2, Nat.le_trans h.size hg.size⟩
  cases row with
  | none => exact h.tp.lift ⟨hg.os, hg.tape, hg.output, hg.size, fun i hi => hg.block i hi (by simp)⟩
  | some R => exact h.tp.other (by have := hr R rfl; omega) hg
/-- What holds when the second type was changed. -/
def VEnd (w : World) (D b : Nat) (r0 r1 r2 r3 r4 t0 t1 t2 t3 t4 : Value) (T : Ty) (v : World) : Prop :=
  ∃ (k : Int) (n : ByteArray) (i h : Int) (a : Option Addr) (m c : Nat) (U : Ty), VSt w D b r0 r1 r2 r3 r4 t0 t1 t2 t3 t4 (.int .i64 k) (.string n) (.int .i64 i) (.int .i64 h) (.slice a m c) T v ∧ Rep v (fun _ => True) U (.agg #[.int .i64 k, .string n, .int .i64 i, .int .i64 h, .slice a m c])
theorem rep_head {w : World} {S : Nat → Prop} {T : Ty} {k i h : Int} {n : ByteArray} {a : Option Addr} {m c : Nat} (hr : Rep w S T (.agg #[.int .i64 k, .string n, .int .i64 i, .int .i64 h, .slice a m c])) (k' i' h' : Int) (n' : ByteArray) (hn : n'.size ≤ maxLen) :
    Rep w S (.mk k' n' i' h' T.ts) (.agg #[.int .i64 k', .string n', .int .i64 i', .int .i64 h', .slice a m c]) := by
  obtain ⟨k0, n0, i0, h0, s, eT, e, -, hs⟩ := hr.open
  simp at e
  obtain ⟨-, -, -, -, rfl⟩ := e
  exact Rep.close hn hs
theorem rep_name {w : World} {S : Nat → Prop} {T : Ty} {k i h : Int} {n : ByteArray} {a : Option Addr} {m c : Nat} (hr : Rep w S T (.agg #[.int .i64 k, .string n, .int .i64 i, .int .i64 h, .slice a m c])) : n.size ≤ maxLen := by
  obtain ⟨k0, n0, i0, h0, s, eT, e, hn, -⟩ := hr.open
  simp at e
  obtain ⟨-, rfl, -⟩ := e
  exact hn

set_option maxRecDepth 100000 in
set_option maxHeartbeats 20000000 in
theorem typesValid_any (R : Ty) (rv : Value) (S : Nat → Prop) (bits : Int) (cv : Value) (zs : List Int) (field n : Int) (name : ByteArray) (w : World) (hr : Rep w S R rv) (hz : Ints w cv zs) (hname : name.size ≤ maxLen) :
    Calls Try.prog 3 #[rv, .int .i64 bits, cv, .int .i64 field, .int .i64 n, .string name] w fun e w' => e = .returned (.bool true) ∧ Below w.heap.size w w' := by
  have HR := Lib.hid hr
  have HZ := Lib.hid hz
  obtain ⟨rk, rn, ri, rh, ra, rm, rc, rfl⟩ := hr.form
  obtain ⟨ca, cc, rfl, -, -, -⟩ := hz
  have HNm := Lib.hid hname
  unfold maxLen at hname
  have HFi := Lib.hid (fun w => lawFirst_any w)
  have hb0 : Below w.heap.size w (w.alloc (.cells #[.int .i64 rk, .string rn, .int .i64 ri, .int .i64 rh, .slice ra rm rc] 24)) := (Below.refl _ w).alloc (Nat.le_refl _) _
  have HX0 : Hid (Box (w.alloc (.cells #[.int .i64 rk, .string rn, .int .i64 ri, .int .i64 rh, .slice ra rm rc] 24)) w.heap.size (.int .i64 rk) (.string rn) (.int .i64 ri) (.int .i64 rh) (.slice ra rm rc)) := Box.made _ _ _ _ _ _
  have HSm : Hid (∀ w', Below w.heap.size w w' → Calls Try.prog 9 #[.agg #[.int .i64 rk, .string rn, .int .i64 ri, .int .i64 rh, .slice ra rm rc]] w' fun e w'' => e = .returned (.bool (decide (nodes R ≤ 60))) ∧ Below w'.heap.size w' w'') := fun w' hb => small_any R _ S w' (HR.out.lift hb)
  have HFw : Hid (∀ w', Below w.heap.size w w' → Calls Try.prog 10 #[.slice ca zs.length cc] w' fun e w'' => e = .returned (.bool (decide (zs.length ≤ 60))) ∧ w' = w'') := fun w' hb => few_any _ zs w' (HZ.out.lift hb)
  have HMd : Hid (zs.length ≤ 60 → ∀ w', Below w.heap.size w w' → Calls Try.prog 11 #[.int .i64 bits, .slice ca zs.length cc] w' fun e w'' => ∃ (b : Nat) (T : Ty) (u : Value), e = .returned (.tuple #[u, .pointer (some ⟨b, 0, none⟩)]) ∧ w'.heap.size ≤ b ∧ Rep w'' (fun c => b < c) T u ∧ Ok 4 T ∧ Tq w'' b ∧ Below w'.heap.size w' w'') := fun h w' hb => made_any bits _ zs w' (by omega) (HZ.out.lift hb)
  clear hr
  generalize zs.length = zn at *
  cases hsm : decide (nodes R ≤ 60) <;> cases hfw : decide (zn ≤ 60) <;> cases hln : decide ((20 : Int) < (name.size : Int))
  all_goals
    rw [hsm] at HSm
    rw [hfw] at HFw
    have HFwp := Lib.hid hfw
    clear hsm hfw
    go_enter Try.func3, Try.ntmps3
    go_wp2_with fail
    go_at_call 8
    refine (HFi.out _).mono ?_
    rintro e w1 ⟨rfl, hb1⟩
    have hbw1 := hb0.trans (hb1.mono hb0.size)
    have HX1 := Lib.hid (Box.lift HX0.out hb1)
    obtain ⟨x0, x1, x2, x3, x4⟩ := HX1.out.cells
    go_wp2_with fail
    go_at_call 9
    refine (HSm.out _ hbw1).mono ?_
    rintro e w2 ⟨rfl, hb2⟩
    have hbw2 := hbw1.trans (hb2.mono hbw1.size)
    have HX2 := Lib.hid (Box.lift HX1.out hb2)
    clear x0 x1 x2 x3 x4
    obtain ⟨x0, x1, x2, x3, x4⟩ := HX2.out.cells
    clear hb1 hb2 HX1 hbw1
    go_wp2_with (go_at_call 10; refine (HFw.out _ hbw2).mono ?_; rintro e w3 ⟨rfl, rfl⟩)
  any_goals (go_ret; exact ⟨rfl, hbw2⟩)
  refine (HMd.out (of_decide_eq_true HFwp.out) _ hbw2).mono ?_
  rintro e w3 ⟨b, T, u, rfl, hb, hrep, hok, htq, hb3⟩
  have hbw3 := hbw2.trans (hb3.mono hbw2.size)
  have HX3 := Lib.hid (Box.lift HX2.out hb3)
  have HRep3 := Lib.hid hrep
  have HOk := Lib.hid hok
  have HTq3 := Lib.hid htq
  have hs23 := hb3.size
  have hsw2 := hbw2.size
  have hlt2 := HX2.out.lt
  obtain ⟨uk, un, ui, uh, ua, um, uc, rfl⟩ := hrep.form
  have HBM : Hid (∀ w : World, Zero (w.alloc (.cells #[.int .i64 0, .string ⟨#[]⟩, .int .i64 0, .int .i64 0, .slice none 0 0] 24)) w.heap.size) := fun w => Box.made _ _ _ _ _ _
  have HAl : Hid (∀ w : World, Below w.heap.size w (w.alloc (.cells #[.int .i64 0, .string ⟨#[]⟩, .int .i64 0, .int .i64 0, .slice none 0 0] 24))) := fun w => (Below.refl _ w).alloc (Nat.le_refl _) _
  clear x0 x1 x2 x3 x4 HX2 hrep hok htq hb3 hbw2 HMd HFw HSm HFi HX0 hb0
  go_upto_region 6 with (refine wpList_store5 rfl _ _ rfl _ _ _ _ _ _ (HBM.out _) rfl _ _ _ _ _ _ _ rfl ?_; intro w4 hB4 hg4 hs4)
  have h4 : w4.heap.size = w3.heap.size + 1 := by rw [hs4]; simp
  have HX4 := Lib.hid (Box.grown (Box.lift HX3.out (HAl.out w3)) hg4 (by intro e; have := Option.some.inj e; omega))
  have HRep4 : Hid (Rep w4 (fun c => b < c ∧ c < w3.heap.size) T (.agg #[.int .i64 uk, .string un, .int .i64 ui, .int .i64 uh, .slice ua um uc])) := (HRep3.out.bound.lift (HAl.out w3)).kept (fun c hc => hc) (fun c hc hlt => hg4.block c hlt (by intro e; have := Option.some.inj e; have := hc.2; omega))
  have HTq4 := Lib.hid ((HTq3.out.lift (HAl.out w3)).other HTq3.out.lt hg4)
  have hbw4 := Below.grown (hbw3.trans ((HAl.out w3).mono hbw3.size)) hg4 (by have := hbw3.size; have := (HAl.out w3).size; omega) (fun k hk => by cases hk; omega)
  have hbD : b < w3.heap.size := HTq3.out.lt
  have HB4 := Lib.hid hB4
  obtain ⟨y0, y1, y2, y3, y4⟩ := hB4.cells
  have H4 := Lib.hid h4
  have hwb : w.heap.size < b := by omega
  generalize w3.heap.size = D at *
  clear hB4 hg4 hs4 h4 HX3 HRep3 HTq3 hbw3 hs23 hsw2 hlt2 hb
  go_upto_region 7 with (refine wpList_store5 rfl _ _ rfl _ _ _ _ _ _ (HBM.out _) rfl _ _ _ _ _ _ _ rfl ?_; intro w5 hB5 hg5 hs5)
  have h5 : w5.heap.size = D + 2 := by rw [hs5]; simp [H4.out]
  have hal4 := HAl.out w4
  have HV5 : Hid (VSt w D b (.int .i64 rk) (.string rn) (.int .i64 ri) (.int .i64 rh) (.slice ra rm rc) (.int .i64 uk) (.string un) (.int .i64 ui) (.int .i64 uh) (.slice ua um uc) (.int .i64 uk) (.string un) (.int .i64 ui) (.int .i64 uh) (.slice ua um uc) T w5) := by
    have e4 := H4.out
    rw [e4] at hg5 hB5
    have hlw := hbw4.size
    exact ⟨Box.grown (Box.lift HX4.out hal4) hg5 (by intro e; have := Option.some.inj e; omega), Box.grown (Box.lift HB4.out hal4) hg5 (by intro e; have := Option.some.inj e; omega), hB5, (HTq4.out.lift hal4).other (by omega) hg5,
      (HRep4.out.lift hal4).kept (fun _ h => h) (fun c hc hlt => hg5.block c hlt (by intro e; have := Option.some.inj e; omega)), Below.grown (hbw4.trans (hal4.mono hlw)) hg5 (by have := hal4.size; omega) (fun k hk => by cases hk; omega), hwb, hbD, by omega⟩
  have HP5 : Hid (w4.heap.size = D + 1) := H4.out
  clear y0 y1 y2 y3 y4 hB5 hg5 hs5 h5 hal4 HB4 HX4 HRep4 HTq4 hbw4 HBM HAl H4
  generalize w4.heap.size = E at *
  obtain rfl : E = D + 1 := HP5.out
  clear HP5
  have HMod := Lib.hid (fun w => mod_any field 6 w (by decide) (by decide))
  have HMod7 := Lib.hid (fun w => mod_any n 7 w (by decide) (by decide))
  have hr0 := Int.emod_nonneg field (b := 6) (by decide)
  have hr6 := Int.emod_lt_of_pos field (b := 6) (by decide)
  generalize field % 6 = r at *
  generalize n % 7 = n7 at *
  go_upto_block 0 with (go_at_call 12; refine (HMod.out _).mono ?_; rintro e wx ⟨rfl, rfl⟩)
  have hrc : r = 0 ∨ r = 1 ∨ r = 2 ∨ r = 3 ∨ r = 4 ∨ r = 5 := by omega
  clear hr0 hr6 HMod
  go_cut [12] (fun s12 wx => s12 = .bool false ∧ Hid (VEnd w D b (.int .i64 rk) (.string rn) (.int .i64 ri) (.int .i64 rh) (.slice ra rm rc) (.int .i64 uk) (.string un) (.int .i64 ui) (.int .i64 uh) (.slice ua um uc) T wx))
  case first =>
    obtain ⟨f0, f1, f2, f3, f4⟩ := HV5.out.u.frozen
    obtain ⟨y0, y1, y2, y3, y4⟩ := HV5.out.u.cells
    rcases hrc with rfl | rfl | rfl | rfl | rfl | rfl
    · go_wp2_with fail
      go_meet
      exact ⟨rfl, _, _, _, _, _, _, _, T, HV5.out, HV5.out.rep.imp fun _ _ => trivial⟩
    · go_wp2_with (go_at_call 12; refine (HMod7.out _).mono ?_; rintro e wx ⟨rfl, rfl⟩)
      go_meet
      have hF := HV5.out.put 0 (.int .i64 n7) rfl
      exact ⟨rfl, _, _, _, _, _, _, _, _, hF, (rep_head hF.rep n7 ui uh un (rep_name hF.rep)).imp fun _ _ => trivial⟩
    · go_wp2_with fail
      go_meet
      have hF := HV5.out.put 1 (.string name) rfl
      exact ⟨rfl, _, _, _, _, _, _, _, _, hF, (rep_head hF.rep uk ui uh name HNm.out).imp fun _ _ => trivial⟩
    · go_wp2_with fail
      go_meet
      have hF := HV5.out.put 2 (.int .i64 n) rfl
      exact ⟨rfl, _, _, _, _, _, _, _, _, hF, (rep_head hF.rep uk n uh un (rep_name hF.rep)).imp fun _ _ => trivial⟩
    · go_wp2_with fail
      go_meet
      have hF := HV5.out.put 3 (.int .i64 n) rfl
      exact ⟨rfl, _, _, _, _, _, _, _, _, hF, (rep_head hF.rep uk ui n un (rep_name hF.rep)).imp fun _ _ => trivial⟩
    · obtain ⟨t0, t1, t2, t3, t4⟩ := HV5.out.t.cells
      have hopen := HV5.out.rep.open
      obtain ⟨ok, on, oi, oh, os, oT, oe, on', oL⟩ := hopen
      simp at oe
      obtain ⟨rfl, rfl, rfl, rfl, rfl⟩ := oe
      have HRL := Lib.hid oL
      have HNam := Lib.hid on'
      have hum : um = T.ts.length := by obtain ⟨_, _, e, _⟩ := oL; cases e; rfl
      have hts := ts_nodes T
      have hnd := HOk.out.2
      have hcap : capN 4 = 31 := rfl
      have hsz5 := HV5.out.size
      rw [← hum] at hts
      have hul : um + 1 ≤ 1000000 := by omega
      have HUm := Lib.hid hum
      have HMk := Lib.hid (mkType_any 1)
      have HLv := Lib.hid (fun w => mkLeaves_any w)
      clear oL oT on' hum hts hnd hcap t0 t1 t2 t3 y0 y1 y2 y3 f0 f1 f2 f3
      cases ua with
      | none =>
        obtain ⟨h0, rfl⟩ := repL_none HRL.out
        have HRow6 : Hid (RowG TyE w5 w5.heap.size (fun c => b < c ∧ c ≠ D + 1) (.slice none 0 0) T.ts) := by show RowG _ _ _ _ _ _; rw [h0]; exact rowG_nil _ _ _ _
        clear h0
        have hb6 := Below.refl w5.heap.size w5
        have HV6 := Lib.hid HV5.out
        clear t4 y4 f4
        have t4 := (HV5.out.t.cells).2.2.2.2
        go_wp2_with fail
        go_at_call 14
        clear t4
        refine (HLv.out _).mono ?_
        rintro e w7 ⟨lv, rfl, hrow7, hb7⟩
        have h56 := hb6.size
        have HRow7 := Lib.hid (RowG.lift HRow6.out hb7)
        have hlow6 := Lib.hid (fun k e => RowG.lt HRow6.out k e)
        have HV7 := Lib.hid (HV6.out.lift hb7)
        have h67 := hb7.size
        have hL7 : SlG TyE w7 (fun c => b < c) leavesL lv := RowG.slG hrow7 (fun c hc => by omega) (fun c hc => by omega)
        have HL7 := Lib.hid hL7
        clear hrow7 hb7 hL7 HLv
        go_wp2_with fail
        go_at_call 13
        refine (HMk.out 1 [] (.slice none 0 0) leavesL lv (fun c => b < c) b w7.heap.size w7 rfl (by decide) ⟨by decide, fun d hd => by simp at hd⟩ leavesL_ok (slG_nil _ _ _) HL7.out (fun c hc => Nat.ne_of_gt hc) HV7.out.tp (Nat.le_refl _)).mono ?_
        rintro e w8 ⟨u, rfl, X, hrep, hok, htq, hg8⟩
        have HV8 := Lib.hid (HV7.out.call htq hg8)
        have hbase : b < w5.heap.size := by omega
        have HRow8 := Lib.hid (RowG.kept HRow7.out hg8 (RowG.off HRow7.out hbase) (fun c hc e => by have := Option.some.inj e; omega))
        have h78 := hg8.size
        obtain ⟨xk, xn, xi, xh, xa, xm, xc, rfl⟩ := hrep.form
        have HE : Hid (∀ Y, TyE.rep (w8.alloc Y) (fun c => (b < c ∧ c ≠ D + 1) ∧ some c ≠ (.slice none 0 0 : Value).ownBlock) X [.int .i64 xk, .string xn, .int .i64 xi, .int .i64 xh, .slice xa xm xc]) := fun Y =>
          TyE.kept (S := fun c => w7.heap.size ≤ c) (fun c hc => ⟨⟨by omega, by omega⟩, fun e => by have := (hlow6.out c e.symm).2; omega⟩) (fun c _ hlt => ((Below.refl _ w8).alloc (Nat.le_refl _) Y).block c hlt) hrep
        have HA : Hid (∀ Y, Below w8.heap.size w8 (w8.alloc Y)) := fun Y => (Below.refl _ w8).alloc (Nat.le_refl _) Y
        have HRowA := Lib.hid (fun Y => HRow8.out.lift (HA.out Y))
        have HVA := Lib.hid (fun Y => HV8.out.lift (HA.out Y))
        have HN1 : Hid (∀ Y Z, (w8.alloc (.cells Y Z)).heap[w8.heap.size]? = some (.cells Y Z (0, 0))) := fun Y Z => heap_alloc_new w8 _
        have HLow : Hid (∀ k, (.slice none 0 0 : Value).ownBlock = some k → D + 2 ≤ k) := fun k e => by have := (hlow6.out k e).1; omega
        have hbs : w5.heap.size ≤ w8.heap.size := by omega
        clear hrep hok htq hg8 HRow8 HV8 HRow7 HV7 HL7 HMk HRow6 HV6 hb6
        go_wp2_with (at_builtin; refine wpList_pushG TyE rfl _ _ rfl w5.heap.size (fun c => b < c ∧ c ≠ D + 1) (.slice none 0 0) T.ts rfl (HRowA.out _) w8.heap.size _ [.int .i64 xk, .string xn, .int .i64 xi, .int .i64 xh, .slice xa xm xc] (HN1.out _ _) rfl X (HE.out _) (0 + 1) (by rw [← HUm.out]) hul (by simp; omega) ?_; intro a9 c9 w9 hrow9 hg9; have HRow9 := Lib.hid hrow9; have HV9 := Lib.hid ((HVA.out _).grow hg9 HLow.out); obtain ⟨z0, z1, z2, z3, z4⟩ := HV9.out.u.cells; obtain ⟨f0, f1, f2, f3, f4⟩ := HV9.out.u.frozen; clear hrow9 hg9 z0 z1 z2 z3 f0 f1 f2 f3)
        go_meet
        have hF := HV9.out.put 4 (.slice a9 (0 + 1) c9) rfl
        have hl := slG_repL (HRow9.out.slG (S' := fun c => b < c ∧ c ≠ D + 1) (fun _ h => h) (fun c hc => ⟨by omega, by omega⟩))
        have e0 : (.slice a9 (0 + 1) c9 : Value) = .slice a9 (0 + 1) c9 := rfl
        refine ⟨rfl, _, _, _, _, _, _, _, .mk uk un ui uh (T.ts ++ [X]), hF, Rep.close HNam.out ?_⟩
        exact hl.kept (fun _ _ => trivial) (fun c hc hlt => Below.heap_setCell _ _ _ _ (fun e => hc.2 (by rw [e])))
      | some uad =>
        have hnews : ∀ j T', T.ts[j]? = some T' → ∃ y, Five w5 uad j y ∧ Rep w5 (fun c => (b < c ∧ c ≠ D + 1) ∧ some c ≠ (Value.slice none 0 0).ownBlock) T' y := fun j T' hT' => by
          obtain ⟨y, h5, hr⟩ := repL_at HRL.out j T' hT'
          exact ⟨y, h5, hr.imp fun c hc => ⟨⟨hc.1, by omega⟩, by simp [Value.ownBlock]⟩⟩
        have HNews := Lib.hid hnews
        have hul0 : um ≤ 1000000 := by omega
        clear hnews
        go_wp2_with (at_builtin; refine wpList_pushT rfl _ _ rfl w5.heap.size (fun c => b < c ∧ c ≠ D + 1) (.slice none 0 0) [] rfl (rowT_nil _ _ _) uad um uc rfl T.ts HUm.out.symm HNews.out um (by simp) hul0 (Nat.le_refl _) ?_; intro a6 c6 w6 hrow6 hg6 _; have HRow6 : Hid (RowG TyE w6 w5.heap.size (fun c => b < c ∧ c ≠ D + 1) (.slice a6 um c6) T.ts) := rowG_of hrow6; have hb6 := Below.grown (Below.refl w5.heap.size w5) hg6 (Nat.le_refl _) (fun k hk => by simp [Value.ownBlock] at hk); clear hrow6 hg6)
        go_at_call 14
        have HV6 := Lib.hid (HV5.out.lift hb6)
        clear t4 y4 f4
        refine (HLv.out _).mono ?_
        rintro e w7 ⟨lv, rfl, hrow7, hb7⟩
        have h56 := hb6.size
        have HRow7 := Lib.hid (RowG.lift HRow6.out hb7)
        have hlow6 := Lib.hid (fun k e => RowG.lt HRow6.out k e)
        have HV7 := Lib.hid (HV6.out.lift hb7)
        have h67 := hb7.size
        have hL7 : SlG TyE w7 (fun c => b < c) leavesL lv := RowG.slG hrow7 (fun c hc => by omega) (fun c hc => by omega)
        have HL7 := Lib.hid hL7
        clear hrow7 hb7 hL7 HLv
        go_wp2_with fail
        go_at_call 13
        refine (HMk.out 1 [] (.slice none 0 0) leavesL lv (fun c => b < c) b w7.heap.size w7 rfl (by decide) ⟨by decide, fun d hd => by simp at hd⟩ leavesL_ok (slG_nil _ _ _) HL7.out (fun c hc => Nat.ne_of_gt hc) HV7.out.tp (Nat.le_refl _)).mono ?_
        rintro e w8 ⟨u, rfl, X, hrep, hok, htq, hg8⟩
        have HV8 := Lib.hid (HV7.out.call htq hg8)
        have hbase : b < w5.heap.size := by omega
        have HRow8 := Lib.hid (RowG.kept HRow7.out hg8 (RowG.off HRow7.out hbase) (fun c hc e => by have := Option.some.inj e; omega))
        have h78 := hg8.size
        obtain ⟨xk, xn, xi, xh, xa, xm, xc, rfl⟩ := hrep.form
        have HE : Hid (∀ Y, TyE.rep (w8.alloc Y) (fun c => (b < c ∧ c ≠ D + 1) ∧ some c ≠ (.slice a6 um c6 : Value).ownBlock) X [.int .i64 xk, .string xn, .int .i64 xi, .int .i64 xh, .slice xa xm xc]) := fun Y =>
          TyE.kept (S := fun c => w7.heap.size ≤ c) (fun c hc => ⟨⟨by omega, by omega⟩, fun e => by have := (hlow6.out c e.symm).2; omega⟩) (fun c _ hlt => ((Below.refl _ w8).alloc (Nat.le_refl _) Y).block c hlt) hrep
        have HA : Hid (∀ Y, Below w8.heap.size w8 (w8.alloc Y)) := fun Y => (Below.refl _ w8).alloc (Nat.le_refl _) Y
        have HRowA := Lib.hid (fun Y => HRow8.out.lift (HA.out Y))
        have HVA := Lib.hid (fun Y => HV8.out.lift (HA.out Y))
        have HN1 : Hid (∀ Y Z, (w8.alloc (.cells Y Z)).heap[w8.heap.size]? = some (.cells Y Z (0, 0))) := fun Y Z => heap_alloc_new w8 _
        have HLow : Hid (∀ k, (.slice a6 um c6 : Value).ownBlock = some k → D + 2 ≤ k) := fun k e => by have := (hlow6.out k e).1; omega
        have hbs : w5.heap.size ≤ w8.heap.size := by omega
        clear hrep hok htq hg8 HRow8 HV8 HRow7 HV7 HL7 HMk HRow6 HV6 hb6
        go_wp2_with (at_builtin; refine wpList_pushG TyE rfl _ _ rfl w5.heap.size (fun c => b < c ∧ c ≠ D + 1) (.slice a6 um c6) T.ts rfl (HRowA.out _) w8.heap.size _ [.int .i64 xk, .string xn, .int .i64 xi, .int .i64 xh, .slice xa xm xc] (HN1.out _ _) rfl X (HE.out _) (um + 1) (by rw [← HUm.out]) hul (by simp; omega) ?_; intro a9 c9 w9 hrow9 hg9; have HRow9 := Lib.hid hrow9; have HV9 := Lib.hid ((HVA.out _).grow hg9 HLow.out); obtain ⟨z0, z1, z2, z3, z4⟩ := HV9.out.u.cells; obtain ⟨f0, f1, f2, f3, f4⟩ := HV9.out.u.frozen; clear hrow9 hg9 z0 z1 z2 z3 f0 f1 f2 f3)
        go_meet
        have hF := HV9.out.put 4 (.slice a9 (um + 1) c9) rfl
        have hl := slG_repL (HRow9.out.slG (S' := fun c => b < c ∧ c ≠ D + 1) (fun _ h => h) (fun c hc => ⟨by omega, by omega⟩))
        have e0 : (.slice a9 (um + 1) c9 : Value) = .slice a9 (um + 1) c9 := rfl
        refine ⟨rfl, _, _, _, _, _, _, _, .mk uk un ui uh (T.ts ++ [X]), hF, Rep.close HNam.out ?_⟩
        exact hl.kept (fun _ _ => trivial) (fun c hc hlt => Below.heap_setCell _ _ _ _ (fun e => hc.2 (by rw [e])))
  case rest =>
    obtain ⟨rfl, HE⟩ := hcut
    clear HV5 HMod7 hrc
    generalize wc = wF at *
    obtain ⟨vk, vn, vi, vh, va, vm, vc, U, HF, hU⟩ := HE.out
    have HA := Lib.hid (HR.out.lift HF.low)
    have HB := Lib.hid (HF.rep)
    have HC := Lib.hid hU
    have HLow := Lib.hid HF.low
    have HVt : Hid (valid T = true) := HOk.out.1
    have HC1 : Hid (∀ w', Below wF.heap.size wF w' → Calls Try.prog 15 #[.agg #[.int .i64 rk, .string rn, .int .i64 ri, .int .i64 rh, .slice ra rm rc]] w' fun e w'' => e = .returned (.bool (valid R)) ∧ Below w'.heap.size w' w'') := fun w' hb => valid_any R _ S w' (HA.out.lift hb)
    have HC2 : Hid (∀ w', Below wF.heap.size wF w' → Calls Try.prog 16 #[.agg #[.int .i64 rk, .string rn, .int .i64 ri, .int .i64 rh, .slice ra rm rc]] w' fun e w'' => e = .returned (.bool (valid R)) ∧ Below w'.heap.size w' w'') := fun w' hb => refValid_any R _ S w' (HA.out.lift hb)
    have HC3 : Hid (∀ w', Below wF.heap.size wF w' → Calls Try.prog 15 #[.agg #[.int .i64 uk, .string un, .int .i64 ui, .int .i64 uh, .slice ua um uc]] w' fun e w'' => e = .returned (.bool true) ∧ Below w'.heap.size w' w'') := fun w' hb => by
      have := valid_any T _ _ w' (HB.out.lift hb)
      rwa [HVt.out] at this
    have HC4 : Hid (∀ w', Below wF.heap.size wF w' → Calls Try.prog 15 #[.agg #[.int .i64 vk, .string vn, .int .i64 vi, .int .i64 vh, .slice va vm vc]] w' fun e w'' => e = .returned (.bool (valid U)) ∧ Below w'.heap.size w' w'') := fun w' hb => valid_any U _ _ w' (HC.out.lift hb)
    have HC5 : Hid (∀ w', Below wF.heap.size wF w' → Calls Try.prog 16 #[.agg #[.int .i64 vk, .string vn, .int .i64 vi, .int .i64 vh, .slice va vm vc]] w' fun e w'' => e = .returned (.bool (valid U)) ∧ Below w'.heap.size w' w'') := fun w' hb => refValid_any U _ _ w' (HC.out.lift hb)
    obtain ⟨x0, x1, x2, x3, x4⟩ := HF.x.cells
    obtain ⟨t0, t1, t2, t3, t4⟩ := HF.t.cells
    obtain ⟨v0, v1, v2, v3, v4⟩ := HF.u.cells
    generalize valid R = qr at *
    generalize valid U = qu at *
    have hqr : (qr == qr) = true := by simp
    have hqu : (qu == qu) = true := by simp
    clear HA HB HC HVt HE HF hU HR HOk
    go_wp2_with fail
    go_region_held3 (fun w' => w'.cell? ⟨w.heap.size, 0, none⟩ = some (.int .i64 rk) ∧ w'.cell? ⟨w.heap.size, 1, none⟩ = some (.string rn) ∧ w'.cell? ⟨w.heap.size, 2, none⟩ = some (.int .i64 ri) ∧ w'.cell? ⟨w.heap.size, 3, none⟩ = some (.int .i64 rh) ∧ w'.cell? ⟨w.heap.size, 4, none⟩ = some (.slice ra rm rc) ∧
        w'.cell? ⟨D, 0, none⟩ = some (.int .i64 uk) ∧ w'.cell? ⟨D, 1, none⟩ = some (.string un) ∧ w'.cell? ⟨D, 2, none⟩ = some (.int .i64 ui) ∧ w'.cell? ⟨D, 3, none⟩ = some (.int .i64 uh) ∧ w'.cell? ⟨D, 4, none⟩ = some (.slice ua um uc) ∧
        w'.cell? ⟨D + 1, 0, none⟩ = some (.int .i64 vk) ∧ w'.cell? ⟨D + 1, 1, none⟩ = some (.string vn) ∧ w'.cell? ⟨D + 1, 2, none⟩ = some (.int .i64 vi) ∧ w'.cell? ⟨D + 1, 3, none⟩ = some (.int .i64 vh) ∧ w'.cell? ⟨D + 1, 4, none⟩ = some (.slice va vm vc) ∧ Below wF.heap.size wF w')
      (first
        | (go_split_ands; exact keep15 (by assumption) (by assumption) (by assumption) (by assumption) (by assumption) (by assumption) (by assumption) (by assumption) (by assumption) (by assumption) (by assumption) (by assumption) (by assumption) (by assumption) (by assumption) (by assumption) hb)
        | exact ⟨x0, x1, x2, x3, x4, t0, t1, t2, t3, t4, v0, v1, v2, v3, v4, (Below.refl _ wF).drew⟩)
      (first
        | (go_at_call 15; (with_reducible refine (HC1.out _ ?_).mono ?_); (go_split_ands; assumption); rintro e w' ⟨rfl, hb⟩)
        | (go_at_call 15; (with_reducible refine (HC3.out _ ?_).mono ?_); (go_split_ands; assumption); rintro e w' ⟨rfl, hb⟩)
        | (go_at_call 15; (with_reducible refine (HC4.out _ ?_).mono ?_); (go_split_ands; assumption); rintro e w' ⟨rfl, hb⟩)
        | (go_at_call 16; (with_reducible refine (HC2.out _ ?_).mono ?_); (go_split_ands; assumption); rintro e w' ⟨rfl, hb⟩)
        | (go_at_call 16; (with_reducible refine (HC5.out _ ?_).mono ?_); (go_split_ands; assumption); rintro e w' ⟨rfl, hb⟩))
    go_split_ands
    have hbF : Below wF.heap.size wF w' := by assumption
    go_wp2
    go_ret
    exact ⟨rfl, HLow.out.trans (hbF.mono HLow.out.size)⟩
end Go.Proofs.Ytodbmgmjnenlpaa
