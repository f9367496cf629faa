/- The law TypesMeasured returns true at every input. -/
import Derived.Test.YtodbmgmjnenlpaaTyMade
import Derived.Test.YtodbmgmjnenlpaaTyFirst
import Derived.Test.YtodbmgmjnenlpaaTySmall
import Derived.Test.YtodbmgmjnenlpaaMsAll
import Derived.Test.YtodbmgmjnenlpaaTyKit
import Derived.Deep.CutBlock
import Derived.Deep.RegionHeld3
import Derived.Deep.LoopGhost
import Derived.Deep.QuietTactic
import Derived.BigQuiet
import Derived.Lib.QuietBelow
namespace Go.Proofs.Ytodbmgmjnenlpaa
open Go.RowKit Go.Sort Go.Shelf Go.Maps Mth

/-- What holds while the list of types is made. -/
structure LSt (w : World) (D b : Nat) (r0 r1 r2 r3 r4 t0 t1 t2 t3 t4 : Value) (L : List (Ty × Value)) (v : World) : Prop where
  x : Box v w.heap.size r0 r1 r2 r3 r4
  t : Box v D t0 t1 t2 t3 t4
  tp : Tq v b
  reps : ∀ p ∈ L, Rep v (fun c => c ≠ b) p.1 p.2
  low : Below w.heap.size w v
  lt1 : w.heap.size < b
  lt2 : b < D
section
variable {w v v' : World} {D b : Nat} {r0 r1 r2 r3 r4 t0 t1 t2 t3 t4 : Value} {L : List (Ty × Value)}
theorem LSt.call (h : LSt w D b r0 r1 r2 r3 r4 t0 t1 t2 t3 t4 L v) (ht : Tq v' b) (hg : v.grownBy v' (some b)) : LSt w D b r0 r1 r2 r3 r4 t0 t1 t2 t3 t4 L v' := by
  have h1 := h.lt1
  have h2 := h.lt2
  exact ⟨Box.grown h.x hg (by intro e; have := Option.some.inj e; omega), Box.grown h.t hg (by intro e; have := Option.some.inj e; omega), ht, fun p hp => (h.reps p hp).kept (fun _ h => h) (fun c hc hlt => hg.block c hlt (fun e => hc (Option.some.inj e))), Below.grown h.low hg h.low.size (fun k hk => by cases hk; omega), h1, h2⟩
theorem LSt.lift (h : LSt w D b r0 r1 r2 r3 r4 t0 t1 t2 t3 t4 L v) (hb : Below v.heap.size v v') : LSt w D b r0 r1 r2 r3 r4 t0 t1 t2 t3 t4 L v' := h.call (h.tp.lift hb) (grown_of_below hb _)
theorem LSt.add (h : LSt w D b r0 r1 r2 r3 r4 t0 t1 t2 t3 t4 L v) {X : Ty} {u : Value} (hr : Rep v (fun c => c ≠ b) X u) : LSt w D b r0 r1 r2 r3 r4 t0 t1 t2 t3 t4 ((X, u) :: L) v :=
  ⟨h.x, h.t, h.tp, fun p hp => by
    rcases List.mem_cons.1 hp with rfl | hp
    · exact hr
    · exact h.reps p hp, h.low, h.lt1, h.lt2⟩
theorem LSt.held (h : LSt w D b r0 r1 r2 r3 r4 t0 t1 t2 t3 t4 L v) :
    v.cell? ⟨w.heap.size, 0, none⟩ = some r0 ∧ v.cell? ⟨w.heap.size, 1, none⟩ = some r1 ∧ v.cell? ⟨w.heap.size, 2, none⟩ = some r2 ∧ v.cell? ⟨w.heap.size, 3, none⟩ = some r3 ∧ v.cell? ⟨w.heap.size, 4, none⟩ = some r4 ∧
    v.cell? ⟨D, 0, none⟩ = some t0 ∧ v.cell? ⟨D, 1, none⟩ = some t1 ∧ v.cell? ⟨D, 2, none⟩ = some t2 ∧ v.cell? ⟨D, 3, none⟩ = some t3 ∧ v.cell? ⟨D, 4, none⟩ = some t4 := by
  obtain ⟨a0, a1, a2, a3, a4⟩ := h.x.cells
  obtain ⟨b0, b1, b2, b3, b4⟩ := h.t.cells
  exact ⟨a0, a1, a2, a3, a4, b0, b1, b2, b3, b4⟩
end
theorem hp2 (u : World) (o o2 : Obj) : ((u.alloc o).alloc o2).heap[u.heap.size]? = some o := by rw [Below.heap_alloc _ _ _ (by simp)]; exact heap_alloc_new u o
theorem hp3 (u : World) (o o2 : Obj) : ((u.alloc o).alloc o2).heap[u.heap.size + 1]? = some o2 := by have := heap_alloc_new (u.alloc o) o2; simpa using this
theorem hq2 {u v2 : World} {o o2 : Obj} (hb : Below ((u.alloc o).alloc o2).drew.heap.size ((u.alloc o).alloc o2).drew v2) : v2.heap[u.heap.size]? = some o := (hb.block _ (by show _ < ((u.alloc o).alloc o2).heap.size; simp; omega)).trans (hp2 u o o2)
theorem hq3 {u v2 : World} {o o2 : Obj} (hb : Below ((u.alloc o).alloc o2).drew.heap.size ((u.alloc o).alloc o2).drew v2) : v2.heap[u.heap.size + 1]? = some o2 := (hb.block _ (by show _ < ((u.alloc o).alloc o2).heap.size; simp)).trans (hp3 u o o2)
theorem bal {w v : World} (h : Below w.heap.size w v) (o : Obj) : Below w.heap.size w (v.alloc o) := h.alloc h.size o
theorem bdr {w v : World} (h : Below w.heap.size w v) : Below w.heap.size w v.drew := h.drew
theorem bcall {w v v' : World} (h : Below w.heap.size w v) (hb : Below v.heap.size v v') : Below w.heap.size w v' := h.trans (hb.mono h.size)
section
variable {v : World} {b1 : Nat} {T0 T1 T2 : Ty} {k0 i0 h0 k1 i1 h1 k2 i2 h2 : Int} {n0 n1 n2 : ByteArray} {a0 a1 a2 : Option Addr} {m0 c0 m1 c1 m2 c2 : Nat}
theorem lst3 (hb : v.heap[b1]? = some (.cells #[.int .i64 k0, .string n0, .int .i64 i0, .int .i64 h0, .slice a0 m0 c0, .int .i64 k1, .string n1, .int .i64 i1, .int .i64 h1, .slice a1 m1 c1, .int .i64 k2, .string n2, .int .i64 i2, .int .i64 h2, .slice a2 m2 c2] 24))
    (r0 : Rep v (fun _ => True) T0 (.agg #[.int .i64 k0, .string n0, .int .i64 i0, .int .i64 h0, .slice a0 m0 c0])) (r1 : Rep v (fun _ => True) T1 (.agg #[.int .i64 k1, .string n1, .int .i64 i1, .int .i64 h1, .slice a1 m1 c1])) (r2 : Rep v (fun _ => True) T2 (.agg #[.int .i64 k2, .string n2, .int .i64 i2, .int .i64 h2, .slice a2 m2 c2])) :
    RepL v (fun _ => True) [T0, T1, T2] (.slice (some ⟨b1, 0, none⟩) 3 3) := by
  refine slG_repL (slG_block (E := TyE) (xs := [T0, T1, T2]) (L := [[.int .i64 k0, .string n0, .int .i64 i0, .int .i64 h0, .slice a0 m0 c0], [.int .i64 k1, .string n1, .int .i64 i1, .int .i64 h1, .slice a1 m1 c1], [.int .i64 k2, .string n2, .int .i64 i2, .int .i64 h2, .slice a2 m2 c2]]) hb trivial (fun j x hx => ?_) (by intro c hc; simp at hc; rcases hc with rfl | rfl | rfl <;> rfl) (show 3 ≤ maxLen by unfold maxLen; decide))
  match j with
  | 0 => simp at hx; subst hx; exact ⟨_, rfl, r0⟩
  | 1 => simp at hx; subst hx; exact ⟨_, rfl, r1⟩
  | 2 => simp at hx; subst hx; exact ⟨_, rfl, r2⟩
  | j + 3 => simp at hx
theorem lst2 (hb : v.heap[b1]? = some (.cells #[.int .i64 k0, .string n0, .int .i64 i0, .int .i64 h0, .slice a0 m0 c0, .int .i64 k1, .string n1, .int .i64 i1, .int .i64 h1, .slice a1 m1 c1] 24))
    (r0 : Rep v (fun _ => True) T0 (.agg #[.int .i64 k0, .string n0, .int .i64 i0, .int .i64 h0, .slice a0 m0 c0])) (r1 : Rep v (fun _ => True) T1 (.agg #[.int .i64 k1, .string n1, .int .i64 i1, .int .i64 h1, .slice a1 m1 c1])) :
    RepL v (fun _ => True) [T0, T1] (.slice (some ⟨b1, 0, none⟩) 2 2) := by
  refine slG_repL (slG_block (E := TyE) (xs := [T0, T1]) (L := [[.int .i64 k0, .string n0, .int .i64 i0, .int .i64 h0, .slice a0 m0 c0], [.int .i64 k1, .string n1, .int .i64 i1, .int .i64 h1, .slice a1 m1 c1]]) hb trivial (fun j x hx => ?_) (by intro c hc; simp at hc; rcases hc with rfl | rfl <;> rfl) (show 2 ≤ maxLen by unfold maxLen; decide))
  match j with
  | 0 => simp at hx; subst hx; exact ⟨_, rfl, r0⟩
  | 1 => simp at hx; subst hx; exact ⟨_, rfl, r1⟩
  | j + 2 => simp at hx
end
set_option maxRecDepth 100000 in
set_option maxHeartbeats 20000000 in
theorem typesMeasured_any (R : Ty) (rv : Value) (S : Nat → Prop) (bits : Int) (cv : Value) (zs : List Int) (k : Int) (w : World) (hr : Rep w S R rv) (hz : Ints w cv zs) :
    Calls Try.prog 5 #[rv, .int .i64 bits, cv, .int .i64 k] w fun e w' => e = .returned (.bool true) ∧ Below w.heap.size w w' := by
  have HR := Lib.hid hr
  have HZ := Lib.hid hz
  obtain ⟨rk, rn, ri, rh, ra, rm, rc, rfl⟩ := hr.form
  obtain ⟨ca, cc, rfl, -, -, -⟩ := hz
  have HFi := Lib.hid (fun w => lawFirst_any w)
  have hb0 : Below w.heap.size w (w.alloc (.cells #[.int .i64 rk, .string rn, .int .i64 ri, .int .i64 rh, .slice ra rm rc] 24)) := (Below.refl _ w).alloc (Nat.le_refl _) _
  have HX0 : Hid (Box (w.alloc (.cells #[.int .i64 rk, .string rn, .int .i64 ri, .int .i64 rh, .slice ra rm rc] 24)) w.heap.size (.int .i64 rk) (.string rn) (.int .i64 ri) (.int .i64 rh) (.slice ra rm rc)) := Box.made _ _ _ _ _ _
  have HSm : Hid (∀ w', Below w.heap.size w w' → Calls Try.prog 9 #[.agg #[.int .i64 rk, .string rn, .int .i64 ri, .int .i64 rh, .slice ra rm rc]] w' fun e w'' => e = .returned (.bool (decide (nodes R ≤ 60))) ∧ Below w'.heap.size w' w'') := fun w' hb => small_any R _ S w' (HR.out.lift hb)
  have HFw : Hid (∀ w', Below w.heap.size w w' → Calls Try.prog 10 #[.slice ca zs.length cc] w' fun e w'' => e = .returned (.bool (decide (zs.length ≤ 60))) ∧ w' = w'') := fun w' hb => few_any _ zs w' (HZ.out.lift hb)
  have HMd : Hid (zs.length ≤ 60 → ∀ w', Below w.heap.size w w' → Calls Try.prog 11 #[.int .i64 bits, .slice ca zs.length cc] w' fun e w'' => ∃ (b : Nat) (T : Ty) (u : Value), e = .returned (.tuple #[u, .pointer (some ⟨b, 0, none⟩)]) ∧ w'.heap.size ≤ b ∧ Rep w'' (fun c => b < c) T u ∧ Ok 4 T ∧ Tq w'' b ∧ Below w'.heap.size w' w'') := fun h w' hb => made_any bits _ zs w' (by omega) (HZ.out.lift hb)
  have HVt : Hid (∀ w', Below w.heap.size w w' → Calls Try.prog 17 #[.agg #[.int .i64 rk, .string rn, .int .i64 ri, .int .i64 rh, .slice ra rm rc]] w' fun e w'' => ∃ u, e = .returned u ∧ Rep w'' (fun c => c < w.heap.size) (vt R) u ∧ Below w'.heap.size w' w'') := fun w' hb => validType_any R _ _ w' ((HR.out.bound.imp (S' := fun c => c < w.heap.size) fun c hc => hc.2).lift hb)
  clear hr
  generalize zs.length = zn at *
  cases hsm : decide (nodes R ≤ 60) <;> cases hfw : decide (zn ≤ 60)
  all_goals
    rw [hsm] at HSm
    rw [hfw] at HFw
    have HFwp := Lib.hid hfw
    have HSmp := Lib.hid hsm
    clear hsm hfw
    go_enter Try.func5, Try.ntmps5
    go_wp2_with fail
    go_at_call 8
    refine (HFi.out _).mono ?_
    rintro e w1 ⟨rfl, hb1⟩
    have hbw1 := hb0.trans (hb1.mono hb0.size)
    have HX1 := Lib.hid (Box.lift HX0.out hb1)
    obtain ⟨x0, x1, x2, x3, x4⟩ := HX1.out.cells
    go_wp2_with fail
    go_at_call 9
    refine (HSm.out _ hbw1).mono ?_
    rintro e w2 ⟨rfl, hb2⟩
    have hbw2 := hbw1.trans (hb2.mono hbw1.size)
    have HX2 := Lib.hid (Box.lift HX1.out hb2)
    clear x0 x1 x2 x3 x4
    obtain ⟨x0, x1, x2, x3, x4⟩ := HX2.out.cells
    clear hb1 hb2 HX1 hbw1
    go_wp2_with (go_at_call 10; refine (HFw.out _ hbw2).mono ?_; rintro e w3 ⟨rfl, rfl⟩)
  any_goals (go_ret; exact ⟨rfl, hbw2⟩)
  go_at_call 17
  refine (HVt.out _ hbw2).mono ?_
  rintro e w3 ⟨pv, rfl, hprep, hb3⟩
  have hbw3 := hbw2.trans (hb3.mono hbw2.size)
  have HX3 := Lib.hid (Box.lift HX2.out hb3)
  have HP3 := Lib.hid hprep
  obtain ⟨pk, pn, pi, ph, pa, pm, pc, rfl⟩ := hprep.form
  clear x0 x1 x2 x3 x4 HX2 hprep hb3 hbw2 HVt HFw HSm HFi HX0 hb0
  go_upto_region 6 with (refine wpList_store5 rfl _ _ rfl _ _ _ _ _ _ HX3.out rfl _ _ _ _ _ _ _ rfl ?_; intro w4 hB4 hg4 hs4)
  have hbw4 := Below.grown hbw3 hg4 hbw3.size (fun k hk => by cases hk; exact Nat.le_refl _)
  have HP4 := Lib.hid (HP3.out.kept (fun _ h => h) (fun c hc hlt => hg4.block c hlt (by intro e; have := Option.some.inj e; omega)))
  have HX4 := Lib.hid hB4
  have hwx := HX4.out.lt
  clear hB4 hg4 hs4 hbw3 HX3 HP3
  go_wp2_with fail
  go_at_call 11
  refine (HMd.out (of_decide_eq_true HFwp.out) _ hbw4).mono ?_
  rintro e w5 ⟨b, T, u, rfl, hb, hrep, hok, htq, hb5⟩
  have hbw5 := hbw4.trans (hb5.mono hbw4.size)
  have HX5 := Lib.hid (Box.lift HX4.out hb5)
  have HP5 := Lib.hid (HP4.out.lift hb5)
  have HRep5 := Lib.hid hrep.bound
  have HOkT := Lib.hid hok
  have HTq5 := Lib.hid htq
  have hbD : b < w5.heap.size := htq.lt
  have hwb : w.heap.size < b := by omega
  obtain ⟨uk, un, ui, uh, ua, um, uc, rfl⟩ := hrep.form
  have HBM : Hid (∀ w : World, Zero (w.alloc (.cells #[.int .i64 0, .string ⟨#[]⟩, .int .i64 0, .int .i64 0, .slice none 0 0] 24)) w.heap.size) := fun w => Box.made _ _ _ _ _ _
  have HAl : Hid (∀ w : World, Below w.heap.size w (w.alloc (.cells #[.int .i64 0, .string ⟨#[]⟩, .int .i64 0, .int .i64 0, .slice none 0 0] 24))) := fun w => (Below.refl _ w).alloc (Nat.le_refl _) _
  clear hrep hok htq hb5 hb hbw4 HX4 HP4 HMd hwx
  go_upto_region 7 with (refine wpList_store5 rfl _ _ rfl _ _ _ _ _ _ (HBM.out _) rfl _ _ _ _ _ _ _ rfl ?_; intro w6 hB6 hg6 hs6)
  have HL6 : Hid (LSt w w5.heap.size b (.int .i64 pk) (.string pn) (.int .i64 pi) (.int .i64 ph) (.slice pa pm pc) (.int .i64 uk) (.string un) (.int .i64 ui) (.int .i64 uh) (.slice ua um uc) [(T, .agg #[.int .i64 uk, .string un, .int .i64 ui, .int .i64 uh, .slice ua um uc]), (vt R, .agg #[.int .i64 pk, .string pn, .int .i64 pi, .int .i64 ph, .slice pa pm pc])] w6) := by
    have hal := HAl.out w5
    have hsz := hbw5.size
    have hne : ∀ c, c ≠ w5.heap.size → some c ≠ some w5.heap.size := fun c h e => h (Option.some.inj e)
    refine ⟨Box.grown (Box.lift HX5.out hal) hg6 (hne _ (by omega)), hB6, (HTq5.out.lift hal).other hbD hg6, fun p hp => ?_, Below.grown (hbw5.trans (hal.mono hsz)) hg6 (Nat.le_trans hsz hal.size) (fun k hk => by cases hk; exact hsz), hwb, hbD⟩
    simp at hp
    rcases hp with rfl | rfl
    · exact (HRep5.out.lift hal).kept (fun c hc => by have := hc.1; omega) (fun c hc hlt => hg6.block c hlt (hne _ (by have := hc.2; omega)))
    · exact (HP5.out.lift hal).kept (fun c hc => by omega) (fun c hc hlt => hg6.block c hlt (hne _ (by omega)))
  generalize w5.heap.size = D at *
  clear hB6 hg6 hs6 HX5 HP5 HRep5 HTq5 hbw5 HBM HAl
  have HDt := Lib.hid (fun w => datas_any bits w)
  have HLv := Lib.hid (fun w => mkLeaves_any w)
  have HMk := Lib.hid (mkType_any 3)
  have HMdR : Hid (Md (vt R)) := ⟨vt_valid R, vt_nodes (of_decide_eq_true HSmp.out)⟩
  have HMdT : Hid (Md T) := ⟨HOkT.out.1, by have := HOkT.out.2; have : capN 4 = 31 := rfl; omega⟩
  clear HSmp HOkT
  go_wp2_with fail
  go_at_call 18
  refine (HDt.out _).mono ?_
  rintro e w7 ⟨ds, dv, rfl, hds, hsd, hb⟩
  have HDn := Lib.hid (HL6.out.tp.lt)
  have HL7 := Lib.hid (HL6.out.lift hb)
  have HSd := Lib.hid (SlG.kept (S' := fun c => b < c) (fun c hc => Nat.lt_of_lt_of_le HDn.out hc) (fun _ _ _ => rfl) hsd)
  have HDs := Lib.hid hds
  obtain ⟨da, dc, rfl⟩ := slG_form hsd
  clear hds hsd hb HL6 HDt
  generalize ds.length = dn at *
  go_wp2_with fail
  go_at_call 14
  refine (HLv.out _).mono ?_
  rintro e w8 ⟨lv, rfl, hrow, hb⟩
  have HLn := Lib.hid (HL7.out.tp.lt)
  have HL8 := Lib.hid (HL7.out.lift hb)
  have HSd2 := Lib.hid (HSd.out.lift hb)
  have HLs : Hid (SlG TyE w8 (fun c => b < c) leavesL lv) := RowG.slG hrow (fun c hc => Nat.lt_of_lt_of_le HLn.out hc) (fun c hc => Nat.lt_of_lt_of_le HLn.out hc)
  clear hrow hb HL7 HSd HLv
  go_wp2_with fail
  go_at_call 13
  refine (HMk.out 3 ds _ leavesL lv (fun c => b < c) b w8.heap.size w8 rfl (by decide) HDs.out leavesL_ok HSd2.out HLs.out (fun c hc => Nat.ne_of_gt hc) HL8.out.tp (Nat.le_refl _)).mono ?_
  rintro e w9 ⟨x, rfl, X, hrep, hok, htq, hg9⟩
  have HLn2 := Lib.hid HL8.out.tp.lt
  obtain ⟨xk, xn, xi, xh, xa, xm, xc, rfl⟩ := hrep.form
  have HL9 := Lib.hid ((HL8.out.call htq hg9).add (hrep.imp fun c hc => Nat.ne_of_gt (Nat.lt_of_lt_of_le HLn2.out hc)))
  have HMdX : Hid (Md X) := ⟨hok.1, by have := hok.2; have : capN 3 = 15 := rfl; omega⟩
  clear hrep hok htq hg9 HL8 HSd2 HLs HDs HMk HDn HLn HLn2
  have HBM : Hid (∀ w : World, Zero (w.alloc (.cells #[.int .i64 0, .string ⟨#[]⟩, .int .i64 0, .int .i64 0, .slice none 0 0] 24)) w.heap.size) := fun w => Box.made _ _ _ _ _ _
  have HAl : Hid (∀ w : World, Below w.heap.size w (w.alloc (.cells #[.int .i64 0, .string ⟨#[]⟩, .int .i64 0, .int .i64 0, .slice none 0 0] 24))) := fun w => (Below.refl _ w).alloc (Nat.le_refl _) _
  go_upto_region 8 with (refine wpList_store5 rfl _ _ rfl _ _ _ _ _ _ (HBM.out _) rfl _ _ _ _ _ _ _ rfl ?_; intro w10 hB10 hg10 hs10)
  have hb10 : Below w9.heap.size w9 w10 := Below.grown (HAl.out w9) hg10 (HAl.out w9).size (fun k hk => by cases hk; exact Nat.le_refl _)
  have HL := Lib.hid (HL9.out.lift hb10)
  have HB10 := Lib.hid hB10
  clear hB10 hg10 hs10 hb10 HL9 HBM HAl
  generalize w9.heap.size = E at *
  have HLow := Lib.hid HL.out.low
  have HRR : Hid (∀ v, Below w10.heap.size w10 v → Rep v (fun _ => True) (vt R) (.agg #[.int .i64 pk, .string pn, .int .i64 pi, .int .i64 ph, .slice pa pm pc])) := fun v hb => ((HL.out.reps (vt R, _) (by simp)).imp (S' := fun _ => True) fun _ _ => trivial).lift hb
  have HRT : Hid (∀ v, Below w10.heap.size w10 v → Rep v (fun _ => True) T (.agg #[.int .i64 uk, .string un, .int .i64 ui, .int .i64 uh, .slice ua um uc])) := fun v hb => ((HL.out.reps (T, _) (by simp)).imp (S' := fun _ => True) fun _ _ => trivial).lift hb
  have HRX : Hid (∀ v, Below w10.heap.size w10 v → Rep v (fun _ => True) X (.agg #[.int .i64 xk, .string xn, .int .i64 xi, .int .i64 xh, .slice xa xm xc])) := fun v hb => ((HL.out.reps (X, _) (by simp)).imp (S' := fun _ => True) fun _ _ => trivial).lift hb
  have HKeep : Hid (∀ v, Below w10.heap.size w10 v → v.cell? ⟨w.heap.size, 0, none⟩ = some (.int .i64 pk) ∧ v.cell? ⟨w.heap.size, 1, none⟩ = some (.string pn) ∧ v.cell? ⟨w.heap.size, 2, none⟩ = some (.int .i64 pi) ∧ v.cell? ⟨w.heap.size, 3, none⟩ = some (.int .i64 ph) ∧ v.cell? ⟨w.heap.size, 4, none⟩ = some (.slice pa pm pc) ∧ v.cell? ⟨D, 0, none⟩ = some (.int .i64 uk) ∧ v.cell? ⟨D, 1, none⟩ = some (.string un) ∧ v.cell? ⟨D, 2, none⟩ = some (.int .i64 ui) ∧ v.cell? ⟨D, 3, none⟩ = some (.int .i64 uh) ∧ v.cell? ⟨D, 4, none⟩ = some (.slice ua um uc) ∧ v.cell? ⟨E, 0, none⟩ = some (.int .i64 xk) ∧ v.cell? ⟨E, 1, none⟩ = some (.string xn) ∧ v.cell? ⟨E, 2, none⟩ = some (.int .i64 xi) ∧ v.cell? ⟨E, 3, none⟩ = some (.int .i64 xh) ∧ v.cell? ⟨E, 4, none⟩ = some (.slice xa xm xc) ∧ Below w10.heap.size w10 v) := fun v hb => by
    obtain ⟨a0, a1, a2, a3, a4⟩ := (Box.lift HL.out.x hb).cells
    obtain ⟨b0, b1, b2, b3, b4⟩ := (Box.lift HL.out.t hb).cells
    obtain ⟨c0, c1, c2, c3, c4⟩ := (Box.lift HB10.out hb).cells
    exact ⟨a0, a1, a2, a3, a4, b0, b1, b2, b3, b4, c0, c1, c2, c3, c4, hb⟩
  obtain ⟨a0, a1, a2, a3, a4, b0, b1, b2, b3, b4, c0, c1, c2, c3, c4, -⟩ := HKeep.out w10 (Below.refl _ _)
  clear HL HB10
  go_wp2_with fail
  have HV : Hid (RepL (w10.alloc (.cells #[.int .i64 pk, .string pn, .int .i64 pi, .int .i64 ph, .slice pa pm pc, .int .i64 uk, .string un, .int .i64 ui, .int .i64 uh, .slice ua um uc, .int .i64 xk, .string xn, .int .i64 xi, .int .i64 xh, .slice xa xm xc] 24)) (fun _ => True) [vt R, T, X] (.slice (some ⟨w10.heap.size, 0, none⟩) 3 3)) :=
    lst3 (heap_alloc_new w10 _) (HRR.out _ ((Below.refl _ _).alloc (Nat.le_refl _) _)) (HRT.out _ ((Below.refl _ _).alloc (Nat.le_refl _) _)) (HRX.out _ ((Below.refl _ _).alloc (Nat.le_refl _) _))
  have HBV : Hid (Below w10.heap.size w10 (w10.alloc (.cells #[.int .i64 pk, .string pn, .int .i64 pi, .int .i64 ph, .slice pa pm pc, .int .i64 uk, .string un, .int .i64 ui, .int .i64 uh, .slice ua um uc, .int .i64 xk, .string xn, .int .i64 xi, .int .i64 xh, .slice xa xm xc] 24))) := (Below.refl _ _).alloc (Nat.le_refl _) _
  clear a0 a1 a2 a3 a4 b0 b1 b2 b3 b4 c0 c1 c2 c3 c4
  generalize (w10.alloc (.cells #[.int .i64 pk, .string pn, .int .i64 pi, .int .i64 ph, .slice pa pm pc, .int .i64 uk, .string un, .int .i64 ui, .int .i64 uh, .slice ua um uc, .int .i64 xk, .string xn, .int .i64 xi, .int .i64 xh, .slice xa xm xc] 24)) = V at *
  generalize (⟨w10.heap.size, 0, none⟩ : Addr) = ad at *
  have HEl : Hid (∀ i, i < 3 → ∃ (Y : Ty) (yk : Int) (yn : ByteArray) (yi yh : Int) (ya : Option Addr) (ym yc : Nat), Md Y ∧ (∀ v, Below V.heap.size V v → v.cell? (ad.add (i * 5)) = some (.int .i64 yk) ∧ v.cell? ⟨(ad.add (i * 5)).block, (ad.add (i * 5)).off + 1, none⟩ = some (.string yn) ∧ v.cell? ⟨(ad.add (i * 5)).block, (ad.add (i * 5)).off + 2, none⟩ = some (.int .i64 yi) ∧ v.cell? ⟨(ad.add (i * 5)).block, (ad.add (i * 5)).off + 3, none⟩ = some (.int .i64 yh) ∧ v.cell? ⟨(ad.add (i * 5)).block, (ad.add (i * 5)).off + 4, none⟩ = some (.slice ya ym yc)) ∧ ∀ v, Below V.heap.size V v → Rep v (fun _ => True) Y (.agg #[.int .i64 yk, .string yn, .int .i64 yi, .int .i64 yh, .slice ya ym yc])) := fun i hi => by
    obtain ⟨Y, hY⟩ : ∃ Y, [vt R, T, X][i]? = some Y := ⟨_, List.getElem?_eq_getElem (by simpa using hi)⟩
    have hMd : Md Y := by
      have := List.mem_of_getElem? hY
      simp at this
      rcases this with rfl | rfl | rfl
      · exact HMdR.out
      · exact HMdT.out
      · exact HMdX.out
    obtain ⟨y, h5, hy⟩ := repL_at HV.out i Y hY
    obtain ⟨yk, yn, yi, yh, ya, ym, yc, rfl⟩ := hy.form
    exact ⟨Y, yk, yn, yi, yh, ya, ym, yc, hMd, fun v hb => five_at (h5.kept (hb.block _ h5.lt)), fun v hb => hy.lift hb⟩
  clear HV
  go_wp2
  go_loopg [45] 3 (fun g x wr => ∃ i : Nat, i + g = 3 ∧ x = .int .i64 i ∧ Hid (Below V.heap.size V wr))
  case atStart => exact ⟨0, rfl, rfl, Below.refl _ _⟩
  case round =>
    obtain ⟨i, hi, rfl, HB1⟩ := hrel
    by_cases hi3 : i < 3
    · obtain ⟨g1, rfl⟩ : ∃ g1, gk = g1 + 1 := ⟨gk - 1, by omega⟩
      obtain ⟨Y, yk, yn, yi, yh, ya, ym, yc, hMd, hYc, hYr⟩ := HEl.out i hi3
      have HMdY := Lib.hid hMd
      have HYr := Lib.hid hYr
      obtain ⟨q0, q1, q2, q3, q4⟩ := hYc wr HB1.out
      have hi0 : (0 : Int) ≤ (i : Int) := by omega
      have hii : (i : Int) < 3 := by omega
      have HBx : Hid (Box (wr.alloc (.cells #[.int .i64 yk, .string yn, .int .i64 yi, .int .i64 yh, .slice ya ym yc] 24)) wr.heap.size (.int .i64 yk) (.string yn) (.int .i64 yi) (.int .i64 yh) (.slice ya ym yc)) := Box.made _ _ _ _ _ _
      have HBw : Hid (Below V.heap.size V (wr.alloc (.cells #[.int .i64 yk, .string yn, .int .i64 yi, .int .i64 yh, .slice ya ym yc] 24))) := bal HB1.out _
      clear hMd hYc hYr
      go_upto_region 11 with fail
      clear q0 q1 q2 q3 q4
      generalize (wr.alloc (.cells #[.int .i64 yk, .string yn, .int .i64 yi, .int .i64 yh, .slice ya ym yc] 24)) = V2 at *
      have H21 : Hid (∀ v, Below V2.heap.size V2 v → Calls Try.prog 21 #[.agg #[.int .i64 yk, .string yn, .int .i64 yi, .int .i64 yh, .slice ya ym yc]] v fun e v' => e = .returned (.int .i64 (nodes Y : Int)) ∧ Below v.heap.size v v') := fun v hb => m21 HMdY.out (HYr.out v (bcall HBw.out hb))
      have H22 : Hid (∀ v, Below V2.heap.size V2 v → Calls Try.prog 22 #[.agg #[.int .i64 yk, .string yn, .int .i64 yi, .int .i64 yh, .slice ya ym yc]] v fun e v' => e = .returned (.int .i64 (nodes Y : Int)) ∧ Below v.heap.size v v') := fun v hb => m22 HMdY.out (HYr.out v (bcall HBw.out hb))
      have H23 : Hid (∀ v, Below V2.heap.size V2 v → Calls Try.prog 23 #[.agg #[.int .i64 yk, .string yn, .int .i64 yi, .int .i64 yh, .slice ya ym yc]] v fun e v' => e = .returned (.int .i64 (dep Y : Int)) ∧ Below v.heap.size v v') := fun v hb => m23 HMdY.out (HYr.out v (bcall HBw.out hb))
      have H24 : Hid (∀ v, Below V2.heap.size V2 v → Calls Try.prog 24 #[.agg #[.int .i64 yk, .string yn, .int .i64 yi, .int .i64 yh, .slice ya ym yc]] v fun e v' => e = .returned (.int .i64 (dep Y : Int)) ∧ Below v.heap.size v v') := fun v hb => m24 HMdY.out (HYr.out v (bcall HBw.out hb))
      have H25 : Hid (∀ v, Below V2.heap.size V2 v → Calls Try.prog 25 #[.int .i64 k, .agg #[.int .i64 yk, .string yn, .int .i64 yi, .int .i64 yh, .slice ya ym yc]] v fun e v' => e = .returned (.bool (occ k Y)) ∧ Below v.heap.size v v') := fun v hb => m25 k (HYr.out v (bcall HBw.out hb))
      have H26 : Hid (∀ v, Below V2.heap.size V2 v → Calls Try.prog 26 #[.int .i64 k, .agg #[.int .i64 yk, .string yn, .int .i64 yi, .int .i64 yh, .slice ya ym yc]] v fun e v' => e = .returned (.bool (occ k Y)) ∧ Below v.heap.size v v') := fun v hb => m26 HMdY.out k (HYr.out v (bcall HBw.out hb))
      have H12 : Hid (∀ v : World, Calls Try.prog 12 #[.int .i64 k, .int .i64 5] v fun e v' => e = .returned (.int .i64 (k % 5)) ∧ Below v.heap.size v v') := fun v => (mod_any k 5 v (by decide) (by decide)).mono fun e v' ⟨h1, h2⟩ => ⟨h1, h2 ▸ Below.refl _ _⟩
      have H25b : Hid (∀ v, Below V2.heap.size V2 v → Calls Try.prog 25 #[.int .i64 (k % 5), .agg #[.int .i64 yk, .string yn, .int .i64 yi, .int .i64 yh, .slice ya ym yc]] v fun e v' => e = .returned (.bool (occ (k % 5) Y)) ∧ Below v.heap.size v v') := fun v hb => m25 (k % 5) (HYr.out v (bcall HBw.out hb))
      have H26b : Hid (∀ v, Below V2.heap.size V2 v → Calls Try.prog 26 #[.int .i64 (k % 5), .agg #[.int .i64 yk, .string yn, .int .i64 yi, .int .i64 yh, .slice ya ym yc]] v fun e v' => e = .returned (.bool (occ (k % 5) Y)) ∧ Below v.heap.size v v') := fun v hb => m26 HMdY.out (k % 5) (HYr.out v (bcall HBw.out hb))
      generalize (nodes Y : Int) = np at *
      generalize (dep Y : Int) = dp at *
      generalize occ k Y = o1 at *
      generalize occ (k % 5) Y = o2 at *
      generalize k % 5 = k5 at *
      have hnp : (np != np) = false := by simp
      have hdp : (dp != dp) = false := by simp
      obtain ⟨y0, y1, y2, y3, y4⟩ := HBx.out.cells
      have G0 := cell_regrown y0
      have G1 := cell_regrown y1
      have G2 := cell_regrown y2
      have G3 := cell_regrown y3
      have G4 := cell_regrown y4
      cases o1 <;> cases o2
      all_goals
        refine wp_region_quiet_below (by kernel_rfl) (by kernel_rfl) ?_
        repeat (first | go_big_quiet_step ((first | (go_at_call 21; exact Calls.regrown_of (H21.out _ (below_regrown V2 _ _))) | (go_at_call 22; exact Calls.regrown_of (H22.out _ (below_regrown V2 _ _))) | (go_at_call 23; exact Calls.regrown_of (H23.out _ (below_regrown V2 _ _))) | (go_at_call 24; exact Calls.regrown_of (H24.out _ (below_regrown V2 _ _))) | (go_at_call 25; exact Calls.regrown_of (H25.out _ (below_regrown V2 _ _))) | (go_at_call 26; exact Calls.regrown_of (H26.out _ (below_regrown V2 _ _))))) | quiet_step ((first | (go_at_call 21; exact Calls.regrown_of (H21.out _ (below_regrown V2 _ _))) | (go_at_call 22; exact Calls.regrown_of (H22.out _ (below_regrown V2 _ _))) | (go_at_call 23; exact Calls.regrown_of (H23.out _ (below_regrown V2 _ _))) | (go_at_call 24; exact Calls.regrown_of (H24.out _ (below_regrown V2 _ _))) | (go_at_call 25; exact Calls.regrown_of (H25.out _ (below_regrown V2 _ _))) | (go_at_call 26; exact Calls.regrown_of (H26.out _ (below_regrown V2 _ _))))))
        repeat (first | go_big_quiet_step ((first | (go_at_call 12; exact Calls.regrown_of (H12.out _)) | (go_at_call 25; exact Calls.regrown_of (H25b.out _ (below_regrown V2 _ _))) | (go_at_call 26; exact Calls.regrown_of (H26b.out _ (below_regrown V2 _ _))))) | quiet_step ((first | (go_at_call 12; exact Calls.regrown_of (H12.out _)) | (go_at_call 25; exact Calls.regrown_of (H25b.out _ (below_regrown V2 _ _))) | (go_at_call 26; exact Calls.regrown_of (H26b.out _ (below_regrown V2 _ _))))))
        refine wpQuiet_nil ?_
        intro _ hw'
        obtain ⟨⟨dq, osq⟩, hw''⟩ := hw'
        subst hw''
        have HB2 := Lib.hid (bcall HBw.out (below_regrown V2 dq osq))
        clear y0 y1 y2 y3 y4 G0 G1 G2 G3 G4 H21 H22 H23 H24 H25 H26 H12 H25b H26b
        generalize grow (redrawn V2 dq) osq = wz at *
        go_wp2
        go_roundg g1
        case measure => omega
        case rel => exact ⟨i + 1, by omega, by go_num, HB2⟩
    · obtain rfl : i = 3 := by omega
      have HBW := Lib.hid (bcall HBV.out HB1.out)
      clear HEl HB1 HBV
      have HVal : Hid (∀ U ∈ [T, X, vt R], valid U = true) := by
        intro U hU
        simp at hU
        rcases hU with rfl | rfl | rfl
        · exact HMdT.out.1
        · exact HMdX.out.1
        · exact HMdR.out.1
      have HNod : Hid (nodesL [T, X, vt R] ≤ 1000000) := by show _ ≤ _; have h1 := HMdT.out.2; have h2 := HMdX.out.2; have h3 := HMdR.out.2; simp only [nodesL]; omega
      have HVal2 : Hid (∀ U ∈ [T, X], valid U = true) := fun U hU => HVal.out U (by simp at hU ⊢; rcases hU with h | h <;> simp [h])
      have HNod2 : Hid (nodesL [T, X] ≤ 1000000) := by show _ ≤ _; have h1 := HMdT.out.2; have h2 := HMdX.out.2; simp only [nodesL]; omega
      have HC27 : Hid (∀ (v : World) (b1 : Nat), v.heap[b1]? = some (.cells #[.int .i64 uk, .string un, .int .i64 ui, .int .i64 uh, .slice ua um uc, .int .i64 xk, .string xn, .int .i64 xi, .int .i64 xh, .slice xa xm xc, .int .i64 pk, .string pn, .int .i64 pi, .int .i64 ph, .slice pa pm pc] 24) → Below w10.heap.size w10 v → Calls Try.prog 27 #[.slice (some ⟨b1, 0, none⟩) 3 3] v fun e v' => ∃ u, e = .returned u ∧ Ints v' u (varsOf [T, X, vt R]) ∧ Below v.heap.size v v') := fun v b1 h hb => m27 HVal.out HNod.out (lst3 h (HRT.out v hb) (HRX.out v hb) (HRR.out v hb))
      have HC28 : Hid (∀ (v : World) (b1 : Nat), v.heap[b1]? = some (.cells #[.int .i64 uk, .string un, .int .i64 ui, .int .i64 uh, .slice ua um uc, .int .i64 xk, .string xn, .int .i64 xi, .int .i64 xh, .slice xa xm xc, .int .i64 pk, .string pn, .int .i64 pi, .int .i64 ph, .slice pa pm pc] 24) → Below w10.heap.size w10 v → Calls Try.prog 28 #[.slice (some ⟨b1, 0, none⟩) 3 3] v fun e v' => ∃ u, e = .returned u ∧ Ints v' u (varsOf [T, X, vt R]) ∧ Below v.heap.size v v') := fun v b1 h hb => m28 HVal.out HNod.out (lst3 h (HRT.out v hb) (HRX.out v hb) (HRR.out v hb))
      have HC30 : Hid (∀ (v : World) (b1 : Nat), v.heap[b1]? = some (.cells #[.int .i64 uk, .string un, .int .i64 ui, .int .i64 uh, .slice ua um uc, .int .i64 xk, .string xn, .int .i64 xi, .int .i64 xh, .slice xa xm xc] 24) → Below w10.heap.size w10 v → Calls Try.prog 30 #[.slice (some ⟨b1, 0, none⟩) 2 2] v fun e v' => ∃ u, e = .returned u ∧ RepL v' (fun _ => True) (rigsOf [T, X]) u ∧ Below v.heap.size v v') := fun v b1 h hb => m30 HVal2.out HNod2.out (lst2 h (HRT.out v hb) (HRX.out v hb))
      have HC31 : Hid (∀ (v : World) (b1 : Nat), v.heap[b1]? = some (.cells #[.int .i64 uk, .string un, .int .i64 ui, .int .i64 uh, .slice ua um uc, .int .i64 xk, .string xn, .int .i64 xi, .int .i64 xh, .slice xa xm xc] 24) → Below w10.heap.size w10 v → Calls Try.prog 31 #[.slice (some ⟨b1, 0, none⟩) 2 2] v fun e v' => ∃ u, e = .returned u ∧ RepL v' (fun _ => True) (rigsOf [T, X]) u ∧ Below v.heap.size v v') := fun v b1 h hb => m31 HVal2.out HNod2.out (lst2 h (HRT.out v hb) (HRX.out v hb))
      have HC29 : Hid (∀ (v : World) (u1 u2 : Value), RepL v (fun _ => True) (rigsOf [T, X]) u1 → RepL v (fun _ => True) (rigsOf [T, X]) u2 → Calls Try.prog 29 #[u1, u2] v fun e v' => e = .returned (.bool true) ∧ Below v.heap.size v v') := fun v u1 u2 h1 h2 => m29 h1 h2
      clear HVal HNod HVal2 HNod2 HRR HRT HRX HMdR HMdT HMdX
      generalize varsOf [T, X, vt R] = ls at *
      generalize rigsOf [T, X] = rs at *
      go_wp2_with fail
      go_cut [14, 15] from 82 to 91 (fun s14 s15 wx => ∃ W1, W1 = wx ∧ Hid (Ints wx s14 ls) ∧ Hid (Ints wx s15 ls) ∧ Hid (Below w10.heap.size w10 wx))
      case first =>
        go_region_held3 (fun v => v.cell? ⟨w.heap.size, 0, none⟩ = some (.int .i64 pk) ∧ v.cell? ⟨w.heap.size, 1, none⟩ = some (.string pn) ∧ v.cell? ⟨w.heap.size, 2, none⟩ = some (.int .i64 pi) ∧ v.cell? ⟨w.heap.size, 3, none⟩ = some (.int .i64 ph) ∧ v.cell? ⟨w.heap.size, 4, none⟩ = some (.slice pa pm pc) ∧ v.cell? ⟨D, 0, none⟩ = some (.int .i64 uk) ∧ v.cell? ⟨D, 1, none⟩ = some (.string un) ∧ v.cell? ⟨D, 2, none⟩ = some (.int .i64 ui) ∧ v.cell? ⟨D, 3, none⟩ = some (.int .i64 uh) ∧ v.cell? ⟨D, 4, none⟩ = some (.slice ua um uc) ∧ v.cell? ⟨E, 0, none⟩ = some (.int .i64 xk) ∧ v.cell? ⟨E, 1, none⟩ = some (.string xn) ∧ v.cell? ⟨E, 2, none⟩ = some (.int .i64 xi) ∧ v.cell? ⟨E, 3, none⟩ = some (.int .i64 xh) ∧ v.cell? ⟨E, 4, none⟩ = some (.slice xa xm xc) ∧ Below w10.heap.size w10 v)
          (first | exact HKeep.out _ (bdr HBW.out) | (go_split_ands; refine HKeep.out _ ?_; (repeat (first | assumption | exact HBW.out | (with_reducible refine bdr ?_) | (with_reducible refine bal ?_ _) | refine bcall ?_ hb))))
          (first
            | (go_at_call 27; (with_reducible refine (HC27.out _ _ ?_ ?_).mono ?_); ((first | exact heap_alloc_new _ _ | exact hp2 _ _ _ | exact hp3 _ _ _ | exact hq2 hb | exact hq3 hb)); (go_split_ands; (repeat (first | assumption | exact HBW.out | (with_reducible refine bdr ?_) | (with_reducible refine bal ?_ _) | refine bcall ?_ hb))); rintro e wA ⟨v1, rfl, hi, hb⟩; have HI1 := Lib.hid hi; clear hi)
            | (go_at_call 28; (with_reducible refine (HC28.out _ _ ?_ ?_).mono ?_); ((first | exact heap_alloc_new _ _ | exact hp2 _ _ _ | exact hp3 _ _ _ | exact hq2 hb | exact hq3 hb)); (go_split_ands; (repeat (first | assumption | exact HBW.out | (with_reducible refine bdr ?_) | (with_reducible refine bal ?_ _) | refine bcall ?_ hb))); rintro e w' ⟨v2, rfl, hi, hb⟩; have HI2 := Lib.hid hi; have HI1b : Hid (Ints w' v1 ls) := HI1.out.lift (by (repeat (first | exact Below.refl _ _ | (with_reducible refine bdr ?_) | (with_reducible refine bal ?_ _) | refine bcall ?_ hb))); clear hi))
        all_goals
          go_split_ands
          have hbA : Below w10.heap.size w10 w' := by assumption
          have HBA := Lib.hid hbA
          clear hbA hb HI1 HC27 HC28 HBW
          go_wp2_with fail
          go_meet
          exact ⟨_, rfl, HI1b, HI2, HBA⟩
      case rest =>
        obtain ⟨W1, rfl, HI1b, HI2, HBA⟩ := hcut
        clear HC27 HC28 HBW
        obtain ⟨z1, d1, rfl, hd1, hd2, hj1⟩ := HI1b.out
        obtain ⟨z2, d2, rfl, -, -, hj2⟩ := HI2.out
        have HJ1 := Lib.hid hj1
        have HJ2 := Lib.hid hj2
        unfold maxLen at hd2
        clear hj1 hj2 HI1b HI2
        obtain ⟨m, hm⟩ : ∃ m, m = ls.length := ⟨_, rfl⟩
        rw [← hm] at hd1 ⊢
        have HM := Lib.hid hm
        clear hm
        have hmm : ((m : Int) != (m : Int)) = false := by simp
        go_wp2
        go_loopg [16] m (fun g x wr => ∃ j : Nat, j + g = m ∧ x = .int .i64 j ∧ Hid (Below W1.heap.size W1 wr))
        case atStart => exact ⟨0, by omega, rfl, Below.refl _ _⟩
        case round =>
          obtain ⟨j, hj, rfl, HB5⟩ := hrel
          by_cases hlt : j < m
          · obtain ⟨g2, rfl⟩ : ∃ g2, gk = g2 + 1 := ⟨gk - 1, by omega⟩
            obtain ⟨z, hz⟩ : ∃ z, ls[j]? = some z := ⟨_, List.getElem?_eq_getElem (by rw [← HM.out]; exact hlt)⟩
            obtain ⟨e1, rfl, hc1⟩ := HJ1.out j z hz
            obtain ⟨e2, rfl, hc2⟩ := HJ2.out j z hz
            have hc1' := (HB5.out.cell (World.block_lt_of_cell? _ _ hc1)).trans hc1
            have hc2' := (HB5.out.cell (World.block_lt_of_cell? _ _ hc2)).trans hc2
            clear hz hc1 hc2
            have hzz : (z != z) = false := by simp
            have hj0 : (0 : Int) ≤ (j : Int) := by omega
            have hjj : (j : Int) < (m : Int) := by omega
            have HB6 := Lib.hid (fun nq => HB5.out.trans ((below_drewN (Below.refl _ wr) nq).mono HB5.out.size))
            go_upto_region 20 with fail
            go_quiet (fail)
            have HB7 := Lib.hid (HB6.out nq)
            go_wp2
            go_roundg g2
            case measure => omega
            case rel => exact ⟨j + 1, by omega, by go_num, HB7⟩
          · obtain rfl : j = m := by omega
            have HBW := Lib.hid (bcall HBA.out HB5.out)
            clear HJ1 HJ2 HM
            go_wp2_with fail
            go_region_held3 (fun v => v.cell? ⟨w.heap.size, 0, none⟩ = some (.int .i64 pk) ∧ v.cell? ⟨w.heap.size, 1, none⟩ = some (.string pn) ∧ v.cell? ⟨w.heap.size, 2, none⟩ = some (.int .i64 pi) ∧ v.cell? ⟨w.heap.size, 3, none⟩ = some (.int .i64 ph) ∧ v.cell? ⟨w.heap.size, 4, none⟩ = some (.slice pa pm pc) ∧ v.cell? ⟨D, 0, none⟩ = some (.int .i64 uk) ∧ v.cell? ⟨D, 1, none⟩ = some (.string un) ∧ v.cell? ⟨D, 2, none⟩ = some (.int .i64 ui) ∧ v.cell? ⟨D, 3, none⟩ = some (.int .i64 uh) ∧ v.cell? ⟨D, 4, none⟩ = some (.slice ua um uc) ∧ v.cell? ⟨E, 0, none⟩ = some (.int .i64 xk) ∧ v.cell? ⟨E, 1, none⟩ = some (.string xn) ∧ v.cell? ⟨E, 2, none⟩ = some (.int .i64 xi) ∧ v.cell? ⟨E, 3, none⟩ = some (.int .i64 xh) ∧ v.cell? ⟨E, 4, none⟩ = some (.slice xa xm xc) ∧ Below w10.heap.size w10 v)
              (first | exact HKeep.out _ (bdr HBW.out) | (go_split_ands; refine HKeep.out _ ?_; (repeat (first | assumption | exact HBW.out | (with_reducible refine bdr ?_) | (with_reducible refine bal ?_ _) | refine bcall ?_ hb))))
              (first
                | (go_at_call 30; (with_reducible refine (HC30.out _ _ ?_ ?_).mono ?_); ((first | exact heap_alloc_new _ _ | exact hp2 _ _ _ | exact hp3 _ _ _ | exact hq2 hb | exact hq3 hb)); (go_split_ands; (repeat (first | assumption | exact HBW.out | (with_reducible refine bdr ?_) | (with_reducible refine bal ?_ _) | refine bcall ?_ hb))); rintro e wA ⟨v1, rfl, hi, hb⟩; have HI1 := Lib.hid hi; clear hi)
                | (go_at_call 31; (with_reducible refine (HC31.out _ _ ?_ ?_).mono ?_); ((first | exact heap_alloc_new _ _ | exact hp2 _ _ _ | exact hp3 _ _ _ | exact hq2 hb | exact hq3 hb)); (go_split_ands; (repeat (first | assumption | exact HBW.out | (with_reducible refine bdr ?_) | (with_reducible refine bal ?_ _) | refine bcall ?_ hb))); rintro e wB ⟨v2, rfl, hi, hb⟩; have HI2 := Lib.hid hi; have HI1b : Hid (RepL wB (fun _ => True) rs v1) := HI1.out.lift (by (repeat (first | exact Below.refl _ _ | (with_reducible refine bdr ?_) | (with_reducible refine bal ?_ _) | refine bcall ?_ hb))); clear hi)
                | (go_at_call 29; (with_reducible refine (HC29.out _ _ _ HI1b.out HI2.out).mono ?_); rintro e w' ⟨rfl, hb⟩))
            all_goals
              go_split_ands
              have hbF : Below w10.heap.size w10 w' := by assumption
              go_wp2
              go_ret
              exact ⟨rfl, HLow.out.trans (hbF.mono HLow.out.size)⟩
end Go.Proofs.Ytodbmgmjnenlpaa
