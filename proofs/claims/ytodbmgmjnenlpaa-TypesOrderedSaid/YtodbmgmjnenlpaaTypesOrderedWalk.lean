/- The law TypesOrdered returns true at every input. -/
import Derived.Test.YtodbmgmjnenlpaaTyMade
import Derived.Test.YtodbmgmjnenlpaaTyFirst
import Derived.Test.YtodbmgmjnenlpaaTySmall
import Derived.Test.YtodbmgmjnenlpaaTyRefCmp
import Derived.Test.YtodbmgmjnenlpaaTyKit
import Derived.Deep.CutBlock
import Derived.Deep.RegionWith
import Derived.Deep.LoopGhost
import Derived.Deep.QuietTactic
import Derived.BigQuiet
import Derived.Lib.QuietBelow
namespace Go.Proofs.Ytodbmgmjnenlpaa
open Go.RowKit Go.Sort Go.Shelf Go.Maps Mth

/-- What holds while the list of types is made. -/
structure LSt (w : World) (D b : Nat) (r0 r1 r2 r3 r4 t0 t1 t2 t3 t4 : Value) (L : List (Ty × Value)) (v : World) : Prop where
  x : Box v w.heap.size r0 r1 r2 r3 r4
  t : Box v D t0 t1 t2 t3 t4
  tp : Tq v b
  reps : ∀ p ∈ L, Rep v (fun c => c ≠ b) p.1 p.2
  low : Below w.heap.size w v
  lt1 : w.heap.size < b
  lt2 : b < D
section
variable {w v v' : World} {D b : Nat} {r0 r1 r2 r3 r4 t0 t1 t2 t3 t4 : Value} {L : List (Ty × Value)}
theorem LSt.call (h : LSt w D b r0 r1 r2 r3 r4 t0 t1 t2 t3 t4 L v) (ht : Tq v' b) (hg : v.grownBy v' (some b)) : LSt w D b r0 r1 r2 r3 r4 t0 t1 t2 t3 t4 L v' := by
  have h1 := h.lt1
  have h2 := h.lt2
  exact ⟨Box.grown h.x hg (by intro e; have := Option.some.inj e; omega), Box.grown h.t hg (by intro e; have := Option.some.inj e; omega), ht, fun p hp => (h.reps p hp).kept (fun _ h => h) (fun c hc hlt => hg.block c hlt (fun e => hc (Option.some.inj e))), Below.grown h.low hg h.low.size (fun k hk => by cases hk; omega), h1, h2⟩
theorem LSt.lift (h : LSt w D b r0 r1 r2 r3 r4 t0 t1 t2 t3 t4 L v) (hb : Below v.heap.size v v') : LSt w D b r0 r1 r2 r3 r4 t0 t1 t2 t3 t4 L v' := h.call (h.tp.lift hb) (grown_of_below hb _)
theorem LSt.add (h : LSt w D b r0 r1 r2 r3 r4 t0 t1 t2 t3 t4 L v) {X : Ty} {u : Value} (hr : Rep v (fun c => c ≠ b) X u) : LSt w D b r0 r1 r2 r3 r4 t0 t1 t2 t3 t4 ((X, u) :: L) v :=
  ⟨h.x, h.t, h.tp, fun p hp => by
    rcases List.mem_cons.1 hp with rfl | hp
    · exact hr
    · exact h.reps p hp, h.low, h.lt1, h.lt2⟩
theorem LSt.held (h : LSt w D b r0 r1 r2 r3 r4 t0 t1 t2 t3 t4 L v) :
    v.cell? ⟨w.heap.size, 0, none⟩ = some r0 ∧ v.cell? ⟨w.heap.size, 1, none⟩ = some r1 ∧ v.cell? ⟨w.heap.size, 2, none⟩ = some r2 ∧ v.cell? ⟨w.heap.size, 3, none⟩ = some r3 ∧ v.cell? ⟨w.heap.size, 4, none⟩ = some r4 ∧
    v.cell? ⟨D, 0, none⟩ = some t0 ∧ v.cell? ⟨D, 1, none⟩ = some t1 ∧ v.cell? ⟨D, 2, none⟩ = some t2 ∧ v.cell? ⟨D, 3, none⟩ = some t3 ∧ v.cell? ⟨D, 4, none⟩ = some t4 := by
  obtain ⟨a0, a1, a2, a3, a4⟩ := h.x.cells
  obtain ⟨b0, b1, b2, b3, b4⟩ := h.t.cells
  exact ⟨a0, a1, a2, a3, a4, b0, b1, b2, b3, b4⟩
end
set_option maxRecDepth 100000 in
set_option maxHeartbeats 20000000 in
theorem typesOrdered_any (R : Ty) (rv : Value) (S : Nat → Prop) (bits : Int) (cv : Value) (zs : List Int) (w : World) (hr : Rep w S R rv) (hz : Ints w cv zs) :
    Calls Try.prog 7 #[rv, .int .i64 bits, cv] w fun e w' => e = .returned (.bool true) ∧ Below w.heap.size w w' := by
  have HR := Lib.hid hr
  have HZ := Lib.hid hz
  obtain ⟨rk, rn, ri, rh, ra, rm, rc, rfl⟩ := hr.form
  obtain ⟨ca, cc, rfl, -, -, -⟩ := hz
  have HFi := Lib.hid (fun w => lawFirst_any w)
  have hb0 : Below w.heap.size w (w.alloc (.cells #[.int .i64 rk, .string rn, .int .i64 ri, .int .i64 rh, .slice ra rm rc] 24)) := (Below.refl _ w).alloc (Nat.le_refl _) _
  have HX0 : Hid (Box (w.alloc (.cells #[.int .i64 rk, .string rn, .int .i64 ri, .int .i64 rh, .slice ra rm rc] 24)) w.heap.size (.int .i64 rk) (.string rn) (.int .i64 ri) (.int .i64 rh) (.slice ra rm rc)) := Box.made _ _ _ _ _ _
  have HSm : Hid (∀ w', Below w.heap.size w w' → Calls Try.prog 9 #[.agg #[.int .i64 rk, .string rn, .int .i64 ri, .int .i64 rh, .slice ra rm rc]] w' fun e w'' => e = .returned (.bool (decide (nodes R ≤ 60))) ∧ Below w'.heap.size w' w'') := fun w' hb => small_any R _ S w' (HR.out.lift hb)
  have HFw : Hid (∀ w', Below w.heap.size w w' → Calls Try.prog 10 #[.slice ca zs.length cc] w' fun e w'' => e = .returned (.bool (decide (zs.length ≤ 60))) ∧ w' = w'') := fun w' hb => few_any _ zs w' (HZ.out.lift hb)
  have HMd : Hid (zs.length ≤ 60 → ∀ w', Below w.heap.size w w' → Calls Try.prog 11 #[.int .i64 bits, .slice ca zs.length cc] w' fun e w'' => ∃ (b : Nat) (T : Ty) (u : Value), e = .returned (.tuple #[u, .pointer (some ⟨b, 0, none⟩)]) ∧ w'.heap.size ≤ b ∧ Rep w'' (fun c => b < c) T u ∧ Ok 4 T ∧ Tq w'' b ∧ Below w'.heap.size w' w'') := fun h w' hb => made_any bits _ zs w' (by omega) (HZ.out.lift hb)
  have HVt : Hid (∀ w', Below w.heap.size w w' → Calls Try.prog 17 #[.agg #[.int .i64 rk, .string rn, .int .i64 ri, .int .i64 rh, .slice ra rm rc]] w' fun e w'' => ∃ u, e = .returned u ∧ Rep w'' (fun c => c < w.heap.size) (vt R) u ∧ Below w'.heap.size w' w'') := fun w' hb => validType_any R _ _ w' ((HR.out.bound.imp (S' := fun c => c < w.heap.size) fun c hc => hc.2).lift hb)
  clear hr
  generalize zs.length = zn at *
  cases hsm : decide (nodes R ≤ 60) <;> cases hfw : decide (zn ≤ 60)
  all_goals
    rw [hsm] at HSm
    rw [hfw] at HFw
    have HFwp := Lib.hid hfw
    clear hsm hfw
    go_enter Try.func7, Try.ntmps7
    go_wp2_with fail
    go_at_call 8
    refine (HFi.out _).mono ?_
    rintro e w1 ⟨rfl, hb1⟩
    have hbw1 := hb0.trans (hb1.mono hb0.size)
    have HX1 := Lib.hid (Box.lift HX0.out hb1)
    obtain ⟨x0, x1, x2, x3, x4⟩ := HX1.out.cells
    go_wp2_with fail
    go_at_call 9
    refine (HSm.out _ hbw1).mono ?_
    rintro e w2 ⟨rfl, hb2⟩
    have hbw2 := hbw1.trans (hb2.mono hbw1.size)
    have HX2 := Lib.hid (Box.lift HX1.out hb2)
    clear x0 x1 x2 x3 x4
    obtain ⟨x0, x1, x2, x3, x4⟩ := HX2.out.cells
    clear hb1 hb2 HX1 hbw1
    go_wp2_with (go_at_call 10; refine (HFw.out _ hbw2).mono ?_; rintro e w3 ⟨rfl, rfl⟩)
  any_goals (go_ret; exact ⟨rfl, hbw2⟩)
  go_at_call 17
  refine (HVt.out _ hbw2).mono ?_
  rintro e w3 ⟨pv, rfl, hprep, hb3⟩
  have hbw3 := hbw2.trans (hb3.mono hbw2.size)
  have HX3 := Lib.hid (Box.lift HX2.out hb3)
  have HP3 := Lib.hid hprep
  obtain ⟨pk, pn, pi, ph, pa, pm, pc, rfl⟩ := hprep.form
  clear x0 x1 x2 x3 x4 HX2 hprep hb3 hbw2 HVt HFw HSm HFi HX0 hb0
  go_upto_region 6 with (refine wpList_store5 rfl _ _ rfl _ _ _ _ _ _ HX3.out rfl _ _ _ _ _ _ _ rfl ?_; intro w4 hB4 hg4 hs4)
  have hbw4 := Below.grown hbw3 hg4 hbw3.size (fun k hk => by cases hk; exact Nat.le_refl _)
  have HP4 := Lib.hid (HP3.out.kept (fun _ h => h) (fun c hc hlt => hg4.block c hlt (by intro e; have := Option.some.inj e; omega)))
  have HX4 := Lib.hid hB4
  have hwx := HX4.out.lt
  clear hB4 hg4 hs4 hbw3 HX3 HP3
  go_wp2_with fail
  go_at_call 11
  refine (HMd.out (of_decide_eq_true HFwp.out) _ hbw4).mono ?_
  rintro e w5 ⟨b, T, u, rfl, hb, hrep, hok, htq, hb5⟩
  have hbw5 := hbw4.trans (hb5.mono hbw4.size)
  have HX5 := Lib.hid (Box.lift HX4.out hb5)
  have HP5 := Lib.hid (HP4.out.lift hb5)
  have HRep5 := Lib.hid hrep.bound
  have HTq5 := Lib.hid htq
  have hbD : b < w5.heap.size := htq.lt
  have hwb : w.heap.size < b := by omega
  obtain ⟨uk, un, ui, uh, ua, um, uc, rfl⟩ := hrep.form
  have HBM : Hid (∀ w : World, Zero (w.alloc (.cells #[.int .i64 0, .string ⟨#[]⟩, .int .i64 0, .int .i64 0, .slice none 0 0] 24)) w.heap.size) := fun w => Box.made _ _ _ _ _ _
  have HAl : Hid (∀ w : World, Below w.heap.size w (w.alloc (.cells #[.int .i64 0, .string ⟨#[]⟩, .int .i64 0, .int .i64 0, .slice none 0 0] 24))) := fun w => (Below.refl _ w).alloc (Nat.le_refl _) _
  clear hrep hok htq hb5 hb hbw4 HX4 HP4 HMd hwx
  go_upto_region 7 with (refine wpList_store5 rfl _ _ rfl _ _ _ _ _ _ (HBM.out _) rfl _ _ _ _ _ _ _ rfl ?_; intro w6 hB6 hg6 hs6)
  have HL6 : Hid (LSt w w5.heap.size b (.int .i64 pk) (.string pn) (.int .i64 pi) (.int .i64 ph) (.slice pa pm pc) (.int .i64 uk) (.string un) (.int .i64 ui) (.int .i64 uh) (.slice ua um uc) [(T, .agg #[.int .i64 uk, .string un, .int .i64 ui, .int .i64 uh, .slice ua um uc]), (vt R, .agg #[.int .i64 pk, .string pn, .int .i64 pi, .int .i64 ph, .slice pa pm pc])] w6) := by
    have hal := HAl.out w5
    have hsz := hbw5.size
    have hne : ∀ c, c ≠ w5.heap.size → some c ≠ some w5.heap.size := fun c h e => h (Option.some.inj e)
    refine ⟨Box.grown (Box.lift HX5.out hal) hg6 (hne _ (by omega)), hB6, (HTq5.out.lift hal).other hbD hg6, fun p hp => ?_, Below.grown (hbw5.trans (hal.mono hsz)) hg6 (Nat.le_trans hsz hal.size) (fun k hk => by cases hk; exact hsz), hwb, hbD⟩
    simp at hp
    rcases hp with rfl | rfl
    · exact (HRep5.out.lift hal).kept (fun c hc => by have := hc.1; omega) (fun c hc hlt => hg6.block c hlt (hne _ (by have := hc.2; omega)))
    · exact (HP5.out.lift hal).kept (fun c hc => by omega) (fun c hc hlt => hg6.block c hlt (hne _ (by omega)))
  generalize w5.heap.size = D at *
  clear hB6 hg6 hs6 HX5 HP5 HRep5 HTq5 hbw5 HBM HAl
  have HDt := Lib.hid (fun w => datas_any bits w)
  have HLv := Lib.hid (fun w => mkLeaves_any w)
  have HMk2 : Hid (∀ (ds : List Dat) (dv lv : Value) (v : World), Some_ ds → SlG DatE v (fun c => b < c) ds dv → SlG TyE v (fun c => b < c) leavesL lv → Tq v b → Calls Try.prog 13 #[.pointer (some ⟨b, 0, none⟩), dv, lv, .int .i64 2] v fun e v' => ∃ u, e = .returned u ∧ MadeT 2 v.heap.size b v v' u) := fun ds dv lv v h1 h2 h3 h4 => mkType_any 2 2 ds dv leavesL lv _ b _ v rfl (by decide) h1 leavesL_ok h2 h3 (fun c hc => Nat.ne_of_gt hc) h4 (Nat.le_refl _)
  have HMk1 : Hid (∀ (ds : List Dat) (dv lv : Value) (v : World), Some_ ds → SlG DatE v (fun c => b < c) ds dv → SlG TyE v (fun c => b < c) leavesL lv → Tq v b → Calls Try.prog 13 #[.pointer (some ⟨b, 0, none⟩), dv, lv, .int .i64 1] v fun e v' => ∃ u, e = .returned u ∧ MadeT 1 v.heap.size b v v' u) := fun ds dv lv v h1 h2 h3 h4 => mkType_any 1 1 ds dv leavesL lv _ b _ v rfl (by decide) h1 leavesL_ok h2 h3 (fun c hc => Nat.ne_of_gt hc) h4 (Nat.le_refl _)
  have HIn : Hid (∀ w, Calls Try.prog 36 #[] w fun e w' => e = .returned (.agg #[.int .i64 4, .string intN, .int .i64 0, .int .i64 0, .slice none 0 0]) ∧ Below w.heap.size w w') := fun w => refInt_any w
  have hint_ : intN.size ≤ maxLen := by unfold maxLen; decide +kernel
  have HInt := Lib.hid hint_
  have HL := Lib.hid (HL6.out.lift (Below.refl _ w6).drew)
  have h6d := HL.out.tp.lt
  clear hint_ HL6
  go_region_held3 (fun v => v.cell? ⟨w.heap.size, 0, none⟩ = some (.int .i64 pk) ∧ v.cell? ⟨w.heap.size, 1, none⟩ = some (.string pn) ∧ v.cell? ⟨w.heap.size, 2, none⟩ = some (.int .i64 pi) ∧ v.cell? ⟨w.heap.size, 3, none⟩ = some (.int .i64 ph) ∧ v.cell? ⟨w.heap.size, 4, none⟩ = some (.slice pa pm pc) ∧
      v.cell? ⟨D, 0, none⟩ = some (.int .i64 uk) ∧ v.cell? ⟨D, 1, none⟩ = some (.string un) ∧ v.cell? ⟨D, 2, none⟩ = some (.int .i64 ui) ∧ v.cell? ⟨D, 3, none⟩ = some (.int .i64 uh) ∧ v.cell? ⟨D, 4, none⟩ = some (.slice ua um uc))
    (first
      | exact HL.out.held
      | exact (HL.out.lift ((Below.refl _ _).alloc (Nat.le_refl _) _)).held)
    (first
      | (go_at_call 18; (with_reducible refine (HDt.out _).mono ?_); rintro e w7 ⟨ds, dv, rfl, hds, hsd, hb⟩; have HDn := Lib.hid (HL.out.tp.lt); have HL := Lib.hid (HL.out.lift hb); have HSd := Lib.hid (SlG.kept (S' := fun c => b < c) (fun c hc => Nat.lt_of_lt_of_le HDn.out hc) (fun _ _ _ => rfl) hsd); have HDs := Lib.hid hds; obtain ⟨da, dc, rfl⟩ := slG_form hsd; clear hds hsd hb)
      | (go_at_call 14; (with_reducible refine (HLv.out _).mono ?_); rintro e w8 ⟨lv, rfl, hrow, hb⟩; have HLn := Lib.hid (HL.out.tp.lt); have HL := Lib.hid (HL.out.lift hb); have HSd := Lib.hid (HSd.out.lift hb); have HLs : Hid (SlG TyE w8 (fun c => b < c) leavesL lv) := RowG.slG hrow (fun c hc => Nat.lt_of_lt_of_le HLn.out hc) (fun c hc => Nat.lt_of_lt_of_le HLn.out hc); clear hrow hb)
      | (go_at_call 13; (with_reducible refine (HMk2.out _ _ _ _ HDs.out HSd.out HLs.out HL.out.tp).mono ?_); rintro e w9 ⟨u1, rfl, X1, hrep, hok, htq, hg⟩; have HLn := Lib.hid HL.out.tp.lt; obtain ⟨ek, en, ei, eh, ea, em, ec, rfl⟩ := hrep.form; have HL := Lib.hid ((HL.out.call htq hg).add (hrep.imp fun c hc => Nat.ne_of_gt (Nat.lt_of_lt_of_le HLn.out hc))); clear hrep hok htq hg)
      | (go_at_call 13; (with_reducible refine (HMk1.out _ _ _ _ HDs.out HSd.out HLs.out HL.out.tp).mono ?_); rintro e w10 ⟨u2, rfl, X2, hrep, hok, htq, hg⟩; have HLn := Lib.hid HL.out.tp.lt; obtain ⟨fk, fn, fi, fh, fa, fm, fc, rfl⟩ := hrep.form; have HL := Lib.hid ((HL.out.call htq hg).add (hrep.imp fun c hc => Nat.ne_of_gt (Nat.lt_of_lt_of_le HLn.out hc))); clear hrep hok htq hg)
      | (go_at_call 36; (with_reducible refine (HIn.out _).mono ?_); rintro e w11 ⟨rfl, hb⟩; have HL := Lib.hid (HL.out.lift hb); clear hb))
  all_goals
    have HV : Hid (RepL (w11.alloc (.cells #[.int .i64 pk, .string pn, .int .i64 pi, .int .i64 ph, .slice pa pm pc, .int .i64 uk, .string un, .int .i64 ui, .int .i64 uh, .slice ua um uc, .int .i64 ek, .string en, .int .i64 ei, .int .i64 eh, .slice ea em ec, .int .i64 fk, .string fn, .int .i64 fi, .int .i64 fh, .slice fa fm fc, .int .i64 4, .string intN, .int .i64 0, .int .i64 0, .slice none 0 0] 24)) (fun _ => True) [vt R, T, X1, X2, con intN []] (.slice (some ⟨w11.heap.size, 0, none⟩) 5 5)) := by
      have hal : ∀ A, Below w11.heap.size w11 (w11.alloc A) := fun A => (Below.refl _ _).alloc (Nat.le_refl _) A
      have hr := fun p hp A => ((HL.out.reps p hp).lift (hal A)).imp (S' := fun _ => True) fun _ _ => trivial
      refine slG_repL (slG_block (E := TyE) (xs := [vt R, T, X1, X2, con intN []]) (L := [[.int .i64 pk, .string pn, .int .i64 pi, .int .i64 ph, .slice pa pm pc], [.int .i64 uk, .string un, .int .i64 ui, .int .i64 uh, .slice ua um uc], [.int .i64 ek, .string en, .int .i64 ei, .int .i64 eh, .slice ea em ec], [.int .i64 fk, .string fn, .int .i64 fi, .int .i64 fh, .slice fa fm fc], [.int .i64 4, .string intN, .int .i64 0, .int .i64 0, .slice none 0 0]]) (heap_alloc_new w11 _) trivial (fun j x hx => ?_) (by intro c hc; simp at hc; rcases hc with rfl | rfl | rfl | rfl | rfl <;> rfl) (show 5 ≤ maxLen by unfold maxLen; decide))
      match j with
      | 0 => simp at hx; subst hx; exact ⟨_, rfl, hr (vt R, _) (by simp) _⟩
      | 1 => simp at hx; subst hx; exact ⟨_, rfl, hr (T, _) (by simp) _⟩
      | 2 => simp at hx; subst hx; exact ⟨_, rfl, hr (X1, _) (by simp) _⟩
      | 3 => simp at hx; subst hx; exact ⟨_, rfl, hr (X2, _) (by simp) _⟩
      | 4 => simp at hx; subst hx; exact ⟨_, rfl, rep_leaf _ _ 4 intN 0 0 HInt.out⟩
      | j + 5 => simp at hx
    have HLow := Lib.hid (HL.out.low.trans (((Below.refl _ w11).alloc (Nat.le_refl _) (.cells #[.int .i64 pk, .string pn, .int .i64 pi, .int .i64 ph, .slice pa pm pc, .int .i64 uk, .string un, .int .i64 ui, .int .i64 uh, .slice ua um uc, .int .i64 ek, .string en, .int .i64 ei, .int .i64 eh, .slice ea em ec, .int .i64 fk, .string fn, .int .i64 fi, .int .i64 fh, .slice fa fm fc, .int .i64 4, .string intN, .int .i64 0, .int .i64 0, .slice none 0 0] 24)).mono HL.out.low.size))
    go_split_ands
    clear HL HDt HLv HMk2 HMk1 HIn HInt HSd HDs HLs HDn HLn h6d
    generalize (w11.alloc (.cells #[.int .i64 pk, .string pn, .int .i64 pi, .int .i64 ph, .slice pa pm pc, .int .i64 uk, .string un, .int .i64 ui, .int .i64 uh, .slice ua um uc, .int .i64 ek, .string en, .int .i64 ei, .int .i64 eh, .slice ea em ec, .int .i64 fk, .string fn, .int .i64 fi, .int .i64 fh, .slice fa fm fc, .int .i64 4, .string intN, .int .i64 0, .int .i64 0, .slice none 0 0] 24)) = V at *
    generalize (⟨w11.heap.size, 0, none⟩ : Addr) = ad at *
    have HEl : Hid (∀ i, i < 5 → ∃ (X : Ty) (xk : Int) (xn : ByteArray) (xi xh : Int) (xa : Option Addr) (xm xc : Nat), (∀ v, Below V.heap.size V v → v.cell? (ad.add (i * 5)) = some (.int .i64 xk) ∧ v.cell? ⟨(ad.add (i * 5)).block, (ad.add (i * 5)).off + 1, none⟩ = some (.string xn) ∧ v.cell? ⟨(ad.add (i * 5)).block, (ad.add (i * 5)).off + 2, none⟩ = some (.int .i64 xi) ∧ v.cell? ⟨(ad.add (i * 5)).block, (ad.add (i * 5)).off + 3, none⟩ = some (.int .i64 xh) ∧ v.cell? ⟨(ad.add (i * 5)).block, (ad.add (i * 5)).off + 4, none⟩ = some (.slice xa xm xc)) ∧
        ∀ v, Below V.heap.size V v → Rep v (fun _ => True) X (.agg #[.int .i64 xk, .string xn, .int .i64 xi, .int .i64 xh, .slice xa xm xc])) := fun i hi => by
      obtain ⟨X, hX⟩ : ∃ X, [vt R, T, X1, X2, con intN []][i]? = some X := ⟨_, List.getElem?_eq_getElem (by simpa using hi)⟩
      obtain ⟨y, h5, hx⟩ := repL_at HV.out i X hX
      obtain ⟨xk, xn, xi, xh, xa, xm, xc, rfl⟩ := hx.form
      exact ⟨X, xk, xn, xi, xh, xa, xm, xc, fun v hb => five_at (h5.kept (hb.block _ h5.lt)), fun v hb => hx.lift hb⟩
    clear HV
    go_wp2
    go_loopg [10] 5 (fun g x wr => ∃ i : Nat, i + g = 5 ∧ x = .int .i64 i ∧ Hid (Below V.heap.size V wr))
    case atStart => exact ⟨0, rfl, rfl, Below.refl _ _⟩
    case round =>
      obtain ⟨i, hi, rfl, HB1⟩ := hrel
      by_cases hi5 : i < 5
      · obtain ⟨g1, rfl⟩ : ∃ g1, gk = g1 + 1 := ⟨gk - 1, by omega⟩
        obtain ⟨XI, ik, iN, ii, ih, ia, im, ic, hIc, hIr⟩ := HEl.out i hi5
        have HIc := Lib.hid hIc
        have HIr := Lib.hid hIr
        clear hIc hIr
        have hi0 : (0 : Int) ≤ (i : Int) := by omega
        have hii : (i : Int) < 5 := by omega
        go_wp2
        go_loopg [11] 5 (fun g x wr => ∃ k : Nat, k + g = 5 ∧ x = .int .i64 k ∧ Hid (Below V.heap.size V wr))
        case atStart => exact ⟨0, rfl, rfl, HB1⟩
        case round =>
          obtain ⟨k, hk, rfl, HB2⟩ := hrel
          by_cases hk5 : k < 5
          · obtain ⟨g2, rfl⟩ : ∃ g2, gk = g2 + 1 := ⟨gk - 1, by omega⟩
            obtain ⟨XK, kk, kN, ki, kh, ka, km, kc, hKc, hKr⟩ := HEl.out k hk5
            have HKeep : Hid (∀ v, Below V.heap.size V v → v.cell? (ad.add (i * 5)) = some (.int .i64 ik) ∧ v.cell? ⟨(ad.add (i * 5)).block, (ad.add (i * 5)).off + 1, none⟩ = some (.string iN) ∧ v.cell? ⟨(ad.add (i * 5)).block, (ad.add (i * 5)).off + 2, none⟩ = some (.int .i64 ii) ∧ v.cell? ⟨(ad.add (i * 5)).block, (ad.add (i * 5)).off + 3, none⟩ = some (.int .i64 ih) ∧ v.cell? ⟨(ad.add (i * 5)).block, (ad.add (i * 5)).off + 4, none⟩ = some (.slice ia im ic) ∧
              v.cell? (ad.add (k * 5)) = some (.int .i64 kk) ∧ v.cell? ⟨(ad.add (k * 5)).block, (ad.add (k * 5)).off + 1, none⟩ = some (.string kN) ∧ v.cell? ⟨(ad.add (k * 5)).block, (ad.add (k * 5)).off + 2, none⟩ = some (.int .i64 ki) ∧ v.cell? ⟨(ad.add (k * 5)).block, (ad.add (k * 5)).off + 3, none⟩ = some (.int .i64 kh) ∧ v.cell? ⟨(ad.add (k * 5)).block, (ad.add (k * 5)).off + 4, none⟩ = some (.slice ka km kc) ∧ Below V.heap.size V v) := fun v hb => by
              obtain ⟨p0, p1, p2, p3, p4⟩ := HIc.out v hb
              obtain ⟨q0, q1, q2, q3, q4⟩ := hKc v hb
              exact ⟨p0, p1, p2, p3, p4, q0, q1, q2, q3, q4, hb⟩
            have HKc := Lib.hid hKc
            have HKr := Lib.hid hKr
            clear hKc hKr
            have hk0 : (0 : Int) ≤ (k : Int) := by omega
            have hkk : (k : Int) < 5 := by omega
            have HC37 : Hid (∀ v, Below V.heap.size V v → Calls Try.prog 37 #[.agg #[.int .i64 ik, .string iN, .int .i64 ii, .int .i64 ih, .slice ia im ic], .agg #[.int .i64 kk, .string kN, .int .i64 ki, .int .i64 kh, .slice ka km kc]] v fun e v' => e = .returned (.int .i64 (cmpT XI XK)) ∧ Below v.heap.size v v') := fun v hb => cmp_any XI XK _ _ _ _ v (HIr.out v hb) (HKr.out v hb)
            have HC38 : Hid (∀ v, Below V.heap.size V v → Calls Try.prog 38 #[.agg #[.int .i64 ik, .string iN, .int .i64 ii, .int .i64 ih, .slice ia im ic], .agg #[.int .i64 kk, .string kN, .int .i64 ki, .int .i64 kh, .slice ka km kc]] v fun e v' => e = .returned (.int .i64 (cmpT XI XK)) ∧ Below v.heap.size v v') := fun v hb => refCmp_any XI XK _ _ _ _ v (HIr.out v hb) (HKr.out v hb)
            have HC37b : Hid (∀ v, Below V.heap.size V v → Calls Try.prog 37 #[.agg #[.int .i64 kk, .string kN, .int .i64 ki, .int .i64 kh, .slice ka km kc], .agg #[.int .i64 ik, .string iN, .int .i64 ii, .int .i64 ih, .slice ia im ic]] v fun e v' => e = .returned (.int .i64 (cmpT XK XI)) ∧ Below v.heap.size v v') := fun v hb => cmp_any XK XI _ _ _ _ v (HKr.out v hb) (HIr.out v hb)
            have HC20 : Hid (∀ v, Below V.heap.size V v → Calls Try.prog 20 #[.agg #[.int .i64 ik, .string iN, .int .i64 ii, .int .i64 ih, .slice ia im ic], .agg #[.int .i64 kk, .string kN, .int .i64 ki, .int .i64 kh, .slice ka km kc]] v fun e v' => e = .returned (.bool (teq XI XK)) ∧ Below v.heap.size v v') := fun v hb => refEqual_any _ XI (Nat.le_refl _) XK _ _ _ _ v (HIr.out v hb) (HKr.out v hb)
            have hcase : (cmpT XI XK = -1 ∧ cmpT XK XI = 1 ∧ teq XI XK = false) ∨ (cmpT XI XK = 0 ∧ cmpT XK XI = 0 ∧ teq XI XK = true) ∨ (cmpT XI XK = 1 ∧ cmpT XK XI = -1 ∧ teq XI XK = false) := by
              have h1 := cmp_flip XI XK
              have h2 := cmp_range XI XK
              have h3 := cmp_teq XI XK
              have h4 : cmpT XI XK = -1 ∨ cmpT XI XK = 0 ∨ cmpT XI XK = 1 := by omega
              rcases h4 with h | h | h
              · exact .inl ⟨h, by omega, by rw [← h3, h]; rfl⟩
              · exact .inr (.inl ⟨h, by omega, by rw [← h3, h]; rfl⟩)
              · exact .inr (.inr ⟨h, by omega, by rw [← h3, h]; rfl⟩)
            have HTr : Hid (∀ Y, cmpT XI XK < 0 → cmpT XK Y < 0 → cmpT XI Y < 0) := fun Y h1 h2 => cmp_trans XI XK Y h1 h2
            generalize cmpT XI XK = c at *
            generalize cmpT XK XI = c' at *
            generalize teq XI XK = q at *
            have HCase := Lib.hid hcase
            clear hcase
            go_upto_region 14 with fail
            go_region_held3 (fun v => v.cell? (ad.add (i * 5)) = some (.int .i64 ik) ∧ v.cell? ⟨(ad.add (i * 5)).block, (ad.add (i * 5)).off + 1, none⟩ = some (.string iN) ∧ v.cell? ⟨(ad.add (i * 5)).block, (ad.add (i * 5)).off + 2, none⟩ = some (.int .i64 ii) ∧ v.cell? ⟨(ad.add (i * 5)).block, (ad.add (i * 5)).off + 3, none⟩ = some (.int .i64 ih) ∧ v.cell? ⟨(ad.add (i * 5)).block, (ad.add (i * 5)).off + 4, none⟩ = some (.slice ia im ic) ∧
              v.cell? (ad.add (k * 5)) = some (.int .i64 kk) ∧ v.cell? ⟨(ad.add (k * 5)).block, (ad.add (k * 5)).off + 1, none⟩ = some (.string kN) ∧ v.cell? ⟨(ad.add (k * 5)).block, (ad.add (k * 5)).off + 2, none⟩ = some (.int .i64 ki) ∧ v.cell? ⟨(ad.add (k * 5)).block, (ad.add (k * 5)).off + 3, none⟩ = some (.int .i64 kh) ∧ v.cell? ⟨(ad.add (k * 5)).block, (ad.add (k * 5)).off + 4, none⟩ = some (.slice ka km kc) ∧ Below V.heap.size V v)
              (first
                | (go_split_ands; exact HKeep.out _ (keepCall (by assumption) hb))
                | exact HKeep.out _ (HB2.out.trans ((Below.refl _ _).drew.mono HB2.out.size)))
              (first
                | (go_at_call 37; (with_reducible refine (HC37.out _ ?_).mono ?_); (go_split_ands; assumption); rintro e w' ⟨rfl, hb⟩))
            all_goals
              go_split_ands
              have hbA : Below V.heap.size V w' := by assumption
              have HB3 := Lib.hid hbA
              clear hbA hb
              clear HC37
              go_wp2_with fail
              go_cut [105] from 52 to 137 (fun s105 wx => s105 = .bool false ∧ Hid (Below V.heap.size V wx))
              case first =>
                have hcc : c' = -c ∧ ((c == 0) != q) = false ∧ -1 ≤ c ∧ c ≤ 1 := by
                  rcases HCase.out with ⟨rfl, rfl, rfl⟩ | ⟨rfl, rfl, rfl⟩ | ⟨rfl, rfl, rfl⟩ <;> decide
                obtain ⟨hc1, hc2, hc3, hc4⟩ := hcc
                have hwn : IntKind.i64.wrap (-c') = c := by rw [IntKind.wrap_i64]; omega
                have hwc : IntKind.i64.wrap c = c := by rw [IntKind.wrap_i64]; omega
                have hself : (c != c) = false := by simp
                clear hc1 hc3 hc4 HCase HTr
                · go_region_held3 (fun v => v.cell? (ad.add (i * 5)) = some (.int .i64 ik) ∧ v.cell? ⟨(ad.add (i * 5)).block, (ad.add (i * 5)).off + 1, none⟩ = some (.string iN) ∧ v.cell? ⟨(ad.add (i * 5)).block, (ad.add (i * 5)).off + 2, none⟩ = some (.int .i64 ii) ∧ v.cell? ⟨(ad.add (i * 5)).block, (ad.add (i * 5)).off + 3, none⟩ = some (.int .i64 ih) ∧ v.cell? ⟨(ad.add (i * 5)).block, (ad.add (i * 5)).off + 4, none⟩ = some (.slice ia im ic) ∧
              v.cell? (ad.add (k * 5)) = some (.int .i64 kk) ∧ v.cell? ⟨(ad.add (k * 5)).block, (ad.add (k * 5)).off + 1, none⟩ = some (.string kN) ∧ v.cell? ⟨(ad.add (k * 5)).block, (ad.add (k * 5)).off + 2, none⟩ = some (.int .i64 ki) ∧ v.cell? ⟨(ad.add (k * 5)).block, (ad.add (k * 5)).off + 3, none⟩ = some (.int .i64 kh) ∧ v.cell? ⟨(ad.add (k * 5)).block, (ad.add (k * 5)).off + 4, none⟩ = some (.slice ka km kc) ∧ Below V.heap.size V v)
                    (first
                      | (go_split_ands; exact HKeep.out _ (keepCall (by assumption) hb))
                      | exact HKeep.out _ (HB3.out.trans ((Below.refl _ _).drew.mono HB3.out.size)))
                    (first
                      | (go_at_call 38; (with_reducible refine (HC38.out _ ?_).mono ?_); (go_split_ands; assumption); rintro e w' ⟨rfl, hb⟩)
                      | (go_at_call 37; (with_reducible refine (HC37b.out _ ?_).mono ?_); (go_split_ands; assumption); rintro e w' ⟨rfl, hb⟩)
                      | (go_at_call 20; (with_reducible refine (HC20.out _ ?_).mono ?_); (go_split_ands; assumption); rintro e w' ⟨rfl, hb⟩))
                  all_goals
                    go_split_ands
                    have hbA : Below V.heap.size V w' := by assumption
                    have HBA := Lib.hid hbA
                    clear hbA hb
                    go_wp2_with fail
                    go_meet
                    exact ⟨congrArg Value.bool hc2, HBA⟩
              case rest =>
                obtain ⟨rfl, HB4⟩ := hcut
                clear HC38 HC37b HC20 HCase HB3
                go_wp2
                go_loopg [13] 5 (fun g x wr => ∃ j : Nat, j + g = 5 ∧ x = .int .i64 j ∧ Hid (Below V.heap.size V wr))
                case atStart => exact ⟨0, rfl, rfl, HB4⟩
                case round =>
                  obtain ⟨j, hj, rfl, HB5⟩ := hrel
                  by_cases hj5 : j < 5
                  · obtain ⟨g3, rfl⟩ : ∃ g3, gk = g3 + 1 := ⟨gk - 1, by omega⟩
                    obtain ⟨XJ, jk, jN, ji, jh, ja, jm, jc, hJc, hJr⟩ := HEl.out j hj5
                    have HKj : Hid (∀ v, Below V.heap.size V v → v.cell? (ad.add (j * 5)) = some (.int .i64 jk) ∧ v.cell? ⟨(ad.add (j * 5)).block, (ad.add (j * 5)).off + 1, none⟩ = some (.string jN) ∧ v.cell? ⟨(ad.add (j * 5)).block, (ad.add (j * 5)).off + 2, none⟩ = some (.int .i64 ji) ∧ v.cell? ⟨(ad.add (j * 5)).block, (ad.add (j * 5)).off + 3, none⟩ = some (.int .i64 jh) ∧ v.cell? ⟨(ad.add (j * 5)).block, (ad.add (j * 5)).off + 4, none⟩ = some (.slice ja jm jc) ∧ v.cell? (ad.add (i * 5)) = some (.int .i64 ik) ∧ v.cell? ⟨(ad.add (i * 5)).block, (ad.add (i * 5)).off + 1, none⟩ = some (.string iN) ∧ v.cell? ⟨(ad.add (i * 5)).block, (ad.add (i * 5)).off + 2, none⟩ = some (.int .i64 ii) ∧ v.cell? ⟨(ad.add (i * 5)).block, (ad.add (i * 5)).off + 3, none⟩ = some (.int .i64 ih) ∧ v.cell? ⟨(ad.add (i * 5)).block, (ad.add (i * 5)).off + 4, none⟩ = some (.slice ia im ic) ∧
              v.cell? (ad.add (k * 5)) = some (.int .i64 kk) ∧ v.cell? ⟨(ad.add (k * 5)).block, (ad.add (k * 5)).off + 1, none⟩ = some (.string kN) ∧ v.cell? ⟨(ad.add (k * 5)).block, (ad.add (k * 5)).off + 2, none⟩ = some (.int .i64 ki) ∧ v.cell? ⟨(ad.add (k * 5)).block, (ad.add (k * 5)).off + 3, none⟩ = some (.int .i64 kh) ∧ v.cell? ⟨(ad.add (k * 5)).block, (ad.add (k * 5)).off + 4, none⟩ = some (.slice ka km kc) ∧ Below V.heap.size V v) := fun v hb => by
                      obtain ⟨p0, p1, p2, p3, p4⟩ := hJc v hb
                      exact ⟨p0, p1, p2, p3, p4, HKeep.out v hb⟩
                    have HJr := Lib.hid hJr
                    clear hJc hJr
                    have hj0 : (0 : Int) ≤ (j : Int) := by omega
                    have hjj : (j : Int) < 5 := by omega
                    have HCd : Hid (∀ v, Below V.heap.size V v → Calls Try.prog 37 #[.agg #[.int .i64 kk, .string kN, .int .i64 ki, .int .i64 kh, .slice ka km kc], .agg #[.int .i64 jk, .string jN, .int .i64 ji, .int .i64 jh, .slice ja jm jc]] v fun e v' => e = .returned (.int .i64 (cmpT XK XJ)) ∧ Below v.heap.size v v') := fun v hb => cmp_any XK XJ _ _ _ _ v (HKr.out v hb) (HJr.out v hb)
                    have HCe : Hid (∀ v, Below V.heap.size V v → Calls Try.prog 37 #[.agg #[.int .i64 ik, .string iN, .int .i64 ii, .int .i64 ih, .slice ia im ic], .agg #[.int .i64 jk, .string jN, .int .i64 ji, .int .i64 jh, .slice ja jm jc]] v fun e v' => e = .returned (.int .i64 (cmpT XI XJ)) ∧ Below v.heap.size v v') := fun v hb => cmp_any XI XJ _ _ _ _ v (HIr.out v hb) (HJr.out v hb)
                    have hway : (c < 0 ∧ cmpT XK XJ < 0 ∧ decide (0 ≤ cmpT XI XJ) = false) ∨ (c < 0 ∧ (cmpT XK XJ = 0 ∨ cmpT XK XJ = 1)) ∨ (decide (c < 0) = false) := by
                      have hdr := cmp_range XK XJ
                      by_cases hc : c < 0
                      · by_cases hd : cmpT XK XJ < 0
                        · exact .inl ⟨hc, hd, by have := HTr.out XJ hc hd; simp; omega⟩
                        · exact .inr (.inl ⟨hc, by omega⟩)
                      · exact .inr (.inr (by simpa using hc))
                    generalize cmpT XK XJ = d at *
                    generalize cmpT XI XJ = e' at *
                    go_upto_region 20 with fail
                    rcases hway with ⟨hc, hd, he⟩ | ⟨hc, hd⟩ | hc
                    · go_region_held3 (fun v => v.cell? (ad.add (j * 5)) = some (.int .i64 jk) ∧ v.cell? ⟨(ad.add (j * 5)).block, (ad.add (j * 5)).off + 1, none⟩ = some (.string jN) ∧ v.cell? ⟨(ad.add (j * 5)).block, (ad.add (j * 5)).off + 2, none⟩ = some (.int .i64 ji) ∧ v.cell? ⟨(ad.add (j * 5)).block, (ad.add (j * 5)).off + 3, none⟩ = some (.int .i64 jh) ∧ v.cell? ⟨(ad.add (j * 5)).block, (ad.add (j * 5)).off + 4, none⟩ = some (.slice ja jm jc) ∧ v.cell? (ad.add (i * 5)) = some (.int .i64 ik) ∧ v.cell? ⟨(ad.add (i * 5)).block, (ad.add (i * 5)).off + 1, none⟩ = some (.string iN) ∧ v.cell? ⟨(ad.add (i * 5)).block, (ad.add (i * 5)).off + 2, none⟩ = some (.int .i64 ii) ∧ v.cell? ⟨(ad.add (i * 5)).block, (ad.add (i * 5)).off + 3, none⟩ = some (.int .i64 ih) ∧ v.cell? ⟨(ad.add (i * 5)).block, (ad.add (i * 5)).off + 4, none⟩ = some (.slice ia im ic) ∧
              v.cell? (ad.add (k * 5)) = some (.int .i64 kk) ∧ v.cell? ⟨(ad.add (k * 5)).block, (ad.add (k * 5)).off + 1, none⟩ = some (.string kN) ∧ v.cell? ⟨(ad.add (k * 5)).block, (ad.add (k * 5)).off + 2, none⟩ = some (.int .i64 ki) ∧ v.cell? ⟨(ad.add (k * 5)).block, (ad.add (k * 5)).off + 3, none⟩ = some (.int .i64 kh) ∧ v.cell? ⟨(ad.add (k * 5)).block, (ad.add (k * 5)).off + 4, none⟩ = some (.slice ka km kc) ∧ Below V.heap.size V v)
                        (first
                          | (go_split_ands; exact HKj.out _ (keepCall (by assumption) hb))
                          | exact HKj.out _ (HB5.out.trans ((Below.refl _ _).drew.mono HB5.out.size)))
                        (first
                          | (go_at_call 37; (with_reducible refine (HCd.out _ ?_).mono ?_); (go_split_ands; assumption); rintro e w' ⟨rfl, hb⟩)
                          | (go_at_call 37; (with_reducible refine (HCe.out _ ?_).mono ?_); (go_split_ands; assumption); rintro e w' ⟨rfl, hb⟩))
                      all_goals
                        go_split_ands
                        have hbA : Below V.heap.size V w' := by assumption
                        have HB6 := Lib.hid hbA
                        clear hbA hb HKj HCd HCe
                        go_wp2
                        go_roundg g3
                        case measure => omega
                        case rel => exact ⟨j + 1, by omega, by go_num, HB6⟩
                    · have hKjk : ∀ v, Below V.heap.size V v → v.cell? (ad.add (j * 5)) = some (.int .i64 jk) ∧ v.cell? ⟨(ad.add (j * 5)).block, (ad.add (j * 5)).off + 1, none⟩ = some (.string jN) ∧ v.cell? ⟨(ad.add (j * 5)).block, (ad.add (j * 5)).off + 2, none⟩ = some (.int .i64 ji) ∧ v.cell? ⟨(ad.add (j * 5)).block, (ad.add (j * 5)).off + 3, none⟩ = some (.int .i64 jh) ∧ v.cell? ⟨(ad.add (j * 5)).block, (ad.add (j * 5)).off + 4, none⟩ = some (.slice ja jm jc) ∧ v.cell? (ad.add (k * 5)) = some (.int .i64 kk) ∧ v.cell? ⟨(ad.add (k * 5)).block, (ad.add (k * 5)).off + 1, none⟩ = some (.string kN) ∧ v.cell? ⟨(ad.add (k * 5)).block, (ad.add (k * 5)).off + 2, none⟩ = some (.int .i64 ki) ∧ v.cell? ⟨(ad.add (k * 5)).block, (ad.add (k * 5)).off + 3, none⟩ = some (.int .i64 kh) ∧ v.cell? ⟨(ad.add (k * 5)).block, (ad.add (k * 5)).off + 4, none⟩ = some (.slice ka km kc) ∧ Below V.heap.size V v := fun v hb => by
                        obtain ⟨p0, p1, p2, p3, p4, -, -, -, -, -, q0, q1, q2, q3, q4, -⟩ := HKj.out v hb
                        exact ⟨p0, p1, p2, p3, p4, q0, q1, q2, q3, q4, hb⟩
                      have HKjk := Lib.hid hKjk
                      clear hKjk
                      clear HKj HCe HKeep HKc HKr HTr
                      rcases hd with rfl | rfl
                      all_goals
                        obtain ⟨y0, y1, y2, y3, y4, y5, y6, y7, y8, y9, -⟩ := HKjk.out wr HB5.out
                        have G0 := cell_regrown y0
                        have G1 := cell_regrown y1
                        have G2 := cell_regrown y2
                        have G3 := cell_regrown y3
                        have G4 := cell_regrown y4
                        have G5 := cell_regrown y5
                        have G6 := cell_regrown y6
                        have G7 := cell_regrown y7
                        have G8 := cell_regrown y8
                        have G9 := cell_regrown y9
                        refine wp_region_quiet_below (by kernel_rfl) (by kernel_rfl) ?_
                        repeat (first | go_big_quiet_step ((go_at_call 37; exact Calls.regrown_of (HCd.out _ (HB5.out.trans ((below_regrown wr _ _).mono HB5.out.size))))) | quiet_step ((go_at_call 37; exact Calls.regrown_of (HCd.out _ (HB5.out.trans ((below_regrown wr _ _).mono HB5.out.size))))))
                        refine wpQuiet_nil ?_
                        intro _ hw'
                        obtain ⟨⟨dq, osq⟩, hw''⟩ := hw'
                        subst hw''
                        have HB6 := Lib.hid (HB5.out.trans ((below_regrown wr dq osq).mono HB5.out.size))
                        clear y0 y1 y2 y3 y4 y5 y6 y7 y8 y9 G0 G1 G2 G3 G4 G5 G6 G7 G8 G9 HKjk HCd
                        generalize grow (redrawn wr dq) osq = wz at *
                        go_wp2
                        go_roundg g3
                        case measure => omega
                        case rel => exact ⟨j + 1, by omega, by go_num, HB6⟩
                    · have HB6 := Lib.hid (fun nq => HB5.out.trans ((below_drewN (Below.refl _ wr) nq).mono HB5.out.size))
                      clear HKj HCd HCe
                      go_quiet (fail)
                      have HB7 := Lib.hid (HB6.out nq)
                      go_wp2
                      go_roundg g3
                      case measure => omega
                      case rel => exact ⟨j + 1, by omega, by go_num, HB7⟩
                  · obtain rfl : j = 5 := by omega
                    clear HKeep HKc HKr HTr HB2
                    go_wp2
                    go_roundg g2
                    case measure => omega
                    case rel => exact ⟨k + 1, by omega, by go_num, HB5⟩
          · obtain rfl : k = 5 := by omega
            go_wp2
            go_roundg g1
            case measure => omega
            case rel => exact ⟨i + 1, by omega, by go_num, HB2⟩
      · obtain rfl : i = 5 := by omega
        have HE := Lib.hid (HLow.out.trans (HB1.out.mono HLow.out.size))
        go_wp2
        go_ret
        exact ⟨rfl, HE.out⟩
end Go.Proofs.Ytodbmgmjnenlpaa
