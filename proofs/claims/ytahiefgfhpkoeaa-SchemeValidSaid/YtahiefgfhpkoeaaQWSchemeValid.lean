/- Schemes: what the law SchemeValid wants besides. The law SchemeValid returns true at every input. -/
import Derived.Test.YtahiefgfhpkoeaaQJ
import Derived.Test.YtahiefgfhpkoeaaQH
namespace Go.Proofs.Ytahiefgfhpkoeaa
open Go.RowKit Go.Sort Go.Shelf Go.Maps Mth

theorem smallType40_any (T : Ty) (v : Value) (S : Nat → Prop) (w : World) (h : Rep w S T v) : Calls Try.prog 11 #[v, .int .i64 40] w fun e w' => e = .returned (.bool (decide (nodes T ≤ 40))) ∧ Below w.heap.size w w' := by
  obtain ⟨k, n, i, hm, s, eT, rfl, hn, hs⟩ := h.open
  have HR := Lib.hid h
  obtain ⟨sa, sc, rfl, -⟩ := hs
  have hb0 : ∀ X Z, Below w.heap.size w (w.alloc (.cells X Z)) := fun X Z => (Below.refl _ w).alloc (Nat.le_refl _) _
  have HC := Lib.hid (fun X Z => count_any T _ S (w.alloc (.cells X Z)) 41 (by omega) (by omega) (HR.out.lift (hb0 X Z)))
  have HD : Hid (decide (nodes T ≤ 40) = decide (0 < 41 - nodes T)) := by show _ = _; rw [Bool.eq_iff_iff]; simp; omega
  clear h eT hn
  generalize T.ts.length = sn at *
  generalize 41 - nodes T = q at *
  go_enter Try.func11, Try.ntmps11
  go_wp2_with (go_at_call 40; refine (HC.out _ _).mono ?_; rintro e w1 ⟨rfl, hb1⟩)
  all_goals
    go_ret
    exact ⟨ret_bool (by rw [HD.out] <;> (rw [Bool.eq_iff_iff]; simp)), (hb0 _ _).trans (hb1.mono (by simp))⟩
/-- The leaves that the law hands to the maker. -/
def lfV : List Ty := [bd 0, bd 1, bd 2, .mk 5 ⟨#[97]⟩ 0 0 []]
theorem lfV_ok : LeafL lfV := leaf_all _ (by decide) (by decide +kernel)
theorem slG_four (W : World) (S : Nat → Prop) (hS : S W.heap.size) (Z : TypeId) :
    SlG TyE (W.alloc (.cells #[.int .i64 2, .string ⟨#[]⟩, .int .i64 0, .int .i64 0, .slice none 0 0, .int .i64 2, .string ⟨#[]⟩, .int .i64 1, .int .i64 0, .slice none 0 0, .int .i64 2, .string ⟨#[]⟩, .int .i64 2, .int .i64 0, .slice none 0 0, .int .i64 5, .string ⟨#[97]⟩, .int .i64 0, .int .i64 0, .slice none 0 0] Z)) S lfV (.slice (some ⟨W.heap.size, 0, none⟩) 4 4) := by
  refine ⟨_, 4, rfl, ⟨Nat.le_refl _, by unfold maxLen; omega⟩, fun j x hj => ?_⟩
  match j, hj with
  | 0, hj =>
    cases hj
    refine ⟨_, _, rfl, hS, fun m u hu => ?_, rep_leaf _ _ 2 ⟨#[]⟩ 0 0 (Nat.zero_le _)⟩
    match m, hu with
    | 0, hu | 1, hu | 2, hu | 3, hu | 4, hu => simp at hu; subst hu; simp [Addr.add, TyE]
    | m + 5, hu => simp at hu
  | 1, hj =>
    cases hj
    refine ⟨_, _, rfl, hS, fun m u hu => ?_, rep_leaf _ _ 2 ⟨#[]⟩ 1 0 (Nat.zero_le _)⟩
    match m, hu with
    | 0, hu | 1, hu | 2, hu | 3, hu | 4, hu => simp at hu; subst hu; simp [Addr.add, TyE]
    | m + 5, hu => simp at hu
  | 2, hj =>
    cases hj
    refine ⟨_, _, rfl, hS, fun m u hu => ?_, rep_leaf _ _ 2 ⟨#[]⟩ 2 0 (Nat.zero_le _)⟩
    match m, hu with
    | 0, hu | 1, hu | 2, hu | 3, hu | 4, hu => simp at hu; subst hu; simp [Addr.add, TyE]
    | m + 5, hu => simp at hu
  | 3, hj =>
    cases hj
    refine ⟨_, _, rfl, hS, fun m u hu => ?_, rep_leaf _ _ 5 ⟨#[97]⟩ 0 0 (by unfold maxLen; decide)⟩
    match m, hu with
    | 0, hu | 1, hu | 2, hu | 3, hu | 4, hu => simp at hu; subst hu; simp [Addr.add, TyE]
    | m + 5, hu => simp at hu
  | j + 4, hj => simp [lfV] at hj
end Go.Proofs.Ytahiefgfhpkoeaa

namespace Go.Proofs.Ytahiefgfhpkoeaa
open Go.RowKit Go.Sort Go.Shelf Go.Maps Mth

set_option maxRecDepth 100000 in
set_option maxHeartbeats 20000000 in
theorem schemeValid_any (bits : Int) (cv : Value) (zs : List Int) (rv : Value) (raw : Int × Ty) (nn : Int) (w : World) (hz : Ints w cv zs) (hr : RepC w (fun b => b < w.heap.size) raw rv) :
    Calls Try.prog 3 #[.int .i64 bits, cv, rv, .int .i64 nn] w fun e w' => e = .returned (.bool true) ∧ Below w.heap.size w w' := by
  obtain ⟨rk, rn, ri, rh, ra, rm, rc, rfl, hrr⟩ := hr.form
  obtain ⟨r0, rT⟩ := raw
  have hW0b : Below w.heap.size w (w.alloc (.cells #[.int .i64 r0, .int .i64 rk, .string rn, .int .i64 ri, .int .i64 rh, .slice ra rm rc] 27)) := (Below.refl _ w).alloc (Nat.le_refl _) _
  obtain ⟨W0, hW0⟩ : ∃ W0, W0 = w.alloc (.cells #[.int .i64 r0, .int .i64 rk, .string rn, .int .i64 ri, .int .i64 rh, .slice ra rm rc] 27) := ⟨_, rfl⟩
  rw [← hW0] at hW0b
  have hbr : BoxC W0 w.heap.size (.int .i64 r0) (.int .i64 rk) (.string rn) (.int .i64 ri) (.int .i64 rh) (.slice ra rm rc) := hW0 ▸ BoxC.made _ _ _ _ _ _ _
  have HBr : Hid (∀ W', Below W0.heap.size W0 W' → BoxC W' w.heap.size (.int .i64 r0) (.int .i64 rk) (.string rn) (.int .i64 ri) (.int .i64 rh) (.slice ra rm rc)) := fun W' hb => BoxC.lift hbr hb
  have HRr : Hid (∀ W', Below W0.heap.size W0 W' → RepC W' (fun _ => True) (r0, rT) (.agg #[.int .i64 r0, .int .i64 rk, .string rn, .int .i64 ri, .int .i64 rh, .slice ra rm rc])) := fun W' hb => ((hr.imp fun _ _ => trivial).lift hW0b).lift hb
  have HRt : Hid (∀ W', Below W0.heap.size W0 W' → Rep W' (fun _ => True) rT (.agg #[.int .i64 rk, .string rn, .int .i64 ri, .int .i64 rh, .slice ra rm rc])) := fun W' hb => ((hrr.imp fun _ _ => trivial).lift hW0b).lift hb
  have HW0 := Lib.hid hW0b
  have HZ := Lib.hid (hz.lift hW0b)
  obtain ⟨ca, cc, rfl, -, -, -⟩ := hz
  have HFi := Lib.hid (fun w => first14_any w)
  have HFw : Hid (∀ w', Below W0.heap.size W0 w' → Calls Try.prog 10 #[.slice ca zs.length cc] w' fun e w'' => e = .returned (.bool (decide (zs.length ≤ 60))) ∧ w' = w'') := fun w' hb => few_any _ zs w' (HZ.out.lift hb)
  have HSm : Hid (∀ w', Below W0.heap.size W0 w' → Calls Try.prog 11 #[.agg #[.int .i64 rk, .string rn, .int .i64 ri, .int .i64 rh, .slice ra rm rc], .int .i64 40] w' fun e w'' => e = .returned (.bool (decide (nodes rT ≤ 40))) ∧ Below w'.heap.size w' w'') := fun w' hb => smallType40_any rT _ _ w' (HRt.out w' hb)
  have HTp : Hid (zs.length ≤ 60 → ∀ w1, Below W0.heap.size W0 w1 → W0.heap.size < w1.heap.size → Tq (w1.alloc (.cells #[.slice ca zs.length cc, .int .i64 0] 33)) w1.heap.size) := fun h w1 hb hs => tape_start (by omega) HZ.out hb hs
  have HMd := Lib.hid (fun b w h => made14_any bits b w h)
  have HAl : Hid (∀ (w : World) (o : Obj), Below w.heap.size w (w.alloc o)) := fun w o => (Below.refl _ w).alloc (Nat.le_refl _) _
  have HBM : Hid (∀ w : World, Zero (w.alloc (.cells #[.int .i64 0, .string ⟨#[]⟩, .int .i64 0, .int .i64 0, .slice none 0 0] 25)) w.heap.size) := fun w => Box.made _ _ _ _ _ _
  generalize zs.length = zn at *
  clear hr hrr hbr hW0b
  cases hfw : decide (zn ≤ 60) <;> cases hsm : decide (nodes rT ≤ 40)
  all_goals
    rw [hfw] at HFw
    rw [hsm] at HSm
    have HFwp := Lib.hid hfw
    have HSmp := Lib.hid hsm
    clear hfw hsm
    go_enter Try.func3, Try.ntmps3
    go_upto_region 1 with fail
    rw [← hW0]
    clear hW0
    go_wp2_with fail
    go_at_call 9
    refine (HFi.out _).mono ?_
    rintro e w1 ⟨rfl, hb1, hs1⟩
    obtain ⟨c0, c1, c2, c3, c4, c5⟩ := (HBr.out w1 hb1).cells
    go_wp2_with (first
      | (go_at_call 10; refine (HFw.out _ hb1).mono ?_; rintro e w3 ⟨rfl, rfl⟩)
      | (go_at_call 11; refine (HSm.out _ hb1).mono ?_; rintro e w3 ⟨rfl, hb3⟩))
  any_goals (first | (go_ret; exact ⟨rfl, HW0.out.trans ((hb1.trans (hb3.mono hb1.size)).mono HW0.out.size)⟩) | (go_ret; exact ⟨rfl, HW0.out.trans (hb1.mono HW0.out.size)⟩))
  have hbA : Below W0.heap.size W0 w3 := hb1.trans (hb3.mono hb1.size)
  have hsA : W0.heap.size < w3.heap.size := Nat.lt_of_lt_of_le hs1 hb3.size
  have HNr : Hid (nodes rT ≤ 40) := by
    show _ ≤ _
    exact of_decide_eq_true HSmp.out
  have hT1 := HTp.out (of_decide_eq_true HFwp.out) _ hbA hsA
  have hbV : Below W0.heap.size W0 (w3.alloc (.cells #[.slice ca zn cc, .int .i64 0] 33)) := hbA.trans ((HAl.out _ _).mono hbA.size)
  have hVs : (w3.alloc (.cells #[.slice ca zn cc, .int .i64 0] 33)).heap.size = w3.heap.size + 1 := by simp
  clear c0 c1 c2 c3 c4 c5
  generalize hb : w3.heap.size = b at *
  generalize (w3.alloc (.cells #[.slice ca zn cc, .int .i64 0] 33)) = V at *
  have HT1 := Lib.hid hT1
  have HV := Lib.hid hbV
  have HVs := Lib.hid hVs
  have hwb : W0.heap.size ≤ b := Nat.le_of_lt hsA
  clear hT1 hbV hVs HTp HFw HFi HFwp HSmp HSm hb1 hb3 hbA hsA HZ hb hs1 HRt
  refine (HMd.out b V HT1.out).mono ?_
  rintro e w2 ⟨T, ids, u, v, rfl, hrep, hok, hrow, hil, hib, htq, hg⟩
  have hV1 : b + 1 ≤ V.heap.size := by have := HVs.out; omega
  obtain ⟨xk, xn, xi, xh, xa, xm, xc, rfl⟩ := hrep.form
  obtain ⟨va, vc, rfl, hvl, hvc⟩ := hrow.slice
  have HG2 : Hid (V.grownBy w2 (some b)) := hg
  have HT2 := Lib.hid htq
  have HX2 : Hid (Rep w2 (fun c => b < c) T (.agg #[.int .i64 xk, .string xn, .int .i64 xi, .int .i64 xh, .slice xa xm xc])) := hrep.imp fun c hc => by omega
  have HR2 : Hid (RowI w2 (b + 1) (.slice va ids.length vc) ids) := ⟨hrow.1, by
    rcases hrow.2 with h | ⟨g, cap, cur, h1, h2, h3⟩
    · exact .inl h
    · exact .inr ⟨g, cap, cur, h1, by omega, h3⟩⟩
  have HOk := Lib.hid hok
  have HIl := Lib.hid hil
  have HIb := Lib.hid hib
  clear hrep hok hrow hil hib htq hg hvl hvc
  go_wp2_with (refine wpList_store5 rfl _ _ rfl _ _ _ _ _ _ (HBM.out w2) rfl _ _ _ _ _ _ _ rfl ?_; intro w4 hB4 hg4 hs4)
  have hb24 : Below w2.heap.size w2 w4 := Below.grown (HAl.out w2 _) hg4 (by simp) (fun k hk => by cases hk; exact Nat.le_refl _)
  have HM1 : Hid (MkX w b w2.heap.size T ids xk xn xi xh xa xm xc (.slice va ids.length vc) w4) := ⟨hB4, HX2.out.lift hb24, HR2.out.lift hb24, HOk.out, HT2.out.lt⟩
  have HT4 : Hid (Tq w4 b) := HT2.out.lift hb24
  have HG4 : Hid (V.grownBy w4 (some b)) := grown_trans HG2.out (grown_of_below hb24 _)
  have hs24 : w2.heap.size < w4.heap.size := by rw [hs4]; simp
  have HOkT := HOk
  clear hB4 hg4 hs4 hb24 HX2 HR2 HT2 HG2 HOk
  generalize hB1 : w2.heap.size = B1 at *
  generalize hn1 : ids.length = n1 at *
  clear hB1 hn1 hV1 hs24 HIl HIb HMd HOkT
  have HDs := Lib.hid (fun w => datas_any bits w)
  have HBd : Hid (∀ i w, Calls Try.prog 15 #[.int .i64 i] w fun e w' => e = .returned (.agg #[.int .i64 2, .string ⟨#[]⟩, .int .i64 i, .int .i64 0, .slice none 0 0]) ∧ Below w.heap.size w w') := fun i w => refBound_any i w
  have HNm : Hid (∀ w, Calls Try.prog 16 #[.string ⟨#[97]⟩] w fun e w' => e = .returned (.agg #[.int .i64 5, .string ⟨#[97]⟩, .int .i64 0, .int .i64 0, .slice none 0 0]) ∧ Below w.heap.size w w') := fun w => refNamed_any _ w
  have HMk := Lib.hid (mkType_any 3)
  have HF4 := Lib.hid (fun W S hS Z => slG_four W S hS Z)
  go_wp2_with fail
  go_at_call 14
  refine (HDs.out w4).mono ?_
  rintro e w5 ⟨ds, dv, rfl, hds, hsd, hb5⟩
  have HSo := Lib.hid hds
  have HSd := Lib.hid hsd
  have HB5 := Lib.hid hb5
  clear hds hsd hb5
  go_wp2_with fail
  go_at_call 15
  refine (HBd.out 0 w5).mono ?_
  rintro e w6 ⟨rfl, hb⟩
  have HB6 := Lib.hid (HB5.out.trans (hb.mono HB5.out.size))
  have HQ6 := Lib.hid hb
  clear hb
  go_wp2_with fail
  go_at_call 15
  refine (HBd.out 1 w6).mono ?_
  rintro e w7 ⟨rfl, hb⟩
  have HB7 := Lib.hid (HB6.out.trans (hb.mono HB6.out.size))
  have HQ7 := Lib.hid (HQ6.out.trans (hb.mono HQ6.out.size))
  clear hb
  go_wp2_with fail
  go_at_call 15
  refine (HBd.out 2 w7).mono ?_
  rintro e w8 ⟨rfl, hb⟩
  have HB8 := Lib.hid (HB7.out.trans (hb.mono HB7.out.size))
  have HQ8 := Lib.hid (HQ7.out.trans (hb.mono HQ7.out.size))
  clear hb
  go_wp2_with fail
  go_at_call 16
  refine (HNm.out w8).mono ?_
  rintro e w9 ⟨rfl, hb⟩
  have HB9 := Lib.hid (HB8.out.trans (hb.mono HB8.out.size))
  have HQ9 := Lib.hid (HQ8.out.trans (hb.mono HQ8.out.size))
  clear hb HB5 HB6 HB7 HB8 HQ6 HQ7 HQ8
  go_wp2_with fail
  go_at_call 13
  have hT9 := HT4.out.lift HB9.out
  have hbl : b < w4.heap.size := HT4.out.lt
  have hal := HAl.out w9 (.cells #[.int .i64 2, .string ⟨#[]⟩, .int .i64 0, .int .i64 0, .slice none 0 0, .int .i64 2, .string ⟨#[]⟩, .int .i64 1, .int .i64 0, .slice none 0 0, .int .i64 2, .string ⟨#[]⟩, .int .i64 2, .int .i64 0, .slice none 0 0, .int .i64 5, .string ⟨#[97]⟩, .int .i64 0, .int .i64 0, .slice none 0 0] 25)
  have hb9 : w4.heap.size ≤ w9.heap.size := HB9.out.size
  refine (HMk.out 3 ds _ lfV _ (fun c => c ≠ b) b _ _ rfl (by decide) HSo.out lfV_ok ((HSd.out.kept (S' := fun c => c ≠ b) (fun c hc => by omega) (fun _ _ _ => rfl)).kept (fun _ h => h) (fun c _ hl => (HQ9.out.trans (hal.mono HQ9.out.size)).block c hl)) (HF4.out w9 (fun c => c ≠ b) (by omega) _) (fun _ h => h) (hT9.lift hal) (Nat.le_refl _)).mono ?_
  rintro e w10 ⟨u10, rfl, Y, hrep, hok, htq, hg⟩
  obtain ⟨yk, yn, yi, yh, ya, ym, yc, rfl⟩ := hrep.form
  have hg410 : w4.grownBy w10 (some b) := grown_trans (grown_of_below (HB9.out.trans (hal.mono HB9.out.size)) _) hg
  have HM10 := Lib.hid (HM1.out.far hg410)
  have HY10 : Hid (Rep w10 (fun _ => True) Y (.agg #[.int .i64 yk, .string yn, .int .i64 yi, .int .i64 yh, .slice ya ym yc])) := hrep.imp fun _ _ => trivial
  have HOkY := Lib.hid hok
  have HG10 : Hid (V.grownBy w10 (some b)) := grown_trans HG4.out hg410
  clear hrep hok htq hg hg410 hT9 hbl hal hb9 HSo HSd HB9 HQ9 HM1 HG4 HT4 HDs HBd HNm HMk HF4
  go_upto_region 8 with (refine wpList_store5 rfl _ _ rfl _ _ _ _ _ _ (HBM.out w10) rfl _ _ _ _ _ _ _ rfl ?_; intro w11 hB11 hg11 hs11)
  have hb11 : Below w10.heap.size w10 w11 := Below.grown (HAl.out w10 _) hg11 (by simp) (fun k hk => by cases hk; exact Nat.le_refl _)
  have HM11 := Lib.hid (HM10.out.lift hb11)
  have HY11 := Lib.hid (HY10.out.lift hb11)
  have HBy := Lib.hid hB11
  have HW11 : Hid (Below W0.heap.size W0 w11) := Below.grown HV.out (grown_trans HG10.out (grown_of_below hb11 _)) HV.out.size (fun k hk => by cases hk; exact hwb)
  clear hB11 hg11 hs11 hb11 HM10 HY10 HG10 HV HVs hwb HBM
  generalize hB2 : w10.heap.size = B2 at *
  clear hB2
  have hn0 := Int.emod_nonneg nn (b := 4) (by omega)
  have HMo : Hid (∀ W, Calls Try.prog 17 #[.int .i64 nn, .int .i64 4] W fun e w' => e = .returned (.int .i64 (nn % 4)) ∧ W = w') := fun W => mod_any nn 4 W (by omega) (by omega)
  generalize nn % 4 = n4 at *
  clear hn0
  have HSy : Hid (∀ W', Below w11.heap.size w11 W' → W'.cell? ⟨B2, 0, none⟩ = some (.int .i64 yk) ∧ W'.cell? ⟨B2, 1, none⟩ = some (.string yn) ∧ W'.cell? ⟨B2, 2, none⟩ = some (.int .i64 yi) ∧ W'.cell? ⟨B2, 3, none⟩ = some (.int .i64 yh) ∧ W'.cell? ⟨B2, 4, none⟩ = some (.slice ya ym yc)) := fun W' hb => (Box.lift HBy.out hb).cells
  have HD0 : Hid (Below w11.heap.size w11 w11.drew) := (Below.refl _ w11).drew
  have HD1 : Hid (∀ o, Below w11.heap.size w11 (w11.alloc o).drew) := fun o => (HAl.out w11 o).drew
  have HW12 : Hid (Below w11.heap.size w11 (w11.alloc (.cells #[.int .i64 n4, .int .i64 yk, .string yn, .int .i64 yi, .int .i64 yh, .slice ya ym yc] 27)).drew) := HD1.out _
  have HBC : Hid (BoxC (w11.alloc (.cells #[.int .i64 n4, .int .i64 yk, .string yn, .int .i64 yi, .int .i64 yh, .slice ya ym yc] 27)).drew w11.heap.size (.int .i64 n4) (.int .i64 yk) (.string yn) (.int .i64 yi) (.int .i64 yh) (.slice ya ym yc)) := BoxC.made _ _ _ _ _ _ _
  go_wp2_with fail
  go_region_held3 (fun W' => W'.cell? ⟨B2, 0, none⟩ = some (.int .i64 yk) ∧ W'.cell? ⟨B2, 1, none⟩ = some (.string yn) ∧ W'.cell? ⟨B2, 2, none⟩ = some (.int .i64 yi) ∧ W'.cell? ⟨B2, 3, none⟩ = some (.int .i64 yh) ∧ W'.cell? ⟨B2, 4, none⟩ = some (.slice ya ym yc))
    (first
      | with_reducible exact HSy.out _ HD0.out
      | with_reducible exact HSy.out _ (HD1.out _))
    (first
      | (go_at_call 17; (with_reducible refine (HMo.out _).mono ?_); rintro e w12 ⟨rfl, rfl⟩))
  all_goals
    generalize (w11.alloc (.cells #[.int .i64 n4, .int .i64 yk, .string yn, .int .i64 yi, .int .i64 yh, .slice ya ym yc] 27)).drew = w12 at *
    have HM12 := Lib.hid (HM11.out.lift HW12.out)
    have HY12 := Lib.hid (HY11.out.lift HW12.out)
    have HWC : Hid (Below W0.heap.size W0 w12) := HW11.out.trans (HW12.out.mono HW11.out.size)
    clear HD0 HD1 HSy HBy HMo HM11 HY11 HW11 HW12
    generalize hB3 : w11.heap.size = B3 at *
    clear hB3
    generalize hR0 : w.heap.size = R0 at *
    have HVT : Hid (valid T = true ∧ allN QS T = true ∧ nodes T ≤ 15) := by
      have h := HM12.out.ok.1.2
      rw [capN3] at h
      exact ⟨HM12.out.ok.1.1, HM12.out.ok.2, h⟩
    have HNy : Hid (nodes Y ≤ 15) := by
      have h := HOkY.out.2
      rw [capN3] at h
      exact h
    have HK : Hid (∀ W', Below w12.heap.size w12 W' → Below W0.heap.size W0 W') := fun W' hb => HWC.out.trans (hb.mono HWC.out.size)
    have HVr1 : Hid (∀ W', Below w12.heap.size w12 W' → Calls Try.prog 18 #[.agg #[.int .i64 r0, .int .i64 rk, .string rn, .int .i64 ri, .int .i64 rh, .slice ra rm rc]] W' fun e w' => e = .returned (.bool (schV r0 rT)) ∧ Below W'.heap.size W' w') := fun W' hb => pkValid_any r0 rT _ _ W' (by have := HNr.out; omega) (HRr.out W' (HK.out W' hb))
    have HVr2 : Hid (∀ W', Below w12.heap.size w12 W' → Calls Try.prog 19 #[.agg #[.int .i64 r0, .int .i64 rk, .string rn, .int .i64 ri, .int .i64 rh, .slice ra rm rc]] W' fun e w' => e = .returned (.bool (schV r0 rT)) ∧ Below W'.heap.size W' w') := fun W' hb => refValidS_any r0 rT _ _ W' (by have := HNr.out; omega) (HRr.out W' (HK.out W' hb))
    have HCy : Hid (∀ W', Below w12.heap.size w12 W' → RepC W' (fun _ => True) (n4, Y) (.agg #[.int .i64 n4, .int .i64 yk, .string yn, .int .i64 yi, .int .i64 yh, .slice ya ym yc])) := fun W' hb => ⟨yk, yn, yi, yh, _, rfl, HY12.out.lift hb⟩
    have HVc1 : Hid (∀ W', Below w12.heap.size w12 W' → Calls Try.prog 18 #[.agg #[.int .i64 n4, .int .i64 yk, .string yn, .int .i64 yi, .int .i64 yh, .slice ya ym yc]] W' fun e w' => e = .returned (.bool (schV n4 Y)) ∧ Below W'.heap.size W' w') := fun W' hb => pkValid_any n4 Y _ _ W' (by have := HNy.out; omega) (HCy.out W' hb)
    have HVc2 : Hid (∀ W', Below w12.heap.size w12 W' → Calls Try.prog 19 #[.agg #[.int .i64 n4, .int .i64 yk, .string yn, .int .i64 yi, .int .i64 yh, .slice ya ym yc]] W' fun e w' => e = .returned (.bool (schV n4 Y)) ∧ Below W'.heap.size W' w') := fun W' hb => refValidS_any n4 Y _ _ W' (by have := HNy.out; omega) (HCy.out W' hb)
    have HClo : Hid (∀ W', Below w12.heap.size w12 W' → Calls Try.prog 20 #[.agg #[.int .i64 xk, .string xn, .int .i64 xi, .int .i64 xh, .slice xa xm xc], .slice va n1 vc] W' fun e w' => ∃ u, e = .returned u ∧ RepC w' (fun _ => True) (((clV ids T).length : Int), clT ids T) u ∧ Below W'.heap.size W' w') := fun W' hb => (HM12.out.lift hb).close pkClose_any
    have HVd : Hid (∀ {W' : World} {u : Value}, RepC W' (fun _ => True) (((clV ids T).length : Int), clT ids T) u → Calls Try.prog 18 #[u] W' fun e w' => e = .returned (.bool true) ∧ Below W'.heap.size W' w') := fun {W' u} hr => by
      have h := pkValid_any _ _ u _ W' (by have := clT_nodes (ids := ids) (T := T); have := HVT.out.2.2; omega) hr
      rwa [schV_close HVT.out.1 HVT.out.2.1] at h
    have HMn : Hid (∀ W', Below w12.heap.size w12 W' → Calls Try.prog 21 #[.agg #[.int .i64 xk, .string xn, .int .i64 xi, .int .i64 xh, .slice xa xm xc]] W' fun e w' => ∃ u, e = .returned u ∧ RepC w' (fun _ => True) (0, T) u ∧ Below W'.heap.size W' w') := fun W' hb => pkMono_any T _ _ W' ((HM12.out.lift hb).rep.imp fun _ _ => trivial)
    have HVm : Hid (∀ {W' : World} {u : Value}, RepC W' (fun _ => True) (0, T) u → Calls Try.prog 18 #[u] W' fun e w' => e = .returned (.bool true) ∧ Below W'.heap.size W' w') := fun {W' u} hr => by
      have h := pkValid_any _ _ u _ W' (by have := HVT.out.2.2; omega) hr
      rwa [schV_mono HVT.out.1 HVT.out.2.1] at h
    have HS : Hid (∀ W', Below w12.heap.size w12 W' → W'.cell? ⟨R0, 0, none⟩ = some (.int .i64 r0) ∧ W'.cell? ⟨R0, 1, none⟩ = some (.int .i64 rk) ∧ W'.cell? ⟨R0, 2, none⟩ = some (.string rn) ∧ W'.cell? ⟨R0, 3, none⟩ = some (.int .i64 ri) ∧ W'.cell? ⟨R0, 4, none⟩ = some (.int .i64 rh) ∧ W'.cell? ⟨R0, 5, none⟩ = some (.slice ra rm rc) ∧ W'.cell? ⟨B3, 0, none⟩ = some (.int .i64 n4) ∧ W'.cell? ⟨B3, 1, none⟩ = some (.int .i64 yk) ∧ W'.cell? ⟨B3, 2, none⟩ = some (.string yn) ∧ W'.cell? ⟨B3, 3, none⟩ = some (.int .i64 yi) ∧ W'.cell? ⟨B3, 4, none⟩ = some (.int .i64 yh) ∧ W'.cell? ⟨B3, 5, none⟩ = some (.slice ya ym yc) ∧ W'.cell? ⟨B1, 0, none⟩ = some (.int .i64 xk) ∧ W'.cell? ⟨B1, 1, none⟩ = some (.string xn) ∧ W'.cell? ⟨B1, 2, none⟩ = some (.int .i64 xi) ∧ W'.cell? ⟨B1, 3, none⟩ = some (.int .i64 xh) ∧ W'.cell? ⟨B1, 4, none⟩ = some (.slice xa xm xc)) := fun W' hb => by
      obtain ⟨x0, x1, x2, x3, x4⟩ := (HM12.out.lift hb).box.cells
      obtain ⟨c0, c1, c2, c3, c4, c5⟩ := (BoxC.lift HBC.out hb).cells
      obtain ⟨d0, d1, d2, d3, d4, d5⟩ := (HBr.out W' (HK.out W' hb)).cells
      exact ⟨d0, d1, d2, d3, d4, d5, c0, c1, c2, c3, c4, c5, x0, x1, x2, x3, x4⟩
    have HD0 : Hid (Below w12.heap.size w12 w12.drew) := (Below.refl _ w12).drew
    have HF : Hid (∀ W', Below w12.heap.size w12 W' → Below w.heap.size w W') := fun W' hb => by
      have h0 := HW0.out.size
      rw [hR0] at h0 ⊢
      exact HW0.out.trans ((HK.out W' hb).mono h0)
    clear HM12 HY12 HBC HVT HNy HNr HBr HRr HCy HWC HOkY
    generalize schV r0 rT = qa at *
    generalize schV n4 Y = qb at *
    go_wp2_with fail
    go_region_held3 (fun W' => W'.cell? ⟨R0, 0, none⟩ = some (.int .i64 r0) ∧ W'.cell? ⟨R0, 1, none⟩ = some (.int .i64 rk) ∧ W'.cell? ⟨R0, 2, none⟩ = some (.string rn) ∧ W'.cell? ⟨R0, 3, none⟩ = some (.int .i64 ri) ∧ W'.cell? ⟨R0, 4, none⟩ = some (.int .i64 rh) ∧ W'.cell? ⟨R0, 5, none⟩ = some (.slice ra rm rc) ∧ W'.cell? ⟨B3, 0, none⟩ = some (.int .i64 n4) ∧ W'.cell? ⟨B3, 1, none⟩ = some (.int .i64 yk) ∧ W'.cell? ⟨B3, 2, none⟩ = some (.string yn) ∧ W'.cell? ⟨B3, 3, none⟩ = some (.int .i64 yi) ∧ W'.cell? ⟨B3, 4, none⟩ = some (.int .i64 yh) ∧ W'.cell? ⟨B3, 5, none⟩ = some (.slice ya ym yc) ∧ W'.cell? ⟨B1, 0, none⟩ = some (.int .i64 xk) ∧ W'.cell? ⟨B1, 1, none⟩ = some (.string xn) ∧ W'.cell? ⟨B1, 2, none⟩ = some (.int .i64 xi) ∧ W'.cell? ⟨B1, 3, none⟩ = some (.int .i64 xh) ∧ W'.cell? ⟨B1, 4, none⟩ = some (.slice xa xm xc))
      (first
        | with_reducible exact HS.out _ HD8.out
        | with_reducible exact HS.out _ HD7.out
        | with_reducible exact HS.out _ HD6.out
        | with_reducible exact HS.out _ HD5.out
        | with_reducible exact HS.out _ HD4.out
        | with_reducible exact HS.out _ HD3.out
        | with_reducible exact HS.out _ HD2.out
        | with_reducible exact HS.out _ HD1.out
        | with_reducible exact HS.out _ HD0.out)
      (first
        | (go_at_call 18; (with_reducible refine (HVr1.out _ HD0.out).mono ?_); rintro e z1 ⟨rfl, hb⟩; have HD1 := Lib.hid (HD0.out.trans (hb.mono HD0.out.size)); clear hb)
        | (go_at_call 19; (with_reducible refine (HVr2.out _ HD1.out).mono ?_); rintro e z2 ⟨rfl, hb⟩; have HD2 := Lib.hid (HD1.out.trans (hb.mono HD1.out.size)); clear hb)
        | (go_at_call 18; (with_reducible refine (HVc1.out _ HD2.out).mono ?_); rintro e z3 ⟨rfl, hb⟩; have HD3 := Lib.hid (HD2.out.trans (hb.mono HD2.out.size)); clear hb)
        | (go_at_call 19; (with_reducible refine (HVc2.out _ HD3.out).mono ?_); rintro e z4 ⟨rfl, hb⟩; have HD4 := Lib.hid (HD3.out.trans (hb.mono HD3.out.size)); clear hb)
        | (go_at_call 20; (with_reducible refine (HClo.out _ HD4.out).mono ?_); rintro e z5 ⟨v5, rfl, hr, hb⟩; have HR5 := Lib.hid hr; have HD5 := Lib.hid (HD4.out.trans (hb.mono HD4.out.size)); clear hr hb)
        | (go_at_call 18; (with_reducible refine (HVd.out HR5.out).mono ?_); rintro e z6 ⟨rfl, hb⟩; have HD6 := Lib.hid (HD5.out.trans (hb.mono HD5.out.size)); clear hb)
        | (go_at_call 21; (with_reducible refine (HMn.out _ HD6.out).mono ?_); rintro e z7 ⟨v7, rfl, hr, hb⟩; have HR7 := Lib.hid hr; have HD7 := Lib.hid (HD6.out.trans (hb.mono HD6.out.size)); clear hr hb)
        | (go_at_call 18; (with_reducible refine (HVm.out HR7.out).mono ?_); rintro e z8 ⟨rfl, hb⟩; have HD8 := Lib.hid (HD7.out.trans (hb.mono HD7.out.size)); clear hb))
    all_goals
      go_split_ands
      go_wp2
      go_ret
      exact ⟨rfl, HF.out _ HD8.out⟩
end Go.Proofs.Ytahiefgfhpkoeaa
