/- The law SchemeInstances returns true at every input. -/
import Derived.Test.YtahiefgfhpkoeaaQJ
namespace Go.Proofs.Ytahiefgfhpkoeaa
open Go.RowKit Go.Sort Go.Shelf Go.Maps Mth

set_option maxRecDepth 100000 in
set_option maxHeartbeats 20000000 in
theorem schemeInstances_any (bits : Int) (cv : Value) (zs : List Int) (w : World) (hz : Ints w cv zs) :
    Calls Try.prog 5 #[.int .i64 bits, cv] w fun e w' => e = .returned (.bool true) ∧ Below w.heap.size w w' := by
  have HZ := Lib.hid hz
  obtain ⟨ca, cc, rfl, -, -, -⟩ := hz
  have HFi := Lib.hid (fun w => first14_any w)
  have HFw : Hid (∀ w', Below w.heap.size w w' → Calls Try.prog 10 #[.slice ca zs.length cc] w' fun e w'' => e = .returned (.bool (decide (zs.length ≤ 60))) ∧ w' = w'') := fun w' hb => few_any _ zs w' (HZ.out.lift hb)
  have HTp : Hid (zs.length ≤ 60 → ∀ w1, Below w.heap.size w w1 → w.heap.size < w1.heap.size → Tq (w1.alloc (.cells #[.slice ca zs.length cc, .int .i64 0] 33)) w1.heap.size) := fun h w1 hb hs => tape_start (by omega) HZ.out hb hs
  have HMd := Lib.hid (fun b w h => made14_any bits b w h)
  have HAl : Hid (∀ (w : World) (o : Obj), Below w.heap.size w (w.alloc o)) := fun w o => (Below.refl _ w).alloc (Nat.le_refl _) _
  have HBM : Hid (∀ w : World, Zero (w.alloc (.cells #[.int .i64 0, .string ⟨#[]⟩, .int .i64 0, .int .i64 0, .slice none 0 0] 25)) w.heap.size) := fun w => Box.made _ _ _ _ _ _
  have HZm : Hid (∀ w : World, Zero6 (w.alloc (.cells #[.int .i64 0, .int .i64 0, .string ⟨#[]⟩, .int .i64 0, .int .i64 0, .slice none 0 0] 27)) w.heap.size) := fun w => BoxC.made _ _ _ _ _ _ _
  generalize zs.length = zn at *
  cases hfw : decide (zn ≤ 60)
  all_goals
    rw [hfw] at HFw
    have HFwp := Lib.hid hfw
    clear hfw
    go_enter Try.func5, Try.ntmps5
    go_wp2_with fail
    go_at_call 9
    refine (HFi.out _).mono ?_
    rintro e w1 ⟨rfl, hb1, hs1⟩
    go_wp2_with (go_at_call 10; refine (HFw.out _ hb1).mono ?_; rintro e w3 ⟨rfl, rfl⟩)
  any_goals (go_ret; exact ⟨rfl, hb1⟩)
  have hT1 := HTp.out (of_decide_eq_true HFwp.out) _ hb1 hs1
  have hbV : Below w.heap.size w (w1.alloc (.cells #[.slice ca zn cc, .int .i64 0] 33)) := hb1.trans ((HAl.out _ _).mono hb1.size)
  have hVs : (w1.alloc (.cells #[.slice ca zn cc, .int .i64 0] 33)).heap.size = w1.heap.size + 1 := by simp
  generalize hb : w1.heap.size = b at *
  generalize (w1.alloc (.cells #[.slice ca zn cc, .int .i64 0] 33)) = V at *
  have HT1 := Lib.hid hT1
  have HV := Lib.hid hbV
  have HVs := Lib.hid hVs
  have hwb : w.heap.size ≤ b := Nat.le_of_lt hs1
  clear hT1 hbV hVs HTp HFw HFi HFwp hb1 HZ hb hs1
  refine (HMd.out b V HT1.out).mono ?_
  rintro e w2 ⟨T, ids, u, v, rfl, hrep, hok, hrow, hil, hib, htq, hg⟩
  have hV1 : b + 1 ≤ V.heap.size := by have := HVs.out; omega
  obtain ⟨xk, xn, xi, xh, xa, xm, xc, rfl⟩ := hrep.form
  obtain ⟨va, vc, rfl, hvl, hvc⟩ := hrow.slice
  have HG2 : Hid (V.grownBy w2 (some b)) := hg
  have HT2 := Lib.hid htq
  have HX2 : Hid (Rep w2 (fun c => b < c) T (.agg #[.int .i64 xk, .string xn, .int .i64 xi, .int .i64 xh, .slice xa xm xc])) := hrep.imp fun c hc => by omega
  have HR2 : Hid (RowI w2 (b + 1) (.slice va ids.length vc) ids) := ⟨hrow.1, by
    rcases hrow.2 with h | ⟨g, cap, cur, h1, h2, h3⟩
    · exact .inl h
    · exact .inr ⟨g, cap, cur, h1, by omega, h3⟩⟩
  have HOk := Lib.hid hok
  have HIl := Lib.hid hil
  have HIb := Lib.hid hib
  clear hrep hok hrow hil hib htq hg hvl hvc
  go_wp2_with (refine wpList_store5 rfl _ _ rfl _ _ _ _ _ _ (HBM.out w2) rfl _ _ _ _ _ _ _ rfl ?_; intro w4 hB4 hg4 hs4)
  have hb24 : Below w2.heap.size w2 w4 := Below.grown (HAl.out w2 _) hg4 (by simp) (fun k hk => by cases hk; exact Nat.le_refl _)
  have HM1 : Hid (MkX w b w2.heap.size T ids xk xn xi xh xa xm xc (.slice va ids.length vc) w4) := ⟨hB4, HX2.out.lift hb24, HR2.out.lift hb24, HOk.out, HT2.out.lt⟩
  have HT4 : Hid (Tq w4 b) := HT2.out.lift hb24
  have HG4 : Hid (V.grownBy w4 (some b)) := grown_trans HG2.out (grown_of_below hb24 _)
  have hs24 : w2.heap.size < w4.heap.size := by rw [hs4]; simp
  have HOkT := HOk
  clear hB4 hg4 hs4 hb24 HX2 HR2 HT2 HG2 HOk
  generalize hB1 : w2.heap.size = B1 at *
  generalize hn1 : ids.length = n1 at *
  have HN1 := Lib.hid hn1
  clear hB1 hn1 hV1
  go_at_call 12
  refine (HMd.out b w4 HT4.out).mono ?_
  rintro e w5 ⟨T', ids', u', v', rfl, hrep, hok, hrow, hil, hib, htq, hg⟩
  have hV4 : b + 1 ≤ w4.heap.size := HT4.out.lt
  obtain ⟨yk, yn, yi, yh, ya, ym, yc, rfl⟩ := hrep.form
  obtain ⟨qa, qc, rfl, hvl, hvc⟩ := hrow.slice
  have HM5 := Lib.hid (HM1.out.far hg)
  have HT5 := Lib.hid htq
  have HG5 : Hid (V.grownBy w5 (some b)) := grown_trans HG4.out hg
  have HX5 : Hid (Rep w5 (fun c => b < c) T' (.agg #[.int .i64 yk, .string yn, .int .i64 yi, .int .i64 yh, .slice ya ym yc])) := hrep.imp fun c hc => by omega
  have HR5 : Hid (RowI w5 (b + 1) (.slice qa ids'.length qc) ids') := ⟨hrow.1, by
    rcases hrow.2 with h | ⟨g, cap, cur, h1, h2, h3⟩
    · exact .inl h
    · exact .inr ⟨g, cap, cur, h1, by omega, h3⟩⟩
  have HOk' := Lib.hid hok
  clear hrep hok hrow hil hib htq hg hvl hvc HM1 HT4 HG4
  go_upto_region 8 with (refine wpList_store5 rfl _ _ rfl _ _ _ _ _ _ (HBM.out w5) rfl _ _ _ _ _ _ _ rfl ?_; intro w6 hB6 hg6 hs6)
  have hb56 : Below w5.heap.size w5 w6 := Below.grown (HAl.out w5 _) hg6 (by simp) (fun k hk => by cases hk; exact Nat.le_refl _)
  have HM6 := Lib.hid (HM5.out.lift hb56)
  have HN6 : Hid (MkX w b w5.heap.size T' ids' yk yn yi yh ya ym yc (.slice qa ids'.length qc) w6) := ⟨hB6, HX5.out.lift hb56, HR5.out.lift hb56, HOk'.out, HT5.out.lt⟩
  have HT6 : Hid (Tq w6 b) := HT5.out.lift hb56
  have HG6 : Hid (V.grownBy w6 (some b)) := grown_trans HG5.out (grown_of_below hb56 _)
  have HW6 : Hid (Below w.heap.size w w6) := Below.grown HV.out HG6.out HV.out.size (fun k hk => by cases hk; exact hwb)
  clear hB6 hg6 hs6 hb56 HX5 HR5 HT5 HG5 HM5 HOk'
  generalize hB2 : w5.heap.size = B2 at *
  generalize hn2 : ids'.length = n2 at *
  have HN2 := Lib.hid hn2
  clear hB2 hn2
  obtain ⟨x0, x1, x2, x3, x4⟩ := HM6.out.box.cells
  have hClo := HM6.out.close refClose_any
  have HClo := Lib.hid hClo
  clear hClo
  go_wp2_with fail
  go_at_call 25
  refine HClo.out.mono ?_
  rintro e w7 ⟨u7, rfl, hc7, hb67⟩
  obtain ⟨ck, cn, ci, ch, cca, cm, cq, rfl, -⟩ := hc7.form
  have HC7 := Lib.hid hc7
  have HN7 := Lib.hid (HN6.out.lift hb67)
  have HW7 : Hid (Below w.heap.size w w7) := HW6.out.trans (hb67.mono HW6.out.size)
  clear hc7 hb67 HClo HM6 HN6 HW6 x0 x1 x2 x3 x4
  go_upto_region 9 with (refine wpList_store6 rfl _ _ rfl _ _ _ _ _ _ _ (HZm.out w7) rfl _ _ _ _ _ _ _ _ rfl ?_; intro w8 hB8 hg8 hs8)
  have hb78 : Below w7.heap.size w7 w8 := Below.grown (HAl.out w7 _) hg8 (by simp) (fun k hk => by cases hk; exact Nat.le_refl _)
  have HB8 := Lib.hid hB8
  have HC8 := Lib.hid (HC7.out.lift hb78)
  have HN8 := Lib.hid (HN7.out.lift hb78)
  have HW8 : Hid (Below w.heap.size w w8) := HW7.out.trans (hb78.mono HW7.out.size)
  clear hB8 hg8 hs8 hb78 HC7 HN7 HW7
  generalize hB3 : w7.heap.size = B3 at *
  clear hB3
  have HBi : Hid (bndIn (clV ids T).length (clT ids T) = true ∧ (clV ids T).length ≤ 100000 ∧ SchOk 26 (clV ids T).length (clT ids T)) := by
    have h := clT_sch (ids := ids) HOkT.out.1.1 HOkT.out.2
    exact ⟨h.bnd, by have := h.le; omega, h⟩
  generalize (clV ids T).length = c at *
  obtain ⟨r, hr⟩ : ∃ r, r = instT (clT ids T) T' (List.replicate c none) := ⟨_, rfl⟩
  have HPk : Hid (∀ W', Below w8.heap.size w8 W' → Calls Try.prog 28 #[.agg #[.int .i64 (c : Int), .int .i64 ck, .string cn, .int .i64 ci, .int .i64 ch, .slice cca cm cq], .agg #[.int .i64 yk, .string yn, .int .i64 yi, .int .i64 yh, .slice ya ym yc]] W' fun e w' => ∃ u, e = .returned (.tuple #[u, .bool r.isSome]) ∧ SlG TyE w' (fun _ => True) (insR r) u ∧ Below W'.heap.size W' w') := fun W' hb => by
    rw [hr]
    exact pkInstance_any 26 c (clT ids T) T' _ _ _ _ W' HBi.out.2.2 HBi.out.2.1 (HC8.out.lift hb) (HN8.out.rep.lift hb)
  have HRf : Hid (∀ W', Below w8.heap.size w8 W' → Calls Try.prog 29 #[.agg #[.int .i64 (c : Int), .int .i64 ck, .string cn, .int .i64 ci, .int .i64 ch, .slice cca cm cq], .agg #[.int .i64 yk, .string yn, .int .i64 yi, .int .i64 yh, .slice ya ym yc]] W' fun e w' => ∃ u, e = .returned (.tuple #[u, .bool r.isSome]) ∧ SlG TyE w' (fun _ => True) (insR r) u ∧ Below W'.heap.size W' w') := fun W' hb => by
    rw [hr]
    exact refInstance_any c (clT ids T) T' _ _ _ _ W' HBi.out.1 HBi.out.2.1 (HC8.out.lift hb) (HN8.out.rep.lift hb)
  generalize r.isSome = q at *
  obtain ⟨y0, y1, y2, y3, y4⟩ := HN8.out.box.cells
  have hcb := HB8.out
  obtain ⟨e0, e1, e2, e3, e4, e5⟩ := hcb.cells
  have hD : Below w8.heap.size w8 w8 := Below.refl _ _
  clear hr
  go_upto_region 10 with (go_at_call 28; refine (HPk.out _ hD).mono ?_; rintro e w9 ⟨u9, rfl, hs9, hb89⟩)
  have HS9 := Lib.hid hs9
  have HB89 := Lib.hid hb89
  obtain ⟨z0, z1, z2, z3, z4⟩ := (Box.lift HN8.out.box hb89).cells
  obtain ⟨f0, f1, f2, f3, f4, f5⟩ := (BoxC.lift hcb hb89).cells
  clear hs9 hb89 y0 y1 y2 y3 y4 e0 e1 e2 e3 e4 e5 hcb hD
  go_upto_region 11 with (go_at_call 29; refine (HRf.out _ HB89.out).mono ?_; rintro e w10 ⟨u10, rfl, hs10, hb910⟩)
  have HB8x : Hid (Below w8.heap.size w8 w10) := HB89.out.trans (hb910.mono HB89.out.size)
  have HEa := Lib.hid (m29 (slG_repL (HS9.out.kept (S' := fun _ => True) (fun _ h => h) (fun b _ hl => hb910.block b hl))) (slG_repL hs10))
  clear hs10 hb910 z0 z1 z2 z3 z4 f0 f1 f2 f3 f4 f5
  cases q
  all_goals
    go_wp2_with (go_at_call 30; refine HEa.out.mono ?_; rintro e w11 ⟨rfl, hb11⟩)
    go_ret
    exact ⟨rfl, HW8.out.trans ((HB8x.out.trans (hb11.mono HB8x.out.size)).mono HW8.out.size)⟩
end Go.Proofs.Ytahiefgfhpkoeaa
