/- The law SchemeFree returns true at every input. -/
import Derived.Test.YtahiefgfhpkoeaaQJ
namespace Go.Proofs.Ytahiefgfhpkoeaa
open Go.RowKit Go.Sort Go.Shelf Go.Maps Mth

/-- A slice of two schemes that was just laid. -/
theorem slG_two {W : World} {a b : Int × Ty} {k1 k2 : Int} {n1 n2 : ByteArray} {i1 h1 i2 h2 : Int} {s1 s2 : Value} (Z : TypeId) (h : RepC W (fun _ => True) a (.agg #[.int .i64 a.1, .int .i64 k1, .string n1, .int .i64 i1, .int .i64 h1, s1])) (h' : RepC W (fun _ => True) b (.agg #[.int .i64 b.1, .int .i64 k2, .string n2, .int .i64 i2, .int .i64 h2, s2])) :
    SlG ScE (W.alloc (.cells #[.int .i64 a.1, .int .i64 k1, .string n1, .int .i64 i1, .int .i64 h1, s1, .int .i64 b.1, .int .i64 k2, .string n2, .int .i64 i2, .int .i64 h2, s2] Z)) (fun _ => True) [a, b] (.slice (some ⟨W.heap.size, 0, none⟩) 2 2) := by
  have hb : Below W.heap.size W (W.alloc (.cells #[.int .i64 a.1, .int .i64 k1, .string n1, .int .i64 i1, .int .i64 h1, s1, .int .i64 b.1, .int .i64 k2, .string n2, .int .i64 i2, .int .i64 h2, s2] Z)) := (Below.refl _ W).alloc (Nat.le_refl _) _
  obtain ⟨_, _, _, _, _, e, hr⟩ := h.lift hb
  obtain ⟨_, _, _, _, _, e', hr'⟩ := h'.lift hb
  simp only [Value.agg.injEq, Array.mk.injEq, List.cons.injEq, Value.int.injEq, Value.string.injEq, true_and, and_true] at e e'
  obtain ⟨rfl, rfl, rfl, rfl, rfl⟩ := e
  obtain ⟨rfl, rfl, rfl, rfl, rfl⟩ := e'
  refine ⟨_, 2, rfl, ⟨Nat.le_refl _, by unfold maxLen; omega⟩, fun j x hj => ?_⟩
  match j, hj with
  | 0, hj =>
    simp at hj; subst hj
    refine ⟨_, _, rfl, trivial, fun m u hu => ?_, _, rfl, hr⟩
    match m, hu with
    | 0, hu | 1, hu | 2, hu | 3, hu | 4, hu | 5, hu => simp at hu; subst hu; simp [Addr.add, ScE]
    | m + 6, hu => simp at hu
  | 1, hj =>
    simp at hj; subst hj
    refine ⟨_, _, rfl, trivial, fun m u hu => ?_, _, rfl, hr'⟩
    match m, hu with
    | 0, hu | 1, hu | 2, hu | 3, hu | 4, hu | 5, hu => simp at hu; subst hu; simp [Addr.add, ScE]
    | m + 6, hu => simp at hu
  | j + 2, hj => simp at hj
set_option maxRecDepth 100000 in
set_option maxHeartbeats 20000000 in
theorem schemeFree_any (bits : Int) (cv : Value) (zs : List Int) (w : World) (hz : Ints w cv zs) :
    Calls Try.prog 8 #[.int .i64 bits, cv] w fun e w' => e = .returned (.bool true) ∧ Below w.heap.size w w' := by
  have HZ := Lib.hid hz
  obtain ⟨ca, cc, rfl, -, -, -⟩ := hz
  have HFi := Lib.hid (fun w => first14_any w)
  have HFw : Hid (∀ w', Below w.heap.size w w' → Calls Try.prog 10 #[.slice ca zs.length cc] w' fun e w'' => e = .returned (.bool (decide (zs.length ≤ 60))) ∧ w' = w'') := fun w' hb => few_any _ zs w' (HZ.out.lift hb)
  have HTp : Hid (zs.length ≤ 60 → ∀ w1, Below w.heap.size w w1 → w.heap.size < w1.heap.size → Tq (w1.alloc (.cells #[.slice ca zs.length cc, .int .i64 0] 33)) w1.heap.size) := fun h w1 hb hs => tape_start (by omega) HZ.out hb hs
  have HMd := Lib.hid (fun b w h => made14_any bits b w h)
  have HAl : Hid (∀ (w : World) (o : Obj), Below w.heap.size w (w.alloc o)) := fun w o => (Below.refl _ w).alloc (Nat.le_refl _) _
  have HBM : Hid (∀ w : World, Zero (w.alloc (.cells #[.int .i64 0, .string ⟨#[]⟩, .int .i64 0, .int .i64 0, .slice none 0 0] 25)) w.heap.size) := fun w => Box.made _ _ _ _ _ _
  have HZm : Hid (∀ w : World, Zero6 (w.alloc (.cells #[.int .i64 0, .int .i64 0, .string ⟨#[]⟩, .int .i64 0, .int .i64 0, .slice none 0 0] 27)) w.heap.size) := fun w => BoxC.made _ _ _ _ _ _ _
  generalize zs.length = zn at *
  cases hfw : decide (zn ≤ 60)
  all_goals
    rw [hfw] at HFw
    have HFwp := Lib.hid hfw
    clear hfw
    go_enter Try.func8, Try.ntmps8
    go_wp2_with fail
    go_at_call 9
    refine (HFi.out _).mono ?_
    rintro e w1 ⟨rfl, hb1, hs1⟩
    go_wp2_with (go_at_call 10; refine (HFw.out _ hb1).mono ?_; rintro e w3 ⟨rfl, rfl⟩)
  any_goals (go_ret; exact ⟨rfl, hb1⟩)
  have hT1 := HTp.out (of_decide_eq_true HFwp.out) _ hb1 hs1
  have hbV : Below w.heap.size w (w1.alloc (.cells #[.slice ca zn cc, .int .i64 0] 33)) := hb1.trans ((HAl.out _ _).mono hb1.size)
  have hVs : (w1.alloc (.cells #[.slice ca zn cc, .int .i64 0] 33)).heap.size = w1.heap.size + 1 := by simp
  generalize hb : w1.heap.size = b at *
  generalize (w1.alloc (.cells #[.slice ca zn cc, .int .i64 0] 33)) = V at *
  have HT1 := Lib.hid hT1
  have HV := Lib.hid hbV
  have HVs := Lib.hid hVs
  have hwb : w.heap.size ≤ b := Nat.le_of_lt hs1
  clear hT1 hbV hVs HTp HFw HFi HFwp hb1 HZ hb hs1
  refine (HMd.out b V HT1.out).mono ?_
  rintro e w2 ⟨T, ids, u, v, rfl, hrep, hok, hrow, hil, hib, htq, hg⟩
  have hV1 : b + 1 ≤ V.heap.size := by have := HVs.out; omega
  obtain ⟨xk, xn, xi, xh, xa, xm, xc, rfl⟩ := hrep.form
  obtain ⟨va, vc, rfl, hvl, hvc⟩ := hrow.slice
  have HG2 : Hid (V.grownBy w2 (some b)) := hg
  have HT2 := Lib.hid htq
  have HX2 : Hid (Rep w2 (fun c => b < c) T (.agg #[.int .i64 xk, .string xn, .int .i64 xi, .int .i64 xh, .slice xa xm xc])) := hrep.imp fun c hc => by omega
  have HR2 : Hid (RowI w2 (b + 1) (.slice va ids.length vc) ids) := ⟨hrow.1, by
    rcases hrow.2 with h | ⟨g, cap, cur, h1, h2, h3⟩
    · exact .inl h
    · exact .inr ⟨g, cap, cur, h1, by omega, h3⟩⟩
  have HOk := Lib.hid hok
  have HIl := Lib.hid hil
  have HIb := Lib.hid hib
  clear hrep hok hrow hil hib htq hg hvl hvc
  go_wp2_with (refine wpList_store5 rfl _ _ rfl _ _ _ _ _ _ (HBM.out w2) rfl _ _ _ _ _ _ _ rfl ?_; intro w4 hB4 hg4 hs4)
  have hb24 : Below w2.heap.size w2 w4 := Below.grown (HAl.out w2 _) hg4 (by simp) (fun k hk => by cases hk; exact Nat.le_refl _)
  have HM1 : Hid (MkX w b w2.heap.size T ids xk xn xi xh xa xm xc (.slice va ids.length vc) w4) := ⟨hB4, HX2.out.lift hb24, HR2.out.lift hb24, HOk.out, HT2.out.lt⟩
  have HT4 : Hid (Tq w4 b) := HT2.out.lift hb24
  have HG4 : Hid (V.grownBy w4 (some b)) := grown_trans HG2.out (grown_of_below hb24 _)
  have hs24 : w2.heap.size < w4.heap.size := by rw [hs4]; simp
  have HOkT := HOk
  clear hB4 hg4 hs4 hb24 HX2 HR2 HT2 HG2 HOk
  generalize hB1 : w2.heap.size = B1 at *
  generalize hn1 : ids.length = n1 at *
  have HN1 := Lib.hid hn1
  clear hB1 hn1 hV1
  go_at_call 12
  refine (HMd.out b w4 HT4.out).mono ?_
  rintro e w5 ⟨T', ids', u', v', rfl, hrep, hok, hrow, hil, hib, htq, hg⟩
  have hV4 : b + 1 ≤ w4.heap.size := HT4.out.lt
  obtain ⟨yk, yn, yi, yh, ya, ym, yc, rfl⟩ := hrep.form
  obtain ⟨qa, qc, rfl, hvl, hvc⟩ := hrow.slice
  have HM5 := Lib.hid (HM1.out.far hg)
  have HT5 := Lib.hid htq
  have HG5 : Hid (V.grownBy w5 (some b)) := grown_trans HG4.out hg
  have HX5 : Hid (Rep w5 (fun c => b < c) T' (.agg #[.int .i64 yk, .string yn, .int .i64 yi, .int .i64 yh, .slice ya ym yc])) := hrep.imp fun c hc => by omega
  have HR5 : Hid (RowI w5 (b + 1) (.slice qa ids'.length qc) ids') := ⟨hrow.1, by
    rcases hrow.2 with h | ⟨g, cap, cur, h1, h2, h3⟩
    · exact .inl h
    · exact .inr ⟨g, cap, cur, h1, by omega, h3⟩⟩
  have HOk' := Lib.hid hok
  have HOkU := HOk'
  clear hrep hok hrow hil hib htq hg hvl hvc HM1 HT4 HG4
  go_upto_region 8 with (refine wpList_store5 rfl _ _ rfl _ _ _ _ _ _ (HBM.out w5) rfl _ _ _ _ _ _ _ rfl ?_; intro w6 hB6 hg6 hs6)
  have hb56 : Below w5.heap.size w5 w6 := Below.grown (HAl.out w5 _) hg6 (by simp) (fun k hk => by cases hk; exact Nat.le_refl _)
  have HM6 := Lib.hid (HM5.out.lift hb56)
  have HN6 : Hid (MkX w b w5.heap.size T' ids' yk yn yi yh ya ym yc (.slice qa ids'.length qc) w6) := ⟨hB6, HX5.out.lift hb56, HR5.out.lift hb56, HOk'.out, HT5.out.lt⟩
  have HT6 : Hid (Tq w6 b) := HT5.out.lift hb56
  have HG6 : Hid (V.grownBy w6 (some b)) := grown_trans HG5.out (grown_of_below hb56 _)
  have HW6 : Hid (Below w.heap.size w w6) := Below.grown HV.out HG6.out HV.out.size (fun k hk => by cases hk; exact hwb)
  clear hB6 hg6 hs6 hb56 HX5 HR5 HT5 HG5 HM5 HOk'
  generalize hB2 : w5.heap.size = B2 at *
  generalize hn2 : ids'.length = n2 at *
  have HN2 := Lib.hid hn2
  clear hB2 hn2
  obtain ⟨c1, hc1⟩ : ∃ c : Int, c = ((clV ids T).length : Int) := ⟨_, rfl⟩
  obtain ⟨c2, hc2⟩ : ∃ c : Int, c = ((clV ids' T').length : Int) := ⟨_, rfl⟩
  obtain ⟨L, hL⟩ : ∃ L, L = varsOf [clT ids T, clT ids' T'] := ⟨_, rfl⟩
  have HCl1 : Hid (∀ W', Below w6.heap.size w6 W' → Calls Try.prog 25 #[.agg #[.int .i64 xk, .string xn, .int .i64 xi, .int .i64 xh, .slice xa xm xc], .slice va n1 vc] W' fun e w' => ∃ u, e = .returned u ∧ RepC w' (fun _ => True) (c1, clT ids T) u ∧ Below W'.heap.size W' w') := fun W' hb => by
    rw [hc1]
    exact (HM6.out.lift hb).close refClose_any
  have HCl2 : Hid (∀ W', Below w6.heap.size w6 W' → Calls Try.prog 25 #[.agg #[.int .i64 yk, .string yn, .int .i64 yi, .int .i64 yh, .slice ya ym yc], .slice qa n2 qc] W' fun e w' => ∃ u, e = .returned u ∧ RepC w' (fun _ => True) (c2, clT ids' T') u ∧ Below W'.heap.size W' w') := fun W' hb => by
    rw [hc2]
    exact (HN6.out.lift hb).close refClose_any
  have HVl : Hid ((∀ p ∈ [(c1, clT ids T), (c2, clT ids' T')], valid p.2 = true) ∧ nodesL ([(c1, clT ids T), (c2, clT ids' T')].map Prod.snd) ≤ 100000) := by
    constructor
    · intro p hp
      simp only [List.mem_cons, List.not_mem_nil, or_false] at hp
      rcases hp with rfl | rfl
      · exact clT_valid HOkT.out.1.1 HOkT.out.2
      · exact clT_valid HOkU.out.1.1 HOkU.out.2
    · have h1 := clT_nodes (ids := ids) (T := T)
      have h2 := clT_nodes (ids := ids') (T := T')
      have h3 := HOkT.out.1.2
      have h4 := HOkU.out.1.2
      rw [capN3] at h3 h4
      show nodes (clT ids T) + (nodes (clT ids' T') + 0) ≤ 100000
      omega
  have HFp : Hid (∀ {W' : World} {k1 k2 : Int} {m1 m2 : ByteArray} {i1 h1 i2 h2 : Int} {s1 s2 : Value}, RepC W' (fun _ => True) (c1, clT ids T) (.agg #[.int .i64 c1, .int .i64 k1, .string m1, .int .i64 i1, .int .i64 h1, s1]) → RepC W' (fun _ => True) (c2, clT ids' T') (.agg #[.int .i64 c2, .int .i64 k2, .string m2, .int .i64 i2, .int .i64 h2, s2]) →
      Calls Try.prog 36 #[.slice (some ⟨W'.heap.size, 0, none⟩) 2 2] (W'.alloc (.cells #[.int .i64 c1, .int .i64 k1, .string m1, .int .i64 i1, .int .i64 h1, s1, .int .i64 c2, .int .i64 k2, .string m2, .int .i64 i2, .int .i64 h2, s2] 27)) fun e w' => ∃ u, e = .returned u ∧ Ints w' u L ∧ Below W'.heap.size W' w') := fun {W' k1 k2 m1 m2 i1 h1 i2 h2 s1 s2} ha hb' => by
    have hal := HAl.out W' (.cells #[.int .i64 c1, .int .i64 k1, .string m1, .int .i64 i1, .int .i64 h1, s1, .int .i64 c2, .int .i64 k2, .string m2, .int .i64 i2, .int .i64 h2, s2] 27)
    refine (pkFree_any [(c1, clT ids T), (c2, clT ids' T')] _ _ _ HVl.out.1 HVl.out.2 (by simp) (slG_two (a := (c1, clT ids T)) (b := (c2, clT ids' T')) _ ha hb')).mono ?_
    rintro e w' ⟨u, rfl, h1, h2⟩
    rw [hL]
    exact ⟨u, rfl, h1, hal.trans (h2.mono hal.size)⟩
  have HFr : Hid (∀ {W' : World} {k1 k2 : Int} {m1 m2 : ByteArray} {i1 h1 i2 h2 : Int} {s1 s2 : Value}, RepC W' (fun _ => True) (c1, clT ids T) (.agg #[.int .i64 c1, .int .i64 k1, .string m1, .int .i64 i1, .int .i64 h1, s1]) → RepC W' (fun _ => True) (c2, clT ids' T') (.agg #[.int .i64 c2, .int .i64 k2, .string m2, .int .i64 i2, .int .i64 h2, s2]) →
      Calls Try.prog 37 #[.slice (some ⟨W'.heap.size, 0, none⟩) 2 2] (W'.alloc (.cells #[.int .i64 c1, .int .i64 k1, .string m1, .int .i64 i1, .int .i64 h1, s1, .int .i64 c2, .int .i64 k2, .string m2, .int .i64 i2, .int .i64 h2, s2] 27)) fun e w' => ∃ u, e = .returned u ∧ Ints w' u L ∧ Below W'.heap.size W' w') := fun {W' k1 k2 m1 m2 i1 h1 i2 h2 s1 s2} ha hb' => by
    have hal := HAl.out W' (.cells #[.int .i64 c1, .int .i64 k1, .string m1, .int .i64 i1, .int .i64 h1, s1, .int .i64 c2, .int .i64 k2, .string m2, .int .i64 i2, .int .i64 h2, s2] 27)
    refine (refFree_any [(c1, clT ids T), (c2, clT ids' T')] _ _ _ HVl.out.1 HVl.out.2 (by simp) (slG_two (a := (c1, clT ids T)) (b := (c2, clT ids' T')) _ ha hb')).mono ?_
    rintro e w' ⟨u, rfl, h1, h2⟩
    rw [hL]
    exact ⟨u, rfl, h1, hal.trans (h2.mono hal.size)⟩
  have HS : Hid (∀ W', Below w6.heap.size w6 W' → W'.cell? ⟨B1, 0, none⟩ = some (.int .i64 xk) ∧ W'.cell? ⟨B1, 1, none⟩ = some (.string xn) ∧ W'.cell? ⟨B1, 2, none⟩ = some (.int .i64 xi) ∧ W'.cell? ⟨B1, 3, none⟩ = some (.int .i64 xh) ∧ W'.cell? ⟨B1, 4, none⟩ = some (.slice xa xm xc) ∧ W'.cell? ⟨B2, 0, none⟩ = some (.int .i64 yk) ∧ W'.cell? ⟨B2, 1, none⟩ = some (.string yn) ∧ W'.cell? ⟨B2, 2, none⟩ = some (.int .i64 yi) ∧ W'.cell? ⟨B2, 3, none⟩ = some (.int .i64 yh) ∧ W'.cell? ⟨B2, 4, none⟩ = some (.slice ya ym yc)) := fun W' hb => by
    obtain ⟨x0, x1, x2, x3, x4⟩ := (HM6.out.lift hb).box.cells
    obtain ⟨y0, y1, y2, y3, y4⟩ := (HN6.out.lift hb).box.cells
    exact ⟨x0, x1, x2, x3, x4, y0, y1, y2, y3, y4⟩
  clear hc1 hc2 hL HVl HM6 HN6 HOkT HOkU
  have HD0 : Hid (Below w6.heap.size w6 w6.drew) := (Below.refl _ w6).drew
  go_region_held3 (fun W' => W'.cell? ⟨B1, 0, none⟩ = some (.int .i64 xk) ∧ W'.cell? ⟨B1, 1, none⟩ = some (.string xn) ∧ W'.cell? ⟨B1, 2, none⟩ = some (.int .i64 xi) ∧ W'.cell? ⟨B1, 3, none⟩ = some (.int .i64 xh) ∧ W'.cell? ⟨B1, 4, none⟩ = some (.slice xa xm xc) ∧ W'.cell? ⟨B2, 0, none⟩ = some (.int .i64 yk) ∧ W'.cell? ⟨B2, 1, none⟩ = some (.string yn) ∧ W'.cell? ⟨B2, 2, none⟩ = some (.int .i64 yi) ∧ W'.cell? ⟨B2, 3, none⟩ = some (.int .i64 yh) ∧ W'.cell? ⟨B2, 4, none⟩ = some (.slice ya ym yc))
    (first
      | with_reducible exact HS.out _ HD3.out
      | with_reducible exact HS.out _ HD2.out
      | with_reducible exact HS.out _ (HD2.out.trans ((HAl.out _ _).mono HD2.out.size))
      | with_reducible exact HS.out _ HD1.out
      | with_reducible exact HS.out _ HD0.out)
    (first
      | (go_at_call 25; (with_reducible refine (HCl1.out _ HD0.out).mono ?_); rintro e w7 ⟨u7, rfl, hc, hb⟩; obtain ⟨k1, m1, i1, h1, a1, l1, q1, rfl, -⟩ := hc.form; have HC7 := Lib.hid hc; have HD1 := Lib.hid (HD0.out.trans (hb.mono HD0.out.size)); clear hc hb)
      | (go_at_call 25; (with_reducible refine (HCl2.out _ HD1.out).mono ?_); rintro e w8 ⟨u8, rfl, hc, hb⟩; obtain ⟨k2, m2, i2, h2, a2, l2, q2, rfl, -⟩ := hc.form; have HC7b := Lib.hid (HC7.out.lift hb); have HC8 := Lib.hid hc; have HD2 := Lib.hid (HD1.out.trans (hb.mono HD1.out.size)); clear hc hb)
      | (go_at_call 36; (with_reducible refine (HFp.out HC7b.out HC8.out).mono ?_); rintro e w9 ⟨u9, rfl, hi, hb⟩; obtain ⟨pa, pc, rfl, hp1, hp2, hpj⟩ := hi; have HI9 := Lib.hid hpj; have HP9 := Lib.hid (And.intro hp1 hp2); have HD3 := Lib.hid (HD2.out.trans (hb.mono HD2.out.size)); clear hp1 hp2 hpj hb))
  all_goals
    go_split_ands
    have HE0 : Hid (Below w6.heap.size w6 w9.drew) := HD3.out.trans ((Below.refl _ w9).drew.mono HD3.out.size)
    have HIa : Hid (∀ (j : Nat) (z : Int), L[j]? = some z → ∀ W, Below w9.heap.size w9 W → ∃ ad, pa = some ad ∧ W.cell? (ad.add j) = some (.int .i64 z)) := fun j z hz W hb => by
      obtain ⟨ad, e, hc⟩ := HI9.out j z hz
      exact ⟨ad, e, (hb.cell (World.block_lt_of_cell? _ _ hc)).trans hc⟩
    clear HC7 HC7b HC8 HD1 HD2 HD0 HI9
    go_wp2_with fail
    go_region_held3 (fun W' => W'.cell? ⟨B1, 0, none⟩ = some (.int .i64 xk) ∧ W'.cell? ⟨B1, 1, none⟩ = some (.string xn) ∧ W'.cell? ⟨B1, 2, none⟩ = some (.int .i64 xi) ∧ W'.cell? ⟨B1, 3, none⟩ = some (.int .i64 xh) ∧ W'.cell? ⟨B1, 4, none⟩ = some (.slice xa xm xc) ∧ W'.cell? ⟨B2, 0, none⟩ = some (.int .i64 yk) ∧ W'.cell? ⟨B2, 1, none⟩ = some (.string yn) ∧ W'.cell? ⟨B2, 2, none⟩ = some (.int .i64 yi) ∧ W'.cell? ⟨B2, 3, none⟩ = some (.int .i64 yh) ∧ W'.cell? ⟨B2, 4, none⟩ = some (.slice ya ym yc))
      (first
        | with_reducible exact HS.out _ HE3.out
        | with_reducible exact HS.out _ HE2.out
        | with_reducible exact HS.out _ (HE2.out.trans ((HAl.out _ _).mono HE2.out.size))
        | with_reducible exact HS.out _ HE1.out
        | with_reducible exact HS.out _ HE0.out)
      (first
        | (go_at_call 25; (with_reducible refine (HCl1.out _ HE0.out).mono ?_); rintro e v7 ⟨u7, rfl, hc, hb⟩; obtain ⟨j1, r1, s1, t1, b1, o1, p1, rfl, -⟩ := hc.form; have HC7 := Lib.hid hc; have HX1 := Lib.hid hb; have HE1 := Lib.hid (HE0.out.trans (hb.mono HE0.out.size)); clear hc hb)
        | (go_at_call 25; (with_reducible refine (HCl2.out _ HE1.out).mono ?_); rintro e v8 ⟨u8, rfl, hc, hb⟩; obtain ⟨j2, r2, s2, t2, b2, o2, p2, rfl, -⟩ := hc.form; have HC7b := Lib.hid (HC7.out.lift hb); have HC8 := Lib.hid hc; have HX2 := Lib.hid (HX1.out.trans (hb.mono HX1.out.size)); have HE2 := Lib.hid (HE1.out.trans (hb.mono HE1.out.size)); clear hc hb)
        | (go_at_call 37; (with_reducible refine (HFr.out HC7b.out HC8.out).mono ?_); rintro e v9 ⟨u9, rfl, hi, hb⟩; obtain ⟨qa2, qc2, rfl, hp1, hp2, hpj⟩ := hi; have HIb := Lib.hid hpj; have HX3 := Lib.hid (HX2.out.trans (hb.mono HX2.out.size)); have HE3 := Lib.hid (HE2.out.trans (hb.mono HE2.out.size)); clear hp1 hp2 hpj hb))
  all_goals
    go_split_ands
    have HW9 : Hid (Below w9.heap.size w9 v9) := (Below.refl _ w9).drew.trans HX3.out
    have HF : Hid (Below w.heap.size w v9) := HW6.out.trans (HE3.out.mono HW6.out.size)
    have HIc : Hid (∀ (j : Nat) (z : Int), L[j]? = some z → ∃ ad, pa = some ad ∧ v9.cell? (ad.add j) = some (.int .i64 z)) := fun j z hz => HIa.out j z hz v9 HW9.out
    obtain ⟨m, hm⟩ : ∃ m, m = L.length := ⟨_, rfl⟩
    have HM := Lib.hid hm
    have hmx := HP9.out
    unfold maxLen at hmx
    rw [← hm] at hmx ⊢
    clear hm HC7 HC7b HC8 HE0 HE1 HE2 HX1 HX2 HX3 HIa HCl1 HCl2 HFp HFr HS HE3 HD3
    go_wp2
    go_loopw [12] (fun x wr => ∃ j : Nat, j ≤ m ∧ x = .int .i64 j ∧ Hid (Below v9.heap.size v9 wr)) (fun x _ => m - (intOf x).toNat)
    case atStart => exact ⟨0, Nat.zero_le _, rfl, Below.refl _ _⟩
    case round =>
      obtain ⟨j, hj, rfl, HB⟩ := hrel
      by_cases hlt : j < m
      · obtain ⟨z, hz⟩ : ∃ z, L[j]? = some z := ⟨_, List.getElem?_eq_getElem (by rw [← HM.out]; exact hlt)⟩
        obtain ⟨ad, e1, hc1⟩ := HIc.out j z hz
        obtain ⟨ad2, e2, hc2⟩ := HIb.out j z hz
        subst e1 e2
        have d1 := (HB.out.cell (World.block_lt_of_cell? _ _ hc1)).trans hc1
        have d2 := (HB.out.cell (World.block_lt_of_cell? _ _ hc2)).trans hc2
        have hji : (j : Int) < (m : Int) := by omega
        clear hz hc1 hc2
        go_wp2_with fail
        go_region
        all_goals
          have hdr := HB.out.drew
          go_wp2
          go_roundw
          case rel => exact ⟨j + 1, hlt, by go_num, hdr⟩
          case measure => simp [intOf]; omega
      · go_wp2
        go_ret
        exact ⟨rfl, HF.out.trans (HB.out.mono HF.out.size)⟩
end Go.Proofs.Ytahiefgfhpkoeaa
