/- The law SchemeGeneral returns true at every input. -/
import Derived.Test.YtahiefgfhpkoeaaQS
namespace Go.Proofs.Ytahiefgfhpkoeaa
open Go.RowKit Go.Sort Go.Shelf Go.Maps Mth

set_option maxRecDepth 100000 in
set_option maxHeartbeats 20000000 in
theorem schemeGeneral_any (bits : Int) (cv : Value) (zs : List Int) (w : World) (hz : Ints w cv zs) :
    Calls Try.prog 6 #[.int .i64 bits, cv] w fun e w' => e = .returned (.bool true) ∧ Below w.heap.size w w' := by
  have HZ := Lib.hid hz
  obtain ⟨ca, cc, rfl, -, -, -⟩ := hz
  have HFi := Lib.hid (fun w => first14_any w)
  have HFw : Hid (∀ w', Below w.heap.size w w' → Calls Try.prog 10 #[.slice ca zs.length cc] w' fun e w'' => e = .returned (.bool (decide (zs.length ≤ 60))) ∧ w' = w'') := fun w' hb => few_any _ zs w' (HZ.out.lift hb)
  have HTp : Hid (zs.length ≤ 60 → ∀ w1, Below w.heap.size w w1 → w.heap.size < w1.heap.size → Tq (w1.alloc (.cells #[.slice ca zs.length cc, .int .i64 0] 33)) w1.heap.size) := fun h w1 hb hs => tape_start (by omega) HZ.out hb hs
  have HMd := Lib.hid (fun b w h => made14_any bits b w h)
  have HAl : Hid (∀ (w : World) (o : Obj), Below w.heap.size w (w.alloc o)) := fun w o => (Below.refl _ w).alloc (Nat.le_refl _) _
  have HBM : Hid (∀ w : World, Zero (w.alloc (.cells #[.int .i64 0, .string ⟨#[]⟩, .int .i64 0, .int .i64 0, .slice none 0 0] 25)) w.heap.size) := fun w => Box.made _ _ _ _ _ _
  have HZm : Hid (∀ w : World, Zero6 (w.alloc (.cells #[.int .i64 0, .int .i64 0, .string ⟨#[]⟩, .int .i64 0, .int .i64 0, .slice none 0 0] 27)) w.heap.size) := fun w => BoxC.made _ _ _ _ _ _ _
  generalize zs.length = zn at *
  cases hfw : decide (zn ≤ 60)
  all_goals
    rw [hfw] at HFw
    have HFwp := Lib.hid hfw
    clear hfw
    go_enter Try.func6, Try.ntmps6
    go_wp2_with fail
    go_at_call 9
    refine (HFi.out _).mono ?_
    rintro e w1 ⟨rfl, hb1, hs1⟩
    go_wp2_with (go_at_call 10; refine (HFw.out _ hb1).mono ?_; rintro e w3 ⟨rfl, rfl⟩)
  any_goals (go_ret; exact ⟨rfl, hb1⟩)
  have hT1 := HTp.out (of_decide_eq_true HFwp.out) _ hb1 hs1
  have hbV : Below w.heap.size w (w1.alloc (.cells #[.slice ca zn cc, .int .i64 0] 33)) := hb1.trans ((HAl.out _ _).mono hb1.size)
  have hVs : (w1.alloc (.cells #[.slice ca zn cc, .int .i64 0] 33)).heap.size = w1.heap.size + 1 := by simp
  generalize hb : w1.heap.size = b at *
  generalize (w1.alloc (.cells #[.slice ca zn cc, .int .i64 0] 33)) = V at *
  have HT1 := Lib.hid hT1
  have HV := Lib.hid hbV
  have HVs := Lib.hid hVs
  have hwb : w.heap.size ≤ b := Nat.le_of_lt hs1
  clear hT1 hbV hVs HTp HFw HFi HFwp hb1 HZ hb hs1
  have HDs := Lib.hid (fun w => datas_any bits w)
  have HSb : Hid (∀ (ds : List Dat) (dv : Value) (b : Nat) (w : World), Some_ ds → SlG DatE w (fun c => c ≠ b) ds dv → Tq w b → Calls Try.prog 31 #[.pointer (some ⟨b, 0, none⟩), dv, .int .i64 3] w fun e w' => ∃ u σ, e = .returned u ∧ SuSt w b u σ w' ∧ OkSN QS 3 σ) := fun ds dv b w h1 h2 h3 => mkSubstQ_any QS 3 (by decide) leaf3s leaf3q ds dv b w h1 h2 h3
  have H0 : Hid (GlSt V b (.slice none 0 0) [] V) := ⟨HT1.out, rowG_nil _ _ _ _, ⟨rfl, rfl, rfl, Nat.le_refl _, fun _ _ _ => rfl⟩, fun p hp => by cases hp⟩
  clear HT1
  go_loopw [6, 7] (fun y x wr => ∃ (j n : Nat) (ya : Option Addr) (yc : Nat) (qs : List (Nat × Ty)), j ≤ 4 ∧ x = .int .i64 j ∧ y = .slice ya n yc ∧ n = 2 * j ∧ qs.length = n ∧ Hid (GlSt V b (.slice ya n yc) qs wr)) (fun _ x _ => 4 - (intOf x).toNat)
  case atStart => exact ⟨0, 0, none, 0, [], Nat.zero_le _, rfl, rfl, rfl, rfl, H0⟩
  case round =>
    clear H0
    obtain ⟨j, n, ya, yc, qs, hj, rfl, rfl, hn, hql, HGl⟩ := hrel
    by_cases hlt : j < 4
    · have hji : (j : Int) < 4 := by omega
      have HN := Lib.hid hn
      have HQl := Lib.hid hql
      clear hn hql
      go_wp2_with fail
      go_at_call 12
      refine (HMd.out b wr HGl.out.tp).mono ?_
      rintro e w2 ⟨T, ids, u, v, rfl, hrep, hok, hrow, hil, hib, htq, hg⟩
      obtain ⟨xk, xn, xi, xh, xa, xm, xc, rfl⟩ := hrep.form
      obtain ⟨va, vc, rfl, hvl, hvc⟩ := hrow.slice
      have hbr : b < wr.heap.size := HGl.out.tp.lt
      have HG2 := Lib.hid (HGl.out.call htq hg)
      have HXd : Hid (Rep w2 (fun c => wr.heap.size ≤ c) T (.agg #[.int .i64 xk, .string xn, .int .i64 xi, .int .i64 xh, .slice xa xm xc])) := hrep
      have HOw : Hid (∀ c, some c = (Value.slice ya n yc).ownBlock → c < wr.heap.size) := fun c e => (HGl.out.row.lt c e.symm).2
      have HX2 : Hid (Rep w2 (fun c => b < c) T (.agg #[.int .i64 xk, .string xn, .int .i64 xi, .int .i64 xh, .slice xa xm xc])) := hrep.imp fun c hc => by omega
      have HR2 : Hid (RowI w2 (b + 1) (.slice va ids.length vc) ids) := ⟨hrow.1, by
        rcases hrow.2 with h | ⟨g, cap, cur, h1, h2, h3⟩
        · exact .inl h
        · exact .inr ⟨g, cap, cur, h1, by omega, h3⟩⟩
      have HOk := Lib.hid hok
      have HT2 : Hid (b < w2.heap.size) := htq.lt
      have HSz : Hid (wr.heap.size ≤ w2.heap.size) := hg.size
      clear hrep hok hrow hil hib htq hg hvl hvc HGl
      go_upto_region 11 with (refine wpList_store5 rfl _ _ rfl _ _ _ _ _ _ (HBM.out w2) rfl _ _ _ _ _ _ _ rfl ?_; intro w4 hB4 hg4 hs4)
      have hb24 : Below w2.heap.size w2 w4 := Below.grown (HAl.out w2 _) hg4 (by simp) (fun k hk => by cases hk; exact Nat.le_refl _)
      have HM4 : Hid (MkX w b w2.heap.size T ids xk xn xi xh xa xm xc (.slice va ids.length vc) w4) := ⟨hB4, HX2.out.lift hb24, HR2.out.lift hb24, HOk.out, HT2.out⟩
      have HG4 := Lib.hid (HG2.out.lift hb24)
      have HXr : Hid (∀ W', w4.grownBy W' (some b) → Rep W' (fun c => wr.heap.size ≤ c) T (.agg #[.int .i64 xk, .string xn, .int .i64 xi, .int .i64 xh, .slice xa xm xc])) := fun W' hg => (HXd.out.lift hb24).kept (fun _ h => h) (fun c hc hl => hg.block c hl (by intro e; have := Option.some.inj e; omega))
      have hwr4 : wr.heap.size ≤ w4.heap.size := Nat.le_trans HSz.out hb24.size
      have HbD := Lib.hid hbr
      have HBD : Hid (wr.heap.size ≤ w2.heap.size) := HSz.out
      have HwD := Lib.hid hwr4
      clear hB4 hg4 hs4 hb24 HX2 HR2 HG2 HT2 HXd HSz hwr4
      generalize hDD : wr.heap.size = D at *
      clear hDD
      generalize hB1 : w2.heap.size = B1 at *
      generalize hn1 : ids.length = n1 at *
      clear hB1 hn1 hbr
      have HS : Hid (∀ W', w4.grownBy W' (some b) → W'.cell? ⟨B1, 0, none⟩ = some (.int .i64 xk) ∧ W'.cell? ⟨B1, 1, none⟩ = some (.string xn) ∧ W'.cell? ⟨B1, 2, none⟩ = some (.int .i64 xi) ∧ W'.cell? ⟨B1, 3, none⟩ = some (.int .i64 xh) ∧ W'.cell? ⟨B1, 4, none⟩ = some (.slice xa xm xc)) := fun W' hb => (HM4.out.far hb).box.cells
      have HSx : Hid (∀ {Y W' : World}, w4.grownBy Y (some b) → Y.grownBy W' (Value.slice ya n yc).ownBlock → W'.cell? ⟨B1, 0, none⟩ = some (.int .i64 xk) ∧ W'.cell? ⟨B1, 1, none⟩ = some (.string xn) ∧ W'.cell? ⟨B1, 2, none⟩ = some (.int .i64 xi) ∧ W'.cell? ⟨B1, 3, none⟩ = some (.int .i64 xh) ∧ W'.cell? ⟨B1, 4, none⟩ = some (.slice xa xm xc)) := fun {Y W'} hY hg => (Box.grown (HM4.out.far hY).box hg (fun e => by have := HOw.out _ e; have := HBD.out; omega)).cells
      have HD0 : Hid (w4.grownBy w4.drew (some b)) := grown_of_below (Below.refl _ w4).drew _
      have HT0 : Hid (Tq w4.drew b) := HG4.out.tp.lift (Below.refl _ w4).drew
      have HV : Hid (valid T = true ∧ allN QS T = true ∧ nodes T ≤ 15) := by
        have h := HM4.out.ok.1.2
        rw [capN3] at h
        exact ⟨HM4.out.ok.1.1, HM4.out.ok.2, h⟩
      clear HOk
      have hbw : ∀ {W' : World}, w4.grownBy W' (some b) → D ≤ W'.heap.size := fun h => Nat.le_trans HwD.out h.size
      have HCl1 : Hid (∀ W', w4.grownBy W' (some b) → Calls Try.prog 25 #[.agg #[.int .i64 xk, .string xn, .int .i64 xi, .int .i64 xh, .slice xa xm xc], .slice va n1 vc] W' fun e w' => ∃ u, e = .returned u ∧ RepC w' (fun c => D ≤ c) (((clV ids T).length : Int), clT ids T) u ∧ Below W'.heap.size W' w') := fun W' hg => by
        have h := HM4.out.far hg
        exact refClose_any T ids _ _ (fun c => D ≤ c) W' HV.out.1 (plain_of_valid T HV.out.1) (by have := HV.out.2.2; omega) (fun c hc => Nat.le_trans (hbw hg) hc) (HXr.out W' hg) h.row.ints
      have HRp : Hid (∀ W' W0 σ u, w4.grownBy W' (some b) → SuSt W0 b u σ W' → D ≤ W0.heap.size → OkSN QS 3 σ → Calls Try.prog 26 #[.agg #[.int .i64 xk, .string xn, .int .i64 xi, .int .i64 xh, .slice xa xm xc], u] W' fun e w' => ∃ r, e = .returned r ∧ Rep w' (fun c => D ≤ c) (repl σ T) r ∧ Below W'.heap.size W' w') := fun W' W0 σ u hg hsu hb0 hos => by
        have hA := (slG_asL (hsu.row.slG (S' := fun c => D ≤ c) (fun c hc => by omega) (fun c hc => by omega))).bound
        exact refRepl_any σ T _ _ (fun c => D ≤ c) _ W' (by have := HV.out.2.2; omega) hA (fun _ h => h) (fun c hc => Nat.le_trans (hbw hg) hc) (HXr.out W' hg)
      have HVr : Hid (∀ σ, OkSN QS 3 σ → valid (repl σ T) = true ∧ allN QS (repl σ T) = true ∧ nodes (repl σ T) ≤ 100) := fun σ hos => by
        refine ⟨valid_repl (fun p hp => (hos.2 p hp).2.2.1.1) T HV.out.1, qs_repl (fun p hp => (hos.2 p hp).2.2.2) T HV.out.2.1, ?_⟩
        have h1 := nodes_repl σ 3 (by decide) (fun p hp => (hos.2 p hp).2.2.1.2) T
        have h2 := HV.out.2.2
        omega
      have HCl2 : Hid (∀ W' σ r, w4.grownBy W' (some b) → OkSN QS 3 σ → Rep W' (fun c => D ≤ c) (repl σ T) r → Calls Try.prog 25 #[r, .slice va n1 vc] W' fun e w' => ∃ u, e = .returned u ∧ RepC w' (fun c => D ≤ c) (((clV ids (repl σ T)).length : Int), clT ids (repl σ T)) u ∧ Below W'.heap.size W' w') := fun W' σ r hg hos hr => by
        have h := HM4.out.far hg
        obtain ⟨v1, v2, v3⟩ := HVr.out σ hos
        exact refClose_any (repl σ T) ids _ _ (fun c => D ≤ c) W' v1 (plain_of_valid _ v1) (by omega) (fun c hc => Nat.le_trans (hbw hg) hc) hr h.row.ints
      have HEnd : Hid (∀ σ, OkSN QS 3 σ → ∀ p ∈ qs ++ [((clV ids T).length, clT ids T), ((clV ids (repl σ T)).length, clT ids (repl σ T))], SchOk 26 p.1 p.2 ∧ nodes p.2 ≤ 1000) := fun σ hos p hp => by
        rcases List.mem_append.1 hp with hp | hp
        · exact HG4.out.ok p hp
        · simp only [List.mem_cons, List.not_mem_nil, or_false] at hp
          obtain ⟨v1, v2, v3⟩ := HVr.out σ hos
          rcases hp with rfl | rfl
          · exact ⟨clT_sch HV.out.1 HV.out.2.1, by have := clT_nodes (ids := ids) (T := T); have := HV.out.2.2; show nodes (clT ids T) ≤ 1000; omega⟩
          · exact ⟨clT_sch v1 v2, by have := clT_nodes (ids := ids) (T := repl σ T); show nodes (clT ids (repl σ T)) ≤ 1000; omega⟩
      have HLen : Hid (n + 2 = (qs.map cst).length + 2) := by show _ = _; rw [List.length_map, HQl.out]
      have hN2 : n + 2 ≤ 1000000 := by have := HN.out; omega
      obtain ⟨c1, hc1⟩ : ∃ c : Int, c = ((clV ids T).length : Int) := ⟨_, rfl⟩
      have HC1e := Lib.hid hc1
      rw [← hc1] at HCl1
      clear hc1 HM4
      have hVs := HVs.out
      have HPush : Hid (∀ {Y w' : World} {a' : Option Addr} {c' : Nat} {σ : List (Int × Ty)}, OkSN QS 3 σ → GlSt V b (.slice ya n yc) qs Y → RowG ScE w' (b + 1) (fun c => b < c) (.slice a' (n + 2) c') (qs.map cst ++ [(c1, clT ids T), (((clV ids (repl σ T)).length : Int), clT ids (repl σ T))]) → Y.grownBy w' (Value.slice ya n yc).ownBlock → ∃ qs', qs'.length = n + 2 ∧ GlSt V b (.slice a' (n + 2) c') qs' w') := fun {Y w' a' c' σ} hos hgl hr hg => by
        refine ⟨qs ++ [((clV ids T).length, clT ids T), ((clV ids (repl σ T)).length, clT ids (repl σ T))], by rw [List.length_append, HQl.out]; rfl, hgl.push hVs ?_ hg (HEnd.out σ hos)⟩
        rw [List.map_append]
        rw [HC1e.out] at hr
        exact hr
      have HRc : Hid (∀ {Y : World} {p : Int × Ty} {u : Value}, RepC Y (fun c => D ≤ c) p u → RepC Y (fun c => b < c ∧ some c ≠ (Value.slice ya n yc).ownBlock) p u) := fun {Y p u} hr => hr.imp fun c hc => ⟨Nat.lt_of_lt_of_le HbD.out hc, fun e => by have := HOw.out c e; omega⟩
      have HKp : Hid (∀ {W W' : World} {p : Int × Ty} {u : Value}, W.grownBy W' (some b) → RepC W (fun c => D ≤ c) p u → RepC W' (fun c => D ≤ c) p u) := fun {W W' p u} hg hr => hr.kept (fun _ h => h) (fun c hc hl => hg.block c hl (by intro e; have := Option.some.inj e; have := HbD.out; omega))
      have HDn : Hid (∀ {W W1 : World} {ds : List Dat} {dv : Value}, Tq W b → SlG DatE W1 (fun c => W.heap.size ≤ c) ds dv → SlG DatE W1 (fun c => c ≠ b) ds dv) := fun {W W1 ds dv} ht h => h.kept (fun c hc => by have := ht.lt; omega) (fun _ _ _ => rfl)
      clear hVs hbw HVr HEnd
      go_wp2_with fail
      go_region_held3 (fun W' => W'.cell? ⟨B1, 0, none⟩ = some (.int .i64 xk) ∧ W'.cell? ⟨B1, 1, none⟩ = some (.string xn) ∧ W'.cell? ⟨B1, 2, none⟩ = some (.int .i64 xi) ∧ W'.cell? ⟨B1, 3, none⟩ = some (.int .i64 xh) ∧ W'.cell? ⟨B1, 4, none⟩ = some (.slice xa xm xc))
        (first
          | with_reducible exact HSA.out
          | with_reducible exact HS.out _ (grown_trans HD6.out (World.grownBy_alloc _ _ _))
          | with_reducible exact HS.out _ HD6.out
          | with_reducible exact HS.out _ HD5.out
          | with_reducible exact HS.out _ HD3.out
          | with_reducible exact HS.out _ HD2.out
          | with_reducible exact HS.out _ HD1.out
          | with_reducible exact HS.out _ HD0.out)
        (first
          | (go_at_call 25; (with_reducible refine (HCl1.out _ HD0.out).mono ?_); rintro e w5 ⟨u1, rfl, hc, hb⟩; obtain ⟨k1, m1, i1, h1, a1, l1, q1, rfl, -⟩ := hc.form; have HC5 := Lib.hid hc; have HD1 := Lib.hid (grown_trans HD0.out (grown_of_below hb (some b))); have HT5 := Lib.hid (HT0.out.lift hb); clear hc hb)
          | (go_at_call 14; (with_reducible refine (HDs.out _).mono ?_); rintro e w6 ⟨ds, dv, rfl, hsome, hsd, hb⟩; have HSo := Lib.hid hsome; have HSd := Lib.hid hsd; have HC6 := Lib.hid (HC5.out.lift hb); have HD2 := Lib.hid (grown_trans HD1.out (grown_of_below hb (some b))); have HT6 := Lib.hid (HT5.out.lift hb); have HD6s := Lib.hid (Nat.le_trans HwD.out (Nat.le_trans HD1.out.size hb.size)); clear hsome hsd hb)
          | (go_at_call 31; (with_reducible refine (HSb.out ds dv b _ HSo.out (HDn.out HT5.out HSd.out) HT6.out).mono ?_); rintro e w7 ⟨u2, σ, rfl, hsu, hos⟩; have HSu := Lib.hid hsu; have HOs := Lib.hid hos; have HD3 := Lib.hid (grown_trans HD2.out hsu.grown); have HC7 := Lib.hid (HKp.out hsu.grown HC6.out); clear hsu hos)
          | (go_at_call 26; (with_reducible refine (HRp.out _ w6 σ u2 HD3.out HSu.out HD6s.out HOs.out).mono ?_); rintro e w8 ⟨r8, rfl, hr, hb⟩; have HR8 := Lib.hid hr; have HC8 := Lib.hid (HC7.out.lift hb); have HD5 := Lib.hid (grown_trans HD3.out (grown_of_below hb (some b))); have HT8 := Lib.hid (HSu.out.tp.lift hb); clear hr hb)
          | (go_at_call 25; (with_reducible refine (HCl2.out _ σ r8 HD5.out HOs.out HR8.out).mono ?_); rintro e w9 ⟨u9, rfl, hc, hb⟩; obtain ⟨k2, m2, i2, h2, a2, l2, q2, rfl, -⟩ := hc.form; have HC9 := Lib.hid (HC8.out.lift hb); have HC9b := Lib.hid hc; have HD6 := Lib.hid (grown_trans HD5.out (grown_of_below hb (some b))); have HT9 := Lib.hid (HT8.out.lift hb); have HG9 := Lib.hid (HG4.out.call HT9.out HD6.out); clear hc hb)
          | ((refine step_push2S HG9.out.row (HRc.out HC9.out) (HRc.out HC9b.out) rfl _ _ rfl rfl _ rfl rfl (n + 2) HLen.out hN2 (Nat.succ_le_of_lt HT9.out.lt) ?_); intro a' c' wA hrow hg; have HPu := Lib.hid (HPush.out HOs.out HG9.out hrow hg); have HSA := Lib.hid (HSx.out HD6.out hg); clear hrow hg))
      all_goals
        go_split_ands
        obtain ⟨qs', hql', hgl'⟩ := HPu.out
        have HGl' := Lib.hid hgl'
        clear hgl'
        go_wp2
        go_roundw
        case rel => exact ⟨j + 1, n + 2, a', c', qs', hlt, by go_num, rfl, by have := HN.out; omega, hql', HGl'.out⟩
        case measure => simp [intOf]; omega
    · obtain rfl : j = 4 := by omega
      obtain rfl : n = 8 := by omega
      have HOkq := Lib.hid HGl.out.ok
      have hsl : SlG ScE wr (fun _ => True) (qs.map cst) (.slice ya 8 yc) := HGl.out.row.slG (fun _ _ => trivial) (fun _ _ => trivial)
      have HQl := Lib.hid hql
      obtain ⟨p0, hp0⟩ : ∃ x, qs[0]? = some x := ⟨_, List.getElem?_eq_getElem (by omega)⟩
      obtain ⟨ad, _, _, _, _, _, _, _, e, -, -⟩ := slG_six hsl (j := 0) (p := cst p0) (by rw [List.getElem?_map, hp0]; rfl)
      subst e
      have HSl := Lib.hid hsl
      have hwr : Below w.heap.size w wr := Below.grown HV.out HGl.out.grown HV.out.size (fun k hk => by cases hk; exact hwb)
      have HWr := Lib.hid hwr
      clear hsl hp0 hwr HGl hql hn HMd HAl HBM HZm HDs HSb HVs hlt hj hwb
      have HGen : Hid (∀ {p q : Nat × Ty} {u v : Value} {W' : World}, p ∈ qs → q ∈ qs → RepC W' (fun _ => True) ((p.1 : Int), p.2) u → RepC W' (fun _ => True) ((q.1 : Int), q.2) v → Calls Try.prog 32 #[u, v] W' fun e w' => e = .returned (.bool (gB p q)) ∧ Below W'.heap.size W' w') := fun {p q u v W'} hp hq hu hv =>
        pkGeneral_any p.1 q.1 p.2 q.2 u v _ _ W' (HOkq.out p hp).1 (HOkq.out q hq).1 hu hv
      have HRGen : Hid (∀ {p q : Nat × Ty} {u v : Value} {W' : World}, p ∈ qs → q ∈ qs → RepC W' (fun _ => True) ((p.1 : Int), p.2) u → RepC W' (fun _ => True) ((q.1 : Int), q.2) v → Calls Try.prog 33 #[u, v] W' fun e w' => e = .returned (.bool (gB p q)) ∧ Below W'.heap.size W' w') := fun {p q u v W'} hp hq hu hv =>
        refGeneral_any p.1 q.1 p.2 q.2 u v _ _ W' (HOkq.out p hp).1.bnd (HOkq.out p hp).1.le (HOkq.out q hq).1.le (by have := (HOkq.out q hq).2; omega) hu hv
      have HEqS : Hid (∀ {p q : Nat × Ty} {u v : Value} {W' : World}, p ∈ qs → q ∈ qs → RepC W' (fun _ => True) ((p.1 : Int), p.2) u → RepC W' (fun _ => True) ((q.1 : Int), q.2) v → Calls Try.prog 34 #[u, v] W' fun e w' => e = .returned (.bool (gB p q && gB q p)) ∧ Below W'.heap.size W' w') := fun {p q u v W'} hp hq hu hv => by
        rw [← gB_eq (HOkq.out p hp).1 (HOkq.out q hq).1]
        exact pkEqualS_any _ _ u v _ _ W' hu hv
      go_wp2
      generalize wr = wN at *
      go_loopw [10] (fun x wr => ∃ i : Nat, i ≤ 8 ∧ x = .int .i64 i ∧ Hid (Below wN.heap.size wN wr)) (fun x _ => 8 - (intOf x).toNat)
      case atStart => exact ⟨0, Nat.zero_le _, rfl, Below.refl _ _⟩
      case round =>
        obtain ⟨i, hi, rfl, HBi⟩ := hrel
        by_cases hli : i < 8
        · have hii : (i : Int) < 8 := by omega
          obtain ⟨p, hp⟩ : ∃ x, qs[i]? = some x := ⟨_, List.getElem?_eq_getElem (by rw [HQl.out]; exact hli)⟩
          have HPm : Hid (p ∈ qs) := List.mem_of_getElem? hp
          obtain ⟨pk, pn, pi, ph, pa, pm, pc, hp6, hpr⟩ := gl_at HSl.out hp
          have HP6 := Lib.hid hp6
          have HPr := Lib.hid hpr
          have HPi := Lib.hid hp
          clear hp6 hpr hp
          go_wp2
          generalize wr = wI at *
          go_loopw [11] (fun x wr => ∃ k : Nat, k ≤ 8 ∧ x = .int .i64 k ∧ Hid (Below wN.heap.size wN wr)) (fun x _ => 8 - (intOf x).toNat)
          case atStart => exact ⟨0, Nat.zero_le _, rfl, HBi.out⟩
          case round =>
            obtain ⟨k, hk, rfl, HBk⟩ := hrel
            by_cases hlk : k < 8
            · have hki : (k : Int) < 8 := by omega
              obtain ⟨q, hq⟩ : ∃ x, qs[k]? = some x := ⟨_, List.getElem?_eq_getElem (by rw [HQl.out]; exact hlk)⟩
              have HQm : Hid (q ∈ qs) := List.mem_of_getElem? hq
              obtain ⟨qk, qn, qi, qh, qa, qm, qc, hq6, hqr⟩ := gl_at HSl.out hq
              have HQ6 := Lib.hid hq6
              have HQr := Lib.hid hqr
              have HSame : Hid (i = k → p = q) := fun e => by
                subst e
                have := HPi.out.symm.trans hq
                cases this; rfl
              have HRef : Hid (gB p p = true) := gB_refl (HOkq.out p HPm.out).1
              clear hq6 hqr hq
              have HS : Hid (∀ W', Below wN.heap.size wN W' → W'.cell? (ad.add (i * 6)) = some (.int .i64 (p.1 : Int)) ∧ W'.cell? ⟨(ad.add (i * 6)).block, (ad.add (i * 6)).off + 1, none⟩ = some (.int .i64 pk) ∧ W'.cell? ⟨(ad.add (i * 6)).block, (ad.add (i * 6)).off + 2, none⟩ = some (.string pn) ∧ W'.cell? ⟨(ad.add (i * 6)).block, (ad.add (i * 6)).off + 3, none⟩ = some (.int .i64 pi) ∧ W'.cell? ⟨(ad.add (i * 6)).block, (ad.add (i * 6)).off + 4, none⟩ = some (.int .i64 ph) ∧ W'.cell? ⟨(ad.add (i * 6)).block, (ad.add (i * 6)).off + 5, none⟩ = some (.slice pa pm pc) ∧ W'.cell? (ad.add (k * 6)) = some (.int .i64 (q.1 : Int)) ∧ W'.cell? ⟨(ad.add (k * 6)).block, (ad.add (k * 6)).off + 1, none⟩ = some (.int .i64 qk) ∧ W'.cell? ⟨(ad.add (k * 6)).block, (ad.add (k * 6)).off + 2, none⟩ = some (.string qn) ∧ W'.cell? ⟨(ad.add (k * 6)).block, (ad.add (k * 6)).off + 3, none⟩ = some (.int .i64 qi) ∧ W'.cell? ⟨(ad.add (k * 6)).block, (ad.add (k * 6)).off + 4, none⟩ = some (.int .i64 qh) ∧ W'.cell? ⟨(ad.add (k * 6)).block, (ad.add (k * 6)).off + 5, none⟩ = some (.slice qa qm qc)) := fun W' hb => by
                obtain ⟨a0, a1, a2, a3, a4, a5⟩ := HP6.out W' hb
                obtain ⟨b0, b1, b2, b3, b4, b5⟩ := HQ6.out W' hb
                exact ⟨a0, a1, a2, a3, a4, a5, b0, b1, b2, b3, b4, b5⟩
              have hcase : (i = k ∧ gB p q = true ∧ gB q p = true) ∨ (i ≠ k ∧ gB p q = true ∧ gB q p = true) ∨ (i ≠ k ∧ gB p q = true ∧ gB q p = false) ∨ (i ≠ k ∧ gB p q = false) := by
                by_cases e : i = k
                · have := HSame.out e
                  subst this
                  exact .inl ⟨e, HRef.out, HRef.out⟩
                · cases h1 : gB p q
                  · exact .inr (.inr (.inr ⟨e, rfl⟩))
                  · cases h2 : gB q p
                    · exact .inr (.inr (.inl ⟨e, rfl, rfl⟩))
                    · exact .inr (.inl ⟨e, rfl, rfl⟩)
              have HGpq := Lib.hid (fun W' hb => HGen.out (W' := W') HPm.out HQm.out (HPr.out W' hb) (HQr.out W' hb))
              have HGqp := Lib.hid (fun W' hb => HGen.out (W' := W') HQm.out HPm.out (HQr.out W' hb) (HPr.out W' hb))
              have HRpq := Lib.hid (fun W' hb => HRGen.out (W' := W') HPm.out HQm.out (HPr.out W' hb) (HQr.out W' hb))
              have HEpq := Lib.hid (fun W' hb => HEqS.out (W' := W') HPm.out HQm.out (HPr.out W' hb) (HQr.out W' hb))
              have HTr : Hid (∀ r ∈ qs, gB p q = true → gB q r = true → gB p r = true) := fun r _ h1 h2 => gB_trans (HOkq.out p HPm.out).1 (HOkq.out q HQm.out).1 h1 h2
              clear HSame HRef HPi
              obtain ⟨g, hg⟩ : ∃ g, g = gB p q := ⟨_, rfl⟩
              obtain ⟨g', hg'⟩ : ∃ g, g = gB q p := ⟨_, rfl⟩
              rw [← hg] at HGpq HRpq HEpq HTr hcase
              rw [← hg'] at HGqp HEpq hcase
              clear hg hg'
              obtain ⟨a0, a1, a2, a3, a4, a5, b0, b1, b2, b3, b4, b5⟩ := HS.out wr HBk.out
              have HKX : Hid (∀ d os, Below wN.heap.size wN (grow (redrawn wr d) os)) := fun d os => HBk.out.trans ((below_regrown wr d os).mono HBk.out.size)
              have A0 := cell_regrown a0
              have A1 := cell_regrown a1
              have A2 := cell_regrown a2
              have A3 := cell_regrown a3
              have A4 := cell_regrown a4
              have A5 := cell_regrown a5
              have B0 := cell_regrown b0
              have B1 := cell_regrown b1
              have B2 := cell_regrown b2
              have B3 := cell_regrown b3
              have B4 := cell_regrown b4
              have B5 := cell_regrown b5
              go_wp2_with fail
              refine wp_region_quiet_below (by kernel_rfl) (by kernel_rfl) ?_
              repeat (first | go_big_quiet_step (first | (go_at_call 32; with_reducible exact Calls.regrown_of (HGpq.out _ (HKX.out _ _)))) | quiet_step (first | (go_at_call 32; with_reducible exact Calls.regrown_of (HGpq.out _ (HKX.out _ _)))))
              refine wpQuiet_nil ?_
              intro _ hw'
              obtain ⟨⟨dq, osq⟩, hw''⟩ := hw'
              subst hw''
              have HE0 := Lib.hid (HBk.out.trans ((below_regrown wr dq osq).mono HBk.out.size))
              clear HKX a0 A0 a1 A1 a2 A2 a3 A3 a4 A4 a5 A5 b0 B0 b1 B1 b2 B2 b3 B3 b4 B4 b5 B5
              generalize grow (redrawn wr dq) osq = w2 at *
              go_upto_region 19 with fail
              go_cut [12, 110] (fun s12 s110 wx => s12 = .bool g ∧ s110 = .bool false ∧ Hid (Below wN.heap.size wN wx))
              case first =>
                rcases hcase with ⟨e, rfl, rfl⟩ | ⟨e, rfl, rfl⟩ | ⟨e, rfl, rfl⟩ | ⟨e, rfl⟩
                all_goals
                  first | (have hki' : ((i : Int) == (k : Int)) = true := by (have : (i : Int) = (k : Int) := by omega); simpa using this) | (have hki' : ((i : Int) == (k : Int)) = false := by (have : ¬ (i : Int) = (k : Int) := by omega); simpa using this)
                  clear e
                  obtain ⟨a0, a1, a2, a3, a4, a5, b0, b1, b2, b3, b4, b5⟩ := HS.out w2 HE0.out
                  have HKX : Hid (∀ d os, Below wN.heap.size wN (grow (redrawn w2 d) os)) := fun d os => HE0.out.trans ((below_regrown w2 d os).mono HE0.out.size)
                  have A0 := cell_regrown a0
                  have A1 := cell_regrown a1
                  have A2 := cell_regrown a2
                  have A3 := cell_regrown a3
                  have A4 := cell_regrown a4
                  have A5 := cell_regrown a5
                  have B0 := cell_regrown b0
                  have B1 := cell_regrown b1
                  have B2 := cell_regrown b2
                  have B3 := cell_regrown b3
                  have B4 := cell_regrown b4
                  have B5 := cell_regrown b5
                  go_wp2_with fail
                  refine wp_region_quiet_below (by kernel_rfl) (by kernel_rfl) ?_
                  repeat (first | go_big_quiet_step (first | (go_at_call 33; with_reducible exact Calls.regrown_of (HRpq.out _ (HKX.out _ _))) | (go_at_call 34; with_reducible exact Calls.regrown_of (HEpq.out _ (HKX.out _ _))) | (go_at_call 32; with_reducible exact Calls.regrown_of (HGqp.out _ (HKX.out _ _)))) | quiet_step (first | (go_at_call 33; with_reducible exact Calls.regrown_of (HRpq.out _ (HKX.out _ _))) | (go_at_call 34; with_reducible exact Calls.regrown_of (HEpq.out _ (HKX.out _ _))) | (go_at_call 32; with_reducible exact Calls.regrown_of (HGqp.out _ (HKX.out _ _)))))
                  refine wpQuiet_nil ?_
                  intro _ hw'
                  obtain ⟨⟨dq, osq⟩, hw''⟩ := hw'
                  subst hw''
                  have HY := Lib.hid (HE0.out.trans ((below_regrown w2 dq osq).mono HE0.out.size))
                  go_wp2_with fail
                  go_meet
                  exact ⟨rfl, rfl, HY.out⟩
              case rest =>
                obtain ⟨rfl, rfl, HF⟩ := hcut
                clear HE0 HGpq HGqp HRpq HEpq hcase HBk
                go_wp2
                go_loopw [13] (fun x wr => ∃ j : Nat, j ≤ 8 ∧ x = .int .i64 j ∧ Hid (Below wN.heap.size wN wr)) (fun x _ => 8 - (intOf x).toNat)
                case atStart => exact ⟨0, Nat.zero_le _, rfl, HF.out⟩
                case round =>
                  obtain ⟨j, hj, rfl, HBj⟩ := hrel
                  by_cases hlj : j < 8
                  · have hjj : (j : Int) < 8 := by omega
                    obtain ⟨r, hr⟩ : ∃ x, qs[j]? = some x := ⟨_, List.getElem?_eq_getElem (by rw [HQl.out]; exact hlj)⟩
                    have HRm : Hid (r ∈ qs) := List.mem_of_getElem? hr
                    obtain ⟨rk, rn, ri, rh, ra, rm, rc, hr6, hrr⟩ := gl_at HSl.out hr
                    have HR6 := Lib.hid hr6
                    have HRr := Lib.hid hrr
                    have HS18 : Hid (∀ W', Below wN.heap.size wN W' → W'.cell? (ad.add (i * 6)) = some (.int .i64 (p.1 : Int)) ∧ W'.cell? ⟨(ad.add (i * 6)).block, (ad.add (i * 6)).off + 1, none⟩ = some (.int .i64 pk) ∧ W'.cell? ⟨(ad.add (i * 6)).block, (ad.add (i * 6)).off + 2, none⟩ = some (.string pn) ∧ W'.cell? ⟨(ad.add (i * 6)).block, (ad.add (i * 6)).off + 3, none⟩ = some (.int .i64 pi) ∧ W'.cell? ⟨(ad.add (i * 6)).block, (ad.add (i * 6)).off + 4, none⟩ = some (.int .i64 ph) ∧ W'.cell? ⟨(ad.add (i * 6)).block, (ad.add (i * 6)).off + 5, none⟩ = some (.slice pa pm pc) ∧ W'.cell? (ad.add (k * 6)) = some (.int .i64 (q.1 : Int)) ∧ W'.cell? ⟨(ad.add (k * 6)).block, (ad.add (k * 6)).off + 1, none⟩ = some (.int .i64 qk) ∧ W'.cell? ⟨(ad.add (k * 6)).block, (ad.add (k * 6)).off + 2, none⟩ = some (.string qn) ∧ W'.cell? ⟨(ad.add (k * 6)).block, (ad.add (k * 6)).off + 3, none⟩ = some (.int .i64 qi) ∧ W'.cell? ⟨(ad.add (k * 6)).block, (ad.add (k * 6)).off + 4, none⟩ = some (.int .i64 qh) ∧ W'.cell? ⟨(ad.add (k * 6)).block, (ad.add (k * 6)).off + 5, none⟩ = some (.slice qa qm qc) ∧ W'.cell? (ad.add (j * 6)) = some (.int .i64 (r.1 : Int)) ∧ W'.cell? ⟨(ad.add (j * 6)).block, (ad.add (j * 6)).off + 1, none⟩ = some (.int .i64 rk) ∧ W'.cell? ⟨(ad.add (j * 6)).block, (ad.add (j * 6)).off + 2, none⟩ = some (.string rn) ∧ W'.cell? ⟨(ad.add (j * 6)).block, (ad.add (j * 6)).off + 3, none⟩ = some (.int .i64 ri) ∧ W'.cell? ⟨(ad.add (j * 6)).block, (ad.add (j * 6)).off + 4, none⟩ = some (.int .i64 rh) ∧ W'.cell? ⟨(ad.add (j * 6)).block, (ad.add (j * 6)).off + 5, none⟩ = some (.slice ra rm rc)) := fun W' hb => by
                      obtain ⟨a0, a1, a2, a3, a4, a5⟩ := HP6.out W' hb
                      obtain ⟨b0, b1, b2, b3, b4, b5⟩ := HQ6.out W' hb
                      obtain ⟨c0, c1, c2, c3, c4, c5⟩ := HR6.out W' hb
                      exact ⟨a0, a1, a2, a3, a4, a5, b0, b1, b2, b3, b4, b5, c0, c1, c2, c3, c4, c5⟩
                    have HGqr := Lib.hid (fun W' hb => HGen.out (W' := W') HQm.out HRm.out (HQr.out W' hb) (HRr.out W' hb))
                    have HGpr := Lib.hid (fun W' hb => HGen.out (W' := W') HPm.out HRm.out (HPr.out W' hb) (HRr.out W' hb))
                    have HT2 := Lib.hid (HTr.out r HRm.out)
                    clear hr hr6 hrr
                    obtain ⟨gqr, hgqr⟩ : ∃ x, x = gB q r := ⟨_, rfl⟩
                    obtain ⟨gpr, hgpr⟩ : ∃ x, x = gB p r := ⟨_, rfl⟩
                    rw [← hgqr] at HGqr HT2
                    rw [← hgpr] at HGpr HT2
                    clear hgqr hgpr
                    have hc3 : g = false ∨ (g = true ∧ gqr = false) ∨ (g = true ∧ gqr = true ∧ gpr = true) := by
                      cases g
                      · exact .inl rfl
                      · cases gqr
                        · exact .inr (.inl ⟨rfl, rfl⟩)
                        · exact .inr (.inr ⟨rfl, rfl, HT2.out rfl rfl⟩)
                    clear HT2
                    rcases hc3 with rfl | ⟨rfl, rfl⟩ | ⟨rfl, rfl, rfl⟩
                    all_goals
                      obtain ⟨a0, a1, a2, a3, a4, a5, b0, b1, b2, b3, b4, b5, c0, c1, c2, c3, c4, c5⟩ := HS18.out wr HBj.out
                      have HKX : Hid (∀ d os, Below wN.heap.size wN (grow (redrawn wr d) os)) := fun d os => HBj.out.trans ((below_regrown wr d os).mono HBj.out.size)
                      have A0 := cell_regrown a0
                      have A1 := cell_regrown a1
                      have A2 := cell_regrown a2
                      have A3 := cell_regrown a3
                      have A4 := cell_regrown a4
                      have A5 := cell_regrown a5
                      have B0 := cell_regrown b0
                      have B1 := cell_regrown b1
                      have B2 := cell_regrown b2
                      have B3 := cell_regrown b3
                      have B4 := cell_regrown b4
                      have B5 := cell_regrown b5
                      have C0 := cell_regrown c0
                      have C1 := cell_regrown c1
                      have C2 := cell_regrown c2
                      have C3 := cell_regrown c3
                      have C4 := cell_regrown c4
                      have C5 := cell_regrown c5
                      go_wp2_with fail
                      refine wp_region_quiet_below (by kernel_rfl) (by kernel_rfl) ?_
                      repeat (first | go_big_quiet_step (first | (go_at_call 32; with_reducible exact Calls.regrown_of (HGqr.out _ (HKX.out _ _))) | (go_at_call 32; with_reducible exact Calls.regrown_of (HGpr.out _ (HKX.out _ _)))) | quiet_step (first | (go_at_call 32; with_reducible exact Calls.regrown_of (HGqr.out _ (HKX.out _ _))) | (go_at_call 32; with_reducible exact Calls.regrown_of (HGpr.out _ (HKX.out _ _)))))
                      refine wpQuiet_nil ?_
                      intro _ hw'
                      obtain ⟨⟨dq, osq⟩, hw''⟩ := hw'
                      subst hw''
                      have HKF := Lib.hid (HBj.out.trans ((below_regrown wr dq osq).mono HBj.out.size))
                      clear HKX a0 A0 a1 A1 a2 A2 a3 A3 a4 A4 a5 A5 b0 B0 b1 B1 b2 B2 b3 B3 b4 B4 b5 B5 c0 C0 c1 C1 c2 C2 c3 C3 c4 C4 c5 C5
                      generalize grow (redrawn wr dq) osq = w6 at *
                      go_wp2
                      go_roundw
                      case rel => exact ⟨j + 1, hlj, by go_num, HKF.out⟩
                      case measure => simp [intOf]; omega
                  · go_wp2
                    go_roundw
                    case rel => exact ⟨k + 1, hlk, by go_num, HBj.out⟩
                    case measure => simp [intOf]; omega
            · go_wp2
              go_roundw
              case rel => exact ⟨i + 1, hli, by go_num, HBk.out⟩
              case measure => simp [intOf]; omega
        · go_wp2
          go_ret
          exact ⟨rfl, HWr.out.trans (HBi.out.mono HWr.out.size)⟩
end Go.Proofs.Ytahiefgfhpkoeaa
