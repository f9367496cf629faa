/- The contract of the reference's Compare. -/
import Derived.Test.YtodbmgmjnenlpaaTyCmp
namespace Go.Proofs.Ytodbmgmjnenlpaa
open Go.RowKit Go.Sort Go.Shelf Mth

set_option maxRecDepth 100000 in
set_option maxHeartbeats 20000000 in
theorem refCmp_of (T : Ty) (H : ∀ U ∈ T.ts, CmpAt Try.prog 38 U) : CmpAt Try.prog 38 T := by
  intro U v u S S' w h h'
  obtain ⟨k, n, i, hm, s, eT, rfl, hn, hs⟩ := h.open
  obtain ⟨k', n', i', hm', s', eU, rfl, hn', hs'⟩ := h'.open
  have HE := Lib.hid (cmp_open eT eU)
  have HH := Lib.hid H
  obtain ⟨sa, sc, rfl, ⟨hsc1, hsc2⟩, hj⟩ := hs
  obtain ⟨sa', sc', rfl, ⟨hsc1', hsc2'⟩, hj'⟩ := hs'
  have HJ := Lib.hid hj
  have HJ' := Lib.hid hj'
  clear h h' eT eU hn hn' H hj hj'
  unfold maxLen at hsc2 hsc2'
  obtain ⟨l, hl⟩ : ∃ l, l = T.ts := ⟨_, rfl⟩
  obtain ⟨l', hl'⟩ : ∃ l, l = U.ts := ⟨_, rfl⟩
  rw [← hl] at HE HH HJ hsc1 ⊢
  rw [← hl'] at HE HJ' hsc1' ⊢
  clear hl hl'
  obtain ⟨sn, hsn⟩ : ∃ m, m = l.length := ⟨_, rfl⟩
  obtain ⟨sn', hsn'⟩ : ∃ m, m = l'.length := ⟨_, rfl⟩
  rw [← hsn] at HE hsc1 ⊢
  rw [← hsn'] at HE hsc1' ⊢
  have HM := Lib.hid hsn
  have HM' := Lib.hid hsn'
  clear hsn hsn'
  have HL : Hid (orL [cI k k', cB n.toList n'.toList, cI i i', cI hm hm', cI sn sn'] = 0 → sn' = sn) := by
    intro h0
    simp only [orL] at h0
    have := cI_zero (orr_zero (orr_zero (orr_zero (orr_zero (orr_zero h0).2).2).2).2).1
    omega
  have HI5 : Hid (∀ (W : World) (Z), Ints (W.alloc (.cells #[.int .i64 (cI k k'), .int .i64 (cB n.toList n'.toList), .int .i64 (cI i i'), .int .i64 (cI hm hm'), .int .i64 (cI sn sn')] Z)).drew (.slice (some ⟨W.heap.size, 0, none⟩) 5 5) [cI k k', cB n.toList n'.toList, cI i i', cI hm hm', cI sn sn']) := fun W Z => ints5 (heap_alloc_new W _)
  have HB2 : Hid (cB n.toList n'.toList = if Op.bytesLess n.toList n'.toList then -1 else if n.toList == n'.toList then 0 else 1) := rfl
  generalize hC1 : cI k k' = c1 at *
  generalize hC2 : cB n.toList n'.toList = c2 at *
  generalize hC3 : cI i i' = c3 at *
  generalize hC4 : cI hm hm' = c4 at *
  generalize hC5 : cI (sn : Int) (sn' : Int) = c5 at *
  have HC1 : Hid (∀ W, Calls Try.prog 70 #[.int .i64 k, .int .i64 k'] W fun e W' => e = .returned (.int .i64 c1) ∧ W = W') := fun W => by rw [← hC1]; exact refOrder_any _ _ W
  have HC3 : Hid (∀ W, Calls Try.prog 70 #[.int .i64 i, .int .i64 i'] W fun e W' => e = .returned (.int .i64 c3) ∧ W = W') := fun W => by rw [← hC3]; exact refOrder_any _ _ W
  have HC4 : Hid (∀ W, Calls Try.prog 70 #[.int .i64 hm, .int .i64 hm'] W fun e W' => e = .returned (.int .i64 c4) ∧ W = W') := fun W => by rw [← hC4]; exact refOrder_any _ _ W
  have HC5 : Hid (∀ W, Calls Try.prog 70 #[.int .i64 sn, .int .i64 sn'] W fun e W' => e = .returned (.int .i64 c5) ∧ W = W') := fun W => by rw [← hC5]; exact refOrder_any _ _ W
  clear hC1 hC2 hC3 hC4 hC5
  have hb0 : Below w.heap.size w ((w.alloc (.cells #[.int .i64 k, .string n, .int .i64 i, .int .i64 hm, .slice sa sn sc] 24)).alloc (.cells #[.int .i64 k', .string n', .int .i64 i', .int .i64 hm', .slice sa' sn' sc'] 24)) := ((Below.refl _ w).alloc (Nat.le_refl _) _).alloc (by simp) _
  have HA : Hid (Box ((w.alloc (.cells #[.int .i64 k, .string n, .int .i64 i, .int .i64 hm, .slice sa sn sc] 24)).alloc (.cells #[.int .i64 k', .string n', .int .i64 i', .int .i64 hm', .slice sa' sn' sc'] 24)) w.heap.size (.int .i64 k) (.string n) (.int .i64 i) (.int .i64 hm) (.slice sa sn sc)) := by
    show Box _ _ _ _ _ _ _
    unfold Box; rw [heap_at, if_neg (by simp), heap_at, if_pos rfl]
  have HB : Hid (Box ((w.alloc (.cells #[.int .i64 k, .string n, .int .i64 i, .int .i64 hm, .slice sa sn sc] 24)).alloc (.cells #[.int .i64 k', .string n', .int .i64 i', .int .i64 hm', .slice sa' sn' sc'] 24)) (w.heap.size + 1) (.int .i64 k') (.string n') (.int .i64 i') (.int .i64 hm') (.slice sa' sn' sc')) := by
    show Box _ _ _ _ _ _ _
    unfold Box; rw [heap_at, if_pos (by simp)]
  go_enter Try.func38, Try.ntmps38
  go_upto_if 14 with fail
  generalize ((w.alloc (.cells #[.int .i64 k, .string n, .int .i64 i, .int .i64 hm, .slice sa sn sc] 24)).alloc (.cells #[.int .i64 k', .string n', .int .i64 i', .int .i64 hm', .slice sa' sn' sc'] 24)) = W at *
  obtain ⟨a0, a1, a2, a3, a4⟩ := HA.out.cells
  obtain ⟨b0, b1, b2, b3, b4⟩ := HB.out.cells
  go_cut [5] (fun s5 wx => s5 = .int .i64 c2 ∧ wx = W)
  case first =>
    cases h1 : Op.bytesLess n.toList n'.toList with
    | true =>
      have HV : Hid (c2 = -1) := by show _ = _; rw [HB2.out, h1]; rfl
      go_wp2_with fail
      go_meet
      exact ⟨by rw [HV.out], rfl⟩
    | false =>
      cases h2 : (n.toList == n'.toList) with
      | true =>
        have HV : Hid (c2 = 0) := by show _ = _; rw [HB2.out, h1, h2]; rfl
        have h3 : (!n.toList == n'.toList) = false := by rw [h2]; rfl
        go_wp2_with fail
        go_meet
        exact ⟨by rw [HV.out], rfl⟩
      | false =>
        have HV : Hid (c2 = 1) := by show _ = _; rw [HB2.out, h1, h2]; rfl
        have h3 : (!n.toList == n'.toList) = true := by rw [h2]; rfl
        go_wp2_with fail
        go_meet
        exact ⟨by rw [HV.out], rfl⟩
  case rest =>
    obtain ⟨rfl, hwc⟩ := hcut
    obtain rfl : W = wc := hwc.symm
    have HK : Hid (∀ v, Below W.heap.size W v → v.cell? ⟨w.heap.size, 4, none⟩ = some (.slice sa sn sc) ∧ v.cell? ⟨w.heap.size + 1, 4, none⟩ = some (.slice sa' sn' sc')) := fun v hb => ⟨(Box.lift HA.out hb).cells.2.2.2.2, (Box.lift HB.out hb).cells.2.2.2.2⟩
    have K : ∀ A, Below W.heap.size W (W.alloc A) := fun A => (Below.refl _ W).alloc (Nat.le_refl _) A
    have HKA : Hid (∀ A, (W.alloc A).cell? ⟨w.heap.size, 0, none⟩ = some (.int .i64 k) ∧ (W.alloc A).cell? ⟨w.heap.size, 2, none⟩ = some (.int .i64 i) ∧ (W.alloc A).cell? ⟨w.heap.size, 3, none⟩ = some (.int .i64 hm) ∧ (W.alloc A).cell? ⟨w.heap.size, 4, none⟩ = some (.slice sa sn sc) ∧
        (W.alloc A).cell? ⟨w.heap.size + 1, 0, none⟩ = some (.int .i64 k') ∧ (W.alloc A).cell? ⟨w.heap.size + 1, 2, none⟩ = some (.int .i64 i') ∧ (W.alloc A).cell? ⟨w.heap.size + 1, 3, none⟩ = some (.int .i64 hm') ∧ (W.alloc A).cell? ⟨w.heap.size + 1, 4, none⟩ = some (.slice sa' sn' sc')) := fun A => by
      obtain ⟨p0, p1, p2, p3, p4⟩ := (Box.lift HA.out (K A)).cells
      obtain ⟨q0, q1, q2, q3, q4⟩ := (Box.lift HB.out (K A)).cells
      exact ⟨p0, p2, p3, p4, q0, q2, q3, q4⟩
    have HKd : Hid (∀ A, Below W.heap.size W (W.alloc A).drew) := fun A => (K A).drew
    clear K HA HB HB2
    go_wp2_with fail
    go_region_held3 (fun w' => w'.cell? ⟨w.heap.size, 0, none⟩ = some (.int .i64 k) ∧ w'.cell? ⟨w.heap.size, 2, none⟩ = some (.int .i64 i) ∧ w'.cell? ⟨w.heap.size, 3, none⟩ = some (.int .i64 hm) ∧ w'.cell? ⟨w.heap.size, 4, none⟩ = some (.slice sa sn sc) ∧
        w'.cell? ⟨w.heap.size + 1, 0, none⟩ = some (.int .i64 k') ∧ w'.cell? ⟨w.heap.size + 1, 2, none⟩ = some (.int .i64 i') ∧ w'.cell? ⟨w.heap.size + 1, 3, none⟩ = some (.int .i64 hm') ∧ w'.cell? ⟨w.heap.size + 1, 4, none⟩ = some (.slice sa' sn' sc'))
      (first
        | assumption
        | exact ⟨a0, a2, a3, a4, b0, b2, b3, b4⟩
        | exact HKA.out _)
      (first
        | (go_at_call 70; (with_reducible refine (HC1.out _).mono ?_); rintro e w' ⟨rfl, rfl⟩)
        | (go_at_call 70; (with_reducible refine (HC3.out _).mono ?_); rintro e w' ⟨rfl, rfl⟩)
        | (go_at_call 70; (with_reducible refine (HC4.out _).mono ?_); rintro e w' ⟨rfl, rfl⟩)
        | (go_at_call 70; (with_reducible refine (HC5.out _).mono ?_); rintro e w' ⟨rfl, rfl⟩))
    all_goals
      have HIw := HI5.out W 3
      have HCl : Hid (∀ j x, [c1, c2, c3, c4, c5][j]? = some x → (W.alloc (.cells #[.int .i64 c1, .int .i64 c2, .int .i64 c3, .int .i64 c4, .int .i64 c5] 3)).drew.cell? ((⟨W.heap.size, 0, none⟩ : Addr).add j) = some (.int .i64 x)) := fun j x hx => by
        obtain ⟨a, cap, hv, -, -, hc⟩ := HIw
        simp only [Value.slice.injEq] at hv
        obtain ⟨rfl, -, -⟩ := hv
        obtain ⟨ad, e, h⟩ := hc j x hx
        cases e
        exact h
      have HLow := Lib.hid (hb0.trans ((HKd.out (.cells #[.int .i64 c1, .int .i64 c2, .int .i64 c3, .int .i64 c4, .int .i64 c5] 3)).mono hb0.size))
      have HWV := HKd.out (.cells #[.int .i64 c1, .int .i64 c2, .int .i64 c3, .int .i64 c4, .int .i64 c5] 3)
      have HArg : Hid (∀ v, Below (W.alloc (.cells #[.int .i64 c1, .int .i64 c2, .int .i64 c3, .int .i64 c4, .int .i64 c5] 3)).drew.heap.size (W.alloc (.cells #[.int .i64 c1, .int .i64 c2, .int .i64 c3, .int .i64 c4, .int .i64 c5] 3)).drew v → v.cell? ⟨w.heap.size, 4, none⟩ = some (.slice sa sn sc) ∧ v.cell? ⟨w.heap.size + 1, 4, none⟩ = some (.slice sa' sn' sc')) := fun v hb => HK.out v (HWV.trans (hb.mono HWV.size))
      clear HIw HWV HI5 HK HKA HKd a0 a1 a2 a3 a4 b0 b1 b2 b3 b4 hb0 HC1 HC3 HC4 HC5
      generalize (W.alloc (.cells #[.int .i64 c1, .int .i64 c2, .int .i64 c3, .int .i64 c4, .int .i64 c5] 3)).drew = V at *
      generalize W.heap.size = g at *
      have HLen : Hid ([c1, c2, c3, c4, c5].length = 5) := rfl
      generalize [c1, c2, c3, c4, c5] = zs at *
      have HE0 : Hid (orL zs = orL (zs.drop 0)) := by show _ = _; simp
      go_wp2
      go_loop [45] (fun x => ∃ j : Nat, j ≤ 5 ∧ x = .int .i64 j ∧ Hid (orL zs = orL (zs.drop j))) (fun x => 5 - (intOf x).toNat)
      case atStart => exact ⟨0, Nat.zero_le _, rfl, HE0⟩
      case round =>
        obtain ⟨j, hj, rfl, HT⟩ := hrel
        by_cases hlt : j < 5
        · obtain ⟨x, hx⟩ : ∃ x, zs[j]? = some x := ⟨_, List.getElem?_eq_getElem (by rw [HLen.out]; exact hlt)⟩
          have hcell := HCl.out j x hx
          rw [add_zero, Nat.zero_add] at hcell
          have HS := Lib.hid (orL_step hx)
          clear hx
          have hji : (j : Int) < 5 := by omega
          cases hz : (x != 0) with
          | true =>
            have HS2 : Hid (cmpT T U = x) := by
              show _ = _
              have hx0 : x ≠ 0 := by simpa using hz
              rw [HE.out, HT.out, HS.out]; unfold orr; simp [hx0]
            go_wp2
            go_ret
            exact ⟨ret_int HS2.out.symm, HLow.out⟩
          | false =>
            have HS2 : Hid (orL zs = orL (zs.drop (j + 1))) := by
              show _ = _
              rw [HT.out, HS.out]; unfold orr; rw [if_pos (by simpa using hz)]
            go_wp2
            go_round
            case rel => exact ⟨j + 1, hlt, by go_num, HS2⟩
            case measure => simp [intOf]; omega
        · obtain rfl : j = 5 := by omega
          have h0 : orL zs = 0 := by rw [HT.out, List.drop_eq_nil_of_le (by rw [HLen.out]; exact Nat.le_refl _)]; rfl
          have HF : Hid (cmpT T U = cmpL l l') := by show _ = _; rw [HE.out, h0]; rfl
          obtain rfl : sn' = sn := HL.out h0
          have HE1 : Hid (cmpL l l' = cmpL (l.drop 0) (l'.drop 0)) := by show _ = _; simp
          clear h0 HE HL HT HCl HE0 hlt hj
          go_wp2
          go_loopw [8] (fun x wr => ∃ j : Nat, j ≤ sn' ∧ x = .int .i64 j ∧ Hid (cmpL l l' = cmpL (l.drop j) (l'.drop j)) ∧ Hid (Below V.heap.size V wr)) (fun x _ => sn' - (intOf x).toNat)
          case atStart => exact ⟨0, Nat.zero_le _, rfl, HE1, Below.refl _ _⟩
          case round =>
            obtain ⟨j, hj, rfl, HT, HBr⟩ := hrel
            obtain ⟨g4, g4'⟩ := HArg.out wr HBr.out
            have hbw := HLow.out.trans (HBr.out.mono HLow.out.size)
            by_cases hlt : j < sn'
            · obtain ⟨T1, hT1⟩ : ∃ x, l[j]? = some x := ⟨_, List.getElem?_eq_getElem (by rw [← HM.out]; exact hlt)⟩
              obtain ⟨U1, hU1⟩ : ∃ x, l'[j]? = some x := ⟨_, List.getElem?_eq_getElem (by rw [← HM'.out]; exact hlt)⟩
              have HTm : Hid (T1 ∈ l) := List.mem_of_getElem? hT1
              obtain ⟨ad, x, rfl, -, h5, hx⟩ := HJ.out j T1 hT1
              obtain ⟨ad', y, rfl, -, h5', hy⟩ := HJ'.out j U1 hU1
              have HS := Lib.hid (cmpL_step hT1 hU1)
              clear hT1 hU1
              have hx' := hx.lift hbw
              have hy' := hy.lift hbw
              have G5 := Lib.hid (h5.kept (hbw.block _ h5.lt))
              have G5' := Lib.hid (h5'.kept (hbw.block _ h5'.lt))
              obtain ⟨xk, xn, xi, xh, xs, eT, rfl, hn, hs⟩ := hx'.open
              obtain ⟨yk, yn, yi, yh, ys, eU, rfl, hn', hs'⟩ := hy'.open
              obtain ⟨q0, q1, q2, q3, q4⟩ := five_at G5.out
              obtain ⟨r0, r1, r2, r3, r4⟩ := five_at G5'.out
              obtain ⟨xa, xc, rfl, -⟩ := hs
              obtain ⟨ya, yc, rfl, -⟩ := hs'
              have HX := Lib.hid hx'
              have HY := Lib.hid hy'
              clear h5 h5' hx hy eT eU hn hn' hx' hy'
              have hji : (j : Int) < (sn' : Int) := by omega
              have hj0 : (0 : Int) ≤ (j : Int) := by omega
              generalize T1.ts.length = xm at *
              generalize U1.ts.length = ym at *
              have hbd : Below wr.heap.size wr wr.drew := (Below.refl _ wr).drew
              have HC : Hid (Calls Try.prog 38 #[.agg #[.int .i64 xk, .string xn, .int .i64 xi, .int .i64 xh, .slice xa xm xc], .agg #[.int .i64 yk, .string yn, .int .i64 yi, .int .i64 yh, .slice ya ym yc]] wr.drew fun e w'' => e = .returned (.int .i64 (cmpT T1 U1)) ∧ Below wr.heap.size wr w'') :=
                (HH.out T1 HTm.out U1 _ _ S S' wr.drew (HX.out.lift hbd) (HY.out.lift hbd)).mono fun e w'' ⟨h1, h2⟩ => ⟨h1, hbd.trans (h2.mono hbd.size)⟩
              have HKeep : Hid (∀ v, Below wr.heap.size wr v → v.cell? ⟨w.heap.size, 4, none⟩ = some (.slice (some ad) sn' sc) ∧ v.cell? ⟨w.heap.size + 1, 4, none⟩ = some (.slice (some ad') sn' sc') ∧
                  v.cell? (ad.add (j * 5)) = some (.int .i64 xk) ∧ v.cell? ⟨(ad.add (j * 5)).block, (ad.add (j * 5)).off + 1, none⟩ = some (.string xn) ∧ v.cell? ⟨(ad.add (j * 5)).block, (ad.add (j * 5)).off + 2, none⟩ = some (.int .i64 xi) ∧ v.cell? ⟨(ad.add (j * 5)).block, (ad.add (j * 5)).off + 3, none⟩ = some (.int .i64 xh) ∧ v.cell? ⟨(ad.add (j * 5)).block, (ad.add (j * 5)).off + 4, none⟩ = some (.slice xa xm xc) ∧
                  v.cell? (ad'.add (j * 5)) = some (.int .i64 yk) ∧ v.cell? ⟨(ad'.add (j * 5)).block, (ad'.add (j * 5)).off + 1, none⟩ = some (.string yn) ∧ v.cell? ⟨(ad'.add (j * 5)).block, (ad'.add (j * 5)).off + 2, none⟩ = some (.int .i64 yi) ∧ v.cell? ⟨(ad'.add (j * 5)).block, (ad'.add (j * 5)).off + 3, none⟩ = some (.int .i64 yh) ∧ v.cell? ⟨(ad'.add (j * 5)).block, (ad'.add (j * 5)).off + 4, none⟩ = some (.slice ya ym yc)) := fun v hb => by
                have k : ∀ p u, wr.cell? p = some u → v.cell? p = some u := fun p u h => (hb.cell (World.block_lt_of_cell? _ _ h)).trans h
                exact ⟨k _ _ g4, k _ _ g4', k _ _ q0, k _ _ q1, k _ _ q2, k _ _ q3, k _ _ q4, k _ _ r0, k _ _ r1, k _ _ r2, k _ _ r3, k _ _ r4⟩
              have HD := Lib.hid hbd
              generalize cmpT T1 U1 = c at *
              clear hbd HX HY G5 G5'
              go_upto_region 15 with fail
              clear g4 g4' q0 q1 q2 q3 q4 r0 r1 r2 r3 r4
              go_region_held3 (fun v => v.cell? ⟨w.heap.size, 4, none⟩ = some (.slice (some ad) sn' sc) ∧ v.cell? ⟨w.heap.size + 1, 4, none⟩ = some (.slice (some ad') sn' sc') ∧
                  v.cell? (ad.add (j * 5)) = some (.int .i64 xk) ∧ v.cell? ⟨(ad.add (j * 5)).block, (ad.add (j * 5)).off + 1, none⟩ = some (.string xn) ∧ v.cell? ⟨(ad.add (j * 5)).block, (ad.add (j * 5)).off + 2, none⟩ = some (.int .i64 xi) ∧ v.cell? ⟨(ad.add (j * 5)).block, (ad.add (j * 5)).off + 3, none⟩ = some (.int .i64 xh) ∧ v.cell? ⟨(ad.add (j * 5)).block, (ad.add (j * 5)).off + 4, none⟩ = some (.slice xa xm xc) ∧
                  v.cell? (ad'.add (j * 5)) = some (.int .i64 yk) ∧ v.cell? ⟨(ad'.add (j * 5)).block, (ad'.add (j * 5)).off + 1, none⟩ = some (.string yn) ∧ v.cell? ⟨(ad'.add (j * 5)).block, (ad'.add (j * 5)).off + 2, none⟩ = some (.int .i64 yi) ∧ v.cell? ⟨(ad'.add (j * 5)).block, (ad'.add (j * 5)).off + 3, none⟩ = some (.int .i64 yh) ∧ v.cell? ⟨(ad'.add (j * 5)).block, (ad'.add (j * 5)).off + 4, none⟩ = some (.slice ya ym yc))
                (first
                  | exact HKeep.out _ hb
                  | exact HKeep.out _ HD.out)
                (first
                  | (go_at_call 38; (with_reducible refine HC.out.mono ?_); rintro e w' ⟨rfl, hb⟩))
              all_goals
                have HB2 := Lib.hid (HBr.out.trans (hb.mono HBr.out.size))
                go_split_ands
                clear HKeep HC HD hb
                cases hq : (c != 0) with
                | false =>
                  have HS2 : Hid (cmpL l l' = cmpL (l.drop (j + 1)) (l'.drop (j + 1))) := by
                    show _ = _
                    rw [HT.out, HS.out]; unfold orr; rw [if_pos (by simpa using hq)]
                  go_wp2
                  go_roundw
                  case rel => exact ⟨j + 1, hlt, by go_num, HS2, HB2⟩
                  case measure => simp [intOf]; omega
                | true =>
                  have HS2 : Hid (cmpT T U = c) := by
                    show _ = _
                    rw [HF.out, HT.out, HS.out]; unfold orr; rw [if_neg (by simpa using hq)]
                  go_wp2
                  go_ret
                  exact ⟨ret_int HS2.out.symm, HLow.out.trans (HB2.out.mono HLow.out.size)⟩
            · have HS2 : Hid (cmpT T U = 0) := by
                show _ = _
                rw [HF.out, HT.out, List.drop_eq_nil_of_le (by rw [← HM.out]; omega), List.drop_eq_nil_of_le (by rw [← HM'.out]; omega)]; rfl
              go_wp2
              go_ret
              exact ⟨ret_int HS2.out.symm, hbw⟩
theorem refCmp_any (T : Ty) : CmpAt Try.prog 38 T := by
  refine nodes_ind (p := fun T => CmpAt Try.prog 38 T) (fun k n i h ts ih => ?_) T
  exact refCmp_of _ ih
end Go.Proofs.Ytodbmgmjnenlpaa
