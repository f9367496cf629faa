import Derived.Test.YtljgpgmaceackaaQX16
import Derived.Deep.QuietTactic
/- The reference's fault and Arms of chapter 10. -/
namespace Go.Proofs.Ytljgpgmaceackaa
open Go.RowKit Go.Maps Mth S3

set_option maxHeartbeats 1600000 in
theorem refFlt_any (e p : Int) (w : World) : Calls Try.prog 26 #[.int .i64 e, .int .i64 p] w fun r w' => r = .returned (.agg #[.int .i64 e, .int .i64 p]) ∧ Below w.heap.size w w' := by
  have hal : Below w.heap.size w (w.alloc (.cells #[.int .i64 0, .int .i64 0] 45)) := (Below.refl _ w).alloc (Nat.le_refl _) _
  have HB := Lib.hid (BoxC.made 45 w [.int .i64 0, .int .i64 0])
  have HA := Lib.hid hal
  clear hal
  simp only [List.toArray] at HB
  go_enter Try.func26, Try.ntmps26
  go_upto_region 1 with fail
  generalize (w.alloc (.cells #[.int .i64 0, .int .i64 0] 45)) = V at *
  go_wp2_with (refine wpList_storeC rfl _ _ rfl _ _ [.int .i64 e, .int .i64 p] HB.out rfl rfl sizeFl rfl (one2 _ _) ?_; intro w9 hB9 hg9 hs9)
  have c0 := hB9.cell 0 _ rfl; have c1 := hB9.cell 1 _ rfl
  refine bodyPost_ret (by simp [results, Try.results26, go_sem, c0, c1]; try rfl) rfl ?_
  exact ⟨rfl, Below.grown HA.out hg9 HA.out.size (fun k hk => by have := Option.some.inj hk; omega)⟩
set_option maxRecDepth 100000 in
set_option maxHeartbeats 12800000 in
theorem refArms_any (ds : List Dat) (xs : List (AH × Ex)) (hal : xs.length ≤ 100000) (dv av : Value) (S S' : Nat → Prop) (w : World) (hd : SlG DatE w S ds dv) (ha : SlG AmE w S' xs av) :
    Calls Try.prog 41 #[dv, av] w fun e w' => e = .returned (armV (armsI xs ds 0)) ∧ Below w.heap.size w w' := by
  have HD := Lib.hid hd
  have HA := Lib.hid ha
  obtain ⟨da, dc, rfl, hld⟩ := slice_form hd
  obtain ⟨aa, ac, rfl, hla⟩ := slice_form ha
  clear hd ha
  unfold maxLen at hld hla
  obtain ⟨n, hn⟩ : ∃ n, n = xs.length := ⟨_, rfl⟩
  rw [← hn] at HA hla hal ⊢
  have HN := Lib.hid hn
  clear hn
  obtain ⟨dn, hdn⟩ : ∃ n, n = ds.length := ⟨_, rfl⟩
  rw [← hdn] at HD hld ⊢
  have HDn := Lib.hid hdn
  clear hdn
  have HE : Hid (armsI xs ds 0 = armsI xs (ds.drop 0) 0) := rfl
  have HR0 : Hid (Below w.heap.size w w) := Below.refl _ _
  go_enter Try.func41, Try.ntmps41
  go_wp2
  go_loopw [6] (fun i wr => ∃ j : Nat, j ≤ dn ∧ i = .int .i64 j ∧ Hid (armsI xs ds 0 = armsI xs (ds.drop j) j) ∧ Hid (Below w.heap.size w wr)) (fun i _ => dn - (intOf i).toNat)
  case atStart => exact ⟨0, Nat.zero_le _, rfl, HE, HR0⟩
  case round =>
    clear HE HR0
    obtain ⟨j, hj, rfl, HT, HB⟩ := hrel
    by_cases hlt : j < dn
    · obtain ⟨D, hD⟩ : ∃ x, ds[j]? = some x := ⟨_, List.getElem?_eq_getElem (by rw [← HDn.out]; exact hlt)⟩
      have HS := Lib.hid (armsI_step (xs := xs) hD)
      obtain ⟨dad, pa, pc, ca, cc, hda, -, hct, -, -, -, e3⟩ := dat_at HD.out hD
      subst hda
      have HCt := Lib.hid hct
      have q3 := (HB.out.cell (World.block_lt_of_cell? _ _ e3)).trans e3
      have HE3 := Lib.hid e3
      have hji : (j : Int) < (dn : Int) := by omega
      obtain ⟨cn, hcn⟩ : ∃ n, n = D.ctors.length := ⟨_, rfl⟩
      rw [← hcn] at HCt q3 HE3
      have HCn := Lib.hid hcn
      clear hcn hD hct e3
      have hb0 : ∃ b : Bool, ((n : Int) == (cn : Int)) = b ∧ Hid (armsB xs D.ctors = (b && armsB (xs.drop 0) (D.ctors.drop 0))) ∧ Hid (b = true → n = cn) := by
        by_cases e : n = cn
        · exact ⟨true, by simp [e], show _ = _ by rfl, fun _ => e⟩
        · refine ⟨false, by simp; omega, ?_, fun h => by cases h⟩
          show _ = _
          rw [armsB_len xs D.ctors (by rw [← HN.out, ← HCn.out]; exact e)]; rfl
      obtain ⟨b0, hb0, HB0, HC0⟩ := hb0
      have HW0 : Hid (Below w.heap.size w wr) := HB
      generalize hwr : wr = wr0 at *
      go_wp2
      clear hb0 q3
      go_loopw [7, 8] (fun q k wr => ∃ (b : Bool) (kk : Nat), kk ≤ n ∧ k = .int .i64 kk ∧ q = .bool b ∧ Hid (armsB xs D.ctors = (b && armsB (xs.drop kk) (D.ctors.drop kk))) ∧ Hid (b = true → n = cn) ∧ Hid (Below w.heap.size w wr)) (fun _ k _ => n - (intOf k).toNat)
      case atStart => exact ⟨b0, 0, Nat.zero_le _, rfl, rfl, HB0, HC0, HW0⟩
      case round =>
        clear HB0 HC0 HW0
        obtain ⟨b, kk, hkk, rfl, rfl, HBb, HCb, HW⟩ := hrel
        cases b with
        | false =>
          have HR : Hid (armsI xs ds 0 = armsI xs (ds.drop (j + 1)) (j + 1)) := by show _ = _; rw [HT.out, HS.out, HBb.out]; rfl
          go_wp2
          go_roundw
          case rel => exact ⟨j + 1, hlt, by go_num, HR, HW⟩
          case measure => simp [intOf]; omega
        | true =>
          by_cases hkl : kk < n
          · obtain ⟨A, hA⟩ : ∃ x, xs[kk]? = some x := ⟨_, List.getElem?_eq_getElem (by rw [← HN.out]; exact hkl)⟩
            have hkc : kk < cn := by have := HCb.out rfl; omega
            obtain ⟨C, hC⟩ : ∃ x, D.ctors[kk]? = some x := ⟨_, List.getElem?_eq_getElem (by rw [← HCn.out]; exact hkc)⟩
            have HS2 := Lib.hid (armsB_step hA hC)
            obtain ⟨ad, va, vc, kb, kd, ab, ae, uk, un, ui, uh, ua, ul, uc, rfl, -, -, q0, hq⟩ := am_at (HA.out.kept (fun _ h => h) (fun b _ hl => HW.out.block b hl)) hA
            obtain ⟨cad, fa, fc, hca, -, -, e1, -⟩ := ctor_at HCt.out hC
            subst hca
            have q1 := hq 1 _ (by decide) rfl
            have r1 := (HW.out.cell (World.block_lt_of_cell? _ _ e1)).trans e1
            have r3 := (HW.out.cell (World.block_lt_of_cell? _ _ HE3.out)).trans HE3.out
            have hki : (kk : Int) < (n : Int) := by omega
            have hkci : (kk : Int) < (cn : Int) := by omega
            have HWd : Hid (∀ k, Below w.heap.size w (wr.drewN k)) := fun k => below_drewN HW.out k
            clear hA hC hq e1 q0
            cases hq : (A.1.con.toList == C.name.toList) with
            | true =>
              have HR : Hid (armsB xs D.ctors = (true && armsB (xs.drop (kk + 1)) (D.ctors.drop (kk + 1)))) := by show _ = _; rw [HBb.out, HS2.out, hq]; rfl
              have HCe : Hid (n = cn) := HCb.out rfl
              clear HBb HS2 HCb
              go_wp2
              go_quiet (fail)
              go_wp2
              have HW9 := Lib.hid (HWd.out nq)
              go_roundw
              case rel => exact ⟨true, kk + 1, hkl, by go_num, rfl, HR, (fun _ => HCe.out), HW9⟩
              case measure => simp [intOf]; omega
            | false =>
              have HR : Hid (armsB xs D.ctors = (false && armsB (xs.drop (kk + 1)) (D.ctors.drop (kk + 1)))) := by show _ = _; rw [HBb.out, HS2.out, hq]; rfl
              clear HBb HS2 HCb
              go_wp2
              go_quiet (fail)
              go_wp2
              have HW9 := Lib.hid (HWd.out nq)
              go_roundw
              case rel => exact ⟨false, kk + 1, hkl, by go_num, rfl, HR, (fun h => by cases h), HW9⟩
              case measure => simp [intOf]; omega
          · have HR : Hid (armsI xs ds 0 = some j) := by
              show _ = _
              rw [HT.out, HS.out, HBb.out, List.drop_eq_nil_of_le (by rw [← HN.out]; omega), List.drop_eq_nil_of_le (by rw [← HCn.out]; have := HCb.out rfl; omega)]; rfl
            go_wp2
            refine bodyPost_ret (by simp [results, Try.results41, go_sem]; try rfl) rfl ?_
            exact ⟨by rw [HR.out]; rfl, HW.out⟩
    · have HR : Hid (armsI xs ds 0 = none) := by
        show _ = _
        rw [HT.out, List.drop_eq_nil_of_le (by rw [← HDn.out]; omega)]; rfl
      go_wp2
      refine bodyPost_ret (by simp [results, Try.results41, go_sem]; try rfl) rfl ?_
      exact ⟨by rw [HR.out]; rfl, HB.out⟩
end Go.Proofs.Ytljgpgmaceackaa

/- The reference's cases: the error of a case apart from its children. -/
namespace Go.Proofs.Ytljgpgmaceackaa
open Go.RowKit Go.Maps Mth S3

set_option maxRecDepth 100000 in
set_option maxHeartbeats 12800000 in
theorem refCases_any (ds : List Dat) (T : Ex) (hal : T.arms.length ≤ 100000) (dv : Value) (S S' : Nat → Prop) (c : List Value) (w : World) (hd : SlG DatE w S ds dv) (h : RepE w S' T c) :
    Calls Try.prog 28 #[dv, .agg c.toArray] w fun e w' => e = .returned (ftV (casS ds T)) ∧ Below w.heap.size w w' := by
  obtain ⟨ka, kc, aa, ac, tk, tn, ti, th, ta, tl, tc, rfl⟩ := h.form
  have HA := Lib.hid h.armsOf
  have HD := Lib.hid hd
  have HF := Lib.hid (FtSt.start w [.int .i64 T.k, .int .i64 T.p, .string T.n, .int .i64 T.m, .slice ka T.kids.length kc, .slice aa T.arms.length ac, .int .i64 tk, .string tn, .int .i64 ti, .int .i64 th, .slice ta tl tc])
  obtain ⟨da, dc, rfl, hdl⟩ := slice_form hd
  clear h hd
  unfold maxLen at hdl
  obtain ⟨n, hn⟩ : ∃ n, n = T.arms.length := ⟨_, rfl⟩
  rw [← hn] at HA HF hal ⊢
  have HN := Lib.hid hn
  clear hn
  obtain ⟨dn, hdn⟩ : ∃ n, n = ds.length := ⟨_, rfl⟩
  rw [← hdn] at HD hdl ⊢
  have HDl := Lib.hid hdn
  clear hdn
  generalize T.kids.length = kn at *
  simp only [List.toArray] at HF ⊢
  go_enter Try.func28, Try.ntmps28
  go_upto_region 1 with fail
  generalize ((w.alloc (.cells #[.int .i64 T.k, .int .i64 T.p, .string T.n, .int .i64 T.m, .slice ka kn kc, .slice aa n ac, .int .i64 tk, .string tn, .int .i64 ti, .int .i64 th, .slice ta tl tc] 36)).alloc (.cells #[.int .i64 0, .int .i64 0] 45)) = V at *
  have HE0 : Hid (armUn ds T.arms = armUn ds (T.arms.drop 0)) := rfl
  go_wp2_with fail
  go_loopw [5] (fun i wr => ∃ j : Nat, j ≤ n ∧ i = .int .i64 j ∧ Hid (armUn ds T.arms = armUn ds (T.arms.drop j)) ∧ Hid (FtSt w [.int .i64 T.k, .int .i64 T.p, .string T.n, .int .i64 T.m, .slice ka kn kc, .slice aa n ac, .int .i64 tk, .string tn, .int .i64 ti, .int .i64 th, .slice ta tl tc] wr)) (fun i _ => n - (intOf i).toNat)
  case atStart => exact ⟨0, Nat.zero_le _, rfl, HE0, HF⟩
  case round =>
    clear HE0 HF
    obtain ⟨j, hj, rfl, HT, HW⟩ := hrel
    obtain ⟨b0, b1, b2, b3, b4, b5, b6, b7, b8, b9, b10⟩ := bx11 HW.out.box
    by_cases hlt : j < n
    · obtain ⟨A, hA⟩ : ∃ x, T.arms[j]? = some x := ⟨_, List.getElem?_eq_getElem (by rw [← HN.out]; exact hlt)⟩
      have HS := Lib.hid (armUn_step (ds := ds) hA)
      obtain ⟨ad, va, vc, kb, kd, ab, ae, uk, un, ui, uh, ua, ul, uc, rfl, hvv, -, q0, hq⟩ := am_at (HA.out.kept (fun _ h => h) (fun b _ hl => HW.out.low.block b hl)) hA
      have q1 := hq 1 _ (by decide) rfl
      have hji : (j : Int) < (n : Int) := by omega
      have HFi : Hid (∀ V, Below w.heap.size w V → Calls Try.prog 27 #[.slice da dn dc, .string A.1.con] V fun e w' => e = .returned (fndV (fnd ds A.1.con)) ∧ V = w') := fun V hV => refFind_any ds A.1.con _ S V (HD.out.lift' hV)
      clear hA hq hvv
      cases hf : fnd ds A.1.con with
      | some p =>
        obtain ⟨pi, pk⟩ := p
        have HR : Hid (armUn ds T.arms = armUn ds (T.arms.drop (j + 1))) := by show _ = _; rw [HT.out, HS.out, hf]; rfl
        rw [hf] at HFi
        unfold fndV at HFi
        clear hf HS HT
        go_wp2_with (go_at_call 27; refine (HFi.out _ HW.out.low).mono ?_; rintro e w5 ⟨rfl, rfl⟩)
        go_roundw
        case rel => exact ⟨j + 1, hlt, by go_num, HR, HW⟩
        case measure => simp [intOf]; omega
      | none =>
        have HR : Hid (casS ds T = (9, A.1.pos)) := by show _ = _; unfold casS; rw [HT.out, HS.out, hf]; rfl
        rw [hf] at HFi
        unfold fndV at HFi
        clear hf HS HT
        go_wp2_with (first
          | (go_at_call 27; refine (HFi.out _ HW.out.low).mono ?_; rintro e w5 ⟨rfl, rfl⟩)
          | (go_at_call 26; refine (refFlt_any _ _ _).mono ?_; rintro e w8 ⟨rfl, hb8⟩; have HW8 := Lib.hid (HW.out.lift hb8); clear hb8)
          | (refine wpList_storeC rfl _ _ rfl _ _ [.int .i64 9, .int .i64 A.1.pos] HW8.out.res rfl rfl sizeFl rfl (one2 _ _) ?_; intro w9 hB9 hg9 hs9))
        have c0 := hB9.cell 0 _ rfl; have c1 := hB9.cell 1 _ rfl
        refine bodyPost_ret (by simp [results, Try.results28, go_sem, c0, c1]; try rfl) rfl ?_
        exact ⟨by rw [HR.out]; rfl, HW8.out.fin hg9⟩

    · have HU : Hid (armUn ds T.arms = none) := by
        show _ = _
        rw [HT.out, List.drop_eq_nil_of_le (by rw [← HN.out]; omega)]; rfl
      have HAr : Hid (Calls Try.prog 41 #[.slice da dn dc, .slice aa n ac] wr fun e w' => e = .returned (armV (armsI T.arms ds 0)) ∧ Below wr.heap.size wr w') := refArms_any ds T.arms (by rw [← HN.out]; exact hal) _ _ S S' wr (HD.out.lift' HW.out.low) (HA.out.kept (fun _ h => h) (fun b _ hl => HW.out.low.block b hl))
      clear HT
      cases hai : armsI T.arms ds 0 with
      | none =>
        have HR : Hid (casS ds T = (10, T.p)) := by show _ = _; unfold casS; rw [HU.out, hai]
        rw [hai] at HAr
        unfold armV at HAr
        clear hai HU
        go_wp2_with (first
          | (go_at_call 41; refine HAr.out.mono ?_; rintro e w5 ⟨rfl, hb5⟩; have HW5 := Lib.hid (HW.out.lift hb5); obtain ⟨-, d1, -⟩ := bx11 HW5.out.box; clear hb5 b0 b1 b2 b3 b4 b5 b6 b7 b8 b9 b10)
          | (go_at_call 26; refine (refFlt_any _ _ _).mono ?_; rintro e w8 ⟨rfl, hb8⟩; have HW8 := Lib.hid (HW5.out.lift hb8); clear hb8)
          | (refine wpList_storeC rfl _ _ rfl _ _ [.int .i64 10, .int .i64 T.p] HW8.out.res rfl rfl sizeFl rfl (one2 _ _) ?_; intro w9 hB9 hg9 hs9))
        have c0 := hB9.cell 0 _ rfl; have c1 := hB9.cell 1 _ rfl
        refine bodyPost_ret (by simp [results, Try.results28, go_sem, c0, c1]; try rfl) rfl ?_
        exact ⟨by rw [HR.out]; rfl, HW8.out.fin hg9⟩

      | some g =>
        obtain ⟨-, D, hD, hB⟩ := armsI_lt hai
        rw [Nat.sub_zero] at hD
        have HL2 : Hid (n = D.ctors.length) := by show _ = _; rw [HN.out]; exact armsB_length hB
        have HR0 : Hid (casS ds T = armChk (T.arms.drop 0) (D.ctors.drop 0)) := by show _ = _; unfold casS; rw [HU.out, hai]; dsimp only; rw [hD]; rfl
        rw [hai] at HAr
        unfold armV at HAr
        have hgl : g < ds.length := (List.getElem?_eq_some_iff.1 hD).1
        obtain ⟨dad, pa, pc, ca, cc, hda, -, hct, -, -, -, e3⟩ := dat_at HD.out hD
        subst hda
        have HCt := Lib.hid hct
        have HE3 := Lib.hid e3
        rw [← HDl.out] at hgl
        have hgi : (g : Int) < (dn : Int) := by omega
        clear hai HU hB hD hct e3
        go_upto_region 8 with (go_at_call 41; refine HAr.out.mono ?_; rintro e w5 ⟨rfl, hb5⟩; have HW5 := Lib.hid (HW.out.lift hb5); clear hb5 b0 b1 b2 b3 b4 b5 b6 b7 b8 b9 b10)
        clear HW HAr
        rw [← HL2.out] at HCt HE3
        generalize hwr : wr = wr0 at *
        go_wp2_with fail
        go_loopw [11] (fun i wr => ∃ j : Nat, j ≤ n ∧ i = .int .i64 j ∧ Hid (casS ds T = armChk (T.arms.drop j) (D.ctors.drop j)) ∧ Hid (FtSt w [.int .i64 T.k, .int .i64 T.p, .string T.n, .int .i64 T.m, .slice ka kn kc, .slice aa n ac, .int .i64 tk, .string tn, .int .i64 ti, .int .i64 th, .slice ta tl tc] wr)) (fun i _ => n - (intOf i).toNat)
        case atStart => exact ⟨0, Nat.zero_le _, rfl, HR0, HW5⟩
        case round =>
          clear HR0 HW5
          obtain ⟨j, hj, rfl, HT, HW⟩ := hrel
          obtain ⟨b0, b1, b2, b3, b4, b5, b6, b7, b8, b9, b10⟩ := bx11 HW.out.box
          by_cases hlt : j < n
          · obtain ⟨A, hA⟩ : ∃ x, T.arms[j]? = some x := ⟨_, List.getElem?_eq_getElem (by rw [← HN.out]; exact hlt)⟩
            obtain ⟨C, hC⟩ : ∃ x, D.ctors[j]? = some x := ⟨_, List.getElem?_eq_getElem (by rw [← HL2.out]; exact hlt)⟩
            have HS := Lib.hid (armChk_step hA hC)
            obtain ⟨ad, va, vc, kb, kd, ab, ae, uk, un, ui, uh, ua, ul, uc, rfl, hvv, -, q0, hq⟩ := am_at (HA.out.kept (fun _ h => h) (fun b _ hl => HW.out.low.block b hl)) hA
            have q2 := hq 2 _ (by decide) rfl
            obtain ⟨cad, fa, fc, hca, -, -, -, e2⟩ := ctor_at HCt.out hC
            subst hca
            have hji : (j : Int) < (n : Int) := by omega
            have r3 := (HW.out.low.cell (World.block_lt_of_cell? _ _ HE3.out)).trans HE3.out
            have r2 := (HW.out.low.cell (World.block_lt_of_cell? _ _ e2)).trans e2
            have HVv := Lib.hid hvv
            clear hA hC hq e2 hvv
            obtain ⟨vn, hvn⟩ : ∃ n, n = A.1.vars.length := ⟨_, rfl⟩
            rw [← hvn] at HVv q2
            have HVn := Lib.hid hvn
            clear hvn
            obtain ⟨fn, hfn⟩ : ∃ n, n = C.fields.length := ⟨_, rfl⟩
            rw [← hfn] at r2
            have HFn := Lib.hid hfn
            clear hfn
            rw [← HVn.out, ← HFn.out] at HS
            cases hq : (vn == fn) with
            | false =>
              have HR : Hid (casS ds T = (8, A.1.pos)) := by show _ = _; rw [HT.out, HS.out, hq]; rfl
              have hne : ((vn : Int) == (fn : Int)) = false := by simp at hq ⊢; omega
              have hnb : ((vn : Int) != (fn : Int)) = true := by rw [bne, hne]; rfl
              clear hq HS HT
              go_wp2_with (first
                | (go_at_call 26; refine (refFlt_any _ _ _).mono ?_; rintro e w8 ⟨rfl, hb8⟩; have HW8 := Lib.hid (HW.out.lift hb8); clear hb8)
                | (refine wpList_storeC rfl _ _ rfl _ _ [.int .i64 8, .int .i64 A.1.pos] HW8.out.res rfl rfl sizeFl rfl (one2 _ _) ?_; intro w9 hB9 hg9 hs9))
              have c0 := hB9.cell 0 _ rfl; have c1 := hB9.cell 1 _ rfl
              refine bodyPost_ret (by simp [results, Try.results28, go_sem, c0, c1]; try rfl) rfl ?_
              exact ⟨by rw [HR.out]; rfl, HW8.out.fin hg9⟩

            | true =>
              have hne : ((vn : Int) == (fn : Int)) = true := by simp at hq ⊢; omega
              have hnb : ((vn : Int) != (fn : Int)) = false := by rw [bne, hne]; rfl
              have HSr : Hid (casS ds T = if repF [] A.1.vars then (6, A.1.pos) else armChk (T.arms.drop (j + 1)) (D.ctors.drop (j + 1))) := by show _ = _; rw [HT.out, HS.out, hq]; rfl
              have HW0 : Hid (Below wr.heap.size wr wr) := Below.refl _ _
              have HP0 : Hid (repF [] A.1.vars = repF (A.1.vars.take 0) (A.1.vars.drop 0)) := rfl
              have hvc : vn ≤ vc := by
                obtain ⟨a', c', e, ⟨h1, -⟩, -⟩ := HVv.out
                simp only [Value.slice.injEq] at e
                obtain ⟨-, h2, rfl⟩ := e
                omega
              have hvb : vn ≤ 9223372036854775807 := by
                obtain ⟨a', c', e, ⟨h1, h3⟩, -⟩ := HVv.out
                simp only [Value.slice.injEq] at e
                obtain ⟨-, h2, rfl⟩ := e
                unfold maxLen at h3
                omega
              have HJ := Lib.hid (str_at HVv.out)
              have HHs : Hid (∀ V, Below wr.heap.size wr V → ∀ (k : Nat) (s : ByteArray), k ≤ vn → Calls Try.prog 25 #[.slice va k vc, .string s] V fun e w' => e = .returned (.bool (hasN (A.1.vars.take k) s)) ∧ w' = V) := fun V hV k s hk => (has_any _ s _ S' V (slG_take (HVv.out.lift' hV) (by rw [← HVn.out]; exact hk))).mono fun _ _ ⟨h1, h2⟩ => ⟨h1, h2.symm⟩
              have HQ2 := Lib.hid q2
              have HQ0 := Lib.hid q0
              generalize hwr1 : wr = wr1 at *
              clear hq HS HT
              go_wp2
              go_loopw [13] (fun i wr => ∃ k : Nat, k ≤ vn ∧ i = .int .i64 k ∧ Hid (repF [] A.1.vars = repF (A.1.vars.take k) (A.1.vars.drop k)) ∧ Hid (Below wr1.heap.size wr1 wr)) (fun i _ => vn - (intOf i).toNat)
              case atStart => exact ⟨0, Nat.zero_le _, rfl, HP0, HW0⟩
              case round =>
                clear HP0 HW0 b0 b1 b2 b3 b4 b5 b6 b7 b8 b9 b10 q0 q2 r2 r3
                obtain ⟨k, hk, rfl, HP, HY⟩ := hrel
                have HWy := Lib.hid (HW.out.lift HY.out)
                by_cases hkv : k < vn
                · obtain ⟨t, ht⟩ : ∃ x, A.1.vars[k]? = some x := ⟨_, List.getElem?_eq_getElem (by rw [← HVn.out]; exact hkv)⟩
                  obtain ⟨vad, rfl, hvc1⟩ := HJ.out k t ht
                  have q1 := (HY.out.cell (World.block_lt_of_cell? _ _ hvc1)).trans hvc1
                  have HSp := Lib.hid (repF_step ht)
                  have hki : (k : Int) < (vn : Int) := by omega
                  have hkc : k ≤ vc := by omega
                  have HHk : Hid (∀ m, Calls Try.prog 25 #[.slice (some vad) k vc, .string t] (wr.drewN m) fun e w' => e = .returned (.bool (hasN (A.1.vars.take k) t)) ∧ w' = wr.drewN m) := fun m => HHs.out _ (below_drewN HY.out m) k t hk
                  have HYd : Hid (∀ m, Below wr1.heap.size wr1 (wr.drewN m)) := fun m => below_drewN HY.out m
                  clear ht hvc1
                  cases hr : hasN (A.1.vars.take k) t with
                  | true =>
                    have HR : Hid (casS ds T = (6, A.1.pos)) := by show _ = _; rw [HSr.out, HP.out, HSp.out, hr]; rfl
                    rw [hr] at HHk
                    clear hr HSp HP
                    go_wp2
                    go_quiet ((go_at_call 25; exact Calls.quiet_of_same (HHk.out _)))
                    have HWd := Lib.hid (HW.out.lift (HYd.out nq))
                    have x5 := HWd.out.box.cell 5 _ rfl
                    have x0 := ((HYd.out nq).cell (World.block_lt_of_cell? _ _ HQ0.out)).trans HQ0.out
                    go_wp2_with (first
                      | (go_at_call 26; refine (refFlt_any _ _ _).mono ?_; rintro e w8 ⟨rfl, hb8⟩; have HW8 := Lib.hid (HWd.out.lift hb8); clear hb8)
                      | (refine wpList_storeC rfl _ _ rfl _ _ [.int .i64 6, .int .i64 A.1.pos] HW8.out.res rfl rfl sizeFl rfl (one2 _ _) ?_; intro w9 hB9 hg9 hs9))
                    have c0 := hB9.cell 0 _ rfl; have c1 := hB9.cell 1 _ rfl
                    refine bodyPost_ret (by simp [results, Try.results28, go_sem, c0, c1]; try rfl) rfl ?_
                    exact ⟨by rw [HR.out]; rfl, HW8.out.fin hg9⟩

                  | false =>
                    have HR : Hid (repF [] A.1.vars = repF (A.1.vars.take (k + 1)) (A.1.vars.drop (k + 1))) := by show _ = _; rw [HP.out, HSp.out, hr]; rfl
                    rw [hr] at HHk
                    clear hr HSp HP
                    go_wp2
                    go_quiet ((go_at_call 25; exact Calls.quiet_of_same (HHk.out _)))
                    have HYn := Lib.hid (HYd.out nq)
                    go_wp2
                    go_roundw
                    case rel => exact ⟨k + 1, hkv, by go_num, HR, HYn⟩
                    case measure => simp [intOf]; omega
                · have HR : Hid (casS ds T = armChk (T.arms.drop (j + 1)) (D.ctors.drop (j + 1))) := by
                    show _ = _
                    rw [HSr.out, HP.out, List.drop_eq_nil_of_le (by rw [← HVn.out]; omega)]; rfl
                  go_wp2
                  go_roundw
                  case rel => exact ⟨j + 1, hlt, by go_num, HR, HWy⟩
                  case measure => simp [intOf]; omega
          · have HR : Hid (casS ds T = (0, 0)) := by
              show _ = _
              rw [HT.out, List.drop_eq_nil_of_le (by rw [← HN.out]; omega)]; rfl
            go_wp2_with (refine wpList_storeC rfl _ _ rfl _ _ [.int .i64 0, .int .i64 0] HW.out.res rfl rfl sizeFl rfl (one2 _ _) ?_; intro w9 hB9 hg9 hs9)
            have c0 := hB9.cell 0 _ rfl; have c1 := hB9.cell 1 _ rfl
            refine bodyPost_ret (by simp [results, Try.results28, go_sem, c0, c1]; try rfl) rfl ?_
            exact ⟨by rw [HR.out]; rfl, HW.out.fin hg9⟩

end Go.Proofs.Ytljgpgmaceackaa
