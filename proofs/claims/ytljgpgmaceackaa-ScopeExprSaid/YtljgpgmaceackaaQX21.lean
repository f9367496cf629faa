import Derived.Test.YtljgpgmaceackaaQX20
import Derived.Test.YtljgpgmaceackaaQX19
import Derived.Deep.CutBlock
import Derived.Deep.RegionHeld3
import Derived.Deep.DeepCutAuto
/- The reference's Expr of chapter 10. -/
namespace Go.Proofs.Ytljgpgmaceackaa
open Go.RowKit Go.Maps Mth S3

theorem armChk_zero : ∀ (l : List (AH × Ex)) (m : List Ctor), (armChk l m).1 = 0 → armChk l m = (0, 0) := by
  intro l
  induction l with
  | nil => intro m _; rfl
  | cons a l ih =>
    intro m h
    cases m with
    | nil => rfl
    | cons c m =>
      simp only [armChk] at h ⊢
      split at h
      · rename_i h1
        rw [if_pos h1]
        split at h
        · cases h
        · rename_i h2; rw [if_neg h2]; exact ih m h
      · cases h
theorem casS_zero (ds : List Dat) (T : Ex) (h : (casS ds T).1 = 0) : casS ds T = (0, 0) := by
  unfold casS at h ⊢
  cases hu : armUn ds T.arms with
  | some p => rw [hu] at h; cases h
  | none =>
    rw [hu] at h
    dsimp only at h ⊢
    cases hi : armsI T.arms ds 0 with
    | none => rw [hi] at h; cases h
    | some i =>
      rw [hi] at h
      dsimp only at h ⊢
      cases hd : ds[i]? with
      | none => rfl
      | some D => rw [hd] at h; exact armChk_zero _ _ h
theorem nodS_zero (ds : List Dat) (ns : List ByteArray) (T : Ex) (h : (nodS ds ns T).1 = 0) : nodS ds ns T = (0, 0) := by
  unfold nodS at h ⊢
  split at h
  · rename_i h1
    rw [if_pos h1]
    split at h
    · rename_i h2; rw [if_pos h2]
    · cases h
  · rename_i h1
    rw [if_neg h1]
    split at h
    · rename_i h1
      rw [if_pos h1]
      split at h
      · rename_i h2; rw [if_pos h2]
      · cases h
    · rename_i h1
      rw [if_neg h1]
      split at h
      · rename_i h1
        rw [if_pos h1]
        exact casS_zero ds T h
      · rename_i h1
        rw [if_neg h1]
        split at h
        · rename_i h1
          rw [if_pos h1]
          split at h
          · rename_i h2; rw [if_pos h2]
          · rename_i h2; have h3 : frmR ds [] T.t = 0 := h; rw [h3] at h2; exact absurd rfl h2
        · rename_i h1; rw [if_neg h1]
theorem scK_zero (f : List ByteArray → Ex → Int × Int) (ns : List ByteArray) (T : Ex) (hf : ∀ ns U, (f ns U).1 = 0 → f ns U = (0, 0)) : ∀ (l : List Ex) (i : Nat), (scK f ns T l i).1 = 0 → scK f ns T l i = (0, 0) := by
  intro l
  induction l with
  | nil => intro i _; rfl
  | cons U l ih =>
    intro i h
    simp only [scK] at h ⊢
    split at h
    · rename_i h1; rw [if_pos h1]; exact ih _ h
    · rename_i h1; rw [if_neg h1]; exact hf _ _ h
theorem scE_zero (ds : List Dat) : ∀ (n : Nat) (ns : List ByteArray) (T : Ex), (scE ds n ns T).1 = 0 → scE ds n ns T = (0, 0) := by
  intro n
  induction n with
  | zero => intro ns T _; rfl
  | succ n ih =>
    intro ns T h
    simp only [scE] at h ⊢
    split at h
    · rename_i h1; rw [if_pos h1]; exact scK_zero _ _ _ ih _ _ h
    · rename_i h1; rw [if_neg h1]; exact nodS_zero ds ns T h
/-- A fault's box. -/
def FB (v : World) (b : Nat) : Prop := ∃ x y : Value, BoxC 45 v b [x, y]
theorem FB.lift {v v' : World} {b : Nat} (h : FB v b) (hb : Below v.heap.size v v') : FB v' b := by
  obtain ⟨x, y, h⟩ := h
  exact ⟨x, y, h.lift hb⟩
theorem FB.grown {v v' : World} {b : Nat} {row : Option Nat} (h : FB v b) (hg : v.grownBy v' row) (hne : row ≠ some b) : FB v' b := by
  obtain ⟨x, y, h⟩ := h
  exact ⟨x, y, h.grown hg (fun e => hne e.symm)⟩
/-- The expression, the result, the fault so far. -/
structure RxSt (w : World) (c : List Value) (e p : Int) (V : World) : Prop where
  box : BoxC 36 V w.heap.size c
  res : BoxC 45 V (w.heap.size + 1) [.int .i64 0, .int .i64 0]
  flt : BoxC 45 V (w.heap.size + 1 + 1) [.int .i64 e, .int .i64 p]
  low : Below w.heap.size w V
theorem RxSt.lift {w : World} {c : List Value} {e p : Int} {V V' : World} (H : RxSt w c e p V) (hb : Below V.heap.size V V') : RxSt w c e p V' := ⟨H.box.lift hb, H.res.lift hb, H.flt.lift hb, H.low.trans (hb.mono H.low.size)⟩
theorem RxSt.put {w : World} {c : List Value} {e p e' p' : Int} {V V' : World} (H : RxSt w c e p V) (hB : BoxC 45 V' (w.heap.size + 1 + 1) [.int .i64 e', .int .i64 p']) (hg : V.grownBy V' (some (w.heap.size + 1 + 1))) : RxSt w c e' p' V' :=
  ⟨H.box.grown hg (fun e => by have := Option.some.inj e; omega), H.res.grown hg (fun e => by have := Option.some.inj e; omega), hB, Below.grown H.low hg H.low.size (fun k hk => by have := Option.some.inj hk; omega)⟩
theorem RxSt.start (w : World) (c : List Value) : RxSt w c 0 0 (((w.alloc (.cells c.toArray 36)).alloc (.cells #[.int .i64 0, .int .i64 0] 45)).alloc (.cells #[.int .i64 0, .int .i64 0] 45)) := by
  have h := FtSt.start w c
  have hs : ((w.alloc (.cells c.toArray 36)).alloc (.cells #[.int .i64 0, .int .i64 0] 45)).heap.size = w.heap.size + 1 + 1 := by simp
  generalize ((w.alloc (.cells c.toArray 36)).alloc (.cells #[.int .i64 0, .int .i64 0] 45)) = V at *
  have hb : Below V.heap.size V (V.alloc (.cells #[.int .i64 0, .int .i64 0] 45)) := (Below.refl _ V).alloc (Nat.le_refl _) _
  have hB := BoxC.made 45 V [.int .i64 0, .int .i64 0]
  rw [hs] at hB
  have h' := h.lift hb
  exact ⟨h'.box, h'.res, hB, h'.low⟩
set_option maxRecDepth 100000 in
set_option maxHeartbeats 16000000 in
theorem refXpr_any (ds : List Dat) : ∀ (n : Nat) (T : Ex) (m : Nat), fitV n m T = true → ∀ (ns : List ByteArray), ns.length + m ≤ 1000000 → ∀ (dv nv : Value) (S S' S'' : Nat → Prop) (c : List Value) (w : World),
    SlG DatE w S ds dv → SlG StrE w S'' ns nv → RepE w S' T c →
    Calls Try.prog 12 #[dv, nv, .agg c.toArray] w fun e w' => e = .returned (ftV (scE ds n ns T)) ∧ Below w.heap.size w w' := by
  intro n
  induction n with
  | zero => intro T m h; cases h
  | succ n ih =>
    intro T m hfit ns hns dv nv S S' S'' c w hd hnm h
    have hfo := fitV_open hfit
    have HFo := Lib.hid hfo
    have HIh := Lib.hid ih
    have HD := Lib.hid hd.bound
    have HNm := Lib.hid hnm.bound
    have HRp := Lib.hid h.bound
    have HCs : Hid (∀ V, Below w.heap.size w V → Calls Try.prog 28 #[dv, .agg c.toArray] V fun e w' => e = .returned (ftV (casS ds T)) ∧ Below V.heap.size V w') := fun V hV => refCases_any ds T hfo.arms dv S S' c V (hd.lift' hV) (h.lift hV)
    have HHs : Hid (∀ V, Below w.heap.size w V → Calls Try.prog 25 #[nv, .string T.n] V fun e w' => e = .returned (.bool (hasN ns T.n)) ∧ V = w') := fun V hV => has_any ns T.n nv S'' V (hnm.lift' hV)
    have HFi : Hid (∀ V, Below w.heap.size w V → Calls Try.prog 27 #[dv, .string T.n] V fun e w' => e = .returned (fndV (fnd ds T.n)) ∧ V = w') := fun V hV => refFind_any ds T.n _ S V (hd.lift' hV)
    have HCh : Hid (∀ V, Below w.heap.size w V → w.heap.size + 3 ≤ V.heap.size → Calls Try.prog 17 #[.agg c.toArray] V fun e w' => ∃ a cp, e = .returned (.slice a (chN T).length cp) ∧ RowG ExE w' (w.heap.size + 3) (fun b => b < w.heap.size) (.slice a (chN T).length cp) (chN T) ∧ Below V.heap.size V w') := fun V hV hl => (refChildren_any T hfo.kids hfo.arms (fun b => S' b ∧ b < w.heap.size) c V (HRp.out.lift hV)).mono fun e w' ⟨a, cp, h1, h2, h3⟩ => ⟨a, cp, h1, rowG_weak (h2.imp (fun b hb => hb.1.2)) (by omega), h3⟩
    obtain ⟨ka, kc, aa, ac, tk, tn, ti, th, ta, tl, tc, rfl⟩ := h.form
    have HFm : Hid (∀ V, Below w.heap.size w V → Calls Try.prog 29 #[dv, .agg #[.int .i64 tk, .string tn, .int .i64 ti, .int .i64 th, .slice ta tl tc], .slice none 0 0] V fun e w' => e = .returned (.int .i64 (frmR ds [] T.t)) ∧ Below V.heap.size V w') := fun V hV => refFormed_any ds [] T.t dv _ _ S' (fun _ => True) S V (hd.lift' hV) (slG_nil _ _ _) (h.typOf.lift hV)
    have HF := Lib.hid (RxSt.start w [.int .i64 T.k, .int .i64 T.p, .string T.n, .int .i64 T.m, .slice ka T.kids.length kc, .slice aa T.arms.length ac, .int .i64 tk, .string tn, .int .i64 ti, .int .i64 th, .slice ta tl tc])
    have hlen : (chN T).length ≤ 200000 := by unfold chN; rw [List.length_append, List.length_map]; have := hfo.kids; have := hfo.arms; omega
    clear h hd hnm ih hfit hfo
    obtain ⟨mc, hmc⟩ : ∃ k, k = (chN T).length := ⟨_, rfl⟩
    rw [← hmc] at HCh hlen
    have HMc := Lib.hid hmc
    clear hmc
    obtain ⟨na, nc, rfl, hnl⟩ := slice_form HNm.out
    unfold maxLen at hnl
    generalize T.kids.length = kn at *
    generalize T.arms.length = an at *
    simp only [List.toArray] at HF HCs HCh ⊢
    obtain ⟨nn, hnn⟩ : ∃ k, k = ns.length := ⟨_, rfl⟩
    rw [← hnn] at HHs HNm hnl ⊢
    have HNn := Lib.hid hnn
    clear hnn
    go_enter Try.func12, Try.ntmps12
    go_upto_block 0 with fail
    generalize (((w.alloc (.cells #[.int .i64 T.k, .int .i64 T.p, .string T.n, .int .i64 T.m, .slice ka kn kc, .slice aa an ac, .int .i64 tk, .string tn, .int .i64 ti, .int .i64 th, .slice ta tl tc] 36)).alloc (.cells #[.int .i64 0, .int .i64 0] 45)).alloc (.cells #[.int .i64 0, .int .i64 0] 45)) = V at *
    obtain ⟨b0, b1, b2, b3, b4, b5, b6, b7, b8, b9, b10⟩ := bx11 HF.out.box
    go_cut [] (fun wx => Hid (RxSt w [.int .i64 T.k, .int .i64 T.p, .string T.n, .int .i64 T.m, .slice ka kn kc, .slice aa an ac, .int .i64 tk, .string tn, .int .i64 ti, .int .i64 th, .slice ta tl tc] (nodS ds ns T).1 (nodS ds ns T).2 wx))
    case first =>
      clear HCh HIh
      cases h1 : (T.k == 1) with
      | true =>
        clear HCs HFi HFm
        cases hq : hasN ns T.n with
        | true =>
          have HR : Hid (nodS ds ns T = (0, 0)) := by show _ = _; unfold nodS; rw [if_pos h1, hq]; rfl
          rw [hq] at HHs
          clear hq
          go_wp2_with (go_at_call 25; refine (HHs.out _ HF.out.low).mono ?_; rintro e w1 ⟨rfl, rfl⟩)
          go_meet
          rw [HR.out]
          exact HF
        | false =>
          have HR : Hid (nodS ds ns T = (9, T.p)) := by show _ = _; unfold nodS; rw [if_pos h1, hq]; rfl
          rw [hq] at HHs
          clear hq
          go_wp2_with (first
            | (go_at_call 25; refine (HHs.out _ HF.out.low).mono ?_; rintro e w1 ⟨rfl, rfl⟩)
            | (go_at_call 26; refine (refFlt_any _ _ _).mono ?_; rintro e w8 ⟨rfl, hb8⟩; have HW8 := Lib.hid (HF.out.lift hb8); clear hb8)
            | (refine wpList_storeC rfl _ _ rfl _ _ [.int .i64 9, .int .i64 T.p] HW8.out.flt rfl rfl sizeFl rfl (one2 _ _) ?_; intro w9 hB9 hg9 hs9))
          go_meet
          rw [HR.out]
          exact HW8.out.put hB9 hg9
      | false =>
      cases h2 : (T.k == 2) with
      | true =>
        clear HCs HHs HFm
        cases hq : fnd ds T.n with
        | some pq =>
          obtain ⟨pi, pk⟩ := pq
          have HR : Hid (nodS ds ns T = (0, 0)) := by show _ = _; unfold nodS; rw [if_neg (by rw [h1]; simp), if_pos h2, hq]; rfl
          rw [hq] at HFi
          unfold fndV at HFi
          clear hq
          go_wp2_with (go_at_call 27; refine (HFi.out _ HF.out.low).mono ?_; rintro e w1 ⟨rfl, rfl⟩)
          go_meet
          rw [HR.out]
          exact HF
        | none =>
          have HR : Hid (nodS ds ns T = (9, T.p)) := by show _ = _; unfold nodS; rw [if_neg (by rw [h1]; simp), if_pos h2, hq]; rfl
          rw [hq] at HFi
          unfold fndV at HFi
          clear hq
          go_wp2_with (first
            | (go_at_call 27; refine (HFi.out _ HF.out.low).mono ?_; rintro e w1 ⟨rfl, rfl⟩)
            | (go_at_call 26; refine (refFlt_any _ _ _).mono ?_; rintro e w8 ⟨rfl, hb8⟩; have HW8 := Lib.hid (HF.out.lift hb8); clear hb8)
            | (refine wpList_storeC rfl _ _ rfl _ _ [.int .i64 9, .int .i64 T.p] HW8.out.flt rfl rfl sizeFl rfl (one2 _ _) ?_; intro w9 hB9 hg9 hs9))
          go_meet
          rw [HR.out]
          exact HW8.out.put hB9 hg9
      | false =>
      cases h8 : (T.k == 8) with
      | true =>
        have HR : Hid (nodS ds ns T = casS ds T) := by show _ = _; unfold nodS; rw [if_neg (by rw [h1]; simp), if_neg (by rw [h2]; simp), if_pos h8]
        clear HFi HHs HFm
        unfold ftV at HCs
        generalize casS ds T = q at *
        obtain ⟨qe, qp⟩ := q
        dsimp only at HCs
        go_wp2_with (first
          | (go_at_call 28; refine (HCs.out _ HF.out.low).mono ?_; rintro e w1 ⟨rfl, hb1⟩; have HW8 := Lib.hid (HF.out.lift hb1); clear hb1 b0 b1 b2 b3 b4 b5 b6 b7 b8 b9 b10)
          | (refine wpList_storeC rfl _ _ rfl _ _ [.int .i64 qe, .int .i64 qp] HW8.out.flt rfl rfl sizeFl rfl (one2 _ _) ?_; intro w9 hB9 hg9 hs9))
        go_meet
        rw [HR.out]
        exact HW8.out.put hB9 hg9
      | false =>
      cases h9 : (T.k == 9) with
      | true =>
        clear HFi HHs HCs
        cases hq : (frmR ds [] T.t == 0) with
        | true =>
          have HR : Hid (nodS ds ns T = (0, 0)) := by show _ = _; unfold nodS; rw [if_neg (by rw [h1]; simp), if_neg (by rw [h2]; simp), if_neg (by rw [h8]; simp), if_pos h9, hq]; rfl
          have e0 : frmR ds [] T.t = 0 := by simpa using hq
          rw [e0] at HFm
          clear hq e0
          go_wp2_with (go_at_call 29; refine (HFm.out _ HF.out.low).mono ?_; rintro e w1 ⟨rfl, hb1⟩; have HW8 := Lib.hid (HF.out.lift hb1); clear hb1 b0 b1 b2 b3 b4 b5 b6 b7 b8 b9 b10)
          go_meet
          rw [HR.out]
          exact HW8
        | false =>
          have HR : Hid (nodS ds ns T = (frmR ds [] T.t, T.p)) := by show _ = _; unfold nodS; rw [if_neg (by rw [h1]; simp), if_neg (by rw [h2]; simp), if_neg (by rw [h8]; simp), if_pos h9, hq]; rfl
          generalize frmR ds [] T.t = fe at *
          have hne : (fe != 0) = true := by rw [bne, hq]; rfl
          clear hq
          go_wp2_with (first
            | (go_at_call 29; refine (HFm.out _ HF.out.low).mono ?_; rintro e w1 ⟨rfl, hb1⟩; have HW7 := Lib.hid (HF.out.lift hb1); obtain ⟨-, d1, -⟩ := bx11 HW7.out.box; clear hb1 b0 b1 b2 b3 b4 b5 b6 b7 b8 b9 b10)
            | (go_at_call 26; refine (refFlt_any _ _ _).mono ?_; rintro e w8 ⟨rfl, hb8⟩; have HW8 := Lib.hid (HW7.out.lift hb8); clear hb8)
            | (refine wpList_storeC rfl _ _ rfl _ _ [.int .i64 fe, .int .i64 T.p] HW8.out.flt rfl rfl sizeFl rfl (one2 _ _) ?_; intro w9 hB9 hg9 hs9))
          go_meet
          rw [HR.out]
          exact HW8.out.put hB9 hg9
      | false =>
        have HR : Hid (nodS ds ns T = (0, 0)) := by show _ = _; unfold nodS; rw [h1, h2, h8, h9]; rfl
        clear HFi HHs HCs HFm
        go_wp2
        go_meet
        rw [HR.out]
        exact HF
    case rest =>
      have HC := hcut
      have hz0 := nodS_zero ds ns T
      clear hcut HCs HHs HFi HFm HF b0 b1 b2 b3 b4 b5 b6 b7 b8 b9 b10
      generalize hq : nodS ds ns T = q at *
      obtain ⟨qe, qp⟩ := q
      have HR0 : Hid (scE ds (n + 1) ns T = if qe == 0 then scK (scE ds n) ns T ((chN T).drop 0) 0 else (qe, qp)) := by show _ = _; simp only [scE]; rw [hq]; rfl
      have HZ0 : Hid (qe = 0 → qp = 0) := fun e => by have := hz0 e; simp only [Prod.mk.injEq] at this; exact this.2
      clear hz0 hq
      dsimp only at HC
      obtain ⟨b0, b1, b2, b3, b4, b5, b6, b7, b8, b9, b10⟩ := bx11 HC.out.box
      have hwc : w.heap.size + 3 ≤ wc.heap.size := HC.out.flt.lt
      go_wp2_with (go_at_call 17; refine (HCh.out _ HC.out.low hwc).mono ?_; rintro e w3 ⟨ca, cp, rfl, hrow, hb3⟩; have HC3 := Lib.hid (HC.out.lift hb3); have HRow := Lib.hid hrow; clear hb3 hrow b0 b1 b2 b3 b4 b5 b6 b7 b8 b9 b10)
      clear HC HCh hwc
      go_loopw [13] (fun i wr => ∃ (j : Nat) (e p : Int), j ≤ mc ∧ i = .int .i64 j ∧ Hid (scE ds (n + 1) ns T = if e == 0 then scK (scE ds n) ns T ((chN T).drop j) j else (e, p)) ∧ Hid (e = 0 → p = 0) ∧ Hid (RxSt w [.int .i64 T.k, .int .i64 T.p, .string T.n, .int .i64 T.m, .slice ka kn kc, .slice aa an ac, .int .i64 tk, .string tn, .int .i64 ti, .int .i64 th, .slice ta tl tc] e p wr) ∧ Hid (RowG ExE wr (w.heap.size + 3) (fun b => b < w.heap.size) (.slice ca mc cp) (chN T))) (fun i _ => mc - (intOf i).toNat)
      case atStart => exact ⟨0, qe, qp, Nat.zero_le _, rfl, HR0, HZ0, HC3, HRow⟩
      case round =>
        clear HR0 HZ0 HC3 HRow
        obtain ⟨j, fe, fp, hj, rfl, HT, HZ, HW, HRw⟩ := hrel
        have y0 := HW.out.flt.cell 0 _ rfl
        have y1 := HW.out.flt.cell 1 _ rfl
        by_cases hlt : j < mc
        · have hji : (j : Int) < (mc : Int) := by omega
          cases hz : (fe == 0) with
          | false =>
            have HR : Hid (scE ds (n + 1) ns T = (fe, fp)) := by show _ = _; rw [HT.out, hz]; rfl
            clear HT
            go_wp2_with (refine wpList_storeC rfl _ _ rfl _ _ [.int .i64 fe, .int .i64 fp] HW.out.res rfl rfl sizeFl rfl (one2 _ _) ?_; intro w9 hB9 hg9 hs9)
            have c0 := hB9.cell 0 _ rfl; have c1 := hB9.cell 1 _ rfl
            refine bodyPost_ret (by simp [results, Try.results12, go_sem, c0, c1]; try rfl) rfl ?_
            exact ⟨by rw [HR.out]; rfl, Below.grown HW.out.low hg9 HW.out.low.size (fun k hk => by have := Option.some.inj hk; omega)⟩
          | true =>
            have e0 : fe = 0 := by simpa using hz
            have e1 : fp = 0 := HZ.out e0
            have HT1 : Hid (scE ds (n + 1) ns T = scK (scE ds n) ns T ((chN T).drop j) j) := by show _ = _; rw [HT.out, hz]; rfl
            subst e0 e1
            clear HT hz HZ
            obtain ⟨U, hU⟩ : ∃ x, (chN T)[j]? = some x := ⟨_, List.getElem?_eq_getElem (by rw [← HMc.out]; exact hlt)⟩
            have HS := Lib.hid (scK_step (f := scE ds n) (ns := ns) (T := T) hU)
            obtain ⟨hbl, hbs, hfu⟩ := HFo.out.all j U hU
            have hbn : BnOk T j := by
              intro e
              have h1 := HFo.out.one e
              have h2 := (List.getElem?_eq_some_iff.1 hU).1
              unfold chN at h2
              rw [List.length_append, List.length_map, h1] at h2
              exact ⟨h1, by omega⟩
            obtain ⟨ad, kb, kd, ab, ae, uk, un, ui, uh, ua, ul, uc, rfl, hru, q0, q1, q2, q3, q4, q5, q6, q7, q8, q9, q10⟩ := rowE_at HRw.out hU
            have hjm : j ≤ 1000000 := by omega
            have HRu := Lib.hid hru
            have HFu := Lib.hid hfu
            have hne : some (ad.add (j * 11)).block ≠ some (w.heap.size + 1 + 1) := by
              intro e
              have h1 := (HRw.out.lt _ rfl).1
              rw [add_block] at e
              have := Option.some.inj e
              omega
            have HLb : Hid (ns.length + (bnN T j).length ≤ 1000000) := by show _ ≤ _; omega
            have HLn : Hid (([] : List ByteArray).length + ns.length ≤ 1000000) := by show _ ≤ _; simp only [List.length_nil]; omega
            have HPm : Hid ((ns ++ bnN T j).length + (m - (bnN T j).length) ≤ 1000000) := by show _ ≤ _; rw [List.length_append]; omega
            obtain ⟨re, rp, hre⟩ : ∃ re rp, scE ds n (ns ++ bnN T j) U = (re, rp) := ⟨_, _, rfl⟩
            have HRe := Lib.hid hre
            have HZe : Hid (re = 0 → rp = 0) := fun e => by
              have := scE_zero ds n (ns ++ bnN T j) U
              rw [hre] at this
              have := this e
              simp only [Prod.mk.injEq] at this
              exact this.2
            rw [hre] at HS
            obtain ⟨b0, b1, b2, b3, b4, b5, b6, b7, b8, b9, b10⟩ := bx11 HW.out.box
            go_upto_region 20 with fail
            have hS0 : ∀ v, wr.grownBy v (some (w.heap.size + 1 + 1)) → FB v (w.heap.size + 1 + 1) → ((fun v => v.cell? ⟨w.heap.size, 0, none⟩ = some (.int .i64 T.k) ∧ v.cell? ⟨w.heap.size, 1, none⟩ = some (.int .i64 T.p) ∧ v.cell? ⟨w.heap.size, 2, none⟩ = some (.string T.n) ∧ v.cell? ⟨w.heap.size, 3, none⟩ = some (.int .i64 T.m) ∧ v.cell? ⟨w.heap.size, 4, none⟩ = some (.slice ka kn kc) ∧ v.cell? ⟨w.heap.size, 5, none⟩ = some (.slice aa an ac) ∧ v.cell? ⟨w.heap.size, 6, none⟩ = some (.int .i64 tk) ∧ v.cell? ⟨w.heap.size, 7, none⟩ = some (.string tn) ∧ v.cell? ⟨w.heap.size, 8, none⟩ = some (.int .i64 ti) ∧ v.cell? ⟨w.heap.size, 9, none⟩ = some (.int .i64 th) ∧ v.cell? ⟨w.heap.size, 10, none⟩ = some (.slice ta tl tc) ∧ v.cell? (ad.add (j * 11)) = some (.int .i64 U.k) ∧ v.cell? ⟨(ad.add (j * 11)).block, (ad.add (j * 11)).off + 1, none⟩ = some (.int .i64 U.p) ∧ v.cell? ⟨(ad.add (j * 11)).block, (ad.add (j * 11)).off + 2, none⟩ = some (.string U.n) ∧ v.cell? ⟨(ad.add (j * 11)).block, (ad.add (j * 11)).off + 3, none⟩ = some (.int .i64 U.m) ∧ v.cell? ⟨(ad.add (j * 11)).block, (ad.add (j * 11)).off + 4, none⟩ = some (.slice kb U.kids.length kd) ∧ v.cell? ⟨(ad.add (j * 11)).block, (ad.add (j * 11)).off + 5, none⟩ = some (.slice ab U.arms.length ae) ∧ v.cell? ⟨(ad.add (j * 11)).block, (ad.add (j * 11)).off + 6, none⟩ = some (.int .i64 uk) ∧ v.cell? ⟨(ad.add (j * 11)).block, (ad.add (j * 11)).off + 7, none⟩ = some (.string un) ∧ v.cell? ⟨(ad.add (j * 11)).block, (ad.add (j * 11)).off + 8, none⟩ = some (.int .i64 ui) ∧ v.cell? ⟨(ad.add (j * 11)).block, (ad.add (j * 11)).off + 9, none⟩ = some (.int .i64 uh) ∧ v.cell? ⟨(ad.add (j * 11)).block, (ad.add (j * 11)).off + 10, none⟩ = some (.slice ua ul uc) ∧ wr.grownBy v (some (w.heap.size + 1 + 1)) ∧ FB v (w.heap.size + 1 + 1)) v) := fun v hv hf => by
              have hB := HW.out.box.grown hv (fun e => by have := Option.some.inj e; omega)
              obtain ⟨b0, b1, b2, b3, b4, b5, b6, b7, b8, b9, b10⟩ := bx11 hB
              have k : ∀ {a : Addr} {u : Value}, wr.cell? a = some u → some a.block ≠ some (w.heap.size + 1 + 1) → v.cell? a = some u := fun h hn => (hv.cell_far _ (World.block_lt_of_cell? _ _ h) hn).trans h
              exact ⟨b0, b1, b2, b3, b4, b5, b6, b7, b8, b9, b10, k q0 hne, k q1 hne, k q2 hne, k q3 hne, k q4 hne, k q5 hne, k q6 hne, k q7 hne, k q8 hne, k q9 hne, k q10 hne, hv, hf⟩
            clear hU hru hfu hre hbl hbs q0 q1 q2 q3 q4 q5 q6 q7 q8 q9 q10 b0 b1 b2 b3 b4 b5 b6 b7 b8 b9 b10 y0 y1
            generalize U.kids.length = k3 at *
            generalize U.arms.length = k4 at *
            have HS0 := Lib.hid hS0
            clear hS0
            have HFb : Hid (FB wr (w.heap.size + 1 + 1)) := ⟨_, _, HW.out.flt⟩
            have HNs : Hid (∀ V, wr.grownBy V (some (w.heap.size + 1 + 1)) → SlG StrE V (fun _ => True) ns (.slice na nn nc)) := fun V hV => HNm.out.kept (fun _ _ => trivial) (fun b hb hl => (hV.block b (Nat.lt_of_lt_of_le hb.2 HW.out.low.size) (fun e => by have := Option.some.inj e; have := hb.2; omega)).trans (HW.out.low.block b hb.2))
            have HBd : Hid (∀ V, wr.grownBy V (some (w.heap.size + 1 + 1)) → Calls Try.prog 30 #[.agg #[.int .i64 T.k, .int .i64 T.p, .string T.n, .int .i64 T.m, .slice ka kn kc, .slice aa an ac, .int .i64 tk, .string tn, .int .i64 ti, .int .i64 th, .slice ta tl tc], .int .i64 j] V fun e w' => ∃ u, e = .returned u ∧ SlG StrE w' (fun _ => True) (bnN T j) u ∧ Below V.heap.size V w') := fun V hV => bound10_any T j hbn _ _ V hjm (HRp.out.kept (fun _ h => h) (fun b hb hl => (hV.block b (Nat.lt_of_lt_of_le hb.2 HW.out.low.size) (fun e => by have := Option.some.inj e; have := hb.2; omega)).trans (HW.out.low.block b hb.2)))
            have HXp : Hid (∀ (V : World) (a : Option Addr) (k c : Nat), wr.grownBy V (some (w.heap.size + 1 + 1)) → SlG StrE V (fun _ => True) (ns ++ bnN T j) (.slice a k c) → Calls Try.prog 12 #[dv, .slice a k c, .agg #[.int .i64 U.k, .int .i64 U.p, .string U.n, .int .i64 U.m, .slice kb k3 kd, .slice ab k4 ae, .int .i64 uk, .string un, .int .i64 ui, .int .i64 uh, .slice ua ul uc]] V fun e w' => e = .returned (.agg #[.int .i64 re, .int .i64 rp]) ∧ Below V.heap.size V w') := fun V a k c hV hn => by
              have hold : ∀ b, b < w.heap.size → V.heap[b]? = w.heap[b]? := fun b hb => (hV.block b (Nat.lt_of_lt_of_le hb HW.out.low.size) (fun e => by have := Option.some.inj e; omega)).trans (HW.out.low.block b hb)
              have := HIh.out U (m - (bnN T j).length) HFu.out (ns ++ bnN T j) HPm.out dv (.slice a k c) (fun b => S b ∧ b < w.heap.size) (fun b => b < w.heap.size) (fun _ => True) _ V (HD.out.kept (fun _ h => h) (fun b hb hl => hold b hb.2)) hn (HRu.out.kept (fun _ h => h) (fun b hb hl => hV.block b hl (fun e => by have := Option.some.inj e; omega)))
              rw [HRe.out] at this
              exact this
            have tok : True := trivial
            go_region_held3 (fun v => v.cell? ⟨w.heap.size, 0, none⟩ = some (.int .i64 T.k) ∧ v.cell? ⟨w.heap.size, 1, none⟩ = some (.int .i64 T.p) ∧ v.cell? ⟨w.heap.size, 2, none⟩ = some (.string T.n) ∧ v.cell? ⟨w.heap.size, 3, none⟩ = some (.int .i64 T.m) ∧ v.cell? ⟨w.heap.size, 4, none⟩ = some (.slice ka kn kc) ∧ v.cell? ⟨w.heap.size, 5, none⟩ = some (.slice aa an ac) ∧ v.cell? ⟨w.heap.size, 6, none⟩ = some (.int .i64 tk) ∧ v.cell? ⟨w.heap.size, 7, none⟩ = some (.string tn) ∧ v.cell? ⟨w.heap.size, 8, none⟩ = some (.int .i64 ti) ∧ v.cell? ⟨w.heap.size, 9, none⟩ = some (.int .i64 th) ∧ v.cell? ⟨w.heap.size, 10, none⟩ = some (.slice ta tl tc) ∧ v.cell? (ad.add (j * 11)) = some (.int .i64 U.k) ∧ v.cell? ⟨(ad.add (j * 11)).block, (ad.add (j * 11)).off + 1, none⟩ = some (.int .i64 U.p) ∧ v.cell? ⟨(ad.add (j * 11)).block, (ad.add (j * 11)).off + 2, none⟩ = some (.string U.n) ∧ v.cell? ⟨(ad.add (j * 11)).block, (ad.add (j * 11)).off + 3, none⟩ = some (.int .i64 U.m) ∧ v.cell? ⟨(ad.add (j * 11)).block, (ad.add (j * 11)).off + 4, none⟩ = some (.slice kb k3 kd) ∧ v.cell? ⟨(ad.add (j * 11)).block, (ad.add (j * 11)).off + 5, none⟩ = some (.slice ab k4 ae) ∧ v.cell? ⟨(ad.add (j * 11)).block, (ad.add (j * 11)).off + 6, none⟩ = some (.int .i64 uk) ∧ v.cell? ⟨(ad.add (j * 11)).block, (ad.add (j * 11)).off + 7, none⟩ = some (.string un) ∧ v.cell? ⟨(ad.add (j * 11)).block, (ad.add (j * 11)).off + 8, none⟩ = some (.int .i64 ui) ∧ v.cell? ⟨(ad.add (j * 11)).block, (ad.add (j * 11)).off + 9, none⟩ = some (.int .i64 uh) ∧ v.cell? ⟨(ad.add (j * 11)).block, (ad.add (j * 11)).off + 10, none⟩ = some (.slice ua ul uc) ∧ wr.grownBy v (some (w.heap.size + 1 + 1)) ∧ FB v (w.heap.size + 1 + 1))
              (first
                | exact HS0.out _ (grown_of_below (Below.refl _ wr).drew _) (HFb.out.lift (Below.refl _ wr).drew)
                | exact HS0.out _ HGx.out HFx.out
                | exact HS0.out _ (grown_trans HGx.out (set2 HX7.out _ _).2) ⟨_, _, (set2 HX7.out _ _).1⟩)
              (first
                | ((have _t := tok); (refine step_pushStr (by rfl) _ _ (by rfl) wr.heap.size (.slice none 0 0) [] rfl (rowG_nil _ _ _ _) (.slice na nn nc) rfl ns (fun _ => True) ?_ HLn.out ?_ ?_); (go_split_ands; exact HNs.out _ (by assumption)); (go_split_ands; exact World.grownBy.size (row := some (w.heap.size + 1 + 1)) (by assumption)); (go_split_ands); (intro a4 n4 c4 w4 hn4 hrow4 hg4); (rw [List.nil_append] at hrow4); (have HGx : Hid (wr.grownBy w4 (some (w.heap.size + 1 + 1))) := grown_trans (by assumption) (World.grownBy.but hg4 _)); (have HFx : Hid (FB w4 (w.heap.size + 1 + 1)) := FB.grown (by assumption) hg4 (by simp [Value.ownBlock])); (have HR4 := Lib.hid hrow4); clear tok hg4 hrow4 hn4)
                | (go_at_call 30; (with_reducible refine (HBd.out _ ?_).mono ?_); (go_split_ands; assumption); rintro e w5 ⟨u, rfl, hs5, hb⟩; have HU := Lib.hid hs5; have HR5 := Lib.hid (HR4.out.lift hb); have HGy := Lib.hid (grown_trans HGx.out (grown_of_below hb (some (w.heap.size + 1 + 1)))); have HFy := Lib.hid (HFx.out.lift hb); clear HGx HFx; have HGx := HGy; have HFx := HFy; clear hs5)
                | ((refine step_pushStr (by rfl) _ _ (by rfl) wr.heap.size (.slice a4 n4 c4) ns rfl HR5.out u rfl (bnN T j) (fun _ => True) HU.out HLb.out ?_ ?_); (exact HGx.out.size); (intro a6 n6 c6 w6 hn6 hrow6 hg6); (have HGz := Lib.hid (HGx.out.andThen hg6 (fun j e => .inl (HR5.out.lt j e).1))); (have HFz := Lib.hid (FB.grown HFx.out hg6 (fun e => by have h1 := (HR5.out.lt _ e).1; have h2 := HW.out.flt.lt; omega))); (have HR6 := Lib.hid (hrow6.slG (S' := fun _ => True) (fun _ _ => trivial) (fun _ _ => trivial))); clear HGx HFx; have HGx := HGz; have HFx := HFz; clear hrow6 hg6 hn6)
                | (go_at_call 12; (with_reducible refine (HXp.out _ _ _ _ HGx.out HR6.out).mono ?_); rintro e w7 ⟨rfl, hb7⟩; have HG7 := Lib.hid (grown_trans HGx.out (grown_of_below hb7 (some (w.heap.size + 1 + 1)))); have HF7 := Lib.hid (HFx.out.lift hb7); clear HGx HFx; have HGx := HG7; have HFx := HF7; obtain ⟨x7, y7, hx7⟩ := HF7.out; have HX7 := Lib.hid hx7; have f0 := hx7.free 0; have f1 := hx7.free 1; have z0 := hx7.cell 0 _ rfl; have z1 := hx7.cell 1 _ rfl; clear hx7))
            all_goals
              obtain ⟨hB8, hg8⟩ := set2 HX7.out (.int .i64 re) (.int .i64 rp)
              have hgT := grown_trans HGx.out hg8
              have HW8 := Lib.hid (HW.out.put hB8 hgT)
              have HRw8 := Lib.hid (HRw.out.kept hgT (HRw.out.off (by omega)) (fun b hb e => by have := Option.some.inj e; omega))
              have HT2 : Hid (scE ds (n + 1) ns T = if re == 0 then scK (scE ds n) ns T ((chN T).drop (j + 1)) (j + 1) else (re, rp)) := by show _ = _; rw [HT1.out, HS.out]
              clear hB8 hg8 hgT
              go_wp2
              go_roundw
              case rel => exact ⟨j + 1, re, rp, hlt, by go_num, HT2, HZe, HW8, HRw8⟩
              case measure => simp [intOf]; omega
        · have HR : Hid (scE ds (n + 1) ns T = (fe, fp)) := by
            show _ = _
            rw [HT.out, List.drop_eq_nil_of_le (by rw [← HMc.out]; omega)]
            split
            · rename_i h1
              have e0 : fe = 0 := by simpa using h1
              have e1 := HZ.out e0
              subst e0 e1
              rfl
            · rfl
          clear HT
          go_wp2_with (refine wpList_storeC rfl _ _ rfl _ _ [.int .i64 fe, .int .i64 fp] HW.out.res rfl rfl sizeFl rfl (one2 _ _) ?_; intro w9 hB9 hg9 hs9)
          have c0 := hB9.cell 0 _ rfl; have c1 := hB9.cell 1 _ rfl
          refine bodyPost_ret (by simp [results, Try.results12, go_sem, c0, c1]; try rfl) rfl ?_
          exact ⟨by rw [HR.out]; rfl, Below.grown HW.out.low hg9 HW.out.low.size (fun k hk => by have := Option.some.inj hk; omega)⟩
end Go.Proofs.Ytljgpgmaceackaa
