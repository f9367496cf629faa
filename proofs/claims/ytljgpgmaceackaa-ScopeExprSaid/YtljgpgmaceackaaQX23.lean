import Derived.Test.YtljgpgmaceackaaQX11
import Derived.Test.YtljgpgmaceackaaQX04
/- The reference's Children, where the arms' row is another's: what it gives leads nowhere into that row. -/
namespace Go.Proofs.Ytljgpgmaceackaa
open Go.RowKit Go.Maps Mth S3

set_option maxRecDepth 100000 in
set_option maxHeartbeats 6400000 in
theorem refChildrenX_any (T : Ex) (hkl : T.kids.length ≤ 100000) (hal : T.arms.length ≤ 100000) (S : Nat → Prop) (ka aa ta : Option Addr) (kc ac tl tc : Nat) (tk ti th : Int) (tn : ByteArray) (w : World) (hk : SlG ExE w S T.kids (.slice ka T.kids.length kc))
    (ha : ∀ (j : Nat) (A : AH × Ex), T.arms[j]? = some A → ∃ ad cc, aa = some ad ∧ ad.block < w.heap.size ∧ (∀ (m : Nat) (u : Value), cc[m]? = some u → w.cell? (ad.add (j * 14 + m)) = some u) ∧ AmE.rep w S A cc) :
    Calls Try.prog 17 #[.agg #[.int .i64 T.k, .int .i64 T.p, .string T.n, .int .i64 T.m, .slice ka T.kids.length kc, .slice aa T.arms.length ac, .int .i64 tk, .string tn, .int .i64 ti, .int .i64 th, .slice ta tl tc]] w fun e w' => ∃ a cp, e = .returned (.slice a (chN T).length cp) ∧ RowG ExE w' (w.heap.size + 1) (fun b => S b ∧ b < w.heap.size) (.slice a (chN T).length cp) (chN T) ∧ Below w.heap.size w w' := by
  have hba : Below w.heap.size w (w.alloc (.cells #[.int .i64 T.k, .int .i64 T.p, .string T.n, .int .i64 T.m, .slice ka T.kids.length kc, .slice aa T.arms.length ac, .int .i64 tk, .string tn, .int .i64 ti, .int .i64 th, .slice ta tl tc] 36)) := (Below.refl _ w).alloc (Nat.le_refl _) _
  have HB0 := Lib.hid (BoxC.made 36 w [.int .i64 T.k, .int .i64 T.p, .string T.n, .int .i64 T.m, .slice ka T.kids.length kc, .slice aa T.arms.length ac, .int .i64 tk, .string tn, .int .i64 ti, .int .i64 th, .slice ta tl tc])
  have HK := Lib.hid (hk.bound.kept (fun _ h => h) (fun b _ hl => hba.block b hl))
  have HA := Lib.hid ha
  have HBa := Lib.hid hba
  have hsz : (w.alloc (.cells #[.int .i64 T.k, .int .i64 T.p, .string T.n, .int .i64 T.m, .slice ka T.kids.length kc, .slice aa T.arms.length ac, .int .i64 tk, .string tn, .int .i64 ti, .int .i64 th, .slice ta tl tc] 36)).heap.size = w.heap.size + 1 := by simp
  have HSz := Lib.hid hsz
  obtain ⟨n, hn⟩ : ∃ n, n = T.arms.length := ⟨_, rfl⟩
  have HN := Lib.hid hn
  rw [← hn] at hal HB0 HK HBa HSz ⊢
  clear hk ha hba hn hsz
  simp only [List.toArray] at HB0 ⊢
  go_enter Try.func17, Try.ntmps17
  go_upto_region 1 with fail
  generalize (w.alloc (.cells #[.int .i64 T.k, .int .i64 T.p, .string T.n, .int .i64 T.m, .slice ka T.kids.length kc, .slice aa n ac, .int .i64 tk, .string tn, .int .i64 ti, .int .i64 th, .slice ta tl tc] 36)) = V at *
  obtain ⟨b0, b1, b2, b3, b4, b5, b6, b7, b8, b9, b10⟩ := bx11 HB0.out
  have hVw : V.heap.size = w.heap.size + 1 := HSz.out
  have HK1 : Hid (SlG ExE V (fun b => (S b ∧ b < w.heap.size) ∧ some b ≠ Value.ownBlock (.slice none 0 0)) T.kids (.slice ka T.kids.length kc)) := HK.out.kept (fun b h => ⟨h, by simp [Value.ownBlock]⟩) (fun _ _ _ => rfl)
  have HR0 : Hid (RowG ExE V (w.heap.size + 1) (fun b => S b ∧ b < w.heap.size) (.slice none 0 0) []) := rowG_nil _ _ _ _
  have HVz : Hid (w.heap.size + 1 ≤ V.heap.size) := by show _ ≤ _; omega
  go_upto_region 2 with (at_builtin; refine wpList_pushS ExE rfl _ _ rfl (w.heap.size + 1) (fun b => S b ∧ b < w.heap.size) (.slice none 0 0) [] rfl HR0.out (.slice ka T.kids.length kc) rfl T.kids HK1.out (by simp; omega) HVz.out ?_; intro sa0 sn0 sc0 V2 hsn0 hrow hg; have HRow0 := Lib.hid hrow; have HG2 := Lib.hid hg; have HSn := Lib.hid hsn0; clear hrow hg hsn0)
  have HB2 := Lib.hid (HB0.out.grown HG2.out (by intro e; cases e))
  have HV2 : Hid (Below w.heap.size w V2) := Below.grown HBa.out HG2.out HBa.out.size (fun k hk => by cases hk)
  have HZ2 : Hid (w.heap.size + 1 ≤ V2.heap.size) := Nat.le_trans HVz.out HG2.out.size
  obtain rfl : sn0 = T.kids.length := by have := HSn.out; simpa using this
  have HRow0' : Hid (RowG ExE V2 (w.heap.size + 1) (fun b => S b ∧ b < w.heap.size) (.slice sa0 T.kids.length sc0) T.kids) := by show RowG _ _ _ _ _ _; have := HRow0.out; rwa [List.nil_append] at this
  clear b0 b1 b2 b3 b4 b5 b6 b7 b8 b9 b10 HK HK1 HR0 HG2 HB0 HBa HSz hVw HSn HRow0 HVz
  go_wp2
  go_loopw [3, 4] (fun y i wr => ∃ (j : Nat) (l : List Ex) (sa : Option Addr) (sc : Nat), j ≤ n ∧ i = .int .i64 j ∧ y = .slice sa l.length sc ∧ l.length ≤ 100000 + j ∧ Hid (l = T.kids ++ (T.arms.take j).map (·.2)) ∧ Hid (RowG ExE wr (w.heap.size + 1) (fun b => S b ∧ b < w.heap.size) (.slice sa l.length sc) l) ∧ Hid (Below w.heap.size w wr) ∧ Hid (w.heap.size + 1 ≤ wr.heap.size) ∧ Hid (BoxC 36 wr w.heap.size [.int .i64 T.k, .int .i64 T.p, .string T.n, .int .i64 T.m, .slice ka T.kids.length kc, .slice aa n ac, .int .i64 tk, .string tn, .int .i64 ti, .int .i64 th, .slice ta tl tc])) (fun _ i _ => n - (intOf i).toNat)
  case atStart => exact ⟨0, T.kids, _, _, Nat.zero_le _, rfl, rfl, by omega, by show _ = _; simp, HRow0', HV2, HZ2, HB2⟩
  case round =>
    clear HRow0' HZ2
    obtain ⟨j, l, sa, sc, hj, rfl, rfl, hll, HL, HRow, HBr, HZ, HBx⟩ := hrel
    have b5 := HBx.out.cell 5 _ rfl
    by_cases hlt : j < n
    · obtain ⟨A, hA⟩ : ∃ x, T.arms[j]? = some x := ⟨_, List.getElem?_eq_getElem (by rw [← HN.out]; exact hlt)⟩
      obtain ⟨ad, cc, had, hSa, hcc, ⟨vv, cb, rfl, hvv, hrepb⟩⟩ := HA.out j A hA
      subst had
      obtain ⟨va, vc, rfl, -⟩ := slice_form hvv
      have HLt : Hid ((T.arms.take (j + 1)).map (·.2) = (T.arms.take j).map (·.2) ++ [A.2]) := by show _ = _; rw [List.take_add_one, hA]; simp
      have hrepw := hrepb.bound
      have HRepB := Lib.hid hrepw
      obtain ⟨kb, kd, ab, ae, uk, un, ui, uh, ua, ul, uc, rfl⟩ := hrepb.form
      generalize A.1.vars.length = vn at *
      have hcm : ∀ (m : Nat) (u : Value), m ≠ 0 → (.int .i64 A.1.pos :: .string A.1.con :: .slice va vn vc :: [.int .i64 A.2.k, .int .i64 A.2.p, .string A.2.n, .int .i64 A.2.m, .slice kb A.2.kids.length kd, .slice ab A.2.arms.length ae, .int .i64 uk, .string un, .int .i64 ui, .int .i64 uh, .slice ua ul uc] : List Value)[m]? = some u → w.cell? ⟨(ad.add (j * 14)).block, (ad.add (j * 14)).off + m, none⟩ = some u := fun m u hm hu => by
        have := hcc m u hu
        rwa [← add_add' _ _ _ hm] at this
      have hkp : ∀ p u, w.cell? p = some u → p.block < w.heap.size → wr.cell? p = some u := fun p u h hl => by
        rw [HBr.out.cell hl]; exact h
      have hadb : (ad.add (j * 14)).block < w.heap.size := by rw [add_block]; exact hSa
      have q3 := hkp _ _ (hcm 3 _ (by decide) rfl) hadb
      have q4 : wr.cell? ⟨(ad.add (j * 14)).block, (ad.add (j * 14)).off + 3 + 1, none⟩ = some (.int .i64 A.2.p) := by rw [Nat.add_assoc]; exact hkp _ _ (hcm 4 _ (by decide) rfl) hadb
      have q5 : wr.cell? ⟨(ad.add (j * 14)).block, (ad.add (j * 14)).off + 3 + 2, none⟩ = some (.string A.2.n) := by rw [Nat.add_assoc]; exact hkp _ _ (hcm 5 _ (by decide) rfl) hadb
      have q6 : wr.cell? ⟨(ad.add (j * 14)).block, (ad.add (j * 14)).off + 3 + 3, none⟩ = some (.int .i64 A.2.m) := by rw [Nat.add_assoc]; exact hkp _ _ (hcm 6 _ (by decide) rfl) hadb
      have q7 : wr.cell? ⟨(ad.add (j * 14)).block, (ad.add (j * 14)).off + 3 + 4, none⟩ = some (.slice kb A.2.kids.length kd) := by rw [Nat.add_assoc]; exact hkp _ _ (hcm 7 _ (by decide) rfl) hadb
      have q8 : wr.cell? ⟨(ad.add (j * 14)).block, (ad.add (j * 14)).off + 3 + 5, none⟩ = some (.slice ab A.2.arms.length ae) := by rw [Nat.add_assoc]; exact hkp _ _ (hcm 8 _ (by decide) rfl) hadb
      have q9 : wr.cell? ⟨(ad.add (j * 14)).block, (ad.add (j * 14)).off + 3 + 6, none⟩ = some (.int .i64 uk) := by rw [Nat.add_assoc]; exact hkp _ _ (hcm 9 _ (by decide) rfl) hadb
      have q10 : wr.cell? ⟨(ad.add (j * 14)).block, (ad.add (j * 14)).off + 3 + 7, none⟩ = some (.string un) := by rw [Nat.add_assoc]; exact hkp _ _ (hcm 10 _ (by decide) rfl) hadb
      have q11 : wr.cell? ⟨(ad.add (j * 14)).block, (ad.add (j * 14)).off + 3 + 8, none⟩ = some (.int .i64 ui) := by rw [Nat.add_assoc]; exact hkp _ _ (hcm 11 _ (by decide) rfl) hadb
      have q12 : wr.cell? ⟨(ad.add (j * 14)).block, (ad.add (j * 14)).off + 3 + 9, none⟩ = some (.int .i64 uh) := by rw [Nat.add_assoc]; exact hkp _ _ (hcm 12 _ (by decide) rfl) hadb
      have q13 : wr.cell? ⟨(ad.add (j * 14)).block, (ad.add (j * 14)).off + 3 + 10, none⟩ = some (.slice ua ul uc) := by rw [Nat.add_assoc]; exact hkp _ _ (hcm 13 _ (by decide) rfl) hadb
      have hji : (j : Int) < (n : Int) := by omega
      have HRow1 := HRow
      have HBr1 := HBr
      have HZ1 := HZ
      have HOwn := Lib.hid (fun k e => Nat.le_trans (Nat.le_succ _) (RowG.lt HRow.out k e).1)
      have HOw2 := Lib.hid (fun k e => (RowG.lt HRow.out k e).1)
      clear hA hcc hcm hvv hrepb hrepw hkp hSa hadb HRow HBr HZ
      have HA1 : Hid (∀ X, Below wr.heap.size wr (wr.alloc X)) := fun X => (Below.refl _ wr).alloc (Nat.le_refl _) X
      have HRA := Lib.hid (fun X => HRow1.out.lift (HA1.out X))
      have HZA : Hid (∀ X, w.heap.size + 1 ≤ (wr.alloc X).heap.size) := fun X => Nat.le_trans HZ1.out (HA1.out X).size
      have hl1 : l.length + 1 ≤ 1000000 := by omega
      go_wp2_with (at_builtin; refine wpList_pushG ExE rfl _ _ rfl (w.heap.size + 1) (fun b => S b ∧ b < w.heap.size) _ l rfl (HRA.out _) wr.heap.size 36 [.int .i64 A.2.k, .int .i64 A.2.p, .string A.2.n, .int .i64 A.2.m, .slice kb A.2.kids.length kd, .slice ab A.2.arms.length ae, .int .i64 uk, .string un, .int .i64 ui, .int .i64 uh, .slice ua ul uc] (heap_alloc_new wr _) rfl A.2 ((body_repC HRepB.out HBr1.out HOwn.out _).imp (fun b hb => ⟨⟨hb.1.1.1, hb.1.2⟩, hb.2⟩)) (l.length + 1) rfl hl1 (HZA.out _) ?_; intro sa' sc' w' hrow' hg'; have HRow' := Lib.hid hrow'; have HG' := Lib.hid hg'; clear hrow' hg')
      have HBx' := Lib.hid ((HBx.out.lift (HA1.out _)).grown HG'.out (fun e => by have := HOw2.out _ e.symm; omega))
      have HBw : Hid (Below w.heap.size w w') := Below.grown (HBr1.out.trans ((HA1.out _).mono HBr1.out.size)) HG'.out (Nat.le_trans HBr1.out.size (HA1.out _).size) HOwn.out
      have HZ' : Hid (w.heap.size + 1 ≤ w'.heap.size) := Nat.le_trans (HZA.out _) HG'.out.size
      have HRow2 : Hid (RowG ExE w' (w.heap.size + 1) (fun b => S b ∧ b < w.heap.size) (.slice sa' (l ++ [A.2]).length sc') (l ++ [A.2])) := by
        show RowG _ _ _ _ _ _
        rw [List.length_append]
        exact HRow'.out
      have HL2 : Hid (l ++ [A.2] = T.kids ++ (T.arms.take (j + 1)).map (·.2)) := by show _ = _; rw [HLt.out, HL.out, List.append_assoc]
      go_roundw
      case rel => exact ⟨j + 1, l ++ [A.2], sa', sc', hlt, by go_num, by rw [List.length_append]; rfl, by rw [List.length_append]; simp; omega, HL2, HRow2, HBw, HZ', HBx'⟩
      case measure => simp [intOf]; omega
    · have HR : Hid (l = chN T) := by
        show _ = _
        rw [HL.out, List.take_of_length_le (by rw [← HN.out]; omega)]; rfl
      go_wp2
      go_ret
      have e : l = chN T := HR.out
      subst e
      exact ⟨_, _, rfl, HRow.out, HBr.out⟩
end Go.Proofs.Ytljgpgmaceackaa

/- What ParseExpr asks of an expression: no type too deep, no arm too wide, not too deep itself. -/
namespace Go.Proofs.Ytljgpgmaceackaa
open Go.RowKit Go.Maps Mth S3

set_option maxRecDepth 100000 in
set_option maxHeartbeats 6400000 in
theorem deepType_any : ∀ (n : Nat), n ≤ 1000 → ∀ (T : Ex), fitE n T = true → ∀ (S : Nat → Prop) (c : List Value) (w : World), RepE w S T c →
    Calls Try.prog 70 #[.agg c.toArray] w fun e w' => e = .returned (.bool false) ∧ Below w.heap.size w w' := by
  intro n
  induction n with
  | zero => intro _ T h; cases h
  | succ n ih =>
    intro hn T hfit S c w h
    have HF := Lib.hid (fit_open hfit)
    have HCh : Hid (∀ V, Below w.heap.size w V → Calls Try.prog 17 #[.agg c.toArray] V fun e w' => ∃ a cp, e = .returned (.slice a (chN T).length cp) ∧ SlG ExE w' (fun _ => True) (chN T) (.slice a (chN T).length cp) ∧ Below V.heap.size V w') := fun V hV => (refChildren_any T HF.out.kids HF.out.arms S c V (h.lift hV)).mono fun e w' ⟨a, cp, h1, h2, h3⟩ => ⟨a, cp, h1, h2.slG (fun _ _ => trivial) (fun _ _ => trivial), h3⟩
    have HI := Lib.hid (ih (by omega))
    have hlen : (chN T).length ≤ 200000 := by unfold chN; rw [List.length_append, List.length_map]; have := HF.out.kids; have := HF.out.arms; omega
    have HTy := Lib.hid h.open
    obtain ⟨ka, kc, aa, ac, tk, tn, ti, th, ta, tl, tc, rfl⟩ := h.form
    have hba : Below w.heap.size w (w.alloc (.cells #[.int .i64 T.k, .int .i64 T.p, .string T.n, .int .i64 T.m, .slice ka T.kids.length kc, .slice aa T.arms.length ac, .int .i64 tk, .string tn, .int .i64 ti, .int .i64 th, .slice ta tl tc] 36)) := (Below.refl _ w).alloc (Nat.le_refl _) _
    have HB0 := Lib.hid (BoxC.made 36 w [.int .i64 T.k, .int .i64 T.p, .string T.n, .int .i64 T.m, .slice ka T.kids.length kc, .slice aa T.arms.length ac, .int .i64 tk, .string tn, .int .i64 ti, .int .i64 th, .slice ta tl tc])
    have HBa := Lib.hid hba
    have HDp : Hid (T.k = 9 → ∀ V, Below w.heap.size w V → ∃ d : Nat, d ≤ 40 ∧ Calls Try.prog 76 #[.agg #[.int .i64 tk, .string tn, .int .i64 ti, .int .i64 th, .slice ta tl tc]] V fun e w' => e = .returned (.int .i64 d) ∧ Below V.heap.size V w') := fun h9 V hV => by
      have hd := HF.out.typ h9
      obtain ⟨kv, av, tc0, e0, -, -, -, ht⟩ := h.open
      simp only [List.cons.injEq] at e0
      obtain ⟨-, -, -, -, -, -, rfl⟩ := e0
      exact ⟨dep T.t, hd, depth_any T.t (by omega) _ _ V (ht.lift hV)⟩
    clear HTy
    clear h hba hfit ih
    obtain ⟨m, hm⟩ : ∃ m, m = (chN T).length := ⟨_, rfl⟩
    rw [← hm] at HCh hlen
    have HM := Lib.hid hm
    clear hm
    generalize T.kids.length = kn at *
    generalize T.arms.length = an at *
    simp only [List.toArray] at HB0 HCh ⊢
    cases h9 : (T.k == 9) with
    | false =>
      clear HDp
      go_enter Try.func70, Try.ntmps70
      go_upto_region 1 with fail
      generalize (w.alloc (.cells #[.int .i64 T.k, .int .i64 T.p, .string T.n, .int .i64 T.m, .slice ka kn kc, .slice aa an ac, .int .i64 tk, .string tn, .int .i64 ti, .int .i64 th, .slice ta tl tc] 36)) = V at *
      obtain ⟨b0, b1, b2, b3, b4, b5, b6, b7, b8, b9, b10⟩ := bx11 HB0.out
      have HB1 := HBa
      generalize hV1 : V = V1 at *
      go_wp2_with fail
      go_at_call 17
      refine (HCh.out V1 HB1.out).mono ?_
      rintro e W ⟨ca, cp, rfl, hsl, hb1⟩
      have HSl := Lib.hid hsl
      have HBW := Lib.hid (HB1.out.trans (hb1.mono HB1.out.size))
      have HR0 : Hid (Below W.heap.size W W) := Below.refl _ _
      clear hsl hb1 b0 b1 b2 b3 b4 b5 b6 b7 b8 b9 b10 HCh
      go_wp2
      go_loopw [4] (fun i wr => ∃ j : Nat, j ≤ m ∧ i = .int .i64 j ∧ Hid (Below W.heap.size W wr)) (fun i _ => m - (intOf i).toNat)
      case atStart => exact ⟨0, Nat.zero_le _, rfl, HR0⟩
      case round =>
        clear HR0
        obtain ⟨j, hj, rfl, HBr⟩ := hrel
        by_cases hlt : j < m
        · obtain ⟨U, hU⟩ : ∃ x, (chN T)[j]? = some x := ⟨_, List.getElem?_eq_getElem (by rw [← HM.out]; exact hlt)⟩
          have hfU := HF.out.all U (List.mem_of_getElem? hU)
          obtain ⟨ad, kb, kd, ab, ae, uk, un, ui, uh, ua, ul, uc, rfl, hr, q0, q1, q2, q3, q4, q5, q6, q7, q8, q9, q10⟩ := ex_at (HSl.out.kept (fun _ h => h) (fun b _ hl => HBr.out.block b hl)) hU
          have HC := Lib.hid (HI.out U hfU _ _ wr hr)
          have hji : (j : Int) < (m : Int) := by omega
          clear hU hfU hr
          simp only [List.toArray] at HC
          go_wp2_with (go_at_call 70; refine HC.out.mono ?_; rintro e w3 ⟨rfl, hb3⟩; have HB3 := Lib.hid (HBr.out.trans (hb3.mono HBr.out.size)); clear hb3)
          go_roundw
          case rel => exact ⟨j + 1, hlt, by go_num, HB3⟩
          case measure => simp [intOf]; omega
        · go_wp2
          go_ret
          exact ⟨rfl, HBW.out.trans (HBr.out.mono HBW.out.size)⟩
    | true =>
      obtain ⟨dd, hdd, hDc⟩ := HDp.out (by simpa using h9) _ HBa.out
      have HDc := Lib.hid hDc
      have hgt : decide ((40 : Int) < (dd : Int)) = false := by simp; omega
      have hgt' : ¬ (40 : Int) < (dd : Int) := by omega
      clear HDp hDc
      go_enter Try.func70, Try.ntmps70
      go_upto_region 1 with fail
      generalize (w.alloc (.cells #[.int .i64 T.k, .int .i64 T.p, .string T.n, .int .i64 T.m, .slice ka kn kc, .slice aa an ac, .int .i64 tk, .string tn, .int .i64 ti, .int .i64 th, .slice ta tl tc] 36)) = V at *
      obtain ⟨b0, b1, b2, b3, b4, b5, b6, b7, b8, b9, b10⟩ := bx11 HB0.out
      go_wp2_with (go_at_call 76; refine HDc.out.mono ?_; rintro e V1 ⟨rfl, hbd⟩; have HB1 := Lib.hid (HBa.out.trans (hbd.mono HBa.out.size)); obtain ⟨b0, b1, b2, b3, b4, b5, b6, b7, b8, b9, b10⟩ := bx11 (HB0.out.lift hbd); clear hbd)
      refine (HCh.out V1 HB1.out).mono ?_
      rintro e W ⟨ca, cp, rfl, hsl, hb1⟩
      have HSl := Lib.hid hsl
      have HBW := Lib.hid (HB1.out.trans (hb1.mono HB1.out.size))
      have HR0 : Hid (Below W.heap.size W W) := Below.refl _ _
      clear hsl hb1 b0 b1 b2 b3 b4 b5 b6 b7 b8 b9 b10 HCh
      go_wp2
      go_loopw [4] (fun i wr => ∃ j : Nat, j ≤ m ∧ i = .int .i64 j ∧ Hid (Below W.heap.size W wr)) (fun i _ => m - (intOf i).toNat)
      case atStart => exact ⟨0, Nat.zero_le _, rfl, HR0⟩
      case round =>
        clear HR0
        obtain ⟨j, hj, rfl, HBr⟩ := hrel
        by_cases hlt : j < m
        · obtain ⟨U, hU⟩ : ∃ x, (chN T)[j]? = some x := ⟨_, List.getElem?_eq_getElem (by rw [← HM.out]; exact hlt)⟩
          have hfU := HF.out.all U (List.mem_of_getElem? hU)
          obtain ⟨ad, kb, kd, ab, ae, uk, un, ui, uh, ua, ul, uc, rfl, hr, q0, q1, q2, q3, q4, q5, q6, q7, q8, q9, q10⟩ := ex_at (HSl.out.kept (fun _ h => h) (fun b _ hl => HBr.out.block b hl)) hU
          have HC := Lib.hid (HI.out U hfU _ _ wr hr)
          have hji : (j : Int) < (m : Int) := by omega
          clear hU hfU hr
          simp only [List.toArray] at HC
          go_wp2_with (go_at_call 70; refine HC.out.mono ?_; rintro e w3 ⟨rfl, hb3⟩; have HB3 := Lib.hid (HBr.out.trans (hb3.mono HBr.out.size)); clear hb3)
          go_roundw
          case rel => exact ⟨j + 1, hlt, by go_num, HB3⟩
          case measure => simp [intOf]; omega
        · go_wp2
          go_ret
          exact ⟨rfl, HBW.out.trans (HBr.out.mono HBW.out.size)⟩
end Go.Proofs.Ytljgpgmaceackaa

/- No arm is too wide; an expression is not too deep. -/
namespace Go.Proofs.Ytljgpgmaceackaa
open Go.RowKit Go.Maps Mth S3

set_option maxRecDepth 100000 in
set_option maxHeartbeats 6400000 in
theorem wide_any : ∀ (n : Nat), n ≤ 1000 → ∀ (T : Ex), fitE n T = true → ∀ (S : Nat → Prop) (c : List Value) (w : World), RepE w S T c →
    Calls Try.prog 49 #[.agg c.toArray] w fun e w' => e = .returned (.tuple #[.int .i64 0, .bool false]) ∧ Below w.heap.size w w' := by
  intro n
  induction n with
  | zero => intro _ T h; cases h
  | succ n ih =>
    intro hn T hfit S c w h
    have HF := Lib.hid (fit_open hfit)
    have HCh : Hid (∀ V, Below w.heap.size w V → Calls Try.prog 17 #[.agg c.toArray] V fun e w' => ∃ a cp, e = .returned (.slice a (chN T).length cp) ∧ SlG ExE w' (fun _ => True) (chN T) (.slice a (chN T).length cp) ∧ Below V.heap.size V w') := fun V hV => (refChildren_any T HF.out.kids HF.out.arms S c V (h.lift hV)).mono fun e w' ⟨a, cp, h1, h2, h3⟩ => ⟨a, cp, h1, h2.slG (fun _ _ => trivial) (fun _ _ => trivial), h3⟩
    have HI := Lib.hid (ih (by omega))
    have hlen : (chN T).length ≤ 200000 := by unfold chN; rw [List.length_append, List.length_map]; have := HF.out.kids; have := HF.out.arms; omega
    obtain ⟨ka, kc, aa, ac, tk, tn, ti, th, ta, tl, tc, rfl⟩ := h.form
    have hba : Below w.heap.size w (w.alloc (.cells #[.int .i64 T.k, .int .i64 T.p, .string T.n, .int .i64 T.m, .slice ka T.kids.length kc, .slice aa T.arms.length ac, .int .i64 tk, .string tn, .int .i64 ti, .int .i64 th, .slice ta tl tc] 36)) := (Below.refl _ w).alloc (Nat.le_refl _) _
    have HB0 := Lib.hid (BoxC.made 36 w [.int .i64 T.k, .int .i64 T.p, .string T.n, .int .i64 T.m, .slice ka T.kids.length kc, .slice aa T.arms.length ac, .int .i64 tk, .string tn, .int .i64 ti, .int .i64 th, .slice ta tl tc])
    have HBa := Lib.hid hba
    obtain ⟨kv, av, tc0, e0, -, -, ha, -⟩ := id h.open
    simp only [List.cons.injEq] at e0
    obtain ⟨-, -, -, -, rfl, rfl, -⟩ := e0
    have HAr := Lib.hid (ha.kept (fun _ h => h) (fun b _ hl => hba.block b hl))
    have hal := HF.out.arms
    clear ha
    clear h hba hfit ih
    obtain ⟨m, hm⟩ : ∃ m, m = (chN T).length := ⟨_, rfl⟩
    rw [← hm] at HCh hlen
    have HM := Lib.hid hm
    clear hm
    generalize T.kids.length = kn at *
    obtain ⟨an, han⟩ : ∃ n, n = T.arms.length := ⟨_, rfl⟩
    rw [← han] at HAr hal HB0 HBa HCh ⊢
    have HAn := Lib.hid han
    clear han
    simp only [List.toArray] at HB0 HCh ⊢
    go_enter Try.func49, Try.ntmps49
    go_upto_region 1 with fail
    generalize (w.alloc (.cells #[.int .i64 T.k, .int .i64 T.p, .string T.n, .int .i64 T.m, .slice ka kn kc, .slice aa an ac, .int .i64 tk, .string tn, .int .i64 ti, .int .i64 th, .slice ta tl tc] 36)) = V at *
    obtain ⟨b0, b1, b2, b3, b4, b5, b6, b7, b8, b9, b10⟩ := bx11 HB0.out
    have HR9 : Hid (Below V.heap.size V V) := Below.refl _ _
    clear b0 b1 b2 b3 b4 b5 b6 b7 b8 b9 b10
    go_wp2
    go_loopw [4] (fun i wr => ∃ j : Nat, j ≤ an ∧ i = .int .i64 j ∧ Hid (Below V.heap.size V wr)) (fun i _ => an - (intOf i).toNat)
    case atStart => exact ⟨0, Nat.zero_le _, rfl, HR9⟩
    case round =>
     clear HR9
     obtain ⟨j, hj, rfl, HBq⟩ := hrel
     have b5 := (HB0.out.lift HBq.out).cell 5 _ rfl
     by_cases hlt : j < an
     · obtain ⟨A, hA⟩ : ∃ x, T.arms[j]? = some x := ⟨_, List.getElem?_eq_getElem (by rw [← HAn.out]; exact hlt)⟩
       have hv := HF.out.vars A (List.mem_of_getElem? hA)
       obtain ⟨ad, cs, had, -, ⟨vv, cb, rfl, hvv, -⟩, hc0, hcm⟩ := slG_get (HAr.out.kept (fun _ h => h) (fun b _ hl => HBq.out.block b hl)) hA
       subst had
       have q2 : _ = some vv := hcm 2 _ (by decide) rfl
       rw [show AmE.k = 14 from rfl] at q2
       obtain ⟨va, vc, rfl, -⟩ := slice_form hvv
       generalize A.1.vars.length = vn at *
       have hji : (j : Int) < (an : Int) := by omega
       have hvi : ¬ (4 : Int) < (vn : Int) := by omega
       clear hA hvv hc0 hcm
       go_wp2
       go_roundw
       case rel => exact ⟨j + 1, hlt, by go_num, HBq⟩
       case measure => simp [intOf]; omega
     have HB1 := Lib.hid (HBa.out.trans (HBq.out.mono HBa.out.size))
     obtain ⟨b0, b1, b2, b3, b4, -, b6, b7, b8, b9, b10⟩ := bx11 (HB0.out.lift HBq.out)
     clear HBq hj HAr
     generalize hV1 : wr = V1 at *
     go_wp2_with fail
     go_at_call 17
     refine (HCh.out V1 HB1.out).mono ?_
     rintro e W ⟨ca, cp, rfl, hsl, hb1⟩
     have HSl := Lib.hid hsl
     have HBW := Lib.hid (HB1.out.trans (hb1.mono HB1.out.size))
     have HR0 : Hid (Below W.heap.size W W) := Below.refl _ _
     clear hsl hb1 b0 b1 b2 b3 b4 b5 b6 b7 b8 b9 b10 HCh
     go_wp2
     go_loopw [6] (fun i wr => ∃ j : Nat, j ≤ m ∧ i = .int .i64 j ∧ Hid (Below W.heap.size W wr)) (fun i _ => m - (intOf i).toNat)
     case atStart => exact ⟨0, Nat.zero_le _, rfl, HR0⟩
     case round =>
       clear HR0
       obtain ⟨j, hj, rfl, HBr⟩ := hrel
       by_cases hlt : j < m
       · obtain ⟨U, hU⟩ : ∃ x, (chN T)[j]? = some x := ⟨_, List.getElem?_eq_getElem (by rw [← HM.out]; exact hlt)⟩
         have hfU := HF.out.all U (List.mem_of_getElem? hU)
         obtain ⟨ad, kb, kd, ab, ae, uk, un, ui, uh, ua, ul, uc, rfl, hr, q0, q1, q2, q3, q4, q5, q6, q7, q8, q9, q10⟩ := ex_at (HSl.out.kept (fun _ h => h) (fun b _ hl => HBr.out.block b hl)) hU
         have HC := Lib.hid (HI.out U hfU _ _ wr hr)
         have hji : (j : Int) < (m : Int) := by omega
         clear hU hfU hr
         simp only [List.toArray] at HC
         go_wp2_with (go_at_call 49; refine HC.out.mono ?_; rintro e w3 ⟨rfl, hb3⟩; have HB3 := Lib.hid (HBr.out.trans (hb3.mono HBr.out.size)); clear hb3)
         go_roundw
         case rel => exact ⟨j + 1, hlt, by go_num, HB3⟩
         case measure => simp [intOf]; omega
       · go_wp2
         refine bodyPost_ret (by simp [results, Try.results49, go_sem]; try rfl) rfl ?_
         exact ⟨rfl, HBW.out.trans (HBr.out.mono HBW.out.size)⟩
set_option maxRecDepth 100000 in
set_option maxHeartbeats 3200000 in
theorem deepExpr_any (T : Ex) (hfit : fitE 41 T = true) (S : Nat → Prop) (c : List Value) (w : World) (h : RepE w S T c) :
    Calls Try.prog 48 #[.agg c.toArray] w fun e w' => e = .returned (.bool false) ∧ Below w.heap.size w w' := by
  have HD := Lib.hid (fun V (hV : Below w.heap.size w V) => depth4_any 41 (by decide) T hfit S c V (h.lift hV))
  have HT := Lib.hid (fun V (hV : Below w.heap.size w V) => deepType_any 41 (by decide) T hfit S c V (h.lift hV))
  obtain ⟨ka, kc, aa, ac, tk, tn, ti, th, ta, tl, tc, rfl⟩ := h.form
  have hba : Below w.heap.size w (w.alloc (.cells #[.int .i64 T.k, .int .i64 T.p, .string T.n, .int .i64 T.m, .slice ka T.kids.length kc, .slice aa T.arms.length ac, .int .i64 tk, .string tn, .int .i64 ti, .int .i64 th, .slice ta tl tc] 36)) := (Below.refl _ w).alloc (Nat.le_refl _) _
  have HB0 := Lib.hid (BoxC.made 36 w [.int .i64 T.k, .int .i64 T.p, .string T.n, .int .i64 T.m, .slice ka T.kids.length kc, .slice aa T.arms.length ac, .int .i64 tk, .string tn, .int .i64 ti, .int .i64 th, .slice ta tl tc])
  have HBa := Lib.hid hba
  clear h hba
  generalize T.kids.length = kn at *
  generalize T.arms.length = an at *
  simp only [List.toArray] at HB0 HD HT ⊢
  go_enter Try.func48, Try.ntmps48
  go_upto_region 1 with fail
  generalize (w.alloc (.cells #[.int .i64 T.k, .int .i64 T.p, .string T.n, .int .i64 T.m, .slice ka kn kc, .slice aa an ac, .int .i64 tk, .string tn, .int .i64 ti, .int .i64 th, .slice ta tl tc] 36)) = V at *
  obtain ⟨b0, b1, b2, b3, b4, b5, b6, b7, b8, b9, b10⟩ := bx11 HB0.out
  go_wp2_with fail
  go_at_call 69
  refine (HD.out V HBa.out).mono ?_
  rintro e V1 ⟨d, rfl, hd, hb1⟩
  have HB1 := Lib.hid (HBa.out.trans (hb1.mono HBa.out.size))
  obtain ⟨d0, d1, d2, d3, d4, d5, d6, d7, d8, d9, d10⟩ := bx11 (HB0.out.lift hb1)
  have hdi : ¬ (40 : Int) < (d : Int) := by omega
  have hdb : decide ((40 : Int) < (d : Int)) = false := decide_eq_false hdi
  clear hb1 b0 b1 b2 b3 b4 b5 b6 b7 b8 b9 b10
  go_wp2_with (go_at_call 70; refine (HT.out V1 HB1.out).mono ?_; rintro e V2 ⟨rfl, hb2⟩)
  go_ret
  exact ⟨rfl, HB1.out.trans (hb2.mono HB1.out.size)⟩
end Go.Proofs.Ytljgpgmaceackaa
