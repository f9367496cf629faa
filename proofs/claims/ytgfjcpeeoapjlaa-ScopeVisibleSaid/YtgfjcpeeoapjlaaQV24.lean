import Derived.Test.YtgfjcpeeoapjlaaQV22
import Derived.Test.YtgfjcpeeoapjlaaQV06
import Derived.Test.YtgfjcpeeoapjlaaQV18
import Derived.Test.YtgfjcpeeoapjlaaQV01
/- The reference's Children. -/
namespace Go.Proofs.Ytgfjcpeeoapjlaa
open Go.RowKit Go.Maps Mth S3

set_option maxRecDepth 100000 in
set_option maxHeartbeats 6400000 in
theorem refChildren_any (T : Ex) (hkl : T.kids.length ≤ 100000) (hal : T.arms.length ≤ 100000) (S : Nat → Prop) (c : List Value) (w : World) (h : RepE w S T c) :
    Calls Try.prog 14 #[.agg c.toArray] w fun e w' => ∃ a cp, e = .returned (.slice a (chN T).length cp) ∧ RowG ExE w' (w.heap.size + 1) (fun b => S b ∧ b < w.heap.size) (.slice a (chN T).length cp) (chN T) ∧ Below w.heap.size w w' := by
  obtain ⟨kv, av, tc0, hc0, -, hk, ha, -⟩ := h.open
  obtain ⟨ka, kc, aa, ac, tk, tn, ti, th, ta, tl, tc, rfl⟩ := h.form
  simp only [List.cons.injEq] at hc0
  obtain ⟨-, -, -, -, rfl, rfl, -⟩ := hc0
  have hba : Below w.heap.size w (w.alloc (.cells #[.int .i64 T.k, .int .i64 T.p, .string T.n, .int .i64 T.m, .slice ka T.kids.length kc, .slice aa T.arms.length ac, .int .i64 tk, .string tn, .int .i64 ti, .int .i64 th, .slice ta tl tc] 36)) := (Below.refl _ w).alloc (Nat.le_refl _) _
  have HB0 := Lib.hid (BoxC.made 36 w [.int .i64 T.k, .int .i64 T.p, .string T.n, .int .i64 T.m, .slice ka T.kids.length kc, .slice aa T.arms.length ac, .int .i64 tk, .string tn, .int .i64 ti, .int .i64 th, .slice ta tl tc])
  have HK := Lib.hid (hk.bound.kept (fun _ h => h) (fun b _ hl => hba.block b hl))
  have HA := Lib.hid (ha.bound.kept (fun _ h => h) (fun b _ hl => hba.block b hl))
  have HBa := Lib.hid hba
  have hsz : (w.alloc (.cells #[.int .i64 T.k, .int .i64 T.p, .string T.n, .int .i64 T.m, .slice ka T.kids.length kc, .slice aa T.arms.length ac, .int .i64 tk, .string tn, .int .i64 ti, .int .i64 th, .slice ta tl tc] 36)).heap.size = w.heap.size + 1 := by simp
  have HSz := Lib.hid hsz
  obtain ⟨n, hn⟩ : ∃ n, n = T.arms.length := ⟨_, rfl⟩
  have HN := Lib.hid hn
  rw [← hn] at hal HB0 HK HA HBa HSz ⊢
  clear h hk ha hba hn hsz
  simp only [List.toArray] at HB0 ⊢
  go_enter Try.func14, Try.ntmps14
  go_upto_region 1 with fail
  generalize (w.alloc (.cells #[.int .i64 T.k, .int .i64 T.p, .string T.n, .int .i64 T.m, .slice ka T.kids.length kc, .slice aa n ac, .int .i64 tk, .string tn, .int .i64 ti, .int .i64 th, .slice ta tl tc] 36)) = V at *
  obtain ⟨b0, b1, b2, b3, b4, b5, b6, b7, b8, b9, b10⟩ := bx11 HB0.out
  have hVw : V.heap.size = w.heap.size + 1 := HSz.out
  have HK1 : Hid (SlG ExE V (fun b => (S b ∧ b < w.heap.size) ∧ some b ≠ Value.ownBlock (.slice none 0 0)) T.kids (.slice ka T.kids.length kc)) := HK.out.kept (fun b h => ⟨h, by simp [Value.ownBlock]⟩) (fun _ _ _ => rfl)
  have HR0 : Hid (RowG ExE V (w.heap.size + 1) (fun b => S b ∧ b < w.heap.size) (.slice none 0 0) []) := rowG_nil _ _ _ _
  have HVz : Hid (w.heap.size + 1 ≤ V.heap.size) := by show _ ≤ _; omega
  go_upto_region 2 with (at_builtin; refine wpList_pushS ExE rfl _ _ rfl (w.heap.size + 1) (fun b => S b ∧ b < w.heap.size) (.slice none 0 0) [] rfl HR0.out (.slice ka T.kids.length kc) rfl T.kids HK1.out (by simp; omega) HVz.out ?_; intro sa0 sn0 sc0 V2 hsn0 hrow hg; have HRow0 := Lib.hid hrow; have HG2 := Lib.hid hg; have HSn := Lib.hid hsn0; clear hrow hg hsn0)
  have HB2 := Lib.hid (HB0.out.grown HG2.out (by intro e; cases e))
  have HV2 : Hid (Below w.heap.size w V2) := Below.grown HBa.out HG2.out HBa.out.size (fun k hk => by cases hk)
  have HA2 := Lib.hid ((HA.out.kept (S' := fun b => S b ∧ b < w.heap.size) (fun _ h => h) (fun b hb hl => (HV2.out.block b hb.2).trans (HBa.out.block b hb.2).symm)))
  have HZ2 : Hid (w.heap.size + 1 ≤ V2.heap.size) := Nat.le_trans HVz.out HG2.out.size
  obtain rfl : sn0 = T.kids.length := by have := HSn.out; simpa using this
  have HRow0' : Hid (RowG ExE V2 (w.heap.size + 1) (fun b => S b ∧ b < w.heap.size) (.slice sa0 T.kids.length sc0) T.kids) := by show RowG _ _ _ _ _ _; have := HRow0.out; rwa [List.nil_append] at this
  clear b0 b1 b2 b3 b4 b5 b6 b7 b8 b9 b10 HK HK1 HR0 HG2 HA HB0 HBa HSz hVw HSn HRow0 HVz
  go_wp2
  go_loopw [3, 4] (fun y i wr => ∃ (j : Nat) (l : List Ex) (sa : Option Addr) (sc : Nat), j ≤ n ∧ i = .int .i64 j ∧ y = .slice sa l.length sc ∧ l.length ≤ 100000 + j ∧ Hid (l = T.kids ++ (T.arms.take j).map (·.2)) ∧ Hid (RowG ExE wr (w.heap.size + 1) (fun b => S b ∧ b < w.heap.size) (.slice sa l.length sc) l) ∧ Hid (Below w.heap.size w wr) ∧ Hid (w.heap.size + 1 ≤ wr.heap.size) ∧ Hid (BoxC 36 wr w.heap.size [.int .i64 T.k, .int .i64 T.p, .string T.n, .int .i64 T.m, .slice ka T.kids.length kc, .slice aa n ac, .int .i64 tk, .string tn, .int .i64 ti, .int .i64 th, .slice ta tl tc])) (fun _ i _ => n - (intOf i).toNat)
  case atStart => exact ⟨0, T.kids, _, _, Nat.zero_le _, rfl, rfl, by omega, by show _ = _; simp, HRow0', HV2, HZ2, HB2⟩
  case round =>
    clear HRow0' HZ2
    obtain ⟨j, l, sa, sc, hj, rfl, rfl, hll, HL, HRow, HBr, HZ, HBx⟩ := hrel
    have b5 := HBx.out.cell 5 _ rfl
    by_cases hlt : j < n
    · obtain ⟨A, hA⟩ : ∃ x, T.arms[j]? = some x := ⟨_, List.getElem?_eq_getElem (by rw [← HN.out]; exact hlt)⟩
      obtain ⟨ad, cc, had, hSa, ⟨vv, cb, rfl, hvv, hrepb⟩, hc0, hcm⟩ := slG_get HA2.out hA
      subst had
      obtain ⟨va, vc, rfl, -⟩ := slice_form hvv
      have HLt : Hid ((T.arms.take (j + 1)).map (·.2) = (T.arms.take j).map (·.2) ++ [A.2]) := by show _ = _; rw [List.take_add_one, hA]; simp
      have hrepw : RepE w (fun b => S b ∧ b < w.heap.size) A.2 cb := hrepb.kept (fun _ h => h) (fun b hb _ => (HV2.out.block b hb.2).symm)
      have HRepB := Lib.hid hrepw
      obtain ⟨kb, kd, ab, ae, uk, un, ui, uh, ua, ul, uc, rfl⟩ := hrepb.form
      generalize A.1.vars.length = vn at *
      rw [show AmE.k = 14 from rfl] at hc0 hcm
      have hkp : ∀ p u, V2.cell? p = some u → p.block < w.heap.size → wr.cell? p = some u := fun p u h hl => by
        rw [HBr.out.cell hl, ← HV2.out.cell hl]; exact h
      have hadb : (ad.add (j * 14)).block < w.heap.size := by rw [add_block]; exact hSa.2
      have q3 := hkp _ _ (hcm 3 _ (by decide) rfl) hadb
      have q4 : wr.cell? ⟨(ad.add (j * 14)).block, (ad.add (j * 14)).off + 3 + 1, none⟩ = some (.int .i64 A.2.p) := by rw [Nat.add_assoc]; exact hkp _ _ (hcm 4 _ (by decide) rfl) hadb
      have q5 : wr.cell? ⟨(ad.add (j * 14)).block, (ad.add (j * 14)).off + 3 + 2, none⟩ = some (.string A.2.n) := by rw [Nat.add_assoc]; exact hkp _ _ (hcm 5 _ (by decide) rfl) hadb
      have q6 : wr.cell? ⟨(ad.add (j * 14)).block, (ad.add (j * 14)).off + 3 + 3, none⟩ = some (.int .i64 A.2.m) := by rw [Nat.add_assoc]; exact hkp _ _ (hcm 6 _ (by decide) rfl) hadb
      have q7 : wr.cell? ⟨(ad.add (j * 14)).block, (ad.add (j * 14)).off + 3 + 4, none⟩ = some (.slice kb A.2.kids.length kd) := by rw [Nat.add_assoc]; exact hkp _ _ (hcm 7 _ (by decide) rfl) hadb
      have q8 : wr.cell? ⟨(ad.add (j * 14)).block, (ad.add (j * 14)).off + 3 + 5, none⟩ = some (.slice ab A.2.arms.length ae) := by rw [Nat.add_assoc]; exact hkp _ _ (hcm 8 _ (by decide) rfl) hadb
      have q9 : wr.cell? ⟨(ad.add (j * 14)).block, (ad.add (j * 14)).off + 3 + 6, none⟩ = some (.int .i64 uk) := by rw [Nat.add_assoc]; exact hkp _ _ (hcm 9 _ (by decide) rfl) hadb
      have q10 : wr.cell? ⟨(ad.add (j * 14)).block, (ad.add (j * 14)).off + 3 + 7, none⟩ = some (.string un) := by rw [Nat.add_assoc]; exact hkp _ _ (hcm 10 _ (by decide) rfl) hadb
      have q11 : wr.cell? ⟨(ad.add (j * 14)).block, (ad.add (j * 14)).off + 3 + 8, none⟩ = some (.int .i64 ui) := by rw [Nat.add_assoc]; exact hkp _ _ (hcm 11 _ (by decide) rfl) hadb
      have q12 : wr.cell? ⟨(ad.add (j * 14)).block, (ad.add (j * 14)).off + 3 + 9, none⟩ = some (.int .i64 uh) := by rw [Nat.add_assoc]; exact hkp _ _ (hcm 12 _ (by decide) rfl) hadb
      have q13 : wr.cell? ⟨(ad.add (j * 14)).block, (ad.add (j * 14)).off + 3 + 10, none⟩ = some (.slice ua ul uc) := by rw [Nat.add_assoc]; exact hkp _ _ (hcm 13 _ (by decide) rfl) hadb
      have hji : (j : Int) < (n : Int) := by omega
      have HRow1 := HRow
      have HBr1 := HBr
      have HZ1 := HZ
      have HOwn := Lib.hid (fun k e => Nat.le_trans (Nat.le_succ _) (RowG.lt HRow.out k e).1)
      have HOw2 := Lib.hid (fun k e => (RowG.lt HRow.out k e).1)
      clear hA hc0 hcm hvv hrepb hrepw hkp hSa hadb HRow HBr HZ
      have HA1 : Hid (∀ X, Below wr.heap.size wr (wr.alloc X)) := fun X => (Below.refl _ wr).alloc (Nat.le_refl _) X
      have HRA := Lib.hid (fun X => HRow1.out.lift (HA1.out X))
      have HZA : Hid (∀ X, w.heap.size + 1 ≤ (wr.alloc X).heap.size) := fun X => Nat.le_trans HZ1.out (HA1.out X).size
      have hl1 : l.length + 1 ≤ 1000000 := by omega
      go_wp2_with (at_builtin; refine wpList_pushG ExE rfl _ _ rfl (w.heap.size + 1) (fun b => S b ∧ b < w.heap.size) _ l rfl (HRA.out _) wr.heap.size 36 [.int .i64 A.2.k, .int .i64 A.2.p, .string A.2.n, .int .i64 A.2.m, .slice kb A.2.kids.length kd, .slice ab A.2.arms.length ae, .int .i64 uk, .string un, .int .i64 ui, .int .i64 uh, .slice ua ul uc] (heap_alloc_new wr _) rfl A.2 ((body_repC HRepB.out HBr1.out HOwn.out _).imp (fun b hb => ⟨⟨hb.1.1.1, hb.1.2⟩, hb.2⟩)) (l.length + 1) rfl hl1 (HZA.out _) ?_; intro sa' sc' w' hrow' hg'; have HRow' := Lib.hid hrow'; have HG' := Lib.hid hg'; clear hrow' hg')
      have HBx' := Lib.hid ((HBx.out.lift (HA1.out _)).grown HG'.out (fun e => by have := HOw2.out _ e.symm; omega))
      have HBw : Hid (Below w.heap.size w w') := Below.grown (HBr1.out.trans ((HA1.out _).mono HBr1.out.size)) HG'.out (Nat.le_trans HBr1.out.size (HA1.out _).size) HOwn.out
      have HZ' : Hid (w.heap.size + 1 ≤ w'.heap.size) := Nat.le_trans (HZA.out _) HG'.out.size
      have HRow2 : Hid (RowG ExE w' (w.heap.size + 1) (fun b => S b ∧ b < w.heap.size) (.slice sa' (l ++ [A.2]).length sc') (l ++ [A.2])) := by
        show RowG _ _ _ _ _ _
        rw [List.length_append]
        exact HRow'.out
      have HL2 : Hid (l ++ [A.2] = T.kids ++ (T.arms.take (j + 1)).map (·.2)) := by show _ = _; rw [HLt.out, HL.out, List.append_assoc]
      go_roundw
      case rel => exact ⟨j + 1, l ++ [A.2], sa', sc', hlt, by go_num, by rw [List.length_append]; rfl, by rw [List.length_append]; simp; omega, HL2, HRow2, HBw, HZ', HBx'⟩
      case measure => simp [intOf]; omega
    · have HR : Hid (l = chN T) := by
        show _ = _
        rw [HL.out, List.take_of_length_le (by rw [← HN.out]; omega)]; rfl
      go_wp2
      go_ret
      have e : l = chN T := HR.out
      subst e
      exact ⟨_, _, rfl, HRow.out, HBr.out⟩
end Go.Proofs.Ytgfjcpeeoapjlaa

/- The reference's Depth of an expression; what ParseExpr asks of depths and widths. -/
namespace Go.Proofs.Ytgfjcpeeoapjlaa
open Go.RowKit Go.Maps Mth S3

/-- Of at most so many levels, with shallow types and narrow arms. -/
def fitE : Nat → Ex → Bool
  | 0, _ => false
  | n + 1, T => decide (T.kids.length ≤ 100000) && decide (T.arms.length ≤ 100000) && (T.k != 9 || decide (dep T.t ≤ 40)) && (T.k != 8 || decide (T.kids.length = 1)) && T.arms.all (fun A => decide (A.1.vars.length ≤ 4)) && (chN T).all (fitE n)
structure Fit (n : Nat) (T : Ex) : Prop where
  kids : T.kids.length ≤ 100000
  arms : T.arms.length ≤ 100000
  typ : T.k = 9 → dep T.t ≤ 40
  one : T.k = 8 → T.kids.length = 1
  vars : ∀ A ∈ T.arms, A.1.vars.length ≤ 4
  all : ∀ U ∈ chN T, fitE n U = true
theorem fit_open {n : Nat} {T : Ex} (h : fitE (n + 1) T = true) : Fit n T := by
  simp only [fitE, Bool.and_eq_true, decide_eq_true_eq, List.all_eq_true, Bool.or_eq_true] at h
  obtain ⟨⟨⟨⟨⟨h1, h2⟩, h3⟩, h6⟩, h4⟩, h5⟩ := h
  refine ⟨h1, h2, fun e => ?_, fun e => ?_, h4, h5⟩
  · rcases h3 with h3 | h3
    · rw [e] at h3; simp at h3
    · exact h3
  · rcases h6 with h6 | h6
    · rw [e] at h6; simp at h6
    · exact h6
theorem fit_pos {n : Nat} {T : Ex} (h : fitE n T = true) : ∃ m, n = m + 1 := by
  cases n with
  | zero => cases h
  | succ m => exact ⟨m, rfl⟩
/-- An expression of a list, cell by cell. -/
theorem ex_at {w : World} {S : Nat → Prop} {xs : List Ex} {a : Option Addr} {n c : Nat} (h : SlG ExE w S xs (.slice a n c)) {j : Nat} {U : Ex} (hU : xs[j]? = some U) :
    ∃ ad kb kd ab ae uk un ui uh ua ul uc, a = some ad ∧ RepE w S U [.int .i64 U.k, .int .i64 U.p, .string U.n, .int .i64 U.m, .slice kb U.kids.length kd, .slice ab U.arms.length ae, .int .i64 uk, .string un, .int .i64 ui, .int .i64 uh, .slice ua ul uc] ∧
      w.cell? (ad.add (j * 11)) = some (.int .i64 U.k) ∧ w.cell? ⟨(ad.add (j * 11)).block, (ad.add (j * 11)).off + 1, none⟩ = some (.int .i64 U.p) ∧ w.cell? ⟨(ad.add (j * 11)).block, (ad.add (j * 11)).off + 2, none⟩ = some (.string U.n) ∧ w.cell? ⟨(ad.add (j * 11)).block, (ad.add (j * 11)).off + 3, none⟩ = some (.int .i64 U.m) ∧ w.cell? ⟨(ad.add (j * 11)).block, (ad.add (j * 11)).off + 4, none⟩ = some (.slice kb U.kids.length kd) ∧ w.cell? ⟨(ad.add (j * 11)).block, (ad.add (j * 11)).off + 5, none⟩ = some (.slice ab U.arms.length ae) ∧
      w.cell? ⟨(ad.add (j * 11)).block, (ad.add (j * 11)).off + 6, none⟩ = some (.int .i64 uk) ∧ w.cell? ⟨(ad.add (j * 11)).block, (ad.add (j * 11)).off + 7, none⟩ = some (.string un) ∧ w.cell? ⟨(ad.add (j * 11)).block, (ad.add (j * 11)).off + 8, none⟩ = some (.int .i64 ui) ∧ w.cell? ⟨(ad.add (j * 11)).block, (ad.add (j * 11)).off + 9, none⟩ = some (.int .i64 uh) ∧ w.cell? ⟨(ad.add (j * 11)).block, (ad.add (j * 11)).off + 10, none⟩ = some (.slice ua ul uc) := by
  obtain ⟨ad, cc, had, -, hr, hc0, hcm⟩ := slG_get h hU
  have hr' : RepE w S U cc := hr
  obtain ⟨kb, kd, ab, ae, uk, un, ui, uh, ua, ul, uc, rfl⟩ := hr'.form
  rw [show ExE.k = 11 from rfl] at hc0 hcm
  exact ⟨ad, kb, kd, ab, ae, uk, un, ui, uh, ua, ul, uc, had, hr', hc0 _ rfl, hcm 1 _ (by decide) rfl, hcm 2 _ (by decide) rfl, hcm 3 _ (by decide) rfl, hcm 4 _ (by decide) rfl, hcm 5 _ (by decide) rfl, hcm 6 _ (by decide) rfl, hcm 7 _ (by decide) rfl, hcm 8 _ (by decide) rfl, hcm 9 _ (by decide) rfl, hcm 10 _ (by decide) rfl⟩
set_option maxRecDepth 100000 in
set_option maxHeartbeats 6400000 in
theorem depth4_any : ∀ (n : Nat), n ≤ 1000 → ∀ (T : Ex), fitE n T = true → ∀ (S : Nat → Prop) (c : List Value) (w : World), RepE w S T c →
    Calls Try.prog 74 #[.agg c.toArray] w fun e w' => ∃ d : Nat, e = .returned (.int .i64 d) ∧ d + 1 ≤ n ∧ Below w.heap.size w w' := by
  intro n
  induction n with
  | zero => intro _ T h; cases h
  | succ n ih =>
    intro hn T hfit S c w h
    have HF := Lib.hid (fit_open hfit)
    have HCh : Hid (∀ V, Below w.heap.size w V → Calls Try.prog 14 #[.agg c.toArray] V fun e w' => ∃ a cp, e = .returned (.slice a (chN T).length cp) ∧ SlG ExE w' (fun _ => True) (chN T) (.slice a (chN T).length cp) ∧ Below V.heap.size V w') := fun V hV => (refChildren_any T HF.out.kids HF.out.arms S c V (h.lift hV)).mono fun e w' ⟨a, cp, h1, h2, h3⟩ => ⟨a, cp, h1, h2.slG (fun _ _ => trivial) (fun _ _ => trivial), h3⟩
    have HI := Lib.hid (ih (by omega))
    have hlen : (chN T).length ≤ 200000 := by unfold chN; rw [List.length_append, List.length_map]; have := HF.out.kids; have := HF.out.arms; omega
    obtain ⟨ka, kc, aa, ac, tk, tn, ti, th, ta, tl, tc, rfl⟩ := h.form
    have hba : Below w.heap.size w (w.alloc (.cells #[.int .i64 T.k, .int .i64 T.p, .string T.n, .int .i64 T.m, .slice ka T.kids.length kc, .slice aa T.arms.length ac, .int .i64 tk, .string tn, .int .i64 ti, .int .i64 th, .slice ta tl tc] 36)) := (Below.refl _ w).alloc (Nat.le_refl _) _
    have HB0 := Lib.hid (BoxC.made 36 w [.int .i64 T.k, .int .i64 T.p, .string T.n, .int .i64 T.m, .slice ka T.kids.length kc, .slice aa T.arms.length ac, .int .i64 tk, .string tn, .int .i64 ti, .int .i64 th, .slice ta tl tc])
    have HBa := Lib.hid hba
    clear h hba hfit ih
    obtain ⟨m, hm⟩ : ∃ m, m = (chN T).length := ⟨_, rfl⟩
    rw [← hm] at HCh hlen
    have HM := Lib.hid hm
    clear hm
    generalize T.kids.length = kn at *
    generalize T.arms.length = an at *
    simp only [List.toArray] at HB0 HCh ⊢
    go_enter Try.func74, Try.ntmps74
    go_upto_region 1 with fail
    generalize (w.alloc (.cells #[.int .i64 T.k, .int .i64 T.p, .string T.n, .int .i64 T.m, .slice ka kn kc, .slice aa an ac, .int .i64 tk, .string tn, .int .i64 ti, .int .i64 th, .slice ta tl tc] 36)) = V at *
    obtain ⟨b0, b1, b2, b3, b4, b5, b6, b7, b8, b9, b10⟩ := bx11 HB0.out
    go_wp2_with fail
    go_at_call 14
    refine (HCh.out V HBa.out).mono ?_
    rintro e W ⟨ca, cp, rfl, hsl, hb1⟩
    have HSl := Lib.hid hsl
    have HBW := Lib.hid (HBa.out.trans (hb1.mono HBa.out.size))
    have HR0 : Hid (Below W.heap.size W W) := Below.refl _ _
    clear hsl hb1 b0 b1 b2 b3 b4 b5 b6 b7 b8 b9 b10 HCh HB0 HBa
    go_wp2
    go_loopw [3, 5] (fun y i wr => ∃ j d : Nat, j ≤ m ∧ i = .int .i64 j ∧ y = .int .i64 d ∧ d ≤ n ∧ Hid (Below W.heap.size W wr)) (fun _ i _ => m - (intOf i).toNat)
    case atStart => exact ⟨0, 0, Nat.zero_le _, rfl, rfl, Nat.zero_le _, HR0⟩
    case round =>
      clear HR0
      obtain ⟨j, d, hj, rfl, rfl, hd, HBr⟩ := hrel
      by_cases hlt : j < m
      · obtain ⟨U, hU⟩ : ∃ x, (chN T)[j]? = some x := ⟨_, List.getElem?_eq_getElem (by rw [← HM.out]; exact hlt)⟩
        have hfU := HF.out.all U (List.mem_of_getElem? hU)
        obtain ⟨n', hn'⟩ := fit_pos hfU
        obtain ⟨ad, kb, kd, ab, ae, uk, un, ui, uh, ua, ul, uc, rfl, hr, q0, q1, q2, q3, q4, q5, q6, q7, q8, q9, q10⟩ := ex_at (HSl.out.kept (fun _ h => h) (fun b _ hl => HBr.out.block b hl)) hU
        have HC := Lib.hid (HI.out U hfU _ _ wr hr)
        have hji : (j : Int) < (m : Int) := by omega
        clear hU hfU hr
        simp only [List.toArray] at HC
        go_wp2_with (go_at_call 74; refine HC.out.mono ?_; rintro e w3 ⟨d', rfl, hd', hb3⟩; have HB3 := Lib.hid (HBr.out.trans (hb3.mono HBr.out.size)); clear hb3)
        go_roundw
        case rel => exact ⟨j + 1, max d (1 + d'), hlt, by go_num, by go_num, by omega, HB3⟩
        case measure => simp [intOf]; omega
      · go_wp2
        go_ret
        exact ⟨d, rfl, by omega, HBW.out.trans (HBr.out.mono HBW.out.size)⟩
end Go.Proofs.Ytgfjcpeeoapjlaa

/- What ParseExpr asks of an expression: no type too deep, no arm too wide, not too deep itself. -/
namespace Go.Proofs.Ytgfjcpeeoapjlaa
open Go.RowKit Go.Maps Mth S3

set_option maxRecDepth 100000 in
set_option maxHeartbeats 6400000 in
theorem deepType_any : ∀ (n : Nat), n ≤ 1000 → ∀ (T : Ex), fitE n T = true → ∀ (S : Nat → Prop) (c : List Value) (w : World), RepE w S T c →
    Calls Try.prog 75 #[.agg c.toArray] w fun e w' => e = .returned (.bool false) ∧ Below w.heap.size w w' := by
  intro n
  induction n with
  | zero => intro _ T h; cases h
  | succ n ih =>
    intro hn T hfit S c w h
    have HF := Lib.hid (fit_open hfit)
    have HCh : Hid (∀ V, Below w.heap.size w V → Calls Try.prog 14 #[.agg c.toArray] V fun e w' => ∃ a cp, e = .returned (.slice a (chN T).length cp) ∧ SlG ExE w' (fun _ => True) (chN T) (.slice a (chN T).length cp) ∧ Below V.heap.size V w') := fun V hV => (refChildren_any T HF.out.kids HF.out.arms S c V (h.lift hV)).mono fun e w' ⟨a, cp, h1, h2, h3⟩ => ⟨a, cp, h1, h2.slG (fun _ _ => trivial) (fun _ _ => trivial), h3⟩
    have HI := Lib.hid (ih (by omega))
    have hlen : (chN T).length ≤ 200000 := by unfold chN; rw [List.length_append, List.length_map]; have := HF.out.kids; have := HF.out.arms; omega
    have HTy := Lib.hid h.open
    obtain ⟨ka, kc, aa, ac, tk, tn, ti, th, ta, tl, tc, rfl⟩ := h.form
    have hba : Below w.heap.size w (w.alloc (.cells #[.int .i64 T.k, .int .i64 T.p, .string T.n, .int .i64 T.m, .slice ka T.kids.length kc, .slice aa T.arms.length ac, .int .i64 tk, .string tn, .int .i64 ti, .int .i64 th, .slice ta tl tc] 36)) := (Below.refl _ w).alloc (Nat.le_refl _) _
    have HB0 := Lib.hid (BoxC.made 36 w [.int .i64 T.k, .int .i64 T.p, .string T.n, .int .i64 T.m, .slice ka T.kids.length kc, .slice aa T.arms.length ac, .int .i64 tk, .string tn, .int .i64 ti, .int .i64 th, .slice ta tl tc])
    have HBa := Lib.hid hba
    have HDp : Hid (T.k = 9 → ∀ V, Below w.heap.size w V → ∃ d : Nat, d ≤ 40 ∧ Calls Try.prog 80 #[.agg #[.int .i64 tk, .string tn, .int .i64 ti, .int .i64 th, .slice ta tl tc]] V fun e w' => e = .returned (.int .i64 d) ∧ Below V.heap.size V w') := fun h9 V hV => by
      have hd := HF.out.typ h9
      obtain ⟨kv, av, tc0, e0, -, -, -, ht⟩ := h.open
      simp only [List.cons.injEq] at e0
      obtain ⟨-, -, -, -, -, -, rfl⟩ := e0
      exact ⟨dep T.t, hd, depth_any T.t (by omega) _ _ V (ht.lift hV)⟩
    clear HTy
    clear h hba hfit ih
    obtain ⟨m, hm⟩ : ∃ m, m = (chN T).length := ⟨_, rfl⟩
    rw [← hm] at HCh hlen
    have HM := Lib.hid hm
    clear hm
    generalize T.kids.length = kn at *
    generalize T.arms.length = an at *
    simp only [List.toArray] at HB0 HCh ⊢
    cases h9 : (T.k == 9) with
    | false =>
      clear HDp
      go_enter Try.func75, Try.ntmps75
      go_upto_region 1 with fail
      generalize (w.alloc (.cells #[.int .i64 T.k, .int .i64 T.p, .string T.n, .int .i64 T.m, .slice ka kn kc, .slice aa an ac, .int .i64 tk, .string tn, .int .i64 ti, .int .i64 th, .slice ta tl tc] 36)) = V at *
      obtain ⟨b0, b1, b2, b3, b4, b5, b6, b7, b8, b9, b10⟩ := bx11 HB0.out
      have HB1 := HBa
      generalize hV1 : V = V1 at *
      go_wp2_with fail
      go_at_call 14
      refine (HCh.out V1 HB1.out).mono ?_
      rintro e W ⟨ca, cp, rfl, hsl, hb1⟩
      have HSl := Lib.hid hsl
      have HBW := Lib.hid (HB1.out.trans (hb1.mono HB1.out.size))
      have HR0 : Hid (Below W.heap.size W W) := Below.refl _ _
      clear hsl hb1 b0 b1 b2 b3 b4 b5 b6 b7 b8 b9 b10 HCh
      go_wp2
      go_loopw [4] (fun i wr => ∃ j : Nat, j ≤ m ∧ i = .int .i64 j ∧ Hid (Below W.heap.size W wr)) (fun i _ => m - (intOf i).toNat)
      case atStart => exact ⟨0, Nat.zero_le _, rfl, HR0⟩
      case round =>
        clear HR0
        obtain ⟨j, hj, rfl, HBr⟩ := hrel
        by_cases hlt : j < m
        · obtain ⟨U, hU⟩ : ∃ x, (chN T)[j]? = some x := ⟨_, List.getElem?_eq_getElem (by rw [← HM.out]; exact hlt)⟩
          have hfU := HF.out.all U (List.mem_of_getElem? hU)
          obtain ⟨ad, kb, kd, ab, ae, uk, un, ui, uh, ua, ul, uc, rfl, hr, q0, q1, q2, q3, q4, q5, q6, q7, q8, q9, q10⟩ := ex_at (HSl.out.kept (fun _ h => h) (fun b _ hl => HBr.out.block b hl)) hU
          have HC := Lib.hid (HI.out U hfU _ _ wr hr)
          have hji : (j : Int) < (m : Int) := by omega
          clear hU hfU hr
          simp only [List.toArray] at HC
          go_wp2_with (go_at_call 75; refine HC.out.mono ?_; rintro e w3 ⟨rfl, hb3⟩; have HB3 := Lib.hid (HBr.out.trans (hb3.mono HBr.out.size)); clear hb3)
          go_roundw
          case rel => exact ⟨j + 1, hlt, by go_num, HB3⟩
          case measure => simp [intOf]; omega
        · go_wp2
          go_ret
          exact ⟨rfl, HBW.out.trans (HBr.out.mono HBW.out.size)⟩
    | true =>
      obtain ⟨dd, hdd, hDc⟩ := HDp.out (by simpa using h9) _ HBa.out
      have HDc := Lib.hid hDc
      have hgt : decide ((40 : Int) < (dd : Int)) = false := by simp; omega
      have hgt' : ¬ (40 : Int) < (dd : Int) := by omega
      clear HDp hDc
      go_enter Try.func75, Try.ntmps75
      go_upto_region 1 with fail
      generalize (w.alloc (.cells #[.int .i64 T.k, .int .i64 T.p, .string T.n, .int .i64 T.m, .slice ka kn kc, .slice aa an ac, .int .i64 tk, .string tn, .int .i64 ti, .int .i64 th, .slice ta tl tc] 36)) = V at *
      obtain ⟨b0, b1, b2, b3, b4, b5, b6, b7, b8, b9, b10⟩ := bx11 HB0.out
      go_wp2_with (go_at_call 80; refine HDc.out.mono ?_; rintro e V1 ⟨rfl, hbd⟩; have HB1 := Lib.hid (HBa.out.trans (hbd.mono HBa.out.size)); obtain ⟨b0, b1, b2, b3, b4, b5, b6, b7, b8, b9, b10⟩ := bx11 (HB0.out.lift hbd); clear hbd)
      refine (HCh.out V1 HB1.out).mono ?_
      rintro e W ⟨ca, cp, rfl, hsl, hb1⟩
      have HSl := Lib.hid hsl
      have HBW := Lib.hid (HB1.out.trans (hb1.mono HB1.out.size))
      have HR0 : Hid (Below W.heap.size W W) := Below.refl _ _
      clear hsl hb1 b0 b1 b2 b3 b4 b5 b6 b7 b8 b9 b10 HCh
      go_wp2
      go_loopw [4] (fun i wr => ∃ j : Nat, j ≤ m ∧ i = .int .i64 j ∧ Hid (Below W.heap.size W wr)) (fun i _ => m - (intOf i).toNat)
      case atStart => exact ⟨0, Nat.zero_le _, rfl, HR0⟩
      case round =>
        clear HR0
        obtain ⟨j, hj, rfl, HBr⟩ := hrel
        by_cases hlt : j < m
        · obtain ⟨U, hU⟩ : ∃ x, (chN T)[j]? = some x := ⟨_, List.getElem?_eq_getElem (by rw [← HM.out]; exact hlt)⟩
          have hfU := HF.out.all U (List.mem_of_getElem? hU)
          obtain ⟨ad, kb, kd, ab, ae, uk, un, ui, uh, ua, ul, uc, rfl, hr, q0, q1, q2, q3, q4, q5, q6, q7, q8, q9, q10⟩ := ex_at (HSl.out.kept (fun _ h => h) (fun b _ hl => HBr.out.block b hl)) hU
          have HC := Lib.hid (HI.out U hfU _ _ wr hr)
          have hji : (j : Int) < (m : Int) := by omega
          clear hU hfU hr
          simp only [List.toArray] at HC
          go_wp2_with (go_at_call 75; refine HC.out.mono ?_; rintro e w3 ⟨rfl, hb3⟩; have HB3 := Lib.hid (HBr.out.trans (hb3.mono HBr.out.size)); clear hb3)
          go_roundw
          case rel => exact ⟨j + 1, hlt, by go_num, HB3⟩
          case measure => simp [intOf]; omega
        · go_wp2
          go_ret
          exact ⟨rfl, HBW.out.trans (HBr.out.mono HBW.out.size)⟩
end Go.Proofs.Ytgfjcpeeoapjlaa

/- No arm is too wide; an expression is not too deep. -/
namespace Go.Proofs.Ytgfjcpeeoapjlaa
open Go.RowKit Go.Maps Mth S3

set_option maxRecDepth 100000 in
set_option maxHeartbeats 6400000 in
theorem wide_any : ∀ (n : Nat), n ≤ 1000 → ∀ (T : Ex), fitE n T = true → ∀ (S : Nat → Prop) (c : List Value) (w : World), RepE w S T c →
    Calls Try.prog 55 #[.agg c.toArray] w fun e w' => e = .returned (.tuple #[.int .i64 0, .bool false]) ∧ Below w.heap.size w w' := by
  intro n
  induction n with
  | zero => intro _ T h; cases h
  | succ n ih =>
    intro hn T hfit S c w h
    have HF := Lib.hid (fit_open hfit)
    have HCh : Hid (∀ V, Below w.heap.size w V → Calls Try.prog 14 #[.agg c.toArray] V fun e w' => ∃ a cp, e = .returned (.slice a (chN T).length cp) ∧ SlG ExE w' (fun _ => True) (chN T) (.slice a (chN T).length cp) ∧ Below V.heap.size V w') := fun V hV => (refChildren_any T HF.out.kids HF.out.arms S c V (h.lift hV)).mono fun e w' ⟨a, cp, h1, h2, h3⟩ => ⟨a, cp, h1, h2.slG (fun _ _ => trivial) (fun _ _ => trivial), h3⟩
    have HI := Lib.hid (ih (by omega))
    have hlen : (chN T).length ≤ 200000 := by unfold chN; rw [List.length_append, List.length_map]; have := HF.out.kids; have := HF.out.arms; omega
    obtain ⟨ka, kc, aa, ac, tk, tn, ti, th, ta, tl, tc, rfl⟩ := h.form
    have hba : Below w.heap.size w (w.alloc (.cells #[.int .i64 T.k, .int .i64 T.p, .string T.n, .int .i64 T.m, .slice ka T.kids.length kc, .slice aa T.arms.length ac, .int .i64 tk, .string tn, .int .i64 ti, .int .i64 th, .slice ta tl tc] 36)) := (Below.refl _ w).alloc (Nat.le_refl _) _
    have HB0 := Lib.hid (BoxC.made 36 w [.int .i64 T.k, .int .i64 T.p, .string T.n, .int .i64 T.m, .slice ka T.kids.length kc, .slice aa T.arms.length ac, .int .i64 tk, .string tn, .int .i64 ti, .int .i64 th, .slice ta tl tc])
    have HBa := Lib.hid hba
    obtain ⟨kv, av, tc0, e0, -, -, ha, -⟩ := id h.open
    simp only [List.cons.injEq] at e0
    obtain ⟨-, -, -, -, rfl, rfl, -⟩ := e0
    have HAr := Lib.hid (ha.kept (fun _ h => h) (fun b _ hl => hba.block b hl))
    have hal := HF.out.arms
    clear ha
    clear h hba hfit ih
    obtain ⟨m, hm⟩ : ∃ m, m = (chN T).length := ⟨_, rfl⟩
    rw [← hm] at HCh hlen
    have HM := Lib.hid hm
    clear hm
    generalize T.kids.length = kn at *
    obtain ⟨an, han⟩ : ∃ n, n = T.arms.length := ⟨_, rfl⟩
    rw [← han] at HAr hal HB0 HBa HCh ⊢
    have HAn := Lib.hid han
    clear han
    simp only [List.toArray] at HB0 HCh ⊢
    go_enter Try.func55, Try.ntmps55
    go_upto_region 1 with fail
    generalize (w.alloc (.cells #[.int .i64 T.k, .int .i64 T.p, .string T.n, .int .i64 T.m, .slice ka kn kc, .slice aa an ac, .int .i64 tk, .string tn, .int .i64 ti, .int .i64 th, .slice ta tl tc] 36)) = V at *
    obtain ⟨b0, b1, b2, b3, b4, b5, b6, b7, b8, b9, b10⟩ := bx11 HB0.out
    have HR9 : Hid (Below V.heap.size V V) := Below.refl _ _
    clear b0 b1 b2 b3 b4 b5 b6 b7 b8 b9 b10
    go_wp2
    go_loopw [4] (fun i wr => ∃ j : Nat, j ≤ an ∧ i = .int .i64 j ∧ Hid (Below V.heap.size V wr)) (fun i _ => an - (intOf i).toNat)
    case atStart => exact ⟨0, Nat.zero_le _, rfl, HR9⟩
    case round =>
     clear HR9
     obtain ⟨j, hj, rfl, HBq⟩ := hrel
     have b5 := (HB0.out.lift HBq.out).cell 5 _ rfl
     by_cases hlt : j < an
     · obtain ⟨A, hA⟩ : ∃ x, T.arms[j]? = some x := ⟨_, List.getElem?_eq_getElem (by rw [← HAn.out]; exact hlt)⟩
       have hv := HF.out.vars A (List.mem_of_getElem? hA)
       obtain ⟨ad, cs, had, -, ⟨vv, cb, rfl, hvv, -⟩, hc0, hcm⟩ := slG_get (HAr.out.kept (fun _ h => h) (fun b _ hl => HBq.out.block b hl)) hA
       subst had
       have q2 : _ = some vv := hcm 2 _ (by decide) rfl
       rw [show AmE.k = 14 from rfl] at q2
       obtain ⟨va, vc, rfl, -⟩ := slice_form hvv
       generalize A.1.vars.length = vn at *
       have hji : (j : Int) < (an : Int) := by omega
       have hvi : ¬ (4 : Int) < (vn : Int) := by omega
       clear hA hvv hc0 hcm
       go_wp2
       go_roundw
       case rel => exact ⟨j + 1, hlt, by go_num, HBq⟩
       case measure => simp [intOf]; omega
     have HB1 := Lib.hid (HBa.out.trans (HBq.out.mono HBa.out.size))
     obtain ⟨b0, b1, b2, b3, b4, -, b6, b7, b8, b9, b10⟩ := bx11 (HB0.out.lift HBq.out)
     clear HBq hj HAr
     generalize hV1 : wr = V1 at *
     go_wp2_with fail
     go_at_call 14
     refine (HCh.out V1 HB1.out).mono ?_
     rintro e W ⟨ca, cp, rfl, hsl, hb1⟩
     have HSl := Lib.hid hsl
     have HBW := Lib.hid (HB1.out.trans (hb1.mono HB1.out.size))
     have HR0 : Hid (Below W.heap.size W W) := Below.refl _ _
     clear hsl hb1 b0 b1 b2 b3 b4 b5 b6 b7 b8 b9 b10 HCh
     go_wp2
     go_loopw [6] (fun i wr => ∃ j : Nat, j ≤ m ∧ i = .int .i64 j ∧ Hid (Below W.heap.size W wr)) (fun i _ => m - (intOf i).toNat)
     case atStart => exact ⟨0, Nat.zero_le _, rfl, HR0⟩
     case round =>
       clear HR0
       obtain ⟨j, hj, rfl, HBr⟩ := hrel
       by_cases hlt : j < m
       · obtain ⟨U, hU⟩ : ∃ x, (chN T)[j]? = some x := ⟨_, List.getElem?_eq_getElem (by rw [← HM.out]; exact hlt)⟩
         have hfU := HF.out.all U (List.mem_of_getElem? hU)
         obtain ⟨ad, kb, kd, ab, ae, uk, un, ui, uh, ua, ul, uc, rfl, hr, q0, q1, q2, q3, q4, q5, q6, q7, q8, q9, q10⟩ := ex_at (HSl.out.kept (fun _ h => h) (fun b _ hl => HBr.out.block b hl)) hU
         have HC := Lib.hid (HI.out U hfU _ _ wr hr)
         have hji : (j : Int) < (m : Int) := by omega
         clear hU hfU hr
         simp only [List.toArray] at HC
         go_wp2_with (go_at_call 55; refine HC.out.mono ?_; rintro e w3 ⟨rfl, hb3⟩; have HB3 := Lib.hid (HBr.out.trans (hb3.mono HBr.out.size)); clear hb3)
         go_roundw
         case rel => exact ⟨j + 1, hlt, by go_num, HB3⟩
         case measure => simp [intOf]; omega
       · go_wp2
         refine bodyPost_ret (by simp [results, Try.results55, go_sem]; try rfl) rfl ?_
         exact ⟨rfl, HBW.out.trans (HBr.out.mono HBW.out.size)⟩
set_option maxRecDepth 100000 in
set_option maxHeartbeats 3200000 in
theorem deepExpr_any (T : Ex) (hfit : fitE 41 T = true) (S : Nat → Prop) (c : List Value) (w : World) (h : RepE w S T c) :
    Calls Try.prog 54 #[.agg c.toArray] w fun e w' => e = .returned (.bool false) ∧ Below w.heap.size w w' := by
  have HD := Lib.hid (fun V (hV : Below w.heap.size w V) => depth4_any 41 (by decide) T hfit S c V (h.lift hV))
  have HT := Lib.hid (fun V (hV : Below w.heap.size w V) => deepType_any 41 (by decide) T hfit S c V (h.lift hV))
  obtain ⟨ka, kc, aa, ac, tk, tn, ti, th, ta, tl, tc, rfl⟩ := h.form
  have hba : Below w.heap.size w (w.alloc (.cells #[.int .i64 T.k, .int .i64 T.p, .string T.n, .int .i64 T.m, .slice ka T.kids.length kc, .slice aa T.arms.length ac, .int .i64 tk, .string tn, .int .i64 ti, .int .i64 th, .slice ta tl tc] 36)) := (Below.refl _ w).alloc (Nat.le_refl _) _
  have HB0 := Lib.hid (BoxC.made 36 w [.int .i64 T.k, .int .i64 T.p, .string T.n, .int .i64 T.m, .slice ka T.kids.length kc, .slice aa T.arms.length ac, .int .i64 tk, .string tn, .int .i64 ti, .int .i64 th, .slice ta tl tc])
  have HBa := Lib.hid hba
  clear h hba
  generalize T.kids.length = kn at *
  generalize T.arms.length = an at *
  simp only [List.toArray] at HB0 HD HT ⊢
  go_enter Try.func54, Try.ntmps54
  go_upto_region 1 with fail
  generalize (w.alloc (.cells #[.int .i64 T.k, .int .i64 T.p, .string T.n, .int .i64 T.m, .slice ka kn kc, .slice aa an ac, .int .i64 tk, .string tn, .int .i64 ti, .int .i64 th, .slice ta tl tc] 36)) = V at *
  obtain ⟨b0, b1, b2, b3, b4, b5, b6, b7, b8, b9, b10⟩ := bx11 HB0.out
  go_wp2_with fail
  go_at_call 74
  refine (HD.out V HBa.out).mono ?_
  rintro e V1 ⟨d, rfl, hd, hb1⟩
  have HB1 := Lib.hid (HBa.out.trans (hb1.mono HBa.out.size))
  obtain ⟨d0, d1, d2, d3, d4, d5, d6, d7, d8, d9, d10⟩ := bx11 (HB0.out.lift hb1)
  have hdi : ¬ (40 : Int) < (d : Int) := by omega
  have hdb : decide ((40 : Int) < (d : Int)) = false := decide_eq_false hdi
  clear hb1 b0 b1 b2 b3 b4 b5 b6 b7 b8 b9 b10
  go_wp2_with (go_at_call 75; refine (HT.out V1 HB1.out).mono ?_; rintro e V2 ⟨rfl, hb2⟩)
  go_ret
  exact ⟨rfl, HB1.out.trans (hb2.mono HB1.out.size)⟩
end Go.Proofs.Ytgfjcpeeoapjlaa

/- The part at a path: the reference's At; the names that are bound on the way. -/
namespace Go.Proofs.Ytgfjcpeeoapjlaa
open Go.RowKit Go.Maps Mth S3

/-- The child with an index. -/
def kidE (T : Ex) (z : Int) : Option Ex := if z < 0 then none else (chN T)[z.toNat]?
/-- The part at a path. -/
def atE : Ex → List Int → Option Ex
  | T, [] => some T
  | T, z :: l => match kidE T z with | some U => atE U l | none => none
/-- The names that are bound on the way. -/
def onW : Ex → List Int → Option (List ByteArray)
  | _, [] => some []
  | T, z :: l => match kidE T z with | some U => (onW U l).map (bnN T z.toNat ++ ·) | none => none
/-- The names that are visible at a path. -/
def visN (T : Ex) (zs : List Int) : List ByteArray := match onW T zs with | some l => lastN l | none => []
theorem atE_step {T : Ex} {zs : List Int} {j : Nat} {z : Int} (h : zs[j]? = some z) : atE T (zs.drop j) = match kidE T z with | some U => atE U (zs.drop (j + 1)) | none => none := by
  obtain ⟨hl, e⟩ := List.getElem?_eq_some_iff.1 h
  rw [List.drop_eq_getElem_cons hl, e]; rfl
theorem onW_step {T : Ex} {zs : List Int} {j : Nat} {z : Int} (h : zs[j]? = some z) : onW T (zs.drop j) = match kidE T z with | some U => (onW U (zs.drop (j + 1))).map (bnN T z.toNat ++ ·) | none => none := by
  obtain ⟨hl, e⟩ := List.getElem?_eq_some_iff.1 h
  rw [List.drop_eq_getElem_cons hl, e]; rfl
theorem at_on : ∀ (zs : List Int) (T : Ex), (atE T zs).isSome = (onW T zs).isSome := by
  intro zs
  induction zs with
  | nil => intro T; rfl
  | cons z l ih =>
    intro T
    simp only [atE, onW]
    cases kidE T z with
    | none => rfl
    | some U => simp [ih U]
theorem kidE_some {T U : Ex} {z : Int} (h : kidE T z = some U) : 0 ≤ z ∧ (chN T)[z.toNat]? = some U ∧ z < ((chN T).length : Int) := by
  unfold kidE at h
  split at h
  · cases h
  · have := (List.getElem?_eq_some_iff.1 h).1
    exact ⟨by omega, h, by omega⟩
theorem kidE_none {T : Ex} {z : Int} (h : kidE T z = none) : z < 0 ∨ ((chN T).length : Int) ≤ z := by
  unfold kidE at h
  split at h
  · exact .inl (by assumption)
  · have := List.getElem?_eq_none_iff.1 h
    omega
/-- Of at most so many levels, with lists that are not huge; the ways down bind at most m names, none of them huge. -/
def fitV : Nat → Nat → Ex → Bool
  | 0, _, _ => false
  | n + 1, m, T => decide (T.kids.length ≤ 100000) && decide (T.arms.length ≤ 100000) && (T.k != 8 || decide (T.kids.length = 1)) && (List.range (chN T).length).all fun i => decide ((bnN T i).length ≤ m) && (bnN T i).all (fun x => decide (x.size ≤ 100000)) && match (chN T)[i]? with | some U => fitV n (m - (bnN T i).length) U | none => true
structure FitV (n m : Nat) (T : Ex) : Prop where
  kids : T.kids.length ≤ 100000
  arms : T.arms.length ≤ 100000
  one : T.k = 8 → T.kids.length = 1
  all : ∀ (i : Nat) (U : Ex), (chN T)[i]? = some U → (bnN T i).length ≤ m ∧ (∀ x ∈ bnN T i, x.size ≤ 100000) ∧ fitV n (m - (bnN T i).length) U = true
theorem fitV_open {n m : Nat} {T : Ex} (h : fitV (n + 1) m T = true) : FitV n m T := by
  simp only [fitV, Bool.and_eq_true, decide_eq_true_eq, List.all_eq_true, Bool.or_eq_true] at h
  obtain ⟨⟨⟨h1, h2⟩, h3⟩, h4⟩ := h
  refine ⟨h1, h2, fun e => ?_, fun i U hU => ?_⟩
  · rcases h3 with h3 | h3
    · rw [e] at h3; simp at h3
    · exact h3
  · obtain ⟨⟨h5, h6⟩, h7⟩ := h4 i (List.mem_range.2 (List.getElem?_eq_some_iff.1 hU).1)
    rw [hU] at h7
    exact ⟨h5, h6, h7⟩
theorem fitV_mk {n m : Nat} {T : Ex} (h : FitV n m T) : fitV (n + 1) m T = true := by
  simp only [fitV, Bool.and_eq_true, decide_eq_true_eq, List.all_eq_true, Bool.or_eq_true]
  refine ⟨⟨⟨h.kids, h.arms⟩, ?_⟩, fun i hi => ?_⟩
  · by_cases e : T.k = 8
    · exact .inr (h.one e)
    · left; simpa using e
  · obtain ⟨U, hU⟩ : ∃ U, (chN T)[i]? = some U := ⟨_, List.getElem?_eq_getElem (List.mem_range.1 hi)⟩
    obtain ⟨h1, h2, h3⟩ := h.all i U hU
    rw [hU]
    exact ⟨⟨h1, h2⟩, h3⟩
theorem fitV_pos {n m : Nat} {T : Ex} (h : fitV n m T = true) : ∃ k, n = k + 1 := by
  cases n with
  | zero => cases h
  | succ k => exact ⟨k, rfl⟩
theorem kid_V {n m : Nat} {T U : Ex} {z : Int} (h : fitV n m T = true) (hk : kidE T z = some U) : (bnN T z.toNat).length ≤ m ∧ (∀ x ∈ bnN T z.toNat, x.size ≤ 100000) ∧ ∃ k, fitV k (m - (bnN T z.toNat).length) U = true := by
  obtain ⟨k, rfl⟩ := fitV_pos h
  obtain ⟨h1, h2, h3⟩ := (fitV_open h).all _ U (kidE_some hk).2.1
  exact ⟨h1, h2, k, h3⟩
theorem fit_kid {T U : Ex} {z : Int} (h : ∃ n m, fitV n m T = true) (hk : kidE T z = some U) : ∃ n m, fitV n m U = true := by
  obtain ⟨n, m, h⟩ := h
  obtain ⟨-, -, k, h3⟩ := kid_V h hk
  exact ⟨k, _, h3⟩
/-- The walking expression's box, apart from the result's box. -/
structure AtSt (w : World) (B : Nat) (T : Ex) (wr : World) : Prop where
  box : ∃ c, BoxC 36 wr w.heap.size c ∧ RepE wr (fun b => b ≠ w.heap.size ∧ b ≠ B) T c
  low : Below w.heap.size w wr
  lt : w.heap.size < wr.heap.size
theorem AtSt.lift {w : World} {B : Nat} {T : Ex} {wr v : World} (H : AtSt w B T wr) (hb : Below wr.heap.size wr v) : AtSt w B T v := by
  obtain ⟨⟨c, h1, h2⟩, h3, h4⟩ := H
  exact ⟨⟨c, h1.lift hb, h2.lift hb⟩, h3.trans (hb.mono h3.size), Nat.lt_of_lt_of_le h4 hb.size⟩
end Go.Proofs.Ytgfjcpeeoapjlaa

/- The reference's At: the part of an expression at a path. -/
namespace Go.Proofs.Ytgfjcpeeoapjlaa
open Go.RowKit Go.Maps Mth S3

/-- No expression at all. -/
def zE : List Value := [.int .i64 0, .int .i64 0, .string ⟨#[]⟩, .int .i64 0, .slice none 0 0, .slice none 0 0, .int .i64 0, .string ⟨#[]⟩, .int .i64 0, .int .i64 0, .slice none 0 0]
theorem zE_one : ∀ u ∈ zE, u.oneCell' = true := by intro u hu; unfold zE at hu; simp only [List.mem_cons, List.not_mem_nil, or_false] at hu; rcases hu with rfl | rfl | rfl | rfl | rfl | rfl | rfl | rfl | rfl | rfl | rfl <;> rfl
structure AtW (w : World) (T : Ex) (wr : World) : Prop where
  box : ∃ c, BoxC 36 wr w.heap.size c ∧ RepE wr (fun b => b ≠ w.heap.size ∧ b ≠ w.heap.size + 1) T c
  res : BoxC 36 wr (w.heap.size + 1) zE
  low : Below w.heap.size w wr
theorem AtW.lift {w : World} {T : Ex} {wr v : World} (H : AtW w T wr) (hb : Below wr.heap.size wr v) : AtW w T v := by
  obtain ⟨⟨c, h1, h2⟩, h3, h4⟩ := H
  exact ⟨⟨c, h1.lift hb, h2.lift hb⟩, h3.lift hb, h4.trans (hb.mono h4.size)⟩
theorem AtW.lt {w : World} {T : Ex} {wr : World} (H : AtW w T wr) : w.heap.size + 1 < wr.heap.size := H.res.lt
/-- The child is stored into the box. -/
theorem AtW.stored {w : World} {T U : Ex} {wr v : World} {c : List Value} (H : AtW w T wr) (hr : RepE wr (fun b => b ≠ w.heap.size ∧ b ≠ w.heap.size + 1) U c) (hB : BoxC 36 v w.heap.size c) (hg : wr.grownBy v (some w.heap.size)) : AtW w U v :=
  ⟨⟨c, hB, hr.kept (fun _ h => h) (fun b hb hl => hg.block b hl (fun e => hb.1 (Option.some.inj e)))⟩, H.res.grown hg (fun e => by have := Option.some.inj e; omega), Below.grown H.low hg H.low.size (fun k hk => by have := Option.some.inj hk; omega)⟩
/-- What At answers. -/
def AtOut (w : World) : Option Ex → Ending → World → Prop
  | some U, e, w' => ∃ c : List Value, e = .returned (.tuple #[.agg c.toArray, .bool true]) ∧ RepE w' (fun b => b ≠ w.heap.size ∧ b ≠ w.heap.size + 1) U c ∧ Below w.heap.size w w'
  | none, e, w' => e = .returned (.tuple #[.agg zE.toArray, .bool false]) ∧ Below w.heap.size w w'
set_option maxRecDepth 100000 in
set_option maxHeartbeats 6400000 in
theorem refAt_any (T : Ex) (hfit : ∃ n m, fitV n m T = true) (zs : List Int) (S : Nat → Prop) (c : List Value) (pv : Value) (w : World) (h : RepE w S T c) (hp : Ints w pv zs) :
    Calls Try.prog 36 #[.agg c.toArray, pv] w (AtOut w (atE T zs)) := by
  have hlt : ∀ b, (S b ∧ b < w.heap.size) → (b ≠ w.heap.size ∧ b ≠ w.heap.size + 1) := fun b hb => ⟨by omega, by omega⟩
  have hrep0 := h.bound.imp hlt
  obtain ⟨ka, kc, aa, ac, tk, tn, ti, th, ta, tl, tc, rfl⟩ := h.form
  obtain ⟨pa, pc, rfl, hpl, hpc, hcell⟩ := hp
  have HP := Lib.hid hcell
  have H0 : Hid (AtW w T ((w.alloc (.cells #[.int .i64 T.k, .int .i64 T.p, .string T.n, .int .i64 T.m, .slice ka T.kids.length kc, .slice aa T.arms.length ac, .int .i64 tk, .string tn, .int .i64 ti, .int .i64 th, .slice ta tl tc] 36)).alloc (.cells #[.int .i64 0, .int .i64 0, .string ⟨#[]⟩, .int .i64 0, .slice none 0 0, .slice none 0 0, .int .i64 0, .string ⟨#[]⟩, .int .i64 0, .int .i64 0, .slice none 0 0] 36))) := by
    show AtW _ _ ((w.alloc (.cells #[.int .i64 T.k, .int .i64 T.p, .string T.n, .int .i64 T.m, .slice ka T.kids.length kc, .slice aa T.arms.length ac, .int .i64 tk, .string tn, .int .i64 ti, .int .i64 th, .slice ta tl tc] 36)).alloc (.cells zE.toArray 36))
    have hb1 : Below w.heap.size w (w.alloc (.cells #[.int .i64 T.k, .int .i64 T.p, .string T.n, .int .i64 T.m, .slice ka T.kids.length kc, .slice aa T.arms.length ac, .int .i64 tk, .string tn, .int .i64 ti, .int .i64 th, .slice ta tl tc] 36)) := (Below.refl _ w).alloc (Nat.le_refl _) _
    have hB := BoxC.made 36 w [.int .i64 T.k, .int .i64 T.p, .string T.n, .int .i64 T.m, .slice ka T.kids.length kc, .slice aa T.arms.length ac, .int .i64 tk, .string tn, .int .i64 ti, .int .i64 th, .slice ta tl tc]
    have hsz : (w.alloc (.cells #[.int .i64 T.k, .int .i64 T.p, .string T.n, .int .i64 T.m, .slice ka T.kids.length kc, .slice aa T.arms.length ac, .int .i64 tk, .string tn, .int .i64 ti, .int .i64 th, .slice ta tl tc] 36)).heap.size = w.heap.size + 1 := by simp
    simp only [List.toArray] at hB
    generalize (w.alloc (.cells #[.int .i64 T.k, .int .i64 T.p, .string T.n, .int .i64 T.m, .slice ka T.kids.length kc, .slice aa T.arms.length ac, .int .i64 tk, .string tn, .int .i64 ti, .int .i64 th, .slice ta tl tc] 36)) = V at *
    have hb2 : Below V.heap.size V (V.alloc (.cells zE.toArray 36)) := (Below.refl _ V).alloc (Nat.le_refl _) _
    have hB2 := BoxC.made 36 V zE
    rw [hsz] at hB2
    exact ⟨⟨_, hB.lift hb2, (hrep0.lift hb1).lift hb2⟩, hB2, hb1.trans (hb2.mono hb1.size)⟩
  have HF0 : Hid (∃ n m, fitV n m T = true) := hfit
  clear h hlt hrep0 hcell hfit
  obtain ⟨m, hm⟩ : ∃ m, m = zs.length := ⟨_, rfl⟩
  have HM := Lib.hid hm
  rw [← hm] at hpl ⊢
  clear hm
  unfold maxLen at hpc
  generalize T.kids.length = kn at *
  generalize T.arms.length = an at *
  go_enter Try.func36, Try.ntmps36
  go_upto_region 1 with fail
  generalize ((w.alloc (.cells #[.int .i64 T.k, .int .i64 T.p, .string T.n, .int .i64 T.m, .slice ka kn kc, .slice aa an ac, .int .i64 tk, .string tn, .int .i64 ti, .int .i64 th, .slice ta tl tc] 36)).alloc (.cells #[.int .i64 0, .int .i64 0, .string ⟨#[]⟩, .int .i64 0, .slice none 0 0, .slice none 0 0, .int .i64 0, .string ⟨#[]⟩, .int .i64 0, .int .i64 0, .slice none 0 0] 36)) = V at *
  have HE0 : Hid (atE T zs = atE T (zs.drop 0)) := rfl
  go_wp2_with fail
  go_loopw [6] (fun i wr => ∃ (j : Nat) (U : Ex), j ≤ m ∧ i = .int .i64 j ∧ Hid (atE T zs = atE U (zs.drop j)) ∧ Hid (∃ n m, fitV n m U = true) ∧ Hid (AtW w U wr)) (fun i _ => m - (intOf i).toNat)
  case atStart => exact ⟨0, T, Nat.zero_le _, rfl, HE0, HF0, H0⟩
  case round =>
    clear HE0 HF0 H0
    obtain ⟨j, U, hj, rfl, HE, HF, HW⟩ := hrel
    obtain ⟨cu, hbox, hrep⟩ := HW.out.box
    obtain ⟨ua, uc, va, vc, yk, yn, yi, yh, ya, yl, yc, rfl⟩ := hrep.form
    obtain ⟨b0, b1, b2, b3, b4, b5, b6, b7, b8, b9, b10⟩ := bx11 hbox
    have HB := Lib.hid hbox
    have HR := Lib.hid hrep
    clear hbox
    by_cases hlt : j < m
    · obtain ⟨z, hz⟩ : ∃ x, zs[j]? = some x := ⟨_, List.getElem?_eq_getElem (by rw [← HM.out]; exact hlt)⟩
      have HS := Lib.hid (atE_step (T := U) hz)
      obtain ⟨ad, rfl, hpc1⟩ := HP.out j z hz
      have hpb := (HW.out.low.cell (World.block_lt_of_cell? _ _ hpc1)).trans hpc1
      obtain ⟨n', q', hn'⟩ := HF.out
      obtain ⟨n'', rfl⟩ := fitV_pos hn'
      have HFt := Lib.hid (fitV_open hn')
      have HCh : Hid (Calls Try.prog 14 #[.agg #[.int .i64 U.k, .int .i64 U.p, .string U.n, .int .i64 U.m, .slice ua U.kids.length uc, .slice va U.arms.length vc, .int .i64 yk, .string yn, .int .i64 yi, .int .i64 yh, .slice ya yl yc]] wr fun e w' => ∃ a cp, e = .returned (.slice a (chN U).length cp) ∧ SlG ExE w' (fun b => b ≠ w.heap.size ∧ b ≠ w.heap.size + 1) (chN U) (.slice a (chN U).length cp) ∧ Below wr.heap.size wr w') := (refChildren_any U HFt.out.kids HFt.out.arms _ _ wr hrep).mono fun e w' ⟨a, cp, h1, h2, h3⟩ => ⟨a, cp, h1, h2.slG (fun _ h => h.1) (fun b hb => by have := HW.out.lt; constructor <;> omega), h3⟩
      have hlen : (chN U).length ≤ 200000 := by unfold chN; rw [List.length_append, List.length_map]; have := HFt.out.kids; have := HFt.out.arms; omega
      have hji : (j : Int) < (m : Int) := by omega
      clear hz hpc1 hrep HFt
      obtain ⟨q, hq⟩ : ∃ q, q = (chN U).length := ⟨_, rfl⟩
      rw [← hq] at HCh hlen
      have HQ := Lib.hid hq
      clear hq
      cases hk : kidE U z with
      | none =>
        have HN : Hid (atE T zs = none) := by show _ = _; rw [HE.out, HS.out, hk]
        have hcz := kidE_none hk
        rw [← HQ.out] at hcz
        clear hn' hk
        rcases hcz with hz1 | hz1
        · generalize U.kids.length = k1 at *
          generalize U.arms.length = k2 at *
          go_wp2_with (first
            | (go_at_call 14; refine HCh.out.mono ?_; rintro e w3 ⟨ca, cp, rfl, hsl, hb3⟩; have HW3 := Lib.hid (HW.out.lift hb3); have hpb3 := (hb3.cell (World.block_lt_of_cell? _ _ hpb)).trans hpb; clear hb3 hsl hpb)
            | (refine wpList_storeC rfl _ _ rfl _ _ zE HW3.out.res rfl rfl sizeEx rfl zE_one ?_; intro w4 hB4 hg4 hs4))
          have c0 := hB4.cell 0 _ rfl; have c1 := hB4.cell 1 _ rfl; have c2 := hB4.cell 2 _ rfl; have c3 := hB4.cell 3 _ rfl; have c4 := hB4.cell 4 _ rfl; have c5 := hB4.cell 5 _ rfl; have c6 := hB4.cell 6 _ rfl; have c7 := hB4.cell 7 _ rfl; have c8 := hB4.cell 8 _ rfl; have c9 := hB4.cell 9 _ rfl; have c10 := hB4.cell 10 _ rfl
          refine bodyPost_ret (by simp [results, Try.results36, go_sem, c0, c1, c2, c3, c4, c5, c6, c7, c8, c9, c10]; try rfl) rfl ?_
          rw [HN.out]
          exact ⟨rfl, Below.grown HW3.out.low hg4 HW3.out.low.size (fun k hk => by have := Option.some.inj hk; omega)⟩
        · generalize U.kids.length = k1 at *
          generalize U.arms.length = k2 at *
          go_wp2_with (first
            | (go_at_call 14; refine HCh.out.mono ?_; rintro e w3 ⟨ca, cp, rfl, hsl, hb3⟩; have HW3 := Lib.hid (HW.out.lift hb3); have hpb3 := (hb3.cell (World.block_lt_of_cell? _ _ hpb)).trans hpb; clear hb3 hsl hpb)
            | (refine wpList_storeC rfl _ _ rfl _ _ zE HW3.out.res rfl rfl sizeEx rfl zE_one ?_; intro w4 hB4 hg4 hs4))
          have c0 := hB4.cell 0 _ rfl; have c1 := hB4.cell 1 _ rfl; have c2 := hB4.cell 2 _ rfl; have c3 := hB4.cell 3 _ rfl; have c4 := hB4.cell 4 _ rfl; have c5 := hB4.cell 5 _ rfl; have c6 := hB4.cell 6 _ rfl; have c7 := hB4.cell 7 _ rfl; have c8 := hB4.cell 8 _ rfl; have c9 := hB4.cell 9 _ rfl; have c10 := hB4.cell 10 _ rfl
          refine bodyPost_ret (by simp [results, Try.results36, go_sem, c0, c1, c2, c3, c4, c5, c6, c7, c8, c9, c10]; try rfl) rfl ?_
          rw [HN.out]
          exact ⟨rfl, Below.grown HW3.out.low hg4 HW3.out.low.size (fun k hk => by have := Option.some.inj hk; omega)⟩
      | some V1 =>
        have HN : Hid (atE T zs = atE V1 (zs.drop (j + 1))) := by show _ = _; rw [HE.out, HS.out, hk]
        obtain ⟨hz0, hch, hzl⟩ := kidE_some hk
        rw [← HQ.out] at hzl
        obtain ⟨y, rfl⟩ : ∃ y : Nat, z = y := ⟨z.toNat, by omega⟩
        rw [Int.toNat_natCast] at hch
        have HC1 := Lib.hid hch
        have HF1 := Lib.hid (fit_kid ⟨_, _, hn'⟩ hk)
        clear hn' hk hch
        generalize U.kids.length = k1 at *
        generalize U.arms.length = k2 at *
        go_wp2_with (first
          | (go_at_call 14; refine HCh.out.mono ?_; rintro e w3 ⟨ca, cp, rfl, hsl, hb3⟩; have HW3 := Lib.hid (HW.out.lift hb3); have hpb3 := (hb3.cell (World.block_lt_of_cell? _ _ hpb)).trans hpb; have HBx3 := Lib.hid (HB.out.lift hb3); clear hb3 hpb; have HSl := Lib.hid hsl; clear hsl; obtain ⟨ad', kb, kd, ab, ae, uk, un, ui, uh, ua', ul, uc', hca, hr, q0, q1, q2, q3, q4, q5, q6, q7, q8, q9, q10⟩ := ex_at HSl.out HC1.out; subst hca; have HRv := Lib.hid hr; clear hr)
          | (refine wpList_storeC rfl _ _ rfl _ _ _ HBx3.out rfl rfl sizeEx rfl HRv.out.len.2 ?_; intro w4 hB4 hg4 hs4))
        have HW4 := Lib.hid (HW3.out.stored HRv.out hB4 hg4)
        go_roundw
        case rel => exact ⟨j + 1, V1, hlt, by go_num, HN, HF1, HW4⟩
        case measure => simp [intOf]; omega
    · have HN : Hid (atE T zs = some U) := by show _ = _; rw [HE.out, List.drop_eq_nil_of_le (by rw [← HM.out]; omega)]; rfl
      clear hrep
      generalize U.kids.length = k1 at *
      generalize U.arms.length = k2 at *
      go_wp2_with (refine wpList_storeC rfl _ _ rfl _ _ [.int .i64 U.k, .int .i64 U.p, .string U.n, .int .i64 U.m, .slice ua k1 uc, .slice va k2 vc, .int .i64 yk, .string yn, .int .i64 yi, .int .i64 yh, .slice ya yl yc] HW.out.res rfl rfl sizeEx rfl (by intro u hu; simp at hu; rcases hu with rfl | rfl | rfl | rfl | rfl | rfl | rfl | rfl | rfl | rfl | rfl <;> rfl) ?_; intro w4 hB4 hg4 hs4)
      have c0 := hB4.cell 0 _ rfl; have c1 := hB4.cell 1 _ rfl; have c2 := hB4.cell 2 _ rfl; have c3 := hB4.cell 3 _ rfl; have c4 := hB4.cell 4 _ rfl; have c5 := hB4.cell 5 _ rfl; have c6 := hB4.cell 6 _ rfl; have c7 := hB4.cell 7 _ rfl; have c8 := hB4.cell 8 _ rfl; have c9 := hB4.cell 9 _ rfl; have c10 := hB4.cell 10 _ rfl
      refine bodyPost_ret (by simp [results, Try.results36, go_sem, c0, c1, c2, c3, c4, c5, c6, c7, c8, c9, c10]; try rfl) rfl ?_
      rw [HN.out]
      exact ⟨_, rfl, HR.out.kept (fun _ h => h) (fun b hb hl => hg4.block b hl (fun e => hb.2 (Option.some.inj e))), Below.grown HW.out.low hg4 HW.out.low.size (fun k hk => by have := Option.some.inj hk; omega)⟩
end Go.Proofs.Ytgfjcpeeoapjlaa
