import Derived.Test.YtgcefodgjhlbeaaGreatDoorUS1
import Derived.RegionTactic
import Derived.Deep.CutBlock
import Derived.Test.YtgcefodgjhlbeaaGreatDoorUQ5
import Derived.Deep.LoopGhost
import Derived.Test.YtgcefodgjhlbeaaGreatDoorUS2
namespace Go.Proofs.YtgcefodgjhlbeaaGreatDoor
open Go.RowKit Go.Maps Go.Sort Mth

set_option maxRecDepth 100000 in
set_option maxHeartbeats 6400000 in
theorem shx_app3 (T a b : Ex) (hk : T.k = 5) (hts : T.kids = [a, b]) (Ha : XC a) (Hb : XC b) (hx : atomE a = false) (h5 : (a.k == 5) = false) (hsa : srcE a = true) (hsb : srcE b = true) (hl : (shE T).length ≤ 100000) (hsh : shE T = brk (!(atomE a || a.k == 5)) (shE a) ++ 32 :: brk (!atomE b) (shE b)) (c : List Value) (S : Nat → Prop) (w : World) (h : RepE w S T c) :
    Calls Tryz.prog 10 #[.agg c.toArray] w (ShV w (shE T)) := by
  have hLa : (shE a).length ≤ 100000 := by
    have := brk_len2 (!(atomE a || a.k == 5)) (shE a)
    rw [hsh] at hl; simp only [List.length_cons, List.length_append] at hl; omega
  have hLb : (shE b).length ≤ 100000 := by
    have := brk_len2 (!atomE b) (shE b)
    rw [hsh] at hl; simp only [List.length_cons, List.length_append] at hl; omega
  have hca4 := brk_4 (!(atomE a || a.k == 5)) _ hLa
  have hcb4 := brk_4 (!atomE b) _ hLb
  obtain ⟨kv, av, tc0, hc0, -, hkids, -, htt⟩ := h.open
  obtain ⟨ka, kc, aa, ac, tk, tn, ti, th, ta, tl, tc, rfl⟩ := h.form
  simp only [List.cons.injEq] at hc0
  obtain ⟨-, -, -, -, rfl, rfl, rfl⟩ := hc0
  rw [hts] at hkids
  obtain ⟨V, hV⟩ : ∃ V, V = w.alloc (.cells #[.int .i64 T.k, .int .i64 T.p, .string T.n, .int .i64 T.m, .slice ka T.kids.length kc, .slice aa T.arms.length ac, .int .i64 tk, .string tn, .int .i64 ti, .int .i64 th, .slice ta tl tc] 34) := ⟨_, rfl⟩
  have hlow : Below w.heap.size w V := by rw [hV]; exact (Below.refl _ w).alloc (Nat.le_refl _) _
  have hbx : BoxC 34 V w.heap.size [.int .i64 T.k, .int .i64 T.p, .string T.n, .int .i64 T.m, .slice ka T.kids.length kc, .slice aa T.arms.length ac, .int .i64 tk, .string tn, .int .i64 ti, .int .i64 th, .slice ta tl tc] := by rw [hV]; exact BoxC.made _ w _
  have HLow : Hid (LoW w V) := hlow
  have HBx := Lib.hid hbx
  obtain ⟨-, hkc, ad, c, d, rfl, hca, hra, hcb, hrb⟩ := kids2 (slG_lift hkids hlow)
  have hn1 : T.kids.length = 2 := by rw [hts]; rfl
  rw [hn1] at hV HBx ⊢
  obtain ⟨ka0, kc0, aa0, ac0, tk0, tn0, ti0, th0, ta0, tl0, tc0, rfl⟩ := hra.form
  have HKa : Hid (∀ W, Below V.heap.size V W → Calls Tryz.prog 10 #[.agg #[.int .i64 a.k, .int .i64 a.p, .string a.n, .int .i64 a.m, .slice ka0 a.kids.length kc0, .slice aa0 a.arms.length ac0, .int .i64 tk0, .string tn0, .int .i64 ti0, .int .i64 th0, .slice ta0 tl0 tc0]] W fun e w' => e = .returned (.string ⟨(shE a).toArray⟩) ∧ Below W.heap.size W w') := fun W hW => Ha _ S W (hra.lift hW)
  obtain ⟨q0, q1, q2, q3, q4, q5, q6, q7, q8, q9, q10⟩ := kidA hca
  obtain ⟨ka1, kc1, aa1, ac1, tk1, tn1, ti1, th1, ta1, tl1, tc1, rfl⟩ := hrb.form
  have HKb : Hid (∀ W, Below V.heap.size V W → Calls Tryz.prog 10 #[.agg #[.int .i64 b.k, .int .i64 b.p, .string b.n, .int .i64 b.m, .slice ka1 b.kids.length kc1, .slice aa1 b.arms.length ac1, .int .i64 tk1, .string tn1, .int .i64 ti1, .int .i64 th1, .slice ta1 tl1 tc1]] W fun e w' => e = .returned (.string ⟨(shE b).toArray⟩) ∧ Below W.heap.size W w') := fun W hW => Hb _ S W (hrb.lift hW)
  obtain ⟨r0, r1, r2, r3, r4, r5, r6, r7, r8, r9, r10⟩ := kidB hcb
  rw [hk] at hV HBx ⊢
  have HAa : Hid (∀ W, Below V.heap.size V W → Calls Tryz.prog 25 #[.agg #[.int .i64 a.k, .int .i64 a.p, .string a.n, .int .i64 a.m, .slice ka0 a.kids.length kc0, .slice aa0 a.arms.length ac0, .int .i64 tk0, .string tn0, .int .i64 ti0, .int .i64 th0, .slice ta0 tl0 tc0]] W fun e w' => e = .returned (.bool (atomE a)) ∧ Below W.heap.size W w') := fun W hW => exAtom_of a _ S W (hra.lift hW)
  have HAb : Hid (∀ W, Below V.heap.size V W → Calls Tryz.prog 25 #[.agg #[.int .i64 b.k, .int .i64 b.p, .string b.n, .int .i64 b.m, .slice ka1 b.kids.length kc1, .slice aa1 b.arms.length ac1, .int .i64 tk1, .string tn1, .int .i64 ti1, .int .i64 th1, .slice ta1 tl1 tc1]] W fun e w' => e = .returned (.bool (atomE b)) ∧ Below W.heap.size W w') := fun W hW => exAtom_of b _ S W (hrb.lift hW)
  have HCa : Hid (∀ W, Below V.heap.size V W → Calls Tryz.prog 24 #[.agg #[.int .i64 a.k, .int .i64 a.p, .string a.n, .int .i64 a.m, .slice ka0 a.kids.length kc0, .slice aa0 a.arms.length ac0, .int .i64 tk0, .string tn0, .int .i64 ti0, .int .i64 th0, .slice ta0 tl0 tc0], .bool (atomE a || a.k == 5)] W fun e w' => e = .returned (.string ⟨(brk (!(atomE a || a.k == 5)) (shE a)).toArray⟩) ∧ Below W.heap.size W w') := fun W hW => closed_of a (fun _ _ => Ha) hsa hLa _ _ S W (hra.lift hW)
  have HCb : Hid (∀ W, Below V.heap.size V W → Calls Tryz.prog 24 #[.agg #[.int .i64 b.k, .int .i64 b.p, .string b.n, .int .i64 b.m, .slice ka1 b.kids.length kc1, .slice aa1 b.arms.length ac1, .int .i64 tk1, .string tn1, .int .i64 ti1, .int .i64 th1, .slice ta1 tl1 tc1], .bool (atomE b)] W fun e w' => e = .returned (.string ⟨(brk (!atomE b) (shE b)).toArray⟩) ∧ Below W.heap.size W w') := fun W hW => closed_of b (fun _ _ => Hb) hsb hLb _ _ S W (hrb.lift hW)
  rw [hsh]
  clear HKa HKb hLa hLb
  generalize brk (!(atomE a || a.k == 5)) (shE a) = ca at *
  generalize brk (!atomE b) (shE b) = cb at *
  rw [hx] at HAa HCa
  rw [h5, show (false || false) = false from rfl] at HCa
  generalize atomE b = xb at *
  clear h hlow hbx htt hk hts hx Ha Hb hsa hsb hkids hca hra hcb hrb hn1 hl hsh
  generalize a.kids.length = kl0 at *
  generalize a.arms.length = al0 at *
  generalize b.kids.length = kl1 at *
  generalize b.arms.length = al1 at *
  generalize T.arms.length = al at *
  generalize T.p = tp at *
  generalize T.m = tm at *
  generalize a.k = ak at *
  generalize b.k = bk at *
  generalize T.n = nm at *
  go_enter Tryz.func10, Tryz.ntmps10
  go_upto_region 1 with fail
  rw [← hV]
  clear hV
  generalize w.heap.size = B at *
  obtain ⟨b0, b1, b2, b3, b4, b5, b6, b7, b8, b9, b10⟩ := HBx.out.all11
  have hBlt : B < V.heap.size := HBx.out.lt
  have hAlt : ad.block < V.heap.size := World.block_lt_of_cell? _ _ q0
  go_upto_region 12 with fail
  go_cut [3, 4] (fun s3 s4 wx => ∃ m n : Nat, s3 = .pointer (some ⟨m, 0, none⟩) ∧ s4 = .pointer (some ⟨n, 0, none⟩) ∧ Hid (App V wx m n [.int .i64 ak, .int .i64 a.p, .string a.n, .int .i64 a.m, .slice ka0 kl0 kc0, .slice aa0 al0 ac0, .int .i64 tk0, .string tn0, .int .i64 ti0, .int .i64 th0, .slice ta0 tl0 tc0] [.int .i64 bk, .int .i64 b.p, .string b.n, .int .i64 b.m, .slice ka1 kl1 kc1, .slice aa1 al1 ac1, .int .i64 tk1, .string tn1, .int .i64 ti1, .int .i64 th1, .slice ta1 tl1 tc1]))
  case first =>
    go_region
    all_goals
      go_wp2_with fail
      go_meet
      first
        | exact ⟨_, _, rfl, rfl, app1 V [.int .i64 ak, .int .i64 a.p, .string a.n, .int .i64 a.m, .slice ka0 kl0 kc0, .slice aa0 al0 ac0, .int .i64 tk0, .string tn0, .int .i64 ti0, .int .i64 th0, .slice ta0 tl0 tc0] [.int .i64 bk, .int .i64 b.p, .string b.n, .int .i64 b.m, .slice ka1 kl1 kc1, .slice aa1 al1 ac1, .int .i64 tk1, .string tn1, .int .i64 ti1, .int .i64 th1, .slice ta1 tl1 tc1]⟩
        | exact ⟨_, _, rfl, rfl, app2 V [.int .i64 ak, .int .i64 a.p, .string a.n, .int .i64 a.m, .slice ka0 kl0 kc0, .slice aa0 al0 ac0, .int .i64 tk0, .string tn0, .int .i64 ti0, .int .i64 th0, .slice ta0 tl0 tc0] [.int .i64 bk, .int .i64 b.p, .string b.n, .int .i64 b.m, .slice ka1 kl1 kc1, .slice aa1 al1 ac1, .int .i64 tk1, .string tn1, .int .i64 ti1, .int .i64 th1, .slice ta1 tl1 tc1]⟩
  case rest =>
    obtain ⟨m, n, rfl, rfl, HAp⟩ := hcut
    have HLu : Hid (LoW w wc) := HLow.out.go HAp.out.low
    have HVu := Lib.hid HAp.out.low
    clear q0 r0 b0 q1 r1 b1 q2 r2 b2 q3 r3 b3 q4 r4 b4 q5 r5 b5 q6 r6 b6 q7 r7 b7 q8 r8 b8 q9 r9 b9 q10 r10 b10 hBlt hAlt HLow
    obtain ⟨p0, p1, p2, p3, p4, p5, p6, p7, p8, p9, p10⟩ := HAp.out.one.all11
    obtain ⟨r0, r1, r2, r3, r4, r5, r6, r7, r8, r9, r10⟩ := HAp.out.two.all11
    clear HAp
    have P0 := cell_regrown p0; have P1 := cell_regrown p1; have P2 := cell_regrown p2; have P3 := cell_regrown p3; have P4 := cell_regrown p4; have P5 := cell_regrown p5; have P6 := cell_regrown p6; have P7 := cell_regrown p7; have P8 := cell_regrown p8; have P9 := cell_regrown p9; have P10 := cell_regrown p10
    have R0 := cell_regrown r0; have R1 := cell_regrown r1; have R2 := cell_regrown r2; have R3 := cell_regrown r3; have R4 := cell_regrown r4; have R5 := cell_regrown r5; have R6 := cell_regrown r6; have R7 := cell_regrown r7; have R8 := cell_regrown r8; have R9 := cell_regrown r9; have R10 := cell_regrown r10
    have z0 : ¬ 9223372036854775807 ≤ ca.length := by omega
    have z1 : ¬ 9223372036854775807 < ca.length + 1 := by omega
    have z2 : ¬ 9223372036854775807 < ca.length + 1 + cb.length := by omega
    go_wp2
    refine wp_region_quiet_below (by kernel_rfl) (by kernel_rfl) ?_
    repeat (quiet_step (first
        | (go_at_call 25; first | (with_reducible exact Calls.regrown_of (HAa.out _ (keepX HVu.out (below_regrown _ _ _)))) | (with_reducible exact Calls.regrown_of (HAb.out _ (keepX HVu.out (below_regrown _ _ _)))))
        | (go_at_call 24; first | (with_reducible exact Calls.regrown_of (HCa.out _ (keepX HVu.out (below_regrown _ _ _)))) | (with_reducible exact Calls.regrown_of (HCb.out _ (keepX HVu.out (below_regrown _ _ _)))))))
    refine wpQuiet_nil ?_
    intro _ hw'
    obtain ⟨⟨dq, osq⟩, hw''⟩ := hw'
    subst hw''
    have HL : Hid (LoW w (grow (redrawn wc dq) osq)) := HLu.out.go (below_regrown wc dq osq)
    clear p0 P0 p1 P1 p2 P2 p3 P3 p4 P4 p5 P5 p6 P6 p7 P7 p8 P8 p9 P9 p10 P10 r0 R0 r1 R1 r2 R2 r3 R3 r4 R4 r5 R5 r6 R6 r7 R7 r8 R8 r9 R9 r10 R10
    go_wp2
    go_ret
    exact ⟨ret_eq (by simp only [bl_app, List.append_assoc]; rfl), HL.out⟩
end Go.Proofs.YtgcefodgjhlbeaaGreatDoor

namespace Go.Proofs.YtgcefodgjhlbeaaGreatDoor
open Go.RowKit Go.Maps Go.Sort Mth

theorem shAr_snoc : ∀ (l : List (AH × Ex)) (h : AH) (e : Ex), shAr (l ++ [(h, e)]) = shAr l ++ 32 :: 124 :: 32 :: (armText h ++ shE e)
 | [], h, e => by simp [shAr]
 | (h', e') :: l, h, e => by simp only [List.cons_append, shAr, shAr_snoc l h e, List.append_assoc, List.cons_append]
def sepA (j : Nat) : List UInt8 := if j = 0 then [] else [32, 124, 32]
theorem shA0_snoc (l : List (AH × Ex)) (h : AH) (e : Ex) : shA0 (l ++ [(h, e)]) = shA0 l ++ (sepA l.length ++ (armText h ++ shE e)) := by
 cases l with
 | nil => simp [shA0, shAr, sepA]
 | cons a l =>
  obtain ⟨h', e'⟩ := a
  simp [shA0, shAr_snoc, sepA]
theorem shA0_take (l : List (AH × Ex)) (j : Nat) (A : AH × Ex) (h : l[j]? = some A) : shA0 (l.take (j + 1)) = shA0 (l.take j) ++ (sepA j ++ (armText A.1 ++ shE A.2)) := by
 have hj : j < l.length := (List.getElem?_eq_some_iff.1 h).1
 have hA : l[j] = A := (List.getElem?_eq_some_iff.1 h).2
 rw [List.take_succ_eq_append_getElem hj, hA, show A = (A.1, A.2) from rfl, shA0_snoc, List.length_take, Nat.min_eq_left (by omega)]
theorem shA0_le (l : List (AH × Ex)) : ∀ j, (shA0 (l.take j)).length ≤ (shA0 l).length := by
 have step : ∀ j, (shA0 (l.take j)).length ≤ (shA0 (l.take (j + 1))).length := fun j => by
  cases h : l[j]? with
  | none =>
   have := List.getElem?_eq_none_iff.1 h
   rw [List.take_of_length_le this, List.take_of_length_le (by omega)]
   exact Nat.le_refl _
  | some A => rw [shA0_take l j A h, List.length_append]; omega
 have up : ∀ m j, (shA0 (l.take j)).length ≤ (shA0 (l.take (j + m))).length := fun m => by
  induction m with
  | zero => intro j; exact Nat.le_refl _
  | succ m ih => intro j; exact Nat.le_trans (ih j) (step (j + m))
 intro j
 have := up l.length j
 rwa [List.take_of_length_le (l := l) (i := j + l.length) (by omega)] at this
def vsT (vs : List ByteArray) : List UInt8 := vs.flatMap fun v => 32 :: bl v
theorem vsT_take (vs : List ByteArray) (k : Nat) (v : ByteArray) (h : vs[k]? = some v) : vsT (vs.take (k + 1)) = vsT (vs.take k) ++ 32 :: bl v := by
 have hk : k < vs.length := (List.getElem?_eq_some_iff.1 h).1
 have hv : vs[k] = v := (List.getElem?_eq_some_iff.1 h).2
 rw [List.take_succ_eq_append_getElem hk, hv]
 simp [vsT]
theorem vsT_le (vs : List ByteArray) (k : Nat) : (vsT (vs.take k)).length ≤ (vsT vs).length := by
 conv => rhs; rw [← List.take_append_drop k vs]
 unfold vsT
 rw [List.flatMap_append, List.length_append]
 omega
set_option maxRecDepth 100000 in
set_option maxHeartbeats 12800000 in
theorem shx_case (T a : Ex) (hk : T.k = 8) (hts : T.kids = [a]) (Ha : XC a) (hA : ∀ A ∈ T.arms, XC A.2) (hl : (shE T).length ≤ 100000) (hsh : shE T = [99, 97, 115, 101] ++ 32 :: (shE a ++ 32 :: ([111, 102] ++ 32 :: (shA0 T.arms ++ 32 :: [101, 110, 100])))) (c : List Value) (S : Nat → Prop) (w : World) (h : RepE w S T c) :
  Calls Tryz.prog 10 #[.agg c.toArray] w (ShV w (shE T)) := by
 have hL : (shE a).length + (shA0 T.arms).length + 13 ≤ 100000 := by
  rw [hsh] at hl; simp only [List.length_cons, List.length_append, List.length_nil] at hl; omega
 have HAm := Lib.hid hA
 obtain ⟨kv, av, tc0, hc0, -, hkids, harms, htt⟩ := h.open
 obtain ⟨ka, kc, aa, ac, tk, tn, ti, th, ta, tl, tc, rfl⟩ := h.form
 simp only [List.cons.injEq] at hc0
 obtain ⟨-, -, -, -, rfl, rfl, rfl⟩ := hc0
 rw [hts] at hkids
 obtain ⟨V, hV⟩ : ∃ V, V = w.alloc (.cells #[.int .i64 T.k, .int .i64 T.p, .string T.n, .int .i64 T.m, .slice ka T.kids.length kc, .slice aa T.arms.length ac, .int .i64 tk, .string tn, .int .i64 ti, .int .i64 th, .slice ta tl tc] 34) := ⟨_, rfl⟩
 have hlow : Below w.heap.size w V := by rw [hV]; exact (Below.refl _ w).alloc (Nat.le_refl _) _
 have hbx : BoxC 34 V w.heap.size [.int .i64 T.k, .int .i64 T.p, .string T.n, .int .i64 T.m, .slice ka T.kids.length kc, .slice aa T.arms.length ac, .int .i64 tk, .string tn, .int .i64 ti, .int .i64 th, .slice ta tl tc] := by rw [hV]; exact BoxC.made _ w _
 have HLow : Hid (LoW w V) := hlow
 have HBx := Lib.hid hbx
 obtain ⟨-, hkc, ad, c, rfl, hca, hra⟩ := kids1 (slG_lift hkids hlow)
 have hn1 : T.kids.length = 1 := by rw [hts]; rfl
 rw [hn1] at hV HBx ⊢
 obtain ⟨ka0, kc0, aa0, ac0, tk0, tn0, ti0, th0, ta0, tl0, tc0, rfl⟩ := hra.form
 have HKa : Hid (∀ W, Below V.heap.size V W → Calls Tryz.prog 10 #[.agg #[.int .i64 a.k, .int .i64 a.p, .string a.n, .int .i64 a.m, .slice ka0 a.kids.length kc0, .slice aa0 a.arms.length ac0, .int .i64 tk0, .string tn0, .int .i64 ti0, .int .i64 th0, .slice ta0 tl0 tc0]] W fun e w' => e = .returned (.string ⟨(shE a).toArray⟩) ∧ Below W.heap.size W w') := fun W hW => Ha _ S W (hra.lift hW)
 obtain ⟨q0, q1, q2, q3, q4, q5, q6, q7, q8, q9, q10⟩ := kidA hca
 rw [hk] at hV HBx ⊢
 have HSa := Lib.hid (slG_lift harms hlow)
 have HLA := Lib.hid (shA0_le T.arms)
 rw [hsh]
 clear h hlow hbx htt hk hts Ha hA hkids harms hca hra hn1 hl hsh
 generalize a.kids.length = kl0 at *
 generalize a.arms.length = al0 at *
 generalize shE a = la at *
 generalize T.p = tp at *
 generalize T.m = tm at *
 generalize T.n = nm at *
 generalize hal : T.arms = l at *
 clear hal
 obtain ⟨al, hal⟩ : ∃ n, n = l.length := ⟨_, rfl⟩
 rw [← hal] at hV HBx HSa
 have HAl := Lib.hid hal
 clear hal
 go_enter Tryz.func10, Tryz.ntmps10
 go_upto_region 1 with fail
 rw [← HAl.out, ← hV]
 clear hV
 generalize w.heap.size = B at *
 obtain ⟨b0, b1, b2, b3, b4, b5, b6, b7, b8, b9, b10⟩ := HBx.out.all11
 go_wp2_with fail
 go_at_call 10
 refine (HKa.out _ (Below.refl _ _)).mono ?_
 rintro e V1 ⟨rfl, hb⟩
 have HB1 : Hid (Below V.heap.size V V1) := hb
 clear hb q0 b0 q1 b1 q2 b2 q3 b3 q4 b4 q5 b5 q6 b6 q7 b7 q8 b8 q9 b9 q10 b10 HKa
 have hal9 : al ≤ 9223372036854775807 := by
  obtain ⟨_, _, e, ⟨h1, h2⟩, _⟩ := HSa.out
  rw [← HAl.out] at h1
  unfold maxLen at h2; omega
 obtain ⟨P0, hP0⟩ : ∃ P0, P0 = [99, 97, 115, 101] ++ 32 :: (la ++ 32 :: ([111, 102] ++ 32 :: [])) := ⟨_, rfl⟩
 have hPl : P0.length = la.length + 9 := by rw [hP0]; simp only [List.length_cons, List.length_append, List.length_nil]; omega
 have HP0 := Lib.hid hP0
 clear hP0
 go_wp2
 go_loopw [5, 6] (fun y x wr => ∃ (j : Nat) (s : ByteArray), j ≤ al ∧ x = .int .i64 j ∧ y = .string s ∧ s.size ≤ 100000 ∧ Hid (bl s = P0 ++ shA0 (l.take j)) ∧ Hid (Below V.heap.size V wr)) (fun _ x _ => al - (intOf x).toNat)
 case atStart =>
  refine ⟨0, _, Nat.zero_le _, rfl, rfl, ?_, ?_, HB1⟩
  ·simp only [ByteArray.size_append]
   have e1 : (⟨#[99, 97, 115, 101, 32]⟩ : ByteArray).size = 5 := rfl
   have e2 : (⟨#[32, 111, 102, 32]⟩ : ByteArray).size = 4 := rfl
   have e3 : (⟨la.toArray⟩ : ByteArray).size = la.length := by show la.toArray.size = _; simp
   omega
  ·show _ = _
   rw [HP0.out]
   simp [bl_app, shA0]
   rfl
 case round =>
  clear HB1
  obtain ⟨j, s, hj, rfl, rfl, hsz, HS, HBr⟩ := hrel
  obtain ⟨b0, b1, b2, b3, b4, b5, b6, b7, b8, b9, b10⟩ := (HBx.out.lift HBr.out).all11
  by_cases hlt : j < al
  ·obtain ⟨⟨⟨ap, con, vars⟩, body⟩, hA⟩ : ∃ x, l[j]? = some x := ⟨_, List.getElem?_eq_getElem (by rw [← HAl.out]; exact hlt)⟩
   obtain ⟨xa, xc, exa, ⟨hxc, -⟩, hja⟩ := HSa.out
   simp only [Value.slice.injEq] at exa
   obtain ⟨rfl, -, rfl⟩ := exa
   obtain ⟨ad, c, rfl, -, hcells, ⟨vv, cb, rfl, hvv, hbody⟩⟩ := hja j _ hA
   dsimp only at hcells hvv hbody
   have hv9 : vars.length ≤ 9223372036854775807 := by
    obtain ⟨_, _, _, ⟨h1, h2⟩, _⟩ := hvv
    unfold maxLen at h2; omega
   obtain ⟨va, vc, rfl, -⟩ := hvv.slice
   obtain ⟨kb, kd, ab, ae, uk, un, ui, uh, ua, ul, uc, rfl⟩ := hbody.form
   have HBd : Hid (∀ W, Below V.heap.size V W → Calls Tryz.prog 10 #[.agg #[.int .i64 body.k, .int .i64 body.p, .string body.n, .int .i64 body.m, .slice kb body.kids.length kd, .slice ab body.arms.length ae, .int .i64 uk, .string un, .int .i64 ui, .int .i64 uh, .slice ua ul uc]] W fun e w' => e = .returned (.string ⟨(shE body).toArray⟩) ∧ Below W.heap.size W w') := fun W hW => HAm.out _ (List.mem_of_getElem? hA) _ S W (hbody.lift hW)
   have hcw : ∀ (m : Nat) (u : Value), (.int .i64 ap :: .string con :: .slice va vars.length vc :: [.int .i64 body.k, .int .i64 body.p, .string body.n, .int .i64 body.m, .slice kb body.kids.length kd, .slice ab body.arms.length ae, .int .i64 uk, .string un, .int .i64 ui, .int .i64 uh, .slice ua ul uc])[m]? = some u → wr.cell? (ad.add (j * 14 + m)) = some u := fun m u hu => by
    have h1 : V.cell? (ad.add (j * 14 + m)) = some u := hcells m u hu
    rw [HBr.out.cell (World.block_lt_of_cell? _ _ h1)]; exact h1
   obtain ⟨q0, q1, q2⟩ := arm3 hcw
   obtain ⟨r0, r1, r2, r3, r4, r5, r6, r7, r8, r9, r10⟩ := body11 hcw
   have HVs := Lib.hid (slG_lift hvv HBr.out)
   have htk := shA0_take l j _ hA
   have hle := HLA.out (j + 1)
   rw [htk] at hle
   have hsl : s.size = P0.length + (shA0 (l.take j)).length := by rw [← bl_len, HS.out, List.length_append]
   have hat : (armText ⟨ap, con, vars⟩).length = con.size + (vsT vars).length + 2 := by
    unfold armText
    simp only [List.length_append, List.length_cons, List.length_nil, bl_len]
    rfl
   simp only [List.length_append] at hle
   rw [hat] at hle
   have hmax : s.size + ((sepA j).length + (con.size + (vsT vars).length + 2 + (shE body).length)) ≤ 100000 := by omega
   have hat2 : armText ⟨ap, con, vars⟩ = bl con ++ (vsT vars ++ [46, 32]) := by unfold armText vsT; simp
   rw [hat2] at htk
   have HTk := Lib.hid htk
   have HVl := Lib.hid (vsT_le vars)
   have HSp : Hid (sepA j = if j = 0 then [] else [32, 124, 32]) := rfl
   have hji : (j : Int) < (al : Int) := by omega
   clear hcells hvv hbody hcw hA htk hja hsl hat hat2 hle HAm
   obtain ⟨vl, hvl⟩ : ∃ n, n = vars.length := ⟨_, rfl⟩
   rw [← hvl] at q2 hv9
   have HVn := Lib.hid hvl
   clear hvl
   generalize body.kids.length = x1 at *
   generalize body.arms.length = x2 at *
   generalize shE body = lb at *
   by_cases hj0 : 0 < j
   case' pos =>
    have hsp3 : (sepA j).length = 3 := by rw [HSp.out, if_neg (by omega)]; rfl
    have HX : Hid (bl (s ++ ⟨#[32, 124, 32]⟩ ++ con) = bl s ++ (sepA j ++ bl con)) := by
     show _ = _
     rw [HSp.out, if_neg (by omega)]
     simp [bl_app]
     rfl
   case' neg =>
    have hsp0 : (sepA j).length = 0 := by rw [HSp.out, if_pos (by omega)]; rfl
    have HX : Hid (bl (s ++ con) = bl s ++ (sepA j ++ bl con)) := by
     show _ = _
     rw [HSp.out, if_pos (by omega)]
     simp [bl_app]
   all_goals
    go_wp2
    go_loop [5, 7] (fun y x => ∃ (k : Nat) (s2 : ByteArray), k ≤ vl ∧ x = .int .i64 k ∧ y = .string s2 ∧ s2.size ≤ 100000 ∧ Hid (bl s2 = bl s ++ (sepA j ++ bl con) ++ vsT (vars.take k))) (fun _ x => vl - (intOf x).toNat)
    case atStart =>
     refine ⟨0, _, Nat.zero_le _, rfl, rfl, ?_, ?_⟩
     ·rw [← bl_len, HX.out]; simp only [List.length_append, bl_len]; omega
     ·show _ = _
      rw [HX.out]
      simp [vsT]
    case round =>
     obtain ⟨k, s2, hk, rfl, rfl, hs2, HS2⟩ := hrel
     by_cases hkl : k < vl
     ·obtain ⟨v, hv⟩ : ∃ x, vars[k]? = some x := ⟨_, List.getElem?_eq_getElem (by rw [← HVn.out]; exact hkl)⟩
      obtain ⟨ya, yc, eya, -, hjv⟩ := HVs.out
      simp only [Value.slice.injEq] at eya
      obtain ⟨rfl, -, rfl⟩ := eya
      obtain ⟨ad2, c2, rfl, -, hc2, hc2'⟩ := hjv k v hv
      have hc3 : c2 = [.string v] := hc2'
      subst hc3
      have p0 := hc2 0 _ rfl
      simp only [StrE, Nat.mul_one, Nat.add_zero] at p0
      have HT2 := Lib.hid (vsT_take vars k v hv)
      have hvk := HVl.out (k + 1)
      rw [HT2.out] at hvk
      simp only [List.length_append, List.length_cons, bl_len] at hvk
      have hki : (k : Int) < (vl : Int) := by omega
      have hsz2 : s2.size = s.size + ((sepA j).length + con.size) + (vsT (vars.take k)).length := by rw [← bl_len, HS2.out]; simp only [List.length_append, bl_len]
      have hnew : s2.size + (1 + v.size) ≤ 100000 := by omega
      clear hc2 hc2' hjv hv hvk hsz2
      go_wp2
      go_round
      case rel =>
       refine ⟨k + 1, _, hkl, by go_num, rfl, ?_, ?_⟩
       ·simp only [ByteArray.size_append]
        have e1 : (⟨#[32]⟩ : ByteArray).size = 1 := rfl
        omega
       ·show _ = _
        rw [HT2.out, bl_app, bl_app, HS2.out]
        simp
        rfl
      case measure => simp [intOf]; omega
     ·have hke : k = vl := by omega
      have hki : ¬ (k : Int) < (vl : Int) := by omega
      have hS3 := HS2.out
      rw [hke, HVn.out, List.take_length] at hS3
      have HS3 := Lib.hid hS3
      have hsz2 : s2.size = s.size + ((sepA j).length + con.size) + (vsT vars).length := by rw [← bl_len, HS3.out]; simp only [List.length_append, bl_len]
      have hnew : s2.size + (2 + lb.length) ≤ 100000 := by omega
      clear hS3 hke hsz2 HS2
      go_wp2_with fail
      go_at_call 10
      refine (HBd.out _ HBr.out).mono ?_
      rintro e w2 ⟨rfl, hb2⟩
      have HB2 := Lib.hid (HBr.out.trans (hb2.mono HBr.out.size))
      clear hb2 b0 b1 b2 b3 b4 b5 b6 b7 b8 b9 b10 q0 q1 q2 r0 r1 r2 r3 r4 r5 r6 r7 r8 r9 r10
      go_wp2
      go_roundw
      case rel =>
       refine ⟨j + 1, _, hlt, by go_num, rfl, ?_, ?_, HB2⟩
       ·simp only [ByteArray.size_append]
        have e1 : (⟨#[46, 32]⟩ : ByteArray).size = 2 := rfl
        have e2 : (⟨lb.toArray⟩ : ByteArray).size = lb.length := by show lb.toArray.size = _; simp
        omega
       ·show _ = _
        rw [HTk.out, bl_app, bl_app, HS3.out, HS.out]
        simp
        rfl
      case measure => simp [intOf]; omega
  ·obtain rfl : j = al := by omega
   have hji : ¬ (j : Int) < (j : Int) := by omega
   have hS := HS.out
   rw [HAl.out, List.take_length] at hS
   have HS2 := Lib.hid hS
   have HL : Hid (LoW w wr) := HLow.out.go HBr.out
   clear hS HS
   go_wp2
   go_ret
   exact ⟨ret_eq (by rw [bl_app, HS2.out, HP0.out]; simp; rfl), HL.out⟩
end Go.Proofs.YtgcefodgjhlbeaaGreatDoor

namespace Go.Proofs.YtgcefodgjhlbeaaGreatDoor
open Go.RowKit Go.Maps Mth

theorem isLo_pos {l : List UInt8} (h : isLo l = true) : 1 ≤ l.length := by
 cases l with
 | nil => revert h; decide
 | cons a l => simp
theorem isUp_pos {l : List UInt8} (h : isUp l = true) : 1 ≤ l.length := by
 cases l with
 | nil => revert h; decide
 | cons a l => simp
theorem brk_le (q : Bool) (l : List UInt8) : l.length ≤ (brk q l).length := by
 cases q <;> simp [brk] <;> omega
theorem shA_nodes : ∀ l : List Ty, (∀ U ∈ l, nodes U ≤ (shT U).length) → nodesL l ≤ (shA l).length
 | [], _ => Nat.le_refl _
 | t :: l, h => by
  have h1 := h t (by simp)
  have h2 := shA_nodes l fun U hU => h U (by simp [hU])
  have h3 := brk_le (conArgs t) (shT t)
  simp only [nodesL, shA, List.length_cons, List.length_append]
  omega
theorem nodes_le : ∀ T, src T = true → nodes T ≤ (shT T).length := by
 refine tyInd fun T ih hs => ?_
 cases T with
 | mk k n i h ts =>
  have hm := fun U (hU : U ∈ ts) => ih U hU (srcL_mem (by simp only [src, Bool.and_eq_true] at hs; exact hs.2) hU)
  simp only [src, Bool.and_eq_true] at hs
  obtain ⟨⟨-, hk⟩, -⟩ := hs
  by_cases h5 : (k == 5) = true
  ·rw [if_pos h5] at hk
   simp only [Bool.and_eq_true, beq_iff_eq] at hk
   have h1 := isLo_pos hk.1
   obtain rfl := List.eq_nil_of_length_eq_zero hk.2
   simp only [shT, h5, if_true, nodes, nodesL]
   omega
  ·rw [if_neg h5] at hk
   simp only [Bool.and_eq_true] at hk
   have h5' : (k == 5) = false := by simpa using h5
   by_cases ha : (n.toList == [45, 62]) = true
   ·rw [if_pos ha] at hk
    match ts, hk.2, hm with
    | [a, c], _, hm =>
     have h1 := hm a (by simp)
     have h2 := hm c (by simp)
     have h3 := brk_le (isArr a) (shT a)
     simp only [shT, h5', ha, if_true, Bool.false_eq_true, if_false, shH, shB, nodes, nodesL, List.length_append, List.length_cons, List.length_nil]
     omega
   ·rw [if_neg ha] at hk
    have h1 := isUp_pos hk.2
    have h2 := shA_nodes ts hm
    have ha' : (n.toList == [45, 62]) = false := by simpa using ha
    simp only [shT, h5', ha', Bool.false_eq_true, if_false, nodes, List.length_append]
    omega
theorem one_of {l : List Ex} (h : l.length = 1) : ∃ a, l = [a] := by
 match l, h with
 | [a], _ => exact ⟨a, rfl⟩
theorem two_of {l : List Ex} (h : l.length = 2) : ∃ a b, l = [a, b] := by
 match l, h with
 | [a, b], _ => exact ⟨a, b, rfl⟩
theorem arm_le : ∀ (l : List (AH × Ex)) (A : AH × Ex), A ∈ l → (shE A.2).length ≤ (shA0 l).length ∧ (shE A.2).length ≤ (shAr l).length
 | (h, e) :: l, A, hA => by
  rcases List.mem_cons.1 hA with rfl | hA
  ·simp only [shA0, shAr, List.length_append, List.length_cons]; omega
  ·have := (arm_le l A hA).2
   simp only [shA0, shAr, List.length_append, List.length_cons]; omega
theorem xs_any : ∀ T, XsAt T := by
 refine Ex.induct fun T ihK ihA hs hl c S w h => ?_
 have HK := fun U (hU : U ∈ T.kids) (hsU : srcE U = true) (hlU : (shE U).length ≤ 100000) => (show XC U from fun c S w h => ihK U hU hsU hlU c S w h)
 have HA := fun A (hA : A ∈ T.arms) (hsA : srcE A.2 = true) (hlA : (shE A.2).length ≤ 100000) => (show XC A.2 from fun c S w h => ihA A hA hsA hlA c S w h)
 clear ihK ihA
 obtain ⟨k, p, n, m, t, kids, arms⟩ := T
 simp only [Ex.kids, Ex.arms] at HK HA
 have hs0 := hs
 simp only [srcE, Bool.and_eq_true] at hs
 obtain ⟨⟨⟨⟨⟨⟨-, htz⟩, hka⟩, hkm⟩, hsK⟩, hsA⟩, hc⟩ := hs
 have hkid : ∀ U ∈ kids, srcE U = true := fun U hU => srcK_mem hsK hU
 by_cases h1 : (k == 1) = true
 ·have e := beq_iff_eq.1 h1; subst e
  exact shx_var _ rfl (by simp [shE, Ex.n]) c S w h
 rw [if_neg h1] at hc
 by_cases h2 : (k == 2) = true
 ·have e := beq_iff_eq.1 h2; subst e
  exact shx_con _ rfl (by simp [shE, Ex.n]) c S w h
 rw [if_neg h2] at hc
 by_cases h3 : (k == 3) = true
 ·have e := beq_iff_eq.1 h3; subst e
  simp only [show ((3 : Int) == 3) = true from rfl, if_true, Bool.and_eq_true, decide_eq_true_eq] at hc
  obtain ⟨u, rfl⟩ : ∃ u : Nat, m = u := ⟨m.toNat, by omega⟩
  exact shx_int _ u rfl rfl (by omega) (by simp [shE]) c S w h
 rw [if_neg h3] at hc
 by_cases h4 : (k == 4) = true
 ·have e := beq_iff_eq.1 h4; subst e
  simp only [show ((4 : Int) == 4) = true from rfl, if_true, Bool.and_eq_true, beq_iff_eq] at hc
  obtain ⟨a, rfl⟩ := one_of hc.2
  have hsh : shE (.mk 4 p n m t [a] arms) = 92 :: (bl n ++ 46 :: 32 :: shE a) := by simp [shE, shK]
  have hla : (shE a).length ≤ 100000 := by rw [hsh] at hl; simp only [List.length_cons, List.length_append] at hl; omega
  exact shx_lam _ a rfl rfl (HK a (by simp) (hkid a (by simp)) hla) hl hsh c S w h
 rw [if_neg h4] at hc
 by_cases h5 : (k == 5) = true
 ·have e := beq_iff_eq.1 h5; subst e
  simp only [show ((5 : Int) == 5) = true from rfl, if_true, Bool.and_eq_true, beq_iff_eq] at hc
  obtain ⟨a, b, rfl⟩ := two_of hc.2
  have hsh : shE (.mk 5 p n m t [a, b] arms) = brk (!(atomE a || a.k == 5)) (shE a) ++ 32 :: brk (!atomE b) (shE b) := by simp [shE, shF, shG]
  have e1 := brk_le (!(atomE a || a.k == 5)) (shE a)
  have e2 := brk_le (!atomE b) (shE b)
  have hlab : (shE a).length ≤ 100000 ∧ (shE b).length ≤ 100000 := by rw [hsh] at hl; simp only [List.length_cons, List.length_append] at hl; omega
  have Ha := HK a (by simp) (hkid a (by simp)) hlab.1
  have Hb := HK b (by simp) (hkid b (by simp)) hlab.2
  cases hx : atomE a with
  | true => exact shx_app1 _ a b rfl rfl Ha Hb hx (hkid a (by simp)) (hkid b (by simp)) hl hsh c S w h
  | false =>
   cases h55 : (a.k == 5) with
   | true => exact shx_app2 _ a b rfl rfl Ha Hb hx (beq_iff_eq.1 h55) (hkid a (by simp)) (hkid b (by simp)) hl hsh c S w h
   | false => exact shx_app3 _ a b rfl rfl Ha Hb hx h55 (hkid a (by simp)) (hkid b (by simp)) hl hsh c S w h
 rw [if_neg h5] at hc
 by_cases h6 : (k == 6) = true
 ·have e := beq_iff_eq.1 h6; subst e
  simp only [show ((6 : Int) == 6 || (6 : Int) == 7) = true from rfl, if_true, Bool.and_eq_true, beq_iff_eq] at hc
  obtain ⟨a, b, rfl⟩ := two_of hc.2
  have hsh : shE (.mk 6 p n m t [a, b] arms) = [108, 101, 116] ++ 32 :: (bl n ++ 32 :: 61 :: 32 :: (shE a ++ 32 :: ([105, 110] ++ 32 :: shE b))) := by simp [shE, shLt, shK]
  have hlab : (shE a).length ≤ 100000 ∧ (shE b).length ≤ 100000 := by rw [hsh] at hl; simp only [List.length_cons, List.length_append] at hl; omega
  exact shx_let _ a b rfl rfl (HK a (by simp) (hkid a (by simp)) hlab.1) (HK b (by simp) (hkid b (by simp)) hlab.2) hl hsh c S w h
 by_cases h7 : (k == 7) = true
 ·have e := beq_iff_eq.1 h7; subst e
  simp only [show ((7 : Int) == 6 || (7 : Int) == 7) = true from rfl, if_true, Bool.and_eq_true, beq_iff_eq] at hc
  obtain ⟨a, b, rfl⟩ := two_of hc.2
  have hsh : shE (.mk 7 p n m t [a, b] arms) = [108, 101, 116] ++ 32 :: ([114, 101, 99] ++ 32 :: (bl n ++ 32 :: 61 :: 32 :: (shE a ++ 32 :: ([105, 110] ++ 32 :: shE b)))) := by simp [shE, shLt, shK]
  have hlab : (shE a).length ≤ 100000 ∧ (shE b).length ≤ 100000 := by rw [hsh] at hl; simp only [List.length_cons, List.length_append] at hl; omega
  exact shx_rec _ a b rfl rfl (HK a (by simp) (hkid a (by simp)) hlab.1) (HK b (by simp) (hkid b (by simp)) hlab.2) hl hsh c S w h
 have h67 : (k == 6 || k == 7) = false := by simp [h6, h7]
 rw [h67] at hc
 simp only [Bool.false_eq_true, if_false] at hc
 by_cases h8 : (k == 8) = true
 ·have e := beq_iff_eq.1 h8; subst e
  simp only [show ((8 : Int) == 8) = true from rfl, if_true, Bool.and_eq_true, beq_iff_eq] at hc
  obtain ⟨a, rfl⟩ := one_of hc.1.2
  have hsh : shE (.mk 8 p n m t [a] arms) = [99, 97, 115, 101] ++ 32 :: (shE a ++ 32 :: ([111, 102] ++ 32 :: (shA0 arms ++ 32 :: [101, 110, 100]))) := by simp [shE, shK]
  have hla : (shE a).length ≤ 100000 ∧ (shA0 arms).length ≤ 100000 := by rw [hsh] at hl; simp only [List.length_cons, List.length_append] at hl; omega
  exact shx_case (.mk 8 p n m t [a] arms) a rfl rfl (HK a (by simp) (hkid a (by simp)) hla.1) (fun A hA => HA A hA (srcA_mem hsA hA).2.2.2 (Nat.le_trans (arm_le arms A hA).1 hla.2)) hl hsh c S w h
 rw [if_neg h8] at hc
 by_cases h9 : (k == 9) = true
 ·have e := beq_iff_eq.1 h9; subst e
  simp only [show ((9 : Int) == 9) = true from rfl, if_true, Bool.and_eq_true, beq_iff_eq] at hc
  obtain ⟨a, rfl⟩ := one_of hc.1.2
  have hsh : shE (.mk 9 p n m t [a] arms) = 40 :: (shE a ++ 32 :: 58 :: 32 :: (shT t ++ [41])) := by simp [shE, shK]
  have hla : (shE a).length ≤ 100000 ∧ (shT t).length ≤ 100000 := by rw [hsh] at hl; simp only [List.length_cons, List.length_append] at hl; omega
  exact shx_ann (.mk 9 p n m t [a] arms) a rfl rfl (HK a (by simp) (hkid a (by simp)) hla.1) hc.2 (Nat.le_trans (nodes_le t hc.2) hla.2) hl hsh c S w h
 rw [if_neg h9] at hc
 by_cases h10 : (k == 10) = true
 ·have e := beq_iff_eq.1 h10; subst e
  exact shx_hole _ rfl (by simp [shE]) c S w h
 rw [if_neg h10] at hc
 simp only [Bool.and_eq_true, beq_iff_eq] at hc
 have e := hc.1.1; subst e
 obtain ⟨a, rfl⟩ := one_of hc.2
 have hsh : shE (.mk 11 p n m t [a] arms) = 123 :: (shE a ++ [125]) := by simp [shE, shK]
 have hla : (shE a).length ≤ 100000 := by rw [hsh] at hl; simp only [List.length_cons, List.length_append] at hl; omega
 exact shx_held _ a rfl rfl (HK a (by simp) (hkid a (by simp)) hla) hl hsh c S w h
end Go.Proofs.YtgcefodgjhlbeaaGreatDoor
