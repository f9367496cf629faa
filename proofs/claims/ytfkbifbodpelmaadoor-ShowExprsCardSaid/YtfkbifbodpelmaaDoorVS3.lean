import Derived.Test.YtfkbifbodpelmaaDoorVS2
import Derived.RegionTactic
import Derived.Deep.CutBlock
/- The canonical text of an expression: the reference's Expr at an application. -/
namespace Go.Proofs.YtfkbifbodpelmaaDoor
open Go.RowKit Go.Maps Go.Sort Mth

set_option maxRecDepth 100000 in
set_option maxHeartbeats 6400000 in
theorem shx_app1 (T a b : Ex) (hk : T.k = 5) (hts : T.kids = [a, b]) (Ha : XC a) (Hb : XC b) (hx : atomE a = true) (hsa : srcE a = true) (hsb : srcE b = true) (hl : (shE T).length ≤ 100000) (hsh : shE T = brk (!(atomE a || a.k == 5)) (shE a) ++ 32 :: brk (!atomE b) (shE b)) (c : List Value) (S : Nat → Prop) (w : World) (h : RepE w S T c) :
    Calls Tryd.prog 14 #[.agg c.toArray] w (ShV w (shE T)) := by
  have hLa : (shE a).length ≤ 100000 := by
    have := brk_len2 (!(atomE a || a.k == 5)) (shE a)
    rw [hsh] at hl; simp only [List.length_cons, List.length_append] at hl; omega
  have hLb : (shE b).length ≤ 100000 := by
    have := brk_len2 (!atomE b) (shE b)
    rw [hsh] at hl; simp only [List.length_cons, List.length_append] at hl; omega
  have hca4 := brk_4 (!(atomE a || a.k == 5)) _ hLa
  have hcb4 := brk_4 (!atomE b) _ hLb
  obtain ⟨kv, av, tc0, hc0, -, hkids, -, htt⟩ := h.open
  obtain ⟨ka, kc, aa, ac, tk, tn, ti, th, ta, tl, tc, rfl⟩ := h.form
  simp only [List.cons.injEq] at hc0
  obtain ⟨-, -, -, -, rfl, rfl, rfl⟩ := hc0
  rw [hts] at hkids
  obtain ⟨V, hV⟩ : ∃ V, V = w.alloc (.cells #[.int .i64 T.k, .int .i64 T.p, .string T.n, .int .i64 T.m, .slice ka T.kids.length kc, .slice aa T.arms.length ac, .int .i64 tk, .string tn, .int .i64 ti, .int .i64 th, .slice ta tl tc] 37) := ⟨_, rfl⟩
  have hlow : Below w.heap.size w V := by rw [hV]; exact (Below.refl _ w).alloc (Nat.le_refl _) _
  have hbx : BoxC 37 V w.heap.size [.int .i64 T.k, .int .i64 T.p, .string T.n, .int .i64 T.m, .slice ka T.kids.length kc, .slice aa T.arms.length ac, .int .i64 tk, .string tn, .int .i64 ti, .int .i64 th, .slice ta tl tc] := by rw [hV]; exact BoxC.made _ w _
  have HLow : Hid (LoW w V) := hlow
  have HBx := Lib.hid hbx
  obtain ⟨-, hkc, ad, c, d, rfl, hca, hra, hcb, hrb⟩ := kids2 (slG_lift hkids hlow)
  have hn1 : T.kids.length = 2 := by rw [hts]; rfl
  rw [hn1] at hV HBx ⊢
  obtain ⟨ka0, kc0, aa0, ac0, tk0, tn0, ti0, th0, ta0, tl0, tc0, rfl⟩ := hra.form
  have HKa : Hid (∀ W, Below V.heap.size V W → Calls Tryd.prog 14 #[.agg #[.int .i64 a.k, .int .i64 a.p, .string a.n, .int .i64 a.m, .slice ka0 a.kids.length kc0, .slice aa0 a.arms.length ac0, .int .i64 tk0, .string tn0, .int .i64 ti0, .int .i64 th0, .slice ta0 tl0 tc0]] W fun e w' => e = .returned (.string ⟨(shE a).toArray⟩) ∧ Below W.heap.size W w') := fun W hW => Ha _ S W (hra.lift hW)
  obtain ⟨q0, q1, q2, q3, q4, q5, q6, q7, q8, q9, q10⟩ := kidA hca
  obtain ⟨ka1, kc1, aa1, ac1, tk1, tn1, ti1, th1, ta1, tl1, tc1, rfl⟩ := hrb.form
  have HKb : Hid (∀ W, Below V.heap.size V W → Calls Tryd.prog 14 #[.agg #[.int .i64 b.k, .int .i64 b.p, .string b.n, .int .i64 b.m, .slice ka1 b.kids.length kc1, .slice aa1 b.arms.length ac1, .int .i64 tk1, .string tn1, .int .i64 ti1, .int .i64 th1, .slice ta1 tl1 tc1]] W fun e w' => e = .returned (.string ⟨(shE b).toArray⟩) ∧ Below W.heap.size W w') := fun W hW => Hb _ S W (hrb.lift hW)
  obtain ⟨r0, r1, r2, r3, r4, r5, r6, r7, r8, r9, r10⟩ := kidB hcb
  rw [hk] at hV HBx ⊢
  have HAa : Hid (∀ W, Below V.heap.size V W → Calls Tryd.prog 34 #[.agg #[.int .i64 a.k, .int .i64 a.p, .string a.n, .int .i64 a.m, .slice ka0 a.kids.length kc0, .slice aa0 a.arms.length ac0, .int .i64 tk0, .string tn0, .int .i64 ti0, .int .i64 th0, .slice ta0 tl0 tc0]] W fun e w' => e = .returned (.bool (atomE a)) ∧ Below W.heap.size W w') := fun W hW => exAtom_of a _ S W (hra.lift hW)
  have HAb : Hid (∀ W, Below V.heap.size V W → Calls Tryd.prog 34 #[.agg #[.int .i64 b.k, .int .i64 b.p, .string b.n, .int .i64 b.m, .slice ka1 b.kids.length kc1, .slice aa1 b.arms.length ac1, .int .i64 tk1, .string tn1, .int .i64 ti1, .int .i64 th1, .slice ta1 tl1 tc1]] W fun e w' => e = .returned (.bool (atomE b)) ∧ Below W.heap.size W w') := fun W hW => exAtom_of b _ S W (hrb.lift hW)
  have HCa : Hid (∀ W, Below V.heap.size V W → Calls Tryd.prog 33 #[.agg #[.int .i64 a.k, .int .i64 a.p, .string a.n, .int .i64 a.m, .slice ka0 a.kids.length kc0, .slice aa0 a.arms.length ac0, .int .i64 tk0, .string tn0, .int .i64 ti0, .int .i64 th0, .slice ta0 tl0 tc0], .bool (atomE a || a.k == 5)] W fun e w' => e = .returned (.string ⟨(brk (!(atomE a || a.k == 5)) (shE a)).toArray⟩) ∧ Below W.heap.size W w') := fun W hW => closed_of a (fun _ _ => Ha) hsa hLa _ _ S W (hra.lift hW)
  have HCb : Hid (∀ W, Below V.heap.size V W → Calls Tryd.prog 33 #[.agg #[.int .i64 b.k, .int .i64 b.p, .string b.n, .int .i64 b.m, .slice ka1 b.kids.length kc1, .slice aa1 b.arms.length ac1, .int .i64 tk1, .string tn1, .int .i64 ti1, .int .i64 th1, .slice ta1 tl1 tc1], .bool (atomE b)] W fun e w' => e = .returned (.string ⟨(brk (!atomE b) (shE b)).toArray⟩) ∧ Below W.heap.size W w') := fun W hW => closed_of b (fun _ _ => Hb) hsb hLb _ _ S W (hrb.lift hW)
  rw [hsh]
  clear HKa HKb hLa hLb
  generalize brk (!(atomE a || a.k == 5)) (shE a) = ca at *
  generalize brk (!atomE b) (shE b) = cb at *
  rw [hx] at HAa HCa
  rw [show (true || a.k == 5) = true from rfl] at HCa
  generalize atomE b = xb at *
  clear h hlow hbx htt hk hts hx Ha Hb hsa hsb hkids hca hra hcb hrb hn1 hl hsh
  generalize a.kids.length = kl0 at *
  generalize a.arms.length = al0 at *
  generalize b.kids.length = kl1 at *
  generalize b.arms.length = al1 at *
  generalize T.arms.length = al at *
  generalize T.p = tp at *
  generalize T.m = tm at *
  generalize a.k = ak at *
  generalize b.k = bk at *
  generalize T.n = nm at *
  go_enter Tryd.func14, Tryd.ntmps14
  go_upto_region 1 with fail
  rw [← hV]
  clear hV
  generalize w.heap.size = B at *
  obtain ⟨b0, b1, b2, b3, b4, b5, b6, b7, b8, b9, b10⟩ := HBx.out.all11
  have hBlt : B < V.heap.size := HBx.out.lt
  have hAlt : ad.block < V.heap.size := World.block_lt_of_cell? _ _ q0
  go_upto_region 12 with fail
  go_cut [3, 4] (fun s3 s4 wx => ∃ m n : Nat, s3 = .pointer (some ⟨m, 0, none⟩) ∧ s4 = .pointer (some ⟨n, 0, none⟩) ∧ Hid (App V wx m n [.int .i64 ak, .int .i64 a.p, .string a.n, .int .i64 a.m, .slice ka0 kl0 kc0, .slice aa0 al0 ac0, .int .i64 tk0, .string tn0, .int .i64 ti0, .int .i64 th0, .slice ta0 tl0 tc0] [.int .i64 bk, .int .i64 b.p, .string b.n, .int .i64 b.m, .slice ka1 kl1 kc1, .slice aa1 al1 ac1, .int .i64 tk1, .string tn1, .int .i64 ti1, .int .i64 th1, .slice ta1 tl1 tc1]))
  case first =>
    go_region
    all_goals
      go_wp2_with fail
      go_meet
      first
        | exact ⟨_, _, rfl, rfl, app1 V [.int .i64 ak, .int .i64 a.p, .string a.n, .int .i64 a.m, .slice ka0 kl0 kc0, .slice aa0 al0 ac0, .int .i64 tk0, .string tn0, .int .i64 ti0, .int .i64 th0, .slice ta0 tl0 tc0] [.int .i64 bk, .int .i64 b.p, .string b.n, .int .i64 b.m, .slice ka1 kl1 kc1, .slice aa1 al1 ac1, .int .i64 tk1, .string tn1, .int .i64 ti1, .int .i64 th1, .slice ta1 tl1 tc1]⟩
        | exact ⟨_, _, rfl, rfl, app2 V [.int .i64 ak, .int .i64 a.p, .string a.n, .int .i64 a.m, .slice ka0 kl0 kc0, .slice aa0 al0 ac0, .int .i64 tk0, .string tn0, .int .i64 ti0, .int .i64 th0, .slice ta0 tl0 tc0] [.int .i64 bk, .int .i64 b.p, .string b.n, .int .i64 b.m, .slice ka1 kl1 kc1, .slice aa1 al1 ac1, .int .i64 tk1, .string tn1, .int .i64 ti1, .int .i64 th1, .slice ta1 tl1 tc1]⟩
  case rest =>
    obtain ⟨m, n, rfl, rfl, HAp⟩ := hcut
    have HLu : Hid (LoW w wc) := HLow.out.go HAp.out.low
    have HVu := Lib.hid HAp.out.low
    clear q0 r0 b0 q1 r1 b1 q2 r2 b2 q3 r3 b3 q4 r4 b4 q5 r5 b5 q6 r6 b6 q7 r7 b7 q8 r8 b8 q9 r9 b9 q10 r10 b10 hBlt hAlt HLow
    obtain ⟨p0, p1, p2, p3, p4, p5, p6, p7, p8, p9, p10⟩ := HAp.out.one.all11
    obtain ⟨r0, r1, r2, r3, r4, r5, r6, r7, r8, r9, r10⟩ := HAp.out.two.all11
    clear HAp
    have P0 := cell_regrown p0; have P1 := cell_regrown p1; have P2 := cell_regrown p2; have P3 := cell_regrown p3; have P4 := cell_regrown p4; have P5 := cell_regrown p5; have P6 := cell_regrown p6; have P7 := cell_regrown p7; have P8 := cell_regrown p8; have P9 := cell_regrown p9; have P10 := cell_regrown p10
    have R0 := cell_regrown r0; have R1 := cell_regrown r1; have R2 := cell_regrown r2; have R3 := cell_regrown r3; have R4 := cell_regrown r4; have R5 := cell_regrown r5; have R6 := cell_regrown r6; have R7 := cell_regrown r7; have R8 := cell_regrown r8; have R9 := cell_regrown r9; have R10 := cell_regrown r10
    have z0 : ¬ 9223372036854775807 ≤ ca.length := by omega
    have z1 : ¬ 9223372036854775807 < ca.length + 1 := by omega
    have z2 : ¬ 9223372036854775807 < ca.length + 1 + cb.length := by omega
    go_wp2
    refine wp_region_quiet_below (by kernel_rfl) (by kernel_rfl) ?_
    repeat (quiet_step (first
        | (go_at_call 34; first | (with_reducible exact Calls.regrown_of (HAa.out _ (keepX HVu.out (below_regrown _ _ _)))) | (with_reducible exact Calls.regrown_of (HAb.out _ (keepX HVu.out (below_regrown _ _ _)))))
        | (go_at_call 33; first | (with_reducible exact Calls.regrown_of (HCa.out _ (keepX HVu.out (below_regrown _ _ _)))) | (with_reducible exact Calls.regrown_of (HCb.out _ (keepX HVu.out (below_regrown _ _ _)))))))
    refine wpQuiet_nil ?_
    intro _ hw'
    obtain ⟨⟨dq, osq⟩, hw''⟩ := hw'
    subst hw''
    have HL : Hid (LoW w (grow (redrawn wc dq) osq)) := HLu.out.go (below_regrown wc dq osq)
    clear p0 P0 p1 P1 p2 P2 p3 P3 p4 P4 p5 P5 p6 P6 p7 P7 p8 P8 p9 P9 p10 P10 r0 R0 r1 R1 r2 R2 r3 R3 r4 R4 r5 R5 r6 R6 r7 R7 r8 R8 r9 R9 r10 R10
    go_wp2
    go_ret
    exact ⟨ret_eq (by simp only [bl_app, List.append_assoc]; rfl), HL.out⟩
end Go.Proofs.YtfkbifbodpelmaaDoor

/- The canonical text of an expression: the reference's Expr at an application. -/
namespace Go.Proofs.YtfkbifbodpelmaaDoor
open Go.RowKit Go.Maps Go.Sort Mth

set_option maxRecDepth 100000 in
set_option maxHeartbeats 6400000 in
theorem shx_app2 (T a b : Ex) (hk : T.k = 5) (hts : T.kids = [a, b]) (Ha : XC a) (Hb : XC b) (hx : atomE a = false) (h5 : a.k = 5) (hsa : srcE a = true) (hsb : srcE b = true) (hl : (shE T).length ≤ 100000) (hsh : shE T = brk (!(atomE a || a.k == 5)) (shE a) ++ 32 :: brk (!atomE b) (shE b)) (c : List Value) (S : Nat → Prop) (w : World) (h : RepE w S T c) :
    Calls Tryd.prog 14 #[.agg c.toArray] w (ShV w (shE T)) := by
  have hLa : (shE a).length ≤ 100000 := by
    have := brk_len2 (!(atomE a || a.k == 5)) (shE a)
    rw [hsh] at hl; simp only [List.length_cons, List.length_append] at hl; omega
  have hLb : (shE b).length ≤ 100000 := by
    have := brk_len2 (!atomE b) (shE b)
    rw [hsh] at hl; simp only [List.length_cons, List.length_append] at hl; omega
  have hca4 := brk_4 (!(atomE a || a.k == 5)) _ hLa
  have hcb4 := brk_4 (!atomE b) _ hLb
  obtain ⟨kv, av, tc0, hc0, -, hkids, -, htt⟩ := h.open
  obtain ⟨ka, kc, aa, ac, tk, tn, ti, th, ta, tl, tc, rfl⟩ := h.form
  simp only [List.cons.injEq] at hc0
  obtain ⟨-, -, -, -, rfl, rfl, rfl⟩ := hc0
  rw [hts] at hkids
  obtain ⟨V, hV⟩ : ∃ V, V = w.alloc (.cells #[.int .i64 T.k, .int .i64 T.p, .string T.n, .int .i64 T.m, .slice ka T.kids.length kc, .slice aa T.arms.length ac, .int .i64 tk, .string tn, .int .i64 ti, .int .i64 th, .slice ta tl tc] 37) := ⟨_, rfl⟩
  have hlow : Below w.heap.size w V := by rw [hV]; exact (Below.refl _ w).alloc (Nat.le_refl _) _
  have hbx : BoxC 37 V w.heap.size [.int .i64 T.k, .int .i64 T.p, .string T.n, .int .i64 T.m, .slice ka T.kids.length kc, .slice aa T.arms.length ac, .int .i64 tk, .string tn, .int .i64 ti, .int .i64 th, .slice ta tl tc] := by rw [hV]; exact BoxC.made _ w _
  have HLow : Hid (LoW w V) := hlow
  have HBx := Lib.hid hbx
  obtain ⟨-, hkc, ad, c, d, rfl, hca, hra, hcb, hrb⟩ := kids2 (slG_lift hkids hlow)
  have hn1 : T.kids.length = 2 := by rw [hts]; rfl
  rw [hn1] at hV HBx ⊢
  obtain ⟨ka0, kc0, aa0, ac0, tk0, tn0, ti0, th0, ta0, tl0, tc0, rfl⟩ := hra.form
  have HKa : Hid (∀ W, Below V.heap.size V W → Calls Tryd.prog 14 #[.agg #[.int .i64 a.k, .int .i64 a.p, .string a.n, .int .i64 a.m, .slice ka0 a.kids.length kc0, .slice aa0 a.arms.length ac0, .int .i64 tk0, .string tn0, .int .i64 ti0, .int .i64 th0, .slice ta0 tl0 tc0]] W fun e w' => e = .returned (.string ⟨(shE a).toArray⟩) ∧ Below W.heap.size W w') := fun W hW => Ha _ S W (hra.lift hW)
  obtain ⟨q0, q1, q2, q3, q4, q5, q6, q7, q8, q9, q10⟩ := kidA hca
  obtain ⟨ka1, kc1, aa1, ac1, tk1, tn1, ti1, th1, ta1, tl1, tc1, rfl⟩ := hrb.form
  have HKb : Hid (∀ W, Below V.heap.size V W → Calls Tryd.prog 14 #[.agg #[.int .i64 b.k, .int .i64 b.p, .string b.n, .int .i64 b.m, .slice ka1 b.kids.length kc1, .slice aa1 b.arms.length ac1, .int .i64 tk1, .string tn1, .int .i64 ti1, .int .i64 th1, .slice ta1 tl1 tc1]] W fun e w' => e = .returned (.string ⟨(shE b).toArray⟩) ∧ Below W.heap.size W w') := fun W hW => Hb _ S W (hrb.lift hW)
  obtain ⟨r0, r1, r2, r3, r4, r5, r6, r7, r8, r9, r10⟩ := kidB hcb
  rw [hk] at hV HBx ⊢
  have HAa : Hid (∀ W, Below V.heap.size V W → Calls Tryd.prog 34 #[.agg #[.int .i64 a.k, .int .i64 a.p, .string a.n, .int .i64 a.m, .slice ka0 a.kids.length kc0, .slice aa0 a.arms.length ac0, .int .i64 tk0, .string tn0, .int .i64 ti0, .int .i64 th0, .slice ta0 tl0 tc0]] W fun e w' => e = .returned (.bool (atomE a)) ∧ Below W.heap.size W w') := fun W hW => exAtom_of a _ S W (hra.lift hW)
  have HAb : Hid (∀ W, Below V.heap.size V W → Calls Tryd.prog 34 #[.agg #[.int .i64 b.k, .int .i64 b.p, .string b.n, .int .i64 b.m, .slice ka1 b.kids.length kc1, .slice aa1 b.arms.length ac1, .int .i64 tk1, .string tn1, .int .i64 ti1, .int .i64 th1, .slice ta1 tl1 tc1]] W fun e w' => e = .returned (.bool (atomE b)) ∧ Below W.heap.size W w') := fun W hW => exAtom_of b _ S W (hrb.lift hW)
  have HCa : Hid (∀ W, Below V.heap.size V W → Calls Tryd.prog 33 #[.agg #[.int .i64 a.k, .int .i64 a.p, .string a.n, .int .i64 a.m, .slice ka0 a.kids.length kc0, .slice aa0 a.arms.length ac0, .int .i64 tk0, .string tn0, .int .i64 ti0, .int .i64 th0, .slice ta0 tl0 tc0], .bool (atomE a || a.k == 5)] W fun e w' => e = .returned (.string ⟨(brk (!(atomE a || a.k == 5)) (shE a)).toArray⟩) ∧ Below W.heap.size W w') := fun W hW => closed_of a (fun _ _ => Ha) hsa hLa _ _ S W (hra.lift hW)
  have HCb : Hid (∀ W, Below V.heap.size V W → Calls Tryd.prog 33 #[.agg #[.int .i64 b.k, .int .i64 b.p, .string b.n, .int .i64 b.m, .slice ka1 b.kids.length kc1, .slice aa1 b.arms.length ac1, .int .i64 tk1, .string tn1, .int .i64 ti1, .int .i64 th1, .slice ta1 tl1 tc1], .bool (atomE b)] W fun e w' => e = .returned (.string ⟨(brk (!atomE b) (shE b)).toArray⟩) ∧ Below W.heap.size W w') := fun W hW => closed_of b (fun _ _ => Hb) hsb hLb _ _ S W (hrb.lift hW)
  rw [hsh]
  clear HKa HKb hLa hLb
  generalize brk (!(atomE a || a.k == 5)) (shE a) = ca at *
  generalize brk (!atomE b) (shE b) = cb at *
  rw [hx] at HAa HCa
  rw [show (false || a.k == 5) = true by rw [h5]; rfl] at HCa
  generalize atomE b = xb at *
  clear h hlow hbx htt hk hts hx Ha Hb hsa hsb hkids hca hra hcb hrb hn1 hl hsh
  generalize a.kids.length = kl0 at *
  generalize a.arms.length = al0 at *
  generalize b.kids.length = kl1 at *
  generalize b.arms.length = al1 at *
  generalize T.arms.length = al at *
  generalize T.p = tp at *
  generalize T.m = tm at *
  generalize a.k = ak at *
  subst h5
  generalize b.k = bk at *
  generalize T.n = nm at *
  go_enter Tryd.func14, Tryd.ntmps14
  go_upto_region 1 with fail
  rw [← hV]
  clear hV
  generalize w.heap.size = B at *
  obtain ⟨b0, b1, b2, b3, b4, b5, b6, b7, b8, b9, b10⟩ := HBx.out.all11
  have hBlt : B < V.heap.size := HBx.out.lt
  have hAlt : ad.block < V.heap.size := World.block_lt_of_cell? _ _ q0
  go_upto_region 12 with fail
  go_cut [3, 4] (fun s3 s4 wx => ∃ m n : Nat, s3 = .pointer (some ⟨m, 0, none⟩) ∧ s4 = .pointer (some ⟨n, 0, none⟩) ∧ Hid (App V wx m n [.int .i64 5, .int .i64 a.p, .string a.n, .int .i64 a.m, .slice ka0 kl0 kc0, .slice aa0 al0 ac0, .int .i64 tk0, .string tn0, .int .i64 ti0, .int .i64 th0, .slice ta0 tl0 tc0] [.int .i64 bk, .int .i64 b.p, .string b.n, .int .i64 b.m, .slice ka1 kl1 kc1, .slice aa1 al1 ac1, .int .i64 tk1, .string tn1, .int .i64 ti1, .int .i64 th1, .slice ta1 tl1 tc1]))
  case first =>
    go_region
    all_goals
      go_wp2_with fail
      go_meet
      first
        | exact ⟨_, _, rfl, rfl, app1 V [.int .i64 5, .int .i64 a.p, .string a.n, .int .i64 a.m, .slice ka0 kl0 kc0, .slice aa0 al0 ac0, .int .i64 tk0, .string tn0, .int .i64 ti0, .int .i64 th0, .slice ta0 tl0 tc0] [.int .i64 bk, .int .i64 b.p, .string b.n, .int .i64 b.m, .slice ka1 kl1 kc1, .slice aa1 al1 ac1, .int .i64 tk1, .string tn1, .int .i64 ti1, .int .i64 th1, .slice ta1 tl1 tc1]⟩
        | exact ⟨_, _, rfl, rfl, app2 V [.int .i64 5, .int .i64 a.p, .string a.n, .int .i64 a.m, .slice ka0 kl0 kc0, .slice aa0 al0 ac0, .int .i64 tk0, .string tn0, .int .i64 ti0, .int .i64 th0, .slice ta0 tl0 tc0] [.int .i64 bk, .int .i64 b.p, .string b.n, .int .i64 b.m, .slice ka1 kl1 kc1, .slice aa1 al1 ac1, .int .i64 tk1, .string tn1, .int .i64 ti1, .int .i64 th1, .slice ta1 tl1 tc1]⟩
  case rest =>
    obtain ⟨m, n, rfl, rfl, HAp⟩ := hcut
    have HLu : Hid (LoW w wc) := HLow.out.go HAp.out.low
    have HVu := Lib.hid HAp.out.low
    clear q0 r0 b0 q1 r1 b1 q2 r2 b2 q3 r3 b3 q4 r4 b4 q5 r5 b5 q6 r6 b6 q7 r7 b7 q8 r8 b8 q9 r9 b9 q10 r10 b10 hBlt hAlt HLow
    obtain ⟨p0, p1, p2, p3, p4, p5, p6, p7, p8, p9, p10⟩ := HAp.out.one.all11
    obtain ⟨r0, r1, r2, r3, r4, r5, r6, r7, r8, r9, r10⟩ := HAp.out.two.all11
    clear HAp
    have P0 := cell_regrown p0; have P1 := cell_regrown p1; have P2 := cell_regrown p2; have P3 := cell_regrown p3; have P4 := cell_regrown p4; have P5 := cell_regrown p5; have P6 := cell_regrown p6; have P7 := cell_regrown p7; have P8 := cell_regrown p8; have P9 := cell_regrown p9; have P10 := cell_regrown p10
    have R0 := cell_regrown r0; have R1 := cell_regrown r1; have R2 := cell_regrown r2; have R3 := cell_regrown r3; have R4 := cell_regrown r4; have R5 := cell_regrown r5; have R6 := cell_regrown r6; have R7 := cell_regrown r7; have R8 := cell_regrown r8; have R9 := cell_regrown r9; have R10 := cell_regrown r10
    have z0 : ¬ 9223372036854775807 ≤ ca.length := by omega
    have z1 : ¬ 9223372036854775807 < ca.length + 1 := by omega
    have z2 : ¬ 9223372036854775807 < ca.length + 1 + cb.length := by omega
    go_wp2
    refine wp_region_quiet_below (by kernel_rfl) (by kernel_rfl) ?_
    repeat (quiet_step (first
        | (go_at_call 34; first | (with_reducible exact Calls.regrown_of (HAa.out _ (keepX HVu.out (below_regrown _ _ _)))) | (with_reducible exact Calls.regrown_of (HAb.out _ (keepX HVu.out (below_regrown _ _ _)))))
        | (go_at_call 33; first | (with_reducible exact Calls.regrown_of (HCa.out _ (keepX HVu.out (below_regrown _ _ _)))) | (with_reducible exact Calls.regrown_of (HCb.out _ (keepX HVu.out (below_regrown _ _ _)))))))
    refine wpQuiet_nil ?_
    intro _ hw'
    obtain ⟨⟨dq, osq⟩, hw''⟩ := hw'
    subst hw''
    have HL : Hid (LoW w (grow (redrawn wc dq) osq)) := HLu.out.go (below_regrown wc dq osq)
    clear p0 P0 p1 P1 p2 P2 p3 P3 p4 P4 p5 P5 p6 P6 p7 P7 p8 P8 p9 P9 p10 P10 r0 R0 r1 R1 r2 R2 r3 R3 r4 R4 r5 R5 r6 R6 r7 R7 r8 R8 r9 R9 r10 R10
    go_wp2
    go_ret
    exact ⟨ret_eq (by simp only [bl_app, List.append_assoc]; rfl), HL.out⟩
end Go.Proofs.YtfkbifbodpelmaaDoor

/- The canonical text of an expression: the reference's Expr at an application. -/
namespace Go.Proofs.YtfkbifbodpelmaaDoor
open Go.RowKit Go.Maps Go.Sort Mth

set_option maxRecDepth 100000 in
set_option maxHeartbeats 6400000 in
theorem shx_app3 (T a b : Ex) (hk : T.k = 5) (hts : T.kids = [a, b]) (Ha : XC a) (Hb : XC b) (hx : atomE a = false) (h5 : (a.k == 5) = false) (hsa : srcE a = true) (hsb : srcE b = true) (hl : (shE T).length ≤ 100000) (hsh : shE T = brk (!(atomE a || a.k == 5)) (shE a) ++ 32 :: brk (!atomE b) (shE b)) (c : List Value) (S : Nat → Prop) (w : World) (h : RepE w S T c) :
    Calls Tryd.prog 14 #[.agg c.toArray] w (ShV w (shE T)) := by
  have hLa : (shE a).length ≤ 100000 := by
    have := brk_len2 (!(atomE a || a.k == 5)) (shE a)
    rw [hsh] at hl; simp only [List.length_cons, List.length_append] at hl; omega
  have hLb : (shE b).length ≤ 100000 := by
    have := brk_len2 (!atomE b) (shE b)
    rw [hsh] at hl; simp only [List.length_cons, List.length_append] at hl; omega
  have hca4 := brk_4 (!(atomE a || a.k == 5)) _ hLa
  have hcb4 := brk_4 (!atomE b) _ hLb
  obtain ⟨kv, av, tc0, hc0, -, hkids, -, htt⟩ := h.open
  obtain ⟨ka, kc, aa, ac, tk, tn, ti, th, ta, tl, tc, rfl⟩ := h.form
  simp only [List.cons.injEq] at hc0
  obtain ⟨-, -, -, -, rfl, rfl, rfl⟩ := hc0
  rw [hts] at hkids
  obtain ⟨V, hV⟩ : ∃ V, V = w.alloc (.cells #[.int .i64 T.k, .int .i64 T.p, .string T.n, .int .i64 T.m, .slice ka T.kids.length kc, .slice aa T.arms.length ac, .int .i64 tk, .string tn, .int .i64 ti, .int .i64 th, .slice ta tl tc] 37) := ⟨_, rfl⟩
  have hlow : Below w.heap.size w V := by rw [hV]; exact (Below.refl _ w).alloc (Nat.le_refl _) _
  have hbx : BoxC 37 V w.heap.size [.int .i64 T.k, .int .i64 T.p, .string T.n, .int .i64 T.m, .slice ka T.kids.length kc, .slice aa T.arms.length ac, .int .i64 tk, .string tn, .int .i64 ti, .int .i64 th, .slice ta tl tc] := by rw [hV]; exact BoxC.made _ w _
  have HLow : Hid (LoW w V) := hlow
  have HBx := Lib.hid hbx
  obtain ⟨-, hkc, ad, c, d, rfl, hca, hra, hcb, hrb⟩ := kids2 (slG_lift hkids hlow)
  have hn1 : T.kids.length = 2 := by rw [hts]; rfl
  rw [hn1] at hV HBx ⊢
  obtain ⟨ka0, kc0, aa0, ac0, tk0, tn0, ti0, th0, ta0, tl0, tc0, rfl⟩ := hra.form
  have HKa : Hid (∀ W, Below V.heap.size V W → Calls Tryd.prog 14 #[.agg #[.int .i64 a.k, .int .i64 a.p, .string a.n, .int .i64 a.m, .slice ka0 a.kids.length kc0, .slice aa0 a.arms.length ac0, .int .i64 tk0, .string tn0, .int .i64 ti0, .int .i64 th0, .slice ta0 tl0 tc0]] W fun e w' => e = .returned (.string ⟨(shE a).toArray⟩) ∧ Below W.heap.size W w') := fun W hW => Ha _ S W (hra.lift hW)
  obtain ⟨q0, q1, q2, q3, q4, q5, q6, q7, q8, q9, q10⟩ := kidA hca
  obtain ⟨ka1, kc1, aa1, ac1, tk1, tn1, ti1, th1, ta1, tl1, tc1, rfl⟩ := hrb.form
  have HKb : Hid (∀ W, Below V.heap.size V W → Calls Tryd.prog 14 #[.agg #[.int .i64 b.k, .int .i64 b.p, .string b.n, .int .i64 b.m, .slice ka1 b.kids.length kc1, .slice aa1 b.arms.length ac1, .int .i64 tk1, .string tn1, .int .i64 ti1, .int .i64 th1, .slice ta1 tl1 tc1]] W fun e w' => e = .returned (.string ⟨(shE b).toArray⟩) ∧ Below W.heap.size W w') := fun W hW => Hb _ S W (hrb.lift hW)
  obtain ⟨r0, r1, r2, r3, r4, r5, r6, r7, r8, r9, r10⟩ := kidB hcb
  rw [hk] at hV HBx ⊢
  have HAa : Hid (∀ W, Below V.heap.size V W → Calls Tryd.prog 34 #[.agg #[.int .i64 a.k, .int .i64 a.p, .string a.n, .int .i64 a.m, .slice ka0 a.kids.length kc0, .slice aa0 a.arms.length ac0, .int .i64 tk0, .string tn0, .int .i64 ti0, .int .i64 th0, .slice ta0 tl0 tc0]] W fun e w' => e = .returned (.bool (atomE a)) ∧ Below W.heap.size W w') := fun W hW => exAtom_of a _ S W (hra.lift hW)
  have HAb : Hid (∀ W, Below V.heap.size V W → Calls Tryd.prog 34 #[.agg #[.int .i64 b.k, .int .i64 b.p, .string b.n, .int .i64 b.m, .slice ka1 b.kids.length kc1, .slice aa1 b.arms.length ac1, .int .i64 tk1, .string tn1, .int .i64 ti1, .int .i64 th1, .slice ta1 tl1 tc1]] W fun e w' => e = .returned (.bool (atomE b)) ∧ Below W.heap.size W w') := fun W hW => exAtom_of b _ S W (hrb.lift hW)
  have HCa : Hid (∀ W, Below V.heap.size V W → Calls Tryd.prog 33 #[.agg #[.int .i64 a.k, .int .i64 a.p, .string a.n, .int .i64 a.m, .slice ka0 a.kids.length kc0, .slice aa0 a.arms.length ac0, .int .i64 tk0, .string tn0, .int .i64 ti0, .int .i64 th0, .slice ta0 tl0 tc0], .bool (atomE a || a.k == 5)] W fun e w' => e = .returned (.string ⟨(brk (!(atomE a || a.k == 5)) (shE a)).toArray⟩) ∧ Below W.heap.size W w') := fun W hW => closed_of a (fun _ _ => Ha) hsa hLa _ _ S W (hra.lift hW)
  have HCb : Hid (∀ W, Below V.heap.size V W → Calls Tryd.prog 33 #[.agg #[.int .i64 b.k, .int .i64 b.p, .string b.n, .int .i64 b.m, .slice ka1 b.kids.length kc1, .slice aa1 b.arms.length ac1, .int .i64 tk1, .string tn1, .int .i64 ti1, .int .i64 th1, .slice ta1 tl1 tc1], .bool (atomE b)] W fun e w' => e = .returned (.string ⟨(brk (!atomE b) (shE b)).toArray⟩) ∧ Below W.heap.size W w') := fun W hW => closed_of b (fun _ _ => Hb) hsb hLb _ _ S W (hrb.lift hW)
  rw [hsh]
  clear HKa HKb hLa hLb
  generalize brk (!(atomE a || a.k == 5)) (shE a) = ca at *
  generalize brk (!atomE b) (shE b) = cb at *
  rw [hx] at HAa HCa
  rw [h5, show (false || false) = false from rfl] at HCa
  generalize atomE b = xb at *
  clear h hlow hbx htt hk hts hx Ha Hb hsa hsb hkids hca hra hcb hrb hn1 hl hsh
  generalize a.kids.length = kl0 at *
  generalize a.arms.length = al0 at *
  generalize b.kids.length = kl1 at *
  generalize b.arms.length = al1 at *
  generalize T.arms.length = al at *
  generalize T.p = tp at *
  generalize T.m = tm at *
  generalize a.k = ak at *
  generalize b.k = bk at *
  generalize T.n = nm at *
  go_enter Tryd.func14, Tryd.ntmps14
  go_upto_region 1 with fail
  rw [← hV]
  clear hV
  generalize w.heap.size = B at *
  obtain ⟨b0, b1, b2, b3, b4, b5, b6, b7, b8, b9, b10⟩ := HBx.out.all11
  have hBlt : B < V.heap.size := HBx.out.lt
  have hAlt : ad.block < V.heap.size := World.block_lt_of_cell? _ _ q0
  go_upto_region 12 with fail
  go_cut [3, 4] (fun s3 s4 wx => ∃ m n : Nat, s3 = .pointer (some ⟨m, 0, none⟩) ∧ s4 = .pointer (some ⟨n, 0, none⟩) ∧ Hid (App V wx m n [.int .i64 ak, .int .i64 a.p, .string a.n, .int .i64 a.m, .slice ka0 kl0 kc0, .slice aa0 al0 ac0, .int .i64 tk0, .string tn0, .int .i64 ti0, .int .i64 th0, .slice ta0 tl0 tc0] [.int .i64 bk, .int .i64 b.p, .string b.n, .int .i64 b.m, .slice ka1 kl1 kc1, .slice aa1 al1 ac1, .int .i64 tk1, .string tn1, .int .i64 ti1, .int .i64 th1, .slice ta1 tl1 tc1]))
  case first =>
    go_region
    all_goals
      go_wp2_with fail
      go_meet
      first
        | exact ⟨_, _, rfl, rfl, app1 V [.int .i64 ak, .int .i64 a.p, .string a.n, .int .i64 a.m, .slice ka0 kl0 kc0, .slice aa0 al0 ac0, .int .i64 tk0, .string tn0, .int .i64 ti0, .int .i64 th0, .slice ta0 tl0 tc0] [.int .i64 bk, .int .i64 b.p, .string b.n, .int .i64 b.m, .slice ka1 kl1 kc1, .slice aa1 al1 ac1, .int .i64 tk1, .string tn1, .int .i64 ti1, .int .i64 th1, .slice ta1 tl1 tc1]⟩
        | exact ⟨_, _, rfl, rfl, app2 V [.int .i64 ak, .int .i64 a.p, .string a.n, .int .i64 a.m, .slice ka0 kl0 kc0, .slice aa0 al0 ac0, .int .i64 tk0, .string tn0, .int .i64 ti0, .int .i64 th0, .slice ta0 tl0 tc0] [.int .i64 bk, .int .i64 b.p, .string b.n, .int .i64 b.m, .slice ka1 kl1 kc1, .slice aa1 al1 ac1, .int .i64 tk1, .string tn1, .int .i64 ti1, .int .i64 th1, .slice ta1 tl1 tc1]⟩
  case rest =>
    obtain ⟨m, n, rfl, rfl, HAp⟩ := hcut
    have HLu : Hid (LoW w wc) := HLow.out.go HAp.out.low
    have HVu := Lib.hid HAp.out.low
    clear q0 r0 b0 q1 r1 b1 q2 r2 b2 q3 r3 b3 q4 r4 b4 q5 r5 b5 q6 r6 b6 q7 r7 b7 q8 r8 b8 q9 r9 b9 q10 r10 b10 hBlt hAlt HLow
    obtain ⟨p0, p1, p2, p3, p4, p5, p6, p7, p8, p9, p10⟩ := HAp.out.one.all11
    obtain ⟨r0, r1, r2, r3, r4, r5, r6, r7, r8, r9, r10⟩ := HAp.out.two.all11
    clear HAp
    have P0 := cell_regrown p0; have P1 := cell_regrown p1; have P2 := cell_regrown p2; have P3 := cell_regrown p3; have P4 := cell_regrown p4; have P5 := cell_regrown p5; have P6 := cell_regrown p6; have P7 := cell_regrown p7; have P8 := cell_regrown p8; have P9 := cell_regrown p9; have P10 := cell_regrown p10
    have R0 := cell_regrown r0; have R1 := cell_regrown r1; have R2 := cell_regrown r2; have R3 := cell_regrown r3; have R4 := cell_regrown r4; have R5 := cell_regrown r5; have R6 := cell_regrown r6; have R7 := cell_regrown r7; have R8 := cell_regrown r8; have R9 := cell_regrown r9; have R10 := cell_regrown r10
    have z0 : ¬ 9223372036854775807 ≤ ca.length := by omega
    have z1 : ¬ 9223372036854775807 < ca.length + 1 := by omega
    have z2 : ¬ 9223372036854775807 < ca.length + 1 + cb.length := by omega
    go_wp2
    refine wp_region_quiet_below (by kernel_rfl) (by kernel_rfl) ?_
    repeat (quiet_step (first
        | (go_at_call 34; first | (with_reducible exact Calls.regrown_of (HAa.out _ (keepX HVu.out (below_regrown _ _ _)))) | (with_reducible exact Calls.regrown_of (HAb.out _ (keepX HVu.out (below_regrown _ _ _)))))
        | (go_at_call 33; first | (with_reducible exact Calls.regrown_of (HCa.out _ (keepX HVu.out (below_regrown _ _ _)))) | (with_reducible exact Calls.regrown_of (HCb.out _ (keepX HVu.out (below_regrown _ _ _)))))))
    refine wpQuiet_nil ?_
    intro _ hw'
    obtain ⟨⟨dq, osq⟩, hw''⟩ := hw'
    subst hw''
    have HL : Hid (LoW w (grow (redrawn wc dq) osq)) := HLu.out.go (below_regrown wc dq osq)
    clear p0 P0 p1 P1 p2 P2 p3 P3 p4 P4 p5 P5 p6 P6 p7 P7 p8 P8 p9 P9 p10 P10 r0 R0 r1 R1 r2 R2 r3 R3 r4 R4 r5 R5 r6 R6 r7 R7 r8 R8 r9 R9 r10 R10
    go_wp2
    go_ret
    exact ⟨ret_eq (by simp only [bl_app, List.append_assoc]; rfl), HL.out⟩
end Go.Proofs.YtfkbifbodpelmaaDoor
