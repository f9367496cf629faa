import Derived.Test.YtfkbifbodpelmaaDoorVS1
import Derived.Test.YtfkbifbodpelmaaDoorVR2
import Derived.Deep.CutBlock
import Derived.RegionTactic
/- The canonical text of an expression: the reference's Expr, but for a case. -/
namespace Go.Proofs.YtfkbifbodpelmaaDoor
open Go.RowKit Go.Maps Go.Sort Mth

theorem kidA {V : World} {ad : Addr} {c0 c1 c2 c3 c4 c5 c6 c7 c8 c9 c10 : Value} (h : AtC V ad (0 * 11) [c0, c1, c2, c3, c4, c5, c6, c7, c8, c9, c10]) : V.cell? ad = some c0 ∧ V.cell? ⟨ad.block, ad.off + 1, none⟩ = some c1 ∧ V.cell? ⟨ad.block, ad.off + 2, none⟩ = some c2 ∧ V.cell? ⟨ad.block, ad.off + 3, none⟩ = some c3 ∧ V.cell? ⟨ad.block, ad.off + 4, none⟩ = some c4 ∧ V.cell? ⟨ad.block, ad.off + 5, none⟩ = some c5 ∧ V.cell? ⟨ad.block, ad.off + 6, none⟩ = some c6 ∧ V.cell? ⟨ad.block, ad.off + 7, none⟩ = some c7 ∧ V.cell? ⟨ad.block, ad.off + 8, none⟩ = some c8 ∧ V.cell? ⟨ad.block, ad.off + 9, none⟩ = some c9 ∧ V.cell? ⟨ad.block, ad.off + 10, none⟩ = some c10 := by
  refine ⟨?_, ?_, ?_, ?_, ?_, ?_, ?_, ?_, ?_, ?_, ?_⟩
  · have := h 0 _ rfl
    first | exact this | simpa [Addr.add, AtC, Nat.add_assoc] using this
  · have := h 1 _ rfl
    first | exact this | simpa [Addr.add, AtC, Nat.add_assoc] using this
  · have := h 2 _ rfl
    first | exact this | simpa [Addr.add, AtC, Nat.add_assoc] using this
  · have := h 3 _ rfl
    first | exact this | simpa [Addr.add, AtC, Nat.add_assoc] using this
  · have := h 4 _ rfl
    first | exact this | simpa [Addr.add, AtC, Nat.add_assoc] using this
  · have := h 5 _ rfl
    first | exact this | simpa [Addr.add, AtC, Nat.add_assoc] using this
  · have := h 6 _ rfl
    first | exact this | simpa [Addr.add, AtC, Nat.add_assoc] using this
  · have := h 7 _ rfl
    first | exact this | simpa [Addr.add, AtC, Nat.add_assoc] using this
  · have := h 8 _ rfl
    first | exact this | simpa [Addr.add, AtC, Nat.add_assoc] using this
  · have := h 9 _ rfl
    first | exact this | simpa [Addr.add, AtC, Nat.add_assoc] using this
  · have := h 10 _ rfl
    first | exact this | simpa [Addr.add, AtC, Nat.add_assoc] using this
theorem kidB {V : World} {ad : Addr} {c0 c1 c2 c3 c4 c5 c6 c7 c8 c9 c10 : Value} (h : AtC V ad (1 * 11) [c0, c1, c2, c3, c4, c5, c6, c7, c8, c9, c10]) : V.cell? ⟨ad.block, ad.off + 11, none⟩ = some c0 ∧ V.cell? ⟨ad.block, ad.off + 11 + 1, none⟩ = some c1 ∧ V.cell? ⟨ad.block, ad.off + 11 + 2, none⟩ = some c2 ∧ V.cell? ⟨ad.block, ad.off + 11 + 3, none⟩ = some c3 ∧ V.cell? ⟨ad.block, ad.off + 11 + 4, none⟩ = some c4 ∧ V.cell? ⟨ad.block, ad.off + 11 + 5, none⟩ = some c5 ∧ V.cell? ⟨ad.block, ad.off + 11 + 6, none⟩ = some c6 ∧ V.cell? ⟨ad.block, ad.off + 11 + 7, none⟩ = some c7 ∧ V.cell? ⟨ad.block, ad.off + 11 + 8, none⟩ = some c8 ∧ V.cell? ⟨ad.block, ad.off + 11 + 9, none⟩ = some c9 ∧ V.cell? ⟨ad.block, ad.off + 11 + 10, none⟩ = some c10 := by
  refine ⟨?_, ?_, ?_, ?_, ?_, ?_, ?_, ?_, ?_, ?_, ?_⟩
  · have := h 0 _ rfl
    first | exact this | simpa [Addr.add, AtC, Nat.add_assoc] using this
  · have := h 1 _ rfl
    first | exact this | simpa [Addr.add, AtC, Nat.add_assoc] using this
  · have := h 2 _ rfl
    first | exact this | simpa [Addr.add, AtC, Nat.add_assoc] using this
  · have := h 3 _ rfl
    first | exact this | simpa [Addr.add, AtC, Nat.add_assoc] using this
  · have := h 4 _ rfl
    first | exact this | simpa [Addr.add, AtC, Nat.add_assoc] using this
  · have := h 5 _ rfl
    first | exact this | simpa [Addr.add, AtC, Nat.add_assoc] using this
  · have := h 6 _ rfl
    first | exact this | simpa [Addr.add, AtC, Nat.add_assoc] using this
  · have := h 7 _ rfl
    first | exact this | simpa [Addr.add, AtC, Nat.add_assoc] using this
  · have := h 8 _ rfl
    first | exact this | simpa [Addr.add, AtC, Nat.add_assoc] using this
  · have := h 9 _ rfl
    first | exact this | simpa [Addr.add, AtC, Nat.add_assoc] using this
  · have := h 10 _ rfl
    first | exact this | simpa [Addr.add, AtC, Nat.add_assoc] using this
theorem ret_eq {s : ByteArray} {l : List UInt8} (h : bl s = l) : Ending.returned (.string s) = .returned (.string ⟨l.toArray⟩) := by subst h; rfl
def LoW (w V : World) : Prop := Below w.heap.size w V
theorem LoW.go {w V V' : World} (h : LoW w V) (hb : Below V.heap.size V V') : LoW w V' := Below.trans h (hb.mono (Below.size h))
/-- A child's text. -/
def XC (T : Ex) : Prop := ∀ (c : List Value) (S : Nat → Prop) (w : World), RepE w S T c → Calls Tryd.prog 14 #[.agg c.toArray] w fun e w' => e = .returned (.string ⟨(shE T).toArray⟩) ∧ Below w.heap.size w w'
theorem kids1 {V : World} {S : Nat → Prop} {a : Ex} {ka : Option Addr} {n kc : Nat} (h : SlG ExE V S [a] (.slice ka n kc)) : n = 1 ∧ 1 ≤ kc ∧ ∃ ad c, ka = some ad ∧ AtC V ad (0 * 11) c ∧ RepE V S a c := by
  obtain ⟨xa, cp, e, ⟨h1, -⟩, hj⟩ := h
  simp only [Value.slice.injEq] at e
  obtain ⟨rfl, rfl, rfl⟩ := e
  obtain ⟨ad, c, rfl, -, hc, hr⟩ := hj 0 a rfl
  exact ⟨rfl, h1, ad, c, rfl, hc, hr⟩
theorem kids2 {V : World} {S : Nat → Prop} {a b : Ex} {ka : Option Addr} {n kc : Nat} (h : SlG ExE V S [a, b] (.slice ka n kc)) : n = 2 ∧ 2 ≤ kc ∧ ∃ ad c d, ka = some ad ∧ AtC V ad (0 * 11) c ∧ RepE V S a c ∧ AtC V ad (1 * 11) d ∧ RepE V S b d := by
  obtain ⟨xa, cp, e, ⟨h1, -⟩, hj⟩ := h
  simp only [Value.slice.injEq] at e
  obtain ⟨rfl, rfl, rfl⟩ := e
  obtain ⟨ad, c, rfl, -, hc, hr⟩ := hj 0 a rfl
  obtain ⟨ad', d, e', -, hd, hs⟩ := hj 1 b rfl
  cases e'
  exact ⟨rfl, h1, ad, c, d, rfl, hc, hr, hd, hs⟩
set_option maxRecDepth 100000 in
set_option maxHeartbeats 6400000 in
theorem shx_lam (T a : Ex) (hk : T.k = 4) (hts : T.kids = [a]) (Ha : XC a) (hl : (shE T).length ≤ 100000) (hsh : shE T = 92 :: (bl T.n ++ 46 :: 32 :: shE a)) (c : List Value) (S : Nat → Prop) (w : World) (h : RepE w S T c) :
    Calls Tryd.prog 14 #[.agg c.toArray] w (ShV w (shE T)) := by
  have hL : T.n.size + (shE a).length + 3 ≤ 100000 := by
    rw [hsh] at hl; simp only [List.length_cons, List.length_append] at hl; rw [← bl_len]; omega
  obtain ⟨kv, av, tc0, hc0, -, hkids, -, htt⟩ := h.open
  obtain ⟨ka, kc, aa, ac, tk, tn, ti, th, ta, tl, tc, rfl⟩ := h.form
  simp only [List.cons.injEq] at hc0
  obtain ⟨-, -, -, -, rfl, rfl, rfl⟩ := hc0
  rw [hts] at hkids
  obtain ⟨V, hV⟩ : ∃ V, V = w.alloc (.cells #[.int .i64 T.k, .int .i64 T.p, .string T.n, .int .i64 T.m, .slice ka T.kids.length kc, .slice aa T.arms.length ac, .int .i64 tk, .string tn, .int .i64 ti, .int .i64 th, .slice ta tl tc] 37) := ⟨_, rfl⟩
  have hlow : Below w.heap.size w V := by rw [hV]; exact (Below.refl _ w).alloc (Nat.le_refl _) _
  have hbx : BoxC 37 V w.heap.size [.int .i64 T.k, .int .i64 T.p, .string T.n, .int .i64 T.m, .slice ka T.kids.length kc, .slice aa T.arms.length ac, .int .i64 tk, .string tn, .int .i64 ti, .int .i64 th, .slice ta tl tc] := by rw [hV]; exact BoxC.made _ w _
  have HLow : Hid (LoW w V) := hlow
  have HBx := Lib.hid hbx
  obtain ⟨-, hkc, ad, c, rfl, hca, hra⟩ := kids1 (slG_lift hkids hlow)
  have hn1 : T.kids.length = 1 := by rw [hts]; rfl
  rw [hn1] at hV HBx ⊢
  obtain ⟨ka0, kc0, aa0, ac0, tk0, tn0, ti0, th0, ta0, tl0, tc0, rfl⟩ := hra.form
  have HKa : Hid (∀ W, Below V.heap.size V W → Calls Tryd.prog 14 #[.agg #[.int .i64 a.k, .int .i64 a.p, .string a.n, .int .i64 a.m, .slice ka0 a.kids.length kc0, .slice aa0 a.arms.length ac0, .int .i64 tk0, .string tn0, .int .i64 ti0, .int .i64 th0, .slice ta0 tl0 tc0]] W fun e w' => e = .returned (.string ⟨(shE a).toArray⟩) ∧ Below W.heap.size W w') := fun W hW => Ha _ S W (hra.lift hW)
  obtain ⟨q0, q1, q2, q3, q4, q5, q6, q7, q8, q9, q10⟩ := kidA hca
  rw [hk] at hV HBx ⊢
  rw [hsh]
  clear h hlow hbx htt hk hts Ha hkids hca hra hn1 hl hsh
  generalize a.kids.length = kl0 at *
  generalize a.arms.length = al0 at *
  generalize shE a = la at *
  generalize T.arms.length = al at *
  generalize T.p = tp at *
  generalize T.m = tm at *
  generalize T.n = nm at *
  go_enter Tryd.func14, Tryd.ntmps14
  go_upto_region 1 with fail
  rw [← hV]
  clear hV
  generalize w.heap.size = B at *
  obtain ⟨b0, b1, b2, b3, b4, b5, b6, b7, b8, b9, b10⟩ := HBx.out.all11
  have Q0 := cell_regrown q0; have Q1 := cell_regrown q1; have Q2 := cell_regrown q2; have Q3 := cell_regrown q3; have Q4 := cell_regrown q4; have Q5 := cell_regrown q5; have Q6 := cell_regrown q6; have Q7 := cell_regrown q7; have Q8 := cell_regrown q8; have Q9 := cell_regrown q9; have Q10 := cell_regrown q10
  have B2 := cell_regrown b2; have B4 := cell_regrown b4
  have z1 : ¬ 9223372036854775807 < 1 + nm.size := by omega
  have z2 : ¬ 9223372036854775807 < 1 + nm.size + 2 := by omega
  have z3 : ¬ 9223372036854775807 < 1 + nm.size + 2 + la.length := by omega
  go_wp2
  refine wp_region_quiet_below (by kernel_rfl) (by kernel_rfl) ?_
  repeat (quiet_step ((go_at_call 14; exact Calls.regrown_of (HKa.out _ (below_regrown _ _ _)))))
  refine wpQuiet_nil ?_
  intro _ hw'
  obtain ⟨⟨dq, osq⟩, hw''⟩ := hw'
  subst hw''
  have HL : Hid (LoW w (grow (redrawn V dq) osq)) := HLow.out.go (below_regrown V dq osq)
  clear q0 Q0 q1 Q1 q2 Q2 q3 Q3 q4 Q4 q5 Q5 q6 Q6 q7 Q7 q8 Q8 q9 Q9 q10 Q10 B2 B4 b0 b1 b2 b3 b4 b5 b6 b7 b8 b9 b10
  go_wp2
  go_ret
  exact ⟨ret_eq (by simp only [bl_app, List.append_assoc]; rfl), HL.out⟩
set_option maxRecDepth 100000 in
set_option maxHeartbeats 6400000 in
theorem shx_let (T a b : Ex) (hk : T.k = 6) (hts : T.kids = [a, b]) (Ha : XC a) (Hb : XC b) (hl : (shE T).length ≤ 100000) (hsh : shE T = [108, 101, 116] ++ 32 :: (bl T.n ++ 32 :: 61 :: 32 :: (shE a ++ 32 :: ([105, 110] ++ 32 :: shE b)))) (c : List Value) (S : Nat → Prop) (w : World) (h : RepE w S T c) :
    Calls Tryd.prog 14 #[.agg c.toArray] w (ShV w (shE T)) := by
  have hL : T.n.size + (shE a).length + (shE b).length + 15 ≤ 100020 := by
    rw [hsh] at hl; simp only [List.length_cons, List.length_append, List.length_nil] at hl; rw [← bl_len]; omega
  obtain ⟨kv, av, tc0, hc0, -, hkids, -, htt⟩ := h.open
  obtain ⟨ka, kc, aa, ac, tk, tn, ti, th, ta, tl, tc, rfl⟩ := h.form
  simp only [List.cons.injEq] at hc0
  obtain ⟨-, -, -, -, rfl, rfl, rfl⟩ := hc0
  rw [hts] at hkids
  obtain ⟨V, hV⟩ : ∃ V, V = w.alloc (.cells #[.int .i64 T.k, .int .i64 T.p, .string T.n, .int .i64 T.m, .slice ka T.kids.length kc, .slice aa T.arms.length ac, .int .i64 tk, .string tn, .int .i64 ti, .int .i64 th, .slice ta tl tc] 37) := ⟨_, rfl⟩
  have hlow : Below w.heap.size w V := by rw [hV]; exact (Below.refl _ w).alloc (Nat.le_refl _) _
  have hbx : BoxC 37 V w.heap.size [.int .i64 T.k, .int .i64 T.p, .string T.n, .int .i64 T.m, .slice ka T.kids.length kc, .slice aa T.arms.length ac, .int .i64 tk, .string tn, .int .i64 ti, .int .i64 th, .slice ta tl tc] := by rw [hV]; exact BoxC.made _ w _
  have HLow : Hid (LoW w V) := hlow
  have HBx := Lib.hid hbx
  obtain ⟨-, hkc, ad, c, d, rfl, hca, hra, hcb, hrb⟩ := kids2 (slG_lift hkids hlow)
  have hn1 : T.kids.length = 2 := by rw [hts]; rfl
  rw [hn1] at hV HBx ⊢
  obtain ⟨ka0, kc0, aa0, ac0, tk0, tn0, ti0, th0, ta0, tl0, tc0, rfl⟩ := hra.form
  have HKa : Hid (∀ W, Below V.heap.size V W → Calls Tryd.prog 14 #[.agg #[.int .i64 a.k, .int .i64 a.p, .string a.n, .int .i64 a.m, .slice ka0 a.kids.length kc0, .slice aa0 a.arms.length ac0, .int .i64 tk0, .string tn0, .int .i64 ti0, .int .i64 th0, .slice ta0 tl0 tc0]] W fun e w' => e = .returned (.string ⟨(shE a).toArray⟩) ∧ Below W.heap.size W w') := fun W hW => Ha _ S W (hra.lift hW)
  obtain ⟨q0, q1, q2, q3, q4, q5, q6, q7, q8, q9, q10⟩ := kidA hca
  obtain ⟨ka1, kc1, aa1, ac1, tk1, tn1, ti1, th1, ta1, tl1, tc1, rfl⟩ := hrb.form
  have HKb : Hid (∀ W, Below V.heap.size V W → Calls Tryd.prog 14 #[.agg #[.int .i64 b.k, .int .i64 b.p, .string b.n, .int .i64 b.m, .slice ka1 b.kids.length kc1, .slice aa1 b.arms.length ac1, .int .i64 tk1, .string tn1, .int .i64 ti1, .int .i64 th1, .slice ta1 tl1 tc1]] W fun e w' => e = .returned (.string ⟨(shE b).toArray⟩) ∧ Below W.heap.size W w') := fun W hW => Hb _ S W (hrb.lift hW)
  obtain ⟨r0, r1, r2, r3, r4, r5, r6, r7, r8, r9, r10⟩ := kidB hcb
  rw [hk] at hV HBx ⊢
  rw [hsh]
  clear h hlow hbx htt hk hts Ha Hb hkids hca hra hcb hrb hn1 hl hsh
  generalize a.kids.length = kl0 at *
  generalize a.arms.length = al0 at *
  generalize shE a = la at *
  generalize b.kids.length = kl1 at *
  generalize b.arms.length = al1 at *
  generalize shE b = lb at *
  generalize T.arms.length = al at *
  generalize T.p = tp at *
  generalize T.m = tm at *
  generalize T.n = nm at *
  go_enter Tryd.func14, Tryd.ntmps14
  go_upto_region 1 with fail
  rw [← hV]
  clear hV
  generalize w.heap.size = B at *
  obtain ⟨b0, b1, b2, b3, b4, b5, b6, b7, b8, b9, b10⟩ := HBx.out.all11
  have Q0 := cell_regrown q0; have Q1 := cell_regrown q1; have Q2 := cell_regrown q2; have Q3 := cell_regrown q3; have Q4 := cell_regrown q4; have Q5 := cell_regrown q5; have Q6 := cell_regrown q6; have Q7 := cell_regrown q7; have Q8 := cell_regrown q8; have Q9 := cell_regrown q9; have Q10 := cell_regrown q10
  have R0 := cell_regrown r0; have R1 := cell_regrown r1; have R2 := cell_regrown r2; have R3 := cell_regrown r3; have R4 := cell_regrown r4; have R5 := cell_regrown r5; have R6 := cell_regrown r6; have R7 := cell_regrown r7; have R8 := cell_regrown r8; have R9 := cell_regrown r9; have R10 := cell_regrown r10
  have B2 := cell_regrown b2; have B4 := cell_regrown b4
  have z1 : ¬ 9223372036854775807 < 4 + nm.size := by omega
  have z2 : ¬ 9223372036854775807 < 4 + nm.size + 3 := by omega
  have z3 : ¬ 9223372036854775807 < 4 + nm.size + 3 + la.length := by omega
  have z4 : ¬ 9223372036854775807 < 4 + nm.size + 3 + la.length + 4 := by omega
  have z5 : ¬ 9223372036854775807 < 4 + nm.size + 3 + la.length + 4 + lb.length := by omega
  go_wp2
  refine wp_region_quiet_below (by kernel_rfl) (by kernel_rfl) ?_
  repeat (quiet_step ((go_at_call 14; first | (with_reducible exact Calls.regrown_of (HKa.out _ (below_regrown _ _ _))) | (with_reducible exact Calls.regrown_of (HKb.out _ (below_regrown _ _ _))))))
  refine wpQuiet_nil ?_
  intro _ hw'
  obtain ⟨⟨dq, osq⟩, hw''⟩ := hw'
  subst hw''
  have HL : Hid (LoW w (grow (redrawn V dq) osq)) := HLow.out.go (below_regrown V dq osq)
  clear q0 Q0 q1 Q1 q2 Q2 q3 Q3 q4 Q4 q5 Q5 q6 Q6 q7 Q7 q8 Q8 q9 Q9 q10 Q10 r0 R0 r1 R1 r2 R2 r3 R3 r4 R4 r5 R5 r6 R6 r7 R7 r8 R8 r9 R9 r10 R10 B2 B4 b0 b1 b2 b3 b4 b5 b6 b7 b8 b9 b10
  go_wp2
  go_ret
  exact ⟨ret_eq (by simp only [bl_app, List.append_assoc]; rfl), HL.out⟩
set_option maxRecDepth 100000 in
set_option maxHeartbeats 6400000 in
theorem shx_rec (T a b : Ex) (hk : T.k = 7) (hts : T.kids = [a, b]) (Ha : XC a) (Hb : XC b) (hl : (shE T).length ≤ 100000) (hsh : shE T = [108, 101, 116] ++ 32 :: ([114, 101, 99] ++ 32 :: (bl T.n ++ 32 :: 61 :: 32 :: (shE a ++ 32 :: ([105, 110] ++ 32 :: shE b))))) (c : List Value) (S : Nat → Prop) (w : World) (h : RepE w S T c) :
    Calls Tryd.prog 14 #[.agg c.toArray] w (ShV w (shE T)) := by
  have hL : T.n.size + (shE a).length + (shE b).length + 15 ≤ 100020 := by
    rw [hsh] at hl; simp only [List.length_cons, List.length_append, List.length_nil] at hl; rw [← bl_len]; omega
  obtain ⟨kv, av, tc0, hc0, -, hkids, -, htt⟩ := h.open
  obtain ⟨ka, kc, aa, ac, tk, tn, ti, th, ta, tl, tc, rfl⟩ := h.form
  simp only [List.cons.injEq] at hc0
  obtain ⟨-, -, -, -, rfl, rfl, rfl⟩ := hc0
  rw [hts] at hkids
  obtain ⟨V, hV⟩ : ∃ V, V = w.alloc (.cells #[.int .i64 T.k, .int .i64 T.p, .string T.n, .int .i64 T.m, .slice ka T.kids.length kc, .slice aa T.arms.length ac, .int .i64 tk, .string tn, .int .i64 ti, .int .i64 th, .slice ta tl tc] 37) := ⟨_, rfl⟩
  have hlow : Below w.heap.size w V := by rw [hV]; exact (Below.refl _ w).alloc (Nat.le_refl _) _
  have hbx : BoxC 37 V w.heap.size [.int .i64 T.k, .int .i64 T.p, .string T.n, .int .i64 T.m, .slice ka T.kids.length kc, .slice aa T.arms.length ac, .int .i64 tk, .string tn, .int .i64 ti, .int .i64 th, .slice ta tl tc] := by rw [hV]; exact BoxC.made _ w _
  have HLow : Hid (LoW w V) := hlow
  have HBx := Lib.hid hbx
  obtain ⟨-, hkc, ad, c, d, rfl, hca, hra, hcb, hrb⟩ := kids2 (slG_lift hkids hlow)
  have hn1 : T.kids.length = 2 := by rw [hts]; rfl
  rw [hn1] at hV HBx ⊢
  obtain ⟨ka0, kc0, aa0, ac0, tk0, tn0, ti0, th0, ta0, tl0, tc0, rfl⟩ := hra.form
  have HKa : Hid (∀ W, Below V.heap.size V W → Calls Tryd.prog 14 #[.agg #[.int .i64 a.k, .int .i64 a.p, .string a.n, .int .i64 a.m, .slice ka0 a.kids.length kc0, .slice aa0 a.arms.length ac0, .int .i64 tk0, .string tn0, .int .i64 ti0, .int .i64 th0, .slice ta0 tl0 tc0]] W fun e w' => e = .returned (.string ⟨(shE a).toArray⟩) ∧ Below W.heap.size W w') := fun W hW => Ha _ S W (hra.lift hW)
  obtain ⟨q0, q1, q2, q3, q4, q5, q6, q7, q8, q9, q10⟩ := kidA hca
  obtain ⟨ka1, kc1, aa1, ac1, tk1, tn1, ti1, th1, ta1, tl1, tc1, rfl⟩ := hrb.form
  have HKb : Hid (∀ W, Below V.heap.size V W → Calls Tryd.prog 14 #[.agg #[.int .i64 b.k, .int .i64 b.p, .string b.n, .int .i64 b.m, .slice ka1 b.kids.length kc1, .slice aa1 b.arms.length ac1, .int .i64 tk1, .string tn1, .int .i64 ti1, .int .i64 th1, .slice ta1 tl1 tc1]] W fun e w' => e = .returned (.string ⟨(shE b).toArray⟩) ∧ Below W.heap.size W w') := fun W hW => Hb _ S W (hrb.lift hW)
  obtain ⟨r0, r1, r2, r3, r4, r5, r6, r7, r8, r9, r10⟩ := kidB hcb
  rw [hk] at hV HBx ⊢
  rw [hsh]
  clear h hlow hbx htt hk hts Ha Hb hkids hca hra hcb hrb hn1 hl hsh
  generalize a.kids.length = kl0 at *
  generalize a.arms.length = al0 at *
  generalize shE a = la at *
  generalize b.kids.length = kl1 at *
  generalize b.arms.length = al1 at *
  generalize shE b = lb at *
  generalize T.arms.length = al at *
  generalize T.p = tp at *
  generalize T.m = tm at *
  generalize T.n = nm at *
  go_enter Tryd.func14, Tryd.ntmps14
  go_upto_region 1 with fail
  rw [← hV]
  clear hV
  generalize w.heap.size = B at *
  obtain ⟨b0, b1, b2, b3, b4, b5, b6, b7, b8, b9, b10⟩ := HBx.out.all11
  have Q0 := cell_regrown q0; have Q1 := cell_regrown q1; have Q2 := cell_regrown q2; have Q3 := cell_regrown q3; have Q4 := cell_regrown q4; have Q5 := cell_regrown q5; have Q6 := cell_regrown q6; have Q7 := cell_regrown q7; have Q8 := cell_regrown q8; have Q9 := cell_regrown q9; have Q10 := cell_regrown q10
  have R0 := cell_regrown r0; have R1 := cell_regrown r1; have R2 := cell_regrown r2; have R3 := cell_regrown r3; have R4 := cell_regrown r4; have R5 := cell_regrown r5; have R6 := cell_regrown r6; have R7 := cell_regrown r7; have R8 := cell_regrown r8; have R9 := cell_regrown r9; have R10 := cell_regrown r10
  have B2 := cell_regrown b2; have B4 := cell_regrown b4
  have z1 : ¬ 9223372036854775807 < 8 + nm.size := by omega
  have z2 : ¬ 9223372036854775807 < 8 + nm.size + 3 := by omega
  have z3 : ¬ 9223372036854775807 < 8 + nm.size + 3 + la.length := by omega
  have z4 : ¬ 9223372036854775807 < 8 + nm.size + 3 + la.length + 4 := by omega
  have z5 : ¬ 9223372036854775807 < 8 + nm.size + 3 + la.length + 4 + lb.length := by omega
  go_wp2
  refine wp_region_quiet_below (by kernel_rfl) (by kernel_rfl) ?_
  repeat (quiet_step ((go_at_call 14; first | (with_reducible exact Calls.regrown_of (HKa.out _ (below_regrown _ _ _))) | (with_reducible exact Calls.regrown_of (HKb.out _ (below_regrown _ _ _))))))
  refine wpQuiet_nil ?_
  intro _ hw'
  obtain ⟨⟨dq, osq⟩, hw''⟩ := hw'
  subst hw''
  have HL : Hid (LoW w (grow (redrawn V dq) osq)) := HLow.out.go (below_regrown V dq osq)
  clear q0 Q0 q1 Q1 q2 Q2 q3 Q3 q4 Q4 q5 Q5 q6 Q6 q7 Q7 q8 Q8 q9 Q9 q10 Q10 r0 R0 r1 R1 r2 R2 r3 R3 r4 R4 r5 R5 r6 R6 r7 R7 r8 R8 r9 R9 r10 R10 B2 B4 b0 b1 b2 b3 b4 b5 b6 b7 b8 b9 b10
  go_wp2
  go_ret
  exact ⟨ret_eq (by simp only [bl_app, List.append_assoc]; rfl), HL.out⟩
set_option maxRecDepth 100000 in
set_option maxHeartbeats 6400000 in
theorem shx_ann (T a : Ex) (hk : T.k = 9) (hts : T.kids = [a]) (Ha : XC a) (hst : src T.t = true) (hnt : nodes T.t ≤ 100000) (hl : (shE T).length ≤ 100000) (hsh : shE T = 40 :: (shE a ++ 32 :: 58 :: 32 :: (shT T.t ++ [41]))) (c : List Value) (S : Nat → Prop) (w : World) (h : RepE w S T c) :
    Calls Tryd.prog 14 #[.agg c.toArray] w (ShV w (shE T)) := by
  have hL : (shE a).length + (shT T.t).length + 5 ≤ 100000 := by
    rw [hsh] at hl; simp only [List.length_cons, List.length_append, List.length_nil] at hl; omega
  obtain ⟨kv, av, tc0, hc0, -, hkids, -, htt⟩ := h.open
  obtain ⟨ka, kc, aa, ac, tk, tn, ti, th, ta, tl, tc, rfl⟩ := h.form
  simp only [List.cons.injEq] at hc0
  obtain ⟨-, -, -, -, rfl, rfl, rfl⟩ := hc0
  rw [hts] at hkids
  obtain ⟨V, hV⟩ : ∃ V, V = w.alloc (.cells #[.int .i64 T.k, .int .i64 T.p, .string T.n, .int .i64 T.m, .slice ka T.kids.length kc, .slice aa T.arms.length ac, .int .i64 tk, .string tn, .int .i64 ti, .int .i64 th, .slice ta tl tc] 37) := ⟨_, rfl⟩
  have hlow : Below w.heap.size w V := by rw [hV]; exact (Below.refl _ w).alloc (Nat.le_refl _) _
  have hbx : BoxC 37 V w.heap.size [.int .i64 T.k, .int .i64 T.p, .string T.n, .int .i64 T.m, .slice ka T.kids.length kc, .slice aa T.arms.length ac, .int .i64 tk, .string tn, .int .i64 ti, .int .i64 th, .slice ta tl tc] := by rw [hV]; exact BoxC.made _ w _
  have HLow : Hid (LoW w V) := hlow
  have HBx := Lib.hid hbx
  have HTy : Hid (∀ W, Below V.heap.size V W → Calls Tryd.prog 35 #[.agg #[.int .i64 tk, .string tn, .int .i64 ti, .int .i64 th, .slice ta tl tc]] W fun e w' => e = .returned (.string ⟨(shT T.t).toArray⟩) ∧ Below W.heap.size W w') := fun W hW => (showT_any T.t hst hnt _ S W ((htt.lift hlow).lift hW)).mono (by rintro e w' ⟨s, rfl, hs, hb⟩; exact ⟨by rw [← hs]; rfl, hb⟩)
  obtain ⟨-, hkc, ad, c, rfl, hca, hra⟩ := kids1 (slG_lift hkids hlow)
  have hn1 : T.kids.length = 1 := by rw [hts]; rfl
  rw [hn1] at hV HBx ⊢
  obtain ⟨ka0, kc0, aa0, ac0, tk0, tn0, ti0, th0, ta0, tl0, tc0, rfl⟩ := hra.form
  have HKa : Hid (∀ W, Below V.heap.size V W → Calls Tryd.prog 14 #[.agg #[.int .i64 a.k, .int .i64 a.p, .string a.n, .int .i64 a.m, .slice ka0 a.kids.length kc0, .slice aa0 a.arms.length ac0, .int .i64 tk0, .string tn0, .int .i64 ti0, .int .i64 th0, .slice ta0 tl0 tc0]] W fun e w' => e = .returned (.string ⟨(shE a).toArray⟩) ∧ Below W.heap.size W w') := fun W hW => Ha _ S W (hra.lift hW)
  obtain ⟨q0, q1, q2, q3, q4, q5, q6, q7, q8, q9, q10⟩ := kidA hca
  rw [hk] at hV HBx ⊢
  rw [hsh]
  clear h hlow hbx htt hk hts Ha hst hnt hkids hca hra hn1 hl hsh
  generalize a.kids.length = kl0 at *
  generalize a.arms.length = al0 at *
  generalize shE a = la at *
  generalize T.arms.length = al at *
  generalize T.p = tp at *
  generalize T.m = tm at *
  generalize T.n = nm at *
  generalize shT T.t = lt at *
  go_enter Tryd.func14, Tryd.ntmps14
  go_upto_region 1 with fail
  rw [← hV]
  clear hV
  generalize w.heap.size = B at *
  obtain ⟨b0, b1, b2, b3, b4, b5, b6, b7, b8, b9, b10⟩ := HBx.out.all11
  have Q0 := cell_regrown q0; have Q1 := cell_regrown q1; have Q2 := cell_regrown q2; have Q3 := cell_regrown q3; have Q4 := cell_regrown q4; have Q5 := cell_regrown q5; have Q6 := cell_regrown q6; have Q7 := cell_regrown q7; have Q8 := cell_regrown q8; have Q9 := cell_regrown q9; have Q10 := cell_regrown q10
  have B4 := cell_regrown b4; have B6 := cell_regrown b6; have B7 := cell_regrown b7; have B8 := cell_regrown b8; have B9 := cell_regrown b9; have B10 := cell_regrown b10
  have z1 : ¬ 9223372036854775807 < 1 + la.length := by omega
  have z2 : ¬ 9223372036854775807 < 1 + la.length + 3 := by omega
  have z3 : ¬ 9223372036854775807 < 1 + la.length + 3 + lt.length := by omega
  have z4 : ¬ 9223372036854775807 < 1 + la.length + 3 + lt.length + 1 := by omega
  go_wp2
  refine wp_region_quiet_below (by kernel_rfl) (by kernel_rfl) ?_
  repeat (quiet_step (first | (go_at_call 14; exact Calls.regrown_of (HKa.out _ (below_regrown _ _ _))) | (go_at_call 35; exact Calls.regrown_of (HTy.out _ (below_regrown _ _ _)))))
  refine wpQuiet_nil ?_
  intro _ hw'
  obtain ⟨⟨dq, osq⟩, hw''⟩ := hw'
  subst hw''
  have HL : Hid (LoW w (grow (redrawn V dq) osq)) := HLow.out.go (below_regrown V dq osq)
  clear q0 Q0 q1 Q1 q2 Q2 q3 Q3 q4 Q4 q5 Q5 q6 Q6 q7 Q7 q8 Q8 q9 Q9 q10 Q10 B4 B6 B7 B8 B9 B10 b0 b1 b2 b3 b4 b5 b6 b7 b8 b9 b10
  go_wp2
  go_ret
  exact ⟨ret_eq (by simp only [bl_app, List.append_assoc]; rfl), HL.out⟩
set_option maxRecDepth 100000 in
set_option maxHeartbeats 6400000 in
theorem shx_held (T a : Ex) (hk : T.k = 11) (hts : T.kids = [a]) (Ha : XC a) (hl : (shE T).length ≤ 100000) (hsh : shE T = 123 :: (shE a ++ [125])) (c : List Value) (S : Nat → Prop) (w : World) (h : RepE w S T c) :
    Calls Tryd.prog 14 #[.agg c.toArray] w (ShV w (shE T)) := by
  have hL : (shE a).length + 2 ≤ 100000 := by
    rw [hsh] at hl; simp only [List.length_cons, List.length_append, List.length_nil] at hl; omega
  obtain ⟨kv, av, tc0, hc0, -, hkids, -, htt⟩ := h.open
  obtain ⟨ka, kc, aa, ac, tk, tn, ti, th, ta, tl, tc, rfl⟩ := h.form
  simp only [List.cons.injEq] at hc0
  obtain ⟨-, -, -, -, rfl, rfl, rfl⟩ := hc0
  rw [hts] at hkids
  obtain ⟨V, hV⟩ : ∃ V, V = w.alloc (.cells #[.int .i64 T.k, .int .i64 T.p, .string T.n, .int .i64 T.m, .slice ka T.kids.length kc, .slice aa T.arms.length ac, .int .i64 tk, .string tn, .int .i64 ti, .int .i64 th, .slice ta tl tc] 37) := ⟨_, rfl⟩
  have hlow : Below w.heap.size w V := by rw [hV]; exact (Below.refl _ w).alloc (Nat.le_refl _) _
  have hbx : BoxC 37 V w.heap.size [.int .i64 T.k, .int .i64 T.p, .string T.n, .int .i64 T.m, .slice ka T.kids.length kc, .slice aa T.arms.length ac, .int .i64 tk, .string tn, .int .i64 ti, .int .i64 th, .slice ta tl tc] := by rw [hV]; exact BoxC.made _ w _
  have HLow : Hid (LoW w V) := hlow
  have HBx := Lib.hid hbx
  obtain ⟨-, hkc, ad, c, rfl, hca, hra⟩ := kids1 (slG_lift hkids hlow)
  have hn1 : T.kids.length = 1 := by rw [hts]; rfl
  rw [hn1] at hV HBx ⊢
  obtain ⟨ka0, kc0, aa0, ac0, tk0, tn0, ti0, th0, ta0, tl0, tc0, rfl⟩ := hra.form
  have HKa : Hid (∀ W, Below V.heap.size V W → Calls Tryd.prog 14 #[.agg #[.int .i64 a.k, .int .i64 a.p, .string a.n, .int .i64 a.m, .slice ka0 a.kids.length kc0, .slice aa0 a.arms.length ac0, .int .i64 tk0, .string tn0, .int .i64 ti0, .int .i64 th0, .slice ta0 tl0 tc0]] W fun e w' => e = .returned (.string ⟨(shE a).toArray⟩) ∧ Below W.heap.size W w') := fun W hW => Ha _ S W (hra.lift hW)
  obtain ⟨q0, q1, q2, q3, q4, q5, q6, q7, q8, q9, q10⟩ := kidA hca
  rw [hk] at hV HBx ⊢
  rw [hsh]
  clear h hlow hbx htt hk hts Ha hkids hca hra hn1 hl hsh
  generalize a.kids.length = kl0 at *
  generalize a.arms.length = al0 at *
  generalize shE a = la at *
  generalize T.arms.length = al at *
  generalize T.p = tp at *
  generalize T.m = tm at *
  generalize T.n = nm at *
  go_enter Tryd.func14, Tryd.ntmps14
  go_upto_region 1 with fail
  rw [← hV]
  clear hV
  generalize w.heap.size = B at *
  obtain ⟨b0, b1, b2, b3, b4, b5, b6, b7, b8, b9, b10⟩ := HBx.out.all11
  go_wp2_with fail
  go_at_call 14
  refine (HKa.out _ (Below.refl _ _)).mono ?_
  rintro e V1 ⟨rfl, hb⟩
  have HL := Lib.hid (HLow.out.go hb)
  clear hb q0 b0 q1 b1 q2 b2 q3 b3 q4 b4 q5 b5 q6 b6 q7 b7 q8 b8 q9 b9 q10 b10
  go_wp2
  go_ret
  exact ⟨ret_eq (by simp only [bl_app, List.append_assoc]; rfl), HL.out⟩
set_option maxRecDepth 100000 in
set_option maxHeartbeats 6400000 in
theorem shx_var (T : Ex) (hk : T.k = 1) (hsh : shE T = bl T.n) (c : List Value) (S : Nat → Prop) (w : World) (h : RepE w S T c) :
    Calls Tryd.prog 14 #[.agg c.toArray] w (ShV w (shE T)) := by
  obtain ⟨kv, av, tc0, hc0, -, hkids, -, htt⟩ := h.open
  obtain ⟨ka, kc, aa, ac, tk, tn, ti, th, ta, tl, tc, rfl⟩ := h.form
  simp only [List.cons.injEq] at hc0
  obtain ⟨-, -, -, -, rfl, rfl, rfl⟩ := hc0
  obtain ⟨V, hV⟩ : ∃ V, V = w.alloc (.cells #[.int .i64 T.k, .int .i64 T.p, .string T.n, .int .i64 T.m, .slice ka T.kids.length kc, .slice aa T.arms.length ac, .int .i64 tk, .string tn, .int .i64 ti, .int .i64 th, .slice ta tl tc] 37) := ⟨_, rfl⟩
  have hlow : Below w.heap.size w V := by rw [hV]; exact (Below.refl _ w).alloc (Nat.le_refl _) _
  have hbx : BoxC 37 V w.heap.size [.int .i64 T.k, .int .i64 T.p, .string T.n, .int .i64 T.m, .slice ka T.kids.length kc, .slice aa T.arms.length ac, .int .i64 tk, .string tn, .int .i64 ti, .int .i64 th, .slice ta tl tc] := by rw [hV]; exact BoxC.made _ w _
  have HLow : Hid (LoW w V) := hlow
  have HBx := Lib.hid hbx
  rw [hk] at hV HBx ⊢
  rw [hsh]
  clear h hlow hbx htt hk hkids hsh
  generalize T.arms.length = al at *
  generalize T.p = tp at *
  generalize T.kids.length = kl at *
  go_enter Tryd.func14, Tryd.ntmps14
  go_upto_region 1 with fail
  rw [← hV]
  clear hV
  generalize w.heap.size = B at *
  obtain ⟨b0, b1, b2, b3, b4, b5, b6, b7, b8, b9, b10⟩ := HBx.out.all11
  go_wp2
  go_ret
  exact ⟨ret_eq rfl, HLow.out⟩
set_option maxRecDepth 100000 in
set_option maxHeartbeats 6400000 in
theorem shx_con (T : Ex) (hk : T.k = 2) (hsh : shE T = bl T.n) (c : List Value) (S : Nat → Prop) (w : World) (h : RepE w S T c) :
    Calls Tryd.prog 14 #[.agg c.toArray] w (ShV w (shE T)) := by
  obtain ⟨kv, av, tc0, hc0, -, hkids, -, htt⟩ := h.open
  obtain ⟨ka, kc, aa, ac, tk, tn, ti, th, ta, tl, tc, rfl⟩ := h.form
  simp only [List.cons.injEq] at hc0
  obtain ⟨-, -, -, -, rfl, rfl, rfl⟩ := hc0
  obtain ⟨V, hV⟩ : ∃ V, V = w.alloc (.cells #[.int .i64 T.k, .int .i64 T.p, .string T.n, .int .i64 T.m, .slice ka T.kids.length kc, .slice aa T.arms.length ac, .int .i64 tk, .string tn, .int .i64 ti, .int .i64 th, .slice ta tl tc] 37) := ⟨_, rfl⟩
  have hlow : Below w.heap.size w V := by rw [hV]; exact (Below.refl _ w).alloc (Nat.le_refl _) _
  have hbx : BoxC 37 V w.heap.size [.int .i64 T.k, .int .i64 T.p, .string T.n, .int .i64 T.m, .slice ka T.kids.length kc, .slice aa T.arms.length ac, .int .i64 tk, .string tn, .int .i64 ti, .int .i64 th, .slice ta tl tc] := by rw [hV]; exact BoxC.made _ w _
  have HLow : Hid (LoW w V) := hlow
  have HBx := Lib.hid hbx
  rw [hk] at hV HBx ⊢
  rw [hsh]
  clear h hlow hbx htt hk hkids hsh
  generalize T.arms.length = al at *
  generalize T.p = tp at *
  generalize T.kids.length = kl at *
  go_enter Tryd.func14, Tryd.ntmps14
  go_upto_region 1 with fail
  rw [← hV]
  clear hV
  generalize w.heap.size = B at *
  obtain ⟨b0, b1, b2, b3, b4, b5, b6, b7, b8, b9, b10⟩ := HBx.out.all11
  go_wp2
  go_ret
  exact ⟨ret_eq rfl, HLow.out⟩
set_option maxRecDepth 100000 in
set_option maxHeartbeats 6400000 in
theorem shx_hole (T : Ex) (hk : T.k = 10) (hsh : shE T = [63]) (c : List Value) (S : Nat → Prop) (w : World) (h : RepE w S T c) :
    Calls Tryd.prog 14 #[.agg c.toArray] w (ShV w (shE T)) := by
  obtain ⟨kv, av, tc0, hc0, -, hkids, -, htt⟩ := h.open
  obtain ⟨ka, kc, aa, ac, tk, tn, ti, th, ta, tl, tc, rfl⟩ := h.form
  simp only [List.cons.injEq] at hc0
  obtain ⟨-, -, -, -, rfl, rfl, rfl⟩ := hc0
  obtain ⟨V, hV⟩ : ∃ V, V = w.alloc (.cells #[.int .i64 T.k, .int .i64 T.p, .string T.n, .int .i64 T.m, .slice ka T.kids.length kc, .slice aa T.arms.length ac, .int .i64 tk, .string tn, .int .i64 ti, .int .i64 th, .slice ta tl tc] 37) := ⟨_, rfl⟩
  have hlow : Below w.heap.size w V := by rw [hV]; exact (Below.refl _ w).alloc (Nat.le_refl _) _
  have hbx : BoxC 37 V w.heap.size [.int .i64 T.k, .int .i64 T.p, .string T.n, .int .i64 T.m, .slice ka T.kids.length kc, .slice aa T.arms.length ac, .int .i64 tk, .string tn, .int .i64 ti, .int .i64 th, .slice ta tl tc] := by rw [hV]; exact BoxC.made _ w _
  have HLow : Hid (LoW w V) := hlow
  have HBx := Lib.hid hbx
  rw [hk] at hV HBx ⊢
  rw [hsh]
  clear h hlow hbx htt hk hkids hsh
  generalize T.arms.length = al at *
  generalize T.p = tp at *
  generalize T.kids.length = kl at *
  go_enter Tryd.func14, Tryd.ntmps14
  go_upto_region 1 with fail
  rw [← hV]
  clear hV
  generalize w.heap.size = B at *
  obtain ⟨b0, b1, b2, b3, b4, b5, b6, b7, b8, b9, b10⟩ := HBx.out.all11
  go_wp2
  go_ret
  exact ⟨rfl, HLow.out⟩
set_option maxRecDepth 100000 in
set_option maxHeartbeats 6400000 in
theorem shx_int (T : Ex) (u : Nat) (hk : T.k = 3) (hu : T.m = u) (hu9 : u ≤ 9) (hsh : shE T = Lib.itoa (u : Int)) (c : List Value) (S : Nat → Prop) (w : World) (h : RepE w S T c) :
    Calls Tryd.prog 14 #[.agg c.toArray] w (ShV w (shE T)) := by
  obtain ⟨kv, av, tc0, hc0, -, hkids, -, htt⟩ := h.open
  obtain ⟨ka, kc, aa, ac, tk, tn, ti, th, ta, tl, tc, rfl⟩ := h.form
  simp only [List.cons.injEq] at hc0
  obtain ⟨-, -, -, -, rfl, rfl, rfl⟩ := hc0
  obtain ⟨V, hV⟩ : ∃ V, V = w.alloc (.cells #[.int .i64 T.k, .int .i64 T.p, .string T.n, .int .i64 T.m, .slice ka T.kids.length kc, .slice aa T.arms.length ac, .int .i64 tk, .string tn, .int .i64 ti, .int .i64 th, .slice ta tl tc] 37) := ⟨_, rfl⟩
  have hlow : Below w.heap.size w V := by rw [hV]; exact (Below.refl _ w).alloc (Nat.le_refl _) _
  have hbx : BoxC 37 V w.heap.size [.int .i64 T.k, .int .i64 T.p, .string T.n, .int .i64 T.m, .slice ka T.kids.length kc, .slice aa T.arms.length ac, .int .i64 tk, .string tn, .int .i64 ti, .int .i64 th, .slice ta tl tc] := by rw [hV]; exact BoxC.made _ w _
  have HLow : Hid (LoW w V) := hlow
  have HBx := Lib.hid hbx
  rw [hk] at hV HBx ⊢
  have HN : Hid (Calls Tryd.prog 27 #[.int .i64 (u : Int)] V fun e w' => e = .returned (.string ⟨(Lib.itoa (u : Int)).toArray⟩) ∧ V = w') := refNumber_nat u V (by omega)
  rw [hsh]
  generalize Lib.itoa (u : Int) = la at *
  rw [hu] at hV HBx ⊢
  clear h hlow hbx htt hk hkids hsh hu
  generalize T.arms.length = al at *
  generalize T.p = tp at *
  generalize T.kids.length = kl at *
  generalize T.n = nm at *
  go_enter Tryd.func14, Tryd.ntmps14
  go_upto_region 1 with fail
  rw [← hV]
  clear hV
  generalize w.heap.size = B at *
  obtain ⟨b0, b1, b2, b3, b4, b5, b6, b7, b8, b9, b10⟩ := HBx.out.all11
  go_wp2_with fail
  go_at_call 27
  refine HN.out.mono ?_
  rintro e V1 ⟨rfl, rfl⟩
  go_wp2
  go_ret
  exact ⟨rfl, HLow.out⟩
end Go.Proofs.YtfkbifbodpelmaaDoor

/- The canonical text of an expression: the reference's Expr at an application. -/
namespace Go.Proofs.YtfkbifbodpelmaaDoor
open Go.RowKit Go.Maps Go.Sort Mth

theorem xs_new2 (V : World) (x y : List Value) (t : TypeId) : BoxC t ((V.alloc (.cells x.toArray t)).alloc (.cells y.toArray t)).drew V.heap.size x ∧ BoxC t ((V.alloc (.cells x.toArray t)).alloc (.cells y.toArray t)).drew (V.heap.size + 1) y ∧ Below V.heap.size V ((V.alloc (.cells x.toArray t)).alloc (.cells y.toArray t)).drew := by
  have h2 : Below (V.alloc (.cells x.toArray t)).heap.size (V.alloc (.cells x.toArray t)) ((V.alloc (.cells x.toArray t)).alloc (.cells y.toArray t)) := (Below.refl _ _).alloc (Nat.le_refl _) _
  refine ⟨((BoxC.made _ V x).lift h2).lift (Below.refl _ _).drew, ?_, (((Below.refl _ V).alloc (Nat.le_refl _) _).alloc (by simp) _).drew⟩
  have := (BoxC.made t (V.alloc (.cells x.toArray t)) y).lift (Below.refl _ _).drew
  simpa using this
theorem keepX {W a b : World} (h1 : Below W.heap.size W a) (h2 : Below a.heap.size a b) : Below W.heap.size W b := h1.trans (h2.mono h1.size)
theorem brk_len2 (q : Bool) (l : List UInt8) : l.length ≤ (brk q l).length := by
  cases q <;> simp [brk] <;> omega
theorem brk_4 (b : Bool) (l : List UInt8) (h : l.length ≤ 100000) : (brk b l).length ≤ 100002 := by have := brk_len b l; omega
/-- The two parts in their variables. -/
structure App (V U : World) (m n : Nat) (x y : List Value) : Prop where
  one : BoxC 37 U m x
  two : BoxC 37 U n y
  low : Below V.heap.size V U
theorem app1 (V : World) (x y : List Value) : App V ((V.alloc (.cells x.toArray 37)).alloc (.cells y.toArray 37)).drew V.heap.size (V.heap.size + 1) x y := by
  obtain ⟨h1, h2, h3⟩ := xs_new2 V x y 37
  exact ⟨h1, h2, h3⟩
theorem app2 (V : World) (x y : List Value) : App V ((V.alloc (.cells y.toArray 37)).alloc (.cells x.toArray 37)).drew (V.heap.size + 1) V.heap.size x y := by
  obtain ⟨h1, h2, h3⟩ := xs_new2 V y x 37
  exact ⟨h2, h1, h3⟩
end Go.Proofs.YtfkbifbodpelmaaDoor
