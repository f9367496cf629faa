import Derived.Test.YtgfjcpeeoapjlaaQV22
import Derived.Test.YtgfjcpeeoapjlaaQV05
/- The package's scope.Expr at a variable that is not visible. -/
namespace Go.Proofs.Ytgfjcpeeoapjlaa
open Go.RowKit Go.Maps Mth S3

theorem sizeFl : (Try.prog.info? 45).map (·.size) = some 2 := by kernel_rfl
/-- An expression's box and the result's box of a function that returns a fault. -/
structure FtSt (w : World) (c : List Value) (V : World) : Prop where
  box : BoxC 36 V w.heap.size c
  res : BoxC 45 V (w.heap.size + 1) [.int .i64 0, .int .i64 0]
  low : Below w.heap.size w V
theorem FtSt.start (w : World) (c : List Value) : FtSt w c ((w.alloc (.cells c.toArray 36)).alloc (.cells #[.int .i64 0, .int .i64 0] 45)) := by
  have hb1 : Below w.heap.size w (w.alloc (.cells c.toArray 36)) := (Below.refl _ w).alloc (Nat.le_refl _) _
  have hB := BoxC.made 36 w c
  have hs : (w.alloc (.cells c.toArray 36)).heap.size = w.heap.size + 1 := by simp
  generalize (w.alloc (.cells c.toArray 36)) = V at *
  have hb2 : Below V.heap.size V (V.alloc (.cells #[.int .i64 0, .int .i64 0] 45)) := (Below.refl _ V).alloc (Nat.le_refl _) _
  have hB2 := BoxC.made 45 V [.int .i64 0, .int .i64 0]
  rw [hs] at hB2
  exact ⟨hB.lift hb2, hB2, hb1.trans (hb2.mono hb1.size)⟩
theorem FtSt.lift {w : World} {c : List Value} {V V' : World} (H : FtSt w c V) (hb : Below V.heap.size V V') : FtSt w c V' := ⟨H.box.lift hb, H.res.lift hb, H.low.trans (hb.mono H.low.size)⟩
theorem FtSt.fin {w : World} {c : List Value} {V V' : World} (H : FtSt w c V) (hg : V.grownBy V' (some (w.heap.size + 1))) : Below w.heap.size w V' := Below.grown H.low hg H.low.size (fun k hk => by have := Option.some.inj hk; omega)
theorem set2 {t : TypeId} {w : World} {B : Nat} {c0 c1 : Value} (h : BoxC t w B [c0, c1]) (v0 v1 : Value) : BoxC t ((w.setCell ⟨B, 0, none⟩ v0).setCell ⟨B, 1, none⟩ v1) B [v0, v1] ∧ w.grownBy ((w.setCell ⟨B, 0, none⟩ v0).setCell ⟨B, 1, none⟩ v1) (some B) := by
  obtain ⟨h0, g0, -⟩ := h.set 0 v0
  obtain ⟨h1, g1, -⟩ := h0.set 1 v1
  exact ⟨h1, grown_trans g0 g1⟩
theorem one2 (a b : Int) : ∀ u ∈ ([.int .i64 a, .int .i64 b] : List Value), u.oneCell' = true := by intro u hu; simp at hu; rcases hu with rfl | rfl <;> rfl
set_option maxRecDepth 100000 in
set_option maxHeartbeats 6400000 in
theorem nodeVar_any (T : Ex) (hk : T.k = 1) (dv : Value) (S : Nat → Prop) (c : List Value) (w : World) (h : RepE w S T c) :
    Calls Try.prog 44 #[dv, .slice none 0 0, .agg c.toArray] w fun e w' => e = .returned (.agg #[.int .i64 9, .int .i64 T.p]) ∧ Below w.heap.size w w' := by
  have HC : Hid (∀ V : World, Calls Try.prog 60 #[.slice none 0 0, .string T.n] V fun e w' => e = .returned (.bool false) ∧ V = w') := fun V => contains_any [] T.n _ (fun _ => True) V (slG_nil _ _ _)
  obtain ⟨ka, kc, aa, ac, tk, tn, ti, th, ta, tl, tc, rfl⟩ := h.form
  have HF := Lib.hid (FtSt.start w [.int .i64 T.k, .int .i64 T.p, .string T.n, .int .i64 T.m, .slice ka T.kids.length kc, .slice aa T.arms.length ac, .int .i64 tk, .string tn, .int .i64 ti, .int .i64 th, .slice ta tl tc])
  clear h
  generalize T.kids.length = kn at *
  generalize T.arms.length = an at *
  simp only [List.toArray] at HF ⊢
  rw [hk] at HF ⊢
  clear hk
  go_enter Try.func44, Try.ntmps44
  go_upto_region 1 with fail
  generalize ((w.alloc (.cells #[.int .i64 1, .int .i64 T.p, .string T.n, .int .i64 T.m, .slice ka kn kc, .slice aa an ac, .int .i64 tk, .string tn, .int .i64 ti, .int .i64 th, .slice ta tl tc] 36)).alloc (.cells #[.int .i64 0, .int .i64 0] 45)) = V at *
  obtain ⟨b0, b1, b2, b3, b4, b5, b6, b7, b8, b9, b10⟩ := bx11 HF.out.box
  go_wp2_with (first
    | (go_at_call 60; refine (HC.out _).mono ?_; rintro e w1 ⟨rfl, rfl⟩)
    | (refine wpList_storeC rfl _ _ rfl _ _ [.int .i64 9, .int .i64 T.p] HF.out.res rfl rfl sizeFl rfl (one2 _ _) ?_; intro w2 hB2 hg2 hs2))
  have c0 := hB2.cell 0 _ rfl; have c1 := hB2.cell 1 _ rfl
  refine bodyPost_ret (by simp [results, Try.results44, go_sem, c0, c1]; try rfl) rfl ?_
  exact ⟨rfl, HF.out.fin hg2⟩
set_option maxRecDepth 100000 in
set_option maxHeartbeats 6400000 in
theorem exprVar_any (T : Ex) (hk : T.k = 1) (dv : Value) (S : Nat → Prop) (c : List Value) (w : World) (h : RepE w S T c) :
    Calls Try.prog 25 #[dv, .slice none 0 0, .agg c.toArray] w fun e w' => e = .returned (.agg #[.int .i64 9, .int .i64 T.p]) ∧ Below w.heap.size w w' := by
  have HN : Hid (∀ V, Below w.heap.size w V → Calls Try.prog 44 #[dv, .slice none 0 0, .agg c.toArray] V fun e w' => e = .returned (.agg #[.int .i64 9, .int .i64 T.p]) ∧ Below V.heap.size V w') := fun V hV => nodeVar_any T hk dv S c V (h.lift hV)
  obtain ⟨ka, kc, aa, ac, tk, tn, ti, th, ta, tl, tc, rfl⟩ := h.form
  have HF := Lib.hid (FtSt.start w [.int .i64 T.k, .int .i64 T.p, .string T.n, .int .i64 T.m, .slice ka T.kids.length kc, .slice aa T.arms.length ac, .int .i64 tk, .string tn, .int .i64 ti, .int .i64 th, .slice ta tl tc])
  have HMk : Hid (∀ V : World, BoxC 45 (V.alloc (.cells #[.int .i64 0, .int .i64 0] 45)) V.heap.size [.int .i64 0, .int .i64 0]) := fun V => BoxC.made _ V _
  clear h hk
  generalize T.kids.length = kn at *
  generalize T.arms.length = an at *
  simp only [List.toArray] at HF HN ⊢
  go_enter Try.func25, Try.ntmps25
  go_upto_region 1 with fail
  generalize ((w.alloc (.cells #[.int .i64 T.k, .int .i64 T.p, .string T.n, .int .i64 T.m, .slice ka kn kc, .slice aa an ac, .int .i64 tk, .string tn, .int .i64 ti, .int .i64 th, .slice ta tl tc] 36)).alloc (.cells #[.int .i64 0, .int .i64 0] 45)) = V at *
  obtain ⟨b0, b1, b2, b3, b4, b5, b6, b7, b8, b9, b10⟩ := bx11 HF.out.box
  go_upto_region 2 with (first
    | (go_at_call 44; refine (HN.out _ HF.out.low).mono ?_; rintro e w1 ⟨rfl, hb1⟩; have HF1 := Lib.hid (HF.out.lift hb1); clear hb1 b0 b1 b2 b3 b4 b5 b6 b7 b8 b9 b10)
    | (refine wpList_storeC rfl _ _ rfl _ _ [.int .i64 9, .int .i64 T.p] (HMk.out _) rfl rfl sizeFl rfl (one2 _ _) ?_; intro w2 hB2 hg2 hs2))
  have HF2 : Hid (FtSt w _ w2) := HF1.out.lift (Below.grown ((Below.refl _ w1).alloc (Nat.le_refl _) _) hg2 ((Below.refl _ w1).alloc (Nat.le_refl _) _).size (fun k hk => by have := Option.some.inj hk; omega))
  have d0 := hB2.cell 0 _ rfl; have d1 := hB2.cell 1 _ rfl
  clear hB2 hg2 hs2
  generalize w1.heap.size = B at *
  go_wp2_with (refine wpList_storeC rfl _ _ rfl _ _ [.int .i64 9, .int .i64 T.p] HF2.out.res rfl rfl sizeFl rfl (one2 _ _) ?_; intro w3 hB3 hg3 hs3)
  have c0 := hB3.cell 0 _ rfl; have c1 := hB3.cell 1 _ rfl
  refine bodyPost_ret (by simp [results, Try.results25, go_sem, c0, c1]; try rfl) rfl ?_
  exact ⟨rfl, HF2.out.fin hg3⟩
theorem clipNil_any (w : World) : Calls Try.prog 26 #[.slice none 0 0] w fun e w' => e = .returned (.slice none 0 0) ∧ w = w' := by
  go_enter Try.func26, Try.ntmps26
  go_wp2
  go_ret
  exact ⟨rfl, rfl⟩
theorem step_call3 {P : Program} {ops : Array Oper} {a : Act} {w : World} {K : Act → World → Prop} {Q : Exit → Act → World → Prop} {E' : Prop} {dst : Option Tmp} {x y z : Operand} {T : Array TypeId} {ty : TypeId} {pos : String} {after : Array Edge}
    (n : FuncId) (hn : ∀ v u t w, (callFunc n #[v, u, t]).run P w = .ok (.enter n #[v, u, t]) w) (v u t : Value) (R : Value → World → Prop)
    (hx : a.eval x = v) (hy : a.eval y = u) (hz : a.eval z = t) (hC : Calls P n #[v, u, t] w fun e w' => ∃ u, e = .returned u ∧ R u w') (hK : ∀ u w', R u w' → K (a.put dst u) w') :
    if Region.wanted { dst, op := .call { callee := .value (.func n), args := #[x, y, z], argTypes := T }, type := ty, pos, after, guard := none } (yielded ops a.tmps) = true then Oper.wp P { dst, op := .call { callee := .value (.func n), args := #[x, y, z], argTypes := T }, type := ty, pos, after, guard := none } a w K Q else E' := by
  rw [if_pos (by simp [Region.wanted])]
  unfold Oper.wp
  rw [execOp_call_go]
  have e : (#[] ++ #[x, y, z].map a.eval ++ #[] : Array Value) = #[v, u, t] := by simp [hx, hy, hz]
  rw [e, hn, Oper.upon_enter]
  refine hC.mono ?_
  rintro e w' ⟨u, rfl, h⟩
  exact hK u w' h
theorem enterXF (v u t : Value) (w : World) : (callFunc 25 #[v, u, t]).run Try.prog w = .ok (.enter 25 #[v, u, t]) w := by kernel_rfl
theorem enterClip (v : Value) (w : World) : (callFunc 26 #[v]).run Try.prog w = .ok (.enter 26 #[v]) w := by kernel_rfl
set_option maxRecDepth 100000 in
set_option maxHeartbeats 6400000 in
theorem scopeVar_any (T : Ex) (hk : T.k = 1) (dv : Value) (S : Nat → Prop) (c : List Value) (w : World) (h : RepE w S T c) :
    Calls Try.prog 12 #[dv, .slice none 0 0, .agg c.toArray] w fun e w' => e = .returned (.agg #[.int .i64 9, .int .i64 T.p]) ∧ Below w.heap.size w w' := by
  have HN : Hid (∀ V, Below w.heap.size w V → Calls Try.prog 25 #[dv, .slice none 0 0, .agg c.toArray] V fun e w' => ∃ u, e = .returned u ∧ u = .agg #[.int .i64 9, .int .i64 T.p] ∧ Below w.heap.size w w' ∧ Below V.heap.size V w') := fun V hV => (exprVar_any T hk dv S c V (h.lift hV)).mono fun e w' ⟨h1, h2⟩ => ⟨_, h1, rfl, hV.trans (h2.mono hV.size), h2⟩
  have HCl : Hid (∀ V, Calls Try.prog 26 #[.slice none 0 0] V fun e w' => ∃ u, e = .returned u ∧ u = .slice none 0 0 ∧ w' = V) := fun V => (clipNil_any V).mono fun e w' ⟨h1, h2⟩ => ⟨_, h1, rfl, h2.symm⟩
  obtain ⟨ka, kc, aa, ac, tk, tn, ti, th, ta, tl, tc, rfl⟩ := h.form
  have HF := Lib.hid (FtSt.start w [.int .i64 T.k, .int .i64 T.p, .string T.n, .int .i64 T.m, .slice ka T.kids.length kc, .slice aa T.arms.length ac, .int .i64 tk, .string tn, .int .i64 ti, .int .i64 th, .slice ta tl tc])
  clear h hk
  generalize T.kids.length = kn at *
  generalize T.arms.length = an at *
  simp only [List.toArray] at HF HN ⊢
  go_enter Try.func12, Try.ntmps12
  go_upto_region 1 with fail
  generalize ((w.alloc (.cells #[.int .i64 T.k, .int .i64 T.p, .string T.n, .int .i64 T.m, .slice ka kn kc, .slice aa an ac, .int .i64 tk, .string tn, .int .i64 ti, .int .i64 th, .slice ta tl tc] 36)).alloc (.cells #[.int .i64 0, .int .i64 0] 45)) = V at *
  obtain ⟨b0, b1, b2, b3, b4, b5, b6, b7, b8, b9, b10⟩ := bx11 HF.out.box
  have HFd := Lib.hid (HF.out.lift (Below.refl _ V).drew)
  go_region_law
    (first
      | ((with_reducible refine step_call1 26 enterClip (.slice none 0 0) (fun u w' => u = .slice none 0 0 ∧ w' = V.drew) ?_ ?_ ?_); (rfl); (exact HCl.out V.drew); (rintro u w3 ⟨rfl, rfl⟩))
      | ((with_reducible refine step_call3 25 enterXF dv (.slice none 0 0) (.agg #[.int .i64 T.k, .int .i64 T.p, .string T.n, .int .i64 T.m, .slice ka kn kc, .slice aa an ac, .int .i64 tk, .string tn, .int .i64 ti, .int .i64 th, .slice ta tl tc]) (fun u w' => u = .agg #[.int .i64 9, .int .i64 T.p] ∧ Below w.heap.size w w' ∧ FtSt w [.int .i64 T.k, .int .i64 T.p, .string T.n, .int .i64 T.m, .slice ka kn kc, .slice aa an ac, .int .i64 tk, .string tn, .int .i64 ti, .int .i64 th, .slice ta tl tc] w') ?_ ?_ ?_ ?_ ?_); (rfl); (rfl); (rfl); (first | exact (HN.out _ HF.out.low).mono (fun e w' ⟨u, h1, h2, h3, h4⟩ => ⟨u, h1, h2, h3, HF.out.lift h4⟩) | exact (HN.out _ HFd.out.low).mono (fun e w' ⟨u, h1, h2, h3, h4⟩ => ⟨u, h1, h2, h3, HFd.out.lift h4⟩)); (rintro u w5 ⟨rfl, hb5, hF5⟩); (have HF5 := Lib.hid hF5); (have f0 := hF5.res.free 0); (have f1 := hF5.res.free 1); (have e0 := hF5.res.cell 0 _ rfl); (have e1 := hF5.res.cell 1 _ rfl); clear hF5 hb5))
  all_goals
    obtain ⟨hB6, hg6⟩ := set2 HF5.out.res (.int .i64 9) (.int .i64 T.p)
    have HB6 := Lib.hid hB6
    have HL6 := Lib.hid (HF5.out.fin hg6)
    clear hB6 hg6 f0 f1 e0 e1
    generalize (w5.setCell ⟨w.heap.size + 1, 0, none⟩ (.int .i64 9)).setCell ⟨w.heap.size + 1, 1, none⟩ (.int .i64 T.p) = w6 at *
    have c0 := HB6.out.cell 0 _ rfl; have c1 := HB6.out.cell 1 _ rfl
    go_wp2
    refine bodyPost_ret (by simp [results, Try.results12, go_sem, c0, c1]; try rfl) rfl ?_
    exact ⟨rfl, HL6.out⟩
end Go.Proofs.Ytgfjcpeeoapjlaa
