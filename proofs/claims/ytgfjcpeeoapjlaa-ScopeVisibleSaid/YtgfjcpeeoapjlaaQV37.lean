import Derived.Test.YtgfjcpeeoapjlaaQV35
import Derived.Test.YtgfjcpeeoapjlaaQV36
/- The maker of expressions: functions, applications, lets, annotations. -/
namespace Go.Proofs.Ytgfjcpeeoapjlaa.MR
open Go.RowKit Go.Maps Mth

theorem enterRaw (v1 v2 v3 : Value) (w : World) : (callFunc 10 #[v1, v2, v3]).run Try.prog w = .ok (.enter 10 #[v1, v2, v3]) w := by kernel_rfl
theorem step_call3 {P : Program} {ops : Array Oper} {a : Act} {w : World} {K : Act → World → Prop} {Q : Exit → Act → World → Prop} {E' : Prop} {dst : Option Tmp} {x y x' : Operand} {T : Array TypeId} {ty : TypeId} {pos : String} {after : Array Edge}
    (n : FuncId) (hn : ∀ v1 v2 v3 w, (callFunc n #[v1, v2, v3]).run P w = .ok (.enter n #[v1, v2, v3]) w) (v1 v2 v3 : Value) (R : Value → World → Prop)
    (hx : a.eval x = v1) (hy : a.eval y = v2) (hx' : a.eval x' = v3) (hC : Calls P n #[v1, v2, v3] w fun e w' => ∃ u, e = .returned u ∧ R u w') (hK : ∀ u w', R u w' → K (a.put dst u) w') :
    if Region.wanted { dst, op := .call { callee := .value (.func n), args := #[x, y, x'], argTypes := T }, type := ty, pos, after, guard := none } (yielded ops a.tmps) = true then Oper.wp P { dst, op := .call { callee := .value (.func n), args := #[x, y, x'], argTypes := T }, type := ty, pos, after, guard := none } a w K Q else E' := by
  rw [if_pos (by simp [Region.wanted])]
  unfold Oper.wp
  rw [execOp_call_go]
  have e : (#[] ++ #[x, y, x'].map a.eval ++ #[] : Array Value) = #[v1, v2, v3] := by simp [hx, hy, hx']
  rw [e, hn, Oper.upon_enter]
  refine hC.mono ?_
  rintro e w' ⟨u, rfl, h⟩
  exact hK u w' h
/-- The expression below. -/
def Sub (d b : Nat) (z : Int) (dv : Value) (w : World) : Prop := ∀ v, S3.Tq v b → w.grownBy v (some b) → Calls Try.prog 10 #[.pointer (some ⟨b, 0, none⟩), dv, .int .i64 (z - 1)] v (RawEnd d v.heap.size b v)
set_option maxRecDepth 100000 in
set_option maxHeartbeats 6400000 in
theorem raw_lam (d b base : Nat) (z r : Int) (dv : Value) (w : World) (hz : 1 ≤ z) (hz5 : z ≤ 5) (hr : r = 5 ∨ r = 6) (ht : S3.Tq w b) (hbase : base ≤ w.heap.size) (HN : NX w b r) (HS : Sub d b z dv w) :
    Calls Try.prog 10 #[.pointer (some ⟨b, 0, none⟩), dv, .int .i64 z] w (RawEnd (d + 1) base b w) := by
  have HV := Lib.hid (variable_q b)
  have HT := Lib.hid HS
  clear HS
  have HP0 := Lib.hid (PX.start ht)
  have hlt := ht.lt
  unfold NX at HN
  have HNx := Lib.hid HN
  clear HN ht
  rcases hr with rfl | rfl
  all_goals
    go_enter Try.func10, Try.ntmps10
    go_wp2_with fail
    go_at_call 21
    generalize (w.alloc (.cells #[.int .i64 0, .int .i64 0, .string ⟨#[]⟩, .int .i64 0, .slice none 0 0, .slice none 0 0, .int .i64 0, .string ⟨#[]⟩, .int .i64 0, .int .i64 0, .slice none 0 0] 36)) = w0 at *
    refine HNx.out.mono ?_
    rintro e w1 ⟨rfl, ht1, hg1⟩
    have HP1 := Lib.hid (HP0.out.call ht1 hg1)
    clear ht1 hg1 HNx HP0
    go_wp2_with fail
    go_at_call 22
    refine (HV.out _ HP1.out.rd).mono ?_
    rintro e w2 ⟨nm, rfl, hn, ht2, hg2⟩
    have HP2 := Lib.hid (HP1.out.call ht2 hg2)
    have HNm := Lib.hid hn
    have HNs := Lib.hid (nm_size hn)
    clear hn ht2 hg2
    go_wp2_with fail
    go_at_call 10
    refine (HT.out _ HP2.out.rd HP2.out.grown).mono ?_
    rintro e w5 ⟨_, rfl, a, c, rfl, hrep, hok, ht5, hg5⟩
    obtain ⟨ka, kc, aa, ac, tk, tn, ti, th, ta, tl, tc, rfl⟩ := hrep.form
    have HP5 := Lib.hid (HP2.out.call ht5 hg5)
    have HRp := Lib.hid (hrep.imp_lt HP2.out.res.lt)
    have HOa := Lib.hid hok
    clear hrep hok ht5 hg5
    have HK := Lib.hid (one_newE (S' := fun g => w.heap.size < g) HRp.out 36 w5.heap.size rfl (fun _ hg => hg) HP5.out.res.lt)
    have HB4 := Lib.hid (HP5.out.lift ((Below.refl _ w5).alloc (Nat.le_refl _) (.cells #[.int .i64 a.k, .int .i64 a.p, .string a.n, .int .i64 a.m, .slice ka a.kids.length kc, .slice aa a.arms.length ac, .int .i64 tk, .string tn, .int .i64 ti, .int .i64 th, .slice ta tl tc] 36)))
    have HRes := Lib.hid (repE_kids (S := fun g => w.heap.size < g) 4 0 nm 0 HNs.out HK.out)
    clear HT HV HP1 HP2
    go_wp2_with (refine wpList_storeC rfl _ _ rfl _ _ _ HB4.out.res rfl rfl HRes.out.size HRes.out.len0 HRes.out.len.2 ?_; intro v8 hB8 hg8 hs8)
    obtain ⟨e0, e1, e2, e3, e4, e5, e6, e7, e8, e9, e10⟩ := hB8.all11
    refine bodyPost_ret (by simp [results, Try.results10, go_sem, e0, e1, e2, e3, e4, e5, e6, e7, e8, e9, e10]; try rfl) rfl ?_
    exact raw_fin (HB4.out.ret HRes.out hbase hg8) (okE_lam HNm.out HOa.out)
set_option maxRecDepth 100000 in
set_option maxHeartbeats 6400000 in
theorem raw_held (d b base : Nat) (z r : Int) (dv : Value) (w : World) (hz : 1 ≤ z) (hz5 : z ≤ 5) (hr : r = 12) (ht : S3.Tq w b) (hbase : base ≤ w.heap.size) (HN : NX w b r) (HS : Sub d b z dv w) :
    Calls Try.prog 10 #[.pointer (some ⟨b, 0, none⟩), dv, .int .i64 z] w (RawEnd (d + 1) base b w) := by
  have HT := Lib.hid HS
  clear HS
  have HP0 := Lib.hid (PX.start ht)
  have hlt := ht.lt
  unfold NX at HN
  have HNx := Lib.hid HN
  clear HN ht
  subst hr
  all_goals
    go_enter Try.func10, Try.ntmps10
    go_wp2_with fail
    go_at_call 21
    generalize (w.alloc (.cells #[.int .i64 0, .int .i64 0, .string ⟨#[]⟩, .int .i64 0, .slice none 0 0, .slice none 0 0, .int .i64 0, .string ⟨#[]⟩, .int .i64 0, .int .i64 0, .slice none 0 0] 36)) = w0 at *
    refine HNx.out.mono ?_
    rintro e w1 ⟨rfl, ht1, hg1⟩
    have HP1 := Lib.hid (HP0.out.call ht1 hg1)
    clear ht1 hg1 HNx HP0
    go_wp2_with fail
    go_at_call 10
    refine (HT.out _ HP1.out.rd HP1.out.grown).mono ?_
    rintro e w5 ⟨_, rfl, a, c, rfl, hrep, hok, ht5, hg5⟩
    obtain ⟨ka, kc, aa, ac, tk, tn, ti, th, ta, tl, tc, rfl⟩ := hrep.form
    have HP5 := Lib.hid (HP1.out.call ht5 hg5)
    have HRp := Lib.hid (hrep.imp_lt HP1.out.res.lt)
    have HOa := Lib.hid hok
    clear hrep hok ht5 hg5
    have HK := Lib.hid (one_newE (S' := fun g => w.heap.size < g) HRp.out 36 w5.heap.size rfl (fun _ hg => hg) HP5.out.res.lt)
    have HB4 := Lib.hid (HP5.out.lift ((Below.refl _ w5).alloc (Nat.le_refl _) (.cells #[.int .i64 a.k, .int .i64 a.p, .string a.n, .int .i64 a.m, .slice ka a.kids.length kc, .slice aa a.arms.length ac, .int .i64 tk, .string tn, .int .i64 ti, .int .i64 th, .slice ta tl tc] 36)))
    have HRes := Lib.hid (repE_kids (S := fun g => w.heap.size < g) 11 0 ⟨#[]⟩ 0 (Nat.zero_le _) HK.out)
    clear HT HP1
    go_wp2_with (refine wpList_storeC rfl _ _ rfl _ _ _ HB4.out.res rfl rfl HRes.out.size HRes.out.len0 HRes.out.len.2 ?_; intro v8 hB8 hg8 hs8)
    obtain ⟨e0, e1, e2, e3, e4, e5, e6, e7, e8, e9, e10⟩ := hB8.all11
    refine bodyPost_ret (by simp [results, Try.results10, go_sem, e0, e1, e2, e3, e4, e5, e6, e7, e8, e9, e10]; try rfl) rfl ?_
    exact raw_fin (HB4.out.ret HRes.out hbase hg8) (okE_held HOa.out)
set_option maxRecDepth 100000 in
set_option maxHeartbeats 6400000 in
theorem raw_again (d b base : Nat) (z r : Int) (sa : Option Addr) (sc : Nat) (w : World) (hz : 1 ≤ z) (hz5 : z ≤ 5) (hr : r = 13) (ht : S3.Tq w b) (hbase : base ≤ w.heap.size) (HN : NX w b r) (HS : Sub d b z (.slice sa 0 sc) w) :
    Calls Try.prog 10 #[.pointer (some ⟨b, 0, none⟩), .slice sa 0 sc, .int .i64 z] w (RawEnd (d + 1) base b w) := by
  have HT := Lib.hid HS
  clear HS
  have HP0 := Lib.hid (PX.start ht)
  have hlt := ht.lt
  unfold NX at HN
  have HNx := Lib.hid HN
  clear HN ht
  subst hr
  all_goals
    go_enter Try.func10, Try.ntmps10
    go_wp2_with fail
    go_at_call 21
    generalize (w.alloc (.cells #[.int .i64 0, .int .i64 0, .string ⟨#[]⟩, .int .i64 0, .slice none 0 0, .slice none 0 0, .int .i64 0, .string ⟨#[]⟩, .int .i64 0, .int .i64 0, .slice none 0 0] 36)) = w0 at *
    refine HNx.out.mono ?_
    rintro e w1 ⟨rfl, ht1, hg1⟩
    have HP1 := Lib.hid (HP0.out.call ht1 hg1)
    clear ht1 hg1 HNx HP0
    go_wp2_with fail
    go_at_call 10
    refine (HT.out _ HP1.out.rd HP1.out.grown).mono ?_
    rintro e w5 ⟨_, rfl, a, c, rfl, hrep, hok, ht5, hg5⟩
    obtain ⟨ka, kc, aa, ac, tk, tn, ti, th, ta, tl, tc, rfl⟩ := hrep.form
    have HP5 := Lib.hid (HP1.out.call ht5 hg5)
    have HRp := Lib.hid (hrep.imp_lt HP1.out.res.lt)
    have HOa := Lib.hid hok
    clear hrep hok ht5 hg5
    clear HT HP1
    go_wp2_with (refine wpList_storeC rfl _ _ rfl _ _ _ HP5.out.res rfl rfl HRp.out.size HRp.out.len0 HRp.out.len.2 ?_; intro v8 hB8 hg8 hs8)
    obtain ⟨e0, e1, e2, e3, e4, e5, e6, e7, e8, e9, e10⟩ := hB8.all11
    refine bodyPost_ret (by simp [results, Try.results10, go_sem, e0, e1, e2, e3, e4, e5, e6, e7, e8, e9, e10]; try rfl) rfl ?_
    exact raw_fin (HP5.out.ret HRp.out hbase hg8) (okE_mono HOa.out)
set_option maxRecDepth 100000 in
set_option maxHeartbeats 6400000 in
theorem raw_ann (d b base : Nat) (z r : Int) (dv : Value) (w : World) (hz : 1 ≤ z) (hz5 : z ≤ 5) (hr : r = 11) (ht : S3.Tq w b) (hbase : base ≤ w.heap.size) (HN : NX w b r) (HS : Sub d b z dv w)
    (HTy : ∀ v, S3.Tq v b → w.grownBy v (some b) → Calls Try.prog 23 #[.pointer (some ⟨b, 0, none⟩), dv, .slice none 0 0, .int .i64 2] v fun e w' => ∃ u, e = .returned u ∧ S3.MadeT 2 v.heap.size b v w' u) :
    Calls Try.prog 10 #[.pointer (some ⟨b, 0, none⟩), dv, .int .i64 z] w (RawEnd (d + 1) base b w) := by
  have HT := Lib.hid HS
  have HTt := Lib.hid HTy
  clear HS HTy
  have HP0 := Lib.hid (PX.start ht)
  have hlt := ht.lt
  unfold NX at HN
  have HNx := Lib.hid HN
  clear HN ht
  subst hr
  all_goals
    go_enter Try.func10, Try.ntmps10
    go_wp2_with fail
    go_at_call 21
    generalize (w.alloc (.cells #[.int .i64 0, .int .i64 0, .string ⟨#[]⟩, .int .i64 0, .slice none 0 0, .slice none 0 0, .int .i64 0, .string ⟨#[]⟩, .int .i64 0, .int .i64 0, .slice none 0 0] 36)) = w0 at *
    refine HNx.out.mono ?_
    rintro e w1 ⟨rfl, ht1, hg1⟩
    have HP1 := Lib.hid (HP0.out.call ht1 hg1)
    clear ht1 hg1 HNx HP0
    go_wp2_with fail
    go_at_call 10
    refine (HT.out _ HP1.out.rd HP1.out.grown).mono ?_
    rintro e w5 ⟨_, rfl, a, c, rfl, hrep, hok, ht5, hg5⟩
    obtain ⟨ka, kc, aa, ac, tk, tn, ti, th, ta, tl, tc, rfl⟩ := hrep.form
    have HP5 := Lib.hid (HP1.out.call ht5 hg5)
    have HRp := Lib.hid (hrep.imp_lt HP1.out.res.lt)
    have HOa := Lib.hid hok
    clear hrep hok ht5 hg5
    have HK := Lib.hid (one_newE (S' := fun g => w.heap.size < g) HRp.out 36 w5.heap.size rfl (fun _ hg => hg) HP5.out.res.lt)
    have HB4 := Lib.hid (HP5.out.lift ((Below.refl _ w5).alloc (Nat.le_refl _) (.cells #[.int .i64 a.k, .int .i64 a.p, .string a.n, .int .i64 a.m, .slice ka a.kids.length kc, .slice aa a.arms.length ac, .int .i64 tk, .string tn, .int .i64 ti, .int .i64 th, .slice ta tl tc] 36)))
    clear HT HP1
    go_wp2_with fail
    go_at_call 23
    generalize hW6 : w5.alloc (.cells #[.int .i64 a.k, .int .i64 a.p, .string a.n, .int .i64 a.m, .slice ka a.kids.length kc, .slice aa a.arms.length ac, .int .i64 tk, .string tn, .int .i64 ti, .int .i64 th, .slice ta tl tc] 36) = w6 at *
    clear hW6
    refine (HTt.out _ HB4.out.rd HB4.out.grown).mono ?_
    rintro e w7 ⟨u, rfl, U, hru, hou, ht7, hg7⟩
    obtain ⟨uk, un, ui, uh, ua, um, uc, rfl⟩ := hru.form
    have HP7 := Lib.hid (HB4.out.call ht7 hg7)
    have hz6 := HB4.out.res.lt
    have HK7 : Hid (SlG ExE w7 (fun g => w.heap.size < g) [a] (.slice (some ⟨w5.heap.size, 0, none⟩) 1 1)) := SlG.kept (fun _ h => h) (fun g hg hl => hg7.block g hl (by intro e; have := Option.some.inj e; omega)) HK.out
    have HRes : Hid (RepE w7 (fun g => w.heap.size < g) (.mk 9 0 ⟨#[]⟩ 0 U [a] []) [.int .i64 9, .int .i64 0, .string ⟨#[]⟩, .int .i64 0, .slice (some ⟨w5.heap.size, 0, none⟩) 1 1, .slice none 0 0, .int .i64 uk, .string un, .int .i64 ui, .int .i64 uh, .slice ua um uc]) :=
      RepE.close (Nat.zero_le _) HK7.out (slG_nil AmE _ _) (hru.imp fun g hg => Nat.lt_of_lt_of_le hz6 hg)
    have HOu : Hid (src U = true ∧ (shT U).length ≤ 63) := by
      have h1 := src_of_valid U hou.1.1 hou.1.2
      have h2 := shT_len6 U h1 hou.1.2
      have h3 := hou.2
      have h4 : S3.capN 2 = 7 := rfl
      exact ⟨h1, by omega⟩
    clear hru hou ht7 hg7 hz6 HTt HB4 HK HRp
    go_wp2_with (refine wpList_storeC rfl _ _ rfl _ _ _ HP7.out.res rfl rfl HRes.out.size HRes.out.len0 HRes.out.len.2 ?_; intro v8 hB8 hg8 hs8)
    obtain ⟨e0, e1, e2, e3, e4, e5, e6, e7, e8, e9, e10⟩ := hB8.all11
    refine bodyPost_ret (by simp [results, Try.results10, go_sem, e0, e1, e2, e3, e4, e5, e6, e7, e8, e9, e10]; try rfl) rfl ?_
    exact raw_fin (HP7.out.ret HRes.out hbase hg8) (okE_ann HOa.out HOu.out.1 HOu.out.2)
end Go.Proofs.Ytgfjcpeeoapjlaa.MR

/- The maker of expressions: an application. -/
namespace Go.Proofs.Ytgfjcpeeoapjlaa.MR
open Go.RowKit Go.Maps Mth

set_option maxRecDepth 100000 in
set_option maxHeartbeats 6400000 in
theorem raw_app7 (d b base : Nat) (z r : Int) (dv : Value) (w : World) (hz : 1 ≤ z) (hz5 : z ≤ 5) (hr : r = 7) (ht : S3.Tq w b) (hbase : base ≤ w.heap.size) (HN : NX w b r) (HS : Sub d b z dv w) :
    Calls Try.prog 10 #[.pointer (some ⟨b, 0, none⟩), dv, .int .i64 z] w (RawEnd (d + 1) base b w) := by
  have HT := Lib.hid HS
  clear HS
  have HP0 := Lib.hid (PX.start ht)
  have hlt := ht.lt
  unfold NX at HN
  have HNx := Lib.hid HN
  clear HN ht
  subst hr
  all_goals
    go_enter Try.func10, Try.ntmps10
    go_wp2_with fail
    go_at_call 21
    generalize (w.alloc (.cells #[.int .i64 0, .int .i64 0, .string ⟨#[]⟩, .int .i64 0, .slice none 0 0, .slice none 0 0, .int .i64 0, .string ⟨#[]⟩, .int .i64 0, .int .i64 0, .slice none 0 0] 36)) = w0 at *
    refine HNx.out.mono ?_
    rintro e w1 ⟨rfl, ht1, hg1⟩
    have HP1 := Lib.hid (HP0.out.call ht1 hg1)
    clear ht1 hg1 HNx HP0
    go_wp2_with fail
    go_at_call 10
    refine (HT.out _ HP1.out.rd HP1.out.grown).mono ?_
    rintro e w5 ⟨_, rfl, a, c, rfl, hrep, hok, ht5, hg5⟩
    obtain ⟨ka, kc, aa, ac, tk, tn, ti, th, ta, tl, tc, rfl⟩ := hrep.form
    have HP5 := Lib.hid (HP1.out.call ht5 hg5)
    have HRp := Lib.hid (hrep.imp_lt HP1.out.res.lt)
    have HOa := Lib.hid hok
    clear hrep hok ht5 hg5
    have HV0 := Lib.hid (AX.mk' HP5.out HRp.out)
    clear HRp
    go_upto_region 24 with fail
    generalize (w5.alloc (.cells #[.int .i64 a.k, .int .i64 a.p, .string a.n, .int .i64 a.m, .slice ka a.kids.length kc, .slice aa a.arms.length ac, .int .i64 tk, .string tn, .int .i64 ti, .int .i64 th, .slice ta tl tc] 36)) = v7 at *
    generalize w5.heap.size = R1 at *
    have HW8 := Lib.hid (HV0.out.lift (Below.refl _ _).drew)
    obtain ⟨d0, d1, d2, d3, d4, d5, d6, d7, d8, d9, d10⟩ := HW8.out.eb.box.all11
    have hwr : IntKind.i64.wrap (z - 1) = z - 1 := by rw [IntKind.wrap_i64]; omega
    go_region_law
      (((with_reducible refine step_call3 10 enterRaw (.pointer (some ⟨b, 0, none⟩)) dv (.int .i64 (z - 1)) (fun r w' => ∃ u c, r = .agg (List.toArray c) ∧ RepE w' (fun g => w.heap.size < g ∧ g ≠ R1) u c ∧ OkE d u ∧ AX w w' b w.heap.size R1 [.int .i64 a.k, .int .i64 a.p, .string a.n, .int .i64 a.m, .slice ka a.kids.length kc, .slice aa a.arms.length ac, .int .i64 tk, .string tn, .int .i64 ti, .int .i64 th, .slice ta tl tc] a) ?_ ?_ ?_ ?_ ?_); (rfl); (rfl); (first | rfl | (show Value.int IntKind.i64 (IntKind.i64.wrap (z - 1)) = Value.int IntKind.i64 (z - 1); rw [hwr])); (exact (HT.out _ HW8.out.eb.rd HW8.out.eb.grown).mono fun e w' h => by obtain ⟨_, rfl, u, c, rfl, h2, hok, h3, h4⟩ := h; exact ⟨_, rfl, u, c, rfl, h2.imp fun g hg => ⟨Nat.lt_of_lt_of_le (Nat.lt_trans HW8.out.eb.h1 HW8.out.eb.lt) hg, Nat.ne_of_gt (Nat.lt_of_lt_of_le HW8.out.eb.lt hg)⟩, hok, HW8.out.call h3 h4⟩); (rintro r w9 ⟨u, c, rfl, hrep, hok2, hv⟩); (obtain ⟨ka2, kc2, aa2, ac2, tk2, tn2, ti2, th2, ta2, tl2, tc2, rfl⟩ := hrep.form); (have HRp := Lib.hid hrep); (have HV := Lib.hid hv); (have HOu := Lib.hid hok2); (clear hrep hv hok2); (obtain ⟨x0, x1, x2, x3, x4, x5, x6, x7, x8, x9, x10⟩ := HV.out.eb.box.all11); (obtain ⟨z0, z1, z2, z3, z4, z5, z6, z7, z8, z9, z10⟩ := HV.out.eb.zall); (obtain ⟨y0, y1, y2, y3, y4, y5, y6, y7, y8, y9, y10⟩ := HV.out.eb.res.free11); (have hlt0 := HV.out.eb.res.lt)))
    all_goals
      obtain ⟨v10, hv10⟩ : ∃ v10, v10 = (((((((((((w9.setCell ⟨w.heap.size, 0, none⟩ (.int .i64 5)).setCell ⟨w.heap.size, 1, none⟩ (.int .i64 0)).setCell ⟨w.heap.size, 2, none⟩ (.string ⟨#[]⟩)).setCell ⟨w.heap.size, 3, none⟩ (.int .i64 0)).setCell ⟨w.heap.size, 4, none⟩ (.slice (some ⟨w9.heap.size, 0, none⟩) 2 2)).setCell ⟨w.heap.size, 5, none⟩ (.slice none 0 0)).setCell ⟨w.heap.size, 6, none⟩ (.int .i64 0)).setCell ⟨w.heap.size, 7, none⟩ (.string ⟨#[]⟩)).setCell ⟨w.heap.size, 8, none⟩ (.int .i64 0)).setCell ⟨w.heap.size, 9, none⟩ (.int .i64 0)).setCell ⟨w.heap.size, 10, none⟩ (.slice none 0 0)).alloc (.cells #[.int .i64 a.k, .int .i64 a.p, .string a.n, .int .i64 a.m, .slice ka a.kids.length kc, .slice aa a.arms.length ac, .int .i64 tk, .string tn, .int .i64 ti, .int .i64 th, .slice ta tl tc, .int .i64 u.k, .int .i64 u.p, .string u.n, .int .i64 u.m, .slice ka2 u.kids.length kc2, .slice aa2 u.arms.length ac2, .int .i64 tk2, .string tn2, .int .i64 ti2, .int .i64 th2, .slice ta2 tl2 tc2] 36) := ⟨_, rfl⟩
      obtain ⟨hB8, hRes, hRd, hGr⟩ := HV.out.loc HRp.out 5 0 ⟨#[]⟩ (Nat.zero_le _) hbase v10 hv10
      have HFin := Lib.hid (And.intro hRes (And.intro hRd hGr))
      rw [← hv10]
      clear hv10 hRes hRd hGr x0 x1 x2 x3 x4 x5 x6 x7 x8 x9 x10 y0 y1 y2 y3 y4 y5 y6 y7 y8 y9 y10 z0 z1 z2 z3 z4 z5 z6 z7 z8 z9 z10 d0 d1 d2 d3 d4 d5 d6 d7 d8 d9 d10 HV HRp HW8 hwr
      obtain ⟨e0, e1, e2, e3, e4, e5, e6, e7, e8, e9, e10⟩ := hB8.all11
      go_wp2
      refine bodyPost_ret (by simp [results, Try.results10, go_sem, e0, e1, e2, e3, e4, e5, e6, e7, e8, e9, e10]; try rfl) rfl ?_
      exact raw_fin HFin.out (okE_app HOa.out HOu.out)
end Go.Proofs.Ytgfjcpeeoapjlaa.MR
