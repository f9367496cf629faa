import Derived.Test.YtfkbifbodpelmaaDoorVM2
import Derived.Test.YtfkbifbodpelmaaDoorVMt
/- The maker of expressions: functions, applications, lets, annotations. -/
namespace Go.Proofs.YtfkbifbodpelmaaDoor.MR
open Go.RowKit Go.Maps Mth

theorem enterRaw (v1 v2 v3 : Value) (w : World) : (callFunc 11 #[v1, v2, v3]).run Tryd.prog w = .ok (.enter 11 #[v1, v2, v3]) w := by kernel_rfl
theorem step_call3 {P : Program} {ops : Array Oper} {a : Act} {w : World} {K : Act → World → Prop} {Q : Exit → Act → World → Prop} {E' : Prop} {dst : Option Tmp} {x y x' : Operand} {T : Array TypeId} {ty : TypeId} {pos : String} {after : Array Edge}
    (n : FuncId) (hn : ∀ v1 v2 v3 w, (callFunc n #[v1, v2, v3]).run P w = .ok (.enter n #[v1, v2, v3]) w) (v1 v2 v3 : Value) (R : Value → World → Prop)
    (hx : a.eval x = v1) (hy : a.eval y = v2) (hx' : a.eval x' = v3) (hC : Calls P n #[v1, v2, v3] w fun e w' => ∃ u, e = .returned u ∧ R u w') (hK : ∀ u w', R u w' → K (a.put dst u) w') :
    if Region.wanted { dst, op := .call { callee := .value (.func n), args := #[x, y, x'], argTypes := T }, type := ty, pos, after, guard := none } (yielded ops a.tmps) = true then Oper.wp P { dst, op := .call { callee := .value (.func n), args := #[x, y, x'], argTypes := T }, type := ty, pos, after, guard := none } a w K Q else E' := by
  rw [if_pos (by simp [Region.wanted])]
  unfold Oper.wp
  rw [execOp_call_go]
  have e : (#[] ++ #[x, y, x'].map a.eval ++ #[] : Array Value) = #[v1, v2, v3] := by simp [hx, hy, hx']
  rw [e, hn, Oper.upon_enter]
  refine hC.mono ?_
  rintro e w' ⟨u, rfl, h⟩
  exact hK u w' h
/-- The expression below. -/
def Sub (d b : Nat) (z : Int) (dv : Value) (w : World) : Prop := ∀ v, S3.Tq v b → w.grownBy v (some b) → Calls Tryd.prog 11 #[.pointer (some ⟨b, 0, none⟩), dv, .int .i64 (z - 1)] v (RawEnd d v.heap.size b v)
set_option maxRecDepth 100000 in
set_option maxHeartbeats 6400000 in
theorem raw_lam (d b base : Nat) (z r : Int) (dv : Value) (w : World) (hz : 1 ≤ z) (hz5 : z ≤ 5) (hr : r = 5 ∨ r = 6) (ht : S3.Tq w b) (hbase : base ≤ w.heap.size) (HN : NX w b r) (HS : Sub d b z dv w) :
    Calls Tryd.prog 11 #[.pointer (some ⟨b, 0, none⟩), dv, .int .i64 z] w (RawEnd (d + 1) base b w) := by
  have HV := Lib.hid (variable_q b)
  have HT := Lib.hid HS
  clear HS
  have HP0 := Lib.hid (PX.start ht)
  have hlt := ht.lt
  unfold NX at HN
  have HNx := Lib.hid HN
  clear HN ht
  rcases hr with rfl | rfl
  all_goals
    go_enter Tryd.func11, Tryd.ntmps11
    go_wp2_with fail
    go_at_call 28
    generalize (w.alloc (.cells #[.int .i64 0, .int .i64 0, .string ⟨#[]⟩, .int .i64 0, .slice none 0 0, .slice none 0 0, .int .i64 0, .string ⟨#[]⟩, .int .i64 0, .int .i64 0, .slice none 0 0] 37)) = w0 at *
    refine HNx.out.mono ?_
    rintro e w1 ⟨rfl, ht1, hg1⟩
    have HP1 := Lib.hid (HP0.out.call ht1 hg1)
    clear ht1 hg1 HNx HP0
    go_wp2_with fail
    go_at_call 29
    refine (HV.out _ HP1.out.rd).mono ?_
    rintro e w2 ⟨nm, rfl, hn, ht2, hg2⟩
    have HP2 := Lib.hid (HP1.out.call ht2 hg2)
    have HNm := Lib.hid hn
    have HNs := Lib.hid (nm_size hn)
    clear hn ht2 hg2
    go_wp2_with fail
    go_at_call 11
    refine (HT.out _ HP2.out.rd HP2.out.grown).mono ?_
    rintro e w5 ⟨_, rfl, a, c, rfl, hrep, hok, ht5, hg5⟩
    obtain ⟨ka, kc, aa, ac, tk, tn, ti, th, ta, tl, tc, rfl⟩ := hrep.form
    have HP5 := Lib.hid (HP2.out.call ht5 hg5)
    have HRp := Lib.hid (hrep.imp_lt HP2.out.res.lt)
    have HOa := Lib.hid hok
    clear hrep hok ht5 hg5
    have HK := Lib.hid (one_newE (S' := fun g => w.heap.size < g) HRp.out 37 w5.heap.size rfl (fun _ hg => hg) HP5.out.res.lt)
    have HB4 := Lib.hid (HP5.out.lift ((Below.refl _ w5).alloc (Nat.le_refl _) (.cells #[.int .i64 a.k, .int .i64 a.p, .string a.n, .int .i64 a.m, .slice ka a.kids.length kc, .slice aa a.arms.length ac, .int .i64 tk, .string tn, .int .i64 ti, .int .i64 th, .slice ta tl tc] 37)))
    have HRes := Lib.hid (repE_kids (S := fun g => w.heap.size < g) 4 0 nm 0 HNs.out HK.out)
    clear HT HV HP1 HP2
    go_wp2_with (refine wpList_storeC rfl _ _ rfl _ _ _ HB4.out.res rfl rfl HRes.out.size HRes.out.len0 HRes.out.len.2 ?_; intro v8 hB8 hg8 hs8)
    obtain ⟨e0, e1, e2, e3, e4, e5, e6, e7, e8, e9, e10⟩ := hB8.all11
    refine bodyPost_ret (by simp [results, Tryd.results11, go_sem, e0, e1, e2, e3, e4, e5, e6, e7, e8, e9, e10]; try rfl) rfl ?_
    exact raw_fin (HB4.out.ret HRes.out hbase hg8) (okE_lam HNm.out HOa.out)
set_option maxRecDepth 100000 in
set_option maxHeartbeats 6400000 in
theorem raw_held (d b base : Nat) (z r : Int) (dv : Value) (w : World) (hz : 1 ≤ z) (hz5 : z ≤ 5) (hr : r = 12) (ht : S3.Tq w b) (hbase : base ≤ w.heap.size) (HN : NX w b r) (HS : Sub d b z dv w) :
    Calls Tryd.prog 11 #[.pointer (some ⟨b, 0, none⟩), dv, .int .i64 z] w (RawEnd (d + 1) base b w) := by
  have HT := Lib.hid HS
  clear HS
  have HP0 := Lib.hid (PX.start ht)
  have hlt := ht.lt
  unfold NX at HN
  have HNx := Lib.hid HN
  clear HN ht
  subst hr
  all_goals
    go_enter Tryd.func11, Tryd.ntmps11
    go_wp2_with fail
    go_at_call 28
    generalize (w.alloc (.cells #[.int .i64 0, .int .i64 0, .string ⟨#[]⟩, .int .i64 0, .slice none 0 0, .slice none 0 0, .int .i64 0, .string ⟨#[]⟩, .int .i64 0, .int .i64 0, .slice none 0 0] 37)) = w0 at *
    refine HNx.out.mono ?_
    rintro e w1 ⟨rfl, ht1, hg1⟩
    have HP1 := Lib.hid (HP0.out.call ht1 hg1)
    clear ht1 hg1 HNx HP0
    go_wp2_with fail
    go_at_call 11
    refine (HT.out _ HP1.out.rd HP1.out.grown).mono ?_
    rintro e w5 ⟨_, rfl, a, c, rfl, hrep, hok, ht5, hg5⟩
    obtain ⟨ka, kc, aa, ac, tk, tn, ti, th, ta, tl, tc, rfl⟩ := hrep.form
    have HP5 := Lib.hid (HP1.out.call ht5 hg5)
    have HRp := Lib.hid (hrep.imp_lt HP1.out.res.lt)
    have HOa := Lib.hid hok
    clear hrep hok ht5 hg5
    have HK := Lib.hid (one_newE (S' := fun g => w.heap.size < g) HRp.out 37 w5.heap.size rfl (fun _ hg => hg) HP5.out.res.lt)
    have HB4 := Lib.hid (HP5.out.lift ((Below.refl _ w5).alloc (Nat.le_refl _) (.cells #[.int .i64 a.k, .int .i64 a.p, .string a.n, .int .i64 a.m, .slice ka a.kids.length kc, .slice aa a.arms.length ac, .int .i64 tk, .string tn, .int .i64 ti, .int .i64 th, .slice ta tl tc] 37)))
    have HRes := Lib.hid (repE_kids (S := fun g => w.heap.size < g) 11 0 ⟨#[]⟩ 0 (Nat.zero_le _) HK.out)
    clear HT HP1
    go_wp2_with (refine wpList_storeC rfl _ _ rfl _ _ _ HB4.out.res rfl rfl HRes.out.size HRes.out.len0 HRes.out.len.2 ?_; intro v8 hB8 hg8 hs8)
    obtain ⟨e0, e1, e2, e3, e4, e5, e6, e7, e8, e9, e10⟩ := hB8.all11
    refine bodyPost_ret (by simp [results, Tryd.results11, go_sem, e0, e1, e2, e3, e4, e5, e6, e7, e8, e9, e10]; try rfl) rfl ?_
    exact raw_fin (HB4.out.ret HRes.out hbase hg8) (okE_held HOa.out)
set_option maxRecDepth 100000 in
set_option maxHeartbeats 6400000 in
theorem raw_again (d b base : Nat) (z r : Int) (sa : Option Addr) (sc : Nat) (w : World) (hz : 1 ≤ z) (hz5 : z ≤ 5) (hr : r = 13) (ht : S3.Tq w b) (hbase : base ≤ w.heap.size) (HN : NX w b r) (HS : Sub d b z (.slice sa 0 sc) w) :
    Calls Tryd.prog 11 #[.pointer (some ⟨b, 0, none⟩), .slice sa 0 sc, .int .i64 z] w (RawEnd (d + 1) base b w) := by
  have HT := Lib.hid HS
  clear HS
  have HP0 := Lib.hid (PX.start ht)
  have hlt := ht.lt
  unfold NX at HN
  have HNx := Lib.hid HN
  clear HN ht
  subst hr
  all_goals
    go_enter Tryd.func11, Tryd.ntmps11
    go_wp2_with fail
    go_at_call 28
    generalize (w.alloc (.cells #[.int .i64 0, .int .i64 0, .string ⟨#[]⟩, .int .i64 0, .slice none 0 0, .slice none 0 0, .int .i64 0, .string ⟨#[]⟩, .int .i64 0, .int .i64 0, .slice none 0 0] 37)) = w0 at *
    refine HNx.out.mono ?_
    rintro e w1 ⟨rfl, ht1, hg1⟩
    have HP1 := Lib.hid (HP0.out.call ht1 hg1)
    clear ht1 hg1 HNx HP0
    go_wp2_with fail
    go_at_call 11
    refine (HT.out _ HP1.out.rd HP1.out.grown).mono ?_
    rintro e w5 ⟨_, rfl, a, c, rfl, hrep, hok, ht5, hg5⟩
    obtain ⟨ka, kc, aa, ac, tk, tn, ti, th, ta, tl, tc, rfl⟩ := hrep.form
    have HP5 := Lib.hid (HP1.out.call ht5 hg5)
    have HRp := Lib.hid (hrep.imp_lt HP1.out.res.lt)
    have HOa := Lib.hid hok
    clear hrep hok ht5 hg5
    clear HT HP1
    go_wp2_with (refine wpList_storeC rfl _ _ rfl _ _ _ HP5.out.res rfl rfl HRp.out.size HRp.out.len0 HRp.out.len.2 ?_; intro v8 hB8 hg8 hs8)
    obtain ⟨e0, e1, e2, e3, e4, e5, e6, e7, e8, e9, e10⟩ := hB8.all11
    refine bodyPost_ret (by simp [results, Tryd.results11, go_sem, e0, e1, e2, e3, e4, e5, e6, e7, e8, e9, e10]; try rfl) rfl ?_
    exact raw_fin (HP5.out.ret HRp.out hbase hg8) (okE_mono HOa.out)
set_option maxRecDepth 100000 in
set_option maxHeartbeats 6400000 in
theorem raw_ann (d b base : Nat) (z r : Int) (dv : Value) (w : World) (hz : 1 ≤ z) (hz5 : z ≤ 5) (hr : r = 11) (ht : S3.Tq w b) (hbase : base ≤ w.heap.size) (HN : NX w b r) (HS : Sub d b z dv w)
    (HTy : ∀ v, S3.Tq v b → w.grownBy v (some b) → Calls Tryd.prog 16 #[.pointer (some ⟨b, 0, none⟩), dv, .slice none 0 0, .int .i64 2] v fun e w' => ∃ u, e = .returned u ∧ S3.MadeT 2 v.heap.size b v w' u) :
    Calls Tryd.prog 11 #[.pointer (some ⟨b, 0, none⟩), dv, .int .i64 z] w (RawEnd (d + 1) base b w) := by
  have HT := Lib.hid HS
  have HTt := Lib.hid HTy
  clear HS HTy
  have HP0 := Lib.hid (PX.start ht)
  have hlt := ht.lt
  unfold NX at HN
  have HNx := Lib.hid HN
  clear HN ht
  subst hr
  all_goals
    go_enter Tryd.func11, Tryd.ntmps11
    go_wp2_with fail
    go_at_call 28
    generalize (w.alloc (.cells #[.int .i64 0, .int .i64 0, .string ⟨#[]⟩, .int .i64 0, .slice none 0 0, .slice none 0 0, .int .i64 0, .string ⟨#[]⟩, .int .i64 0, .int .i64 0, .slice none 0 0] 37)) = w0 at *
    refine HNx.out.mono ?_
    rintro e w1 ⟨rfl, ht1, hg1⟩
    have HP1 := Lib.hid (HP0.out.call ht1 hg1)
    clear ht1 hg1 HNx HP0
    go_wp2_with fail
    go_at_call 11
    refine (HT.out _ HP1.out.rd HP1.out.grown).mono ?_
    rintro e w5 ⟨_, rfl, a, c, rfl, hrep, hok, ht5, hg5⟩
    obtain ⟨ka, kc, aa, ac, tk, tn, ti, th, ta, tl, tc, rfl⟩ := hrep.form
    have HP5 := Lib.hid (HP1.out.call ht5 hg5)
    have HRp := Lib.hid (hrep.imp_lt HP1.out.res.lt)
    have HOa := Lib.hid hok
    clear hrep hok ht5 hg5
    have HK := Lib.hid (one_newE (S' := fun g => w.heap.size < g) HRp.out 37 w5.heap.size rfl (fun _ hg => hg) HP5.out.res.lt)
    have HB4 := Lib.hid (HP5.out.lift ((Below.refl _ w5).alloc (Nat.le_refl _) (.cells #[.int .i64 a.k, .int .i64 a.p, .string a.n, .int .i64 a.m, .slice ka a.kids.length kc, .slice aa a.arms.length ac, .int .i64 tk, .string tn, .int .i64 ti, .int .i64 th, .slice ta tl tc] 37)))
    clear HT HP1
    go_wp2_with fail
    go_at_call 16
    generalize hW6 : w5.alloc (.cells #[.int .i64 a.k, .int .i64 a.p, .string a.n, .int .i64 a.m, .slice ka a.kids.length kc, .slice aa a.arms.length ac, .int .i64 tk, .string tn, .int .i64 ti, .int .i64 th, .slice ta tl tc] 37) = w6 at *
    clear hW6
    refine (HTt.out _ HB4.out.rd HB4.out.grown).mono ?_
    rintro e w7 ⟨u, rfl, U, hru, hou, ht7, hg7⟩
    obtain ⟨uk, un, ui, uh, ua, um, uc, rfl⟩ := hru.form
    have HP7 := Lib.hid (HB4.out.call ht7 hg7)
    have hz6 := HB4.out.res.lt
    have HK7 : Hid (SlG ExE w7 (fun g => w.heap.size < g) [a] (.slice (some ⟨w5.heap.size, 0, none⟩) 1 1)) := SlG.kept (fun _ h => h) (fun g hg hl => hg7.block g hl (by intro e; have := Option.some.inj e; omega)) HK.out
    have HRes : Hid (RepE w7 (fun g => w.heap.size < g) (.mk 9 0 ⟨#[]⟩ 0 U [a] []) [.int .i64 9, .int .i64 0, .string ⟨#[]⟩, .int .i64 0, .slice (some ⟨w5.heap.size, 0, none⟩) 1 1, .slice none 0 0, .int .i64 uk, .string un, .int .i64 ui, .int .i64 uh, .slice ua um uc]) :=
      RepE.close (Nat.zero_le _) HK7.out (slG_nil AmE _ _) (hru.imp fun g hg => Nat.lt_of_lt_of_le hz6 hg)
    have HOu : Hid (src U = true ∧ (shT U).length ≤ 63) := by
      have h1 := src_of_valid U hou.1.1 hou.1.2
      have h2 := shT_len6 U h1 hou.1.2
      have h3 := hou.2
      have h4 : S3.capN 2 = 7 := rfl
      exact ⟨h1, by omega⟩
    clear hru hou ht7 hg7 hz6 HTt HB4 HK HRp
    go_wp2_with (refine wpList_storeC rfl _ _ rfl _ _ _ HP7.out.res rfl rfl HRes.out.size HRes.out.len0 HRes.out.len.2 ?_; intro v8 hB8 hg8 hs8)
    obtain ⟨e0, e1, e2, e3, e4, e5, e6, e7, e8, e9, e10⟩ := hB8.all11
    refine bodyPost_ret (by simp [results, Tryd.results11, go_sem, e0, e1, e2, e3, e4, e5, e6, e7, e8, e9, e10]; try rfl) rfl ?_
    exact raw_fin (HP7.out.ret HRes.out hbase hg8) (okE_ann HOa.out HOu.out.1 HOu.out.2)
end Go.Proofs.YtfkbifbodpelmaaDoor.MR
