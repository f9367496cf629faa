import Derived.Test.YtbbplpmjpadgiaaGreatDoorExMd
/- The package's reader of expressions: a function, a held expression. -/
namespace Go.Proofs.YtbbplpmjpadgiaaGreatDoor
open Go.RowKit Go.Maps Mth

set_option maxRecDepth 100000 in
set_option maxHeartbeats 3200000 in
theorem yFun_of (ts : List Tok) (s : St) (f : Nat) (hs : s.i < ts.length) (H : ∀ s, YAt 52 #[] ts s (yExpr f ts s)) : YAt 80 #[] ts s (yFun (f + 1) ts s) := by
  intro T j hr ea b base w hbb hbase h
  have hok := h.ok
  have HNs := Lib.hid (yT_size hok (xStep s))
  unfold yFun at hr
  have HSk := Lib.hid (fun (V : World) (h : RdY ea V b ts s) => ySkip_any ea b ts s V h hs)
  have HNm := Lib.hid (fun (V : World) (h : RdY ea V b ts (xStep s)) => yName_any 1 (by decide) ea b ts (xStep s) V h)
  have HMk := Lib.hid (fun (s : St) (V : World) (h : RdY ea V b ts s) => yMark_any ⟨#[46]⟩ ea b ts s V h)
  have hblt := h.lt
  have HR := Lib.hid h
  generalize yExp ts (xStep s) (yK ts (xStep s) == 1) = s2 at *
  generalize yT ts (xStep s) = nm at *
  generalize xStep s = s1 at *
  have HMk2 := Lib.hid (HMk.out s2)
  generalize yExp ts s2 (yM ts s2 ⟨#[46]⟩) = s3 at *
  generalize tkP ts s.i = p at *
  cases hE : yExpr f ts s3 with
  | none => rw [hE] at hr; simp at hr
  | some q =>
    obtain ⟨a, s4⟩ := q
    rw [hE] at hr
    simp only [Option.some.injEq, Prod.mk.injEq] at hr
    obtain ⟨rfl, rfl⟩ := hr
    have HE := Lib.hid (fun (V : World) (h : RdY ea V b ts s3) => H s3 a s4 hE ea b V.heap.size V h.lt (Nat.le_refl _) h)
    clear h H hE HMk
    have HP0 := Lib.hid (PB.start HR.out)
    have hsz0 : w.heap.size < (w.alloc (.cells #[.int .i64 0, .int .i64 0, .string ⟨#[]⟩, .int .i64 0, .slice none 0 0, .slice none 0 0, .int .i64 0, .string ⟨#[]⟩, .int .i64 0, .int .i64 0, .slice none 0 0] 54)).heap.size := by simp
    go_enter Tryz.func80, Tryz.ntmps80
    go_upto_region 1 with fail
    generalize (w.alloc (.cells #[.int .i64 0, .int .i64 0, .string ⟨#[]⟩, .int .i64 0, .slice none 0 0, .slice none 0 0, .int .i64 0, .string ⟨#[]⟩, .int .i64 0, .int .i64 0, .slice none 0 0] 54)) = w0 at *
    go_wp2_with fail
    go_at_call 91
    refine (HSk.out _ HP0.out.rd).mono ?_
    rintro e w1 ⟨rfl, hr1, hg1⟩
    have HB1 := Lib.hid ((HP0.out.call hr1 hg1).mk' [.int .i64 4, .int .i64 p, .string ⟨#[]⟩, .int .i64 0, .slice none 0 0, .slice none 0 0, .int .i64 0, .string ⟨#[]⟩, .int .i64 0, .int .i64 0, .slice none 0 0])
    clear hr1 hg1 HP0 hsz0
    go_upto_region 2 with fail
    generalize (w1.alloc (.cells #[.int .i64 4, .int .i64 p, .string ⟨#[]⟩, .int .i64 0, .slice none 0 0, .slice none 0 0, .int .i64 0, .string ⟨#[]⟩, .int .i64 0, .int .i64 0, .slice none 0 0] 54)) = v1 at *
    generalize w1.heap.size = R1 at *
    go_wp2_with fail
    go_at_call 118
    refine (HNm.out _ HB1.out.rd).mono ?_
    rintro e v2 ⟨rfl, hr2, hg2⟩
    have HB2 := Lib.hid (HB1.out.call hr2 hg2)
    have HB3 := Lib.hid (HB2.out.set 2 (.string nm))
    have c2 := HB2.out.box.cell 2 _ rfl
    have f2 := HB2.out.box.free 2
    clear hr2 hg2 HB1
    go_upto_region 3 with fail
    generalize v2.setCell ⟨R1, 2, none⟩ (.string nm) = v3 at *
    clear c2 f2 HB2
    go_wp2_with fail
    go_at_call 119
    refine (HMk2.out _ HB3.out.rd).mono ?_
    rintro e v4 ⟨rfl, hr4, hg4⟩
    have HB4 := Lib.hid (HB3.out.call hr4 hg4)
    clear hr4 hg4 HB3
    go_wp2_with fail
    go_at_call 52
    refine (HE.out _ HB4.out.rd).mono ?_
    rintro e v5 ⟨c, rfl, hrep, hr5, hg5⟩
    have HB5 := Lib.hid (HB4.out.call hr5 hg5)
    have hlt4 := HB4.out.lt
    have hlt5 := HB5.out.lt
    obtain ⟨ka, kc, aa, ac, tk, tn, ti, th, ta, tl, tc, rfl⟩ := hrep.form
    have c4 := HB5.out.box.cell 4 _ rfl
    have f4 := HB5.out.box.free 4
    obtain ⟨-, hg6, hs6⟩ := HB5.out.box.set 4 (.slice (some ⟨v5.heap.size, 0, none⟩) 1 1)
    have HB6 := Lib.hid (HB5.out.set 4 (.slice (some ⟨v5.heap.size, 0, none⟩) 1 1))
    have hrep6 := hrep.kept (w' := v5.setCell ⟨R1, 4, none⟩ (.slice (some ⟨v5.heap.size, 0, none⟩) 1 1)) (S' := fun g => R1 < g) (fun _ hg => Nat.lt_of_lt_of_le hlt4 hg) (fun g hg hl => hg6.block g hl (by intro e; have := Option.some.inj e; omega))
    have HK := Lib.hid (one_newE (S' := fun g => R1 < g) hrep6 54 v5.heap.size hs6.symm (fun _ hg => hg) hlt5)
    have HB7 := Lib.hid (HB6.out.lift ((Below.refl _ _).alloc (Nat.le_refl _) (.cells #[.int .i64 a.k, .int .i64 a.p, .string a.n, .int .i64 a.m, .slice ka a.kids.length kc, .slice aa a.arms.length ac, .int .i64 tk, .string tn, .int .i64 ti, .int .i64 th, .slice ta tl tc] 54)))
    clear hr5 hg5 HB5 HB4 hrep hrep6 hg6 hs6 HB6
    go_upto_region 5 with fail
    generalize v5.heap.size = n5 at *
    generalize (v5.setCell ⟨R1, 4, none⟩ (.slice (some ⟨n5, 0, none⟩) 1 1)).alloc (.cells #[.int .i64 a.k, .int .i64 a.p, .string a.n, .int .i64 a.m, .slice ka a.kids.length kc, .slice aa a.arms.length ac, .int .i64 tk, .string tn, .int .i64 ti, .int .i64 th, .slice ta tl tc] 54) = v7 at *
    clear c4 f4
    obtain ⟨d0, d1, d2, d3, d4, d5, d6, d7, d8, d9, d10⟩ := HB7.out.box.all11
    have HRes := Lib.hid (repE_kids (S := fun g => R1 < g) 4 p nm 0 HNs.out HK.out)
    go_wp2_with (refine wpList_storeC rfl _ _ rfl _ _ _ HB7.out.res rfl rfl HRes.out.size HRes.out.len0 HRes.out.len.2 ?_; intro v8 hB8 hg8 hs8)
    obtain ⟨e0, e1, e2, e3, e4, e5, e6, e7, e8, e9, e10⟩ := hB8.all11
    refine bodyPost_ret (by simp [results, Tryz.results80, go_sem, e0, e1, e2, e3, e4, e5, e6, e7, e8, e9, e10]; try rfl) rfl ?_
    exact ⟨_, rfl, HB7.out.ret HRes.out hbase hg8⟩
end Go.Proofs.YtbbplpmjpadgiaaGreatDoor

/- The package's reader of expressions: a held expression, the choice among the forms. -/
namespace Go.Proofs.YtbbplpmjpadgiaaGreatDoor
open Go.RowKit Go.Maps Mth

theorem PB.ret {ea : Addr} {w v v' : World} {b R0 base : Nat} {ts : List Tok} {s : St} {c' : List Value} {T : Ex} (h : PB ea w v b R0 ts s) (hr : RepE v (fun g => R0 < g) T c') (hbase : base ≤ w.heap.size) (hg : v.grownBy v' (some R0)) :
    RepE v' (fun g => base ≤ g) T c' ∧ RdY ea v' b ts s ∧ w.grownBy v' (some b) := by
  have h0 := h.h0
  exact ⟨repE_far hr (by omega) fun g h2 h3 => hg.block g h3 (by intro e; have := Option.some.inj e; omega), h.fin hg⟩
theorem PB.far {ea : Addr} {w v v' : World} {b R0 : Nat} {ts : List Tok} {s : St} {c : List Value} {T : Ex} (h : PB ea w v b R0 ts s) (hr : RepE v (fun g => R0 < g) T c) (hg : v.grownBy v' (some b)) : RepE v' (fun g => R0 < g) T c := by
  have h0 := h.h0
  have hb := h.hb
  exact hr.kept (fun _ h => h) fun g h1 h2 => hg.block g h2 (by intro e; have := Option.some.inj e; omega)

set_option maxRecDepth 100000 in
set_option maxHeartbeats 3200000 in
theorem yHeld_of (ts : List Tok) (s : St) (f : Nat) (p : Int) (H : ∀ s, YAt 52 #[] ts s (yExpr f ts s)) : YAt 94 #[.int .i64 p] ts s (yHeld (f + 1) ts s p) := by
  intro T j hr ea b base w hbb hbase h
  unfold yHeld at hr
  have HMk := Lib.hid (fun (s : St) (V : World) (h : RdY ea V b ts s) => yMark_any ⟨#[125]⟩ ea b ts s V h)
  have HR := Lib.hid h
  cases hE : yExpr f ts s with
  | none => rw [hE] at hr; simp at hr
  | some q =>
    obtain ⟨a, s1⟩ := q
    rw [hE] at hr
    simp only [Option.some.injEq, Prod.mk.injEq] at hr
    obtain ⟨rfl, rfl⟩ := hr
    have HE := Lib.hid (fun (V : World) (h : RdY ea V b ts s) => H s a s1 hE ea b V.heap.size V h.lt (Nat.le_refl _) h)
    have HMk1 := Lib.hid (HMk.out s1)
    generalize yExp ts s1 (yM ts s1 ⟨#[125]⟩) = s2 at *
    clear h H hE HMk
    have HP0 := Lib.hid (PB.start HR.out)
    have hsz0 : w.heap.size < (w.alloc (.cells #[.int .i64 0, .int .i64 0, .string ⟨#[]⟩, .int .i64 0, .slice none 0 0, .slice none 0 0, .int .i64 0, .string ⟨#[]⟩, .int .i64 0, .int .i64 0, .slice none 0 0] 54)).heap.size := by simp
    go_enter Tryz.func94, Tryz.ntmps94
    go_upto_region 1 with fail
    generalize (w.alloc (.cells #[.int .i64 0, .int .i64 0, .string ⟨#[]⟩, .int .i64 0, .slice none 0 0, .slice none 0 0, .int .i64 0, .string ⟨#[]⟩, .int .i64 0, .int .i64 0, .slice none 0 0] 54)) = w0 at *
    go_wp2_with fail
    go_at_call 52
    refine (HE.out _ HP0.out.rd).mono ?_
    rintro e v1 ⟨c, rfl, hrep, hr1, hg1⟩
    obtain ⟨ka, kc, aa, ac, tk, tn, ti, th, ta, tl, tc, rfl⟩ := hrep.form
    have HP1 := Lib.hid (HP0.out.call hr1 hg1)
    have HB1 := Lib.hid (HP1.out.mk' [.int .i64 a.k, .int .i64 a.p, .string a.n, .int .i64 a.m, .slice ka a.kids.length kc, .slice aa a.arms.length ac, .int .i64 tk, .string tn, .int .i64 ti, .int .i64 th, .slice ta tl tc])
    have HRp := Lib.hid ((hrep.imp (S' := fun g => w.heap.size < g) (fun _ hg => Nat.lt_of_lt_of_le hsz0 hg)).lift ((Below.refl _ v1).alloc (Nat.le_refl _) (.cells #[.int .i64 a.k, .int .i64 a.p, .string a.n, .int .i64 a.m, .slice ka a.kids.length kc, .slice aa a.arms.length ac, .int .i64 tk, .string tn, .int .i64 ti, .int .i64 th, .slice ta tl tc] 54)))
    clear hrep hr1 hg1 HP0 HP1
    go_upto_region 2 with fail
    generalize (v1.alloc (.cells #[.int .i64 a.k, .int .i64 a.p, .string a.n, .int .i64 a.m, .slice ka a.kids.length kc, .slice aa a.arms.length ac, .int .i64 tk, .string tn, .int .i64 ti, .int .i64 th, .slice ta tl tc] 54)) = v2 at *
    generalize v1.heap.size = R1 at *
    go_wp2_with fail
    go_at_call 119
    refine (HMk1.out _ HB1.out.rd).mono ?_
    rintro e v3 ⟨rfl, hr3, hg3⟩
    have HB3 := Lib.hid (HB1.out.call hr3 hg3)
    have HRp3 := Lib.hid (HB1.out.pb.far HRp.out hg3)
    have hR0 : w.heap.size < v3.heap.size := HB3.out.res.lt
    have HK := Lib.hid (one_newE (S' := fun g => w.heap.size < g) HRp3.out 54 v3.heap.size rfl (fun _ hg => hg) hR0)
    have HB4 := Lib.hid (HB3.out.lift ((Below.refl _ v3).alloc (Nat.le_refl _) (.cells #[.int .i64 a.k, .int .i64 a.p, .string a.n, .int .i64 a.m, .slice ka a.kids.length kc, .slice aa a.arms.length ac, .int .i64 tk, .string tn, .int .i64 ti, .int .i64 th, .slice ta tl tc] 54)))
    clear hr3 hg3 HRp HB1
    obtain ⟨d0, d1, d2, d3, d4, d5, d6, d7, d8, d9, d10⟩ := HB3.out.box.all11
    have HRes := Lib.hid (repE_kids (S := fun g => w.heap.size < g) 11 p ⟨#[]⟩ 0 (Nat.zero_le _) HK.out)
    go_wp2_with (refine wpList_storeC rfl _ _ rfl _ _ _ HB4.out.res rfl rfl HRes.out.size HRes.out.len0 HRes.out.len.2 ?_; intro v8 hB8 hg8 hs8)
    obtain ⟨e0, e1, e2, e3, e4, e5, e6, e7, e8, e9, e10⟩ := hB8.all11
    refine bodyPost_ret (by simp [results, Tryz.results94, go_sem, e0, e1, e2, e3, e4, e5, e6, e7, e8, e9, e10]; try rfl) rfl ?_
    exact ⟨_, rfl, HB4.out.pb.ret HRes.out hbase hg8⟩

/-- What holds when the token is looked at. -/
structure TB (ea : Addr) (w v : World) (b R0 R1 : Nat) (ts : List Tok) (s : St) (c : List Value) : Prop where
  pb : PB ea w v b R0 ts s
  tok : BoxC 44 v R1 c
  h1 : R0 < R1
theorem TB.mk' {ea : Addr} {w v : World} {b R0 : Nat} {ts : List Tok} {s : St} (h : PB ea w v b R0 ts s) (c : List Value) : TB ea w (v.alloc (.cells c.toArray 44)) b R0 v.heap.size ts s c :=
  ⟨h.lift ((Below.refl _ v).alloc (Nat.le_refl _) _), BoxC.made _ v c, h.res.lt⟩
theorem TB.call {ea : Addr} {w v v' : World} {b R0 R1 : Nat} {ts : List Tok} {s s' : St} {c : List Value} (h : TB ea w v b R0 R1 ts s c) (hr : RdY ea v' b ts s') (hg : v.grownBy v' (some b)) : TB ea w v' b R0 R1 ts s' c :=
  ⟨h.pb.call hr hg, h.tok.grown hg (by have := h.pb.hb; have := h.pb.h0; have := h.h1; intro e; have := Option.some.inj e; omega), h.h1⟩
theorem TB.lift {ea : Addr} {w v v' : World} {b R0 R1 : Nat} {ts : List Tok} {s : St} {c : List Value} (h : TB ea w v b R0 R1 ts s c) (hb : Below v.heap.size v v') : TB ea w v' b R0 R1 ts s c := h.call (h.pb.rd.lift hb) (below_grown_some hb b)
theorem TB.cells {ea : Addr} {w v : World} {b R0 R1 : Nat} {ts : List Tok} {s : St} {c0 c1 c2 : Value} (h : TB ea w v b R0 R1 ts s [c0, c1, c2]) : v.cell? ⟨R1, 0, none⟩ = some c0 ∧ v.cell? ⟨R1, 1, none⟩ = some c1 ∧ v.cell? ⟨R1, 2, none⟩ = some c2 := ⟨h.tok.cell 0 _ rfl, h.tok.cell 1 _ rfl, h.tok.cell 2 _ rfl⟩
theorem RepE.imp_lt {w : World} {n R : Nat} {T : Ex} {c : List Value} (h : RepE w (fun g => n ≤ g) T c) (hn : R < n) : RepE w (fun g => R < g) T c := h.imp fun _ hg => Nat.lt_of_lt_of_le hn hg

set_option maxRecDepth 100000 in
set_option maxHeartbeats 3200000 in
theorem yExpr_of (ts : List Tok) (s : St) (f : Nat) (H1 : yM ts s ⟨#[92]⟩ = true → YAt 80 #[] ts s (yFun f ts s)) (H2 : yW ts s ⟨#[108, 101, 116]⟩ = true → YAt 82 #[] ts s (yLoc f ts s)) (H3 : yW ts s ⟨#[99, 97, 115, 101]⟩ = true → YAt 83 #[] ts s (yCas f ts s)) (H4 : YAt 84 #[] ts s (yApp f ts s)) : YAt 52 #[] ts s (yExpr (f + 1) ts s) := by
  intro T j hr ea b base w hbb hbase h
  unfold yExpr at hr
  have HT := Lib.hid (fun (V : World) (h : RdY ea V b ts s) => yTok_any ea b ts s V h)
  have HM : Hid (∀ V, Calls Tryz.prog 66 #[.agg #[.int .i64 (yK ts s), .string (yT ts s), .int .i64 (yP ts s)], .string ⟨#[92]⟩] V fun e w' => e = .returned (.bool (yM ts s ⟨#[92]⟩)) ∧ Below V.heap.size V w') := fun V => xMark_any _ _ _ _ V
  have HW1 : Hid (∀ V, Calls Tryz.prog 81 #[.agg #[.int .i64 (yK ts s), .string (yT ts s), .int .i64 (yP ts s)], .string ⟨#[108, 101, 116]⟩] V fun e w' => e = .returned (.bool (yW ts s ⟨#[108, 101, 116]⟩)) ∧ Below V.heap.size V w') := fun V => xWord_any _ _ _ _ V
  have HW2 : Hid (∀ V, Calls Tryz.prog 81 #[.agg #[.int .i64 (yK ts s), .string (yT ts s), .int .i64 (yP ts s)], .string ⟨#[99, 97, 115, 101]⟩] V fun e w' => e = .returned (.bool (yW ts s ⟨#[99, 97, 115, 101]⟩)) ∧ Below V.heap.size V w') := fun V => xWord_any _ _ _ _ V
  have HR := Lib.hid h
  have HP0 := Lib.hid (PB.start HR.out)
  have hsz0 : w.heap.size < (w.alloc (.cells #[.int .i64 0, .int .i64 0, .string ⟨#[]⟩, .int .i64 0, .slice none 0 0, .slice none 0 0, .int .i64 0, .string ⟨#[]⟩, .int .i64 0, .int .i64 0, .slice none 0 0] 54)).heap.size := by simp
  clear h
  generalize yK ts s = tk at *
  generalize yT ts s = tx at *
  generalize yP ts s = tp at *
  cases hm : yM ts s ⟨#[92]⟩ with
  | true =>
    have HC := Lib.hid (fun (V : World) (h : RdY ea V b ts s) => H1 hm T j (by rw [hm] at hr; simpa using hr) ea b V.heap.size V h.lt (Nat.le_refl _) h)
    rw [hm] at HM
    clear hr H1 H2 H3 H4 hm
    go_enter Tryz.func52, Tryz.ntmps52
    go_upto_region 1 with fail
    generalize (w.alloc (.cells #[.int .i64 0, .int .i64 0, .string ⟨#[]⟩, .int .i64 0, .slice none 0 0, .slice none 0 0, .int .i64 0, .string ⟨#[]⟩, .int .i64 0, .int .i64 0, .slice none 0 0] 54)) = w0 at *
    go_wp2_with fail
    go_at_call 79
    refine (HT.out _ HP0.out.rd).mono ?_
    rintro e w1 ⟨rfl, hb1⟩
    have HB1 := Lib.hid (TB.mk' (HP0.out.lift hb1) [.int .i64 tk, .string tx, .int .i64 tp])
    have hs1 := Nat.lt_of_lt_of_le hsz0 hb1.size
    clear hb1 HP0 hsz0
    go_upto_region 2 with fail
    generalize (w1.alloc (.cells #[.int .i64 tk, .string tx, .int .i64 tp] 44)) = v1 at *
    generalize w1.heap.size = R1 at *
    obtain ⟨k0, k1, k2⟩ := HB1.out.cells
    go_wp2_with fail
    go_at_call 66
    refine (HM.out _).mono ?_
    rintro e v2 ⟨rfl, hb2⟩
    have HB2 := Lib.hid (HB1.out.lift hb2)
    clear hb2 HB1
    clear k0 k1 k2
    go_wp2_with fail
    go_at_call 80
    refine (HC.out _ HB2.out.pb.rd).mono ?_
    rintro e v5 ⟨c, rfl, hrep, hr5, hg5⟩
    have HB5 := Lib.hid (HB2.out.call hr5 hg5)
    have HRp := Lib.hid (hrep.imp_lt HB2.out.pb.res.lt)
    obtain ⟨ka, kc, aa, ac, uk, un, ui, uh, ua, ul, uc, rfl⟩ := hrep.form
    clear hrep hr5 hg5
    go_wp2_with (refine wpList_storeC rfl _ _ rfl _ _ _ HB5.out.pb.res rfl rfl HRp.out.size HRp.out.len0 HRp.out.len.2 ?_; intro v8 hB8 hg8 hs8)
    obtain ⟨e0, e1, e2, e3, e4, e5, e6, e7, e8, e9, e10⟩ := hB8.all11
    refine bodyPost_ret (by simp [results, Tryz.results52, go_sem, e0, e1, e2, e3, e4, e5, e6, e7, e8, e9, e10]; try rfl) rfl ?_
    exact ⟨_, rfl, HB5.out.pb.ret HRp.out hbase hg8⟩
  | false =>
    rw [hm] at HM hr
    simp only [Bool.false_eq_true, if_false] at hr
    cases hw1 : yW ts s ⟨#[108, 101, 116]⟩ with
    | true =>
      have HC := Lib.hid (fun (V : World) (h : RdY ea V b ts s) => H2 hw1 T j (by rw [hw1] at hr; simpa using hr) ea b V.heap.size V h.lt (Nat.le_refl _) h)
      rw [hw1] at HW1
      clear hr H1 H2 H3 H4 hm hw1
      go_enter Tryz.func52, Tryz.ntmps52
      go_upto_region 1 with fail
      generalize (w.alloc (.cells #[.int .i64 0, .int .i64 0, .string ⟨#[]⟩, .int .i64 0, .slice none 0 0, .slice none 0 0, .int .i64 0, .string ⟨#[]⟩, .int .i64 0, .int .i64 0, .slice none 0 0] 54)) = w0 at *
      go_wp2_with fail
      go_at_call 79
      refine (HT.out _ HP0.out.rd).mono ?_
      rintro e w1 ⟨rfl, hb1⟩
      have HB1 := Lib.hid (TB.mk' (HP0.out.lift hb1) [.int .i64 tk, .string tx, .int .i64 tp])
      have hs1 := Nat.lt_of_lt_of_le hsz0 hb1.size
      clear hb1 HP0 hsz0
      go_upto_region 2 with fail
      generalize (w1.alloc (.cells #[.int .i64 tk, .string tx, .int .i64 tp] 44)) = v1 at *
      generalize w1.heap.size = R1 at *
      obtain ⟨k0, k1, k2⟩ := HB1.out.cells
      go_wp2_with fail
      go_at_call 66
      refine (HM.out _).mono ?_
      rintro e v2 ⟨rfl, hb2⟩
      have HB2 := Lib.hid (HB1.out.lift hb2)
      clear hb2 HB1
      clear k0 k1 k2
      obtain ⟨k0, k1, k2⟩ := HB2.out.cells
      go_wp2_with fail
      go_at_call 81
      refine (HW1.out _).mono ?_
      rintro e v3 ⟨rfl, hb2⟩
      have HB2 := Lib.hid (HB2.out.lift hb2)
      clear hb2
      clear k0 k1 k2
      go_wp2_with fail
      go_at_call 82
      refine (HC.out _ HB2.out.pb.rd).mono ?_
      rintro e v5 ⟨c, rfl, hrep, hr5, hg5⟩
      have HB5 := Lib.hid (HB2.out.call hr5 hg5)
      have HRp := Lib.hid (hrep.imp_lt HB2.out.pb.res.lt)
      obtain ⟨ka, kc, aa, ac, uk, un, ui, uh, ua, ul, uc, rfl⟩ := hrep.form
      clear hrep hr5 hg5
      go_wp2_with (refine wpList_storeC rfl _ _ rfl _ _ _ HB5.out.pb.res rfl rfl HRp.out.size HRp.out.len0 HRp.out.len.2 ?_; intro v8 hB8 hg8 hs8)
      obtain ⟨e0, e1, e2, e3, e4, e5, e6, e7, e8, e9, e10⟩ := hB8.all11
      refine bodyPost_ret (by simp [results, Tryz.results52, go_sem, e0, e1, e2, e3, e4, e5, e6, e7, e8, e9, e10]; try rfl) rfl ?_
      exact ⟨_, rfl, HB5.out.pb.ret HRp.out hbase hg8⟩
    | false =>
      rw [hw1] at HW1 hr
      simp only [Bool.false_eq_true, if_false] at hr
      cases hw2 : yW ts s ⟨#[99, 97, 115, 101]⟩ with
      | true =>
        have HC := Lib.hid (fun (V : World) (h : RdY ea V b ts s) => H3 hw2 T j (by rw [hw2] at hr; simpa using hr) ea b V.heap.size V h.lt (Nat.le_refl _) h)
        rw [hw2] at HW2
        clear hr H1 H2 H3 H4 hm hw1 hw2
        go_enter Tryz.func52, Tryz.ntmps52
        go_upto_region 1 with fail
        generalize (w.alloc (.cells #[.int .i64 0, .int .i64 0, .string ⟨#[]⟩, .int .i64 0, .slice none 0 0, .slice none 0 0, .int .i64 0, .string ⟨#[]⟩, .int .i64 0, .int .i64 0, .slice none 0 0] 54)) = w0 at *
        go_wp2_with fail
        go_at_call 79
        refine (HT.out _ HP0.out.rd).mono ?_
        rintro e w1 ⟨rfl, hb1⟩
        have HB1 := Lib.hid (TB.mk' (HP0.out.lift hb1) [.int .i64 tk, .string tx, .int .i64 tp])
        have hs1 := Nat.lt_of_lt_of_le hsz0 hb1.size
        clear hb1 HP0 hsz0
        go_upto_region 2 with fail
        generalize (w1.alloc (.cells #[.int .i64 tk, .string tx, .int .i64 tp] 44)) = v1 at *
        generalize w1.heap.size = R1 at *
        obtain ⟨k0, k1, k2⟩ := HB1.out.cells
        go_wp2_with fail
        go_at_call 66
        refine (HM.out _).mono ?_
        rintro e v2 ⟨rfl, hb2⟩
        have HB2 := Lib.hid (HB1.out.lift hb2)
        clear hb2 HB1
        clear k0 k1 k2
        obtain ⟨k0, k1, k2⟩ := HB2.out.cells
        go_wp2_with fail
        go_at_call 81
        refine (HW1.out _).mono ?_
        rintro e v3 ⟨rfl, hb2⟩
        have HB2 := Lib.hid (HB2.out.lift hb2)
        clear hb2
        clear k0 k1 k2
        obtain ⟨k0, k1, k2⟩ := HB2.out.cells
        go_wp2_with fail
        go_at_call 81
        refine (HW2.out _).mono ?_
        rintro e v3 ⟨rfl, hb2⟩
        have HB2 := Lib.hid (HB2.out.lift hb2)
        clear hb2
        clear k0 k1 k2
        go_wp2_with fail
        go_at_call 83
        refine (HC.out _ HB2.out.pb.rd).mono ?_
        rintro e v5 ⟨c, rfl, hrep, hr5, hg5⟩
        have HB5 := Lib.hid (HB2.out.call hr5 hg5)
        have HRp := Lib.hid (hrep.imp_lt HB2.out.pb.res.lt)
        obtain ⟨ka, kc, aa, ac, uk, un, ui, uh, ua, ul, uc, rfl⟩ := hrep.form
        clear hrep hr5 hg5
        go_wp2_with (refine wpList_storeC rfl _ _ rfl _ _ _ HB5.out.pb.res rfl rfl HRp.out.size HRp.out.len0 HRp.out.len.2 ?_; intro v8 hB8 hg8 hs8)
        obtain ⟨e0, e1, e2, e3, e4, e5, e6, e7, e8, e9, e10⟩ := hB8.all11
        refine bodyPost_ret (by simp [results, Tryz.results52, go_sem, e0, e1, e2, e3, e4, e5, e6, e7, e8, e9, e10]; try rfl) rfl ?_
        exact ⟨_, rfl, HB5.out.pb.ret HRp.out hbase hg8⟩
      | false =>
        have HC := Lib.hid (fun (V : World) (h : RdY ea V b ts s) => H4 T j (by rw [hw2] at hr; simpa using hr) ea b V.heap.size V h.lt (Nat.le_refl _) h)
        rw [hw2] at HW2
        clear hr H1 H2 H3 H4 hm hw1 hw2
        go_enter Tryz.func52, Tryz.ntmps52
        go_upto_region 1 with fail
        generalize (w.alloc (.cells #[.int .i64 0, .int .i64 0, .string ⟨#[]⟩, .int .i64 0, .slice none 0 0, .slice none 0 0, .int .i64 0, .string ⟨#[]⟩, .int .i64 0, .int .i64 0, .slice none 0 0] 54)) = w0 at *
        go_wp2_with fail
        go_at_call 79
        refine (HT.out _ HP0.out.rd).mono ?_
        rintro e w1 ⟨rfl, hb1⟩
        have HB1 := Lib.hid (TB.mk' (HP0.out.lift hb1) [.int .i64 tk, .string tx, .int .i64 tp])
        have hs1 := Nat.lt_of_lt_of_le hsz0 hb1.size
        clear hb1 HP0 hsz0
        go_upto_region 2 with fail
        generalize (w1.alloc (.cells #[.int .i64 tk, .string tx, .int .i64 tp] 44)) = v1 at *
        generalize w1.heap.size = R1 at *
        obtain ⟨k0, k1, k2⟩ := HB1.out.cells
        go_wp2_with fail
        go_at_call 66
        refine (HM.out _).mono ?_
        rintro e v2 ⟨rfl, hb2⟩
        have HB2 := Lib.hid (HB1.out.lift hb2)
        clear hb2 HB1
        clear k0 k1 k2
        obtain ⟨k0, k1, k2⟩ := HB2.out.cells
        go_wp2_with fail
        go_at_call 81
        refine (HW1.out _).mono ?_
        rintro e v3 ⟨rfl, hb2⟩
        have HB2 := Lib.hid (HB2.out.lift hb2)
        clear hb2
        clear k0 k1 k2
        obtain ⟨k0, k1, k2⟩ := HB2.out.cells
        go_wp2_with fail
        go_at_call 81
        refine (HW2.out _).mono ?_
        rintro e v3 ⟨rfl, hb2⟩
        have HB2 := Lib.hid (HB2.out.lift hb2)
        clear hb2
        clear k0 k1 k2
        go_wp2_with fail
        go_at_call 84
        refine (HC.out _ HB2.out.pb.rd).mono ?_
        rintro e v5 ⟨c, rfl, hrep, hr5, hg5⟩
        have HB5 := Lib.hid (HB2.out.call hr5 hg5)
        have HRp := Lib.hid (hrep.imp_lt HB2.out.pb.res.lt)
        obtain ⟨ka, kc, aa, ac, uk, un, ui, uh, ua, ul, uc, rfl⟩ := hrep.form
        clear hrep hr5 hg5
        go_wp2_with (refine wpList_storeC rfl _ _ rfl _ _ _ HB5.out.pb.res rfl rfl HRp.out.size HRp.out.len0 HRp.out.len.2 ?_; intro v8 hB8 hg8 hs8)
        obtain ⟨e0, e1, e2, e3, e4, e5, e6, e7, e8, e9, e10⟩ := hB8.all11
        refine bodyPost_ret (by simp [results, Tryz.results52, go_sem, e0, e1, e2, e3, e4, e5, e6, e7, e8, e9, e10]; try rfl) rfl ?_
        exact ⟨_, rfl, HB5.out.pb.ret HRp.out hbase hg8⟩
end Go.Proofs.YtbbplpmjpadgiaaGreatDoor
