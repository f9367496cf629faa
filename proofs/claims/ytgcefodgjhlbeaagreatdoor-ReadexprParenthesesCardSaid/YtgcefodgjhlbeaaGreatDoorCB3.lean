import Derived.Test.YtgcefodgjhlbeaaGreatDoorCB2
import Derived.Test.YtgcefodgjhlbeaaGreatDoorCA3
import Derived.Deep.RegionHeld3
import Derived.Deep.RegionLaw
/- The package's reader of expressions: a function, a held expression. -/
namespace Go.Proofs.YtgcefodgjhlbeaaGreatDoor
open Go.RowKit Go.Maps Mth

set_option maxRecDepth 100000 in
set_option maxHeartbeats 3200000 in
theorem yFun_of (ts : List Tok) (s : St) (f : Nat) (hs : s.i < ts.length) (H : ∀ s, YAt 28 #[] ts s (yExpr f ts s)) : YAt 50 #[] ts s (yFun (f + 1) ts s) := by
  intro T j hr ea b base w hbb hbase h
  have hok := h.ok
  have HNs := Lib.hid (yT_size hok (xStep s))
  unfold yFun at hr
  have HSk := Lib.hid (fun (V : World) (h : RdY ea V b ts s) => ySkip_any ea b ts s V h hs)
  have HNm := Lib.hid (fun (V : World) (h : RdY ea V b ts (xStep s)) => yName_any 1 (by decide) ea b ts (xStep s) V h)
  have HMk := Lib.hid (fun (s : St) (V : World) (h : RdY ea V b ts s) => yMark_any ⟨#[46]⟩ ea b ts s V h)
  have hblt := h.lt
  have HR := Lib.hid h
  generalize yExp ts (xStep s) (yK ts (xStep s) == 1) = s2 at *
  generalize yT ts (xStep s) = nm at *
  generalize xStep s = s1 at *
  have HMk2 := Lib.hid (HMk.out s2)
  generalize yExp ts s2 (yM ts s2 ⟨#[46]⟩) = s3 at *
  generalize tkP ts s.i = p at *
  cases hE : yExpr f ts s3 with
  | none => rw [hE] at hr; simp at hr
  | some q =>
    obtain ⟨a, s4⟩ := q
    rw [hE] at hr
    simp only [Option.some.injEq, Prod.mk.injEq] at hr
    obtain ⟨rfl, rfl⟩ := hr
    have HE := Lib.hid (fun (V : World) (h : RdY ea V b ts s3) => H s3 a s4 hE ea b V.heap.size V h.lt (Nat.le_refl _) h)
    clear h H hE HMk
    have HP0 := Lib.hid (PB.start HR.out)
    have hsz0 : w.heap.size < (w.alloc (.cells #[.int .i64 0, .int .i64 0, .string ⟨#[]⟩, .int .i64 0, .slice none 0 0, .slice none 0 0, .int .i64 0, .string ⟨#[]⟩, .int .i64 0, .int .i64 0, .slice none 0 0] 34)).heap.size := by simp
    go_enter Tryz.func50, Tryz.ntmps50
    go_upto_region 1 with fail
    generalize (w.alloc (.cells #[.int .i64 0, .int .i64 0, .string ⟨#[]⟩, .int .i64 0, .slice none 0 0, .slice none 0 0, .int .i64 0, .string ⟨#[]⟩, .int .i64 0, .int .i64 0, .slice none 0 0] 34)) = w0 at *
    go_wp2_with fail
    go_at_call 65
    refine (HSk.out _ HP0.out.rd).mono ?_
    rintro e w1 ⟨rfl, hr1, hg1⟩
    have HB1 := Lib.hid ((HP0.out.call hr1 hg1).mk' [.int .i64 4, .int .i64 p, .string ⟨#[]⟩, .int .i64 0, .slice none 0 0, .slice none 0 0, .int .i64 0, .string ⟨#[]⟩, .int .i64 0, .int .i64 0, .slice none 0 0])
    clear hr1 hg1 HP0 hsz0
    go_upto_region 2 with fail
    generalize (w1.alloc (.cells #[.int .i64 4, .int .i64 p, .string ⟨#[]⟩, .int .i64 0, .slice none 0 0, .slice none 0 0, .int .i64 0, .string ⟨#[]⟩, .int .i64 0, .int .i64 0, .slice none 0 0] 34)) = v1 at *
    generalize w1.heap.size = R1 at *
    go_wp2_with fail
    go_at_call 83
    refine (HNm.out _ HB1.out.rd).mono ?_
    rintro e v2 ⟨rfl, hr2, hg2⟩
    have HB2 := Lib.hid (HB1.out.call hr2 hg2)
    have HB3 := Lib.hid (HB2.out.set 2 (.string nm))
    have c2 := HB2.out.box.cell 2 _ rfl
    have f2 := HB2.out.box.free 2
    clear hr2 hg2 HB1
    go_upto_region 3 with fail
    generalize v2.setCell ⟨R1, 2, none⟩ (.string nm) = v3 at *
    clear c2 f2 HB2
    go_wp2_with fail
    go_at_call 84
    refine (HMk2.out _ HB3.out.rd).mono ?_
    rintro e v4 ⟨rfl, hr4, hg4⟩
    have HB4 := Lib.hid (HB3.out.call hr4 hg4)
    clear hr4 hg4 HB3
    go_wp2_with fail
    go_at_call 28
    refine (HE.out _ HB4.out.rd).mono ?_
    rintro e v5 ⟨c, rfl, hrep, hr5, hg5⟩
    have HB5 := Lib.hid (HB4.out.call hr5 hg5)
    have hlt4 := HB4.out.lt
    have hlt5 := HB5.out.lt
    obtain ⟨ka, kc, aa, ac, tk, tn, ti, th, ta, tl, tc, rfl⟩ := hrep.form
    have c4 := HB5.out.box.cell 4 _ rfl
    have f4 := HB5.out.box.free 4
    obtain ⟨-, hg6, hs6⟩ := HB5.out.box.set 4 (.slice (some ⟨v5.heap.size, 0, none⟩) 1 1)
    have HB6 := Lib.hid (HB5.out.set 4 (.slice (some ⟨v5.heap.size, 0, none⟩) 1 1))
    have hrep6 := hrep.kept (w' := v5.setCell ⟨R1, 4, none⟩ (.slice (some ⟨v5.heap.size, 0, none⟩) 1 1)) (S' := fun g => R1 < g) (fun _ hg => Nat.lt_of_lt_of_le hlt4 hg) (fun g hg hl => hg6.block g hl (by intro e; have := Option.some.inj e; omega))
    have HK := Lib.hid (one_newE (S' := fun g => R1 < g) hrep6 34 v5.heap.size hs6.symm (fun _ hg => hg) hlt5)
    have HB7 := Lib.hid (HB6.out.lift ((Below.refl _ _).alloc (Nat.le_refl _) (.cells #[.int .i64 a.k, .int .i64 a.p, .string a.n, .int .i64 a.m, .slice ka a.kids.length kc, .slice aa a.arms.length ac, .int .i64 tk, .string tn, .int .i64 ti, .int .i64 th, .slice ta tl tc] 34)))
    clear hr5 hg5 HB5 HB4 hrep hrep6 hg6 hs6 HB6
    go_upto_region 5 with fail
    generalize v5.heap.size = n5 at *
    generalize (v5.setCell ⟨R1, 4, none⟩ (.slice (some ⟨n5, 0, none⟩) 1 1)).alloc (.cells #[.int .i64 a.k, .int .i64 a.p, .string a.n, .int .i64 a.m, .slice ka a.kids.length kc, .slice aa a.arms.length ac, .int .i64 tk, .string tn, .int .i64 ti, .int .i64 th, .slice ta tl tc] 34) = v7 at *
    clear c4 f4
    obtain ⟨d0, d1, d2, d3, d4, d5, d6, d7, d8, d9, d10⟩ := HB7.out.box.all11
    have HRes := Lib.hid (repE_kids (S := fun g => R1 < g) 4 p nm 0 HNs.out HK.out)
    go_wp2_with (refine wpList_storeC rfl _ _ rfl _ _ _ HB7.out.res rfl rfl HRes.out.size HRes.out.len0 HRes.out.len.2 ?_; intro v8 hB8 hg8 hs8)
    obtain ⟨e0, e1, e2, e3, e4, e5, e6, e7, e8, e9, e10⟩ := hB8.all11
    refine bodyPost_ret (by simp [results, Tryz.results50, go_sem, e0, e1, e2, e3, e4, e5, e6, e7, e8, e9, e10]; try rfl) rfl ?_
    exact ⟨_, rfl, HB7.out.ret HRes.out hbase hg8⟩
end Go.Proofs.YtgcefodgjhlbeaaGreatDoor

/- The package's reader of expressions: a held expression, the choice among the forms. -/
namespace Go.Proofs.YtgcefodgjhlbeaaGreatDoor
open Go.RowKit Go.Maps Mth

theorem PB.ret {ea : Addr} {w v v' : World} {b R0 base : Nat} {ts : List Tok} {s : St} {c' : List Value} {T : Ex} (h : PB ea w v b R0 ts s) (hr : RepE v (fun g => R0 < g) T c') (hbase : base ≤ w.heap.size) (hg : v.grownBy v' (some R0)) :
    RepE v' (fun g => base ≤ g) T c' ∧ RdY ea v' b ts s ∧ w.grownBy v' (some b) := by
  have h0 := h.h0
  exact ⟨repE_far hr (by omega) fun g h2 h3 => hg.block g h3 (by intro e; have := Option.some.inj e; omega), h.fin hg⟩
theorem PB.far {ea : Addr} {w v v' : World} {b R0 : Nat} {ts : List Tok} {s : St} {c : List Value} {T : Ex} (h : PB ea w v b R0 ts s) (hr : RepE v (fun g => R0 < g) T c) (hg : v.grownBy v' (some b)) : RepE v' (fun g => R0 < g) T c := by
  have h0 := h.h0
  have hb := h.hb
  exact hr.kept (fun _ h => h) fun g h1 h2 => hg.block g h2 (by intro e; have := Option.some.inj e; omega)

set_option maxRecDepth 100000 in
set_option maxHeartbeats 3200000 in
theorem yHeld_of (ts : List Tok) (s : St) (f : Nat) (p : Int) (H : ∀ s, YAt 28 #[] ts s (yExpr f ts s)) : YAt 68 #[.int .i64 p] ts s (yHeld (f + 1) ts s p) := by
  intro T j hr ea b base w hbb hbase h
  unfold yHeld at hr
  have HMk := Lib.hid (fun (s : St) (V : World) (h : RdY ea V b ts s) => yMark_any ⟨#[125]⟩ ea b ts s V h)
  have HR := Lib.hid h
  cases hE : yExpr f ts s with
  | none => rw [hE] at hr; simp at hr
  | some q =>
    obtain ⟨a, s1⟩ := q
    rw [hE] at hr
    simp only [Option.some.injEq, Prod.mk.injEq] at hr
    obtain ⟨rfl, rfl⟩ := hr
    have HE := Lib.hid (fun (V : World) (h : RdY ea V b ts s) => H s a s1 hE ea b V.heap.size V h.lt (Nat.le_refl _) h)
    have HMk1 := Lib.hid (HMk.out s1)
    generalize yExp ts s1 (yM ts s1 ⟨#[125]⟩) = s2 at *
    clear h H hE HMk
    have HP0 := Lib.hid (PB.start HR.out)
    have hsz0 : w.heap.size < (w.alloc (.cells #[.int .i64 0, .int .i64 0, .string ⟨#[]⟩, .int .i64 0, .slice none 0 0, .slice none 0 0, .int .i64 0, .string ⟨#[]⟩, .int .i64 0, .int .i64 0, .slice none 0 0] 34)).heap.size := by simp
    go_enter Tryz.func68, Tryz.ntmps68
    go_upto_region 1 with fail
    generalize (w.alloc (.cells #[.int .i64 0, .int .i64 0, .string ⟨#[]⟩, .int .i64 0, .slice none 0 0, .slice none 0 0, .int .i64 0, .string ⟨#[]⟩, .int .i64 0, .int .i64 0, .slice none 0 0] 34)) = w0 at *
    go_wp2_with fail
    go_at_call 28
    refine (HE.out _ HP0.out.rd).mono ?_
    rintro e v1 ⟨c, rfl, hrep, hr1, hg1⟩
    obtain ⟨ka, kc, aa, ac, tk, tn, ti, th, ta, tl, tc, rfl⟩ := hrep.form
    have HP1 := Lib.hid (HP0.out.call hr1 hg1)
    have HB1 := Lib.hid (HP1.out.mk' [.int .i64 a.k, .int .i64 a.p, .string a.n, .int .i64 a.m, .slice ka a.kids.length kc, .slice aa a.arms.length ac, .int .i64 tk, .string tn, .int .i64 ti, .int .i64 th, .slice ta tl tc])
    have HRp := Lib.hid ((hrep.imp (S' := fun g => w.heap.size < g) (fun _ hg => Nat.lt_of_lt_of_le hsz0 hg)).lift ((Below.refl _ v1).alloc (Nat.le_refl _) (.cells #[.int .i64 a.k, .int .i64 a.p, .string a.n, .int .i64 a.m, .slice ka a.kids.length kc, .slice aa a.arms.length ac, .int .i64 tk, .string tn, .int .i64 ti, .int .i64 th, .slice ta tl tc] 34)))
    clear hrep hr1 hg1 HP0 HP1
    go_upto_region 2 with fail
    generalize (v1.alloc (.cells #[.int .i64 a.k, .int .i64 a.p, .string a.n, .int .i64 a.m, .slice ka a.kids.length kc, .slice aa a.arms.length ac, .int .i64 tk, .string tn, .int .i64 ti, .int .i64 th, .slice ta tl tc] 34)) = v2 at *
    generalize v1.heap.size = R1 at *
    go_wp2_with fail
    go_at_call 84
    refine (HMk1.out _ HB1.out.rd).mono ?_
    rintro e v3 ⟨rfl, hr3, hg3⟩
    have HB3 := Lib.hid (HB1.out.call hr3 hg3)
    have HRp3 := Lib.hid (HB1.out.pb.far HRp.out hg3)
    have hR0 : w.heap.size < v3.heap.size := HB3.out.res.lt
    have HK := Lib.hid (one_newE (S' := fun g => w.heap.size < g) HRp3.out 34 v3.heap.size rfl (fun _ hg => hg) hR0)
    have HB4 := Lib.hid (HB3.out.lift ((Below.refl _ v3).alloc (Nat.le_refl _) (.cells #[.int .i64 a.k, .int .i64 a.p, .string a.n, .int .i64 a.m, .slice ka a.kids.length kc, .slice aa a.arms.length ac, .int .i64 tk, .string tn, .int .i64 ti, .int .i64 th, .slice ta tl tc] 34)))
    clear hr3 hg3 HRp HB1
    obtain ⟨d0, d1, d2, d3, d4, d5, d6, d7, d8, d9, d10⟩ := HB3.out.box.all11
    have HRes := Lib.hid (repE_kids (S := fun g => w.heap.size < g) 11 p ⟨#[]⟩ 0 (Nat.zero_le _) HK.out)
    go_wp2_with (refine wpList_storeC rfl _ _ rfl _ _ _ HB4.out.res rfl rfl HRes.out.size HRes.out.len0 HRes.out.len.2 ?_; intro v8 hB8 hg8 hs8)
    obtain ⟨e0, e1, e2, e3, e4, e5, e6, e7, e8, e9, e10⟩ := hB8.all11
    refine bodyPost_ret (by simp [results, Tryz.results68, go_sem, e0, e1, e2, e3, e4, e5, e6, e7, e8, e9, e10]; try rfl) rfl ?_
    exact ⟨_, rfl, HB4.out.pb.ret HRes.out hbase hg8⟩

/-- What holds when the token is looked at. -/
structure TB (ea : Addr) (w v : World) (b R0 R1 : Nat) (ts : List Tok) (s : St) (c : List Value) : Prop where
  pb : PB ea w v b R0 ts s
  tok : BoxC 76 v R1 c
  h1 : R0 < R1
theorem TB.mk' {ea : Addr} {w v : World} {b R0 : Nat} {ts : List Tok} {s : St} (h : PB ea w v b R0 ts s) (c : List Value) : TB ea w (v.alloc (.cells c.toArray 76)) b R0 v.heap.size ts s c :=
  ⟨h.lift ((Below.refl _ v).alloc (Nat.le_refl _) _), BoxC.made _ v c, h.res.lt⟩
theorem TB.call {ea : Addr} {w v v' : World} {b R0 R1 : Nat} {ts : List Tok} {s s' : St} {c : List Value} (h : TB ea w v b R0 R1 ts s c) (hr : RdY ea v' b ts s') (hg : v.grownBy v' (some b)) : TB ea w v' b R0 R1 ts s' c :=
  ⟨h.pb.call hr hg, h.tok.grown hg (by have := h.pb.hb; have := h.pb.h0; have := h.h1; intro e; have := Option.some.inj e; omega), h.h1⟩
theorem TB.lift {ea : Addr} {w v v' : World} {b R0 R1 : Nat} {ts : List Tok} {s : St} {c : List Value} (h : TB ea w v b R0 R1 ts s c) (hb : Below v.heap.size v v') : TB ea w v' b R0 R1 ts s c := h.call (h.pb.rd.lift hb) (below_grown_some hb b)
theorem TB.cells {ea : Addr} {w v : World} {b R0 R1 : Nat} {ts : List Tok} {s : St} {c0 c1 c2 : Value} (h : TB ea w v b R0 R1 ts s [c0, c1, c2]) : v.cell? ⟨R1, 0, none⟩ = some c0 ∧ v.cell? ⟨R1, 1, none⟩ = some c1 ∧ v.cell? ⟨R1, 2, none⟩ = some c2 := ⟨h.tok.cell 0 _ rfl, h.tok.cell 1 _ rfl, h.tok.cell 2 _ rfl⟩
theorem RepE.imp_lt {w : World} {n R : Nat} {T : Ex} {c : List Value} (h : RepE w (fun g => n ≤ g) T c) (hn : R < n) : RepE w (fun g => R < g) T c := h.imp fun _ hg => Nat.lt_of_lt_of_le hn hg

set_option maxRecDepth 100000 in
set_option maxHeartbeats 3200000 in
theorem yExpr_of (ts : List Tok) (s : St) (f : Nat) (H1 : yM ts s ⟨#[92]⟩ = true → YAt 50 #[] ts s (yFun f ts s)) (H2 : yW ts s ⟨#[108, 101, 116]⟩ = true → YAt 52 #[] ts s (yLoc f ts s)) (H3 : yW ts s ⟨#[99, 97, 115, 101]⟩ = true → YAt 53 #[] ts s (yCas f ts s)) (H4 : YAt 54 #[] ts s (yApp f ts s)) : YAt 28 #[] ts s (yExpr (f + 1) ts s) := by
  intro T j hr ea b base w hbb hbase h
  unfold yExpr at hr
  have HT := Lib.hid (fun (V : World) (h : RdY ea V b ts s) => yTok_any ea b ts s V h)
  have HM : Hid (∀ V, Calls Tryz.prog 49 #[.agg #[.int .i64 (yK ts s), .string (yT ts s), .int .i64 (yP ts s)], .string ⟨#[92]⟩] V fun e w' => e = .returned (.bool (yM ts s ⟨#[92]⟩)) ∧ Below V.heap.size V w') := fun V => xMark_any _ _ _ _ V
  have HW1 : Hid (∀ V, Calls Tryz.prog 51 #[.agg #[.int .i64 (yK ts s), .string (yT ts s), .int .i64 (yP ts s)], .string ⟨#[108, 101, 116]⟩] V fun e w' => e = .returned (.bool (yW ts s ⟨#[108, 101, 116]⟩)) ∧ Below V.heap.size V w') := fun V => xWord_any _ _ _ _ V
  have HW2 : Hid (∀ V, Calls Tryz.prog 51 #[.agg #[.int .i64 (yK ts s), .string (yT ts s), .int .i64 (yP ts s)], .string ⟨#[99, 97, 115, 101]⟩] V fun e w' => e = .returned (.bool (yW ts s ⟨#[99, 97, 115, 101]⟩)) ∧ Below V.heap.size V w') := fun V => xWord_any _ _ _ _ V
  have HR := Lib.hid h
  have HP0 := Lib.hid (PB.start HR.out)
  have hsz0 : w.heap.size < (w.alloc (.cells #[.int .i64 0, .int .i64 0, .string ⟨#[]⟩, .int .i64 0, .slice none 0 0, .slice none 0 0, .int .i64 0, .string ⟨#[]⟩, .int .i64 0, .int .i64 0, .slice none 0 0] 34)).heap.size := by simp
  clear h
  generalize yK ts s = tk at *
  generalize yT ts s = tx at *
  generalize yP ts s = tp at *
  cases hm : yM ts s ⟨#[92]⟩ with
  | true =>
    have HC := Lib.hid (fun (V : World) (h : RdY ea V b ts s) => H1 hm T j (by rw [hm] at hr; simpa using hr) ea b V.heap.size V h.lt (Nat.le_refl _) h)
    rw [hm] at HM
    clear hr H1 H2 H3 H4 hm
    go_enter Tryz.func28, Tryz.ntmps28
    go_upto_region 1 with fail
    generalize (w.alloc (.cells #[.int .i64 0, .int .i64 0, .string ⟨#[]⟩, .int .i64 0, .slice none 0 0, .slice none 0 0, .int .i64 0, .string ⟨#[]⟩, .int .i64 0, .int .i64 0, .slice none 0 0] 34)) = w0 at *
    go_wp2_with fail
    go_at_call 48
    refine (HT.out _ HP0.out.rd).mono ?_
    rintro e w1 ⟨rfl, hb1⟩
    have HB1 := Lib.hid (TB.mk' (HP0.out.lift hb1) [.int .i64 tk, .string tx, .int .i64 tp])
    have hs1 := Nat.lt_of_lt_of_le hsz0 hb1.size
    clear hb1 HP0 hsz0
    go_upto_region 2 with fail
    generalize (w1.alloc (.cells #[.int .i64 tk, .string tx, .int .i64 tp] 76)) = v1 at *
    generalize w1.heap.size = R1 at *
    obtain ⟨k0, k1, k2⟩ := HB1.out.cells
    go_wp2_with fail
    go_at_call 49
    refine (HM.out _).mono ?_
    rintro e v2 ⟨rfl, hb2⟩
    have HB2 := Lib.hid (HB1.out.lift hb2)
    clear hb2 HB1
    clear k0 k1 k2
    go_wp2_with fail
    go_at_call 50
    refine (HC.out _ HB2.out.pb.rd).mono ?_
    rintro e v5 ⟨c, rfl, hrep, hr5, hg5⟩
    have HB5 := Lib.hid (HB2.out.call hr5 hg5)
    have HRp := Lib.hid (hrep.imp_lt HB2.out.pb.res.lt)
    obtain ⟨ka, kc, aa, ac, uk, un, ui, uh, ua, ul, uc, rfl⟩ := hrep.form
    clear hrep hr5 hg5
    go_wp2_with (refine wpList_storeC rfl _ _ rfl _ _ _ HB5.out.pb.res rfl rfl HRp.out.size HRp.out.len0 HRp.out.len.2 ?_; intro v8 hB8 hg8 hs8)
    obtain ⟨e0, e1, e2, e3, e4, e5, e6, e7, e8, e9, e10⟩ := hB8.all11
    refine bodyPost_ret (by simp [results, Tryz.results28, go_sem, e0, e1, e2, e3, e4, e5, e6, e7, e8, e9, e10]; try rfl) rfl ?_
    exact ⟨_, rfl, HB5.out.pb.ret HRp.out hbase hg8⟩
  | false =>
    rw [hm] at HM hr
    simp only [Bool.false_eq_true, if_false] at hr
    cases hw1 : yW ts s ⟨#[108, 101, 116]⟩ with
    | true =>
      have HC := Lib.hid (fun (V : World) (h : RdY ea V b ts s) => H2 hw1 T j (by rw [hw1] at hr; simpa using hr) ea b V.heap.size V h.lt (Nat.le_refl _) h)
      rw [hw1] at HW1
      clear hr H1 H2 H3 H4 hm hw1
      go_enter Tryz.func28, Tryz.ntmps28
      go_upto_region 1 with fail
      generalize (w.alloc (.cells #[.int .i64 0, .int .i64 0, .string ⟨#[]⟩, .int .i64 0, .slice none 0 0, .slice none 0 0, .int .i64 0, .string ⟨#[]⟩, .int .i64 0, .int .i64 0, .slice none 0 0] 34)) = w0 at *
      go_wp2_with fail
      go_at_call 48
      refine (HT.out _ HP0.out.rd).mono ?_
      rintro e w1 ⟨rfl, hb1⟩
      have HB1 := Lib.hid (TB.mk' (HP0.out.lift hb1) [.int .i64 tk, .string tx, .int .i64 tp])
      have hs1 := Nat.lt_of_lt_of_le hsz0 hb1.size
      clear hb1 HP0 hsz0
      go_upto_region 2 with fail
      generalize (w1.alloc (.cells #[.int .i64 tk, .string tx, .int .i64 tp] 76)) = v1 at *
      generalize w1.heap.size = R1 at *
      obtain ⟨k0, k1, k2⟩ := HB1.out.cells
      go_wp2_with fail
      go_at_call 49
      refine (HM.out _).mono ?_
      rintro e v2 ⟨rfl, hb2⟩
      have HB2 := Lib.hid (HB1.out.lift hb2)
      clear hb2 HB1
      clear k0 k1 k2
      obtain ⟨k0, k1, k2⟩ := HB2.out.cells
      go_wp2_with fail
      go_at_call 51
      refine (HW1.out _).mono ?_
      rintro e v3 ⟨rfl, hb2⟩
      have HB2 := Lib.hid (HB2.out.lift hb2)
      clear hb2
      clear k0 k1 k2
      go_wp2_with fail
      go_at_call 52
      refine (HC.out _ HB2.out.pb.rd).mono ?_
      rintro e v5 ⟨c, rfl, hrep, hr5, hg5⟩
      have HB5 := Lib.hid (HB2.out.call hr5 hg5)
      have HRp := Lib.hid (hrep.imp_lt HB2.out.pb.res.lt)
      obtain ⟨ka, kc, aa, ac, uk, un, ui, uh, ua, ul, uc, rfl⟩ := hrep.form
      clear hrep hr5 hg5
      go_wp2_with (refine wpList_storeC rfl _ _ rfl _ _ _ HB5.out.pb.res rfl rfl HRp.out.size HRp.out.len0 HRp.out.len.2 ?_; intro v8 hB8 hg8 hs8)
      obtain ⟨e0, e1, e2, e3, e4, e5, e6, e7, e8, e9, e10⟩ := hB8.all11
      refine bodyPost_ret (by simp [results, Tryz.results28, go_sem, e0, e1, e2, e3, e4, e5, e6, e7, e8, e9, e10]; try rfl) rfl ?_
      exact ⟨_, rfl, HB5.out.pb.ret HRp.out hbase hg8⟩
    | false =>
      rw [hw1] at HW1 hr
      simp only [Bool.false_eq_true, if_false] at hr
      cases hw2 : yW ts s ⟨#[99, 97, 115, 101]⟩ with
      | true =>
        have HC := Lib.hid (fun (V : World) (h : RdY ea V b ts s) => H3 hw2 T j (by rw [hw2] at hr; simpa using hr) ea b V.heap.size V h.lt (Nat.le_refl _) h)
        rw [hw2] at HW2
        clear hr H1 H2 H3 H4 hm hw1 hw2
        go_enter Tryz.func28, Tryz.ntmps28
        go_upto_region 1 with fail
        generalize (w.alloc (.cells #[.int .i64 0, .int .i64 0, .string ⟨#[]⟩, .int .i64 0, .slice none 0 0, .slice none 0 0, .int .i64 0, .string ⟨#[]⟩, .int .i64 0, .int .i64 0, .slice none 0 0] 34)) = w0 at *
        go_wp2_with fail
        go_at_call 48
        refine (HT.out _ HP0.out.rd).mono ?_
        rintro e w1 ⟨rfl, hb1⟩
        have HB1 := Lib.hid (TB.mk' (HP0.out.lift hb1) [.int .i64 tk, .string tx, .int .i64 tp])
        have hs1 := Nat.lt_of_lt_of_le hsz0 hb1.size
        clear hb1 HP0 hsz0
        go_upto_region 2 with fail
        generalize (w1.alloc (.cells #[.int .i64 tk, .string tx, .int .i64 tp] 76)) = v1 at *
        generalize w1.heap.size = R1 at *
        obtain ⟨k0, k1, k2⟩ := HB1.out.cells
        go_wp2_with fail
        go_at_call 49
        refine (HM.out _).mono ?_
        rintro e v2 ⟨rfl, hb2⟩
        have HB2 := Lib.hid (HB1.out.lift hb2)
        clear hb2 HB1
        clear k0 k1 k2
        obtain ⟨k0, k1, k2⟩ := HB2.out.cells
        go_wp2_with fail
        go_at_call 51
        refine (HW1.out _).mono ?_
        rintro e v3 ⟨rfl, hb2⟩
        have HB2 := Lib.hid (HB2.out.lift hb2)
        clear hb2
        clear k0 k1 k2
        obtain ⟨k0, k1, k2⟩ := HB2.out.cells
        go_wp2_with fail
        go_at_call 51
        refine (HW2.out _).mono ?_
        rintro e v3 ⟨rfl, hb2⟩
        have HB2 := Lib.hid (HB2.out.lift hb2)
        clear hb2
        clear k0 k1 k2
        go_wp2_with fail
        go_at_call 53
        refine (HC.out _ HB2.out.pb.rd).mono ?_
        rintro e v5 ⟨c, rfl, hrep, hr5, hg5⟩
        have HB5 := Lib.hid (HB2.out.call hr5 hg5)
        have HRp := Lib.hid (hrep.imp_lt HB2.out.pb.res.lt)
        obtain ⟨ka, kc, aa, ac, uk, un, ui, uh, ua, ul, uc, rfl⟩ := hrep.form
        clear hrep hr5 hg5
        go_wp2_with (refine wpList_storeC rfl _ _ rfl _ _ _ HB5.out.pb.res rfl rfl HRp.out.size HRp.out.len0 HRp.out.len.2 ?_; intro v8 hB8 hg8 hs8)
        obtain ⟨e0, e1, e2, e3, e4, e5, e6, e7, e8, e9, e10⟩ := hB8.all11
        refine bodyPost_ret (by simp [results, Tryz.results28, go_sem, e0, e1, e2, e3, e4, e5, e6, e7, e8, e9, e10]; try rfl) rfl ?_
        exact ⟨_, rfl, HB5.out.pb.ret HRp.out hbase hg8⟩
      | false =>
        have HC := Lib.hid (fun (V : World) (h : RdY ea V b ts s) => H4 T j (by rw [hw2] at hr; simpa using hr) ea b V.heap.size V h.lt (Nat.le_refl _) h)
        rw [hw2] at HW2
        clear hr H1 H2 H3 H4 hm hw1 hw2
        go_enter Tryz.func28, Tryz.ntmps28
        go_upto_region 1 with fail
        generalize (w.alloc (.cells #[.int .i64 0, .int .i64 0, .string ⟨#[]⟩, .int .i64 0, .slice none 0 0, .slice none 0 0, .int .i64 0, .string ⟨#[]⟩, .int .i64 0, .int .i64 0, .slice none 0 0] 34)) = w0 at *
        go_wp2_with fail
        go_at_call 48
        refine (HT.out _ HP0.out.rd).mono ?_
        rintro e w1 ⟨rfl, hb1⟩
        have HB1 := Lib.hid (TB.mk' (HP0.out.lift hb1) [.int .i64 tk, .string tx, .int .i64 tp])
        have hs1 := Nat.lt_of_lt_of_le hsz0 hb1.size
        clear hb1 HP0 hsz0
        go_upto_region 2 with fail
        generalize (w1.alloc (.cells #[.int .i64 tk, .string tx, .int .i64 tp] 76)) = v1 at *
        generalize w1.heap.size = R1 at *
        obtain ⟨k0, k1, k2⟩ := HB1.out.cells
        go_wp2_with fail
        go_at_call 49
        refine (HM.out _).mono ?_
        rintro e v2 ⟨rfl, hb2⟩
        have HB2 := Lib.hid (HB1.out.lift hb2)
        clear hb2 HB1
        clear k0 k1 k2
        obtain ⟨k0, k1, k2⟩ := HB2.out.cells
        go_wp2_with fail
        go_at_call 51
        refine (HW1.out _).mono ?_
        rintro e v3 ⟨rfl, hb2⟩
        have HB2 := Lib.hid (HB2.out.lift hb2)
        clear hb2
        clear k0 k1 k2
        obtain ⟨k0, k1, k2⟩ := HB2.out.cells
        go_wp2_with fail
        go_at_call 51
        refine (HW2.out _).mono ?_
        rintro e v3 ⟨rfl, hb2⟩
        have HB2 := Lib.hid (HB2.out.lift hb2)
        clear hb2
        clear k0 k1 k2
        go_wp2_with fail
        go_at_call 54
        refine (HC.out _ HB2.out.pb.rd).mono ?_
        rintro e v5 ⟨c, rfl, hrep, hr5, hg5⟩
        have HB5 := Lib.hid (HB2.out.call hr5 hg5)
        have HRp := Lib.hid (hrep.imp_lt HB2.out.pb.res.lt)
        obtain ⟨ka, kc, aa, ac, uk, un, ui, uh, ua, ul, uc, rfl⟩ := hrep.form
        clear hrep hr5 hg5
        go_wp2_with (refine wpList_storeC rfl _ _ rfl _ _ _ HB5.out.pb.res rfl rfl HRp.out.size HRp.out.len0 HRp.out.len.2 ?_; intro v8 hB8 hg8 hs8)
        obtain ⟨e0, e1, e2, e3, e4, e5, e6, e7, e8, e9, e10⟩ := hB8.all11
        refine bodyPost_ret (by simp [results, Tryz.results28, go_sem, e0, e1, e2, e3, e4, e5, e6, e7, e8, e9, e10]; try rfl) rfl ?_
        exact ⟨_, rfl, HB5.out.pb.ret HRp.out hbase hg8⟩
end Go.Proofs.YtgcefodgjhlbeaaGreatDoor

/- The package's reader of expressions: an atom. -/
namespace Go.Proofs.YtgcefodgjhlbeaaGreatDoor
open Go.RowKit Go.Maps Mth

/-- Eleven cells that are stored one by one. -/
theorem BoxC.set11 {t : TypeId} {w : World} {B : Nat} {c0 c1 c2 c3 c4 c5 c6 c7 c8 c9 c10 : Value} (h : BoxC t w B [c0, c1, c2, c3, c4, c5, c6, c7, c8, c9, c10]) (v0 v1 v2 v3 v4 v5 v6 v7 v8 v9 v10 : Value) :
    BoxC t (((((((((((w.setCell ⟨B, 0, none⟩ v0).setCell ⟨B, 1, none⟩ v1).setCell ⟨B, 2, none⟩ v2).setCell ⟨B, 3, none⟩ v3).setCell ⟨B, 4, none⟩ v4).setCell ⟨B, 5, none⟩ v5).setCell ⟨B, 6, none⟩ v6).setCell ⟨B, 7, none⟩ v7).setCell ⟨B, 8, none⟩ v8).setCell ⟨B, 9, none⟩ v9).setCell ⟨B, 10, none⟩ v10) B [v0, v1, v2, v3, v4, v5, v6, v7, v8, v9, v10] ∧ w.grownBy (((((((((((w.setCell ⟨B, 0, none⟩ v0).setCell ⟨B, 1, none⟩ v1).setCell ⟨B, 2, none⟩ v2).setCell ⟨B, 3, none⟩ v3).setCell ⟨B, 4, none⟩ v4).setCell ⟨B, 5, none⟩ v5).setCell ⟨B, 6, none⟩ v6).setCell ⟨B, 7, none⟩ v7).setCell ⟨B, 8, none⟩ v8).setCell ⟨B, 9, none⟩ v9).setCell ⟨B, 10, none⟩ v10) (some B) := by
  obtain ⟨a0, g0, -⟩ := h.set 0 v0
  obtain ⟨a1, g1, -⟩ := a0.set 1 v1
  obtain ⟨a2, g2, -⟩ := a1.set 2 v2
  obtain ⟨a3, g3, -⟩ := a2.set 3 v3
  obtain ⟨a4, g4, -⟩ := a3.set 4 v4
  obtain ⟨a5, g5, -⟩ := a4.set 5 v5
  obtain ⟨a6, g6, -⟩ := a5.set 6 v6
  obtain ⟨a7, g7, -⟩ := a6.set 7 v7
  obtain ⟨a8, g8, -⟩ := a7.set 8 v8
  obtain ⟨a9, g9, -⟩ := a8.set 9 v9
  obtain ⟨a10, g10, -⟩ := a9.set 10 v10
  exact ⟨a10, grown_trans (grown_trans (grown_trans (grown_trans (grown_trans (grown_trans (grown_trans (grown_trans (grown_trans (grown_trans g0 g1) g2) g3) g4) g5) g6) g7) g8) g9) g10⟩
theorem BoxC.free11 {t : TypeId} {w : World} {B : Nat} {c : List Value} (h : BoxC t w B c) : w.frozen? ⟨B, 0, none⟩ = false ∧ w.frozen? ⟨B, 1, none⟩ = false ∧ w.frozen? ⟨B, 2, none⟩ = false ∧ w.frozen? ⟨B, 3, none⟩ = false ∧ w.frozen? ⟨B, 4, none⟩ = false ∧ w.frozen? ⟨B, 5, none⟩ = false ∧ w.frozen? ⟨B, 6, none⟩ = false ∧ w.frozen? ⟨B, 7, none⟩ = false ∧ w.frozen? ⟨B, 8, none⟩ = false ∧ w.frozen? ⟨B, 9, none⟩ = false ∧ w.frozen? ⟨B, 10, none⟩ = false :=
  ⟨h.free 0, h.free 1, h.free 2, h.free 3, h.free 4, h.free 5, h.free 6, h.free 7, h.free 8, h.free 9, h.free 10⟩
theorem enterNum (v : Value) (w : World) : (callFunc 66 #[v]).run Tryz.prog w = .ok (.enter 66 #[v]) w := by kernel_rfl
theorem yK3 {ts : List Tok} (hv : TkVal ts) {s : St} (h : yK ts s = 3) : rkind (bl (yT ts s)) = 3 := by
  obtain ⟨hq, hlt⟩ := yK_lt (ts := ts) (s := s) (by rw [h]; decide)
  obtain ⟨i, q, p⟩ := s
  dsimp only at hq hlt
  subst hq
  obtain ⟨t, ht⟩ : ∃ x, ts[i]? = some x := ⟨_, List.getElem?_eq_getElem hlt⟩
  unfold yK tkK at h
  unfold yT txt
  simp only [ht, Bool.false_eq_true, if_false] at h ⊢
  rw [bl_mk, hv t (List.mem_of_getElem? ht), h]
set_option maxRecDepth 100000 in
set_option maxHeartbeats 6400000 in
theorem yAtom_of (ts : List Tok) (hv : TkVal ts) (s : St) (f : Nat) (H1 : ∀ s p, YAt 67 #[.int .i64 p] ts s (yEnc f ts s p)) (H2 : ∀ s p, YAt 68 #[.int .i64 p] ts s (yHeld f ts s p)) : YAt 37 #[] ts s (yAtom (f + 1) ts s) := by
  intro T j hr ea b base w hbb hbase h
  unfold yAtom at hr
  have HT := Lib.hid (fun (V : World) (h : RdY ea V b ts s) => yTok_any ea b ts s V h)
  have HS := Lib.hid (fun (V : World) => xStarts_any (yK ts s) (yT ts s) (yP ts s) V)
  have hsx := yT_size h.ok s
  have HSx := Lib.hid hsx
  clear hsx
  have HR := Lib.hid h
  have HP0 := Lib.hid (PB.start HR.out)
  have hsz0 : w.heap.size < (w.alloc (.cells #[.int .i64 0, .int .i64 0, .string ⟨#[]⟩, .int .i64 0, .slice none 0 0, .slice none 0 0, .int .i64 0, .string ⟨#[]⟩, .int .i64 0, .int .i64 0, .slice none 0 0] 34)).heap.size := by simp
  clear h
  cases hst : stB (yK ts s) (yT ts s) with
  | false =>
    rw [hst] at hr HS
    simp only [Bool.false_eq_true, if_false, Option.some.injEq, Prod.mk.injEq] at hr
    obtain ⟨rfl, rfl⟩ := hr
    have HU := Lib.hid (fun (V : World) (h : RdY ea V b ts s) => yUnexp_any ea b ts s V h)
    clear H1 H2 hst
    generalize xFail ts s = s' at *
    generalize yK ts s = tk at *
    generalize yT ts s = tx at *
    generalize yP ts s = tp at *
    go_enter Tryz.func37, Tryz.ntmps37
    go_upto_region 1 with fail
    generalize (w.alloc (.cells #[.int .i64 0, .int .i64 0, .string ⟨#[]⟩, .int .i64 0, .slice none 0 0, .slice none 0 0, .int .i64 0, .string ⟨#[]⟩, .int .i64 0, .int .i64 0, .slice none 0 0] 34)) = w0 at *
    go_wp2_with fail
    go_at_call 48
    refine (HT.out _ HP0.out.rd).mono ?_
    rintro e w1 ⟨rfl, hb1⟩
    have HB1 := Lib.hid (TB.mk' (HP0.out.lift hb1) [.int .i64 tk, .string tx, .int .i64 tp])
    have hs1 := Nat.lt_of_lt_of_le hsz0 hb1.size
    clear hb1 HP0 hsz0
    go_upto_region 2 with fail
    generalize (w1.alloc (.cells #[.int .i64 tk, .string tx, .int .i64 tp] 76)) = v1 at *
    generalize w1.heap.size = R1 at *
    obtain ⟨k0, k1, k2⟩ := HB1.out.cells
    go_wp2_with fail
    go_at_call 63
    refine (HS.out _).mono ?_
    rintro e v2 ⟨rfl, hb2⟩
    have HB2 := Lib.hid (HB1.out.lift hb2)
    clear hb2 HB1 k0 k1 k2
    go_wp2_with fail
    go_at_call 64
    refine (HU.out _ HB2.out.pb.rd).mono ?_
    rintro e v5 ⟨rfl, hr5, hg5⟩
    have HB5 := Lib.hid (HB2.out.call hr5 hg5)
    have HRp := Lib.hid (repE_zero v5 (fun g => w.heap.size < g))
    unfold zExC at HRp
    clear hr5 hg5
    go_wp2_with (refine wpList_storeC rfl _ _ rfl _ _ _ HB5.out.pb.res rfl rfl HRp.out.size HRp.out.len0 HRp.out.len.2 ?_; intro v8 hB8 hg8 hs8)
    obtain ⟨e0, e1, e2, e3, e4, e5, e6, e7, e8, e9, e10⟩ := hB8.all11
    refine bodyPost_ret (by simp [results, Tryz.results37, go_sem, e0, e1, e2, e3, e4, e5, e6, e7, e8, e9, e10]; try rfl) rfl ?_
    exact ⟨_, rfl, HB5.out.pb.ret HRp.out hbase hg8⟩
  | true =>
    rw [hst] at hr HS
    simp only [if_true] at hr
    obtain ⟨hq, hlt⟩ := stB_lt hst
    have HSk := Lib.hid (fun (V : World) (h : RdY ea V b ts s) => ySkip_any ea b ts s V h hlt)
    have hn3 := fun h : yK ts s = 3 => yK3 hv h
    have HN3 := Lib.hid hn3
    clear hn3 hst
    have HC1 := Lib.hid (H1 (xStep s))
    have HC2 := Lib.hid (H2 (xStep s))
    generalize xStep s = s1 at *
    generalize yK ts s = tk at *
    generalize yT ts s = tx at *
    generalize yP ts s = tp at *
    generalize tkP ts s.i = tq at *
    clear H1 H2
    cases h1 : (tk == 1) with
    | true =>
      rw [h1] at hr
      simp only [if_true, Option.some.injEq, Prod.mk.injEq] at hr
      obtain ⟨rfl, rfl⟩ := hr
      go_enter Tryz.func37, Tryz.ntmps37
      go_upto_region 1 with fail
      generalize (w.alloc (.cells #[.int .i64 0, .int .i64 0, .string ⟨#[]⟩, .int .i64 0, .slice none 0 0, .slice none 0 0, .int .i64 0, .string ⟨#[]⟩, .int .i64 0, .int .i64 0, .slice none 0 0] 34)) = w0 at *
      go_wp2_with fail
      go_at_call 48
      refine (HT.out _ HP0.out.rd).mono ?_
      rintro e w1 ⟨rfl, hb1⟩
      have HB1 := Lib.hid (TB.mk' (HP0.out.lift hb1) [.int .i64 tk, .string tx, .int .i64 tp])
      have hs1 := Nat.lt_of_lt_of_le hsz0 hb1.size
      clear hb1 HP0 hsz0
      go_upto_region 2 with fail
      generalize (w1.alloc (.cells #[.int .i64 tk, .string tx, .int .i64 tp] 76)) = v1 at *
      generalize w1.heap.size = R1 at *
      obtain ⟨k0, k1, k2⟩ := HB1.out.cells
      go_wp2_with fail
      go_at_call 63
      refine (HS.out _).mono ?_
      rintro e v2 ⟨rfl, hb2⟩
      have HB2 := Lib.hid (HB1.out.lift hb2)
      clear hb2 HB1 k0 k1 k2
      go_wp2_with fail
      go_at_call 65
      refine (HSk.out _ HB2.out.pb.rd).mono ?_
      rintro e v5 ⟨rfl, hr5, hg5⟩
      have HB5 := Lib.hid (HB2.out.call hr5 hg5)
      clear hr5 hg5
      obtain ⟨k0, k1, k2⟩ := HB5.out.cells
      have HRp := Lib.hid (repE_leaf v5 (fun g => w.heap.size < g) 1 tp tx 0 HSx.out)
      go_wp2_with (refine wpList_storeC rfl _ _ rfl _ _ _ HB5.out.pb.res rfl rfl HRp.out.size HRp.out.len0 HRp.out.len.2 ?_; intro v8 hB8 hg8 hs8)
      obtain ⟨e0, e1, e2, e3, e4, e5, e6, e7, e8, e9, e10⟩ := hB8.all11
      refine bodyPost_ret (by simp [results, Tryz.results37, go_sem, e0, e1, e2, e3, e4, e5, e6, e7, e8, e9, e10]; try rfl) rfl ?_
      exact ⟨_, rfl, HB5.out.pb.ret HRp.out hbase hg8⟩
    | false =>
      rw [h1] at hr
      simp only [Bool.false_eq_true, if_false] at hr
      cases h2 : (tk == 2) with
      | true =>
        rw [h2] at hr
        simp only [if_true, Option.some.injEq, Prod.mk.injEq] at hr
        obtain ⟨rfl, rfl⟩ := hr
        go_enter Tryz.func37, Tryz.ntmps37
        go_upto_region 1 with fail
        generalize (w.alloc (.cells #[.int .i64 0, .int .i64 0, .string ⟨#[]⟩, .int .i64 0, .slice none 0 0, .slice none 0 0, .int .i64 0, .string ⟨#[]⟩, .int .i64 0, .int .i64 0, .slice none 0 0] 34)) = w0 at *
        go_wp2_with fail
        go_at_call 48
        refine (HT.out _ HP0.out.rd).mono ?_
        rintro e w1 ⟨rfl, hb1⟩
        have HB1 := Lib.hid (TB.mk' (HP0.out.lift hb1) [.int .i64 tk, .string tx, .int .i64 tp])
        have hs1 := Nat.lt_of_lt_of_le hsz0 hb1.size
        clear hb1 HP0 hsz0
        go_upto_region 2 with fail
        generalize (w1.alloc (.cells #[.int .i64 tk, .string tx, .int .i64 tp] 76)) = v1 at *
        generalize w1.heap.size = R1 at *
        obtain ⟨k0, k1, k2⟩ := HB1.out.cells
        go_wp2_with fail
        go_at_call 63
        refine (HS.out _).mono ?_
        rintro e v2 ⟨rfl, hb2⟩
        have HB2 := Lib.hid (HB1.out.lift hb2)
        clear hb2 HB1 k0 k1 k2
        go_wp2_with fail
        go_at_call 65
        refine (HSk.out _ HB2.out.pb.rd).mono ?_
        rintro e v5 ⟨rfl, hr5, hg5⟩
        have HB5 := Lib.hid (HB2.out.call hr5 hg5)
        clear hr5 hg5
        obtain ⟨k0, k1, k2⟩ := HB5.out.cells
        have HRp := Lib.hid (repE_leaf v5 (fun g => w.heap.size < g) 2 tp tx 0 HSx.out)
        go_wp2_with (refine wpList_storeC rfl _ _ rfl _ _ _ HB5.out.pb.res rfl rfl HRp.out.size HRp.out.len0 HRp.out.len.2 ?_; intro v8 hB8 hg8 hs8)
        obtain ⟨e0, e1, e2, e3, e4, e5, e6, e7, e8, e9, e10⟩ := hB8.all11
        refine bodyPost_ret (by simp [results, Tryz.results37, go_sem, e0, e1, e2, e3, e4, e5, e6, e7, e8, e9, e10]; try rfl) rfl ?_
        exact ⟨_, rfl, HB5.out.pb.ret HRp.out hbase hg8⟩
      | false =>
        rw [h2] at hr
        simp only [Bool.false_eq_true, if_false] at hr
        cases h3 : (tk == 3) with
        | true =>
          rw [h3] at hr
          simp only [if_true, Option.some.injEq, Prod.mk.injEq] at hr
          obtain ⟨rfl, rfl⟩ := hr
          have HNu := Lib.hid (fun V : World => yNum_any tx V (HN3.out (by simpa using h3)))
          generalize numB tx = nu at *
          go_enter Tryz.func37, Tryz.ntmps37
          go_upto_region 1 with fail
          generalize (w.alloc (.cells #[.int .i64 0, .int .i64 0, .string ⟨#[]⟩, .int .i64 0, .slice none 0 0, .slice none 0 0, .int .i64 0, .string ⟨#[]⟩, .int .i64 0, .int .i64 0, .slice none 0 0] 34)) = w0 at *
          go_wp2_with fail
          go_at_call 48
          refine (HT.out _ HP0.out.rd).mono ?_
          rintro e w1 ⟨rfl, hb1⟩
          have HB1 := Lib.hid (TB.mk' (HP0.out.lift hb1) [.int .i64 tk, .string tx, .int .i64 tp])
          have hs1 := Nat.lt_of_lt_of_le hsz0 hb1.size
          clear hb1 HP0 hsz0
          go_upto_region 2 with fail
          generalize (w1.alloc (.cells #[.int .i64 tk, .string tx, .int .i64 tp] 76)) = v1 at *
          generalize w1.heap.size = R1 at *
          obtain ⟨k0, k1, k2⟩ := HB1.out.cells
          go_wp2_with fail
          go_at_call 63
          refine (HS.out _).mono ?_
          rintro e v2 ⟨rfl, hb2⟩
          have HB2 := Lib.hid (HB1.out.lift hb2)
          clear hb2 HB1 k0 k1 k2
          go_wp2_with fail
          go_at_call 65
          refine (HSk.out _ HB2.out.pb.rd).mono ?_
          rintro e v5 ⟨rfl, hr5, hg5⟩
          have HB5 := Lib.hid (HB2.out.call hr5 hg5)
          clear hr5 hg5
          obtain ⟨k0, k1, k2⟩ := HB5.out.cells
          have hne : w.heap.size ≠ R1 := Nat.ne_of_lt HB5.out.h1
          go_upto_region 12 with fail
          go_region_law
            (((with_reducible refine step_call1 66 enterNum (.string tx) (fun u w' => u = .int .i64 nu ∧ Below v5.heap.size v5 w') ?_ ?_ ?_); (rfl); (exact (HNu.out _).mono fun e w' h => ⟨_, h.1, rfl, (Below.refl _ v5).drew.trans h.2⟩); (rintro u w6 ⟨rfl, hb⟩); (have HB6 := Lib.hid (HB5.out.lift hb)); (clear hb); (obtain ⟨q0, q1, q2⟩ := HB6.out.cells); (obtain ⟨z0, z1, z2, z3, z4, z5, z6, z7, z8, z9, z10⟩ := HB6.out.pb.res.all11); (obtain ⟨y0, y1, y2, y3, y4, y5, y6, y7, y8, y9, y10⟩ := HB6.out.pb.res.free11)))
          all_goals
            obtain ⟨hB8, hg8⟩ := HB6.out.pb.res.set11 (.int .i64 3) (.int .i64 tp) (.string ⟨#[]⟩) (.int .i64 nu) (.slice none 0 0) (.slice none 0 0) (.int .i64 0) (.string ⟨#[]⟩) (.int .i64 0) (.int .i64 0) (.slice none 0 0)
            have HRp := Lib.hid (repE_leaf w6 (fun g => w.heap.size < g) 3 tp ⟨#[]⟩ nu (Nat.zero_le _))
            generalize (((((((((((w6.setCell ⟨w.heap.size, 0, none⟩ (.int .i64 3)).setCell ⟨w.heap.size, 1, none⟩ (.int .i64 tp)).setCell ⟨w.heap.size, 2, none⟩ (.string ⟨#[]⟩)).setCell ⟨w.heap.size, 3, none⟩ (.int .i64 nu)).setCell ⟨w.heap.size, 4, none⟩ (.slice none 0 0)).setCell ⟨w.heap.size, 5, none⟩ (.slice none 0 0)).setCell ⟨w.heap.size, 6, none⟩ (.int .i64 0)).setCell ⟨w.heap.size, 7, none⟩ (.string ⟨#[]⟩)).setCell ⟨w.heap.size, 8, none⟩ (.int .i64 0)).setCell ⟨w.heap.size, 9, none⟩ (.int .i64 0)).setCell ⟨w.heap.size, 10, none⟩ (.slice none 0 0)) = v8 at *
            clear k0 k1 k2 q0 q1 q2 z0 z1 z2 z3 z4 z5 z6 z7 z8 z9 z10 y0 y1 y2 y3 y4 y5 y6 y7 y8 y9 y10
            obtain ⟨e0, e1, e2, e3, e4, e5, e6, e7, e8, e9, e10⟩ := hB8.all11
            go_wp2
            refine bodyPost_ret (by simp [results, Tryz.results37, go_sem, e0, e1, e2, e3, e4, e5, e6, e7, e8, e9, e10]; try rfl) rfl ?_
            exact ⟨_, rfl, HB6.out.pb.ret HRp.out hbase hg8⟩
        | false =>
          rw [h3] at hr
          simp only [Bool.false_eq_true, if_false] at hr
          cases h4 : (tx.toList == (⟨#[40]⟩ : ByteArray).toList) with
          | true =>
            rw [h4] at hr
            have HC := Lib.hid (fun (V : World) (h : RdY ea V b ts s1) => HC1.out tp T j (by simpa using hr) ea b V.heap.size V h.lt (Nat.le_refl _) h)
            rw [show (⟨#[40]⟩ : ByteArray).toList = [40] from by decide +kernel] at h4
            clear hr HC1 HC2
            go_enter Tryz.func37, Tryz.ntmps37
            go_upto_region 1 with fail
            generalize (w.alloc (.cells #[.int .i64 0, .int .i64 0, .string ⟨#[]⟩, .int .i64 0, .slice none 0 0, .slice none 0 0, .int .i64 0, .string ⟨#[]⟩, .int .i64 0, .int .i64 0, .slice none 0 0] 34)) = w0 at *
            go_wp2_with fail
            go_at_call 48
            refine (HT.out _ HP0.out.rd).mono ?_
            rintro e w1 ⟨rfl, hb1⟩
            have HB1 := Lib.hid (TB.mk' (HP0.out.lift hb1) [.int .i64 tk, .string tx, .int .i64 tp])
            have hs1 := Nat.lt_of_lt_of_le hsz0 hb1.size
            clear hb1 HP0 hsz0
            go_upto_region 2 with fail
            generalize (w1.alloc (.cells #[.int .i64 tk, .string tx, .int .i64 tp] 76)) = v1 at *
            generalize w1.heap.size = R1 at *
            obtain ⟨k0, k1, k2⟩ := HB1.out.cells
            go_wp2_with fail
            go_at_call 63
            refine (HS.out _).mono ?_
            rintro e v2 ⟨rfl, hb2⟩
            have HB2 := Lib.hid (HB1.out.lift hb2)
            clear hb2 HB1 k0 k1 k2
            go_wp2_with fail
            go_at_call 65
            refine (HSk.out _ HB2.out.pb.rd).mono ?_
            rintro e v5 ⟨rfl, hr5, hg5⟩
            have HB5 := Lib.hid (HB2.out.call hr5 hg5)
            clear hr5 hg5
            obtain ⟨k0, k1, k2⟩ := HB5.out.cells
            have HB2 := HB5
            go_wp2_with fail
            go_at_call 67
            refine (HC.out _ HB2.out.pb.rd).mono ?_
            rintro e v5 ⟨c, rfl, hrep, hr5, hg5⟩
            have HB5 := Lib.hid (HB2.out.call hr5 hg5)
            have HRp := Lib.hid (hrep.imp_lt HB2.out.pb.res.lt)
            obtain ⟨ka, kc, aa, ac, uk, un, ui, uh, ua, ul, uc, rfl⟩ := hrep.form
            clear hrep hr5 hg5
            go_wp2_with (refine wpList_storeC rfl _ _ rfl _ _ _ HB5.out.pb.res rfl rfl HRp.out.size HRp.out.len0 HRp.out.len.2 ?_; intro v8 hB8 hg8 hs8)
            obtain ⟨e0, e1, e2, e3, e4, e5, e6, e7, e8, e9, e10⟩ := hB8.all11
            refine bodyPost_ret (by simp [results, Tryz.results37, go_sem, e0, e1, e2, e3, e4, e5, e6, e7, e8, e9, e10]; try rfl) rfl ?_
            exact ⟨_, rfl, HB5.out.pb.ret HRp.out hbase hg8⟩
          | false =>
            rw [h4] at hr
            simp only [Bool.false_eq_true, if_false] at hr
            rw [show (⟨#[40]⟩ : ByteArray).toList = [40] from by decide +kernel] at h4
            cases h5 : (tx.toList == (⟨#[123]⟩ : ByteArray).toList) with
            | true =>
              rw [h5] at hr
              have HC := Lib.hid (fun (V : World) (h : RdY ea V b ts s1) => HC2.out tp T j (by simpa using hr) ea b V.heap.size V h.lt (Nat.le_refl _) h)
              rw [show (⟨#[123]⟩ : ByteArray).toList = [123] from by decide +kernel] at h5
              clear hr HC1 HC2
              go_enter Tryz.func37, Tryz.ntmps37
              go_upto_region 1 with fail
              generalize (w.alloc (.cells #[.int .i64 0, .int .i64 0, .string ⟨#[]⟩, .int .i64 0, .slice none 0 0, .slice none 0 0, .int .i64 0, .string ⟨#[]⟩, .int .i64 0, .int .i64 0, .slice none 0 0] 34)) = w0 at *
              go_wp2_with fail
              go_at_call 48
              refine (HT.out _ HP0.out.rd).mono ?_
              rintro e w1 ⟨rfl, hb1⟩
              have HB1 := Lib.hid (TB.mk' (HP0.out.lift hb1) [.int .i64 tk, .string tx, .int .i64 tp])
              have hs1 := Nat.lt_of_lt_of_le hsz0 hb1.size
              clear hb1 HP0 hsz0
              go_upto_region 2 with fail
              generalize (w1.alloc (.cells #[.int .i64 tk, .string tx, .int .i64 tp] 76)) = v1 at *
              generalize w1.heap.size = R1 at *
              obtain ⟨k0, k1, k2⟩ := HB1.out.cells
              go_wp2_with fail
              go_at_call 63
              refine (HS.out _).mono ?_
              rintro e v2 ⟨rfl, hb2⟩
              have HB2 := Lib.hid (HB1.out.lift hb2)
              clear hb2 HB1 k0 k1 k2
              go_wp2_with fail
              go_at_call 65
              refine (HSk.out _ HB2.out.pb.rd).mono ?_
              rintro e v5 ⟨rfl, hr5, hg5⟩
              have HB5 := Lib.hid (HB2.out.call hr5 hg5)
              clear hr5 hg5
              obtain ⟨k0, k1, k2⟩ := HB5.out.cells
              have HB2 := HB5
              go_wp2_with fail
              go_at_call 68
              refine (HC.out _ HB2.out.pb.rd).mono ?_
              rintro e v5 ⟨c, rfl, hrep, hr5, hg5⟩
              have HB5 := Lib.hid (HB2.out.call hr5 hg5)
              have HRp := Lib.hid (hrep.imp_lt HB2.out.pb.res.lt)
              obtain ⟨ka, kc, aa, ac, uk, un, ui, uh, ua, ul, uc, rfl⟩ := hrep.form
              clear hrep hr5 hg5
              go_wp2_with (refine wpList_storeC rfl _ _ rfl _ _ _ HB5.out.pb.res rfl rfl HRp.out.size HRp.out.len0 HRp.out.len.2 ?_; intro v8 hB8 hg8 hs8)
              obtain ⟨e0, e1, e2, e3, e4, e5, e6, e7, e8, e9, e10⟩ := hB8.all11
              refine bodyPost_ret (by simp [results, Tryz.results37, go_sem, e0, e1, e2, e3, e4, e5, e6, e7, e8, e9, e10]; try rfl) rfl ?_
              exact ⟨_, rfl, HB5.out.pb.ret HRp.out hbase hg8⟩
            | false =>
              rw [h5] at hr
              simp only [Bool.false_eq_true, if_false, Option.some.injEq, Prod.mk.injEq] at hr
              rw [show (⟨#[123]⟩ : ByteArray).toList = [123] from by decide +kernel] at h5
              obtain ⟨rfl, rfl⟩ := hr
              go_enter Tryz.func37, Tryz.ntmps37
              go_upto_region 1 with fail
              generalize (w.alloc (.cells #[.int .i64 0, .int .i64 0, .string ⟨#[]⟩, .int .i64 0, .slice none 0 0, .slice none 0 0, .int .i64 0, .string ⟨#[]⟩, .int .i64 0, .int .i64 0, .slice none 0 0] 34)) = w0 at *
              go_wp2_with fail
              go_at_call 48
              refine (HT.out _ HP0.out.rd).mono ?_
              rintro e w1 ⟨rfl, hb1⟩
              have HB1 := Lib.hid (TB.mk' (HP0.out.lift hb1) [.int .i64 tk, .string tx, .int .i64 tp])
              have hs1 := Nat.lt_of_lt_of_le hsz0 hb1.size
              clear hb1 HP0 hsz0
              go_upto_region 2 with fail
              generalize (w1.alloc (.cells #[.int .i64 tk, .string tx, .int .i64 tp] 76)) = v1 at *
              generalize w1.heap.size = R1 at *
              obtain ⟨k0, k1, k2⟩ := HB1.out.cells
              go_wp2_with fail
              go_at_call 63
              refine (HS.out _).mono ?_
              rintro e v2 ⟨rfl, hb2⟩
              have HB2 := Lib.hid (HB1.out.lift hb2)
              clear hb2 HB1 k0 k1 k2
              go_wp2_with fail
              go_at_call 65
              refine (HSk.out _ HB2.out.pb.rd).mono ?_
              rintro e v5 ⟨rfl, hr5, hg5⟩
              have HB5 := Lib.hid (HB2.out.call hr5 hg5)
              clear hr5 hg5
              obtain ⟨k0, k1, k2⟩ := HB5.out.cells
              have HRp := Lib.hid (repE_leaf v5 (fun g => w.heap.size < g) 10 tp ⟨#[]⟩ 0 (Nat.zero_le _))
              go_wp2_with (refine wpList_storeC rfl _ _ rfl _ _ _ HB5.out.pb.res rfl rfl HRp.out.size HRp.out.len0 HRp.out.len.2 ?_; intro v8 hB8 hg8 hs8)
              obtain ⟨e0, e1, e2, e3, e4, e5, e6, e7, e8, e9, e10⟩ := hB8.all11
              refine bodyPost_ret (by simp [results, Tryz.results37, go_sem, e0, e1, e2, e3, e4, e5, e6, e7, e8, e9, e10]; try rfl) rfl ?_
              exact ⟨_, rfl, HB5.out.pb.ret HRp.out hbase hg8⟩
end Go.Proofs.YtgcefodgjhlbeaaGreatDoor

/- The package's reader of expressions: a let. -/
namespace Go.Proofs.YtgcefodgjhlbeaaGreatDoor
open Go.RowKit Go.Maps Mth

/-- What holds while the second expression is read. -/
structure VB (ea : Addr) (w v : World) (b R0 R1 R2 : Nat) (ts : List Tok) (s : St) (c : List Value) (a : Ex) (d : List Value) : Prop where
  eb : EB ea w v b R0 R1 ts s c
  val : BoxC 34 v R2 d
  rep : RepE v (fun g => R1 < g) a d
  h2 : R1 < R2
theorem VB.call {ea : Addr} {w v v' : World} {b R0 R1 R2 : Nat} {ts : List Tok} {s s' : St} {c : List Value} {a : Ex} {d : List Value} (h : VB ea w v b R0 R1 R2 ts s c a d) (hr : RdY ea v' b ts s') (hg : v.grownBy v' (some b)) : VB ea w v' b R0 R1 R2 ts s' c a d := by
  have h0 := h.eb.h0
  have h1 := h.eb.h1
  have hb := h.eb.hb
  have h2 := h.h2
  exact ⟨h.eb.call hr hg, h.val.grown hg (by intro e; have := Option.some.inj e; omega), h.rep.kept (fun _ h => h) (fun g hg' hl => hg.block g hl (by intro e; have := Option.some.inj e; omega)), h2⟩
theorem VB.mk' {ea : Addr} {w v : World} {b R0 R1 : Nat} {ts : List Tok} {s : St} {c : List Value} {a : Ex} {d : List Value} (h : EB ea w v b R0 R1 ts s c) (hr : RepE v (fun g => R1 < g) a d) : VB ea w (v.alloc (.cells d.toArray 34)) b R0 R1 v.heap.size ts s c a d := by
  have hb : Below v.heap.size v (v.alloc (.cells d.toArray 34)) := (Below.refl _ v).alloc (Nat.le_refl _) _
  exact ⟨h.lift hb, BoxC.made _ v d, hr.lift hb, h.lt⟩
/-- The kids are stored. -/
theorem VB.two {ea : Addr} {w v : World} {b R0 R1 R2 : Nat} {ts : List Tok} {s : St} {c : List Value} {a : Ex} {d : List Value} (h : VB ea w v b R0 R1 R2 ts s c a d) {u : Ex} {k : List Value} (hu : RepE v (fun g => R1 < g) u k) (Z : TypeId) :
    EB ea w ((v.setCell ⟨R1, 4, none⟩ (.slice (some ⟨v.heap.size, 0, none⟩) 2 2)).alloc (.cells (d ++ k).toArray Z)) b R0 R1 ts s (c.set 4 (.slice (some ⟨v.heap.size, 0, none⟩) 2 2)) ∧
    SlG ExE ((v.setCell ⟨R1, 4, none⟩ (.slice (some ⟨v.heap.size, 0, none⟩) 2 2)).alloc (.cells (d ++ k).toArray Z)) (fun g => R1 < g) [a, u] (.slice (some ⟨v.heap.size, 0, none⟩) 2 2) := by
  obtain ⟨-, hg, hs⟩ := h.eb.box.set 4 (.slice (some ⟨v.heap.size, 0, none⟩) 2 2)
  have hlt := h.eb.lt
  refine ⟨(h.eb.set 4 _).lift ((Below.refl _ _).alloc (Nat.le_refl _) _), two_newE (S := fun g => R1 < g) ?_ ?_ Z _ hs.symm (fun _ h => h) hlt⟩
  · exact h.rep.kept (fun _ h => h) (fun g h1 h2 => hg.block g h2 (by intro e; have := Option.some.inj e; omega))
  · exact hu.kept (fun _ h => h) (fun g h1 h2 => hg.block g h2 (by intro e; have := Option.some.inj e; omega))
theorem enterExpr (v : Value) (w : World) : (callFunc 28 #[v]).run Tryz.prog w = .ok (.enter 28 #[v]) w := by kernel_rfl

set_option maxRecDepth 100000 in
set_option maxHeartbeats 6400000 in
theorem yLoc_of (ts : List Tok) (s : St) (f : Nat) (hs : s.i < ts.length) (H : ∀ s, YAt 28 #[] ts s (yExpr f ts s)) : YAt 52 #[] ts s (yLoc (f + 2) ts s) := by
  intro T j hr ea b base w hbb hbase h
  have hok := h.ok
  unfold yLoc yLoc2 at hr
  have HSk := Lib.hid (fun (V : World) (h : RdY ea V b ts s) => ySkip_any ea b ts s V h hs)
  have HT := Lib.hid (fun (V : World) (h : RdY ea V b ts (xStep s)) => yTok_any ea b ts (xStep s) V h)
  have HW : Hid (∀ V, Calls Tryz.prog 51 #[.agg #[.int .i64 (yK ts (xStep s)), .string (yT ts (xStep s)), .int .i64 (yP ts (xStep s))], .string ⟨#[114, 101, 99]⟩] V fun e w' => e = .returned (.bool (yW ts (xStep s) ⟨#[114, 101, 99]⟩)) ∧ Below V.heap.size V w') := fun V => xWord_any _ _ _ _ V
  have HSk2 := Lib.hid (fun (hq : yW ts (xStep s) ⟨#[114, 101, 99]⟩ = true) (V : World) (h : RdY ea V b ts (xStep s)) => ySkip_any ea b ts (xStep s) V h (yW_lt hq).2)
  have HR := Lib.hid h
  have HP0 := Lib.hid (PB.start HR.out)
  clear h
  generalize yP ts (xStep s) = tp1 at *
  cases hq : yW ts (xStep s) ⟨#[114, 101, 99]⟩ with
  | true =>
    rw [hq] at hr HW
    have HSk3 := Lib.hid (HSk2.out hq)
    simp only [if_true] at hr
    clear HSk2 hq
    generalize yK ts (xStep s) = tk1 at *
    generalize yT ts (xStep s) = tx1 at *
    generalize tkP ts (xStep s).i = p1 at *
    generalize xStep (xStep s) = s2 at *
    generalize xStep s = s1 at *
    generalize tkP ts s.i = p at *
    have HNs := Lib.hid (yT_size hok s2)
    have HNm := Lib.hid (fun (V : World) (h : RdY ea V b ts s2) => yName_any 1 (by decide) ea b ts s2 V h)
    have HMk := Lib.hid (fun (s : St) (V : World) (h : RdY ea V b ts s) => yMark_any ⟨#[61]⟩ ea b ts s V h)
    have HIn := Lib.hid (fun (s : St) (V : World) (h : RdY ea V b ts s) => yWord_any ⟨#[105, 110]⟩ ea b ts s V h)
    generalize yT ts s2 = nm at *
    generalize yExp ts s2 (yK ts s2 == 1) = s3 at *
    have HMk3 := Lib.hid (HMk.out s3)
    generalize yExp ts s3 (yM ts s3 ⟨#[61]⟩) = s4 at *
    cases hE : yExpr f ts s4 with
    | none => rw [hE] at hr; simp at hr
    | some q5 =>
    obtain ⟨a, s5⟩ := q5
    rw [hE] at hr
    simp only at hr
    have HIn5 := Lib.hid (HIn.out s5)
    generalize yExp ts s5 (yW ts s5 ⟨#[105, 110]⟩) = s6 at *
    cases hE2 : yExpr f ts s6 with
    | none => rw [hE2] at hr; simp at hr
    | some q6 =>
    obtain ⟨u, s7⟩ := q6
    rw [hE2] at hr
    simp only [Option.some.injEq, Prod.mk.injEq] at hr
    obtain ⟨rfl, rfl⟩ := hr
    have HE := Lib.hid (fun (V : World) (h : RdY ea V b ts s4) => H s4 a s5 hE ea b V.heap.size V h.lt (Nat.le_refl _) h)
    have HE2 := Lib.hid (fun (V : World) (h : RdY ea V b ts s6) => H s6 u s7 hE2 ea b V.heap.size V h.lt (Nat.le_refl _) h)
    clear H hE hE2 HMk HIn
    go_enter Tryz.func52, Tryz.ntmps52
    go_upto_region 1 with fail
    generalize (w.alloc (.cells #[.int .i64 0, .int .i64 0, .string ⟨#[]⟩, .int .i64 0, .slice none 0 0, .slice none 0 0, .int .i64 0, .string ⟨#[]⟩, .int .i64 0, .int .i64 0, .slice none 0 0] 34)) = w0 at *
    go_wp2_with fail
    go_at_call 65
    refine (HSk.out _ HP0.out.rd).mono ?_
    rintro e w1 ⟨rfl, hr1, hg1⟩
    have HB1 := Lib.hid ((HP0.out.call hr1 hg1).mk' [.int .i64 6, .int .i64 p, .string ⟨#[]⟩, .int .i64 0, .slice none 0 0, .slice none 0 0, .int .i64 0, .string ⟨#[]⟩, .int .i64 0, .int .i64 0, .slice none 0 0])
    clear hr1 hg1 HP0
    go_upto_region 2 with fail
    generalize (w1.alloc (.cells #[.int .i64 6, .int .i64 p, .string ⟨#[]⟩, .int .i64 0, .slice none 0 0, .slice none 0 0, .int .i64 0, .string ⟨#[]⟩, .int .i64 0, .int .i64 0, .slice none 0 0] 34)) = v1 at *
    generalize w1.heap.size = R1 at *
    go_wp2_with fail
    go_at_call 48
    refine (HT.out _ HB1.out.rd).mono ?_
    rintro e v2 ⟨rfl, hb2⟩
    have HB2 := Lib.hid (HB1.out.lift hb2)
    clear hb2 HB1
    go_wp2_with fail
    go_at_call 51
    refine (HW.out _).mono ?_
    rintro e v3 ⟨rfl, hb3⟩
    have HB3 := Lib.hid (HB2.out.lift hb3)
    clear hb3 HB2
    go_wp2_with fail
    go_at_call 65
    refine (HSk3.out _ HB3.out.rd).mono ?_
    rintro e v4 ⟨rfl, hr4, hg4⟩
    have HB4 := Lib.hid (HB3.out.call hr4 hg4)
    clear hr4 hg4 HB3
    have c0 := HB4.out.box.cell 0 _ rfl
    have f0 := HB4.out.box.free 0
    have HB5 := Lib.hid (HB4.out.set 0 (.int .i64 7))
    go_upto_region 5 with fail
    generalize v4.setCell ⟨R1, 0, none⟩ (.int .i64 7) = v5 at *
    clear c0 f0 HB4
    go_wp2_with fail
    go_at_call 83
    refine (HNm.out _ HB5.out.rd).mono ?_
    rintro e v6 ⟨rfl, hr6, hg6⟩
    have HB6 := Lib.hid (HB5.out.call hr6 hg6)
    have HB7 := Lib.hid (HB6.out.set 2 (.string nm))
    have c2 := HB6.out.box.cell 2 _ rfl
    have f2 := HB6.out.box.free 2
    clear hr6 hg6 HB5
    go_upto_region 6 with fail
    generalize v6.setCell ⟨R1, 2, none⟩ (.string nm) = v7 at *
    clear c2 f2 HB6
    go_wp2_with fail
    go_at_call 84
    refine (HMk3.out _ HB7.out.rd).mono ?_
    rintro e v8 ⟨rfl, hr8, hg8⟩
    have HB8 := Lib.hid (HB7.out.call hr8 hg8)
    clear hr8 hg8 HB7
    go_wp2_with fail
    go_at_call 28
    refine (HE.out _ HB8.out.rd).mono ?_
    rintro e v9 ⟨c, rfl, hrep, hr9, hg9⟩
    obtain ⟨ka, kc, aa, ac, tk, tn, ti, th, ta, tl, tc, rfl⟩ := hrep.form
    have HB9 := Lib.hid (VB.mk' (HB8.out.call hr9 hg9) (hrep.imp_lt HB8.out.lt))
    clear hrep hr9 hg9 HB8
    go_upto_region 8 with fail
    generalize (v9.alloc (.cells #[.int .i64 a.k, .int .i64 a.p, .string a.n, .int .i64 a.m, .slice ka a.kids.length kc, .slice aa a.arms.length ac, .int .i64 tk, .string tn, .int .i64 ti, .int .i64 th, .slice ta tl tc] 34)) = v10 at *
    generalize v9.heap.size = R2 at *
    go_wp2_with fail
    go_at_call 85
    refine (HIn5.out _ HB9.out.eb.rd).mono ?_
    rintro e v11 ⟨rfl, hr11, hg11⟩
    have HB11 := Lib.hid ((HB9.out.call hr11 hg11).call ((HB9.out.call hr11 hg11).eb.rd.lift (Below.refl _ _).drew) (below_grown_some (Below.refl _ _).drew b))
    clear hr11 hg11 HB9
    obtain ⟨y0, y1, y2, y3, y4, y5, y6, y7, y8, y9, y10⟩ := HB11.out.val.all11
    have hR2 : R1 ≠ R2 := Nat.ne_of_lt HB11.out.h2
    go_upto_region 9 with fail
    go_region_law
      (((with_reducible refine step_call1 28 enterExpr (.pointer (some ⟨b, 0, none⟩)) (fun r w' => ∃ c, r = .agg (List.toArray c) ∧ RepE w' (fun g => R1 < g) u c ∧ VB ea w w' b w.heap.size R1 R2 ts s7 [.int .i64 7, .int .i64 p, .string nm, .int .i64 0, .slice none 0 0, .slice none 0 0, .int .i64 0, .string ⟨#[]⟩, .int .i64 0, .int .i64 0, .slice none 0 0] a [.int .i64 a.k, .int .i64 a.p, .string a.n, .int .i64 a.m, .slice ka a.kids.length kc, .slice aa a.arms.length ac, .int .i64 tk, .string tn, .int .i64 ti, .int .i64 th, .slice ta tl tc]) ?_ ?_ ?_); (rfl); (exact (HE2.out _ HB11.out.eb.rd).mono fun e w' h => by obtain ⟨c, h1, h2, h3, h4⟩ := h; exact ⟨_, h1, c, rfl, h2.imp_lt HB11.out.eb.lt, HB11.out.call h3 h4⟩); (rintro r w6 ⟨c, rfl, hrep, hv⟩); (obtain ⟨ka2, kc2, aa2, ac2, tk2, tn2, ti2, th2, ta2, tl2, tc2, rfl⟩ := hrep.form); (have HRp := Lib.hid hrep); (have HV := Lib.hid hv); (clear hrep hv); (obtain ⟨x0, x1, x2, x3, x4, x5, x6, x7, x8, x9, x10⟩ := HV.out.val.all11); (have z4 := HV.out.eb.box.cell 4 _ rfl); (have f4 := HV.out.eb.box.free 4); (have hlt6 := HV.out.eb.lt)))
    all_goals
      obtain ⟨v7, hv7⟩ : ∃ v7, v7 = (w6.setCell ⟨R1, 4, none⟩ (.slice (some ⟨w6.heap.size, 0, none⟩) 2 2)).alloc (.cells #[.int .i64 a.k, .int .i64 a.p, .string a.n, .int .i64 a.m, .slice ka a.kids.length kc, .slice aa a.arms.length ac, .int .i64 tk, .string tn, .int .i64 ti, .int .i64 th, .slice ta tl tc, .int .i64 u.k, .int .i64 u.p, .string u.n, .int .i64 u.m, .slice ka2 u.kids.length kc2, .slice aa2 u.arms.length ac2, .int .i64 tk2, .string tn2, .int .i64 ti2, .int .i64 th2, .slice ta2 tl2 tc2] 34) := ⟨_, rfl⟩
      have HB7 : Hid (EB ea w v7 b w.heap.size R1 ts s7 [.int .i64 7, .int .i64 p, .string nm, .int .i64 0, .slice (some ⟨w6.heap.size, 0, none⟩) 2 2, .slice none 0 0, .int .i64 0, .string ⟨#[]⟩, .int .i64 0, .int .i64 0, .slice none 0 0]) := by rw [hv7]; exact (HV.out.two HRp.out 34).1
      have HK7 : Hid (SlG ExE v7 (fun g => R1 < g) [a, u] (.slice (some ⟨w6.heap.size, 0, none⟩) 2 2)) := by rw [hv7]; exact (HV.out.two HRp.out 34).2
      have HRes := Lib.hid (repE_kids (S := fun g => R1 < g) 7 p nm 0 HNs.out HK7.out)
      clear x0 x1 x2 x3 x4 x5 x6 x7 x8 x9 x10 y0 y1 y2 y3 y4 y5 y6 y7 y8 y9 y10 z4 f4
      go_upto_region 10 with fail
      rw [← hv7]
      clear hv7
      generalize w6.heap.size = n6 at *
      obtain ⟨d0, d1, d2, d3, d4, d5, d6, d7, d8, d9, d10⟩ := HB7.out.box.all11
      go_wp2_with (refine wpList_storeC rfl _ _ rfl _ _ _ HB7.out.res rfl rfl HRes.out.size HRes.out.len0 HRes.out.len.2 ?_; intro v8 hB8 hg8 hs8)
      obtain ⟨e0, e1, e2, e3, e4, e5, e6, e7, e8, e9, e10⟩ := hB8.all11
      refine bodyPost_ret (by simp [results, Tryz.results52, go_sem, e0, e1, e2, e3, e4, e5, e6, e7, e8, e9, e10]; try rfl) rfl ?_
      exact ⟨_, rfl, HB7.out.ret HRes.out hbase hg8⟩
  | false =>
    rw [hq] at hr HW
    simp only [Bool.false_eq_true, if_false] at hr
    clear HSk2 hq
    generalize hyK : yK ts (xStep s) = tk1 at HW HT
    generalize hyT : yT ts (xStep s) = tx1 at HW HT
    clear hyK hyT
    generalize xStep s = s2 at *
    generalize tkP ts s.i = p at *
    have HNs := Lib.hid (yT_size hok s2)
    have HNm := Lib.hid (fun (V : World) (h : RdY ea V b ts s2) => yName_any 1 (by decide) ea b ts s2 V h)
    have HMk := Lib.hid (fun (s : St) (V : World) (h : RdY ea V b ts s) => yMark_any ⟨#[61]⟩ ea b ts s V h)
    have HIn := Lib.hid (fun (s : St) (V : World) (h : RdY ea V b ts s) => yWord_any ⟨#[105, 110]⟩ ea b ts s V h)
    generalize yT ts s2 = nm at *
    generalize yExp ts s2 (yK ts s2 == 1) = s3 at *
    have HMk3 := Lib.hid (HMk.out s3)
    generalize yExp ts s3 (yM ts s3 ⟨#[61]⟩) = s4 at *
    cases hE : yExpr f ts s4 with
    | none => rw [hE] at hr; simp at hr
    | some q5 =>
    obtain ⟨a, s5⟩ := q5
    rw [hE] at hr
    simp only at hr
    have HIn5 := Lib.hid (HIn.out s5)
    generalize yExp ts s5 (yW ts s5 ⟨#[105, 110]⟩) = s6 at *
    cases hE2 : yExpr f ts s6 with
    | none => rw [hE2] at hr; simp at hr
    | some q6 =>
    obtain ⟨u, s7⟩ := q6
    rw [hE2] at hr
    simp only [Option.some.injEq, Prod.mk.injEq] at hr
    obtain ⟨rfl, rfl⟩ := hr
    have HE := Lib.hid (fun (V : World) (h : RdY ea V b ts s4) => H s4 a s5 hE ea b V.heap.size V h.lt (Nat.le_refl _) h)
    have HE2 := Lib.hid (fun (V : World) (h : RdY ea V b ts s6) => H s6 u s7 hE2 ea b V.heap.size V h.lt (Nat.le_refl _) h)
    clear H hE hE2 HMk HIn
    go_enter Tryz.func52, Tryz.ntmps52
    go_upto_region 1 with fail
    generalize (w.alloc (.cells #[.int .i64 0, .int .i64 0, .string ⟨#[]⟩, .int .i64 0, .slice none 0 0, .slice none 0 0, .int .i64 0, .string ⟨#[]⟩, .int .i64 0, .int .i64 0, .slice none 0 0] 34)) = w0 at *
    go_wp2_with fail
    go_at_call 65
    refine (HSk.out _ HP0.out.rd).mono ?_
    rintro e w1 ⟨rfl, hr1, hg1⟩
    have HB1 := Lib.hid ((HP0.out.call hr1 hg1).mk' [.int .i64 6, .int .i64 p, .string ⟨#[]⟩, .int .i64 0, .slice none 0 0, .slice none 0 0, .int .i64 0, .string ⟨#[]⟩, .int .i64 0, .int .i64 0, .slice none 0 0])
    clear hr1 hg1 HP0
    go_upto_region 2 with fail
    generalize (w1.alloc (.cells #[.int .i64 6, .int .i64 p, .string ⟨#[]⟩, .int .i64 0, .slice none 0 0, .slice none 0 0, .int .i64 0, .string ⟨#[]⟩, .int .i64 0, .int .i64 0, .slice none 0 0] 34)) = v1 at *
    generalize w1.heap.size = R1 at *
    go_wp2_with fail
    go_at_call 48
    refine (HT.out _ HB1.out.rd).mono ?_
    rintro e v2 ⟨rfl, hb2⟩
    have HB2 := Lib.hid (HB1.out.lift hb2)
    clear hb2 HB1
    go_wp2_with fail
    go_at_call 51
    refine (HW.out _).mono ?_
    rintro e v5 ⟨rfl, hb3⟩
    have HB5 := Lib.hid (HB2.out.lift hb3)
    clear hb3 HB2
    go_wp2_with fail
    go_at_call 83
    refine (HNm.out _ HB5.out.rd).mono ?_
    rintro e v6 ⟨rfl, hr6, hg6⟩
    have HB6 := Lib.hid (HB5.out.call hr6 hg6)
    have HB7 := Lib.hid (HB6.out.set 2 (.string nm))
    have c2 := HB6.out.box.cell 2 _ rfl
    have f2 := HB6.out.box.free 2
    clear hr6 hg6 HB5
    go_upto_region 6 with fail
    generalize v6.setCell ⟨R1, 2, none⟩ (.string nm) = v7 at *
    clear c2 f2 HB6
    go_wp2_with fail
    go_at_call 84
    refine (HMk3.out _ HB7.out.rd).mono ?_
    rintro e v8 ⟨rfl, hr8, hg8⟩
    have HB8 := Lib.hid (HB7.out.call hr8 hg8)
    clear hr8 hg8 HB7
    go_wp2_with fail
    go_at_call 28
    refine (HE.out _ HB8.out.rd).mono ?_
    rintro e v9 ⟨c, rfl, hrep, hr9, hg9⟩
    obtain ⟨ka, kc, aa, ac, tk, tn, ti, th, ta, tl, tc, rfl⟩ := hrep.form
    have HB9 := Lib.hid (VB.mk' (HB8.out.call hr9 hg9) (hrep.imp_lt HB8.out.lt))
    clear hrep hr9 hg9 HB8
    go_upto_region 8 with fail
    generalize (v9.alloc (.cells #[.int .i64 a.k, .int .i64 a.p, .string a.n, .int .i64 a.m, .slice ka a.kids.length kc, .slice aa a.arms.length ac, .int .i64 tk, .string tn, .int .i64 ti, .int .i64 th, .slice ta tl tc] 34)) = v10 at *
    generalize v9.heap.size = R2 at *
    go_wp2_with fail
    go_at_call 85
    refine (HIn5.out _ HB9.out.eb.rd).mono ?_
    rintro e v11 ⟨rfl, hr11, hg11⟩
    have HB11 := Lib.hid ((HB9.out.call hr11 hg11).call ((HB9.out.call hr11 hg11).eb.rd.lift (Below.refl _ _).drew) (below_grown_some (Below.refl _ _).drew b))
    clear hr11 hg11 HB9
    obtain ⟨y0, y1, y2, y3, y4, y5, y6, y7, y8, y9, y10⟩ := HB11.out.val.all11
    have hR2 : R1 ≠ R2 := Nat.ne_of_lt HB11.out.h2
    go_upto_region 9 with fail
    go_region_law
      (((with_reducible refine step_call1 28 enterExpr (.pointer (some ⟨b, 0, none⟩)) (fun r w' => ∃ c, r = .agg (List.toArray c) ∧ RepE w' (fun g => R1 < g) u c ∧ VB ea w w' b w.heap.size R1 R2 ts s7 [.int .i64 6, .int .i64 p, .string nm, .int .i64 0, .slice none 0 0, .slice none 0 0, .int .i64 0, .string ⟨#[]⟩, .int .i64 0, .int .i64 0, .slice none 0 0] a [.int .i64 a.k, .int .i64 a.p, .string a.n, .int .i64 a.m, .slice ka a.kids.length kc, .slice aa a.arms.length ac, .int .i64 tk, .string tn, .int .i64 ti, .int .i64 th, .slice ta tl tc]) ?_ ?_ ?_); (rfl); (exact (HE2.out _ HB11.out.eb.rd).mono fun e w' h => by obtain ⟨c, h1, h2, h3, h4⟩ := h; exact ⟨_, h1, c, rfl, h2.imp_lt HB11.out.eb.lt, HB11.out.call h3 h4⟩); (rintro r w6 ⟨c, rfl, hrep, hv⟩); (obtain ⟨ka2, kc2, aa2, ac2, tk2, tn2, ti2, th2, ta2, tl2, tc2, rfl⟩ := hrep.form); (have HRp := Lib.hid hrep); (have HV := Lib.hid hv); (clear hrep hv); (obtain ⟨x0, x1, x2, x3, x4, x5, x6, x7, x8, x9, x10⟩ := HV.out.val.all11); (have z4 := HV.out.eb.box.cell 4 _ rfl); (have f4 := HV.out.eb.box.free 4); (have hlt6 := HV.out.eb.lt)))
    all_goals
      obtain ⟨v7, hv7⟩ : ∃ v7, v7 = (w6.setCell ⟨R1, 4, none⟩ (.slice (some ⟨w6.heap.size, 0, none⟩) 2 2)).alloc (.cells #[.int .i64 a.k, .int .i64 a.p, .string a.n, .int .i64 a.m, .slice ka a.kids.length kc, .slice aa a.arms.length ac, .int .i64 tk, .string tn, .int .i64 ti, .int .i64 th, .slice ta tl tc, .int .i64 u.k, .int .i64 u.p, .string u.n, .int .i64 u.m, .slice ka2 u.kids.length kc2, .slice aa2 u.arms.length ac2, .int .i64 tk2, .string tn2, .int .i64 ti2, .int .i64 th2, .slice ta2 tl2 tc2] 34) := ⟨_, rfl⟩
      have HB7 : Hid (EB ea w v7 b w.heap.size R1 ts s7 [.int .i64 6, .int .i64 p, .string nm, .int .i64 0, .slice (some ⟨w6.heap.size, 0, none⟩) 2 2, .slice none 0 0, .int .i64 0, .string ⟨#[]⟩, .int .i64 0, .int .i64 0, .slice none 0 0]) := by rw [hv7]; exact (HV.out.two HRp.out 34).1
      have HK7 : Hid (SlG ExE v7 (fun g => R1 < g) [a, u] (.slice (some ⟨w6.heap.size, 0, none⟩) 2 2)) := by rw [hv7]; exact (HV.out.two HRp.out 34).2
      have HRes := Lib.hid (repE_kids (S := fun g => R1 < g) 6 p nm 0 HNs.out HK7.out)
      clear x0 x1 x2 x3 x4 x5 x6 x7 x8 x9 x10 y0 y1 y2 y3 y4 y5 y6 y7 y8 y9 y10 z4 f4
      go_upto_region 10 with fail
      rw [← hv7]
      clear hv7
      generalize w6.heap.size = n6 at *
      obtain ⟨d0, d1, d2, d3, d4, d5, d6, d7, d8, d9, d10⟩ := HB7.out.box.all11
      go_wp2_with (refine wpList_storeC rfl _ _ rfl _ _ _ HB7.out.res rfl rfl HRes.out.size HRes.out.len0 HRes.out.len.2 ?_; intro v8 hB8 hg8 hs8)
      obtain ⟨e0, e1, e2, e3, e4, e5, e6, e7, e8, e9, e10⟩ := hB8.all11
      refine bodyPost_ret (by simp [results, Tryz.results52, go_sem, e0, e1, e2, e3, e4, e5, e6, e7, e8, e9, e10]; try rfl) rfl ?_
      exact ⟨_, rfl, HB7.out.ret HRes.out hbase hg8⟩
end Go.Proofs.YtgcefodgjhlbeaaGreatDoor
