import Derived.Test.YtgcefodgjhlbeaaGreatDoorUB3
import Derived.Deep.LoopGhost
import Derived.Deep.MidRow
namespace Go.Proofs.YtgcefodgjhlbeaaGreatDoor
open Go.RowKit Go.Maps Mth

theorem apps_cases {g : Nat} {ts : List Tok} {s : St} {e T : Ex} {j : St} (h : yApps g ts s e = some (T, j)) :
  (stB (yK ts s) (yT ts s) = false ∧ T = e ∧ j = s) ∨ (stB (yK ts s) (yT ts s) = true ∧ ∃ g' u m, g = g' + 1 ∧ yAtom g' ts s = some (u, m) ∧ yApps g' ts m (.mk 5 e.p ⟨#[]⟩ 0 zTy [e, u] []) = some (T, j)) := by
 cases g with
 | zero => simp [yApps] at h
 | succ g =>
  unfold yApps at h
  cases h1 : stB (yK ts s) (yT ts s) with
  | false =>
   rw [h1] at h
   simp only [Bool.false_eq_true, if_false, Option.some.injEq, Prod.mk.injEq] at h
   exact .inl ⟨rfl, h.1.symm, h.2.symm⟩
  | true =>
   rw [h1] at h
   simp only [if_true] at h
   cases h2 : yAtom g ts s with
   | none => rw [h2] at h; simp at h
   | some p =>
    obtain ⟨u, m⟩ := p
    rw [h2] at h
    exact .inr ⟨rfl, g, u, m, rfl, h2, h⟩
theorem BoxC.set11s {t : TypeId} {w : World} {B : Nat} {c0 c1 c2 c3 c4 c5 c6 c7 c8 c9 c10 : Value} (h : BoxC t w B [c0, c1, c2, c3, c4, c5, c6, c7, c8, c9, c10]) (v0 v1 v2 v3 v4 v5 v6 v7 v8 v9 v10 : Value) :
  BoxC t (((((((((((w.setCell ⟨B, 0, none⟩ v0).setCell ⟨B, 1, none⟩ v1).setCell ⟨B, 2, none⟩ v2).setCell ⟨B, 3, none⟩ v3).setCell ⟨B, 4, none⟩ v4).setCell ⟨B, 5, none⟩ v5).setCell ⟨B, 6, none⟩ v6).setCell ⟨B, 7, none⟩ v7).setCell ⟨B, 8, none⟩ v8).setCell ⟨B, 9, none⟩ v9).setCell ⟨B, 10, none⟩ v10) B [v0, v1, v2, v3, v4, v5, v6, v7, v8, v9, v10] ∧ w.grownBy (((((((((((w.setCell ⟨B, 0, none⟩ v0).setCell ⟨B, 1, none⟩ v1).setCell ⟨B, 2, none⟩ v2).setCell ⟨B, 3, none⟩ v3).setCell ⟨B, 4, none⟩ v4).setCell ⟨B, 5, none⟩ v5).setCell ⟨B, 6, none⟩ v6).setCell ⟨B, 7, none⟩ v7).setCell ⟨B, 8, none⟩ v8).setCell ⟨B, 9, none⟩ v9).setCell ⟨B, 10, none⟩ v10) (some B) ∧ (((((((((((w.setCell ⟨B, 0, none⟩ v0).setCell ⟨B, 1, none⟩ v1).setCell ⟨B, 2, none⟩ v2).setCell ⟨B, 3, none⟩ v3).setCell ⟨B, 4, none⟩ v4).setCell ⟨B, 5, none⟩ v5).setCell ⟨B, 6, none⟩ v6).setCell ⟨B, 7, none⟩ v7).setCell ⟨B, 8, none⟩ v8).setCell ⟨B, 9, none⟩ v9).setCell ⟨B, 10, none⟩ v10).heap.size = w.heap.size := by
 obtain ⟨h1, h2⟩ := h.set11 v0 v1 v2 v3 v4 v5 v6 v7 v8 v9 v10
 exact ⟨h1, h2, by simp [World.setCell]⟩
structure AB (ea : Addr) (w v : World) (b R0 R1 : Nat) (ts : List Tok) (s : St) (c : List Value) (e : Ex) : Prop where
 eb : EB ea w v b R0 R1 ts s c
 rep : RepE v (fun g => R0 < g ∧ g ≠ R1) e c
theorem AB.call {ea : Addr} {w v v' : World} {b R0 R1 : Nat} {ts : List Tok} {s s' : St} {c : List Value} {e : Ex} (h : AB ea w v b R0 R1 ts s c e) (hr : RdY ea v' b ts s') (hg : v.grownBy v' (some b)) : AB ea w v' b R0 R1 ts s' c e := by
 have h0 := h.eb.h0
 have hb := h.eb.hb
 exact ⟨h.eb.call hr hg, h.rep.kept (fun _ h => h) (fun g h1 hl => hg.block g hl (by intro e; have := Option.some.inj e; have := h1.1; omega))⟩
theorem AB.lift {ea : Addr} {w v v' : World} {b R0 R1 : Nat} {ts : List Tok} {s : St} {c : List Value} {e : Ex} (h : AB ea w v b R0 R1 ts s c e) (hb : Below v.heap.size v v') : AB ea w v' b R0 R1 ts s c e := h.call (h.eb.rd.lift hb) (below_grown_some hb b)
theorem AB.mk' {ea : Addr} {w v : World} {b R0 : Nat} {ts : List Tok} {s : St} (h : PB ea w v b R0 ts s) {e : Ex} {c : List Value} (hr : RepE v (fun g => R0 < g) e c) : AB ea w (v.alloc (.cells c.toArray 34)) b R0 v.heap.size ts s c e :=
 ⟨h.mk' c, (hr.bound.lift ((Below.refl _ v).alloc (Nat.le_refl _) _)).imp fun _ hg => ⟨hg.1, Nat.ne_of_lt hg.2⟩⟩
theorem AB.ret {ea : Addr} {w v v' : World} {b R0 R1 base : Nat} {ts : List Tok} {s : St} {c : List Value} {e : Ex} (h : AB ea w v b R0 R1 ts s c e) (hbase : base ≤ w.heap.size) (hg : v.grownBy v' (some R0)) :
  RepE v' (fun g => base ≤ g) e c ∧ RdY ea v' b ts s ∧ w.grownBy v' (some b) := h.eb.pb.ret (h.rep.imp fun _ h => h.1) hbase hg
theorem AB.next {ea : Addr} {w v : World} {b R0 R1 : Nat} {ts : List Tok} {s : St} {c0 c1 c2 c3 c4 c5 c6 c7 c8 c9 c10 : Value} {e : Ex} (h : AB ea w v b R0 R1 ts s [c0, c1, c2, c3, c4, c5, c6, c7, c8, c9, c10] e) {u : Ex} {k : List Value} (hu : RepE v (fun g => R0 < g ∧ g ≠ R1) u k) (p : Int) :
  AB ea w ((((((((((((v.setCell ⟨R1, 0, none⟩ (.int .i64 5)).setCell ⟨R1, 1, none⟩ (.int .i64 p)).setCell ⟨R1, 2, none⟩ (.string ⟨#[]⟩)).setCell ⟨R1, 3, none⟩ (.int .i64 0)).setCell ⟨R1, 4, none⟩ (.slice (some ⟨v.heap.size, 0, none⟩) 2 2)).setCell ⟨R1, 5, none⟩ (.slice none 0 0)).setCell ⟨R1, 6, none⟩ (.int .i64 0)).setCell ⟨R1, 7, none⟩ (.string ⟨#[]⟩)).setCell ⟨R1, 8, none⟩ (.int .i64 0)).setCell ⟨R1, 9, none⟩ (.int .i64 0)).setCell ⟨R1, 10, none⟩ (.slice none 0 0)).alloc (.cells ([c0, c1, c2, c3, c4, c5, c6, c7, c8, c9, c10] ++ k).toArray 34)) b R0 R1 ts s [.int .i64 5, .int .i64 p, .string ⟨#[]⟩, .int .i64 0, .slice (some ⟨v.heap.size, 0, none⟩) 2 2, .slice none 0 0, .int .i64 0, .string ⟨#[]⟩, .int .i64 0, .int .i64 0, .slice none 0 0] (.mk 5 p ⟨#[]⟩ 0 zTy [e, u] []) := by
 obtain ⟨h1, h2, h3⟩ := h.eb.box.set11s (.int .i64 5) (.int .i64 p) (.string ⟨#[]⟩) (.int .i64 0) (.slice (some ⟨v.heap.size, 0, none⟩) 2 2) (.slice none 0 0) (.int .i64 0) (.string ⟨#[]⟩) (.int .i64 0) (.int .i64 0) (.slice none 0 0)
 have hlt := h.eb.lt
 have hr0 := h.eb.h1
 have hrep := h.rep.kept (S' := fun g => R0 < g ∧ g ≠ R1) (fun _ h => h) (fun g hg hl => h2.block g hl (by intro e; exact hg.2 (Option.some.inj e)))
 have hu' := hu.kept (S' := fun g => R0 < g ∧ g ≠ R1) (fun _ h => h) (fun g hg hl => h2.block g hl (by intro e; exact hg.2 (Option.some.inj e)))
 have heb := h.eb.row h1 h2
 generalize hV : (((((((((((v.setCell ⟨R1, 0, none⟩ (.int .i64 5)).setCell ⟨R1, 1, none⟩ (.int .i64 p)).setCell ⟨R1, 2, none⟩ (.string ⟨#[]⟩)).setCell ⟨R1, 3, none⟩ (.int .i64 0)).setCell ⟨R1, 4, none⟩ (.slice (some ⟨v.heap.size, 0, none⟩) 2 2)).setCell ⟨R1, 5, none⟩ (.slice none 0 0)).setCell ⟨R1, 6, none⟩ (.int .i64 0)).setCell ⟨R1, 7, none⟩ (.string ⟨#[]⟩)).setCell ⟨R1, 8, none⟩ (.int .i64 0)).setCell ⟨R1, 9, none⟩ (.int .i64 0)).setCell ⟨R1, 10, none⟩ (.slice none 0 0)) = V at *
 exact ⟨heb.lift ((Below.refl _ V).alloc (Nat.le_refl _) _), repE_kids 5 p ⟨#[]⟩ 0 (Nat.zero_le _) (two_newE hrep hu' 34 v.heap.size h3.symm (fun _ h => h) ⟨by omega, by omega⟩)⟩
theorem enterYAtom (v : Value) (w : World) : (callFunc 37 #[v]).run Tryz.prog w = .ok (.enter 37 #[v]) w := by kernel_rfl
set_option maxRecDepth 100000 in
set_option maxHeartbeats 6400000 in
theorem yApp_of (ts : List Tok) (s : St) (f : Nat) (HA : ∀ g, g ≤ f → ∀ s, YAt 37 #[] ts s (yAtom g ts s)) : YAt 54 #[] ts s (yApp (f + 1) ts s) := by
 intro T j hr ea b base w hbb hbase h
 unfold yApp at hr
 have HR := Lib.hid h
 have HP0 := Lib.hid (PB.start HR.out)
 have hsz0 : w.heap.size < (w.alloc (.cells #[.int .i64 0, .int .i64 0, .string ⟨#[]⟩, .int .i64 0, .slice none 0 0, .slice none 0 0, .int .i64 0, .string ⟨#[]⟩, .int .i64 0, .int .i64 0, .slice none 0 0] 34)).heap.size := by simp
 cases hE : yAtom f ts s with
 | none => rw [hE] at hr; simp at hr
 | some q =>
  obtain ⟨a, s1⟩ := q
  rw [hE] at hr
  have HAp : Hid (yApps f ts s1 a = some (T, j)) := hr
  have HE := Lib.hid (fun (V : World) (h : RdY ea V b ts s) => HA f (Nat.le_refl _) s a s1 hE ea b V.heap.size V h.lt (Nat.le_refl _) h)
  have HAt := Lib.hid HA
  clear h hr hE HA
  go_enter Tryz.func54, Tryz.ntmps54
  go_upto_region 1 with fail
  generalize (w.alloc (.cells #[.int .i64 0, .int .i64 0, .string ⟨#[]⟩, .int .i64 0, .slice none 0 0, .slice none 0 0, .int .i64 0, .string ⟨#[]⟩, .int .i64 0, .int .i64 0, .slice none 0 0] 34)) = w0 at *
  go_wp2_with fail
  go_at_call 37
  refine (HE.out _ HP0.out.rd).mono ?_
  rintro e v1 ⟨c, rfl, hrep, hr1, hg1⟩
  obtain ⟨ka, kc, aa, ac, tk, tn, ti, th, ta, tl, tc, rfl⟩ := hrep.form
  have HB1 := Lib.hid (AB.mk' (HP0.out.call hr1 hg1) (hrep.imp_lt hsz0))
  clear hrep hr1 hg1 HP0 hsz0 HE
  go_wp2_with fail
  generalize (v1.alloc (.cells #[.int .i64 a.k, .int .i64 a.p, .string a.n, .int .i64 a.m, .slice ka a.kids.length kc, .slice aa a.arms.length ac, .int .i64 tk, .string tn, .int .i64 ti, .int .i64 th, .slice ta tl tc] 34)) = v2 at *
  generalize v1.heap.size = R1 at *
  go_loopg [] f (fun k wr => ∃ (s2 : St) (e : Ex) (c : List Value), Hid (yApps k ts s2 e = some (T, j)) ∧ k ≤ f ∧ Hid (AB ea w wr b w.heap.size R1 ts s2 c e))
  case atStart => exact ⟨s1, a, _, HAp, Nat.le_refl _, HB1⟩
  case round =>
   clear HB1 HAp
   obtain ⟨s2, e, c, HA2, hkf, HB2⟩ := hrel
   obtain ⟨ka, kc, aa, ac, tk, tn, ti, th, ta, tl, tc, rfl⟩ := HB2.out.rep.form
   have HT := Lib.hid (fun (V : World) (h : RdY ea V b ts s2) => yTok_any ea b ts s2 V h)
   have HS := Lib.hid (fun (V : World) => xStarts_any (yK ts s2) (yT ts s2) (yP ts s2) V)
   rcases apps_cases HA2.out with ⟨hq, rfl, rfl⟩ | ⟨hq, g', u, m, rfl, hV, hrest⟩
   ·rw [hq] at HS
    clear hq HA2 HAt
    generalize yK ts j = yk at *
    generalize yT ts j = yt at *
    generalize yP ts j = yp at *
    go_wp2_with fail
    go_at_call 48
    refine (HT.out _ HB2.out.eb.rd).mono ?_
    rintro e' w1 ⟨rfl, hb1⟩
    have HB3 := Lib.hid (HB2.out.lift hb1)
    clear hb1 HB2
    go_wp2_with fail
    go_at_call 63
    refine (HS.out _).mono ?_
    rintro e' w2 ⟨rfl, hb2⟩
    have HB4 := Lib.hid (HB3.out.lift hb2)
    clear hb2 HB3
    obtain ⟨d0, d1, d2, d3, d4, d5, d6, d7, d8, d9, d10⟩ := HB4.out.eb.box.all11
    go_wp2_with (refine wpList_storeC rfl _ _ rfl _ _ _ HB4.out.eb.res rfl rfl HB4.out.rep.size HB4.out.rep.len0 HB4.out.rep.len.2 ?_; intro v8 hB8 hg8 hs8)
    obtain ⟨e0, e1, e2, e3, e4, e5, e6, e7, e8, e9, e10⟩ := hB8.all11
    refine bodyPost_ret (by simp [results, Tryz.results54, go_sem, e0, e1, e2, e3, e4, e5, e6, e7, e8, e9, e10]; try rfl) rfl ?_
    exact ⟨_, rfl, HB4.out.ret hbase hg8⟩
   ·rw [hq] at HS
    have HE := Lib.hid (fun (V : World) (h : RdY ea V b ts s2) => HAt.out g' (by omega) s2 u m hV ea b V.heap.size V h.lt (Nat.le_refl _) h)
    have HRest := Lib.hid hrest
    clear hq HA2 hV hrest
    generalize yK ts s2 = yk at *
    generalize yT ts s2 = yt at *
    generalize yP ts s2 = yp at *
    go_wp2_with fail
    go_at_call 48
    refine (HT.out _ HB2.out.eb.rd).mono ?_
    rintro e' w1 ⟨rfl, hb1⟩
    have HB3 := Lib.hid (HB2.out.lift hb1)
    clear hb1 HB2
    go_wp2_with fail
    go_at_call 63
    refine (HS.out _).mono ?_
    rintro e' w2 ⟨rfl, hb2⟩
    have HB4 := Lib.hid ((HB3.out.lift hb2).lift (Below.refl _ _).drew)
    clear hb2 HB3
    obtain ⟨d0, d1, d2, d3, d4, d5, d6, d7, d8, d9, d10⟩ := HB4.out.eb.box.all11
    go_upto_region 3 with fail
    go_region_law
     (((with_reducible refine step_call1 37 enterYAtom (.pointer (some ⟨b, 0, none⟩)) (fun r w' => ∃ c, r = .agg (List.toArray c) ∧ RepE w' (fun g => w.heap.size < g ∧ g ≠ R1) u c ∧ AB ea w w' b w.heap.size R1 ts m [.int .i64 e.k, .int .i64 e.p, .string e.n, .int .i64 e.m, .slice ka e.kids.length kc, .slice aa e.arms.length ac, .int .i64 tk, .string tn, .int .i64 ti, .int .i64 th, .slice ta tl tc] e) ?_ ?_ ?_); (rfl); (exact (HE.out _ HB4.out.eb.rd).mono fun e w' h => by obtain ⟨c, h1, h2, h3, h4⟩ := h; exact ⟨_, h1, c, rfl, h2.imp fun g hg => ⟨Nat.lt_of_lt_of_le (Nat.lt_trans HB4.out.eb.h1 HB4.out.eb.lt) hg, Nat.ne_of_gt (Nat.lt_of_lt_of_le HB4.out.eb.lt hg)⟩, HB4.out.call h3 h4⟩); (rintro r w6 ⟨c, rfl, hrep, hv⟩); (obtain ⟨ka2, kc2, aa2, ac2, tk2, tn2, ti2, th2, ta2, tl2, tc2, rfl⟩ := hrep.form); (have HRp := Lib.hid hrep); (have HV := Lib.hid hv); (clear hrep hv); (obtain ⟨x0, x1, x2, x3, x4, x5, x6, x7, x8, x9, x10⟩ := HV.out.eb.box.all11); (obtain ⟨y0, y1, y2, y3, y4, y5, y6, y7, y8, y9, y10⟩ := HV.out.eb.box.free11); (have hlt6 := HV.out.eb.lt)))
    all_goals
     obtain ⟨v7, hv7⟩ : ∃ v7, v7 = (((((((((((w6.setCell ⟨R1, 0, none⟩ (.int .i64 5)).setCell ⟨R1, 1, none⟩ (.int .i64 e.p)).setCell ⟨R1, 2, none⟩ (.string ⟨#[]⟩)).setCell ⟨R1, 3, none⟩ (.int .i64 0)).setCell ⟨R1, 4, none⟩ (.slice (some ⟨w6.heap.size, 0, none⟩) 2 2)).setCell ⟨R1, 5, none⟩ (.slice none 0 0)).setCell ⟨R1, 6, none⟩ (.int .i64 0)).setCell ⟨R1, 7, none⟩ (.string ⟨#[]⟩)).setCell ⟨R1, 8, none⟩ (.int .i64 0)).setCell ⟨R1, 9, none⟩ (.int .i64 0)).setCell ⟨R1, 10, none⟩ (.slice none 0 0)).alloc (.cells #[.int .i64 e.k, .int .i64 e.p, .string e.n, .int .i64 e.m, .slice ka e.kids.length kc, .slice aa e.arms.length ac, .int .i64 tk, .string tn, .int .i64 ti, .int .i64 th, .slice ta tl tc, .int .i64 u.k, .int .i64 u.p, .string u.n, .int .i64 u.m, .slice ka2 u.kids.length kc2, .slice aa2 u.arms.length ac2, .int .i64 tk2, .string tn2, .int .i64 ti2, .int .i64 th2, .slice ta2 tl2 tc2] 34) := ⟨_, rfl⟩
     have HB7 : Hid (AB ea w v7 b w.heap.size R1 ts m [.int .i64 5, .int .i64 e.p, .string ⟨#[]⟩, .int .i64 0, .slice (some ⟨w6.heap.size, 0, none⟩) 2 2, .slice none 0 0, .int .i64 0, .string ⟨#[]⟩, .int .i64 0, .int .i64 0, .slice none 0 0] (.mk 5 e.p ⟨#[]⟩ 0 zTy [e, u] [])) := by rw [hv7]; exact HV.out.next HRp.out e.p
     rw [← hv7]
     clear hv7 x0 x1 x2 x3 x4 x5 x6 x7 x8 x9 x10 y0 y1 y2 y3 y4 y5 y6 y7 y8 y9 y10 d0 d1 d2 d3 d4 d5 d6 d7 d8 d9 d10 HV HRp HB4
     go_wp2_with fail
     go_roundg g'
     case measure => omega
     case rel => exact ⟨m, _, _, HRest, by omega, HB7⟩
end Go.Proofs.YtgcefodgjhlbeaaGreatDoor

namespace Go.Proofs.YtgcefodgjhlbeaaGreatDoor
open Go.RowKit Go.Maps Mth

theorem vars_cases {g : Nat} {ts : List Tok} {s j : St} {acc l : List ByteArray} (h : yVars g ts s acc = some (l, j)) :
  ((yK ts s == 1) = false ∧ l = acc ∧ j = s) ∨ ((yK ts s == 1) = true ∧ ∃ g', g = g' + 1 ∧ yVars g' ts (xStep s) (acc ++ [yT ts s]) = some (l, j)) := by
 cases g with
 | zero => simp [yVars] at h
 | succ g =>
  unfold yVars at h
  cases h1 : (yK ts s == 1) with
  | false =>
   rw [h1] at h
   simp only [Bool.false_eq_true, if_false, Option.some.injEq, Prod.mk.injEq] at h
   exact .inl ⟨rfl, h.1.symm, h.2.symm⟩
  | true =>
   rw [h1] at h
   simp only [if_true] at h
   exact .inr ⟨rfl, g, rfl, h⟩
theorem BoxC.mid {t : TypeId} {B : Nat} : ∀ (d : List Value) (o : Nat) (w : World) (c : List Value), BoxC t w B c → o + d.length ≤ c.length →
  BoxC t (w.setCells B o d) B (c.take o ++ d ++ c.drop (o + d.length)) ∧ w.grownBy (w.setCells B o d) (some B) := by
 intro d
 induction d with
 | nil =>
  intro o w c h _
  refine ⟨?_, below_grown_some (Below.refl _ w) B⟩
  simpa [World.setCells] using h
 | cons v d ih =>
  intro o w c h hl
  simp only [List.length_cons] at hl
  obtain ⟨h1, h2, -⟩ := h.set o v
  obtain ⟨h3, h4⟩ := ih (o + 1) _ _ h1 (by simp; omega)
  refine ⟨?_, grown_trans h2 h4⟩
  have e : (c.set o v).take (o + 1) ++ d ++ (c.set o v).drop (o + 1 + d.length) = c.take o ++ (v :: d) ++ c.drop (o + (d.length + 1)) := by
   have e1 : (c.set o v).take (o + 1) = c.take o ++ [v] := by
    rw [List.set_eq_take_append_cons_drop, if_pos (by omega)]
    have ht : (c.take o).length = o := by rw [List.length_take]; omega
    rw [List.take_append, ht, List.take_of_length_le (by omega)]
    simp
   have e2 : (c.set o v).drop (o + 1 + d.length) = c.drop (o + (d.length + 1)) := by
    rw [List.drop_set_of_lt (by omega)]
    congr 1; omega
   rw [e1, e2]; simp
  rw [e] at h3
  exact h3
theorem wpList_storeM {t ty : TypeId} {w : World} {ops : Array Oper} {rest : List Oper} {o : Oper} {a : Act} {Q : Exit → Act → World → Prop} (hgd : o.guard = none) (p x : Operand) (ho : o.op = Op.store ty p x)
  (B off : Nat) (c d : List Value) (hB : BoxC t w B c) (hp : a.eval p = .pointer (some ⟨B, off, none⟩)) (hx : a.eval x = .agg d.toArray) (hi : (Tryz.prog.info? ty).map (·.size) = some d.length) (hl : off + d.length ≤ c.length) (h1 : ∀ u ∈ d, u.oneCell' = true)
  (hK : ∀ w', BoxC t w' B (c.take off ++ d ++ c.drop (off + d.length)) → w.grownBy w' (some B) → wpList Tryz.prog ops Q rest (a.put o.dst undef) w') :
  wpList Tryz.prog ops Q (o :: rest) a w := by
 refine wpList_store_mid hgd ty p x ho B off d.toArray hp hx (fun j hj => ?_) (by simpa using hi) (Array.all_eq_true_iff_forall_mem.2 fun v hv => h1 v (by simpa using hv)) ?_
 ·have hj' : j < d.length := by simpa using hj
  exact ⟨by rw [hB.cell (off + j) _ (List.getElem?_eq_getElem (by omega))]; rfl, hB.free _⟩
 ·obtain ⟨h2, h3⟩ := BoxC.mid d off w c hB hl
  have := hK _ h2 h3
  simpa using this
def zAmC : List Value := [.int .i64 0, .string ⟨#[]⟩, .slice none 0 0, .int .i64 0, .int .i64 0, .string ⟨#[]⟩, .int .i64 0, .slice none 0 0, .slice none 0 0, .int .i64 0, .string ⟨#[]⟩, .int .i64 0, .int .i64 0, .slice none 0 0]
structure PA (ea : Addr) (w v : World) (b R0 : Nat) (ts : List Tok) (s : St) : Prop where
 rd : RdY ea v b ts s
 res : BoxC 61 v R0 zAmC
 grown : w.grownBy v (some b)
 h0 : w.heap.size ≤ R0
 hb : b < w.heap.size
theorem PA.start {ea : Addr} {w : World} {b : Nat} {ts : List Tok} {s : St} (h : RdY ea w b ts s) : PA ea w (w.alloc (.cells #[.int .i64 0, .string ⟨#[]⟩, .slice none 0 0, .int .i64 0, .int .i64 0, .string ⟨#[]⟩, .int .i64 0, .slice none 0 0, .slice none 0 0, .int .i64 0, .string ⟨#[]⟩, .int .i64 0, .int .i64 0, .slice none 0 0] 61)) b w.heap.size ts s := by
 have hb : Below w.heap.size w (w.alloc (.cells #[.int .i64 0, .string ⟨#[]⟩, .slice none 0 0, .int .i64 0, .int .i64 0, .string ⟨#[]⟩, .int .i64 0, .slice none 0 0, .slice none 0 0, .int .i64 0, .string ⟨#[]⟩, .int .i64 0, .int .i64 0, .slice none 0 0] 61)) := (Below.refl _ w).alloc (Nat.le_refl _) _
 exact ⟨h.lift hb, BoxC.made _ w zAmC, below_grown_some hb b, Nat.le_refl _, h.lt⟩
theorem PA.call {ea : Addr} {w v v' : World} {b R0 : Nat} {ts : List Tok} {s s' : St} (h : PA ea w v b R0 ts s) (hr : RdY ea v' b ts s') (hg : v.grownBy v' (some b)) : PA ea w v' b R0 ts s' :=
 ⟨hr, h.res.grown hg (by have := h.hb; have := h.h0; intro e; have := Option.some.inj e; omega), grown_trans h.grown hg, h.h0, h.hb⟩
theorem PA.lift {ea : Addr} {w v v' : World} {b R0 : Nat} {ts : List Tok} {s : St} (h : PA ea w v b R0 ts s) (hb : Below v.heap.size v v') : PA ea w v' b R0 ts s := h.call (h.rd.lift hb) (below_grown_some hb b)
theorem PA.fin {ea : Addr} {w v v' : World} {b R0 : Nat} {ts : List Tok} {s : St} (h : PA ea w v b R0 ts s) (hg : v.grownBy v' (some R0)) : RdY ea v' b ts s ∧ w.grownBy v' (some b) := by
 have := h.hb; have := h.h0
 exact ⟨h.rd.other (by omega) hg, grown_fresh h.grown hg (fun k e => by have := Option.some.inj e; omega)⟩
structure RA (ea : Addr) (w v : World) (b R0 R1 : Nat) (ts : List Tok) (s : St) (c : List Value) (sv : Value) (acc : List ByteArray) : Prop where
 pa : PA ea w v b R0 ts s
 box : BoxC 61 v R1 c
 row : RowG StrE v (R1 + 1) (fun _ => False) sv acc
 h1 : R0 < R1
theorem RA.lt {ea : Addr} {w v : World} {b R0 R1 : Nat} {ts : List Tok} {s : St} {c : List Value} {sv : Value} {acc : List ByteArray} (h : RA ea w v b R0 R1 ts s c sv acc) : R1 < v.heap.size := h.box.lt
theorem row_str {w w' : World} {base : Nat} {S : Nat → Prop} {v : Value} {xs : List ByteArray} {row : Option Nat} (h : RowG StrE w base S v xs) (hg : w.grownBy w' row) (hv : v.ownBlock = none ∨ v.ownBlock ≠ row) : RowG StrE w' base S v xs := by
 obtain ⟨L, hown, hl, hr⟩ := h
 exact ⟨L, hown.kept hg hv, hl, hr⟩
theorem RA.mk' {ea : Addr} {w v : World} {b R0 : Nat} {ts : List Tok} {s : St} (h : PA ea w v b R0 ts s) (c : List Value) : RA ea w (v.alloc (.cells c.toArray 61)) b R0 v.heap.size ts s c (.slice none 0 0) [] :=
 ⟨h.lift ((Below.refl _ v).alloc (Nat.le_refl _) _), BoxC.made _ v c, rowG_nil _ _ _ _, h.res.lt⟩
theorem RA.call {ea : Addr} {w v v' : World} {b R0 R1 : Nat} {ts : List Tok} {s s' : St} {c : List Value} {sv : Value} {acc : List ByteArray} (h : RA ea w v b R0 R1 ts s c sv acc) (hr : RdY ea v' b ts s') (hg : v.grownBy v' (some b)) : RA ea w v' b R0 R1 ts s' c sv acc := by
 have := h.pa.hb; have := h.pa.h0; have := h.h1
 exact ⟨h.pa.call hr hg, h.box.grown hg (by intro e; have := Option.some.inj e; omega), row_str h.row hg (h.row.off (by omega)), h.h1⟩
theorem RA.lift {ea : Addr} {w v v' : World} {b R0 R1 : Nat} {ts : List Tok} {s : St} {c : List Value} {sv : Value} {acc : List ByteArray} (h : RA ea w v b R0 R1 ts s c sv acc) (hb : Below v.heap.size v v') : RA ea w v' b R0 R1 ts s c sv acc := h.call (h.pa.rd.lift hb) (below_grown_some hb b)
theorem RA.push {ea : Addr} {w v v' : World} {b R0 R1 : Nat} {ts : List Tok} {s : St} {c : List Value} {sv sv' : Value} {acc acc' : List ByteArray} (h : RA ea w v b R0 R1 ts s c sv acc) (hrow : RowG StrE v' (R1 + 1) (fun _ => False) sv' acc') (hg : v.grownBy v' sv.ownBlock) : RA ea w v' b R0 R1 ts s c sv' acc' := by
 have hb := h.pa.hb; have h0 := h.pa.h0; have h1 := h.h1
 cases hv : sv.ownBlock with
 | none => rw [hv] at hg; exact ⟨h.pa.lift ⟨hg.os, hg.tape, hg.output, hg.size, fun i hi => hg.block i hi (by simp)⟩, h.box.grown hg (by simp), hrow, h1⟩
 | some k =>
  rw [hv] at hg
  have hk := (h.row.lt k hv).1
  exact ⟨⟨h.pa.rd.other (by omega) hg, h.pa.res.grown hg (by intro e; have := Option.some.inj e; omega), grown_fresh h.pa.grown hg (fun i e => by have := Option.some.inj e; omega), h0, hb⟩, h.box.grown hg (by intro e; have := Option.some.inj e; omega), hrow, h1⟩
theorem RA.set {ea : Addr} {w v : World} {b R0 R1 : Nat} {ts : List Tok} {s : St} {c : List Value} {sv : Value} {acc : List ByteArray} (h : RA ea w v b R0 R1 ts s c sv acc) (m : Nat) (u : Value) : RA ea w (v.setCell ⟨R1, m, none⟩ u) b R0 R1 ts s (c.set m u) sv acc := by
 obtain ⟨h1, h2, -⟩ := h.box.set m u
 have hb := h.pa.hb; have h0 := h.pa.h0; have h01 := h.h1
 exact ⟨⟨h.pa.rd.other (by omega) h2, h.pa.res.grown h2 (by intro e; have := Option.some.inj e; omega), grown_fresh h.pa.grown h2 (fun k e => by have := Option.some.inj e; omega), h0, hb⟩, h1, row_str h.row h2 (h.row.off (by omega)), h01⟩
theorem step_push_str {w : World} {ops : Array Oper} {o : Oper} {a : Act} {K : Act → World → Prop} {Q : Exit → Act → World → Prop} {E' : Prop} (tx : ByteArray) {base : Nat} {sa : Option Addr} {n sc : Nat} {acc : List ByteArray} (hrow : RowG StrE w base (fun _ => False) (.slice sa n sc) acc)
  (hgd : o.guard = none) (s x : Operand) (ho : o.op = .call { callee := .builtin .append, args := #[s, x], argTypes := #[53, 53] }) (hs : a.eval s = .slice sa n sc) (nn : Nat) (hnn : nn = w.heap.size) (hx : a.eval x = .slice (some ⟨nn, 0, none⟩) 1 1)
  (N : Nat) (hN : N = acc.length + 1) (hb : N ≤ 1000000) (hbase : base ≤ w.heap.size)
  (hK : ∀ (a' : Option Addr) (c' : Nat) (w' : World), RowG StrE w' base (fun _ => False) (.slice a' N c') (acc ++ [tx]) → w.grownBy w' (Value.slice sa n sc).ownBlock → K (a.put o.dst (.slice a' N c')) w') :
  if Region.wanted o (yielded ops a.tmps) = true then Oper.wp Tryz.prog o a (w.alloc (.cells #[.string tx] 9)) K Q else E' := by
 subst hnn
 have hba : Below w.heap.size w (w.alloc (.cells #[.string tx] 9)) := (Below.refl _ w).alloc (Nat.le_refl _) _
 have hlt := fun k e => RowG.lt hrow k e
 exact step_pushG StrE hgd s x ho base (fun _ => False) (.slice sa n sc) acc hs (hrow.lift hba) w.heap.size 9 [.string tx] (heap_alloc_new w _) hx tx rfl N hN hb (Nat.le_trans hbase hba.size) fun a' c' w' h1 h2 => hK a' c' w' h1 (grown_trans (World.grownBy_alloc w _ _) h2)
theorem am_size {w : World} {S : Nat → Prop} {A : AH × Ex} {c : List Value} (h : AmE.rep w S A c) : (Tryz.prog.info? 61).map (·.size) = some c.length := by rw [(AmE.len h).1]; exact sizeAm
theorem am_len0 {w : World} {S : Nat → Prop} {A : AH × Ex} {c : List Value} (h : AmE.rep w S A c) : zAmC.length = c.length := (AmE.len h).1.symm
theorem BoxC.all14 {t : TypeId} {w : World} {B : Nat} {c0 c1 c2 c3 c4 c5 c6 c7 c8 c9 c10 c11 c12 c13 : Value} (h : BoxC t w B [c0, c1, c2, c3, c4, c5, c6, c7, c8, c9, c10, c11, c12, c13]) :
  w.cell? ⟨B, 0, none⟩ = some c0 ∧ w.cell? ⟨B, 1, none⟩ = some c1 ∧ w.cell? ⟨B, 2, none⟩ = some c2 ∧ w.cell? ⟨B, 3, none⟩ = some c3 ∧ w.cell? ⟨B, 4, none⟩ = some c4 ∧ w.cell? ⟨B, 5, none⟩ = some c5 ∧ w.cell? ⟨B, 6, none⟩ = some c6 ∧ w.cell? ⟨B, 7, none⟩ = some c7 ∧ w.cell? ⟨B, 8, none⟩ = some c8 ∧ w.cell? ⟨B, 9, none⟩ = some c9 ∧ w.cell? ⟨B, 10, none⟩ = some c10 ∧ w.cell? ⟨B, 11, none⟩ = some c11 ∧ w.cell? ⟨B, 12, none⟩ = some c12 ∧ w.cell? ⟨B, 13, none⟩ = some c13 :=
 ⟨h.cell 0 _ rfl, h.cell 1 _ rfl, h.cell 2 _ rfl, h.cell 3 _ rfl, h.cell 4 _ rfl, h.cell 5 _ rfl, h.cell 6 _ rfl, h.cell 7 _ rfl, h.cell 8 _ rfl, h.cell 9 _ rfl, h.cell 10 _ rfl, h.cell 11 _ rfl, h.cell 12 _ rfl, h.cell 13 _ rfl⟩
theorem Tryz.tokPos (k p : Int) (x : ByteArray) (w : World) : (Instr.field 76 (.agg #[.int .i64 k, .string x, .int .i64 p]) 2).run Tryz.prog w = .ok (.int .i64 p) w := by kernel_rfl
theorem Tryz.tokKind (k p : Int) (x : ByteArray) (w : World) : (Instr.field 76 (.agg #[.int .i64 k, .string x, .int .i64 p]) 0).run Tryz.prog w = .ok (.int .i64 k) w := by kernel_rfl
theorem enterName (v u : Value) (w : World) : (callFunc 83 #[v, u]).run Tryz.prog w = .ok (.enter 83 #[v, u]) w := by kernel_rfl
set_option maxRecDepth 100000 in
set_option maxHeartbeats 6400000 in
theorem yArm_of (ts : List Tok) (s : St) (f : Nat) (hf : f ≤ 900000) (H : ∀ s, YAt 28 #[] ts s (yExpr f ts s)) : YAtA 86 ts s (yArm (f + 1) ts s) := by
  intro A j hr ea b base w hbb hbase h
  have hok := h.ok
  unfold yArm at hr
  have HT := Lib.hid (fun (s : St) (V : World) (h : RdY ea V b ts s) => yTok_any ea b ts s V h)
  have HNm := Lib.hid (fun (V : World) (h : RdY ea V b ts s) => yName_any 2 (by decide) ea b ts s V h)
  have HV := Lib.hid (fun (s : St) (V : World) (h : RdY ea V b ts s) => yName_any 1 (by decide) ea b ts s V h)
  have HMk := Lib.hid (fun (s : St) (V : World) (h : RdY ea V b ts s) => yMark_any ⟨#[46]⟩ ea b ts s V h)
  have HR := Lib.hid h
  have HP0 := Lib.hid (PA.start HR.out)
  cases hv : yVars f ts (yExp ts s (yK ts s == 2)) [] with
  | none => rw [hv] at hr; simp at hr
  | some q =>
    obtain ⟨vs, s3⟩ := q
    rw [hv] at hr
    simp only at hr
    have HMk3 := Lib.hid (HMk.out s3)
    generalize yExp ts s3 (yM ts s3 ⟨#[46]⟩) = s4 at *
    cases hE : yExpr f ts s4 with
    | none => rw [hE] at hr; simp at hr
    | some q5 =>
      obtain ⟨a, s5⟩ := q5
      rw [hE] at hr
      simp only [Option.some.injEq, Prod.mk.injEq] at hr
      obtain ⟨rfl, rfl⟩ := hr
      have HE := Lib.hid (fun (V : World) (h : RdY ea V b ts s4) => H s4 a s5 hE ea b V.heap.size V h.lt (Nat.le_refl _) h)
      have HVs := Lib.hid hv
      have HT1 := Lib.hid (HT.out s)
      clear h H hE hv HMk
      generalize yExp ts s (yK ts s == 2) = s1 at *
      generalize yK ts s = tk at *
      generalize yT ts s = tx at *
      generalize yP ts s = tp at *
      have ft := Tryz.tokPos
      have fk := Tryz.tokKind
      go_enter Tryz.func86, Tryz.ntmps86
      go_upto_region 1 with fail
      generalize (w.alloc (.cells #[.int .i64 0, .string ⟨#[]⟩, .slice none 0 0, .int .i64 0, .int .i64 0, .string ⟨#[]⟩, .int .i64 0, .slice none 0 0, .slice none 0 0, .int .i64 0, .string ⟨#[]⟩, .int .i64 0, .int .i64 0, .slice none 0 0] 61)) = w0 at *
      go_wp2_with fail
      go_at_call 48
      refine (HT1.out _ HP0.out.rd).mono ?_
      rintro e w1 ⟨rfl, hb1⟩
      have HP1 := Lib.hid (HP0.out.lift hb1)
      clear hb1 HP0
      go_wp2_with fail
      go_at_call 83
      refine (HNm.out _ HP1.out.rd).mono ?_
      rintro e w2 ⟨rfl, hr2, hg2⟩
      have HB2 := Lib.hid (RA.mk' (HP1.out.call hr2 hg2) [.int .i64 tp, .string tx, .slice none 0 0, .int .i64 0, .int .i64 0, .string ⟨#[]⟩, .int .i64 0, .slice none 0 0, .slice none 0 0, .int .i64 0, .string ⟨#[]⟩, .int .i64 0, .int .i64 0, .slice none 0 0])
      clear hr2 hg2 HP1 HT1 HNm
      go_wp2_with fail
      generalize (w2.alloc (.cells #[.int .i64 tp, .string tx, .slice none 0 0, .int .i64 0, .int .i64 0, .string ⟨#[]⟩, .int .i64 0, .slice none 0 0, .slice none 0 0, .int .i64 0, .string ⟨#[]⟩, .int .i64 0, .int .i64 0, .slice none 0 0] 61)) = w3 at *
      generalize w2.heap.size = R1 at *
      go_loopg [] f (fun k wr => ∃ (s2 : St) (acc : List ByteArray) (sv : Value), Hid (yVars k ts s2 acc = some (vs, s3)) ∧ acc.length + k ≤ f ∧ k ≤ f ∧ Hid (RA ea w wr b w.heap.size R1 ts s2 [.int .i64 tp, .string tx, sv, .int .i64 0, .int .i64 0, .string ⟨#[]⟩, .int .i64 0, .slice none 0 0, .slice none 0 0, .int .i64 0, .string ⟨#[]⟩, .int .i64 0, .int .i64 0, .slice none 0 0] sv acc))
      case atStart => exact ⟨s1, [], _, HVs, by simp, Nat.le_refl _, HB2⟩
      case round =>
        clear HB2 HVs
        obtain ⟨s2, acc, sv, HV2, hal, hkf, HB2⟩ := hrel
        obtain ⟨sa, sc, rfl, -, -⟩ := HB2.out.row.slice
        have HT2 := Lib.hid (HT.out s2)
        have HN2 := Lib.hid (HV.out s2)
        rcases vars_cases HV2.out with ⟨hq, rfl, rfl⟩ | ⟨hq, g', rfl, hrest⟩
        · clear HV2 HN2 HT HV
          generalize yK ts s3 = yk at *
          generalize yT ts s3 = yt at *
          generalize yP ts s3 = yp at *
          go_wp2_with fail
          go_at_call 48
          refine (HT2.out _ HB2.out.pa.rd).mono ?_
          rintro e w4 ⟨rfl, hb4⟩
          have HB4 := Lib.hid (HB2.out.lift hb4)
          clear hb4 HB2
          go_wp2_with fail
          go_at_call 84
          refine (HMk3.out _ HB4.out.pa.rd).mono ?_
          rintro e w5 ⟨rfl, hr5, hg5⟩
          have HB5 := Lib.hid (HB4.out.call hr5 hg5)
          clear hr5 hg5 HB4
          go_wp2_with fail
          go_at_call 28
          refine (HE.out _ HB5.out.pa.rd).mono ?_
          rintro e w6 ⟨c, rfl, hrep, hr6, hg6⟩
          have HB6 := Lib.hid (HB5.out.call hr6 hg6)
          have HRp := Lib.hid (hrep.imp_lt HB5.out.lt)
          obtain ⟨ka, kc, aa, ac, uk, un, ui, uh, ua, ul, uc, rfl⟩ := hrep.form
          clear hr6 hg6 HB5 hrep
          go_upto_region 6 with (refine wpList_storeM (t := 61) (ty := 34) rfl _ _ rfl R1 3 _ [.int .i64 a.k, .int .i64 a.p, .string a.n, .int .i64 a.m, .slice ka a.kids.length kc, .slice aa a.arms.length ac, .int .i64 uk, .string un, .int .i64 ui, .int .i64 uh, .slice ua ul uc] HB6.out.box rfl rfl HRp.out.size (by simp) HRp.out.len.2 ?_; intro w7 hB7 hg7)
          have hB7' : BoxC 61 w7 R1 [.int .i64 tp, .string tx, .slice sa vs.length sc, .int .i64 a.k, .int .i64 a.p, .string a.n, .int .i64 a.m, .slice ka a.kids.length kc, .slice aa a.arms.length ac, .int .i64 uk, .string un, .int .i64 ui, .int .i64 uh, .slice ua ul uc] := hB7
          have hb := HB6.out.pa.hb
          have h0 := HB6.out.pa.h0
          have h1 := HB6.out.h1
          have HP7 : Hid (PA ea w w7 b w.heap.size ts s5) := ⟨HB6.out.pa.rd.other (by omega) hg7, HB6.out.pa.res.grown hg7 (by intro e; have := Option.some.inj e; omega), grown_fresh HB6.out.pa.grown hg7 (fun k e => by have := Option.some.inj e; omega), h0, hb⟩
          have HRw7 := Lib.hid (row_str HB6.out.row hg7 (HB6.out.row.off (by omega)))
          have HRp7 := Lib.hid (HRp.out.kept (w' := w7) (S' := fun g => R1 < g) (fun _ h => h) (fun g h2 h3 => hg7.block g h3 (by intro e; have := Option.some.inj e; omega)))
          have HAm : Hid (AmE.rep w7 (fun g => R1 < g) (⟨tp, tx, vs⟩, a) [.int .i64 tp, .string tx, .slice sa vs.length sc, .int .i64 a.k, .int .i64 a.p, .string a.n, .int .i64 a.m, .slice ka a.kids.length kc, .slice aa a.arms.length ac, .int .i64 uk, .string un, .int .i64 ui, .int .i64 uh, .slice ua ul uc]) := ⟨_, _, rfl, HRw7.out.slG (fun _ h => h.elim) (fun b hb => hb), HRp7.out⟩
          clear hB7 hg7 HB6 HRp HRw7 HRp7 hb
          obtain ⟨d0, d1, d2, d3, d4, d5, d6, d7, d8, d9, d10, d11, d12, d13⟩ := hB7'.all14
          go_wp2_with (refine wpList_storeC rfl _ _ rfl _ _ _ HP7.out.res rfl rfl (HAm.out |> am_size) (HAm.out |> am_len0) (AmE.len HAm.out).2 ?_; intro v8 hB8 hg8 hs8)
          obtain ⟨e0, e1, e2, e3, e4, e5, e6, e7, e8, e9, e10, e11, e12, e13⟩ := hB8.all14
          refine bodyPost_ret (by simp [results, Tryz.results86, go_sem, e0, e1, e2, e3, e4, e5, e6, e7, e8, e9, e10, e11, e12, e13]; try rfl) rfl ?_
          exact ⟨_, rfl, AmE.kept (fun _ hg => Nat.le_of_lt (Nat.lt_of_le_of_lt (by omega) hg)) (fun g h2 h3 => hg8.block g h3 (by intro e; have := Option.some.inj e; omega)) HAm.out, HP7.out.fin hg8⟩
        · have hlt2 := (yK_lt (ts := ts) (s := s2) (by have : yK ts s2 = 1 := by simpa using hq
                                                       rw [this]; decide)).2
          rw [hq] at HN2
          have HX : Hid (yExp ts s2 true = xStep s2) := rfl
          rw [HX.out] at HN2
          have HRest := Lib.hid hrest
          clear HV2 hrest HX
          generalize xStep s2 = s2' at *
          generalize yK ts s2 = yk at *
          generalize yT ts s2 = yt at *
          generalize yP ts s2 = yp at *
          go_wp2_with fail
          go_at_call 48
          refine (HT2.out _ HB2.out.pa.rd).mono ?_
          rintro e w4 ⟨rfl, hb4⟩
          have HB4 := Lib.hid ((HB2.out.lift hb4).lift (Below.refl _ _).drew)
          clear hb4 HB2
          have d2 := HB4.out.box.cell 2 _ rfl
          go_upto_region 3 with fail
          go_region_law
            (first
              | ((with_reducible refine step_call2 83 enterName (.pointer (some ⟨b, 0, none⟩)) (.int .i64 1) (fun u w' => u = .string yt ∧ RA ea w w' b w.heap.size R1 ts s2' [.int .i64 tp, .string tx, .slice sa acc.length sc, .int .i64 0, .int .i64 0, .string ⟨#[]⟩, .int .i64 0, .slice none 0 0, .slice none 0 0, .int .i64 0, .string ⟨#[]⟩, .int .i64 0, .int .i64 0, .slice none 0 0] (.slice sa acc.length sc) acc) ?_ ?_ ?_ ?_); (rfl); (rfl); (exact (HN2.out _ HB4.out.pa.rd).mono fun e w' h => ⟨_, h.1, rfl, HB4.out.call h.2.1 h.2.2⟩); (rintro u w6 ⟨rfl, hv⟩); (have HB6 := Lib.hid hv); (have x2 := hv.box.cell 2 _ rfl); (have hlt6 := hv.lt); (clear hv))
              | ((with_reducible refine step_push_str yt HB6.out.row ?_ (.tmp 15) (.tmp 18) ?_ ?_ w6.heap.size ?_ ?_ (acc.length + 1) ?_ ?_ ?_ ?_); (rfl); (rfl); (rfl); (rfl); (rfl); (rfl); (omega); (exact hlt6); (intro a' c' w7 hrow7 hg7); (have HB7 := Lib.hid (HB6.out.push hrow7 hg7)); (have z2 := HB7.out.box.cell 2 _ rfl); (have f2 := HB7.out.box.free 2)))
          all_goals
            have HB8 := Lib.hid (HB7.out.set 2 (.slice a' (acc.length + 1) c'))
            generalize w7.setCell ⟨R1, 2, none⟩ (.slice a' (acc.length + 1) c') = w8 at *
            clear z2 f2 x2 d2 HB7 HB6 HB4 hrow7 hg7
            go_wp2_with fail
            go_roundg g'
            case measure => omega
            case rel => exact ⟨s2', acc ++ [yt], _, HRest, by simp; omega, by omega, HB8⟩
end Go.Proofs.YtgcefodgjhlbeaaGreatDoor

namespace Go.Proofs.YtgcefodgjhlbeaaGreatDoor
open Go.RowKit Go.Maps Mth

theorem arms_cases {g : Nat} {ts : List Tok} {s j : St} {acc l : List (AH × Ex)} (h : yArms g ts s acc = some (l, j)) :
  (yM ts s ⟨#[124]⟩ = false ∧ l = acc ∧ j = s) ∨ (yM ts s ⟨#[124]⟩ = true ∧ ∃ g' A m, g = g' + 1 ∧ yArm g' ts (xStep s) = some (A, m) ∧ yArms g' ts m (acc ++ [A]) = some (l, j)) := by
 cases g with
 | zero => simp [yArms] at h
 | succ g =>
  unfold yArms at h
  cases h1 : yM ts s ⟨#[124]⟩ with
  | false =>
   rw [h1] at h
   simp only [Bool.false_eq_true, if_false, Option.some.injEq, Prod.mk.injEq] at h
   exact .inl ⟨rfl, h.1.symm, h.2.symm⟩
  | true =>
   rw [h1] at h
   simp only [if_true] at h
   cases h2 : yArm g ts (xStep s) with
   | none => rw [h2] at h; simp at h
   | some p =>
    obtain ⟨A, m⟩ := p
    rw [h2] at h
    exact .inr ⟨rfl, g, A, m, rfl, h2, h⟩
theorem am_form {w : World} {S : Nat → Prop} {A : AH × Ex} {c : List Value} (h : AmE.rep w S A c) :
  ∃ va vl vc ka kc aa ac tk tn ti th ta tl tcap, c = [.int .i64 A.1.pos, .string A.1.con, .slice va vl vc, .int .i64 A.2.k, .int .i64 A.2.p, .string A.2.n, .int .i64 A.2.m, .slice ka A.2.kids.length kc, .slice aa A.2.arms.length ac, .int .i64 tk, .string tn, .int .i64 ti, .int .i64 th, .slice ta tl tcap] := by
 obtain ⟨vv, cb, rfl, h1, h2⟩ := h
 obtain ⟨va, vc, rfl, -⟩ := h1.slice
 obtain ⟨ka, kc, aa, ac, tk, tn, ti, th, ta, tl, tcap, rfl⟩ := h2.form
 exact ⟨_, _, _, _, _, _, _, _, _, _, _, _, _, _, rfl⟩
structure CA (ea : Addr) (w v : World) (b R0 R1 B2 : Nat) (ts : List Tok) (s : St) (c : List Value) (a : Ex) (kv sv : Value) (l : List (AH × Ex)) : Prop where
 eb : EB ea w v b R0 R1 ts s c
 kid : SlG ExE v (fun g => R1 < g ∧ g < B2) [a] kv
 row : RowG AmE v B2 (fun g => B2 ≤ g) sv l
 h2 : R1 < B2
 h3 : B2 ≤ v.heap.size
theorem CA.call {ea : Addr} {w v v' : World} {b R0 R1 B2 : Nat} {ts : List Tok} {s s' : St} {c : List Value} {a : Ex} {kv sv : Value} {l : List (AH × Ex)} (h : CA ea w v b R0 R1 B2 ts s c a kv sv l) (hr : RdY ea v' b ts s') (hg : v.grownBy v' (some b)) : CA ea w v' b R0 R1 B2 ts s' c a kv sv l := by
 have h0 := h.eb.h0; have hb := h.eb.hb; have h1 := h.eb.h1; have h2 := h.h2
 exact ⟨h.eb.call hr hg, h.kid.kept (fun _ h => h) (fun g h3 h4 => hg.block g h4 (by intro e; have := Option.some.inj e; have := h3.1; omega)), h.row.kept hg (h.row.off (by omega)) (fun g h3 e => by have := Option.some.inj e; omega), h2, Nat.le_trans h.h3 hg.size⟩
theorem CA.lift {ea : Addr} {w v v' : World} {b R0 R1 B2 : Nat} {ts : List Tok} {s : St} {c : List Value} {a : Ex} {kv sv : Value} {l : List (AH × Ex)} (h : CA ea w v b R0 R1 B2 ts s c a kv sv l) (hb : Below v.heap.size v v') : CA ea w v' b R0 R1 B2 ts s c a kv sv l := h.call (h.eb.rd.lift hb) (below_grown_some hb b)
theorem CA.push {ea : Addr} {w v v' : World} {b R0 R1 B2 : Nat} {ts : List Tok} {s : St} {c : List Value} {a : Ex} {kv sv sv' : Value} {l l' : List (AH × Ex)} (h : CA ea w v b R0 R1 B2 ts s c a kv sv l) (hrow : RowG AmE v' B2 (fun g => B2 ≤ g) sv' l') (hg : v.grownBy v' sv.ownBlock) : CA ea w v' b R0 R1 B2 ts s c a kv sv' l' := by
 have h0 := h.eb.h0; have hb := h.eb.hb; have h1 := h.eb.h1; have h2 := h.h2
 cases hv : sv.ownBlock with
 | none =>
  rw [hv] at hg
  have hbl : Below v.heap.size v v' := ⟨hg.os, hg.tape, hg.output, hg.size, fun i hi => hg.block i hi (by simp)⟩
  have := h.lift hbl
  exact ⟨this.eb, this.kid, hrow, h2, this.h3⟩
 | some k =>
  rw [hv] at hg
  have hk := (h.row.lt k hv).1
  exact ⟨⟨h.eb.rd.other (by omega) hg, h.eb.res.grown hg (by intro e; have := Option.some.inj e; omega), h.eb.box.grown hg (by intro e; have := Option.some.inj e; omega), grown_fresh h.eb.grown hg (fun i e => by have := Option.some.inj e; omega), h0, h1, hb⟩,
   h.kid.kept (fun _ h => h) (fun g h3 h4 => hg.block g h4 (by intro e; have := Option.some.inj e; have := h3.2; omega)), hrow, h2, Nat.le_trans h.h3 hg.size⟩
theorem CA.set {ea : Addr} {w v : World} {b R0 R1 B2 : Nat} {ts : List Tok} {s : St} {c : List Value} {a : Ex} {kv sv : Value} {l : List (AH × Ex)} (h : CA ea w v b R0 R1 B2 ts s c a kv sv l) (m : Nat) (u : Value) : CA ea w (v.setCell ⟨R1, m, none⟩ u) b R0 R1 B2 ts s (c.set m u) a kv sv l := by
 obtain ⟨-, h2, h3⟩ := h.eb.box.set m u
 have h1 := h.eb.h1; have h12 := h.h2
 exact ⟨h.eb.set m u, h.kid.kept (fun _ h => h) (fun g h3 h4 => h2.block g h4 (by intro e; have := Option.some.inj e; have := h3.1; omega)), h.row.kept h2 (h.row.off (by omega)) (fun g h3 e => by have := Option.some.inj e; omega), h12, by rw [h3]; exact h.h3⟩
theorem row_one {w : World} {S : Nat → Prop} {A : AH × Ex} {c : List Value} (h : AmE.rep w S A c) (n base : Nat) (hn : n = w.heap.size) (hb : base ≤ n) (S' : Nat → Prop) (hS : ∀ g, S g → S' g) : RowG AmE (w.alloc (.cells c.toArray 61)) base S' (.slice (some ⟨n, 0, none⟩) 1 1) [A] := by
 subst hn
 have hl := (AmE.len h).1
 refine ⟨[c], ⟨by simp; exact hl, .inr ⟨w.heap.size, 1, c.toArray, rfl, hb, heap_alloc_new w _, Nat.le_refl _, by simp [maxLen], by simp; exact hl, by simp; rw [List.take_of_length_le (by rw [hl]; exact Nat.le_refl _)]⟩⟩, rfl, fun j x hx => ?_⟩
 cases j with
 | zero =>
  simp at hx; subst hx
  refine ⟨c, rfl, AmE.kept (fun g hg => ⟨hS g hg.1, ?_⟩) (fun g hg hl => ((Below.refl _ w).alloc (Nat.le_refl _) _).block g hl) (AmE.bound h)⟩
  intro e
  have := Option.some.inj e
  have := hg.2
  simp at *
  omega
 | succ j => simp at hx
theorem CA.first {ea : Addr} {w v : World} {b R0 R1 B2 : Nat} {ts : List Tok} {s : St} {c : List Value} {a : Ex} {kv : Value} (heb : EB ea w v b R0 R1 ts s c) (hkid : SlG ExE v (fun g => R1 < g ∧ g < B2) [a] kv) (h2 : R1 < B2) (h3 : B2 ≤ v.heap.size) {A : AH × Ex} {d : List Value} (hA : AmE.rep v (fun g => B2 ≤ g) A d) :
  CA ea w ((v.setCell ⟨R1, 5, none⟩ (.slice (some ⟨v.heap.size, 0, none⟩) 1 1)).alloc (.cells d.toArray 61)) b R0 R1 B2 ts s (c.set 5 (.slice (some ⟨v.heap.size, 0, none⟩) 1 1)) a kv (.slice (some ⟨v.heap.size, 0, none⟩) 1 1) [A] := by
 obtain ⟨-, hg, hs⟩ := heb.box.set 5 (.slice (some ⟨v.heap.size, 0, none⟩) 1 1)
 have hA' := AmE.kept (w' := v.setCell ⟨R1, 5, none⟩ (.slice (some ⟨v.heap.size, 0, none⟩) 1 1)) (fun _ h => h) (fun g h4 h5 => hg.block g h5 (by intro e; have := Option.some.inj e; omega)) hA
 have hb : Below (v.setCell ⟨R1, 5, none⟩ (.slice (some ⟨v.heap.size, 0, none⟩) 1 1)).heap.size (v.setCell ⟨R1, 5, none⟩ (.slice (some ⟨v.heap.size, 0, none⟩) 1 1)) ((v.setCell ⟨R1, 5, none⟩ (.slice (some ⟨v.heap.size, 0, none⟩) 1 1)).alloc (.cells d.toArray 61)) := (Below.refl _ _).alloc (Nat.le_refl _) _
 exact ⟨(heb.set 5 _).lift hb, (hkid.kept (fun _ h => h) (fun g h4 h5 => hg.block g h5 (by intro e; have := Option.some.inj e; have := h4.1; omega))).kept (fun _ h => h) (fun g _ h5 => hb.block g h5), row_one hA' _ B2 hs.symm (by omega) _ (fun _ h => h), h2, Nat.le_trans (by rw [hs]; exact h3) hb.size⟩
theorem step_push_am {w : World} {ops : Array Oper} {o : Oper} {a : Act} {K : Act → World → Prop} {Q : Exit → Act → World → Prop} {E' : Prop} {base : Nat} {sa : Option Addr} {n sc : Nat} {acc : List (AH × Ex)} {A : AH × Ex} {c : List Value} (hA : AmE.rep w (fun g => base ≤ g ∧ some g ≠ (Value.slice sa n sc).ownBlock) A c) (hrow : RowG AmE w base (fun g => base ≤ g) (.slice sa n sc) acc)
  (hgd : o.guard = none) (s x : Operand) (ho : o.op = .call { callee := .builtin .append, args := #[s, x], argTypes := #[29, 29] }) (hs : a.eval s = .slice sa n sc) (nn : Nat) (hnn : nn = w.heap.size) (hx : a.eval x = .slice (some ⟨nn, 0, none⟩) 1 1)
  (N : Nat) (hN : N = acc.length + 1) (hb : N ≤ 1000000) (hbase : base ≤ w.heap.size)
  (hK : ∀ (a' : Option Addr) (c' : Nat) (w' : World), RowG AmE w' base (fun g => base ≤ g) (.slice a' N c') (acc ++ [A]) → w.grownBy w' (Value.slice sa n sc).ownBlock → K (a.put o.dst (.slice a' N c')) w') :
  if Region.wanted o (yielded ops a.tmps) = true then Oper.wp Tryz.prog o a (w.alloc (.cells c.toArray 61)) K Q else E' := by
 subst hnn
 have hba : Below w.heap.size w (w.alloc (.cells c.toArray 61)) := (Below.refl _ w).alloc (Nat.le_refl _) _
 exact step_pushG AmE hgd s x ho base (fun g => base ≤ g) (.slice sa n sc) acc hs (hrow.lift hba) w.heap.size 61 c (heap_alloc_new w _) hx A (AmE.kept (fun _ h => h) (fun g _ hl => hba.block g hl) hA) N hN hb (Nat.le_trans hbase hba.size) fun a' c' w' h1 h2 => hK a' c' w' h1 (grown_trans (World.grownBy_alloc w _ _) h2)
theorem enterArm (v : Value) (w : World) : (callFunc 86 #[v]).run Tryz.prog w = .ok (.enter 86 #[v]) w := by kernel_rfl
set_option maxRecDepth 100000 in
set_option maxHeartbeats 6400000 in
theorem yCas_of (ts : List Tok) (s : St) (f : Nat) (hf : f ≤ 900000) (hs : s.i < ts.length) (H : ∀ s, YAt 28 #[] ts s (yExpr f ts s)) (HA : ∀ g, g ≤ f → ∀ s, YAtA 86 ts s (yArm g ts s)) : YAt 53 #[] ts s (yCas (f + 1) ts s) := by
 intro T j hr ea b base w hbb hbase h
 unfold yCas at hr
 have HSk := Lib.hid (fun (V : World) (h : RdY ea V b ts s) => ySkip_any ea b ts s V h hs)
 have HOf := Lib.hid (fun (s : St) (V : World) (h : RdY ea V b ts s) => yWord_any ⟨#[111, 102]⟩ ea b ts s V h)
 have HEn := Lib.hid (fun (s : St) (V : World) (h : RdY ea V b ts s) => yWord_any ⟨#[101, 110, 100]⟩ ea b ts s V h)
 have HT := Lib.hid (fun (s : St) (V : World) (h : RdY ea V b ts s) => yTok_any ea b ts s V h)
 have HR := Lib.hid h
 have HP0 := Lib.hid (PB.start HR.out)
 generalize xStep s = s1 at *
 generalize tkP ts s.i = p at *
 cases hE : yExpr f ts s1 with
 | none => rw [hE] at hr; simp at hr
 | some q =>
  obtain ⟨a, s2⟩ := q
  rw [hE] at hr
  simp only at hr
  have HOf2 := Lib.hid (HOf.out s2)
  generalize yExp ts s2 (yW ts s2 ⟨#[111, 102]⟩) = s3 at *
  cases hA : yArm f ts s3 with
  | none => rw [hA] at hr; simp at hr
  | some q2 =>
   obtain ⟨A0, s4⟩ := q2
   rw [hA] at hr
   simp only at hr
   cases hL : yArms f ts s4 [A0] with
   | none => rw [hL] at hr; simp at hr
   | some q3 =>
    obtain ⟨l, s5⟩ := q3
    rw [hL] at hr
    simp only [Option.some.injEq, Prod.mk.injEq] at hr
    obtain ⟨rfl, rfl⟩ := hr
    have HEn5 := Lib.hid (HEn.out s5)
    generalize yExp ts s5 (yW ts s5 ⟨#[101, 110, 100]⟩) = s6 at *
    have HE := Lib.hid (fun (V : World) (h : RdY ea V b ts s1) => H s1 a s2 hE ea b V.heap.size V h.lt (Nat.le_refl _) h)
    have HE2 := Lib.hid (fun (V : World) (h : RdY ea V b ts s3) => HA f (Nat.le_refl _) s3 A0 s4 hA ea b V.heap.size V h.lt (Nat.le_refl _) h)
    have HAs := Lib.hid hL
    have HAt := Lib.hid HA
    clear h H HA hE hA hL HOf HEn
    go_enter Tryz.func53, Tryz.ntmps53
    go_upto_region 1 with fail
    generalize (w.alloc (.cells #[.int .i64 0, .int .i64 0, .string ⟨#[]⟩, .int .i64 0, .slice none 0 0, .slice none 0 0, .int .i64 0, .string ⟨#[]⟩, .int .i64 0, .int .i64 0, .slice none 0 0] 34)) = w0 at *
    go_wp2_with fail
    go_at_call 65
    refine (HSk.out _ HP0.out.rd).mono ?_
    rintro e w1 ⟨rfl, hr1, hg1⟩
    have HB1 := Lib.hid ((HP0.out.call hr1 hg1).mk' [.int .i64 8, .int .i64 p, .string ⟨#[]⟩, .int .i64 0, .slice none 0 0, .slice none 0 0, .int .i64 0, .string ⟨#[]⟩, .int .i64 0, .int .i64 0, .slice none 0 0])
    clear hr1 hg1 HP0
    go_upto_region 2 with fail
    generalize (w1.alloc (.cells #[.int .i64 8, .int .i64 p, .string ⟨#[]⟩, .int .i64 0, .slice none 0 0, .slice none 0 0, .int .i64 0, .string ⟨#[]⟩, .int .i64 0, .int .i64 0, .slice none 0 0] 34)) = v1 at *
    generalize w1.heap.size = R1 at *
    go_wp2_with fail
    go_at_call 28
    refine (HE.out _ HB1.out.rd).mono ?_
    rintro e v5 ⟨c, rfl, hrep, hr5, hg5⟩
    have HB5 := Lib.hid (HB1.out.call hr5 hg5)
    have hlt4 := HB1.out.lt
    have hlt5 := HB5.out.lt
    obtain ⟨ka, kc, aa, ac, tk, tn, ti, th, ta, tl, tc, rfl⟩ := hrep.form
    have c4 := HB5.out.box.cell 4 _ rfl
    have f4 := HB5.out.box.free 4
    obtain ⟨-, hg6, hs6⟩ := HB5.out.box.set 4 (.slice (some ⟨v5.heap.size, 0, none⟩) 1 1)
    have HB6 := Lib.hid (HB5.out.set 4 (.slice (some ⟨v5.heap.size, 0, none⟩) 1 1))
    have hrep6 := hrep.kept (w' := v5.setCell ⟨R1, 4, none⟩ (.slice (some ⟨v5.heap.size, 0, none⟩) 1 1)) (S' := fun g => R1 < g) (fun _ hg => Nat.lt_of_lt_of_le hlt4 hg) (fun g hg hl => hg6.block g hl (by intro e; have := Option.some.inj e; omega))
    have HK := Lib.hid (one_newE (S' := fun g => R1 < g) hrep6 34 v5.heap.size hs6.symm (fun _ hg => hg) hlt5).bound
    have HB7 := Lib.hid (HB6.out.lift ((Below.refl _ _).alloc (Nat.le_refl _) (.cells #[.int .i64 a.k, .int .i64 a.p, .string a.n, .int .i64 a.m, .slice ka a.kids.length kc, .slice aa a.arms.length ac, .int .i64 tk, .string tn, .int .i64 ti, .int .i64 th, .slice ta tl tc] 34)))
    clear hr5 hg5 HB5 HB1 hrep hrep6 hg6 hs6 HB6
    go_upto_region 3 with fail
    generalize v5.heap.size = n5 at *
    generalize (v5.setCell ⟨R1, 4, none⟩ (.slice (some ⟨n5, 0, none⟩) 1 1)).alloc (.cells #[.int .i64 a.k, .int .i64 a.p, .string a.n, .int .i64 a.m, .slice ka a.kids.length kc, .slice aa a.arms.length ac, .int .i64 tk, .string tn, .int .i64 ti, .int .i64 th, .slice ta tl tc] 34) = v7 at *
    clear c4 f4
    go_wp2_with fail
    go_at_call 85
    refine (HOf2.out _ HB7.out.rd).mono ?_
    rintro e v8 ⟨rfl, hr8, hg8⟩
    have HB8 := Lib.hid (HB7.out.call hr8 hg8)
    have hR1b : R1 < v7.heap.size := HB7.out.lt
    have hbR : b < R1 := by have := HB7.out.hb; have := HB7.out.h0; have := HB7.out.h1; omega
    have HK8 : Hid (SlG ExE v8 (fun g => R1 < g ∧ g < v7.heap.size) [a] (.slice (some ⟨n5, 0, none⟩) 1 1)) := HK.out.kept (fun _ h => h) (fun g h3 h4 => hg8.block g h4 (by intro e; have := Option.some.inj e; have := h3.1; omega))
    have hsz8 := hg8.size
    clear hr8 hg8 HB7 HK
    generalize v7.heap.size = B2 at *
    go_wp2_with fail
    go_at_call 86
    refine (HE2.out _ HB8.out.rd).mono ?_
    rintro e v9 ⟨d, rfl, hrep, hr9, hg9⟩
    obtain ⟨va, vl, vc, kb, kd, ab, ad, uk, un, ui, uh, ua, ul, uc, rfl⟩ := am_form hrep
    have HB9 := Lib.hid (HB8.out.call hr9 hg9)
    have hsz9 := hg9.size
    have HK9 : Hid (SlG ExE v9 (fun g => R1 < g ∧ g < B2) [a] (.slice (some ⟨n5, 0, none⟩) 1 1)) := HK8.out.kept (fun _ h => h) (fun g h3 h4 => hg9.block g h4 (by intro e; have := Option.some.inj e; have := h3.1; omega))
    have c5 := HB9.out.box.cell 5 _ rfl
    have f5 := HB9.out.box.free 5
    have hlt9 : R1 < v9.heap.size := HB9.out.lt
    have HC9 := Lib.hid (CA.first HB9.out HK9.out hR1b (by omega) (AmE.kept (fun _ h => Nat.le_trans hsz8 h) (fun _ _ _ => rfl) hrep))
    clear hr9 hg9 hrep HB8 HK8 HB9 HK9 hsz8 hsz9
    go_wp2_with fail
    clear c5 f5 hlt9
    obtain ⟨v10, hv10⟩ : ∃ v10, v10 = (v9.setCell ⟨R1, 5, none⟩ (.slice (some ⟨v9.heap.size, 0, none⟩) 1 1)).alloc (.cells #[.int .i64 A0.1.pos, .string A0.1.con, .slice va vl vc, .int .i64 A0.2.k, .int .i64 A0.2.p, .string A0.2.n, .int .i64 A0.2.m, .slice kb A0.2.kids.length kd, .slice ab A0.2.arms.length ad, .int .i64 uk, .string un, .int .i64 ui, .int .i64 uh, .slice ua ul uc] 61) := ⟨_, rfl⟩
    have HB10 : Hid (CA ea w v10 b w.heap.size R1 B2 ts s4 [.int .i64 8, .int .i64 p, .string ⟨#[]⟩, .int .i64 0, .slice (some ⟨n5, 0, none⟩) 1 1, .slice (some ⟨v9.heap.size, 0, none⟩) 1 1, .int .i64 0, .string ⟨#[]⟩, .int .i64 0, .int .i64 0, .slice none 0 0] a (.slice (some ⟨n5, 0, none⟩) 1 1) (.slice (some ⟨v9.heap.size, 0, none⟩) 1 1) [A0]) := by rw [hv10]; exact HC9.out
    rw [← hv10]
    clear hv10 HC9
    generalize v9.heap.size = n9 at *
    go_loopg [] f (fun k wr => ∃ (s7 : St) (acc : List (AH × Ex)) (sa : Option Addr) (sc : Nat), Hid (yArms k ts s7 acc = some (l, s5)) ∧ acc.length + k ≤ f + 1 ∧ k ≤ f ∧ Hid (CA ea w wr b w.heap.size R1 B2 ts s7 [.int .i64 8, .int .i64 p, .string ⟨#[]⟩, .int .i64 0, .slice (some ⟨n5, 0, none⟩) 1 1, .slice sa acc.length sc, .int .i64 0, .string ⟨#[]⟩, .int .i64 0, .int .i64 0, .slice none 0 0] a (.slice (some ⟨n5, 0, none⟩) 1 1) (.slice sa acc.length sc) acc))
    case atStart => exact ⟨s4, [A0], _, _, HAs, by simp; omega, Nat.le_refl _, HB10⟩
    case round =>
     clear HB10 HAs
     obtain ⟨s7, acc, sa, sc, HV2, hal, hkf, HB2⟩ := hrel
     have HT2 := Lib.hid (HT.out s7)
     have HM : Hid (∀ V, Calls Tryz.prog 49 #[.agg #[.int .i64 (yK ts s7), .string (yT ts s7), .int .i64 (yP ts s7)], .string ⟨#[124]⟩] V fun e w' => e = .returned (.bool (yM ts s7 ⟨#[124]⟩)) ∧ Below V.heap.size V w') := fun V => xMark_any _ _ _ _ V
     generalize yK ts s7 = yk at HT2 HM
     generalize yT ts s7 = yt at HT2 HM
     generalize yP ts s7 = yp at HT2 HM
     rcases arms_cases HV2.out with ⟨hq, rfl, rfl⟩ | ⟨hq, g', A, m, rfl, hA, hrest⟩
     ·rw [hq] at HM
      clear hq HV2 HT
      go_wp2_with fail
      go_at_call 48
      refine (HT2.out _ HB2.out.eb.rd).mono ?_
      rintro e x1 ⟨rfl, hb4⟩
      have HB4 := Lib.hid (HB2.out.lift hb4)
      clear hb4 HB2
      go_wp2_with fail
      go_at_call 49
      refine (HM.out _).mono ?_
      rintro e x2 ⟨rfl, hb5⟩
      have HB5 := Lib.hid (HB4.out.lift hb5)
      clear hb5 HB4
      go_wp2_with fail
      go_at_call 85
      refine (HEn5.out _ HB5.out.eb.rd).mono ?_
      rintro e x3 ⟨rfl, hr6, hg6⟩
      have HB6 := Lib.hid (HB5.out.call hr6 hg6)
      clear hr6 hg6 HB5
      have h2 := HB6.out.h2
      have HRes : Hid (RepE x3 (fun g => R1 < g) (.mk 8 p ⟨#[]⟩ 0 zTy [a] l) [.int .i64 8, .int .i64 p, .string ⟨#[]⟩, .int .i64 0, .slice (some ⟨n5, 0, none⟩) 1 1, .slice sa l.length sc, .int .i64 0, .string ⟨#[]⟩, .int .i64 0, .int .i64 0, .slice none 0 0]) :=
       RepE.close (Nat.zero_le _) (HB6.out.kid.kept (fun _ h => h.1) (fun _ _ _ => rfl)) (HB6.out.row.slG (fun _ h => Nat.lt_of_lt_of_le h2 h) (fun _ h => Nat.lt_of_lt_of_le h2 h)) (rep_zTy _ _)
      obtain ⟨d0, d1, d2, d3, d4, d5, d6, d7, d8, d9, d10⟩ := HB6.out.eb.box.all11
      go_wp2_with (refine wpList_storeC rfl _ _ rfl _ _ _ HB6.out.eb.res rfl rfl HRes.out.size HRes.out.len0 HRes.out.len.2 ?_; intro v8 hB8 hg8 hs8)
      obtain ⟨e0, e1, e2, e3, e4, e5, e6, e7, e8, e9, e10⟩ := hB8.all11
      refine bodyPost_ret (by simp [results, Tryz.results53, go_sem, e0, e1, e2, e3, e4, e5, e6, e7, e8, e9, e10]; try rfl) rfl ?_
      exact ⟨_, rfl, HB6.out.eb.ret HRes.out hbase hg8⟩
     ·have hlt7 := (yM_lt hq).2
      rw [hq] at HM
      have HSk7 := Lib.hid (fun (V : World) (h : RdY ea V b ts s7) => ySkip_any ea b ts s7 V h hlt7)
      have HAr := Lib.hid (fun (V : World) (h : RdY ea V b ts (xStep s7)) => HAt.out g' (by omega) (xStep s7) A m hA ea b V.heap.size V h.lt (Nat.le_refl _) h)
      have HRest := Lib.hid hrest
      clear hq HV2 hA hrest
      generalize xStep s7 = s8 at *
      generalize tkP ts s7.i = p7 at *
      go_wp2_with fail
      go_at_call 48
      refine (HT2.out _ HB2.out.eb.rd).mono ?_
      rintro e x1 ⟨rfl, hb4⟩
      have HB4 := Lib.hid (HB2.out.lift hb4)
      clear hb4 HB2
      go_wp2_with fail
      go_at_call 49
      refine (HM.out _).mono ?_
      rintro e x2 ⟨rfl, hb5⟩
      have HB5 := Lib.hid (HB4.out.lift hb5)
      clear hb5 HB4
      go_wp2_with fail
      go_at_call 65
      refine (HSk7.out _ HB5.out.eb.rd).mono ?_
      rintro e x3 ⟨rfl, hr6, hg6⟩
      have HB6 := Lib.hid ((HB5.out.call hr6 hg6).lift (Below.refl _ _).drew)
      clear hr6 hg6 HB5
      have d5 := HB6.out.eb.box.cell 5 _ rfl
      go_upto_region 7 with fail
      go_region_law
       (first
        | ((with_reducible refine step_call1 86 enterArm (.pointer (some ⟨b, 0, none⟩)) (fun u w' => ∃ d, u = .agg (List.toArray d) ∧ AmE.rep w' (fun g => B2 ≤ g ∧ some g ≠ (Value.slice sa acc.length sc).ownBlock) A d ∧ CA ea w w' b w.heap.size R1 B2 ts m [.int .i64 8, .int .i64 p, .string ⟨#[]⟩, .int .i64 0, .slice (some ⟨n5, 0, none⟩) 1 1, .slice sa acc.length sc, .int .i64 0, .string ⟨#[]⟩, .int .i64 0, .int .i64 0, .slice none 0 0] a (.slice (some ⟨n5, 0, none⟩) 1 1) (.slice sa acc.length sc) acc) ?_ ?_ ?_); (rfl); (exact (HAr.out _ HB6.out.eb.rd).mono fun e w' h => by obtain ⟨d, h1, h2, h3, h4⟩ := h; exact ⟨_, h1, d, rfl, AmE.kept (fun g hg => ⟨Nat.le_trans HB6.out.h3 hg, fun e => by have := (HB6.out.row.lt g e.symm).2; omega⟩) (fun _ _ _ => rfl) h2, HB6.out.call h3 h4⟩); (rintro u w6 ⟨d, rfl, hrep, hv⟩); (obtain ⟨va2, vl2, vc2, kb2, kd2, ab2, ad2, uk2, un2, ui2, uh2, ua2, ul2, uc2, rfl⟩ := am_form hrep); (have HRp := Lib.hid hrep); (have HB7 := Lib.hid hv); (have x5 := hv.eb.box.cell 5 _ rfl); (have h36 := hv.h3); (have hlt6 := hv.eb.lt); (clear hv hrep))
        | ((with_reducible refine step_push_am HRp.out HB7.out.row ?_ (.tmp 23) (.tmp 26) ?_ ?_ w6.heap.size ?_ ?_ (acc.length + 1) ?_ ?_ ?_ ?_); (rfl); (rfl); (rfl); (rfl); (rfl); (rfl); (omega); (exact h36); (intro a' c' w7 hrow7 hg7); (have HB8 := Lib.hid (HB7.out.push hrow7 hg7)); (have z5 := HB8.out.eb.box.cell 5 _ rfl); (have f5 := HB8.out.eb.box.free 5)))
      all_goals
       have HB9 := Lib.hid (HB8.out.set 5 (.slice a' (acc.length + 1) c'))
       generalize w7.setCell ⟨R1, 5, none⟩ (.slice a' (acc.length + 1) c') = w8 at *
       clear z5 f5 x5 d5 HB8 HB7 HB6 hrow7 hg7 HRp
       go_wp2_with fail
       go_roundg g'
       case measure => omega
       case rel => exact ⟨m, acc ++ [A], a', c', HRest, by simp; omega, by omega, by rw [List.length_append]; exact HB9⟩
end Go.Proofs.YtgcefodgjhlbeaaGreatDoor

namespace Go.Proofs.YtgcefodgjhlbeaaGreatDoor
open Go.RowKit Go.Maps Mth

def TypAt (ts : List Tok) (s : St) : Prop := ∀ (ea : Addr) (b : Nat) (w : World), RdY ea w b ts s →
  Calls Tryz.prog 94 #[.pointer (some ⟨b, 0, none⟩)] w fun e w' => ∃ c, e = .returned (.agg (List.toArray c)) ∧ Rep w' (fun g => w.heap.size ≤ g) (yTyR ts s).1 (.agg (List.toArray c)) ∧ RdY ea w' b ts (yTyR ts s).2 ∧ w.grownBy w' (some b)
theorem enterTyp (v : Value) (w : World) : (callFunc 94 #[v]).run Tryz.prog w = .ok (.enter 94 #[v]) w := by kernel_rfl
theorem repE_ann {w : World} {S : Nat → Prop} (p : Int) {T : Ty} {tc : List Value} {kids : List Ex} {kv : Value} (h : SlG ExE w S kids kv) (ht : Rep w S T (.agg tc.toArray)) :
  RepE w S (.mk 9 p ⟨#[]⟩ 0 T kids []) (.int .i64 9 :: .int .i64 p :: .string ⟨#[]⟩ :: .int .i64 0 :: kv :: .slice none 0 0 :: tc) := RepE.close (Nat.zero_le _) h (slG_nil AmE w S) ht
theorem rep_form {w : World} {S : Nat → Prop} {T : Ty} {c : List Value} (h : Rep w S T (.agg c.toArray)) : ∃ k n i hh a m cp, c = [.int .i64 k, .string n, .int .i64 i, .int .i64 hh, .slice a m cp] := by
 obtain ⟨k, n, i, hh, a, m, cp, hv⟩ := h.form
 exact ⟨k, n, i, hh, a, m, cp, by simpa using hv⟩
theorem AB.ann {ea : Addr} {w v : World} {b R0 R1 : Nat} {ts : List Tok} {s : St} {c0 c1 c2 c3 c4 c5 c6 c7 c8 c9 c10 : Value} {e : Ex} (h : EB ea w v b R0 R1 ts s [c0, c1, c2, c3, c4, c5, c6, c7, c8, c9, c10]) {kv : Value} (hk : SlG ExE v (fun g => R0 < g ∧ g ≠ R1) [e] kv) (p : Int) {T : Ty} {t0 t1 t2 t3 t4 : Value} (ht : Rep v (fun g => R0 < g ∧ g ≠ R1) T (.agg #[t0, t1, t2, t3, t4])) :
  AB ea w (((((((((((v.setCell ⟨R1, 0, none⟩ (.int .i64 9)).setCell ⟨R1, 1, none⟩ (.int .i64 p)).setCell ⟨R1, 2, none⟩ (.string ⟨#[]⟩)).setCell ⟨R1, 3, none⟩ (.int .i64 0)).setCell ⟨R1, 4, none⟩ (kv)).setCell ⟨R1, 5, none⟩ (.slice none 0 0)).setCell ⟨R1, 6, none⟩ (t0)).setCell ⟨R1, 7, none⟩ (t1)).setCell ⟨R1, 8, none⟩ (t2)).setCell ⟨R1, 9, none⟩ (t3)).setCell ⟨R1, 10, none⟩ (t4)) b R0 R1 ts s [.int .i64 9, .int .i64 p, .string ⟨#[]⟩, .int .i64 0, kv, .slice none 0 0, t0, t1, t2, t3, t4] (.mk 9 p ⟨#[]⟩ 0 T [e] []) := by
 obtain ⟨h1, h2, -⟩ := h.box.set11s (.int .i64 9) (.int .i64 p) (.string ⟨#[]⟩) (.int .i64 0) kv (.slice none 0 0) t0 t1 t2 t3 t4
 exact ⟨h.row h1 h2, repE_ann (tc := [t0, t1, t2, t3, t4]) p (hk.kept (fun _ h => h) (fun g hg hl => h2.block g hl (by intro e; exact hg.2 (Option.some.inj e)))) (ht.kept (fun _ h => h) (fun g hg hl => h2.block g hl (by intro e; exact hg.2 (Option.some.inj e))))⟩
theorem chain_alloc (w : World) (o : Obj) (R : Nat) (h : R < w.heap.size) (v0 v1 v2 v3 v4 v5 v6 v7 v8 v9 v10 : Value) : ((((((((((((w.alloc o).setCell ⟨R, 0, none⟩ v0).setCell ⟨R, 1, none⟩ v1).setCell ⟨R, 2, none⟩ v2).setCell ⟨R, 3, none⟩ v3).setCell ⟨R, 4, none⟩ v4).setCell ⟨R, 5, none⟩ v5).setCell ⟨R, 6, none⟩ v6).setCell ⟨R, 7, none⟩ v7).setCell ⟨R, 8, none⟩ v8).setCell ⟨R, 9, none⟩ v9).setCell ⟨R, 10, none⟩ v10) = (((((((((((w.setCell ⟨R, 0, none⟩ v0).setCell ⟨R, 1, none⟩ v1).setCell ⟨R, 2, none⟩ v2).setCell ⟨R, 3, none⟩ v3).setCell ⟨R, 4, none⟩ v4).setCell ⟨R, 5, none⟩ v5).setCell ⟨R, 6, none⟩ v6).setCell ⟨R, 7, none⟩ v7).setCell ⟨R, 8, none⟩ v8).setCell ⟨R, 9, none⟩ v9).setCell ⟨R, 10, none⟩ v10).alloc o := by
 have hs : ∀ (x : World) a v, (x.setCell a v).heap.size = x.heap.size := fun x a v => by simp [World.setCell]
 simp only [World.setCell_alloc_past, hs, h]
set_option maxRecDepth 100000 in
set_option maxHeartbeats 6400000 in
theorem yEnc_of (ts : List Tok) (s : St) (f : Nat) (p : Int) (H : ∀ s, YAt 28 #[] ts s (yExpr f ts s)) (HTy : ∀ s, yM ts s ⟨#[58]⟩ = true → TypAt ts (xStep s)) : YAt 67 #[.int .i64 p] ts s (yEnc (f + 1) ts s p) := by
 intro T j hr ea b base w hbb hbase h
 unfold yEnc at hr
 have HMk := Lib.hid (fun (s : St) (V : World) (h : RdY ea V b ts s) => yMark_any ⟨#[41]⟩ ea b ts s V h)
 have HR := Lib.hid h
 have HP0 := Lib.hid (PB.start HR.out)
 have hsz0 : w.heap.size < (w.alloc (.cells #[.int .i64 0, .int .i64 0, .string ⟨#[]⟩, .int .i64 0, .slice none 0 0, .slice none 0 0, .int .i64 0, .string ⟨#[]⟩, .int .i64 0, .int .i64 0, .slice none 0 0] 34)).heap.size := by simp
 cases hE : yExpr f ts s with
 | none => rw [hE] at hr; simp at hr
 | some q =>
  obtain ⟨a, s1⟩ := q
  rw [hE] at hr
  simp only at hr
  have HE := Lib.hid (fun (V : World) (h : RdY ea V b ts s) => H s a s1 hE ea b V.heap.size V h.lt (Nat.le_refl _) h)
  have HT := Lib.hid (fun (V : World) (h : RdY ea V b ts s1) => yTok_any ea b ts s1 V h)
  have HM : Hid (∀ V, Calls Tryz.prog 49 #[.agg #[.int .i64 (yK ts s1), .string (yT ts s1), .int .i64 (yP ts s1)], .string ⟨#[58]⟩] V fun e w' => e = .returned (.bool (yM ts s1 ⟨#[58]⟩)) ∧ Below V.heap.size V w') := fun V => xMark_any _ _ _ _ V
  generalize yK ts s1 = yk at HT HM
  generalize yT ts s1 = yt at HT HM
  generalize yP ts s1 = yp at HT HM
  clear h H hE
  cases hq : yM ts s1 ⟨#[58]⟩ with
  | false =>
   rw [hq] at hr HM
   simp only [Bool.false_eq_true, if_false, Option.some.injEq, Prod.mk.injEq] at hr
   obtain ⟨rfl, rfl⟩ := hr
   have HMk1 := Lib.hid (HMk.out s1)
   generalize yExp ts s1 (yM ts s1 ⟨#[41]⟩) = s2 at *
   clear hq HMk HTy
   go_enter Tryz.func67, Tryz.ntmps67
   go_upto_region 1 with fail
   generalize (w.alloc (.cells #[.int .i64 0, .int .i64 0, .string ⟨#[]⟩, .int .i64 0, .slice none 0 0, .slice none 0 0, .int .i64 0, .string ⟨#[]⟩, .int .i64 0, .int .i64 0, .slice none 0 0] 34)) = w0 at *
   go_wp2_with fail
   go_at_call 28
   refine (HE.out _ HP0.out.rd).mono ?_
   rintro e v1 ⟨c, rfl, hrep, hr1, hg1⟩
   obtain ⟨ka, kc, aa, ac, tk, tn, ti, th, ta, tl, tc, rfl⟩ := hrep.form
   have HB1 := Lib.hid (AB.mk' (HP0.out.call hr1 hg1) (hrep.imp_lt hsz0))
   clear hrep hr1 hg1 HP0 hsz0 HE
   go_upto_region 2 with fail
   generalize (v1.alloc (.cells #[.int .i64 a.k, .int .i64 a.p, .string a.n, .int .i64 a.m, .slice ka a.kids.length kc, .slice aa a.arms.length ac, .int .i64 tk, .string tn, .int .i64 ti, .int .i64 th, .slice ta tl tc] 34)) = v2 at *
   generalize v1.heap.size = R1 at *
   go_wp2_with fail
   go_at_call 48
   refine (HT.out _ HB1.out.eb.rd).mono ?_
   rintro e v3 ⟨rfl, hb3⟩
   have HB3 := Lib.hid (HB1.out.lift hb3)
   clear hb3 HB1
   go_wp2_with fail
   go_at_call 49
   refine (HM.out _).mono ?_
   rintro e v4 ⟨rfl, hb4⟩
   have HB4 := Lib.hid (HB3.out.lift hb4)
   clear hb4 HB3
   go_wp2_with fail
   go_at_call 84
   refine (HMk1.out _ HB4.out.eb.rd).mono ?_
   rintro e v5 ⟨rfl, hr5, hg5⟩
   have HB5 := Lib.hid (HB4.out.call hr5 hg5)
   clear hr5 hg5 HB4
   obtain ⟨d0, d1, d2, d3, d4, d5, d6, d7, d8, d9, d10⟩ := HB5.out.eb.box.all11
   go_wp2_with (refine wpList_storeC rfl _ _ rfl _ _ _ HB5.out.eb.res rfl rfl HB5.out.rep.size HB5.out.rep.len0 HB5.out.rep.len.2 ?_; intro v8 hB8 hg8 hs8)
   obtain ⟨e0, e1, e2, e3, e4, e5, e6, e7, e8, e9, e10⟩ := hB8.all11
   refine bodyPost_ret (by simp [results, Tryz.results67, go_sem, e0, e1, e2, e3, e4, e5, e6, e7, e8, e9, e10]; try rfl) rfl ?_
   exact ⟨_, rfl, HB5.out.ret hbase hg8⟩
  | true =>
   have hlt := (yM_lt hq).2
   rw [hq] at hr HM
   simp only [if_true, Option.some.injEq, Prod.mk.injEq] at hr
   obtain ⟨rfl, rfl⟩ := hr
   have HSk := Lib.hid (fun (V : World) (h : RdY ea V b ts s1) => ySkip_any ea b ts s1 V h hlt)
   have HTyp := Lib.hid (HTy s1 hq)
   generalize xStep s1 = s2 at *
   unfold TypAt at HTyp
   obtain ⟨tyv, s3, htr⟩ : ∃ a b, yTyR ts s2 = (a, b) := ⟨_, _, rfl⟩
   rw [htr] at HTyp ⊢
   dsimp only at HTyp ⊢
   have HTyq := Lib.hid (fun V => HTyp.out ea b V)
   have HMk3 := Lib.hid (HMk.out s3)
   generalize yExp ts s3 (yM ts s3 ⟨#[41]⟩) = s4 at *
   generalize tkP ts s1.i = p1 at *
   clear hq HMk HTy HTyp htr
   go_enter Tryz.func67, Tryz.ntmps67
   go_upto_region 1 with fail
   generalize (w.alloc (.cells #[.int .i64 0, .int .i64 0, .string ⟨#[]⟩, .int .i64 0, .slice none 0 0, .slice none 0 0, .int .i64 0, .string ⟨#[]⟩, .int .i64 0, .int .i64 0, .slice none 0 0] 34)) = w0 at *
   go_wp2_with fail
   go_at_call 28
   refine (HE.out _ HP0.out.rd).mono ?_
   rintro e v1 ⟨c, rfl, hrep, hr1, hg1⟩
   obtain ⟨ka, kc, aa, ac, tk, tn, ti, th, ta, tl, tc, rfl⟩ := hrep.form
   have HB1 := Lib.hid (AB.mk' (HP0.out.call hr1 hg1) (hrep.imp_lt hsz0))
   clear hrep hr1 hg1 HP0 hsz0 HE
   go_upto_region 2 with fail
   generalize (v1.alloc (.cells #[.int .i64 a.k, .int .i64 a.p, .string a.n, .int .i64 a.m, .slice ka a.kids.length kc, .slice aa a.arms.length ac, .int .i64 tk, .string tn, .int .i64 ti, .int .i64 th, .slice ta tl tc] 34)) = v2 at *
   generalize v1.heap.size = R1 at *
   go_wp2_with fail
   go_at_call 48
   refine (HT.out _ HB1.out.eb.rd).mono ?_
   rintro e v3 ⟨rfl, hb3⟩
   have HB3 := Lib.hid (HB1.out.lift hb3)
   clear hb3 HB1
   go_wp2_with fail
   go_at_call 49
   refine (HM.out _).mono ?_
   rintro e v4 ⟨rfl, hb4⟩
   have HB4 := Lib.hid (HB3.out.lift hb4)
   clear hb4 HB3
   go_wp2_with fail
   go_at_call 65
   refine (HSk.out _ HB4.out.eb.rd).mono ?_
   rintro e v5 ⟨rfl, hr5, hg5⟩
   have HB5 := Lib.hid ((HB4.out.call hr5 hg5).lift (Below.refl _ _).drew)
   clear hr5 hg5 HB4
   obtain ⟨d0, d1, d2, d3, d4, d5, d6, d7, d8, d9, d10⟩ := HB5.out.eb.box.all11
   have hlt5 := HB5.out.eb.lt
   have hb5 := HB5.out.eb.hb
   have h05 := HB5.out.eb.h0
   have h15 := HB5.out.eb.h1
   have HK5 := Lib.hid (one_newE (S' := fun g => w.heap.size < g ∧ g ≠ R1) HB5.out.rep 34 _ rfl (fun _ h => h) ⟨by omega, by omega⟩)
   have HA5 := Lib.hid (HB5.out.lift ((Below.refl _ _).alloc (Nat.le_refl _) (.cells #[.int .i64 a.k, .int .i64 a.p, .string a.n, .int .i64 a.m, .slice ka a.kids.length kc, .slice aa a.arms.length ac, .int .i64 tk, .string tn, .int .i64 ti, .int .i64 th, .slice ta tl tc] 34)))
   have hsz5 : v5.drew.heap.size ≤ (v5.drew.alloc (.cells #[.int .i64 a.k, .int .i64 a.p, .string a.n, .int .i64 a.m, .slice ka a.kids.length kc, .slice aa a.arms.length ac, .int .i64 tk, .string tn, .int .i64 ti, .int .i64 th, .slice ta tl tc] 34)).heap.size := ((Below.refl _ v5.drew).alloc (Nat.le_refl _) (.cells #[.int .i64 a.k, .int .i64 a.p, .string a.n, .int .i64 a.m, .slice ka a.kids.length kc, .slice aa a.arms.length ac, .int .i64 tk, .string tn, .int .i64 ti, .int .i64 th, .slice ta tl tc] 34)).size
   go_upto_region 4 with fail
   go_region_law
    (first
     | ((with_reducible refine step_call1 94 enterTyp (.pointer (some ⟨b, 0, none⟩)) (fun u w' => ∃ q, u = .agg (List.toArray q) ∧ Rep w' (fun g => w.heap.size < g ∧ g ≠ R1) tyv (.agg (List.toArray q)) ∧ AB ea w w' b w.heap.size R1 ts s3 [.int .i64 a.k, .int .i64 a.p, .string a.n, .int .i64 a.m, .slice ka a.kids.length kc, .slice aa a.arms.length ac, .int .i64 tk, .string tn, .int .i64 ti, .int .i64 th, .slice ta tl tc] a) ?_ ?_ ?_); (rfl); (exact (HTyq.out _ HB5.out.eb.rd).mono fun e w' h => by obtain ⟨q, h1, h2, h3, h4⟩ := h; exact ⟨_, h1, q, rfl, h2.imp fun g hg => ⟨Nat.lt_of_lt_of_le (Nat.lt_trans h15 hlt5) hg, Nat.ne_of_gt (Nat.lt_of_lt_of_le hlt5 hg)⟩, HB5.out.call h3 h4⟩); (rintro u w6 ⟨q, rfl, hrep, hv⟩); (obtain ⟨t0, t1, t2, t3, t4, t5, t6, rfl⟩ := rep_form hrep); (have HRp := Lib.hid hrep); (have HV := Lib.hid hv); (have hcase := Or.inl (b := SlG ExE w6 (fun g => w.heap.size < g ∧ g ≠ R1) [a] (.slice (some ⟨v5.drew.heap.size, 0, none⟩) 1 1)) (rfl : w6.heap.size = w6.heap.size)); (clear hrep hv); (obtain ⟨x0, x1, x2, x3, x4, x5, x6, x7, x8, x9, x10⟩ := HV.out.eb.box.all11); (obtain ⟨y0, y1, y2, y3, y4, y5, y6, y7, y8, y9, y10⟩ := HV.out.eb.box.free11); (have hlt6 := HV.out.eb.lt))
     | ((with_reducible refine step_call1 94 enterTyp (.pointer (some ⟨b, 0, none⟩)) (fun u w' => ∃ q, u = .agg (List.toArray q) ∧ Rep w' (fun g => w.heap.size < g ∧ g ≠ R1) tyv (.agg (List.toArray q)) ∧ AB ea w w' b w.heap.size R1 ts s3 [.int .i64 a.k, .int .i64 a.p, .string a.n, .int .i64 a.m, .slice ka a.kids.length kc, .slice aa a.arms.length ac, .int .i64 tk, .string tn, .int .i64 ti, .int .i64 th, .slice ta tl tc] a ∧ SlG ExE w' (fun g => w.heap.size < g ∧ g ≠ R1) [a] (.slice (some ⟨v5.drew.heap.size, 0, none⟩) 1 1)) ?_ ?_ ?_); (rfl); (exact (HTyq.out _ HA5.out.eb.rd).mono fun e w' h => by obtain ⟨q, h1, h2, h3, h4⟩ := h; exact ⟨_, h1, q, rfl, h2.imp fun g hg => ⟨Nat.lt_of_lt_of_le (Nat.lt_trans h15 hlt5) (Nat.le_trans hsz5 hg), Nat.ne_of_gt (Nat.lt_of_lt_of_le hlt5 (Nat.le_trans hsz5 hg))⟩, HA5.out.call h3 h4, HK5.out.kept (fun _ h => h) (fun g h5 h6 => h4.block g h6 (by intro e; have := Option.some.inj e; have := h5.1; omega))⟩); (rintro u w6 ⟨q, rfl, hrep, hv, hk⟩); (obtain ⟨t0, t1, t2, t3, t4, t5, t6, rfl⟩ := rep_form hrep); (have HRp := Lib.hid hrep); (have HV := Lib.hid hv); (have HKid := Lib.hid hk); (clear hrep hv hk); (obtain ⟨x0, x1, x2, x3, x4, x5, x6, x7, x8, x9, x10⟩ := HV.out.eb.box.all11); (obtain ⟨y0, y1, y2, y3, y4, y5, y6, y7, y8, y9, y10⟩ := HV.out.eb.box.free11); (have hlt6 := HV.out.eb.lt)))
   all_goals clear d0 d1 d2 d3 d4 d5 d6 d7 d8 d9 d10
   ·
    obtain ⟨v7, hv7⟩ : ∃ v7, v7 = (((((((((((w6.setCell ⟨R1, 0, none⟩ (.int .i64 9)).setCell ⟨R1, 1, none⟩ (.int .i64 p)).setCell ⟨R1, 2, none⟩ (.string ⟨#[]⟩)).setCell ⟨R1, 3, none⟩ (.int .i64 0)).setCell ⟨R1, 4, none⟩ (.slice (some ⟨v5.heap.size, 0, none⟩) 1 1)).setCell ⟨R1, 5, none⟩ (.slice none 0 0)).setCell ⟨R1, 6, none⟩ (.int .i64 t0)).setCell ⟨R1, 7, none⟩ (.string t1)).setCell ⟨R1, 8, none⟩ (.int .i64 t2)).setCell ⟨R1, 9, none⟩ (.int .i64 t3)).setCell ⟨R1, 10, none⟩ (.slice t4 t5 t6)) := ⟨_, rfl⟩
    have HB7 : Hid (AB ea w v7 b w.heap.size R1 ts s3 [.int .i64 9, .int .i64 p, .string ⟨#[]⟩, .int .i64 0, .slice (some ⟨v5.heap.size, 0, none⟩) 1 1, .slice none 0 0, .int .i64 t0, .string t1, .int .i64 t2, .int .i64 t3, .slice t4 t5 t6] (.mk 9 p ⟨#[]⟩ 0 tyv [a] [])) := by rw [hv7]; exact AB.ann HV.out.eb HKid.out p HRp.out
    rw [← hv7]
    clear hv7 x0 x1 x2 x3 x4 x5 x6 x7 x8 x9 x10 y0 y1 y2 y3 y4 y5 y6 y7 y8 y9 y10 HV HRp HB5 HA5 HK5 hsz5
    go_wp2_with fail
    go_at_call 84
    refine (HMk3.out _ HB7.out.eb.rd).mono ?_
    rintro e v8 ⟨rfl, hr8, hg8⟩
    have HB5 := Lib.hid (HB7.out.call hr8 hg8)
    clear hr8 hg8 HB7
    obtain ⟨d0, d1, d2, d3, d4, d5, d6, d7, d8, d9, d10⟩ := HB5.out.eb.box.all11
    go_wp2_with (refine wpList_storeC rfl _ _ rfl _ _ _ HB5.out.eb.res rfl rfl HB5.out.rep.size HB5.out.rep.len0 HB5.out.rep.len.2 ?_; intro v8 hB8 hg8 hs8)
    obtain ⟨e0, e1, e2, e3, e4, e5, e6, e7, e8, e9, e10⟩ := hB8.all11
    refine bodyPost_ret (by simp [results, Tryz.results67, go_sem, e0, e1, e2, e3, e4, e5, e6, e7, e8, e9, e10]; try rfl) rfl ?_
    exact ⟨_, rfl, HB5.out.ret hbase hg8⟩
   ·
    obtain ⟨v7, hv7⟩ : ∃ v7, v7 = (((((((((((w6.setCell ⟨R1, 0, none⟩ (.int .i64 9)).setCell ⟨R1, 1, none⟩ (.int .i64 p)).setCell ⟨R1, 2, none⟩ (.string ⟨#[]⟩)).setCell ⟨R1, 3, none⟩ (.int .i64 0)).setCell ⟨R1, 4, none⟩ (.slice (some ⟨w6.heap.size, 0, none⟩) 1 1)).setCell ⟨R1, 5, none⟩ (.slice none 0 0)).setCell ⟨R1, 6, none⟩ (.int .i64 t0)).setCell ⟨R1, 7, none⟩ (.string t1)).setCell ⟨R1, 8, none⟩ (.int .i64 t2)).setCell ⟨R1, 9, none⟩ (.int .i64 t3)).setCell ⟨R1, 10, none⟩ (.slice t4 t5 t6)).alloc (.cells #[.int .i64 a.k, .int .i64 a.p, .string a.n, .int .i64 a.m, .slice ka a.kids.length kc, .slice aa a.arms.length ac, .int .i64 tk, .string tn, .int .i64 ti, .int .i64 th, .slice ta tl tc] 34) := ⟨_, rfl⟩
    have hal : Below w6.heap.size w6 (w6.alloc (.cells #[.int .i64 a.k, .int .i64 a.p, .string a.n, .int .i64 a.m, .slice ka a.kids.length kc, .slice aa a.arms.length ac, .int .i64 tk, .string tn, .int .i64 ti, .int .i64 th, .slice ta tl tc] 34)) := (Below.refl _ w6).alloc (Nat.le_refl _) _
    have HB7 : Hid (AB ea w v7 b w.heap.size R1 ts s3 [.int .i64 9, .int .i64 p, .string ⟨#[]⟩, .int .i64 0, .slice (some ⟨w6.heap.size, 0, none⟩) 1 1, .slice none 0 0, .int .i64 t0, .string t1, .int .i64 t2, .int .i64 t3, .slice t4 t5 t6] (.mk 9 p ⟨#[]⟩ 0 tyv [a] [])) := by rw [hv7, ← chain_alloc _ _ _ hlt6]; exact AB.ann (HV.out.lift hal).eb (one_newE HV.out.rep 34 _ rfl (fun _ h => h) ⟨by omega, by omega⟩) p (HRp.out.lift hal)
    rw [← hv7]
    clear hv7 x0 x1 x2 x3 x4 x5 x6 x7 x8 x9 x10 y0 y1 y2 y3 y4 y5 y6 y7 y8 y9 y10 HV HRp HB5 HA5 HK5 hsz5
    go_wp2_with fail
    go_at_call 84
    refine (HMk3.out _ HB7.out.eb.rd).mono ?_
    rintro e v8 ⟨rfl, hr8, hg8⟩
    have HB5 := Lib.hid (HB7.out.call hr8 hg8)
    clear hr8 hg8 HB7
    obtain ⟨d0, d1, d2, d3, d4, d5, d6, d7, d8, d9, d10⟩ := HB5.out.eb.box.all11
    go_wp2_with (refine wpList_storeC rfl _ _ rfl _ _ _ HB5.out.eb.res rfl rfl HB5.out.rep.size HB5.out.rep.len0 HB5.out.rep.len.2 ?_; intro v8 hB8 hg8 hs8)
    obtain ⟨e0, e1, e2, e3, e4, e5, e6, e7, e8, e9, e10⟩ := hB8.all11
    refine bodyPost_ret (by simp [results, Tryz.results67, go_sem, e0, e1, e2, e3, e4, e5, e6, e7, e8, e9, e10]; try rfl) rfl ?_
    exact ⟨_, rfl, HB5.out.ret hbase hg8⟩
   ·
    obtain ⟨v7, hv7⟩ : ∃ v7, v7 = (((((((((((w6.setCell ⟨R1, 0, none⟩ (.int .i64 9)).setCell ⟨R1, 1, none⟩ (.int .i64 p)).setCell ⟨R1, 2, none⟩ (.string ⟨#[]⟩)).setCell ⟨R1, 3, none⟩ (.int .i64 0)).setCell ⟨R1, 4, none⟩ (.slice (some ⟨w6.heap.size, 0, none⟩) 1 1)).setCell ⟨R1, 5, none⟩ (.slice none 0 0)).setCell ⟨R1, 6, none⟩ (.int .i64 t0)).setCell ⟨R1, 7, none⟩ (.string t1)).setCell ⟨R1, 8, none⟩ (.int .i64 t2)).setCell ⟨R1, 9, none⟩ (.int .i64 t3)).setCell ⟨R1, 10, none⟩ (.slice t4 t5 t6)).alloc (.cells #[.int .i64 a.k, .int .i64 a.p, .string a.n, .int .i64 a.m, .slice ka a.kids.length kc, .slice aa a.arms.length ac, .int .i64 tk, .string tn, .int .i64 ti, .int .i64 th, .slice ta tl tc] 34) := ⟨_, rfl⟩
    have hal : Below w6.heap.size w6 (w6.alloc (.cells #[.int .i64 a.k, .int .i64 a.p, .string a.n, .int .i64 a.m, .slice ka a.kids.length kc, .slice aa a.arms.length ac, .int .i64 tk, .string tn, .int .i64 ti, .int .i64 th, .slice ta tl tc] 34)) := (Below.refl _ w6).alloc (Nat.le_refl _) _
    have HB7 : Hid (AB ea w v7 b w.heap.size R1 ts s3 [.int .i64 9, .int .i64 p, .string ⟨#[]⟩, .int .i64 0, .slice (some ⟨w6.heap.size, 0, none⟩) 1 1, .slice none 0 0, .int .i64 t0, .string t1, .int .i64 t2, .int .i64 t3, .slice t4 t5 t6] (.mk 9 p ⟨#[]⟩ 0 tyv [a] [])) := by rw [hv7, ← chain_alloc _ _ _ hlt6]; exact AB.ann (HV.out.lift hal).eb (one_newE HV.out.rep 34 _ rfl (fun _ h => h) ⟨by omega, by omega⟩) p (HRp.out.lift hal)
    rw [← hv7]
    clear hv7 x0 x1 x2 x3 x4 x5 x6 x7 x8 x9 x10 y0 y1 y2 y3 y4 y5 y6 y7 y8 y9 y10 HV HRp HB5 HA5 HK5 hsz5
    go_wp2_with fail
    go_at_call 84
    refine (HMk3.out _ HB7.out.eb.rd).mono ?_
    rintro e v8 ⟨rfl, hr8, hg8⟩
    have HB5 := Lib.hid (HB7.out.call hr8 hg8)
    clear hr8 hg8 HB7
    obtain ⟨d0, d1, d2, d3, d4, d5, d6, d7, d8, d9, d10⟩ := HB5.out.eb.box.all11
    go_wp2_with (refine wpList_storeC rfl _ _ rfl _ _ _ HB5.out.eb.res rfl rfl HB5.out.rep.size HB5.out.rep.len0 HB5.out.rep.len.2 ?_; intro v8 hB8 hg8 hs8)
    obtain ⟨e0, e1, e2, e3, e4, e5, e6, e7, e8, e9, e10⟩ := hB8.all11
    refine bodyPost_ret (by simp [results, Tryz.results67, go_sem, e0, e1, e2, e3, e4, e5, e6, e7, e8, e9, e10]; try rfl) rfl ?_
    exact ⟨_, rfl, HB5.out.ret hbase hg8⟩
end Go.Proofs.YtgcefodgjhlbeaaGreatDoor
