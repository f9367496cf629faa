import Derived.Test.YtljgpgmaceackaaQX34
import Derived.Test.YtljgpgmaceackaaQX37
import Derived.Test.YtljgpgmaceackaaQX36
import Derived.Deep.LoopGhost
/- The reference's reader of expressions: Read. -/
namespace Go.Proofs.Ytljgpgmaceackaa
open Go.RowKit Go.Maps Mth

theorem EX.zall {w v : World} {b R0 R1 : Nat} {ts : List Tok} {s : St} {c : List Value} (h : EX w v b R0 R1 ts s c) : v.cell? ⟨R0, 0, none⟩ = some (.int .i64 0) ∧ v.cell? ⟨R0, 1, none⟩ = some (.int .i64 0) ∧ v.cell? ⟨R0, 2, none⟩ = some (.string ⟨#[]⟩) ∧ v.cell? ⟨R0, 3, none⟩ = some (.int .i64 0) ∧ v.cell? ⟨R0, 4, none⟩ = some (.slice none 0 0) ∧ v.cell? ⟨R0, 5, none⟩ = some (.slice none 0 0) ∧ v.cell? ⟨R0, 6, none⟩ = some (.int .i64 0) ∧ v.cell? ⟨R0, 7, none⟩ = some (.string ⟨#[]⟩) ∧ v.cell? ⟨R0, 8, none⟩ = some (.int .i64 0) ∧ v.cell? ⟨R0, 9, none⟩ = some (.int .i64 0) ∧ v.cell? ⟨R0, 10, none⟩ = some (.slice none 0 0) :=
  ⟨h.res.cell 0 _ rfl, h.res.cell 1 _ rfl, h.res.cell 2 _ rfl, h.res.cell 3 _ rfl, h.res.cell 4 _ rfl, h.res.cell 5 _ rfl, h.res.cell 6 _ rfl, h.res.cell 7 _ rfl, h.res.cell 8 _ rfl, h.res.cell 9 _ rfl, h.res.cell 10 _ rfl⟩
/-- The result of a let is stored. -/
theorem AX.loc {w v : World} {b R0 R1 base : Nat} {ts : List Tok} {s : St} {c : List Value} {a : Ex} (h : AX w v b R0 R1 ts s c a) {u : Ex} {k : List Value} (hu : RepE v (fun g => R0 < g ∧ g ≠ R1) u k) (kk p : Int) (nm : ByteArray) (hn : nm.size ≤ maxLen) (hbase : base ≤ w.heap.size) (V : World)
    (hV : V = (((((((((((v.setCell ⟨R0, 0, none⟩ (.int .i64 kk)).setCell ⟨R0, 1, none⟩ (.int .i64 p)).setCell ⟨R0, 2, none⟩ (.string nm)).setCell ⟨R0, 3, none⟩ (.int .i64 0)).setCell ⟨R0, 4, none⟩ (.slice (some ⟨v.heap.size, 0, none⟩) 2 2)).setCell ⟨R0, 5, none⟩ (.slice none 0 0)).setCell ⟨R0, 6, none⟩ (.int .i64 0)).setCell ⟨R0, 7, none⟩ (.string ⟨#[]⟩)).setCell ⟨R0, 8, none⟩ (.int .i64 0)).setCell ⟨R0, 9, none⟩ (.int .i64 0)).setCell ⟨R0, 10, none⟩ (.slice none 0 0)).alloc (.cells (c ++ k).toArray 36)) :
    BoxC 36 V R0 [.int .i64 kk, .int .i64 p, .string nm, .int .i64 0, .slice (some ⟨v.heap.size, 0, none⟩) 2 2, .slice none 0 0, .int .i64 0, .string ⟨#[]⟩, .int .i64 0, .int .i64 0, .slice none 0 0] ∧ RepE V (fun g => base ≤ g) (.mk kk p nm 0 zTy [a, u] []) [.int .i64 kk, .int .i64 p, .string nm, .int .i64 0, .slice (some ⟨v.heap.size, 0, none⟩) 2 2, .slice none 0 0, .int .i64 0, .string ⟨#[]⟩, .int .i64 0, .int .i64 0, .slice none 0 0] ∧ RdX V b ts s ∧ w.grownBy V (some b) := by
  have h0 := h.eb.h0
  have hlt := h.eb.lt
  have h01 := h.eb.h1
  obtain ⟨h1, h2, h3⟩ := BoxC.set11s (show BoxC 36 v R0 [.int .i64 0, .int .i64 0, .string ⟨#[]⟩, .int .i64 0, .slice none 0 0, .slice none 0 0, .int .i64 0, .string ⟨#[]⟩, .int .i64 0, .int .i64 0, .slice none 0 0] from h.eb.res) (.int .i64 kk) (.int .i64 p) (.string nm) (.int .i64 0) (.slice (some ⟨v.heap.size, 0, none⟩) 2 2) (.slice none 0 0) (.int .i64 0) (.string ⟨#[]⟩) (.int .i64 0) (.int .i64 0) (.slice none 0 0)
  have hrep := h.rep.kept (S' := fun g => R0 < g ∧ g ≠ R1) (fun _ h => h) (fun g hg hl => h2.block g hl (by intro e; have := Option.some.inj e; omega))
  have hu' := hu.kept (S' := fun g => R0 < g ∧ g ≠ R1) (fun _ h => h) (fun g hg hl => h2.block g hl (by intro e; have := Option.some.inj e; omega))
  obtain ⟨hr1, hr2⟩ := h.eb.pb.fin h2
  generalize (((((((((((v.setCell ⟨R0, 0, none⟩ (.int .i64 kk)).setCell ⟨R0, 1, none⟩ (.int .i64 p)).setCell ⟨R0, 2, none⟩ (.string nm)).setCell ⟨R0, 3, none⟩ (.int .i64 0)).setCell ⟨R0, 4, none⟩ (.slice (some ⟨v.heap.size, 0, none⟩) 2 2)).setCell ⟨R0, 5, none⟩ (.slice none 0 0)).setCell ⟨R0, 6, none⟩ (.int .i64 0)).setCell ⟨R0, 7, none⟩ (.string ⟨#[]⟩)).setCell ⟨R0, 8, none⟩ (.int .i64 0)).setCell ⟨R0, 9, none⟩ (.int .i64 0)).setCell ⟨R0, 10, none⟩ (.slice none 0 0)) = W at *
  subst hV
  have hb : Below W.heap.size W (W.alloc (.cells (c ++ k).toArray 36)) := (Below.refl _ W).alloc (Nat.le_refl _) _
  exact ⟨h1.lift hb, repE_kids kk p nm 0 hn (two_newE hrep hu' 36 v.heap.size h3.symm (fun g hg => by omega) (by omega)), hr1.lift hb, grown_trans hr2 (below_grown_some hb b)⟩
theorem enterRead (v : Value) (w : World) : (callFunc 46 #[v]).run Try.prog w = .ok (.enter 46 #[v]) w := by kernel_rfl
set_option maxRecDepth 100000 in
set_option maxHeartbeats 6400000 in
theorem zRead_of (ts : List Tok) (hok : TkOk ts) (_ : TkVal ts) (s : St) (f : Nat) (hf : f ≤ 900000) (H : ∀ g, g ≤ f → ∀ s, ZAt 46 #[] ts s (zRead g ts s)) (HA : ∀ g, g ≤ f → ∀ s, ZAt 67 #[] ts s (zAtom g ts s)) (HC : ∀ g, g ≤ f → ∀ s p, ZAt 66 #[.int .i64 p] ts s (zCas g ts s p)) : ZAt 46 #[] ts s (zRead (f + 1) ts s) := by
  intro T j hr b base w hbb hbase h
  unfold zRead at hr
  have HR := Lib.hid h
  have HP0 := Lib.hid (PX.start HR.out)
  have hsz0 : w.heap.size < (w.alloc (.cells #[.int .i64 0, .int .i64 0, .string ⟨#[]⟩, .int .i64 0, .slice none 0 0, .slice none 0 0, .int .i64 0, .string ⟨#[]⟩, .int .i64 0, .int .i64 0, .slice none 0 0] 36)).heap.size := by simp
  have HPos := Lib.hid (fun (V : World) (h : RdX V b ts s) => rdPos_any b ts s V h)
  clear h
  cases h1 : xI ts s ⟨#[92]⟩ with
  | true =>
    rw [h1] at hr
    simp only [if_true] at hr
    obtain ⟨f, rfl⟩ : ∃ g, f = g + 1 := by
      cases f with
      | zero => simp [zFun] at hr
      | succ f => exact ⟨f, rfl⟩
    unfold zFun at hr
    generalize tkP ts s.i = p at *
    have HS1 := Lib.hid (rdSkip_t (b := b) h1)
    clear h1 HA HC
    generalize xStep s = s1 at *
    have HNs := Lib.hid (zW_size hok s1 1)
    have HW := Lib.hid (fun (V : World) (h : RdX V b ts s1) => rdWord_any 1 b ts s1 V h)
    generalize zW ts s1 1 = nm at *
    generalize zWs ts s1 1 = s2 at *
    have HN := Lib.hid (fun (V : World) (h : RdX V b ts s2) => rdNeed_any ⟨#[46]⟩ b ts s2 V h)
    generalize xNeed ts s2 ⟨#[46]⟩ = s3 at *
    obtain ⟨i3, q3, p3⟩ := s3
    dsimp only at hr
    cases q3 with
    | true =>
      simp only [if_true, Option.some.injEq, Prod.mk.injEq] at hr
      obtain ⟨rfl, rfl⟩ := hr
      clear H
      go_enter Try.func46, Try.ntmps46
      go_wp2_with fail
      go_at_call 62
      generalize (w.alloc (.cells #[.int .i64 0, .int .i64 0, .string ⟨#[]⟩, .int .i64 0, .slice none 0 0, .slice none 0 0, .int .i64 0, .string ⟨#[]⟩, .int .i64 0, .int .i64 0, .slice none 0 0] 36)) = w0 at *
      refine (HPos.out _ HP0.out.rd).mono ?_
      rintro e w1 ⟨rfl, hb1⟩
      have HP1 := Lib.hid (HP0.out.lift hb1)
      have hz1 := Nat.lt_of_lt_of_le hsz0 hb1.size
      clear hb1 hsz0
      go_wp2_with fail
      go_at_call 63
      refine (HS1.out _ HP1.out.rd).mono ?_
      rintro e w2 ⟨rfl, hr2, hg2⟩
      have HP2 := Lib.hid (HP1.out.call hr2 hg2)
      clear hr2 hg2
      go_wp2_with fail
      go_at_call 64
      refine (HW.out _ HP2.out.rd).mono ?_
      rintro e w3 ⟨rfl, hr3, hg3⟩
      have HP3 := Lib.hid (HP2.out.call hr3 hg3)
      clear hr3 hg3
      go_wp2_with fail
      go_at_call 65
      refine (HN.out _ HP3.out.rd).mono ?_
      rintro e w4 ⟨rfl, hr4, hg4⟩
      have HP4 := Lib.hid (HP3.out.call hr4 hg4)
      clear hr4 hg4
      obtain ⟨lv, hrd, -⟩ := HP4.out.rd
      obtain ⟨r0, r1, r2, -⟩ := hrd.cells
      clear hrd
      have HRes := Lib.hid (repE_zero w4 (fun g => w.heap.size < g))
      go_wp2_with (refine wpList_storeC rfl _ _ rfl _ _ _ HP4.out.res rfl rfl HRes.out.size HRes.out.len0 HRes.out.len.2 ?_; intro v8 hB8 hg8 hs8)
      obtain ⟨e0, e1, e2, e3, e4, e5, e6, e7, e8, e9, e10⟩ := hB8.all11
      refine bodyPost_ret (by simp [results, Try.results46, go_sem, e0, e1, e2, e3, e4, e5, e6, e7, e8, e9, e10]; try rfl) rfl ?_
      exact ⟨_, rfl, HP4.out.ret HRes.out hbase hg8⟩
    | false =>
      simp only [Bool.false_eq_true, if_false] at hr
      cases hE : zRead f ts ⟨i3, false, p3⟩ with
      | none => rw [hE] at hr; simp at hr
      | some q =>
        obtain ⟨a, s4⟩ := q
        rw [hE] at hr
        simp only [Option.some.injEq, Prod.mk.injEq] at hr
        obtain ⟨rfl, rfl⟩ := hr
        have HE := Lib.hid (fun (V : World) (h : RdX V b ts ⟨i3, false, p3⟩) => H f (by omega) _ a s4 hE b V.heap.size V h.lt (Nat.le_refl _) h)
        clear hE H
        go_enter Try.func46, Try.ntmps46
        go_wp2_with fail
        go_at_call 62
        generalize (w.alloc (.cells #[.int .i64 0, .int .i64 0, .string ⟨#[]⟩, .int .i64 0, .slice none 0 0, .slice none 0 0, .int .i64 0, .string ⟨#[]⟩, .int .i64 0, .int .i64 0, .slice none 0 0] 36)) = w0 at *
        refine (HPos.out _ HP0.out.rd).mono ?_
        rintro e w1 ⟨rfl, hb1⟩
        have HP1 := Lib.hid (HP0.out.lift hb1)
        have hz1 := Nat.lt_of_lt_of_le hsz0 hb1.size
        clear hb1 hsz0
        go_wp2_with fail
        go_at_call 63
        refine (HS1.out _ HP1.out.rd).mono ?_
        rintro e w2 ⟨rfl, hr2, hg2⟩
        have HP2 := Lib.hid (HP1.out.call hr2 hg2)
        clear hr2 hg2
        go_wp2_with fail
        go_at_call 64
        refine (HW.out _ HP2.out.rd).mono ?_
        rintro e w3 ⟨rfl, hr3, hg3⟩
        have HP3 := Lib.hid (HP2.out.call hr3 hg3)
        clear hr3 hg3
        go_wp2_with fail
        go_at_call 65
        refine (HN.out _ HP3.out.rd).mono ?_
        rintro e w4 ⟨rfl, hr4, hg4⟩
        have HP4 := Lib.hid (HP3.out.call hr4 hg4)
        clear hr4 hg4
        obtain ⟨lv, hrd, -⟩ := HP4.out.rd
        obtain ⟨r0, r1, r2, -⟩ := hrd.cells
        clear hrd
        go_wp2_with fail
        go_at_call 46
        refine (HE.out _ HP4.out.rd).mono ?_
        rintro e w5 ⟨c, rfl, hrep, hr5, hg5⟩
        obtain ⟨ka, kc, aa, ac, tk, tn, ti, th, ta, tl, tc, rfl⟩ := hrep.form
        clear r0 r1 r2
        have HP5 := Lib.hid (HP4.out.call hr5 hg5)
        have HRp := Lib.hid (hrep.imp_lt HP4.out.res.lt)
        clear hrep hr5 hg5
        have HK := Lib.hid (one_newE (S' := fun g => w.heap.size < g) HRp.out 36 w5.heap.size rfl (fun _ hg => hg) HP5.out.res.lt)
        have HB4 := Lib.hid (HP5.out.lift ((Below.refl _ w5).alloc (Nat.le_refl _) (.cells #[.int .i64 a.k, .int .i64 a.p, .string a.n, .int .i64 a.m, .slice ka a.kids.length kc, .slice aa a.arms.length ac, .int .i64 tk, .string tn, .int .i64 ti, .int .i64 th, .slice ta tl tc] 36)))
        have HRes := Lib.hid (repE_kids (S := fun g => w.heap.size < g) 4 p nm 0 HNs.out HK.out)
        go_wp2_with (refine wpList_storeC rfl _ _ rfl _ _ _ HB4.out.res rfl rfl HRes.out.size HRes.out.len0 HRes.out.len.2 ?_; intro v8 hB8 hg8 hs8)
        obtain ⟨e0, e1, e2, e3, e4, e5, e6, e7, e8, e9, e10⟩ := hB8.all11
        refine bodyPost_ret (by simp [results, Try.results46, go_sem, e0, e1, e2, e3, e4, e5, e6, e7, e8, e9, e10]; try rfl) rfl ?_
        exact ⟨_, rfl, HB4.out.ret HRes.out hbase hg8⟩
  | false =>
    rw [h1] at hr
    simp only [Bool.false_eq_true, if_false] at hr
    have HS1 := Lib.hid (rdSkip_f (b := b) h1)
    have HH1 := Lib.hid h1
    clear h1
    cases h2 : xI ts s ⟨#[108, 101, 116]⟩ with
    | true =>
      rw [h2] at hr
      simp only [if_true] at hr
      obtain ⟨f, rfl⟩ : ∃ g, f = g + 1 := by
        cases f with
        | zero => simp [zLoc] at hr
        | succ f => exact ⟨f, rfl⟩
      unfold zLoc at hr
      generalize tkP ts s.i = p at *
      have HS2 := Lib.hid (rdSkip_t (b := b) h2)
      clear h2 HA HC
      generalize xStep s = s1 at *
      obtain ⟨f, rfl⟩ : ∃ g, f = g + 1 := by
        cases f with
        | zero => simp [zLoc2] at hr
        | succ f => exact ⟨f, rfl⟩
      unfold zLoc2 at hr
      cases hq : xI ts s1 ⟨#[114, 101, 99]⟩ with
      | true =>
        have HS3 := Lib.hid (rdSkip_t (b := b) hq)
        have hsk : xSkip ts s1 ⟨#[114, 101, 99]⟩ = xStep s1 := by unfold xSkip; rw [hq]; rfl
        rw [hsk, hq] at hr
        simp only [if_true] at hr
        clear hq hsk
        generalize xStep s1 = s2 at *
        have HNs := Lib.hid (zW_size hok s2 1)
        have HW := Lib.hid (fun (V : World) (h : RdX V b ts s2) => rdWord_any 1 b ts s2 V h)
        generalize zW ts s2 1 = nm at *
        generalize zWs ts s2 1 = s3 at *
        have HN := Lib.hid (fun (V : World) (h : RdX V b ts s3) => rdNeed_any ⟨#[61]⟩ b ts s3 V h)
        generalize xNeed ts s3 ⟨#[61]⟩ = s4 at *
        obtain ⟨i4, q4, p4⟩ := s4
        dsimp only at hr
        cases q4 with
        | true =>
          simp only [if_true, Option.some.injEq, Prod.mk.injEq] at hr
          obtain ⟨rfl, rfl⟩ := hr
          clear H
          go_enter Try.func46, Try.ntmps46
          go_wp2_with fail
          go_at_call 62
          generalize (w.alloc (.cells #[.int .i64 0, .int .i64 0, .string ⟨#[]⟩, .int .i64 0, .slice none 0 0, .slice none 0 0, .int .i64 0, .string ⟨#[]⟩, .int .i64 0, .int .i64 0, .slice none 0 0] 36)) = w0 at *
          refine (HPos.out _ HP0.out.rd).mono ?_
          rintro e w1 ⟨rfl, hb1⟩
          have HP1 := Lib.hid (HP0.out.lift hb1)
          have hz1 := Nat.lt_of_lt_of_le hsz0 hb1.size
          clear hb1 hsz0
          go_wp2_with fail
          go_at_call 63
          refine (HS1.out _ HP1.out.rd).mono ?_
          rintro e w2 ⟨rfl, hr2, hg2⟩
          have HP2 := Lib.hid (HP1.out.call hr2 hg2)
          clear hr2 hg2
          go_wp2_with fail
          go_at_call 63
          refine (HS2.out _ HP2.out.rd).mono ?_
          rintro e w3 ⟨rfl, hr3, hg3⟩
          have HP3 := Lib.hid (HP2.out.call hr3 hg3)
          clear hr3 hg3
          go_wp2_with fail
          go_at_call 63
          refine (HS3.out _ HP3.out.rd).mono ?_
          rintro e w4 ⟨rfl, hr4, hg4⟩
          have HP4 := Lib.hid (HP3.out.call hr4 hg4)
          clear hr4 hg4
          go_wp2_with fail
          go_at_call 64
          refine (HW.out _ HP4.out.rd).mono ?_
          rintro e w5 ⟨rfl, hr5, hg5⟩
          have HP5 := Lib.hid (HP4.out.call hr5 hg5)
          clear hr5 hg5
          go_wp2_with fail
          go_at_call 65
          refine (HN.out _ HP5.out.rd).mono ?_
          rintro e w6 ⟨rfl, hr6, hg6⟩
          have HP6 := Lib.hid (HP5.out.call hr6 hg6)
          clear hr6 hg6
          obtain ⟨lv, hrd, -⟩ := HP6.out.rd
          obtain ⟨r0, r1, r2, -⟩ := hrd.cells
          clear hrd
          have HRes := Lib.hid (repE_zero w6 (fun g => w.heap.size < g))
          go_wp2_with (refine wpList_storeC rfl _ _ rfl _ _ _ HP6.out.res rfl rfl HRes.out.size HRes.out.len0 HRes.out.len.2 ?_; intro v8 hB8 hg8 hs8)
          obtain ⟨e0, e1, e2, e3, e4, e5, e6, e7, e8, e9, e10⟩ := hB8.all11
          refine bodyPost_ret (by simp [results, Try.results46, go_sem, e0, e1, e2, e3, e4, e5, e6, e7, e8, e9, e10]; try rfl) rfl ?_
          exact ⟨_, rfl, HP6.out.ret HRes.out hbase hg8⟩
        | false =>
          simp only [Bool.false_eq_true, if_false] at hr
          cases hE : zRead f ts ⟨i4, false, p4⟩ with
          | none => rw [hE] at hr; simp at hr
          | some q =>
            obtain ⟨a, s5⟩ := q
            rw [hE] at hr
            dsimp only at hr
            have HE := Lib.hid (fun (V : World) (h : RdX V b ts ⟨i4, false, p4⟩) => H f (by omega) _ a s5 hE b V.heap.size V h.lt (Nat.le_refl _) h)
            clear hE
            have HN2 := Lib.hid (fun (V : World) (h : RdX V b ts s5) => rdNeed_any ⟨#[105, 110]⟩ b ts s5 V h)
            generalize xNeed ts s5 ⟨#[105, 110]⟩ = s6 at *
            obtain ⟨i6, q6, p6⟩ := s6
            dsimp only at hr
            cases q6 with
            | true =>
              simp only [if_true, Option.some.injEq, Prod.mk.injEq] at hr
              obtain ⟨rfl, rfl⟩ := hr
              clear H
              go_enter Try.func46, Try.ntmps46
              go_wp2_with fail
              go_at_call 62
              generalize (w.alloc (.cells #[.int .i64 0, .int .i64 0, .string ⟨#[]⟩, .int .i64 0, .slice none 0 0, .slice none 0 0, .int .i64 0, .string ⟨#[]⟩, .int .i64 0, .int .i64 0, .slice none 0 0] 36)) = w0 at *
              refine (HPos.out _ HP0.out.rd).mono ?_
              rintro e w1 ⟨rfl, hb1⟩
              have HP1 := Lib.hid (HP0.out.lift hb1)
              have hz1 := Nat.lt_of_lt_of_le hsz0 hb1.size
              clear hb1 hsz0
              go_wp2_with fail
              go_at_call 63
              refine (HS1.out _ HP1.out.rd).mono ?_
              rintro e w2 ⟨rfl, hr2, hg2⟩
              have HP2 := Lib.hid (HP1.out.call hr2 hg2)
              clear hr2 hg2
              go_wp2_with fail
              go_at_call 63
              refine (HS2.out _ HP2.out.rd).mono ?_
              rintro e w3 ⟨rfl, hr3, hg3⟩
              have HP3 := Lib.hid (HP2.out.call hr3 hg3)
              clear hr3 hg3
              go_wp2_with fail
              go_at_call 63
              refine (HS3.out _ HP3.out.rd).mono ?_
              rintro e w4 ⟨rfl, hr4, hg4⟩
              have HP4 := Lib.hid (HP3.out.call hr4 hg4)
              clear hr4 hg4
              go_wp2_with fail
              go_at_call 64
              refine (HW.out _ HP4.out.rd).mono ?_
              rintro e w5 ⟨rfl, hr5, hg5⟩
              have HP5 := Lib.hid (HP4.out.call hr5 hg5)
              clear hr5 hg5
              go_wp2_with fail
              go_at_call 65
              refine (HN.out _ HP5.out.rd).mono ?_
              rintro e w6 ⟨rfl, hr6, hg6⟩
              have HP6 := Lib.hid (HP5.out.call hr6 hg6)
              clear hr6 hg6
              obtain ⟨lv, hrd, -⟩ := HP6.out.rd
              obtain ⟨r0, r1, r2, -⟩ := hrd.cells
              clear hrd
              go_wp2_with fail
              go_at_call 46
              refine (HE.out _ HP6.out.rd).mono ?_
              rintro e w7 ⟨c, rfl, hrep, hr7, hg7⟩
              obtain ⟨ka, kc, aa, ac, tk, tn, ti, th, ta, tl, tc, rfl⟩ := hrep.form
              clear r0 r1 r2
              have HV0 := Lib.hid (AX.mk' (HP6.out.call hr7 hg7) (hrep.imp_lt HP6.out.res.lt))
              clear hrep hr7 hg7
              go_wp2_with fail
              go_at_call 65
              generalize (w7.alloc (.cells #[.int .i64 a.k, .int .i64 a.p, .string a.n, .int .i64 a.m, .slice ka a.kids.length kc, .slice aa a.arms.length ac, .int .i64 tk, .string tn, .int .i64 ti, .int .i64 th, .slice ta tl tc] 36)) = v7 at *
              generalize w7.heap.size = R1 at *
              refine (HN2.out _ HV0.out.eb.rd).mono ?_
              rintro e w8 ⟨rfl, hr8, hg8'⟩
              have HV8 := Lib.hid (HV0.out.call hr8 hg8')
              have HP8 := Lib.hid HV8.out.eb.pb
              clear hr8 hg8' HV0
              obtain ⟨lv, hrd, -⟩ := HP8.out.rd
              obtain ⟨r0, r1, r2, -⟩ := hrd.cells
              clear hrd
              have HRes := Lib.hid (repE_zero w8 (fun g => w.heap.size < g))
              go_wp2_with (refine wpList_storeC rfl _ _ rfl _ _ _ HP8.out.res rfl rfl HRes.out.size HRes.out.len0 HRes.out.len.2 ?_; intro v8 hB8 hg8 hs8)
              obtain ⟨e0, e1, e2, e3, e4, e5, e6, e7, e8, e9, e10⟩ := hB8.all11
              refine bodyPost_ret (by simp [results, Try.results46, go_sem, e0, e1, e2, e3, e4, e5, e6, e7, e8, e9, e10]; try rfl) rfl ?_
              exact ⟨_, rfl, HP8.out.ret HRes.out hbase hg8⟩
            | false =>
              simp only [Bool.false_eq_true, if_false] at hr
              cases hE2 : zRead f ts ⟨i6, false, p6⟩ with
              | none => rw [hE2] at hr; simp at hr
              | some q =>
                obtain ⟨u, s7⟩ := q
                rw [hE2] at hr
                simp only [Option.some.injEq, Prod.mk.injEq] at hr
                obtain ⟨rfl, rfl⟩ := hr
                have HE2 := Lib.hid (fun (V : World) (h : RdX V b ts ⟨i6, false, p6⟩) => H f (by omega) _ u s7 hE2 b V.heap.size V h.lt (Nat.le_refl _) h)
                clear hE2 H
                go_enter Try.func46, Try.ntmps46
                go_wp2_with fail
                go_at_call 62
                generalize (w.alloc (.cells #[.int .i64 0, .int .i64 0, .string ⟨#[]⟩, .int .i64 0, .slice none 0 0, .slice none 0 0, .int .i64 0, .string ⟨#[]⟩, .int .i64 0, .int .i64 0, .slice none 0 0] 36)) = w0 at *
                refine (HPos.out _ HP0.out.rd).mono ?_
                rintro e w1 ⟨rfl, hb1⟩
                have HP1 := Lib.hid (HP0.out.lift hb1)
                have hz1 := Nat.lt_of_lt_of_le hsz0 hb1.size
                clear hb1 hsz0
                go_wp2_with fail
                go_at_call 63
                refine (HS1.out _ HP1.out.rd).mono ?_
                rintro e w2 ⟨rfl, hr2, hg2⟩
                have HP2 := Lib.hid (HP1.out.call hr2 hg2)
                clear hr2 hg2
                go_wp2_with fail
                go_at_call 63
                refine (HS2.out _ HP2.out.rd).mono ?_
                rintro e w3 ⟨rfl, hr3, hg3⟩
                have HP3 := Lib.hid (HP2.out.call hr3 hg3)
                clear hr3 hg3
                go_wp2_with fail
                go_at_call 63
                refine (HS3.out _ HP3.out.rd).mono ?_
                rintro e w4 ⟨rfl, hr4, hg4⟩
                have HP4 := Lib.hid (HP3.out.call hr4 hg4)
                clear hr4 hg4
                go_wp2_with fail
                go_at_call 64
                refine (HW.out _ HP4.out.rd).mono ?_
                rintro e w5 ⟨rfl, hr5, hg5⟩
                have HP5 := Lib.hid (HP4.out.call hr5 hg5)
                clear hr5 hg5
                go_wp2_with fail
                go_at_call 65
                refine (HN.out _ HP5.out.rd).mono ?_
                rintro e w6 ⟨rfl, hr6, hg6⟩
                have HP6 := Lib.hid (HP5.out.call hr6 hg6)
                clear hr6 hg6
                obtain ⟨lv, hrd, -⟩ := HP6.out.rd
                obtain ⟨r0, r1, r2, -⟩ := hrd.cells
                clear hrd
                go_wp2_with fail
                go_at_call 46
                refine (HE.out _ HP6.out.rd).mono ?_
                rintro e w7 ⟨c, rfl, hrep, hr7, hg7⟩
                obtain ⟨ka, kc, aa, ac, tk, tn, ti, th, ta, tl, tc, rfl⟩ := hrep.form
                clear r0 r1 r2
                have HV0 := Lib.hid (AX.mk' (HP6.out.call hr7 hg7) (hrep.imp_lt HP6.out.res.lt))
                clear hrep hr7 hg7
                go_wp2_with fail
                go_at_call 65
                generalize (w7.alloc (.cells #[.int .i64 a.k, .int .i64 a.p, .string a.n, .int .i64 a.m, .slice ka a.kids.length kc, .slice aa a.arms.length ac, .int .i64 tk, .string tn, .int .i64 ti, .int .i64 th, .slice ta tl tc] 36)) = v7 at *
                generalize w7.heap.size = R1 at *
                refine (HN2.out _ HV0.out.eb.rd).mono ?_
                rintro e w8 ⟨rfl, hr8, hg8'⟩
                have HV8 := Lib.hid (HV0.out.call hr8 hg8')
                have HP8 := Lib.hid HV8.out.eb.pb
                clear hr8 hg8' HV0
                obtain ⟨lv, hrd, -⟩ := HP8.out.rd
                obtain ⟨r0, r1, r2, -⟩ := hrd.cells
                clear hrd
                have HW8 := Lib.hid (HV8.out.lift (Below.refl _ _).drew)
                obtain ⟨d0, d1, d2, d3, d4, d5, d6, d7, d8, d9, d10⟩ := HW8.out.eb.box.all11
                go_upto_region 20 with fail
                go_region_law
                  (((with_reducible refine step_call1 46 enterRead (.pointer (some ⟨b, 0, none⟩)) (fun r w' => ∃ c, r = .agg (List.toArray c) ∧ RepE w' (fun g => w.heap.size < g ∧ g ≠ R1) u c ∧ AX w w' b w.heap.size R1 ts s7 [.int .i64 a.k, .int .i64 a.p, .string a.n, .int .i64 a.m, .slice ka a.kids.length kc, .slice aa a.arms.length ac, .int .i64 tk, .string tn, .int .i64 ti, .int .i64 th, .slice ta tl tc] a) ?_ ?_ ?_); (rfl); (exact (HE2.out _ HW8.out.eb.rd).mono fun e w' h => by obtain ⟨c, h1, h2, h3, h4⟩ := h; exact ⟨_, h1, c, rfl, h2.imp fun g hg => ⟨Nat.lt_of_lt_of_le (Nat.lt_trans HW8.out.eb.h1 HW8.out.eb.lt) hg, Nat.ne_of_gt (Nat.lt_of_lt_of_le HW8.out.eb.lt hg)⟩, HW8.out.call h3 h4⟩); (rintro r w9 ⟨c, rfl, hrep, hv⟩); (obtain ⟨ka2, kc2, aa2, ac2, tk2, tn2, ti2, th2, ta2, tl2, tc2, rfl⟩ := hrep.form); (have HRp := Lib.hid hrep); (have HV := Lib.hid hv); (clear hrep hv); (obtain ⟨x0, x1, x2, x3, x4, x5, x6, x7, x8, x9, x10⟩ := HV.out.eb.box.all11); (obtain ⟨z0, z1, z2, z3, z4, z5, z6, z7, z8, z9, z10⟩ := HV.out.eb.zall); (obtain ⟨y0, y1, y2, y3, y4, y5, y6, y7, y8, y9, y10⟩ := HV.out.eb.res.free11); (have hlt0 := HV.out.eb.res.lt)))
                all_goals
                  obtain ⟨v10, hv10⟩ : ∃ v10, v10 = (((((((((((w9.setCell ⟨w.heap.size, 0, none⟩ (.int .i64 7)).setCell ⟨w.heap.size, 1, none⟩ (.int .i64 p)).setCell ⟨w.heap.size, 2, none⟩ (.string nm)).setCell ⟨w.heap.size, 3, none⟩ (.int .i64 0)).setCell ⟨w.heap.size, 4, none⟩ (.slice (some ⟨w9.heap.size, 0, none⟩) 2 2)).setCell ⟨w.heap.size, 5, none⟩ (.slice none 0 0)).setCell ⟨w.heap.size, 6, none⟩ (.int .i64 0)).setCell ⟨w.heap.size, 7, none⟩ (.string ⟨#[]⟩)).setCell ⟨w.heap.size, 8, none⟩ (.int .i64 0)).setCell ⟨w.heap.size, 9, none⟩ (.int .i64 0)).setCell ⟨w.heap.size, 10, none⟩ (.slice none 0 0)).alloc (.cells #[.int .i64 a.k, .int .i64 a.p, .string a.n, .int .i64 a.m, .slice ka a.kids.length kc, .slice aa a.arms.length ac, .int .i64 tk, .string tn, .int .i64 ti, .int .i64 th, .slice ta tl tc, .int .i64 u.k, .int .i64 u.p, .string u.n, .int .i64 u.m, .slice ka2 u.kids.length kc2, .slice aa2 u.arms.length ac2, .int .i64 tk2, .string tn2, .int .i64 ti2, .int .i64 th2, .slice ta2 tl2 tc2] 36) := ⟨_, rfl⟩
                  obtain ⟨hB8, hRes, hRd, hGr⟩ := HV.out.loc HRp.out 7 p nm HNs.out hbase v10 hv10
                  have HFin := Lib.hid (And.intro hRes (And.intro hRd hGr))
                  rw [← hv10]
                  clear hv10 hRes hRd hGr x0 x1 x2 x3 x4 x5 x6 x7 x8 x9 x10 y0 y1 y2 y3 y4 y5 y6 y7 y8 y9 y10 z0 z1 z2 z3 z4 z5 z6 z7 z8 z9 z10 d0 d1 d2 d3 d4 d5 d6 d7 d8 d9 d10 r0 r1 r2 HV HRp HW8 HV8 HP8
                  obtain ⟨e0, e1, e2, e3, e4, e5, e6, e7, e8, e9, e10⟩ := hB8.all11
                  go_wp2
                  refine bodyPost_ret (by simp [results, Try.results46, go_sem, e0, e1, e2, e3, e4, e5, e6, e7, e8, e9, e10]; try rfl) rfl ?_
                  exact ⟨_, rfl, HFin.out⟩
      | false =>
        have HS3 := Lib.hid (rdSkip_f (b := b) hq)
        have hsk : xSkip ts s1 ⟨#[114, 101, 99]⟩ = s1 := by unfold xSkip; rw [hq]; rfl
        rw [hsk, hq] at hr
        simp only [Bool.false_eq_true, if_false] at hr
        clear hq hsk
        have HNs := Lib.hid (zW_size hok s1 1)
        have HW := Lib.hid (fun (V : World) (h : RdX V b ts s1) => rdWord_any 1 b ts s1 V h)
        generalize zW ts s1 1 = nm at *
        generalize zWs ts s1 1 = s3 at *
        have HN := Lib.hid (fun (V : World) (h : RdX V b ts s3) => rdNeed_any ⟨#[61]⟩ b ts s3 V h)
        generalize xNeed ts s3 ⟨#[61]⟩ = s4 at *
        obtain ⟨i4, q4, p4⟩ := s4
        dsimp only at hr
        cases q4 with
        | true =>
          simp only [if_true, Option.some.injEq, Prod.mk.injEq] at hr
          obtain ⟨rfl, rfl⟩ := hr
          clear H
          go_enter Try.func46, Try.ntmps46
          go_wp2_with fail
          go_at_call 62
          generalize (w.alloc (.cells #[.int .i64 0, .int .i64 0, .string ⟨#[]⟩, .int .i64 0, .slice none 0 0, .slice none 0 0, .int .i64 0, .string ⟨#[]⟩, .int .i64 0, .int .i64 0, .slice none 0 0] 36)) = w0 at *
          refine (HPos.out _ HP0.out.rd).mono ?_
          rintro e w1 ⟨rfl, hb1⟩
          have HP1 := Lib.hid (HP0.out.lift hb1)
          have hz1 := Nat.lt_of_lt_of_le hsz0 hb1.size
          clear hb1 hsz0
          go_wp2_with fail
          go_at_call 63
          refine (HS1.out _ HP1.out.rd).mono ?_
          rintro e w2 ⟨rfl, hr2, hg2⟩
          have HP2 := Lib.hid (HP1.out.call hr2 hg2)
          clear hr2 hg2
          go_wp2_with fail
          go_at_call 63
          refine (HS2.out _ HP2.out.rd).mono ?_
          rintro e w3 ⟨rfl, hr3, hg3⟩
          have HP3 := Lib.hid (HP2.out.call hr3 hg3)
          clear hr3 hg3
          go_wp2_with fail
          go_at_call 63
          refine (HS3.out _ HP3.out.rd).mono ?_
          rintro e w4 ⟨rfl, hr4, hg4⟩
          have HP4 := Lib.hid (HP3.out.call hr4 hg4)
          clear hr4 hg4
          go_wp2_with fail
          go_at_call 64
          refine (HW.out _ HP4.out.rd).mono ?_
          rintro e w5 ⟨rfl, hr5, hg5⟩
          have HP5 := Lib.hid (HP4.out.call hr5 hg5)
          clear hr5 hg5
          go_wp2_with fail
          go_at_call 65
          refine (HN.out _ HP5.out.rd).mono ?_
          rintro e w6 ⟨rfl, hr6, hg6⟩
          have HP6 := Lib.hid (HP5.out.call hr6 hg6)
          clear hr6 hg6
          obtain ⟨lv, hrd, -⟩ := HP6.out.rd
          obtain ⟨r0, r1, r2, -⟩ := hrd.cells
          clear hrd
          have HRes := Lib.hid (repE_zero w6 (fun g => w.heap.size < g))
          go_wp2_with (refine wpList_storeC rfl _ _ rfl _ _ _ HP6.out.res rfl rfl HRes.out.size HRes.out.len0 HRes.out.len.2 ?_; intro v8 hB8 hg8 hs8)
          obtain ⟨e0, e1, e2, e3, e4, e5, e6, e7, e8, e9, e10⟩ := hB8.all11
          refine bodyPost_ret (by simp [results, Try.results46, go_sem, e0, e1, e2, e3, e4, e5, e6, e7, e8, e9, e10]; try rfl) rfl ?_
          exact ⟨_, rfl, HP6.out.ret HRes.out hbase hg8⟩
        | false =>
          simp only [Bool.false_eq_true, if_false] at hr
          cases hE : zRead f ts ⟨i4, false, p4⟩ with
          | none => rw [hE] at hr; simp at hr
          | some q =>
            obtain ⟨a, s5⟩ := q
            rw [hE] at hr
            dsimp only at hr
            have HE := Lib.hid (fun (V : World) (h : RdX V b ts ⟨i4, false, p4⟩) => H f (by omega) _ a s5 hE b V.heap.size V h.lt (Nat.le_refl _) h)
            clear hE
            have HN2 := Lib.hid (fun (V : World) (h : RdX V b ts s5) => rdNeed_any ⟨#[105, 110]⟩ b ts s5 V h)
            generalize xNeed ts s5 ⟨#[105, 110]⟩ = s6 at *
            obtain ⟨i6, q6, p6⟩ := s6
            dsimp only at hr
            cases q6 with
            | true =>
              simp only [if_true, Option.some.injEq, Prod.mk.injEq] at hr
              obtain ⟨rfl, rfl⟩ := hr
              clear H
              go_enter Try.func46, Try.ntmps46
              go_wp2_with fail
              go_at_call 62
              generalize (w.alloc (.cells #[.int .i64 0, .int .i64 0, .string ⟨#[]⟩, .int .i64 0, .slice none 0 0, .slice none 0 0, .int .i64 0, .string ⟨#[]⟩, .int .i64 0, .int .i64 0, .slice none 0 0] 36)) = w0 at *
              refine (HPos.out _ HP0.out.rd).mono ?_
              rintro e w1 ⟨rfl, hb1⟩
              have HP1 := Lib.hid (HP0.out.lift hb1)
              have hz1 := Nat.lt_of_lt_of_le hsz0 hb1.size
              clear hb1 hsz0
              go_wp2_with fail
              go_at_call 63
              refine (HS1.out _ HP1.out.rd).mono ?_
              rintro e w2 ⟨rfl, hr2, hg2⟩
              have HP2 := Lib.hid (HP1.out.call hr2 hg2)
              clear hr2 hg2
              go_wp2_with fail
              go_at_call 63
              refine (HS2.out _ HP2.out.rd).mono ?_
              rintro e w3 ⟨rfl, hr3, hg3⟩
              have HP3 := Lib.hid (HP2.out.call hr3 hg3)
              clear hr3 hg3
              go_wp2_with fail
              go_at_call 63
              refine (HS3.out _ HP3.out.rd).mono ?_
              rintro e w4 ⟨rfl, hr4, hg4⟩
              have HP4 := Lib.hid (HP3.out.call hr4 hg4)
              clear hr4 hg4
              go_wp2_with fail
              go_at_call 64
              refine (HW.out _ HP4.out.rd).mono ?_
              rintro e w5 ⟨rfl, hr5, hg5⟩
              have HP5 := Lib.hid (HP4.out.call hr5 hg5)
              clear hr5 hg5
              go_wp2_with fail
              go_at_call 65
              refine (HN.out _ HP5.out.rd).mono ?_
              rintro e w6 ⟨rfl, hr6, hg6⟩
              have HP6 := Lib.hid (HP5.out.call hr6 hg6)
              clear hr6 hg6
              obtain ⟨lv, hrd, -⟩ := HP6.out.rd
              obtain ⟨r0, r1, r2, -⟩ := hrd.cells
              clear hrd
              go_wp2_with fail
              go_at_call 46
              refine (HE.out _ HP6.out.rd).mono ?_
              rintro e w7 ⟨c, rfl, hrep, hr7, hg7⟩
              obtain ⟨ka, kc, aa, ac, tk, tn, ti, th, ta, tl, tc, rfl⟩ := hrep.form
              clear r0 r1 r2
              have HV0 := Lib.hid (AX.mk' (HP6.out.call hr7 hg7) (hrep.imp_lt HP6.out.res.lt))
              clear hrep hr7 hg7
              go_wp2_with fail
              go_at_call 65
              generalize (w7.alloc (.cells #[.int .i64 a.k, .int .i64 a.p, .string a.n, .int .i64 a.m, .slice ka a.kids.length kc, .slice aa a.arms.length ac, .int .i64 tk, .string tn, .int .i64 ti, .int .i64 th, .slice ta tl tc] 36)) = v7 at *
              generalize w7.heap.size = R1 at *
              refine (HN2.out _ HV0.out.eb.rd).mono ?_
              rintro e w8 ⟨rfl, hr8, hg8'⟩
              have HV8 := Lib.hid (HV0.out.call hr8 hg8')
              have HP8 := Lib.hid HV8.out.eb.pb
              clear hr8 hg8' HV0
              obtain ⟨lv, hrd, -⟩ := HP8.out.rd
              obtain ⟨r0, r1, r2, -⟩ := hrd.cells
              clear hrd
              have HRes := Lib.hid (repE_zero w8 (fun g => w.heap.size < g))
              go_wp2_with (refine wpList_storeC rfl _ _ rfl _ _ _ HP8.out.res rfl rfl HRes.out.size HRes.out.len0 HRes.out.len.2 ?_; intro v8 hB8 hg8 hs8)
              obtain ⟨e0, e1, e2, e3, e4, e5, e6, e7, e8, e9, e10⟩ := hB8.all11
              refine bodyPost_ret (by simp [results, Try.results46, go_sem, e0, e1, e2, e3, e4, e5, e6, e7, e8, e9, e10]; try rfl) rfl ?_
              exact ⟨_, rfl, HP8.out.ret HRes.out hbase hg8⟩
            | false =>
              simp only [Bool.false_eq_true, if_false] at hr
              cases hE2 : zRead f ts ⟨i6, false, p6⟩ with
              | none => rw [hE2] at hr; simp at hr
              | some q =>
                obtain ⟨u, s7⟩ := q
                rw [hE2] at hr
                simp only [Option.some.injEq, Prod.mk.injEq] at hr
                obtain ⟨rfl, rfl⟩ := hr
                have HE2 := Lib.hid (fun (V : World) (h : RdX V b ts ⟨i6, false, p6⟩) => H f (by omega) _ u s7 hE2 b V.heap.size V h.lt (Nat.le_refl _) h)
                clear hE2 H
                go_enter Try.func46, Try.ntmps46
                go_wp2_with fail
                go_at_call 62
                generalize (w.alloc (.cells #[.int .i64 0, .int .i64 0, .string ⟨#[]⟩, .int .i64 0, .slice none 0 0, .slice none 0 0, .int .i64 0, .string ⟨#[]⟩, .int .i64 0, .int .i64 0, .slice none 0 0] 36)) = w0 at *
                refine (HPos.out _ HP0.out.rd).mono ?_
                rintro e w1 ⟨rfl, hb1⟩
                have HP1 := Lib.hid (HP0.out.lift hb1)
                have hz1 := Nat.lt_of_lt_of_le hsz0 hb1.size
                clear hb1 hsz0
                go_wp2_with fail
                go_at_call 63
                refine (HS1.out _ HP1.out.rd).mono ?_
                rintro e w2 ⟨rfl, hr2, hg2⟩
                have HP2 := Lib.hid (HP1.out.call hr2 hg2)
                clear hr2 hg2
                go_wp2_with fail
                go_at_call 63
                refine (HS2.out _ HP2.out.rd).mono ?_
                rintro e w3 ⟨rfl, hr3, hg3⟩
                have HP3 := Lib.hid (HP2.out.call hr3 hg3)
                clear hr3 hg3
                go_wp2_with fail
                go_at_call 63
                refine (HS3.out _ HP3.out.rd).mono ?_
                rintro e w4 ⟨rfl, hr4, hg4⟩
                have HP4 := Lib.hid (HP3.out.call hr4 hg4)
                clear hr4 hg4
                go_wp2_with fail
                go_at_call 64
                refine (HW.out _ HP4.out.rd).mono ?_
                rintro e w5 ⟨rfl, hr5, hg5⟩
                have HP5 := Lib.hid (HP4.out.call hr5 hg5)
                clear hr5 hg5
                go_wp2_with fail
                go_at_call 65
                refine (HN.out _ HP5.out.rd).mono ?_
                rintro e w6 ⟨rfl, hr6, hg6⟩
                have HP6 := Lib.hid (HP5.out.call hr6 hg6)
                clear hr6 hg6
                obtain ⟨lv, hrd, -⟩ := HP6.out.rd
                obtain ⟨r0, r1, r2, -⟩ := hrd.cells
                clear hrd
                go_wp2_with fail
                go_at_call 46
                refine (HE.out _ HP6.out.rd).mono ?_
                rintro e w7 ⟨c, rfl, hrep, hr7, hg7⟩
                obtain ⟨ka, kc, aa, ac, tk, tn, ti, th, ta, tl, tc, rfl⟩ := hrep.form
                clear r0 r1 r2
                have HV0 := Lib.hid (AX.mk' (HP6.out.call hr7 hg7) (hrep.imp_lt HP6.out.res.lt))
                clear hrep hr7 hg7
                go_wp2_with fail
                go_at_call 65
                generalize (w7.alloc (.cells #[.int .i64 a.k, .int .i64 a.p, .string a.n, .int .i64 a.m, .slice ka a.kids.length kc, .slice aa a.arms.length ac, .int .i64 tk, .string tn, .int .i64 ti, .int .i64 th, .slice ta tl tc] 36)) = v7 at *
                generalize w7.heap.size = R1 at *
                refine (HN2.out _ HV0.out.eb.rd).mono ?_
                rintro e w8 ⟨rfl, hr8, hg8'⟩
                have HV8 := Lib.hid (HV0.out.call hr8 hg8')
                have HP8 := Lib.hid HV8.out.eb.pb
                clear hr8 hg8' HV0
                obtain ⟨lv, hrd, -⟩ := HP8.out.rd
                obtain ⟨r0, r1, r2, -⟩ := hrd.cells
                clear hrd
                have HW8 := Lib.hid (HV8.out.lift (Below.refl _ _).drew)
                obtain ⟨d0, d1, d2, d3, d4, d5, d6, d7, d8, d9, d10⟩ := HW8.out.eb.box.all11
                go_upto_region 20 with fail
                go_region_law
                  (((with_reducible refine step_call1 46 enterRead (.pointer (some ⟨b, 0, none⟩)) (fun r w' => ∃ c, r = .agg (List.toArray c) ∧ RepE w' (fun g => w.heap.size < g ∧ g ≠ R1) u c ∧ AX w w' b w.heap.size R1 ts s7 [.int .i64 a.k, .int .i64 a.p, .string a.n, .int .i64 a.m, .slice ka a.kids.length kc, .slice aa a.arms.length ac, .int .i64 tk, .string tn, .int .i64 ti, .int .i64 th, .slice ta tl tc] a) ?_ ?_ ?_); (rfl); (exact (HE2.out _ HW8.out.eb.rd).mono fun e w' h => by obtain ⟨c, h1, h2, h3, h4⟩ := h; exact ⟨_, h1, c, rfl, h2.imp fun g hg => ⟨Nat.lt_of_lt_of_le (Nat.lt_trans HW8.out.eb.h1 HW8.out.eb.lt) hg, Nat.ne_of_gt (Nat.lt_of_lt_of_le HW8.out.eb.lt hg)⟩, HW8.out.call h3 h4⟩); (rintro r w9 ⟨c, rfl, hrep, hv⟩); (obtain ⟨ka2, kc2, aa2, ac2, tk2, tn2, ti2, th2, ta2, tl2, tc2, rfl⟩ := hrep.form); (have HRp := Lib.hid hrep); (have HV := Lib.hid hv); (clear hrep hv); (obtain ⟨x0, x1, x2, x3, x4, x5, x6, x7, x8, x9, x10⟩ := HV.out.eb.box.all11); (obtain ⟨z0, z1, z2, z3, z4, z5, z6, z7, z8, z9, z10⟩ := HV.out.eb.zall); (obtain ⟨y0, y1, y2, y3, y4, y5, y6, y7, y8, y9, y10⟩ := HV.out.eb.res.free11); (have hlt0 := HV.out.eb.res.lt)))
                all_goals
                  obtain ⟨v10, hv10⟩ : ∃ v10, v10 = (((((((((((w9.setCell ⟨w.heap.size, 0, none⟩ (.int .i64 6)).setCell ⟨w.heap.size, 1, none⟩ (.int .i64 p)).setCell ⟨w.heap.size, 2, none⟩ (.string nm)).setCell ⟨w.heap.size, 3, none⟩ (.int .i64 0)).setCell ⟨w.heap.size, 4, none⟩ (.slice (some ⟨w9.heap.size, 0, none⟩) 2 2)).setCell ⟨w.heap.size, 5, none⟩ (.slice none 0 0)).setCell ⟨w.heap.size, 6, none⟩ (.int .i64 0)).setCell ⟨w.heap.size, 7, none⟩ (.string ⟨#[]⟩)).setCell ⟨w.heap.size, 8, none⟩ (.int .i64 0)).setCell ⟨w.heap.size, 9, none⟩ (.int .i64 0)).setCell ⟨w.heap.size, 10, none⟩ (.slice none 0 0)).alloc (.cells #[.int .i64 a.k, .int .i64 a.p, .string a.n, .int .i64 a.m, .slice ka a.kids.length kc, .slice aa a.arms.length ac, .int .i64 tk, .string tn, .int .i64 ti, .int .i64 th, .slice ta tl tc, .int .i64 u.k, .int .i64 u.p, .string u.n, .int .i64 u.m, .slice ka2 u.kids.length kc2, .slice aa2 u.arms.length ac2, .int .i64 tk2, .string tn2, .int .i64 ti2, .int .i64 th2, .slice ta2 tl2 tc2] 36) := ⟨_, rfl⟩
                  obtain ⟨hB8, hRes, hRd, hGr⟩ := HV.out.loc HRp.out 6 p nm HNs.out hbase v10 hv10
                  have HFin := Lib.hid (And.intro hRes (And.intro hRd hGr))
                  rw [← hv10]
                  clear hv10 hRes hRd hGr x0 x1 x2 x3 x4 x5 x6 x7 x8 x9 x10 y0 y1 y2 y3 y4 y5 y6 y7 y8 y9 y10 z0 z1 z2 z3 z4 z5 z6 z7 z8 z9 z10 d0 d1 d2 d3 d4 d5 d6 d7 d8 d9 d10 r0 r1 r2 HV HRp HW8 HV8 HP8
                  obtain ⟨e0, e1, e2, e3, e4, e5, e6, e7, e8, e9, e10⟩ := hB8.all11
                  go_wp2
                  refine bodyPost_ret (by simp [results, Try.results46, go_sem, e0, e1, e2, e3, e4, e5, e6, e7, e8, e9, e10]; try rfl) rfl ?_
                  exact ⟨_, rfl, HFin.out⟩
    | false =>
      rw [h2] at hr
      simp only [Bool.false_eq_true, if_false] at hr
      have HS2 := Lib.hid (rdSkip_f (b := b) h2)
      have HH2 := Lib.hid h2
      clear h2
      cases h3 : xI ts s ⟨#[99, 97, 115, 101]⟩ with
      | true =>
        rw [h3] at hr
        simp only [if_true] at hr
        have HS3 := Lib.hid (rdSkip_t (b := b) h3)
        generalize tkP ts s.i = p at *
        generalize xStep s = s1 at *
        have HE := Lib.hid (fun (V : World) (h : RdX V b ts s1) => HC f (Nat.le_refl _) s1 p T j hr b V.heap.size V h.lt (Nat.le_refl _) h)
        clear h3 HA HC H hr
        go_enter Try.func46, Try.ntmps46
        go_wp2_with fail
        go_at_call 62
        generalize (w.alloc (.cells #[.int .i64 0, .int .i64 0, .string ⟨#[]⟩, .int .i64 0, .slice none 0 0, .slice none 0 0, .int .i64 0, .string ⟨#[]⟩, .int .i64 0, .int .i64 0, .slice none 0 0] 36)) = w0 at *
        refine (HPos.out _ HP0.out.rd).mono ?_
        rintro e w1 ⟨rfl, hb1⟩
        have HP1 := Lib.hid (HP0.out.lift hb1)
        have hz1 := Nat.lt_of_lt_of_le hsz0 hb1.size
        clear hb1 hsz0
        go_wp2_with fail
        go_at_call 63
        refine (HS1.out _ HP1.out.rd).mono ?_
        rintro e w2 ⟨rfl, hr2, hg2⟩
        have HP2 := Lib.hid (HP1.out.call hr2 hg2)
        clear hr2 hg2
        go_wp2_with fail
        go_at_call 63
        refine (HS2.out _ HP2.out.rd).mono ?_
        rintro e w3 ⟨rfl, hr3, hg3⟩
        have HP3 := Lib.hid (HP2.out.call hr3 hg3)
        clear hr3 hg3
        go_wp2_with fail
        go_at_call 63
        refine (HS3.out _ HP3.out.rd).mono ?_
        rintro e w4 ⟨rfl, hr4, hg4⟩
        have HP4 := Lib.hid (HP3.out.call hr4 hg4)
        clear hr4 hg4
        go_wp2_with fail
        go_at_call 66
        refine (HE.out _ HP4.out.rd).mono ?_
        rintro e w5 ⟨c, rfl, hrep, hr5, hg5⟩
        obtain ⟨ka, kc, aa, ac, tk, tn, ti, th, ta, tl, tc, rfl⟩ := hrep.form
        have HP5 := Lib.hid (HP4.out.call hr5 hg5)
        have HRes := Lib.hid (hrep.imp_lt HP4.out.res.lt)
        clear hrep hr5 hg5
        go_wp2_with (refine wpList_storeC rfl _ _ rfl _ _ _ HP5.out.res rfl rfl HRes.out.size HRes.out.len0 HRes.out.len.2 ?_; intro v8 hB8 hg8 hs8)
        obtain ⟨e0, e1, e2, e3, e4, e5, e6, e7, e8, e9, e10⟩ := hB8.all11
        refine bodyPost_ret (by simp [results, Try.results46, go_sem, e0, e1, e2, e3, e4, e5, e6, e7, e8, e9, e10]; try rfl) rfl ?_
        exact ⟨_, rfl, HP5.out.ret HRes.out hbase hg8⟩
      | false =>
        rw [h3] at hr
        simp only [Bool.false_eq_true, if_false] at hr
        exact zReadApp_of ts s f (by omega) HA HH1.out HH2.out h3 T j hr b base w hbb hbase HR.out
end Go.Proofs.Ytljgpgmaceackaa
