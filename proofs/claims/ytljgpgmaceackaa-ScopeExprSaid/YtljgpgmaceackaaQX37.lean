import Derived.Test.YtljgpgmaceackaaQX34
import Derived.Test.YtljgpgmaceackaaQX36
import Derived.Deep.LoopGhost
import Derived.Lib.QuietBelow
/- The reference's reader of expressions: applications. -/
namespace Go.Proofs.Ytljgpgmaceackaa
open Go.RowKit Go.Maps Mth

def appC (p : Int) (n : Nat) : List Value := [.int .i64 5, .int .i64 p, .string ⟨#[]⟩, .int .i64 0, .slice (some ⟨n, 0, none⟩) 2 2, .slice none 0 0, .int .i64 0, .string ⟨#[]⟩, .int .i64 0, .int .i64 0, .slice none 0 0]
theorem appC_one (p : Int) (n : Nat) : ∀ x ∈ appC p n, x.oneCell' = true := by
  intro x hx
  unfold appC at hx
  simp only [List.mem_cons, List.not_mem_nil, or_false] at hx
  rcases hx with h | h | h | h | h | h | h | h | h | h | h <;> subst h <;> rfl
theorem AX.appS {w v v' : World} {b R0 R1 : Nat} {ts : List Tok} {s : St} {c : List Value} {a : Ex} (h : AX w v b R0 R1 ts s c a) {u : Ex} {k : List Value} (hu : RepE v (fun g => R0 < g ∧ g ≠ R1) u k) (p : Int)
    (hB : BoxC 36 v' R1 (appC p v.heap.size)) (hg : (v.alloc (.cells (c ++ k).toArray 36)).grownBy v' (some R1)) : AX w v' b R0 R1 ts s (appC p v.heap.size) (.mk 5 p ⟨#[]⟩ 0 zTy [a, u] []) := by
  have hb : Below v.heap.size v (v.alloc (.cells (c ++ k).toArray 36)) := (Below.refl _ v).alloc (Nat.le_refl _) _
  have h01 := h.eb.h1
  have hlt := h.eb.lt
  have hk := two_newE h.rep hu 36 v.heap.size rfl (S' := fun g => R0 < g ∧ g ≠ R1) (fun _ h => h) ⟨by omega, by omega⟩
  exact ⟨(h.eb.lift hb).row hB hg, repE_kids 5 p ⟨#[]⟩ 0 (Nat.zero_le _) (hk.kept (fun _ h => h) (fun g h1 hl => hg.block g hl (by intro e; exact h1.2 (Option.some.inj e))))⟩
set_option maxRecDepth 100000 in
set_option maxHeartbeats 6400000 in
theorem zReadApp_of (ts : List Tok) (s : St) (f : Nat) (hf : f ≤ 900000) (HA : ∀ g, g ≤ f → ∀ s, ZAt 67 #[] ts s (zAtom g ts s)) (h1 : xI ts s ⟨#[92]⟩ = false) (h2 : xI ts s ⟨#[108, 101, 116]⟩ = false) (h3 : xI ts s ⟨#[99, 97, 115, 101]⟩ = false) : ZAt 46 #[] ts s (zApp f ts s) := by
  intro T j hr b base w hbb hbase h
  have HR := Lib.hid h
  have HP0 := Lib.hid (PX.start HR.out)
  have hsz0 : w.heap.size < (w.alloc (.cells #[.int .i64 0, .int .i64 0, .string ⟨#[]⟩, .int .i64 0, .slice none 0 0, .slice none 0 0, .int .i64 0, .string ⟨#[]⟩, .int .i64 0, .int .i64 0, .slice none 0 0] 36)).heap.size := by simp
  have HPos := Lib.hid (fun (V : World) (h : RdX V b ts s) => rdPos_any b ts s V h)
  clear h
  have HS1 := Lib.hid (rdSkip_f (b := b) h1)
  have HS2 := Lib.hid (rdSkip_f (b := b) h2)
  clear h1 h2
  have HS3 := Lib.hid (rdSkip_f (b := b) h3)
  generalize tkP ts s.i = p at *
  clear h3
  obtain ⟨f, rfl⟩ : ∃ g, f = g + 1 := by
    cases f with
    | zero => simp [zApp] at hr
    | succ f => exact ⟨f, rfl⟩
  unfold zApp at hr
  cases hE : zAtom f ts s with
  | none => rw [hE] at hr; simp at hr
  | some q =>
    obtain ⟨a, s1⟩ := q
    rw [hE] at hr
    have HAp : Hid (zApps f ts s1 a = some (T, j)) := hr
    have HE := Lib.hid (fun (V : World) (h : RdX V b ts s) => HA f (by omega) s a s1 hE b V.heap.size V h.lt (Nat.le_refl _) h)
    have HAt := Lib.hid HA
    clear hE HA hr
    go_enter Try.func46, Try.ntmps46
    go_wp2_with fail
    go_at_call 62
    generalize (w.alloc (.cells #[.int .i64 0, .int .i64 0, .string ⟨#[]⟩, .int .i64 0, .slice none 0 0, .slice none 0 0, .int .i64 0, .string ⟨#[]⟩, .int .i64 0, .int .i64 0, .slice none 0 0] 36)) = w0 at *
    refine (HPos.out _ HP0.out.rd).mono ?_
    rintro e w1 ⟨rfl, hb1⟩
    have HP1 := Lib.hid (HP0.out.lift hb1)
    have hz1 := Nat.lt_of_lt_of_le hsz0 hb1.size
    clear hb1 hsz0
    go_wp2_with fail
    go_at_call 63
    refine (HS1.out _ HP1.out.rd).mono ?_
    rintro e w2 ⟨rfl, hr2, hg2⟩
    have HP2 := Lib.hid (HP1.out.call hr2 hg2)
    clear hr2 hg2
    go_wp2_with fail
    go_at_call 63
    refine (HS2.out _ HP2.out.rd).mono ?_
    rintro e w3 ⟨rfl, hr3, hg3⟩
    have HP3 := Lib.hid (HP2.out.call hr3 hg3)
    clear hr3 hg3
    go_wp2_with fail
    go_at_call 63
    refine (HS3.out _ HP3.out.rd).mono ?_
    rintro e w4 ⟨rfl, hr4, hg4⟩
    have HP4 := Lib.hid (HP3.out.call hr4 hg4)
    clear hr4 hg4
    go_wp2_with fail
    go_at_call 67
    refine (HE.out _ HP4.out.rd).mono ?_
    rintro e w5 ⟨c, rfl, hrep, hr5, hg5⟩
    obtain ⟨ka, kc, aa, ac, tk, tn, ti, th, ta, tl, tc, rfl⟩ := hrep.form
    have HA0 := Lib.hid (AX.mk' (HP4.out.call hr5 hg5) (hrep.imp_lt HP4.out.res.lt))
    clear hrep hr5 hg5 HP4
    go_wp2_with fail
    generalize (w5.alloc (.cells #[.int .i64 a.k, .int .i64 a.p, .string a.n, .int .i64 a.m, .slice ka a.kids.length kc, .slice aa a.arms.length ac, .int .i64 tk, .string tn, .int .i64 ti, .int .i64 th, .slice ta tl tc] 36)) = v5 at *
    generalize w5.heap.size = R1 at *
    go_loopg [] f (fun k wr => ∃ (s2 : St) (e : Ex) (c : List Value), Hid (zApps k ts s2 e = some (T, j)) ∧ k ≤ f ∧ Hid (AX w wr b w.heap.size R1 ts s2 c e))
    case atStart => exact ⟨s1, a, _, HAp, Nat.le_refl _, HA0⟩
    case round =>
      clear HA0 HAp
      obtain ⟨s2, e, c, HA2, hkf, HB2⟩ := hrel
      obtain ⟨ka, kc, aa, ac, tk, tn, ti, th, ta, tl, tc, rfl⟩ := HB2.out.rep.form
      obtain ⟨g', rfl⟩ : ∃ g', gk = g' + 1 := by
        cases gk with
        | zero => have := HA2.out; simp [zApps] at this
        | succ g => exact ⟨g, rfl⟩
      have hA := HA2.out
      unfold zApps at hA
      obtain ⟨lv, hrd, ⟨la, lc, rfl, hcap, hcells⟩, hil, -, hokk⟩ := HB2.out.eb.rd
      have hl1 := hokk.1
      obtain ⟨i2, q2, p2⟩ := s2
      obtain ⟨c0, c1, c2, -⟩ := hrd.cells
      have HCe := Lib.hid hcells
      dsimp only at hil
      clear hrd hcells hokk HA2
      cases q2 with
      | true =>
        rw [stB_bad rfl] at hA
        simp only [Bool.false_eq_true, if_false, Option.some.injEq, Prod.mk.injEq] at hA
        obtain ⟨rfl, rfl⟩ := hA
        go_wp2
        go_quiet (fail)
        have HB3 := Lib.hid (HB2.out.lift (below_drewN (Below.refl _ wr) nq))
        clear HB2 c0 c1 c2
        generalize wr.drewN nq = W at *
        obtain ⟨d0, d1, d2, d3, d4, d5, d6, d7, d8, d9, d10⟩ := HB3.out.eb.box.all11
        go_wp2_with (refine wpList_storeC rfl _ _ rfl _ _ _ HB3.out.eb.res rfl rfl HB3.out.rep.size HB3.out.rep.len0 HB3.out.rep.len.2 ?_; intro v8 hB8 hg8 hs8)
        obtain ⟨e0, e1, e2, e3, e4, e5, e6, e7, e8, e9, e10⟩ := hB8.all11
        refine bodyPost_ret (by simp [results, Try.results46, go_sem, e0, e1, e2, e3, e4, e5, e6, e7, e8, e9, e10]; try rfl) rfl ?_
        exact ⟨_, rfl, HB3.out.ret hbase hg8⟩
      | false =>
        by_cases hlt : i2 < ts.length
        · obtain ⟨t, ht⟩ : ∃ x, ts[i2]? = some x := ⟨_, List.getElem?_eq_getElem hlt⟩
          obtain ⟨g, rfl, hg, d0, d1, d2⟩ := HCe.out i2 t ht
          have e1 : yK ts ⟨i2, false, p2⟩ = t.kind := by unfold yK tkK; rw [ht]; rfl
          have e2 : yT ts ⟨i2, false, p2⟩ = ⟨t.text.toArray⟩ := by unfold yT; rw [txt_some ht]; rfl
          rw [e1, e2] at hA
          have HSt : Hid (∀ V, Calls Try.prog 68 #[.agg #[.int .i64 t.kind, .string ⟨t.text.toArray⟩, .int .i64 t.pos]] V fun e w' => e = .returned (.bool (stB t.kind ⟨t.text.toArray⟩)) ∧ Below V.heap.size V w') := fun V => rstarts6_any _ _ _ V
          have hli : ((i2 : Int) < (ts.length : Int)) := by omega
          clear e1 e2 ht HCe
          generalize stB t.kind ⟨t.text.toArray⟩ = q at *
          generalize ts.length = ln at *
          have G0 := cell_regrown c0
          have G1 := cell_regrown c1
          have Gw2 := cell_regrown c2
          have D0 := cell_regrown d0
          have D1 := cell_regrown d1
          have D2 := cell_regrown d2
          go_wp2
          refine wp_region_quiet_below (by kernel_rfl) (by kernel_rfl) ?_
          repeat (quiet_step ((go_at_call 68; exact Calls.regrown_of (HSt.out _))))
          refine wpQuiet_nil ?_
          intro _ hw'
          obtain ⟨⟨dq, osq⟩, hw''⟩ := hw'
          subst hw''
          have HB3 := Lib.hid (HB2.out.lift (below_regrown wr dq osq))
          clear c0 c1 c2 d0 d1 d2 G0 G1 Gw2 D0 D1 D2 HB2 HSt
          generalize Go.Sort.grow (redrawn wr dq) osq = W at *
          cases q with
          | false =>
            simp only [Bool.false_eq_true, if_false, Option.some.injEq, Prod.mk.injEq] at hA
            obtain ⟨rfl, rfl⟩ := hA
            obtain ⟨d0, d1, d2, d3, d4, d5, d6, d7, d8, d9, d10⟩ := HB3.out.eb.box.all11
            go_wp2_with (refine wpList_storeC rfl _ _ rfl _ _ _ HB3.out.eb.res rfl rfl HB3.out.rep.size HB3.out.rep.len0 HB3.out.rep.len.2 ?_; intro v8 hB8 hg8 hs8)
            obtain ⟨e0, e1, e2, e3, e4, e5, e6, e7, e8, e9, e10⟩ := hB8.all11
            refine bodyPost_ret (by simp [results, Try.results46, go_sem, e0, e1, e2, e3, e4, e5, e6, e7, e8, e9, e10]; try rfl) rfl ?_
            exact ⟨_, rfl, HB3.out.ret hbase hg8⟩
          | true =>
            simp only [if_true] at hA
            cases hV : zAtom g' ts ⟨i2, false, p2⟩ with
            | none => rw [hV] at hA; simp at hA
            | some qq =>
              obtain ⟨u, m⟩ := qq
              rw [hV] at hA
              have HRest : Hid (zApps g' ts m (.mk 5 e.p ⟨#[]⟩ 0 zTy [e, u] []) = some (T, j)) := hA
              have HEu := Lib.hid (fun (V : World) (h : RdX V b ts ⟨i2, false, p2⟩) => HAt.out g' (by omega) _ u m hV b V.heap.size V h.lt (Nat.le_refl _) h)
              clear hA hV
              go_wp2_with fail
              go_at_call 67
              refine (HEu.out _ HB3.out.eb.rd).mono ?_
              rintro e' w6 ⟨c', rfl, hrep, hr6, hg6⟩
              obtain ⟨ka2, kc2, aa2, ac2, tk2, tn2, ti2, th2, ta2, tl2, tc2, rfl⟩ := hrep.form
              have hb6 : Below w6.heap.size w6 (w6.alloc (.cells #[.int .i64 u.k, .int .i64 u.p, .string u.n, .int .i64 u.m, .slice ka2 u.kids.length kc2, .slice aa2 u.arms.length ac2, .int .i64 tk2, .string tn2, .int .i64 ti2, .int .i64 th2, .slice ta2 tl2 tc2] 36)) := (Below.refl _ w6).alloc (Nat.le_refl _) _
              have hlt3 := HB3.out.eb.lt
              have h013 := HB3.out.eb.h1
              have HB6 := Lib.hid ((HB3.out.call hr6 hg6).lift hb6)
              have HU : Hid (RepE (w6.alloc (.cells #[.int .i64 u.k, .int .i64 u.p, .string u.n, .int .i64 u.m, .slice ka2 u.kids.length kc2, .slice aa2 u.arms.length ac2, .int .i64 tk2, .string tn2, .int .i64 ti2, .int .i64 th2, .slice ta2 tl2 tc2] 36)) (fun g => w.heap.size < g ∧ g ≠ R1) u [.int .i64 u.k, .int .i64 u.p, .string u.n, .int .i64 u.m, .slice ka2 u.kids.length kc2, .slice aa2 u.arms.length ac2, .int .i64 tk2, .string tn2, .int .i64 ti2, .int .i64 th2, .slice ta2 tl2 tc2]) := (hrep.lift hb6).imp fun g hg => ⟨by omega, by omega⟩
              have HUb : Hid (BoxC 36 (w6.alloc (.cells #[.int .i64 u.k, .int .i64 u.p, .string u.n, .int .i64 u.m, .slice ka2 u.kids.length kc2, .slice aa2 u.arms.length ac2, .int .i64 tk2, .string tn2, .int .i64 ti2, .int .i64 th2, .slice ta2 tl2 tc2] 36)) w6.heap.size [.int .i64 u.k, .int .i64 u.p, .string u.n, .int .i64 u.m, .slice ka2 u.kids.length kc2, .slice aa2 u.arms.length ac2, .int .i64 tk2, .string tn2, .int .i64 ti2, .int .i64 th2, .slice ta2 tl2 tc2]) := BoxC.made _ w6 [.int .i64 u.k, .int .i64 u.p, .string u.n, .int .i64 u.m, .slice ka2 u.kids.length kc2, .slice aa2 u.arms.length ac2, .int .i64 tk2, .string tn2, .int .i64 ti2, .int .i64 th2, .slice ta2 tl2 tc2]
              clear hrep hr6 hg6 hb6 HB3 HEu hlt3 h013
              go_upto_region 26 with fail
              generalize (w6.alloc (.cells #[.int .i64 u.k, .int .i64 u.p, .string u.n, .int .i64 u.m, .slice ka2 u.kids.length kc2, .slice aa2 u.arms.length ac2, .int .i64 tk2, .string tn2, .int .i64 ti2, .int .i64 th2, .slice ta2 tl2 tc2] 36)) = v6 at *
              generalize w6.heap.size = R2 at *
              have hb7 : Below v6.heap.size v6 (v6.alloc (.cells #[.int .i64 e.k, .int .i64 e.p, .string e.n, .int .i64 e.m, .slice ka e.kids.length kc, .slice aa e.arms.length ac, .int .i64 tk, .string tn, .int .i64 ti, .int .i64 th, .slice ta tl tc, .int .i64 u.k, .int .i64 u.p, .string u.n, .int .i64 u.m, .slice ka2 u.kids.length kc2, .slice aa2 u.arms.length ac2, .int .i64 tk2, .string tn2, .int .i64 ti2, .int .i64 th2, .slice ta2 tl2 tc2] 36)) := (Below.refl _ v6).alloc (Nat.le_refl _) _
              have HB7 := Lib.hid (HB6.out.eb.lift hb7).box
              have HX : Hid (∀ v', BoxC 36 v' R1 (appC e.p v6.heap.size) → (v6.alloc (.cells #[.int .i64 e.k, .int .i64 e.p, .string e.n, .int .i64 e.m, .slice ka e.kids.length kc, .slice aa e.arms.length ac, .int .i64 tk, .string tn, .int .i64 ti, .int .i64 th, .slice ta tl tc, .int .i64 u.k, .int .i64 u.p, .string u.n, .int .i64 u.m, .slice ka2 u.kids.length kc2, .slice aa2 u.arms.length ac2, .int .i64 tk2, .string tn2, .int .i64 ti2, .int .i64 th2, .slice ta2 tl2 tc2] 36)).grownBy v' (some R1) → AX w v' b w.heap.size R1 ts m (appC e.p v6.heap.size) (.mk 5 e.p ⟨#[]⟩ 0 zTy [e, u] [])) := fun v' h1 h2 => HB6.out.appS HU.out e.p h1 h2
              obtain ⟨d0, d1, d2, d3, d4, d5, d6, d7, d8, d9, d10⟩ := HB6.out.eb.box.all11
              obtain ⟨x0, x1, x2, x3, x4, x5, x6, x7, x8, x9, x10⟩ := HUb.out.all11
              clear hb7
              go_wp2_with (refine wpList_storeC rfl _ _ rfl R1 _ (appC e.p v6.heap.size) HB7.out rfl rfl sizeEx rfl (appC_one _ _) ?_; intro v13 hB13 hg13 hs13)
              have HB13 := Lib.hid (HX.out v13 hB13 hg13)
              clear hB13 hg13 hs13 HX HB7 HB6 HU HUb d0 d1 d2 d3 d4 d5 d6 d7 d8 d9 d10 x0 x1 x2 x3 x4 x5 x6 x7 x8 x9 x10
              go_wp2
              go_roundg g'
              case measure => omega
              case rel => exact ⟨m, _, _, HRest, by omega, HB13⟩
        · have hk : yK ts ⟨i2, false, p2⟩ = 0 := by
            have hge : ts.length ≤ i2 := by omega
            unfold yK tkK; dsimp only; rw [List.getElem?_eq_none hge]; rfl
          rw [hk, show stB 0 (yT ts ⟨i2, false, p2⟩) = false from rfl] at hA
          simp only [Bool.false_eq_true, if_false, Option.some.injEq, Prod.mk.injEq] at hA
          obtain ⟨rfl, rfl⟩ := hA
          have hli : decide ((i2 : Int) < (ts.length : Int)) = false := by simpa using hlt
          clear hk
          go_wp2
          go_quiet (fail)
          have HB3 := Lib.hid (HB2.out.lift (below_drewN (Below.refl _ wr) nq))
          clear HB2 c0 c1 c2
          generalize wr.drewN nq = W at *
          obtain ⟨d0, d1, d2, d3, d4, d5, d6, d7, d8, d9, d10⟩ := HB3.out.eb.box.all11
          go_wp2_with (refine wpList_storeC rfl _ _ rfl _ _ _ HB3.out.eb.res rfl rfl HB3.out.rep.size HB3.out.rep.len0 HB3.out.rep.len.2 ?_; intro v8 hB8 hg8 hs8)
          obtain ⟨e0, e1, e2, e3, e4, e5, e6, e7, e8, e9, e10⟩ := hB8.all11
          refine bodyPost_ret (by simp [results, Try.results46, go_sem, e0, e1, e2, e3, e4, e5, e6, e7, e8, e9, e10]; try rfl) rfl ?_
          exact ⟨_, rfl, HB3.out.ret hbase hg8⟩
end Go.Proofs.Ytljgpgmaceackaa
