/- The law ReadexprAny returns true at every input. -/
import Derived.Test.YthphnacfidofbaaGreatDoorExQ6
import Derived.Test.YthphnacfidofbaaGreatDoorExX7
import Derived.Test.YthphnacfidofbaaGreatDoorExMg
import Derived.Test.YthphnacfidofbaaGreatDoorExMf
import Derived.Test.YthphnacfidofbaaGreatDoorTyTok
import Derived.Deep.CutBlock
import Derived.Deep.LoopGhost
namespace Go.Proofs.YthphnacfidofbaaGreatDoor
open Go.RowKit Go.Maps Mth

/-- The tokens that both readings get. -/
structure Src (w : World) (ts : List Tok) (v : Value) (V : World) : Prop where
  tok : TokAt V (fun _ => True) v ts
  ok : TkOk ts
  val : TkVal ts
theorem Src.lift {w V V' : World} {ts : List Tok} {v : Value} (h : Src w ts v V) (hb : Below V.heap.size V V') : Src w ts v V' := ⟨h.tok.lift hb, h.ok, h.val⟩
theorem src_of {w V : World} {ts : List Tok} {v : Value} {base : Nat} (h : V.ownsRow base 44 3 v ts.length (row3 ts)) (h1 : TkOk ts) (h2 : TkVal ts) : Src w ts v V := ⟨(tokAt_of_row h).kept (fun _ _ => trivial) fun _ _ _ => rfl, h1, h2⟩
/-- A result of a reading in its two variables. -/
structure TwoE (n : Nat) (T : Ex) (c : List Value) (e p : Int) (V : World) : Prop where
  box : BoxC 54 V n c
  flt : BoxC 40 V (n + 1) [.int .i64 e, .int .i64 p]
  rep : RepE V (fun _ => True) T c
theorem TwoE.lift {n : Nat} {T : Ex} {c : List Value} {e p : Int} {V V' : World} (h : TwoE n T c e p V) (hb : Below V.heap.size V V') : TwoE n T c e p V' :=
  ⟨h.box.lift hb, h.flt.lift hb, h.rep.lift hb⟩
theorem twoE_made {w : World} {T : Ex} {c : List Value} (e p : Int) (hr : RepE w (fun _ => True) T c) : TwoE w.heap.size T c e p ((w.alloc (.cells c.toArray 54)).alloc (.cells #[.int .i64 e, .int .i64 p] 40)) := by
  refine ⟨?_, ?_, hr.lift (((Below.refl _ w).alloc (Nat.le_refl _) _).alloc (by simp) _)⟩
  · show (_ : Array _)[_]? = _
    rw [heap_at, if_neg (by simp), heap_at, if_pos rfl]
  · show (_ : Array _)[_]? = _
    rw [heap_at, if_pos (by simp)]
theorem twoE_below (w : World) (c : List Value) (e p : Int) : Below w.heap.size w ((w.alloc (.cells c.toArray 54)).alloc (.cells #[.int .i64 e, .int .i64 p] 40)) := ((Below.refl _ w).alloc (Nat.le_refl _) _).alloc (by simp) _
/-- One of the four readings, from any world. -/
def RdCE (f : FuncId) (w : World) (v : Value) (k : Int) (r : ResE) : Prop := ∀ V, Below w.heap.size w V → Calls Tryz.prog f #[v, .int .i64 k] V fun e w' => ∃ ka kc aa ac tk tn ti th ta tl tc, e = .returned (.tuple #[.agg #[.int .i64 r.T.k, .int .i64 r.T.p, .string r.T.n, .int .i64 r.T.m, .slice ka r.T.kids.length kc, .slice aa r.T.arms.length ac, .int .i64 tk, .string tn, .int .i64 ti, .int .i64 th, .slice ta tl tc], .int .i64 r.n, .agg #[.int .i64 r.e, .int .i64 r.p]]) ∧ RepE w' (fun _ => True) r.T [.int .i64 r.T.k, .int .i64 r.T.p, .string r.T.n, .int .i64 r.T.m, .slice ka r.T.kids.length kc, .slice aa r.T.arms.length ac, .int .i64 tk, .string tn, .int .i64 ti, .int .i64 th, .slice ta tl tc] ∧ Below V.heap.size V w'
theorem rdCE_of {f : FuncId} {w : World} {v : Value} {k : Int} {r : ResE} (h : ∀ V, Below w.heap.size w V → Calls Tryz.prog f #[v, .int .i64 k] V fun e w' => ∃ x, e = .returned x ∧ ResEAt w' (fun c => V.heap.size ≤ c) r x ∧ Below V.heap.size V w') : RdCE f w v k r := fun V hb => by
  refine (h V hb).mono ?_
  rintro e w' ⟨x, rfl, ⟨c, rfl, hr⟩, hb'⟩
  obtain ⟨ka, kc, aa, ac, tk, tn, ti, th, ta, tl, tc, rfl⟩ := hr.form
  exact ⟨ka, kc, aa, ac, tk, tn, ti, th, ta, tl, tc, rfl, hr.imp fun _ _ => trivial, hb'⟩
theorem four_rdE {w : World} {ts : List Tok} {v : Value} {ea : Addr} (hs : Src w ts v w) (hg : G2 ea w) (k : Int) : RdCE 23 w v k (rdE ts k) ∧ RdCE 24 w v k (rdE ts k) ∧ RdCE 25 w v k (rdEA ts k) ∧ RdCE 26 w v k (rdEA ts k) ∧ bndE (rdE ts k).T = true ∧ bndE (rdEA ts k).T = true :=
  ⟨rdCE_of fun V hb => pkExpr_any ts hs.ok hs.val ea _ v k V (hs.tok.lift hb) (hg.lift hb), rdCE_of fun V hb => rfExpr_any ts hs.ok hs.val _ v k V (hs.tok.lift hb),
   rdCE_of fun V hb => pkExprAtom_any ts hs.ok hs.val ea _ v k V (hs.tok.lift hb) (hg.lift hb), rdCE_of fun V hb => rfExprAtom_any ts hs.ok hs.val _ v k V (hs.tok.lift hb), rdE_bnd ts hs.ok k, rdEA_bnd ts hs.ok k⟩
theorem ints_three {w : World} {Z : TypeId} {n : Nat} (hn : n = w.heap.size) (a b c : Int) : ∀ (j : Nat), j < 3 → ∃ z : Int, (w.alloc (.cells #[.int .i64 a, .int .i64 b, .int .i64 c] Z)).cell? ⟨n, j, none⟩ = some (.int .i64 z) := by
  subst hn
  intro j hj
  have : j = 0 ∨ j = 1 ∨ j = 2 := by omega
  rcases this with rfl | rfl | rfl
  · exact ⟨a, by simp⟩
  · exact ⟨b, by simp⟩
  · exact ⟨c, by simp⟩
set_option maxRecDepth 100000 in
set_option maxHeartbeats 16000000 in
theorem readexprAny_any (ea : Addr) (pv : Value) (zs : List Int) (k : Int) (rv : Value) (R : List Raw) (w : World) (hz : Ints w pv zs) (hr : RawAt w rv R ∧ ∀ r ∈ R, r.x.size ≤ maxLen) (hg : G2 ea w) :
    Calls Tryz.prog 5 #[pv, .int .i64 k, rv] w fun e w' => e = .returned (.bool true) ∧ Below w.heap.size w w' := by
  have HFi := Lib.hid (first6_any ea w hg)
  have HZ := Lib.hid hz
  have HR := Lib.hid hr
  have HG := Lib.hid hg
  obtain ⟨za, zc, rfl, -, -, -⟩ := hz
  obtain ⟨⟨ra, rc, rfl, -, -⟩, -⟩ := hr
  clear hg
  obtain ⟨zn, hzn⟩ : ∃ n, n = zs.length := ⟨_, rfl⟩
  obtain ⟨rn, hrn⟩ : ∃ n, n = R.length := ⟨_, rfl⟩
  rw [← hzn] at HZ ⊢
  rw [← hrn] at HR ⊢
  have HZn := Lib.hid hzn
  have HRn := Lib.hid hrn
  clear hzn hrn
  cases h50 : decide (50 < (zn : Int)) with
  | true =>
    go_enter Tryz.func5, Tryz.ntmps5
    go_wp2_with (go_at_call 20; refine HFi.out.mono ?_; rintro e w1 ⟨rfl, hb1⟩)
    go_ret
    exact ⟨rfl, hb1⟩
  | false =>
    cases h20 : decide (20 < (rn : Int)) with
    | true =>
      go_enter Tryz.func5, Tryz.ntmps5
      go_wp2_with (go_at_call 20; refine HFi.out.mono ?_; rintro e w1 ⟨rfl, hb1⟩)
      go_ret
      exact ⟨rfl, hb1⟩
    | false =>
      have HTk : Hid (∀ V, Below w.heap.size w V → Calls Tryz.prog 21 #[.slice ra rn rc] V fun e w' => ∃ ts, ScanEnd V ts e w' ∧ TkOk ts ∧ TkVal ts) := fun V hb => tokens_any _ R V (HR.out.1.lift hb) (by rw [← HRn.out]; simp at h20; omega) HR.out.2
      have HWd : Hid (∀ V, Below w.heap.size w V → Calls Tryz.prog 22 #[.slice za zn zc] V fun e w' => ∃ ts, ScanEnd V ts e w' ∧ TkOk ts ∧ TkVal ts) := fun V hb => words6_any _ zs V (HZ.out.lift hb) (by rw [← HZn.out]; simp at h50; omega)
      clear HR HZ
      go_enter Tryz.func5, Tryz.ntmps5
      go_wp2_with fail
      go_at_call 20
      refine HFi.out.mono ?_
      rintro e w1 ⟨rfl, hb1⟩
      have HB1 := Lib.hid hb1
      clear hb1 HFi
      go_wp2_with fail
      go_at_call 21
      refine (HTk.out w1 HB1.out).mono ?_
      rintro e w2 ⟨tr, ⟨vr, rfl, hrow, hb2⟩, hok, hval⟩
      have HB2 := Lib.hid (keepCall HB1.out hb2)
      have HSr : Hid (Src w tr vr w2) := src_of hrow hok hval
      clear hrow hb2 hok hval HB1 HTk
      go_wp2_with fail
      go_at_call 22
      refine (HWd.out w2 HB2.out).mono ?_
      rintro e w3 ⟨tl, ⟨vl, rfl, hrow, hb3⟩, hok, hval⟩
      have HB3 := Lib.hid (keepCall HB2.out hb3)
      have HSr3 := Lib.hid (HSr.out.lift hb3)
      have HSl3 : Hid (Src w tl vl w3) := src_of hrow hok hval
      have hll := hok.1
      obtain ⟨la, lc, rfl, -, -⟩ := tokAt_of_row hrow
      obtain ⟨ln, hln⟩ : ∃ n, n = tl.length := ⟨_, rfl⟩
      rw [← hln] at hll HSl3 ⊢
      clear hrow hb3 hok hval HB2 HWd HSr hln
      have e1 := Int.emod_nonneg k (b := (ln : Int) + 1) (by omega)
      obtain ⟨m, hm⟩ : ∃ m : Int, k % ((ln : Int) + 1) = m := ⟨_, rfl⟩
      have HMd : Hid (∀ w, Calls Tryz.prog 18 #[.int .i64 k, .int .i64 ((ln : Int) + 1)] w fun e w' => e = .returned (.int .i64 m) ∧ w = w') := fun w => by have := mod_any k ((ln : Int) + 1) w (by omega) (by omega); rwa [hm] at this
      clear e1 hm
      have hal : Below w3.heap.size w3 (w3.alloc (.cells #[.int .i64 0, .int .i64 k, .int .i64 m] 3)) := (Below.refl _ w3).alloc (Nat.le_refl _) _
      have HB4 := Lib.hid (keepCall HB3.out hal)
      have HSr4 := Lib.hid (HSr3.out.lift hal)
      have HSl4 := Lib.hid (HSl3.out.lift hal)
      have HI4 : Hid (∀ (j : Nat), j < 3 → ∃ z : Int, (w3.alloc (.cells #[.int .i64 0, .int .i64 k, .int .i64 m] 3)).cell? ⟨w3.heap.size, j, none⟩ = some (.int .i64 z)) := ints_three rfl 0 k m
      clear hal HB3 HSr3 HSl3
      go_wp2_with (go_at_call 18; refine (HMd.out _).mono ?_; rintro e w' ⟨rfl, rfl⟩)
      generalize (w3.alloc (.cells #[.int .i64 0, .int .i64 k, .int .i64 m] 3)) = V at *
      generalize w3.heap.size = n3 at *
      have HGV := Lib.hid (HG.out.lift HB4.out)
      have HFl := Lib.hid (fun z => four_rdE (w := V) ⟨HSl4.out.tok, HSl4.out.ok, HSl4.out.val⟩ HGV.out z)
      have HFr := Lib.hid (four_rdE (w := V) ⟨HSr4.out.tok, HSr4.out.ok, HSr4.out.val⟩ HGV.out k)
      clear HGV HSr4 HSl4 HMd
      go_loopg [50] 3 (fun g i wr => ∃ j : Nat, j + g = 3 ∧ i = .int .i64 j ∧ Hid (Below V.heap.size V wr))
      case atStart => exact ⟨0, by omega, rfl, Below.refl _ V⟩
      case round =>
        obtain ⟨j, hj, rfl, HBr⟩ := hrel
        by_cases hlt : j < 3
        · obtain ⟨g, rfl⟩ : ∃ g, gk = g + 1 := ⟨gk - 1, by omega⟩
          obtain ⟨z, hz⟩ := HI4.out j hlt
          have hzc : wr.cell? ⟨n3, j, none⟩ = some (.int .i64 z) := by rw [HBr.out.cell (World.block_lt_of_cell? _ _ hz)]; exact hz
          have hji : (j : Int) < 3 := by omega
          have hj0 : (0 : Int) ≤ (j : Int) := by omega
          have HF0 := HFl.out z
          have HBdr := Lib.hid HF0.2.2.2.2.1
          have HBda := Lib.hid HF0.2.2.2.2.2
          generalize rdE tl z = r at HF0 HBdr
          generalize rdEA tl z = a at HF0 HBda
          obtain ⟨rT, rn', re, rp⟩ := r
          obtain ⟨aT, an', ae, ap⟩ := a
          dsimp only at HBdr HBda
          have HFh := Lib.hid HF0
          clear HF0 hz
          have HF := HFh.out
          clear HFh
          go_wp2_with fail
          go_at_call 23
          refine (HF.1 _ HBr.out).mono ?_
          rintro e x1 ⟨ka1, kc1, aa1, ac1, tk1, tn1, ti1, th1, ta1, tl1, tc1, rfl, hrep, hbx⟩
          have HTw1 : Hid (TwoE x1.heap.size rT [.int .i64 rT.k, .int .i64 rT.p, .string rT.n, .int .i64 rT.m, .slice ka1 rT.kids.length kc1, .slice aa1 rT.arms.length ac1, .int .i64 tk1, .string tn1, .int .i64 ti1, .int .i64 th1, .slice ta1 tl1 tc1] re rp _) := twoE_made re rp hrep
          have hby := hbx.trans ((twoE_below x1 [.int .i64 rT.k, .int .i64 rT.p, .string rT.n, .int .i64 rT.m, .slice ka1 rT.kids.length kc1, .slice aa1 rT.arms.length ac1, .int .i64 tk1, .string tn1, .int .i64 ti1, .int .i64 th1, .slice ta1 tl1 tc1] re rp).mono hbx.size)
          have HBy1 := Lib.hid (keepCall HBr.out hby)
          clear hrep hbx hby
          simp only [List.toArray] at HTw1 HBy1
          go_upto_region 11 with fail
          generalize ((x1.alloc (.cells #[.int .i64 rT.k, .int .i64 rT.p, .string rT.n, .int .i64 rT.m, .slice ka1 rT.kids.length kc1, .slice aa1 rT.arms.length ac1, .int .i64 tk1, .string tn1, .int .i64 ti1, .int .i64 th1, .slice ta1 tl1 tc1] 54)).alloc (.cells #[.int .i64 re, .int .i64 rp] 40)) = y1 at *
          generalize x1.heap.size = b1 at *
          go_wp2_with fail
          go_at_call 24
          refine (HF.2.1 _ HBy1.out).mono ?_
          rintro e x2 ⟨ka2, kc2, aa2, ac2, tk2, tn2, ti2, th2, ta2, tl2, tc2, rfl, hrep, hbx⟩
          have HTw2 : Hid (TwoE x2.heap.size rT [.int .i64 rT.k, .int .i64 rT.p, .string rT.n, .int .i64 rT.m, .slice ka2 rT.kids.length kc2, .slice aa2 rT.arms.length ac2, .int .i64 tk2, .string tn2, .int .i64 ti2, .int .i64 th2, .slice ta2 tl2 tc2] re rp _) := twoE_made re rp hrep
          have hby := hbx.trans ((twoE_below x2 [.int .i64 rT.k, .int .i64 rT.p, .string rT.n, .int .i64 rT.m, .slice ka2 rT.kids.length kc2, .slice aa2 rT.arms.length ac2, .int .i64 tk2, .string tn2, .int .i64 ti2, .int .i64 th2, .slice ta2 tl2 tc2] re rp).mono hbx.size)
          have HBy2 := Lib.hid (keepCall HBy1.out hby)
          have HTw1 := Lib.hid (HTw1.out.lift hby)
          clear hrep hbx hby
          simp only [List.toArray] at HTw2 HBy2 HTw1
          go_upto_region 12 with fail
          generalize ((x2.alloc (.cells #[.int .i64 rT.k, .int .i64 rT.p, .string rT.n, .int .i64 rT.m, .slice ka2 rT.kids.length kc2, .slice aa2 rT.arms.length ac2, .int .i64 tk2, .string tn2, .int .i64 ti2, .int .i64 th2, .slice ta2 tl2 tc2] 54)).alloc (.cells #[.int .i64 re, .int .i64 rp] 40)) = y2 at *
          generalize x2.heap.size = b2 at *
          go_wp2_with fail
          go_at_call 25
          refine (HF.2.2.1 _ HBy2.out).mono ?_
          rintro e x3 ⟨ka3, kc3, aa3, ac3, tk3, tn3, ti3, th3, ta3, tl3, tc3, rfl, hrep, hbx⟩
          have HTw3 : Hid (TwoE x3.heap.size aT [.int .i64 aT.k, .int .i64 aT.p, .string aT.n, .int .i64 aT.m, .slice ka3 aT.kids.length kc3, .slice aa3 aT.arms.length ac3, .int .i64 tk3, .string tn3, .int .i64 ti3, .int .i64 th3, .slice ta3 tl3 tc3] ae ap _) := twoE_made ae ap hrep
          have hby := hbx.trans ((twoE_below x3 [.int .i64 aT.k, .int .i64 aT.p, .string aT.n, .int .i64 aT.m, .slice ka3 aT.kids.length kc3, .slice aa3 aT.arms.length ac3, .int .i64 tk3, .string tn3, .int .i64 ti3, .int .i64 th3, .slice ta3 tl3 tc3] ae ap).mono hbx.size)
          have HBy3 := Lib.hid (keepCall HBy2.out hby)
          have HTw1 := Lib.hid (HTw1.out.lift hby)
          have HTw2 := Lib.hid (HTw2.out.lift hby)
          clear hrep hbx hby
          simp only [List.toArray] at HTw3 HBy3 HTw1 HTw2
          go_upto_region 13 with fail
          generalize ((x3.alloc (.cells #[.int .i64 aT.k, .int .i64 aT.p, .string aT.n, .int .i64 aT.m, .slice ka3 aT.kids.length kc3, .slice aa3 aT.arms.length ac3, .int .i64 tk3, .string tn3, .int .i64 ti3, .int .i64 th3, .slice ta3 tl3 tc3] 54)).alloc (.cells #[.int .i64 ae, .int .i64 ap] 40)) = y3 at *
          generalize x3.heap.size = b3 at *
          go_wp2_with fail
          go_at_call 26
          refine (HF.2.2.2.1 _ HBy3.out).mono ?_
          rintro e x4 ⟨ka4, kc4, aa4, ac4, tk4, tn4, ti4, th4, ta4, tl4, tc4, rfl, hrep, hbx⟩
          have HTw4 : Hid (TwoE x4.heap.size aT [.int .i64 aT.k, .int .i64 aT.p, .string aT.n, .int .i64 aT.m, .slice ka4 aT.kids.length kc4, .slice aa4 aT.arms.length ac4, .int .i64 tk4, .string tn4, .int .i64 ti4, .int .i64 th4, .slice ta4 tl4 tc4] ae ap _) := twoE_made ae ap hrep
          have hby := hbx.trans ((twoE_below x4 [.int .i64 aT.k, .int .i64 aT.p, .string aT.n, .int .i64 aT.m, .slice ka4 aT.kids.length kc4, .slice aa4 aT.arms.length ac4, .int .i64 tk4, .string tn4, .int .i64 ti4, .int .i64 th4, .slice ta4 tl4 tc4] ae ap).mono hbx.size)
          have HBy4 := Lib.hid (keepCall HBy3.out hby)
          have HTw1 := Lib.hid (HTw1.out.lift hby)
          have HTw2 := Lib.hid (HTw2.out.lift hby)
          have HTw3 := Lib.hid (HTw3.out.lift hby)
          clear hrep hbx hby
          simp only [List.toArray] at HTw4 HBy4 HTw1 HTw2 HTw3
          go_upto_region 14 with fail
          generalize ((x4.alloc (.cells #[.int .i64 aT.k, .int .i64 aT.p, .string aT.n, .int .i64 aT.m, .slice ka4 aT.kids.length kc4, .slice aa4 aT.arms.length ac4, .int .i64 tk4, .string tn4, .int .i64 ti4, .int .i64 th4, .slice ta4 tl4 tc4] 54)).alloc (.cells #[.int .i64 ae, .int .i64 ap] 40)) = y4 at *
          generalize x4.heap.size = b4 at *
          obtain ⟨c0, c1, c2, c3, c4, c5, c6, c7, c8, c9, c10⟩ := HTw1.out.box.all11
          obtain ⟨d0, d1, d2, d3, d4, d5, d6, d7, d8, d9, d10⟩ := HTw2.out.box.all11
          go_wp2_with fail
          go_at_call 27
          refine (sameAll_any rT HBdr.out _ _ _ _ _ HTw1.out.rep HTw2.out.rep).mono ?_
          rintro e y5 ⟨rfl, hb5⟩
          have HTw1 := Lib.hid (HTw1.out.lift hb5)
          have HTw2 := Lib.hid (HTw2.out.lift hb5)
          have HTw3 := Lib.hid (HTw3.out.lift hb5)
          have HTw4 := Lib.hid (HTw4.out.lift hb5)
          have HBy_y5 := Lib.hid (keepCall HBy4.out hb5)
          clear hb5 c0 c1 c2 c3 c4 c5 c6 c7 c8 c9 c10 d0 d1 d2 d3 d4 d5 d6 d7 d8 d9 d10
          obtain ⟨⟨f0, f1⟩, -⟩ := HTw1.out.flt.all2
          obtain ⟨⟨g0, g1⟩, -⟩ := HTw2.out.flt.all2
          obtain ⟨c0, c1, c2, c3, c4, c5, c6, c7, c8, c9, c10⟩ := HTw3.out.box.all11
          obtain ⟨d0, d1, d2, d3, d4, d5, d6, d7, d8, d9, d10⟩ := HTw4.out.box.all11
          go_wp2_with fail
          go_at_call 27
          refine (sameAll_any aT HBda.out _ _ _ _ _ HTw3.out.rep HTw4.out.rep).mono ?_
          rintro e y6 ⟨rfl, hb5⟩
          have HTw3 := Lib.hid (HTw3.out.lift hb5)
          have HTw4 := Lib.hid (HTw4.out.lift hb5)
          have HBy_y6 := Lib.hid (keepCall HBy_y5.out hb5)
          clear hb5 c0 c1 c2 c3 c4 c5 c6 c7 c8 c9 c10 d0 d1 d2 d3 d4 d5 d6 d7 d8 d9 d10
          obtain ⟨⟨f0, f1⟩, -⟩ := HTw3.out.flt.all2
          obtain ⟨⟨g0, g1⟩, -⟩ := HTw4.out.flt.all2
          go_wp2
          go_roundg g
          case measure => omega
          case rel => exact ⟨j + 1, by omega, by go_num, HBy_y6⟩
        · obtain rfl : j = 3 := by omega
          have HF0 := HFr.out
          have HBdr := Lib.hid HF0.2.2.2.2.1
          have HBda := Lib.hid HF0.2.2.2.2.2
          generalize rdE tr k = r at HF0 HBdr
          generalize rdEA tr k = a at HF0 HBda
          obtain ⟨rT, rn', re, rp⟩ := r
          obtain ⟨aT, an', ae, ap⟩ := a
          dsimp only at HBdr HBda
          have HFh := Lib.hid HF0
          clear HF0
          have HF := HFh.out
          clear HFh
          go_wp2_with fail
          go_at_call 23
          refine (HF.1 _ HBr.out).mono ?_
          rintro e x1 ⟨ka1, kc1, aa1, ac1, tk1, tn1, ti1, th1, ta1, tl1, tc1, rfl, hrep, hbx⟩
          have HTw1 : Hid (TwoE x1.heap.size rT [.int .i64 rT.k, .int .i64 rT.p, .string rT.n, .int .i64 rT.m, .slice ka1 rT.kids.length kc1, .slice aa1 rT.arms.length ac1, .int .i64 tk1, .string tn1, .int .i64 ti1, .int .i64 th1, .slice ta1 tl1 tc1] re rp _) := twoE_made re rp hrep
          have hby := hbx.trans ((twoE_below x1 [.int .i64 rT.k, .int .i64 rT.p, .string rT.n, .int .i64 rT.m, .slice ka1 rT.kids.length kc1, .slice aa1 rT.arms.length ac1, .int .i64 tk1, .string tn1, .int .i64 ti1, .int .i64 th1, .slice ta1 tl1 tc1] re rp).mono hbx.size)
          have HBy1 := Lib.hid (keepCall HBr.out hby)
          clear hrep hbx hby
          simp only [List.toArray] at HTw1 HBy1
          go_upto_region 18 with fail
          generalize ((x1.alloc (.cells #[.int .i64 rT.k, .int .i64 rT.p, .string rT.n, .int .i64 rT.m, .slice ka1 rT.kids.length kc1, .slice aa1 rT.arms.length ac1, .int .i64 tk1, .string tn1, .int .i64 ti1, .int .i64 th1, .slice ta1 tl1 tc1] 54)).alloc (.cells #[.int .i64 re, .int .i64 rp] 40)) = y1 at *
          generalize x1.heap.size = b1 at *
          go_wp2_with fail
          go_at_call 24
          refine (HF.2.1 _ HBy1.out).mono ?_
          rintro e x2 ⟨ka2, kc2, aa2, ac2, tk2, tn2, ti2, th2, ta2, tl2, tc2, rfl, hrep, hbx⟩
          have HTw2 : Hid (TwoE x2.heap.size rT [.int .i64 rT.k, .int .i64 rT.p, .string rT.n, .int .i64 rT.m, .slice ka2 rT.kids.length kc2, .slice aa2 rT.arms.length ac2, .int .i64 tk2, .string tn2, .int .i64 ti2, .int .i64 th2, .slice ta2 tl2 tc2] re rp _) := twoE_made re rp hrep
          have hby := hbx.trans ((twoE_below x2 [.int .i64 rT.k, .int .i64 rT.p, .string rT.n, .int .i64 rT.m, .slice ka2 rT.kids.length kc2, .slice aa2 rT.arms.length ac2, .int .i64 tk2, .string tn2, .int .i64 ti2, .int .i64 th2, .slice ta2 tl2 tc2] re rp).mono hbx.size)
          have HBy2 := Lib.hid (keepCall HBy1.out hby)
          have HTw1 := Lib.hid (HTw1.out.lift hby)
          clear hrep hbx hby
          simp only [List.toArray] at HTw2 HBy2 HTw1
          go_upto_region 19 with fail
          generalize ((x2.alloc (.cells #[.int .i64 rT.k, .int .i64 rT.p, .string rT.n, .int .i64 rT.m, .slice ka2 rT.kids.length kc2, .slice aa2 rT.arms.length ac2, .int .i64 tk2, .string tn2, .int .i64 ti2, .int .i64 th2, .slice ta2 tl2 tc2] 54)).alloc (.cells #[.int .i64 re, .int .i64 rp] 40)) = y2 at *
          generalize x2.heap.size = b2 at *
          obtain ⟨c0, c1, c2, c3, c4, c5, c6, c7, c8, c9, c10⟩ := HTw1.out.box.all11
          obtain ⟨d0, d1, d2, d3, d4, d5, d6, d7, d8, d9, d10⟩ := HTw2.out.box.all11
          go_wp2_with fail
          go_at_call 28
          refine (equal4_any rT rT rfl HBdr.out HBdr.out _ _ _ _ _ HTw1.out.rep HTw2.out.rep).mono ?_
          rintro e y5 ⟨rfl, hb5⟩
          have HTw1 := Lib.hid (HTw1.out.lift hb5)
          have HTw2 := Lib.hid (HTw2.out.lift hb5)
          have HBy_y5 := Lib.hid (keepCall HBy2.out hb5)
          clear hb5 c0 c1 c2 c3 c4 c5 c6 c7 c8 c9 c10 d0 d1 d2 d3 d4 d5 d6 d7 d8 d9 d10
          obtain ⟨⟨f0, f1⟩, -⟩ := HTw1.out.flt.all2
          obtain ⟨⟨g0, g1⟩, -⟩ := HTw2.out.flt.all2
          have HE := Lib.hid (HB4.out.trans (HBy_y5.out.mono HB4.out.size))
          go_wp2
          go_ret
          exact ⟨rfl, HE.out⟩
end Go.Proofs.YthphnacfidofbaaGreatDoor
