/- The law ReadtypeAny returns true at every input. -/
import Derived.Test.YtnfgljoeijlikaaDoorTyTok
import Derived.Deep.CutBlock
import Derived.Deep.LoopGhost
namespace Go.Proofs.YtnfgljoeijlikaaDoor
open Go.RowKit Go.Maps Mth

theorem teqL_refl : ∀ l : List Ty, (∀ U ∈ l, teq U U = true) → teqL l l = true := by
  intro l
  induction l with
  | nil => intro _; rfl
  | cons x l ihl => intro hl; simp [teqL, hl x (by simp), ihl fun U hU => hl U (by simp [hU])]
theorem teq_refl : ∀ (m : Nat) (T : Ty), nodes T ≤ m → teq T T = true := by
  intro m
  induction m with
  | zero => intro T h; have := nodes_pos T; omega
  | succ m ih =>
    intro T hm
    cases T with
    | mk k n i h ts =>
      have : teqL ts ts = true := teqL_refl ts fun U hU => ih U (by have := nodesL_mem hU; simp only [nodes] at hm; omega)
      simp [teq, this]
/-- The tokens that both readings get. -/
structure Src (w : World) (ts : List Tok) (v : Value) (V : World) : Prop where
  tok : TokAt V (fun _ => True) v ts
  ok : TkOk ts
  val : TkVal ts
theorem Src.lift {w V V' : World} {ts : List Tok} {v : Value} (h : Src w ts v V) (hb : Below V.heap.size V V') : Src w ts v V' := ⟨h.tok.lift hb, h.ok, h.val⟩
/-- A result of a reading in its two variables. -/
structure Two (n : Nat) (T : Ty) (c0 c1 c2 c3 c4 : Value) (e p : Int) (V : World) : Prop where
  box : Box V n c0 c1 c2 c3 c4
  flt : V.heap[n + 1]? = some (.cells #[.int .i64 e, .int .i64 p] 33 (0, 0))
  rep : Rep V (fun _ => True) T (.agg #[c0, c1, c2, c3, c4])
theorem Two.lift {n : Nat} {T : Ty} {c0 c1 c2 c3 c4 : Value} {e p : Int} {V V' : World} (h : Two n T c0 c1 c2 c3 c4 e p V) (hb : Below V.heap.size V V') : Two n T c0 c1 c2 c3 c4 e p V' :=
  ⟨Box.lift h.box hb, by rw [hb.block _ (Array.getElem?_eq_some_iff.1 h.flt).1]; exact h.flt, h.rep.lift hb⟩
theorem two_made {w : World} {T : Ty} {c0 c1 c2 c3 c4 : Value} {e p : Int} (hr : Rep w (fun _ => True) T (.agg #[c0, c1, c2, c3, c4])) : Two w.heap.size T c0 c1 c2 c3 c4 e p ((w.alloc (.cells #[c0, c1, c2, c3, c4] 30)).alloc (.cells #[.int .i64 e, .int .i64 p] 33)) := by
  refine ⟨?_, ?_, hr.lift (((Below.refl _ w).alloc (Nat.le_refl _) _).alloc (by simp) _)⟩
  · unfold Box; rw [heap_at, if_neg (by simp), heap_at, if_pos rfl]
  · rw [heap_at, if_pos (by simp)]
theorem two_below (w : World) (c0 c1 c2 c3 c4 : Value) (e p : Int) : Below w.heap.size w ((w.alloc (.cells #[c0, c1, c2, c3, c4] 30)).alloc (.cells #[.int .i64 e, .int .i64 p] 33)) := ((Below.refl _ w).alloc (Nat.le_refl _) _).alloc (by simp) _
/-- One of the four readings, from any world. -/
def RdC (f : FuncId) (w : World) (v : Value) (k : Int) (r : Res) : Prop := ∀ V, Below w.heap.size w V → Calls Tryd.prog f #[v, .int .i64 k] V fun e w' => ∃ uk un ui uh ua um uc, e = .returned (.tuple #[.agg #[.int .i64 uk, .string un, .int .i64 ui, .int .i64 uh, .slice ua um uc], .int .i64 r.n, .agg #[.int .i64 r.e, .int .i64 r.p]]) ∧ Rep w' (fun _ => True) r.T (.agg #[.int .i64 uk, .string un, .int .i64 ui, .int .i64 uh, .slice ua um uc]) ∧ Below V.heap.size V w'
theorem rdC_of {f : FuncId} {w : World} {v : Value} {k : Int} {r : Res} (h : ∀ V, Below w.heap.size w V → Calls Tryd.prog f #[v, .int .i64 k] V fun e w' => ∃ x, e = .returned x ∧ ResAt w' (fun c => V.heap.size ≤ c) r x ∧ Below V.heap.size V w') : RdC f w v k r := fun V hb => by
  refine (h V hb).mono ?_
  rintro e w' ⟨x, rfl, ⟨u, rfl, hr⟩, hb'⟩
  obtain ⟨uk, un, ui, uh, ua, um, uc, rfl⟩ := hr.form
  exact ⟨uk, un, ui, uh, ua, um, uc, rfl, hr.imp fun _ _ => trivial, hb'⟩
theorem four_rd {w : World} {ts : List Tok} {v : Value} (hs : Src w ts v w) (hg : Gl w) (k : Int) : RdC 9 w v k (rdT ts k) ∧ RdC 10 w v k (rdT ts k) ∧ RdC 11 w v k (rdA ts k) ∧ RdC 12 w v k (rdA ts k) :=
  ⟨rdC_of fun V hb => pkType_any ts hs.ok _ v k V (hs.tok.lift hb) (hg.lift hb), rdC_of fun V hb => rfType_any ts hs.ok hs.val _ v k V (hs.tok.lift hb),
   rdC_of fun V hb => pkAtom_any ts hs.ok _ v k V (hs.tok.lift hb) (hg.lift hb), rdC_of fun V hb => rfAtom_any ts hs.ok hs.val _ v k V (hs.tok.lift hb)⟩
theorem same_eq (T : Ty) (v u : Value) (V : World) (h : Rep V (fun _ => True) T v) (h' : Rep V (fun _ => True) T u) : Calls Tryd.prog 13 #[v, u] V fun e w' => e = .returned (.bool true) ∧ Below V.heap.size V w' := by
  have := refEqual_any _ T (Nat.le_refl _) T v u _ _ V h h'
  rwa [teq_refl _ T (Nat.le_refl _)] at this
theorem src_of {w V : World} {ts : List Tok} {v : Value} {base : Nat} (h : V.ownsRow base 39 3 v ts.length (row3 ts)) (h1 : TkOk ts) (h2 : TkVal ts) : Src w ts v V := ⟨(tokAt_of_row h).kept (fun _ _ => trivial) fun _ _ _ => rfl, h1, h2⟩
theorem ints_three {w : World} {Z : TypeId} {n : Nat} (hn : n = w.heap.size) (a b c : Int) : ∀ (j : Nat), j < 3 → ∃ z : Int, (w.alloc (.cells #[.int .i64 a, .int .i64 b, .int .i64 c] Z)).cell? ⟨n, j, none⟩ = some (.int .i64 z) := by
  subst hn
  intro j hj
  have : j = 0 ∨ j = 1 ∨ j = 2 := by omega
  rcases this with rfl | rfl | rfl
  · exact ⟨a, by simp⟩
  · exact ⟨b, by simp⟩
  · exact ⟨c, by simp⟩
set_option maxRecDepth 100000 in
set_option maxHeartbeats 16000000 in
theorem readtypeAny_any (pv : Value) (zs : List Int) (k : Int) (rv : Value) (R : List Raw) (w : World) (hz : Ints w pv zs) (hr : RawAt w rv R ∧ ∀ r ∈ R, r.x.size ≤ maxLen) (hg : Gl w) :
    Calls Tryd.prog 3 #[pv, .int .i64 k, rv] w fun e w' => e = .returned (.bool true) ∧ Below w.heap.size w w' := by
  have HFi := Lib.hid (first_any w hg)
  have HZ := Lib.hid hz
  have HR := Lib.hid hr
  have HG := Lib.hid hg
  obtain ⟨za, zc, rfl, -, -, -⟩ := hz
  obtain ⟨⟨ra, rc, rfl, -, -⟩, -⟩ := hr
  clear hg
  obtain ⟨zn, hzn⟩ : ∃ n, n = zs.length := ⟨_, rfl⟩
  obtain ⟨rn, hrn⟩ : ∃ n, n = R.length := ⟨_, rfl⟩
  rw [← hzn] at HZ ⊢
  rw [← hrn] at HR ⊢
  have HZn := Lib.hid hzn
  have HRn := Lib.hid hrn
  clear hzn hrn
  cases h40 : decide (40 < (zn : Int)) with
  | true =>
    go_enter Tryd.func3, Tryd.ntmps3
    go_wp2_with (go_at_call 5; refine HFi.out.mono ?_; rintro e w1 ⟨rfl, hb1⟩)
    go_ret
    exact ⟨rfl, hb1⟩
  | false =>
    cases h20 : decide (20 < (rn : Int)) with
    | true =>
      go_enter Tryd.func3, Tryd.ntmps3
      go_wp2_with (go_at_call 5; refine HFi.out.mono ?_; rintro e w1 ⟨rfl, hb1⟩)
      go_ret
      exact ⟨rfl, hb1⟩
    | false =>
      have HTk : Hid (∀ V, Below w.heap.size w V → Calls Tryd.prog 6 #[.slice ra rn rc] V fun e w' => ∃ ts, ScanEnd V ts e w' ∧ TkOk ts ∧ TkVal ts) := fun V hb => tokens_any _ R V (HR.out.1.lift hb) (by rw [← HRn.out]; simp at h20; omega) HR.out.2
      have HWd : Hid (∀ V, Below w.heap.size w V → Calls Tryd.prog 7 #[.slice za zn zc] V fun e w' => ∃ ts, ScanEnd V ts e w' ∧ TkOk ts ∧ TkVal ts) := fun V hb => words_any _ zs V (HZ.out.lift hb) (by rw [← HZn.out]; simp at h40; omega)
      clear HR HZ
      go_enter Tryd.func3, Tryd.ntmps3
      go_wp2_with fail
      go_at_call 5
      refine HFi.out.mono ?_
      rintro e w1 ⟨rfl, hb1⟩
      have HB1 := Lib.hid hb1
      clear hb1 HFi
      go_wp2_with fail
      go_at_call 6
      refine (HTk.out w1 HB1.out).mono ?_
      rintro e w2 ⟨tr, ⟨vr, rfl, hrow, hb2⟩, hok, hval⟩
      have HB2 := Lib.hid (keepCall HB1.out hb2)
      have HSr : Hid (Src w tr vr w2) := src_of hrow hok hval
      clear hrow hb2 hok hval HB1 HTk
      go_wp2_with fail
      go_at_call 7
      refine (HWd.out w2 HB2.out).mono ?_
      rintro e w3 ⟨tl, ⟨vl, rfl, hrow, hb3⟩, hok, hval⟩
      have HB3 := Lib.hid (keepCall HB2.out hb3)
      have HSr3 := Lib.hid (HSr.out.lift hb3)
      have HSl3 : Hid (Src w tl vl w3) := src_of hrow hok hval
      have hll := hok.1
      obtain ⟨la, lc, rfl, -, -⟩ := tokAt_of_row hrow
      obtain ⟨ln, hln⟩ : ∃ n, n = tl.length := ⟨_, rfl⟩
      rw [← hln] at hll HSl3 ⊢
      clear hrow hb3 hok hval HB2 HWd HSr hln
      have e1 := Int.emod_nonneg k (b := (ln : Int) + 1) (by omega)
      obtain ⟨m, hm⟩ : ∃ m : Int, k % ((ln : Int) + 1) = m := ⟨_, rfl⟩
      have HMd : Hid (∀ w, Calls Tryd.prog 8 #[.int .i64 k, .int .i64 ((ln : Int) + 1)] w fun e w' => e = .returned (.int .i64 m) ∧ w = w') := fun w => by have := mod_any k ((ln : Int) + 1) w (by omega) (by omega); rwa [hm] at this
      clear e1 hm
      have hal : Below w3.heap.size w3 (w3.alloc (.cells #[.int .i64 0, .int .i64 k, .int .i64 m] 3)) := (Below.refl _ w3).alloc (Nat.le_refl _) _
      have HB4 := Lib.hid (keepCall HB3.out hal)
      have HSr4 := Lib.hid (HSr3.out.lift hal)
      have HSl4 := Lib.hid (HSl3.out.lift hal)
      have HI4 : Hid (∀ (j : Nat), j < 3 → ∃ z : Int, (w3.alloc (.cells #[.int .i64 0, .int .i64 k, .int .i64 m] 3)).cell? ⟨w3.heap.size, j, none⟩ = some (.int .i64 z)) := ints_three rfl 0 k m
      clear hal HB3 HSr3 HSl3
      go_wp2_with (go_at_call 8; refine (HMd.out _).mono ?_; rintro e w' ⟨rfl, rfl⟩)
      generalize (w3.alloc (.cells #[.int .i64 0, .int .i64 k, .int .i64 m] 3)) = V at *
      generalize w3.heap.size = n3 at *
      have HGV := Lib.hid (HG.out.lift HB4.out)
      have HFl : Hid (∀ z, RdC 9 V (.slice la ln lc) z (rdT tl z) ∧ RdC 10 V (.slice la ln lc) z (rdT tl z) ∧ RdC 11 V (.slice la ln lc) z (rdA tl z) ∧ RdC 12 V (.slice la ln lc) z (rdA tl z)) := fun z => four_rd (w := V) ⟨HSl4.out.tok, HSl4.out.ok, HSl4.out.val⟩ HGV.out z
      have HFr : Hid (RdC 9 V vr k (rdT tr k) ∧ RdC 10 V vr k (rdT tr k) ∧ RdC 11 V vr k (rdA tr k) ∧ RdC 12 V vr k (rdA tr k)) := four_rd (w := V) ⟨HSr4.out.tok, HSr4.out.ok, HSr4.out.val⟩ HGV.out k
      clear HGV HSr4 HSl4 HMd
      go_loopg [50] 3 (fun g i wr => ∃ j : Nat, j + g = 3 ∧ i = .int .i64 j ∧ Hid (Below V.heap.size V wr))
      case atStart => exact ⟨0, by omega, rfl, Below.refl _ V⟩
      case round =>
        obtain ⟨j, hj, rfl, HBr⟩ := hrel
        by_cases hlt : j < 3
        · obtain ⟨g, rfl⟩ : ∃ g, gk = g + 1 := ⟨gk - 1, by omega⟩
          obtain ⟨z, hz⟩ := HI4.out j hlt
          have hzc : wr.cell? ⟨n3, j, none⟩ = some (.int .i64 z) := by rw [HBr.out.cell (World.block_lt_of_cell? _ _ hz)]; exact hz
          have hji : (j : Int) < 3 := by omega
          have hj0 : (0 : Int) ≤ (j : Int) := by omega
          have HF := HFl.out z
          generalize rdT tl z = r at HF
          generalize rdA tl z = a at HF
          obtain ⟨rT, rn', re, rp⟩ := r
          obtain ⟨aT, an', ae, ap⟩ := a
          have HFh := Lib.hid HF
          clear HF hz
          have HF := HFh.out
          clear HFh
          go_wp2_with fail
          go_at_call 9
          refine (HF.1 _ HBr.out).mono ?_
          rintro e x1 ⟨u1k, u1n, u1i, u1h, u1a, u1m, u1c, rfl, hrep, hbx⟩
          have HTw1 : Hid (Two x1.heap.size rT (.int .i64 u1k) (.string u1n) (.int .i64 u1i) (.int .i64 u1h) (.slice u1a u1m u1c) re rp _) := two_made hrep
          have HBy1 := Lib.hid (keepCall HBr.out (hbx.trans ((two_below x1 (.int .i64 u1k) (.string u1n) (.int .i64 u1i) (.int .i64 u1h) (.slice u1a u1m u1c) re rp).mono hbx.size)))
          clear hrep hbx
          go_upto_region 11 with fail
          generalize ((x1.alloc (.cells #[.int .i64 u1k, .string u1n, .int .i64 u1i, .int .i64 u1h, .slice u1a u1m u1c] 30)).alloc (.cells #[.int .i64 re, .int .i64 rp] 33)) = y1 at *
          generalize x1.heap.size = b1 at *
          go_wp2_with fail
          go_at_call 10
          refine (HF.2.1 _ HBy1.out).mono ?_
          rintro e x2 ⟨u2k, u2n, u2i, u2h, u2a, u2m, u2c, rfl, hrep, hbx⟩
          have HTw2 : Hid (Two x2.heap.size rT (.int .i64 u2k) (.string u2n) (.int .i64 u2i) (.int .i64 u2h) (.slice u2a u2m u2c) re rp _) := two_made hrep
          have HBy2 := Lib.hid (keepCall HBy1.out (hbx.trans ((two_below x2 (.int .i64 u2k) (.string u2n) (.int .i64 u2i) (.int .i64 u2h) (.slice u2a u2m u2c) re rp).mono hbx.size)))
          have HTw1 := Lib.hid ((HTw1.out.lift hbx).lift (two_below x2 (.int .i64 u2k) (.string u2n) (.int .i64 u2i) (.int .i64 u2h) (.slice u2a u2m u2c) re rp))
          clear hrep hbx
          go_upto_region 12 with fail
          generalize ((x2.alloc (.cells #[.int .i64 u2k, .string u2n, .int .i64 u2i, .int .i64 u2h, .slice u2a u2m u2c] 30)).alloc (.cells #[.int .i64 re, .int .i64 rp] 33)) = y2 at *
          generalize x2.heap.size = b2 at *
          go_wp2_with fail
          go_at_call 11
          refine (HF.2.2.1 _ HBy2.out).mono ?_
          rintro e x3 ⟨u3k, u3n, u3i, u3h, u3a, u3m, u3c, rfl, hrep, hbx⟩
          have HTw3 : Hid (Two x3.heap.size aT (.int .i64 u3k) (.string u3n) (.int .i64 u3i) (.int .i64 u3h) (.slice u3a u3m u3c) ae ap _) := two_made hrep
          have HBy3 := Lib.hid (keepCall HBy2.out (hbx.trans ((two_below x3 (.int .i64 u3k) (.string u3n) (.int .i64 u3i) (.int .i64 u3h) (.slice u3a u3m u3c) ae ap).mono hbx.size)))
          have HTw1 := Lib.hid ((HTw1.out.lift hbx).lift (two_below x3 (.int .i64 u3k) (.string u3n) (.int .i64 u3i) (.int .i64 u3h) (.slice u3a u3m u3c) ae ap))
          have HTw2 := Lib.hid ((HTw2.out.lift hbx).lift (two_below x3 (.int .i64 u3k) (.string u3n) (.int .i64 u3i) (.int .i64 u3h) (.slice u3a u3m u3c) ae ap))
          clear hrep hbx
          go_upto_region 13 with fail
          generalize ((x3.alloc (.cells #[.int .i64 u3k, .string u3n, .int .i64 u3i, .int .i64 u3h, .slice u3a u3m u3c] 30)).alloc (.cells #[.int .i64 ae, .int .i64 ap] 33)) = y3 at *
          generalize x3.heap.size = b3 at *
          go_wp2_with fail
          go_at_call 12
          refine (HF.2.2.2 _ HBy3.out).mono ?_
          rintro e x4 ⟨u4k, u4n, u4i, u4h, u4a, u4m, u4c, rfl, hrep, hbx⟩
          have HTw4 : Hid (Two x4.heap.size aT (.int .i64 u4k) (.string u4n) (.int .i64 u4i) (.int .i64 u4h) (.slice u4a u4m u4c) ae ap _) := two_made hrep
          have HBy4 := Lib.hid (keepCall HBy3.out (hbx.trans ((two_below x4 (.int .i64 u4k) (.string u4n) (.int .i64 u4i) (.int .i64 u4h) (.slice u4a u4m u4c) ae ap).mono hbx.size)))
          have HTw1 := Lib.hid ((HTw1.out.lift hbx).lift (two_below x4 (.int .i64 u4k) (.string u4n) (.int .i64 u4i) (.int .i64 u4h) (.slice u4a u4m u4c) ae ap))
          have HTw2 := Lib.hid ((HTw2.out.lift hbx).lift (two_below x4 (.int .i64 u4k) (.string u4n) (.int .i64 u4i) (.int .i64 u4h) (.slice u4a u4m u4c) ae ap))
          have HTw3 := Lib.hid ((HTw3.out.lift hbx).lift (two_below x4 (.int .i64 u4k) (.string u4n) (.int .i64 u4i) (.int .i64 u4h) (.slice u4a u4m u4c) ae ap))
          clear hrep hbx
          go_upto_region 14 with fail
          generalize ((x4.alloc (.cells #[.int .i64 u4k, .string u4n, .int .i64 u4i, .int .i64 u4h, .slice u4a u4m u4c] 30)).alloc (.cells #[.int .i64 ae, .int .i64 ap] 33)) = y4 at *
          generalize x4.heap.size = b4 at *
          obtain ⟨c0, c1, c2, c3, c4⟩ := HTw1.out.box.cells
          obtain ⟨d0, d1, d2, d3, d4⟩ := HTw2.out.box.cells
          go_wp2_with fail
          go_at_call 13
          refine (same_eq rT _ _ _ HTw1.out.rep HTw2.out.rep).mono ?_
          rintro e y5 ⟨rfl, hb5⟩
          have HTw1 := Lib.hid (HTw1.out.lift hb5)
          have HTw2 := Lib.hid (HTw2.out.lift hb5)
          have HTw3 := Lib.hid (HTw3.out.lift hb5)
          have HTw4 := Lib.hid (HTw4.out.lift hb5)
          have HBy5 := Lib.hid (keepCall HBy4.out hb5)
          clear hb5 c0 c1 c2 c3 c4 d0 d1 d2 d3 d4
          obtain ⟨f0, f1⟩ := flt_cells HTw1.out.flt
          obtain ⟨g0, g1⟩ := flt_cells HTw2.out.flt
          obtain ⟨c0, c1, c2, c3, c4⟩ := HTw3.out.box.cells
          obtain ⟨d0, d1, d2, d3, d4⟩ := HTw4.out.box.cells
          go_wp2_with fail
          go_at_call 13
          refine (same_eq aT _ _ _ HTw3.out.rep HTw4.out.rep).mono ?_
          rintro e y6 ⟨rfl, hb6⟩
          have HTw3 := Lib.hid (HTw3.out.lift hb6)
          have HTw4 := Lib.hid (HTw4.out.lift hb6)
          have HBy6 := Lib.hid (keepCall HBy5.out hb6)
          clear hb6 c0 c1 c2 c3 c4 d0 d1 d2 d3 d4 f0 f1 g0 g1 HTw1 HTw2
          obtain ⟨f0, f1⟩ := flt_cells HTw3.out.flt
          obtain ⟨g0, g1⟩ := flt_cells HTw4.out.flt
          go_wp2
          clear f0 f1 g0 g1
          go_roundg g
          case measure => omega
          case rel => exact ⟨j + 1, by omega, by go_num, HBy6⟩
        · obtain rfl : j = 3 := by omega
          have HF := HFr.out
          generalize rdT tr k = r at HF
          generalize rdA tr k = a at HF
          obtain ⟨rT, rn', re, rp⟩ := r
          go_wp2_with fail
          go_at_call 9
          refine (HF.1 _ HBr.out).mono ?_
          rintro e x1 ⟨u1k, u1n, u1i, u1h, u1a, u1m, u1c, rfl, hrep, hbx⟩
          have HTw1 : Hid (Two x1.heap.size rT (.int .i64 u1k) (.string u1n) (.int .i64 u1i) (.int .i64 u1h) (.slice u1a u1m u1c) re rp _) := two_made hrep
          have HBy1 := Lib.hid (keepCall HBr.out (hbx.trans ((two_below x1 (.int .i64 u1k) (.string u1n) (.int .i64 u1i) (.int .i64 u1h) (.slice u1a u1m u1c) re rp).mono hbx.size)))
          clear hrep hbx
          go_upto_region 18 with fail
          generalize ((x1.alloc (.cells #[.int .i64 u1k, .string u1n, .int .i64 u1i, .int .i64 u1h, .slice u1a u1m u1c] 30)).alloc (.cells #[.int .i64 re, .int .i64 rp] 33)) = y1 at *
          generalize x1.heap.size = b1 at *
          go_wp2_with fail
          go_at_call 10
          refine (HF.2.1 _ HBy1.out).mono ?_
          rintro e x2 ⟨u2k, u2n, u2i, u2h, u2a, u2m, u2c, rfl, hrep, hbx⟩
          have HTw2 : Hid (Two x2.heap.size rT (.int .i64 u2k) (.string u2n) (.int .i64 u2i) (.int .i64 u2h) (.slice u2a u2m u2c) re rp _) := two_made hrep
          have HBy2 := Lib.hid (keepCall HBy1.out (hbx.trans ((two_below x2 (.int .i64 u2k) (.string u2n) (.int .i64 u2i) (.int .i64 u2h) (.slice u2a u2m u2c) re rp).mono hbx.size)))
          have HTw1 := Lib.hid ((HTw1.out.lift hbx).lift (two_below x2 (.int .i64 u2k) (.string u2n) (.int .i64 u2i) (.int .i64 u2h) (.slice u2a u2m u2c) re rp))
          clear hrep hbx
          go_upto_region 19 with fail
          generalize ((x2.alloc (.cells #[.int .i64 u2k, .string u2n, .int .i64 u2i, .int .i64 u2h, .slice u2a u2m u2c] 30)).alloc (.cells #[.int .i64 re, .int .i64 rp] 33)) = y2 at *
          generalize x2.heap.size = b2 at *
          obtain ⟨c0, c1, c2, c3, c4⟩ := HTw1.out.box.cells
          obtain ⟨d0, d1, d2, d3, d4⟩ := HTw2.out.box.cells
          go_wp2_with fail
          go_at_call 13
          refine (same_eq rT _ _ _ HTw1.out.rep HTw2.out.rep).mono ?_
          rintro e y5 ⟨rfl, hb5⟩
          have HTw1 := Lib.hid (HTw1.out.lift hb5)
          have HTw2 := Lib.hid (HTw2.out.lift hb5)
          have HBy5 := Lib.hid (keepCall HBy2.out hb5)
          clear hb5 c0 c1 c2 c3 c4 d0 d1 d2 d3 d4
          obtain ⟨f0, f1⟩ := flt_cells HTw1.out.flt
          obtain ⟨g0, g1⟩ := flt_cells HTw2.out.flt
          have HE := Lib.hid (HB4.out.trans (HBy5.out.mono HB4.out.size))
          go_wp2
          go_ret
          exact ⟨rfl, HE.out⟩
end Go.Proofs.YtnfgljoeijlikaaDoor
