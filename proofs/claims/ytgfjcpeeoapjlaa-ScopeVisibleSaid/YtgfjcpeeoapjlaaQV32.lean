import Derived.Test.YtgfjcpeeoapjlaaQV06
import Derived.Test.YtgfjcpeeoapjlaaQV23
/- Lists of declarations that a call may append to. -/
namespace Go.Proofs.Ytgfjcpeeoapjlaa
open Go.RowKit Go.Maps Mth S3

/-- The list lies in blocks that were laid since w0, and its row may be appended to. -/
def OwnD (w0 w : World) (ds : List Dat) (dv : Value) : Prop := ∃ base, w0.heap.size ≤ base ∧ base ≤ w.heap.size ∧ RowG DatE w base (fun c => w0.heap.size ≤ c) dv ds
theorem OwnD.slG {w0 w : World} {ds : List Dat} {dv : Value} (h : OwnD w0 w ds dv) : SlG DatE w (fun c => w0.heap.size ≤ c) ds dv := by
  obtain ⟨base, h1, h2, h3⟩ := h
  exact h3.slG (fun _ h => h) (fun c hc => Nat.le_trans h1 hc)
theorem OwnD.lift {w0 w w' : World} {ds : List Dat} {dv : Value} (h : OwnD w0 w ds dv) (hb : Below w.heap.size w w') : OwnD w0 w' ds dv := by
  obtain ⟨base, h1, h2, h3⟩ := h
  exact ⟨base, h1, Nat.le_trans h2 hb.size, h3.lift hb⟩
set_option maxRecDepth 100000 in
set_option maxHeartbeats 6400000 in
theorem refParseG_any (s : ByteArray) (K : Nat) (ts : List Tok) (ds : List Dat) (ht : PText s K ts ds) (w : World) :
    Calls Try.prog 43 #[.string s] w fun e w' => ∃ dv, e = .returned (.tuple #[.agg #[dv, .slice none 0 0], .agg #[.int .i64 0, .int .i64 0]]) ∧ OwnD w w' ds dv ∧ Below w.heap.size w w' := by
  have HT := Lib.hid ht
  have HSc := Lib.hid (fun w => refScan_any s w (by have := ht.size; omega))
  clear ht
  have hb0 : Below w.heap.size w ((w.alloc (.cells #[.slice none 0 0, .slice none 0 0] 86)).alloc (.cells #[.int .i64 0, .int .i64 0] 45)) := ((Below.refl _ w).alloc (Nat.le_refl _) _).alloc (by simp) _
  have HR1 : Hid (((w.alloc (.cells #[.slice none 0 0, .slice none 0 0] 86)).alloc (.cells #[.int .i64 0, .int .i64 0] 45)).heap[w.heap.size]? = some (.cells #[.slice none 0 0, .slice none 0 0] 86 (0, 0))) := by
    show _ = _
    rw [heap_at, if_neg (by simp), heap_at, if_pos rfl]
  have HR2 : Hid (((w.alloc (.cells #[.slice none 0 0, .slice none 0 0] 86)).alloc (.cells #[.int .i64 0, .int .i64 0] 45)).heap[w.heap.size + 1]? = some (.cells #[.int .i64 0, .int .i64 0] 45 (0, 0))) := by
    show _ = _
    rw [heap_at, if_pos (by simp)]
  have hsz0 : w.heap.size + 2 = ((w.alloc (.cells #[.slice none 0 0, .slice none 0 0] 86)).alloc (.cells #[.int .i64 0, .int .i64 0] 45)).heap.size := by simp
  go_enter Try.func43, Try.ntmps43
  go_wp2_with fail
  go_at_call 50
  generalize ((w.alloc (.cells #[.slice none 0 0, .slice none 0 0] 86)).alloc (.cells #[.int .i64 0, .int .i64 0] 45)) = w0 at *
  refine (HSc.out _).mono ?_
  rintro e w1 ⟨lv, rfl, hrow, hb1⟩
  rw [HT.out.err, HT.out.pos]
  rw [HT.out.toks] at hrow
  have hg1 := hb0.trans (hb1.mono hb0.size)
  have HR1' := Lib.hid ((hb1.block _ (by omega)).trans HR1.out)
  have HR2' := Lib.hid ((hb1.block _ (by omega)).trans HR2.out)
  have hsz1 : w.heap.size + 2 ≤ w1.heap.size := by have := hb1.size; omega
  have HTk := Lib.hid hrow
  obtain ⟨tg, tc, rfl, htg, htc⟩ := S3.tok_cells hrow HT.out.ne
  have HTc := Lib.hid htc
  clear hrow hb1 hb0 HR1 HR2 hsz0 HSc HTk htc
  have hbb := ((Below.refl w1.heap.size w1).alloc (Nat.le_refl _) (.cells #[.int .i64 0, .int .i64 0] 45)).alloc (by simp) (.cells #[.slice none 0 0, .slice none 0 0] 86)
  have HF1 : Hid (((w1.alloc (.cells #[.int .i64 0, .int .i64 0] 45)).alloc (.cells #[.slice none 0 0, .slice none 0 0] 86)).heap[w1.heap.size]? = some (.cells #[.int .i64 0, .int .i64 0] 45 (0, 0))) := by
    show _ = _
    rw [heap_at, if_neg (by simp), heap_at, if_pos rfl]
  have HP1 : Hid (((w1.alloc (.cells #[.int .i64 0, .int .i64 0] 45)).alloc (.cells #[.slice none 0 0, .slice none 0 0] 86)).heap[w1.heap.size + 1]? = some (.cells #[.slice none 0 0, .slice none 0 0] 86 (0, 0))) := by
    show _ = _
    rw [heap_at, if_pos (by simp)]
  have hsz2 : ((w1.alloc (.cells #[.int .i64 0, .int .i64 0] 45)).alloc (.cells #[.slice none 0 0, .slice none 0 0] 86)).heap.size = w1.heap.size + 2 := by simp
  go_wp2_with fail
  go_at_call 51
  generalize ((w1.alloc (.cells #[.int .i64 0, .int .i64 0] 45)).alloc (.cells #[.slice none 0 0, .slice none 0 0] 86)) = w2 at *
  refine (refNew_any _ _ _ _).mono ?_
  rintro e w3 ⟨rfl, hrd, hb3⟩
  have hkc : ∀ p v, w1.cell? p = some v → w3.cell? p = some v := fun p v h => by
    have h1 := World.block_lt_of_cell? _ _ h
    exact (hb3.cell (by omega)).trans ((hbb.cell h1).trans h)
  have HQk : Hid (QOk w w.heap.size w1.heap.size (w1.heap.size + 1) w2.heap.size (w2.heap.size + 1)) := ⟨rfl, by omega, by omega, by omega, by omega⟩
  have HQ0 : Hid (QSt w w.heap.size w1.heap.size (w1.heap.size + 1) w2.heap.size (w2.heap.size + 1) w3 0 ts (.slice none 0 0) (.slice none 0 0) []) :=
    ⟨⟨_, hrd, ⟨tg, tc, rfl, by omega, fun j t ht => ⟨hkc _ _ (HTc.out j t ht).1, hkc _ _ (HTc.out j t ht).2.1, hkc _ _ (HTc.out j t ht).2.2⟩⟩, Nat.zero_le _, HT.out.len⟩,
      (hb3.block _ (by omega)).trans HP1.out, (hb3.block _ (by omega)).trans ((hbb.block _ (by omega)).trans HR1'.out), (hb3.block _ (by omega)).trans ((hbb.block _ (by omega)).trans HR2'.out), (hb3.block _ (by omega)).trans HF1.out, rowG_nil _ _ _ _,
      (hg1.trans (hbb.mono hg1.size)).trans (hb3.mono (by omega)), hrd.lt⟩
  have HLen := Lib.hid HT.out.len
  clear hkc hrd hb3 hbb HP1 HF1 HR1' HR2' HTc hg1 htg hsz2
  go_wp2
  go_loopg [] K (fun kk wr => ∃ (acc : List Dat) (q : Nat) (dv : Value), Hid (S3.pProg K kk ts q acc = some ds) ∧ acc.length + kk ≤ K ∧ Hid (QSt w w.heap.size w1.heap.size (w1.heap.size + 1) w2.heap.size (w2.heap.size + 1) wr q ts dv dv acc))
  case atStart => exact ⟨[], 0, _, HT.out.prog, by simp, HQ0⟩
  case round =>
    clear HQ0
    obtain ⟨acc, q, dv, HPg, hak, HQr⟩ := hrel
    obtain ⟨da, dc, rfl, -, -⟩ := HQr.out.row.slice
    obtain ⟨lv', hrd', ⟨tg', tc', rfl, -, -⟩, hqt, -⟩ := HQr.out.rd
    obtain ⟨r0, r1, r2, -⟩ := hrd'.cells
    clear hrd'
    rcases prog_cases HPg.out with ⟨hq, rfl⟩ | ⟨hq, hd, g, d, j, rfl, hdc, hrest⟩
    · have hql : ¬ ((q : Int) < (ts.length : Int)) := by omega
      have hQ := HQk.out
      have hwb : w.heap.size ≤ w2.heap.size + 1 := by have h1 := hQ.h1; have h2 := hQ.h2; have h3 := hQ.h3; omega
      have HSl : Hid (SlG DatE wr (fun c => w.heap.size ≤ c) ds (.slice da ds.length dc)) := HQr.out.row.slG (fun c h => Nat.le_trans hwb h) (fun c h => Nat.le_trans hwb h)
      have HDp := Lib.hid (deep_any ds _ _ wr HT.out.num HT.out.lim HSl.out)
      have d0 := HQr.out.cell
      have d1 : wr.cell? ⟨w1.heap.size + 1, 1, none⟩ = some (.slice none 0 0) := (cell_of_block HQr.out.p (m := 1) rfl).1
      clear hQ hwb
      go_wp2_with fail
      go_at_call 59
      refine HDp.out.mono ?_
      rintro e v5 ⟨rfl, hb5⟩
      have HQ5 := Lib.hid (HQr.out.lift HQk.out hb5)
      have HSl5 := Lib.hid (HSl.out.lift hb5)
      obtain ⟨a0, b0⟩ := cell_of_block HQ5.out.f (m := 0) rfl
      obtain ⟨a1, b1⟩ := cell_of_block HQ5.out.f (m := 1) rfl
      clear hb5 HQr HSl HDp d0 d1 r0 r1 r2 hql hq
      go_wp2
      clear a0 a1 b0 b1 HSl5
      obtain ⟨e1, g1, -⟩ := set1 HQ5.out.f 0 (.int .i64 0)
      obtain ⟨e2, g2, -⟩ := set1 e1 1 (.int .i64 0)
      have hg := grown_trans g1 g2
      clear e1 g1 g2
      generalize ((v5.setCell ⟨w1.heap.size, 0, none⟩ (.int .i64 0)).setCell ⟨w1.heap.size, 1, none⟩ (.int .i64 0)) = v6 at *
      have hQ := HQk.out
      have h0 := hQ.h0
      have h1 := hQ.h1
      have h2 := hQ.h2
      have h3 := hQ.h3
      have hn : ∀ X, X ≠ w1.heap.size → some X ≠ some w1.heap.size := fun X hX e => hX (Option.some.inj e)
      have HSl6 : Hid (RowG DatE v6 (w2.heap.size + 1) (fun c => w2.heap.size + 1 ≤ c) (.slice da ds.length dc) ds) := HQ5.out.row.kept hg (HQ5.out.row.off (by omega)) (fun c hc => hn c (by omega))
      have HSz6 : Hid (w2.heap.size + 1 ≤ v6.heap.size) := Nat.le_trans HQ5.out.size hg.size
      have HLow : Hid (Below w.heap.size w v6) := Below.grown HQ5.out.low hg HQ5.out.low.size (fun k hk => by have := Option.some.inj hk; omega)
      have hP := HQ5.out.block hQ hg _ _ HQ5.out.p (hn _ (by omega))
      have hR1 := HQ5.out.block hQ hg _ _ HQ5.out.r1 (hn _ (by omega))
      have hR2 := HQ5.out.block hQ hg _ _ HQ5.out.r2 (hn _ (by omega))
      have d0 : v6.cell? ⟨w1.heap.size + 1, 0, none⟩ = some (.slice da ds.length dc) := (cell_of_block hP (m := 0) rfl).1
      have d1 : v6.cell? ⟨w1.heap.size + 1, 1, none⟩ = some (.slice none 0 0) := (cell_of_block hP (m := 1) rfl).1
      have f0 : v6.cell? ⟨w1.heap.size, 0, none⟩ = some (.int .i64 0) := (cell_of_block e2 (m := 0) (by simp)).1
      have f1 : v6.cell? ⟨w1.heap.size, 1, none⟩ = some (.int .i64 0) := (cell_of_block e2 (m := 1) (by simp)).1
      obtain ⟨a0, b0⟩ := cell_of_block hR1 (m := 0) rfl
      obtain ⟨a1, b1⟩ := cell_of_block hR1 (m := 1) rfl
      obtain ⟨a2, b2⟩ := cell_of_block hR2 (m := 0) rfl
      obtain ⟨a3, b3⟩ := cell_of_block hR2 (m := 1) rfl
      have n1 : ¬ w1.heap.size = w.heap.size := by omega
      have n2 : ¬ w.heap.size = w1.heap.size := by omega
      have n3 : ¬ w1.heap.size = w.heap.size + 1 := by omega
      have n4 : ¬ w.heap.size + 1 = w1.heap.size := by omega
      have n5 : ¬ w1.heap.size + 1 = w.heap.size := by omega
      have n6 : ¬ w.heap.size = w1.heap.size + 1 := by omega
      have HR1 := Lib.hid hR1
      have HR2 := Lib.hid hR2
      clear hP hR1 hR2 e2 hg HQ5 hQ h0 h1 h2 h3 hn
      go_region
      clear d0 d1 f0 f1 a0 a1 a2 a3 b0 b1 b2 b3 n1 n2 n3 n4 n5 n6
      have hQ := HQk.out
      have h1 := hQ.h1
      have h2 := hQ.h2
      have h3 := hQ.h3
      obtain ⟨e1, g1, -⟩ := set1 HR1.out 0 (.slice da ds.length dc)
      obtain ⟨e2, g2, -⟩ := set1 e1 1 (.slice none 0 0)
      have hgA := grown_trans g1 g2
      clear e1 g1 g2
      generalize ((v6.setCell ⟨w.heap.size, 0, none⟩ (.slice da ds.length dc)).setCell ⟨w.heap.size, 1, none⟩ (.slice none 0 0)) = v7 at *
      have hR2 := (hgA.block _ (Array.getElem?_eq_some_iff.1 HR2.out).1 (fun e => by have := Option.some.inj e; omega)).trans HR2.out
      obtain ⟨e3, g3, -⟩ := set1 hR2 0 (.int .i64 0)
      obtain ⟨e4, g4, -⟩ := set1 e3 1 (.int .i64 0)
      have hgB := grown_trans g3 g4
      clear e3 g3 g4
      generalize ((v7.setCell ⟨w.heap.size + 1, 0, none⟩ (.int .i64 0)).setCell ⟨w.heap.size + 1, 1, none⟩ (.int .i64 0)) = v8 at *
      have hR1 := (hgB.block _ (Array.getElem?_eq_some_iff.1 e2).1 (fun e => by have := Option.some.inj e; omega)).trans e2
      have c0 : v8.cell? ⟨w.heap.size, 0, none⟩ = some (.slice da ds.length dc) := (cell_of_block hR1 (m := 0) (by simp)).1
      have c1 : v8.cell? ⟨w.heap.size, 1, none⟩ = some (.slice none 0 0) := (cell_of_block hR1 (m := 1) (by simp)).1
      have c2 : v8.cell? ⟨w.heap.size + 1, 0, none⟩ = some (.int .i64 0) := (cell_of_block e4 (m := 0) (by simp)).1
      have c3 : v8.cell? ⟨w.heap.size + 1, 1, none⟩ = some (.int .i64 0) := (cell_of_block e4 (m := 1) (by simp)).1
      have hr7 := HSl6.out.kept hgA (HSl6.out.off (by omega)) (fun c hc e => by have := Option.some.inj e; omega)
      have hr8 := (hr7.kept hgB (hr7.off (by omega)) (fun c hc e => by have := Option.some.inj e; omega)).lift (Below.refl _ v8).drew
      have HSl8 : Hid (OwnD w v8.drew ds (.slice da ds.length dc)) := ⟨w2.heap.size + 1, by omega, Nat.le_trans HSz6.out (Nat.le_trans hgA.size (Nat.le_trans hgB.size (Below.refl 0 v8).drew.size)), hr8.imp fun c hc => by omega⟩
      clear hr7 hr8
      have hlA := Below.grown HLow.out hgA HLow.out.size (fun k hk => by have := Option.some.inj hk; omega)
      have HL8 : Hid (Below w.heap.size w v8.drew) := (Below.grown hlA hgB hlA.size (fun k hk => by have := Option.some.inj hk; omega)).drew
      clear hlA hgA hgB hR1 hR2 e2 e4 hQ h1 h2 h3
      go_wp2
      refine bodyPost_ret (by simp [results, Try.results43, go_sem, c0, c1, c2, c3]; try rfl) rfl ?_
      exact ⟨_, rfl, HSl8.out, HL8.out⟩
    · have HIs : Hid (∀ w, RdT w w2.heap.size ts q → Calls Try.prog 56 #[.pointer (some ⟨w2.heap.size, 0, none⟩), .string ⟨#[100, 97, 116, 97]⟩] w fun e w' => e = .returned (.bool true) ∧ Below w.heap.size w w') := fun w h => by
        have := S3.rdIs_any ⟨#[100, 97, 116, 97]⟩ w2.heap.size ts q w h
        rwa [hd] at this
      have HDc := Lib.hid (decl_any ts HT.out.ok K HT.out.hK q d j hdc)
      have HPn := Lib.hid hrest
      have hql : (q : Int) < (ts.length : Int) := by omega
      clear hd hdc hrest HPg
      go_wp2_with fail
      go_at_call 56
      refine (HIs.out _ HQr.out.rd).mono ?_
      rintro e v1 ⟨rfl, hb1⟩
      have HQ1 := Lib.hid (HQr.out.lift HQk.out hb1)
      have HQd := Lib.hid (QSt.drew HQk.out HQ1.out)
      clear hb1 HQr HIs r0 r1 r2
      go_wp2_with fail
      have hbd : Below v1.heap.size v1 v1.drew := (Below.refl _ v1).drew
      have hsz1 := HQ1.out.size
      have hbv : w2.heap.size < v1.heap.size := by omega
      have hle : v1.heap.size ≤ v1.drew.heap.size := hbd.size
      have HSV : Hid (∀ c, v1.heap.size ≤ c → w2.heap.size + 1 ≤ c ∧ some c ≠ (Value.slice da acc.length dc).ownBlock) := fun c hc => ⟨by omega, fun e => by have := (RowG.lt HQ1.out.row _ e.symm).2; omega⟩
      have y4 := HQd.out.cell
      have hK1 := HT.out.hK
      have hNb : acc.length + 1 ≤ 1000000 := by omega
      clear hbd hsz1 hK1
      go_region_law
        (first
          | ((with_reducible refine S3.step_call1 57 enterDecl (.pointer (some ⟨w2.heap.size, 0, none⟩)) (fun u w' => ∃ c : List Value, u = .agg c.toArray ∧ DatE.rep w' (fun c => v1.heap.size ≤ c) d c ∧ RdT w' w2.heap.size ts j ∧ v1.drew.grownBy w' (some w2.heap.size)) ?_ ?_ ?_); (rfl); (exact (HDc.out w2.heap.size v1.heap.size _ hbv hle HQd.out.rd).mono fun _ _ ⟨c, h1, h2⟩ => ⟨_, h1, c, rfl, h2⟩); (rintro u v3 ⟨cl, rfl, hrep, hr2, hg2⟩); (have HF := Lib.hid (QSt.call HQk.out HQd.out hr2 hg2)); (obtain ⟨pv, cv, rfl, hpv, hcv⟩ := hrep); (obtain ⟨pa, pc, rfl⟩ := slG_form hpv); (obtain ⟨ca, cc, rfl⟩ := slG_form hcv); (have HE := Lib.hid (datE_of hpv hcv HSV.out)); (have HE2 := Lib.hid (datE_of (hpv.lift (Below.refl _ v3).drew) (hcv.lift (Below.refl _ v3).drew) HSV.out)); (have z4 := HF.out.cell); (have z4o := HF.out.cellA HQk.out); (have z4d := HF.out.cellD HQk.out); clear hpv hcv hr2 hg2 y4)
          | ((with_reducible refine S3.fitA v3 _ ?_); (refine step_pushQ HQk.out HF.out d [.int .i64 d.pos, .string d.name, .slice pa d.params.length pc, .slice ca d.ctors.length cc] HE.out _ rfl _ (by rfl) _ _ (by rfl) (by rfl) _ rfl (by rfl) (acc.length + 1) rfl hNb ?_); (intro a' c' v4 hP); (have HP3 := Lib.hid hP); (have c4 := hP.cell); (have f4 := hP.frozen); clear hP z4 z4o z4d)
          | ((with_reducible refine S3.fitA v3.drew _ ?_); (refine step_pushQ HQk.out (QSt.drew HQk.out HF.out) d [.int .i64 d.pos, .string d.name, .slice pa d.params.length pc, .slice ca d.ctors.length cc] HE2.out _ rfl _ (by rfl) _ _ (by rfl) (by rfl) _ rfl (by rfl) (acc.length + 1) rfl hNb ?_); (intro a' c' v4 hP); (have HP3 := Lib.hid hP); (have c4 := hP.cell); (have f4 := hP.frozen); clear hP z4 z4o z4d))
      all_goals
        have HP4 := Lib.hid (QSt.stored HQk.out HT.out.ne HP3.out)
        clear HP3 c4 f4 HF HE HE2 hNb HQd HQ1
        go_wp2
        go_roundg g
        case measure => omega
        case rel => exact ⟨acc ++ [d], j, _, HPn, by simp; omega, by simpa using HP4⟩
set_option maxHeartbeats 1600000 in
theorem allG_any (w : World) : Calls Try.prog 24 #[] w fun e w' => ∃ dv, e = .returned dv ∧ OwnD w w' allDats dv ∧ Below w.heap.size w w' := by
  have HP := Lib.hid (fun w => refParseG_any allSrc 40 allToks allDats allText w)
  go_enter Try.func24, Try.ntmps24
  go_wp2_with fail
  go_at_call 43
  refine (HP.out _).mono ?_
  rintro e w1 ⟨dv, rfl, hsl, hb1⟩
  obtain ⟨da, dc, rfl⟩ := slG_form hsl.slG
  have HSl := Lib.hid hsl
  have HB := Lib.hid hb1
  have HA : Hid (∀ X Y, Below w1.heap.size w1 ((w1.alloc X).alloc Y)) := fun X Y => ((Below.refl _ w1).alloc (Nat.le_refl _) X).alloc (by simp) Y
  clear hsl hb1 HP
  go_wp2
  go_ret
  exact ⟨_, rfl, HSl.out.lift (HA.out _ _), HB.out.trans ((HA.out _ _).mono HB.out.size)⟩
set_option maxRecDepth 100000 in
set_option maxHeartbeats 3200000 in
theorem datasG_any (bits : Int) (w : World) : Calls Try.prog 11 #[.int .i64 bits] w fun e w' => ∃ ds dv, e = .returned dv ∧ Some_ ds ∧ OwnD w w' ds dv ∧ Below w.heap.size w w' := by
  have HA := Lib.hid (fun w => all_any w)
  have HN := Lib.hid all_num
  cases hA : (Go.bits BinOp.and IntKind.i64 bits 2 != 0) <;> cases hB : (Go.bits BinOp.and IntKind.i64 bits 64 != 0)
  all_goals
   go_enter Try.func11, Try.ntmps11
   go_wp2_with fail
   go_at_call 24
   refine (HA.out _).mono ?_
   rintro e w1 ⟨dv, rfl, hsl, hb1⟩
   obtain ⟨da, dc, rfl⟩ := slG_form hsl
   rw [HN.out]
   rw [HN.out] at hsl
   have HSl := Lib.hid hsl.bound
   have HB := Lib.hid hb1
   obtain ⟨d, hd⟩ : ∃ x, allDats[1]? = some x := ⟨_, List.getElem?_eq_getElem (by rw [HN.out]; decide)⟩
   obtain ⟨ad, cl, rfl, -, ⟨pv, cv, rfl, hp, hc⟩, hc0, hcm⟩ := slG_get hsl hd
   have q0 := hc0 _ rfl
   have q1 := hcm 1 _ (by decide) rfl
   have q2 := hcm 2 _ (by decide) rfl
   have q3 := hcm 3 _ (by decide) rfl
   simp only [show DatE.k = 4 from rfl] at q0 q1 q2 q3
   simp [Addr.add] at q0 q1 q2 q3
   obtain ⟨pa, pc, rfl⟩ := slG_form hp
   obtain ⟨ca, cc, rfl⟩ := slG_form hc
   have HRp : Hid (DatE.rep w1 (fun c => w.heap.size ≤ c) d [.int .i64 d.pos, .string d.name, .slice pa d.params.length pc, .slice ca d.ctors.length cc]) := ⟨_, _, rfl, hp, hc⟩
   have HM := Lib.hid (List.mem_of_getElem? hd)
   have hx0 : ∀ X, DatE.rep (w1.alloc X) (fun c => (w.heap.size ≤ c ∧ c < w1.heap.size) ∧ some c ≠ (Value.slice none 0 0).ownBlock) d [.int .i64 d.pos, .string d.name, .slice pa d.params.length pc, .slice ca d.ctors.length cc] := fun X =>
     DatE.kept (fun c hc => ⟨hc, by simp [Value.ownBlock]⟩) (fun c hc _ => ((Below.refl _ w1).alloc (Nat.le_refl _) X).block c hc.2) (DatE.bound HRp.out)
   have HX0 := Lib.hid hx0
   have HN0 : Hid (∀ X Z, (w1.alloc (.cells X Z)).heap[w1.heap.size]? = some (.cells X Z (0, 0))) := fun X Z => heap_alloc_new w1 _
   have hbA : ∀ X, Below w1.heap.size w1 (w1.alloc X) := fun X => (Below.refl _ w1).alloc (Nat.le_refl _) X
   clear hc0 hcm hp hc hd hsl hb1 HA hx0
   go_wp2_with (at_builtin; refine wpList_pushG DatE rfl _ _ rfl w1.heap.size (fun c => w.heap.size ≤ c ∧ c < w1.heap.size) (.slice none 0 0) [] rfl (rowG_nil _ _ _ _) w1.heap.size _ [.int .i64 d.pos, .string d.name, .slice pa d.params.length pc, .slice ca d.ctors.length cc] (HN0.out _ _) rfl d (HX0.out _) 1 rfl (by decide) (hbA _).size ?_; intro a' c' w2 hrow2 hg2; have HRow2 := Lib.hid hrow2; have hb2 := Below.grown (hbA _) hg2 (hbA _).size (by intro k hk; simp [Value.ownBlock] at hk); clear hrow2 hg2)
   all_goals
     go_loopw [4, 5] (fun y x wr => ∃ (j : Nat) (xs : List Dat), j ≤ 7 ∧ x = .int .i64 j ∧ Hid (RowG DatE wr w1.heap.size (fun c => w.heap.size ≤ c ∧ c < w1.heap.size) y xs) ∧ Hid (∀ z ∈ xs, z ∈ allDats) ∧ xs.length ≤ j + 1 ∧ Below w1.heap.size w1 wr) (fun _ x _ => 7 - (intOf x).toNat)
     case atStart => first
       | exact ⟨0, [d], Nat.zero_le _, rfl, HRow2, fun z hz => by simp at hz; subst hz; exact HM.out, by simp, hb2⟩
       | exact ⟨0, [], Nat.zero_le _, rfl, rowG_nil _ _ _ _, fun z hz => by simp at hz, by simp, Below.refl _ _⟩
     case round =>
       clear q0 q1 q2 q3 HX0 HN0 hbA HRp HM
       obtain ⟨j, xs, hj, rfl, HRow, HX, hl, hb⟩ := hrel
       by_cases hlt : j < 7
       · obtain ⟨e, he⟩ : ∃ x, allDats[j]? = some x := ⟨_, List.getElem?_eq_getElem (by rw [HN.out]; exact hlt)⟩
         obtain ⟨ad2, cl, had, -, ⟨pv2, cv2, rfl, hp, hc⟩, hc0, hcm⟩ := slG_get (HSl.out.lift hb) he
         cases had
         have q0 := hc0 _ rfl
         have q1 := hcm 1 _ (by decide) rfl
         have q2 := hcm 2 _ (by decide) rfl
         have q3 := hcm 3 _ (by decide) rfl
         simp only [show DatE.k = 4 from rfl] at q0 q1 q2 q3
         obtain ⟨pa2, pc2, rfl⟩ := slG_form hp
         obtain ⟨ca2, cc2, rfl⟩ := slG_form hc
         have HM := Lib.hid (List.mem_of_getElem? he)
         have hx0 : ∀ X, DatE.rep (wr.alloc X) (fun c => (w.heap.size ≤ c ∧ c < w1.heap.size) ∧ some c ≠ u4.ownBlock) e [.int .i64 e.pos, .string e.name, .slice pa2 e.params.length pc2, .slice ca2 e.ctors.length cc2] := fun X =>
           DatE.kept (fun c hc => ⟨hc, fun e => by have := (RowG.lt HRow.out c e.symm).1; omega⟩) (fun c hc hlt => ((Below.refl _ wr).alloc (Nat.le_refl _) X).block c hlt) ⟨_, _, rfl, hp, hc⟩
         have HXe := Lib.hid hx0
         have HNr : Hid (∀ X Z, (wr.alloc (.cells X Z)).heap[wr.heap.size]? = some (.cells X Z (0, 0))) := fun X Z => heap_alloc_new wr _
         have HBr : Hid (∀ X, Below wr.heap.size wr (wr.alloc X)) := fun X => (Below.refl _ wr).alloc (Nat.le_refl _) X
         have HRowA := Lib.hid (fun X => HRow.out.lift (HBr.out X))
         have hsz : w1.heap.size ≤ wr.heap.size := hb.size
         have HLow : Hid (∀ k, u4.ownBlock = some k → w1.heap.size ≤ k) := fun k hk => (RowG.lt HRow.out k hk).1
         have hji : (j : Int) < 7 := by omega
         have hj0 : (0 : Int) ≤ (j : Int) := by omega
         clear hc0 hcm hp hc he hx0
         by_cases hj1 : j = 1
         · subst hj1
           clear q0 q1 q2 q3 HXe HNr HBr HRowA hji hj0
           go_wp2
           go_roundw
           case rel => exact ⟨2, xs, by omega, rfl, HRow, HX, by omega, hb⟩
           case measure => simp [intOf]
         have hj1' : ¬ (j : Int) = 1 := by omega
         go_wp2_with (at_builtin; refine wpList_pushG DatE rfl _ _ rfl w1.heap.size (fun c => w.heap.size ≤ c ∧ c < w1.heap.size) u4 xs rfl (HRowA.out _) wr.heap.size _ [.int .i64 e.pos, .string e.name, .slice pa2 e.params.length pc2, .slice ca2 e.ctors.length cc2] (HNr.out _ _) rfl e (HXe.out _) (xs.length + 1) rfl (by omega) (Nat.le_trans hsz (HBr.out _).size) ?_; intro a3 c3 w3 hrow3 hg3; have HRow3 := Lib.hid hrow3; have hb3 := Below.grown (hb.trans ((HBr.out _).mono hsz)) hg3 (Nat.le_trans hsz (HBr.out _).size) HLow.out; clear hrow3 hg3)
         all_goals
           have hxs : ∀ z ∈ xs ++ [e], z ∈ allDats := fun z hz => by
             rcases List.mem_append.1 hz with h | h
             · exact HX.out z h
             · simp at h; subst h; exact HM.out
           first
             | exact ⟨⟨j + 1, xs ++ [e], hlt, by first | go_num | (simp <;> omega), HRow3, hxs, by simp; omega, hb3⟩, by simp [intOf] <;> omega⟩
             | exact ⟨⟨j + 1, xs, hlt, by first | go_num | (simp <;> omega), HRow, HX, by omega, hb⟩, by simp [intOf] <;> omega⟩
             | (go_roundw
                case rel => first
                  | exact ⟨j + 1, xs ++ [e], hlt, by first | go_num | (simp <;> omega), HRow3, hxs, by simp; omega, hb3⟩
                  | exact ⟨j + 1, xs, hlt, by first | go_num | (simp <;> omega), HRow, HX, by omega, hb⟩
                case measure => simp [intOf]; omega)
       · have hbw := HB.out.size
         have HS7 : Hid (OwnD w wr xs u4) := ⟨w1.heap.size, hbw, hb.size, HRow.out.imp fun _ h => h.1⟩
         have HB7 : Hid (Below w.heap.size w wr) := HB.out.trans (hb.mono hbw)
         have hj7 : ¬ ((j : Int) < 7) := by omega
         go_wp2
         go_ret
         exact ⟨xs, _, rfl, ⟨by omega, HX.out⟩, HS7.out, HB7.out⟩
end Go.Proofs.Ytgfjcpeeoapjlaa

/- What the maker's Datas hands back, as a function of the bits. -/
namespace Go.Proofs.Ytgfjcpeeoapjlaa
open Go.RowKit Go.Maps Mth S3

def bt (bits : Int) (j : Nat) : Bool := Go.bits BinOp.and IntKind.i64 (bits / 2 ^ j) 1 == 1
def dsl (bits : Int) : Nat → List Dat
  | 0 => if ((Go.bits BinOp.and IntKind.i64 bits 2 != 0) || (Go.bits BinOp.and IntKind.i64 bits 64 != 0)) then (allDats[1]?).toList else []
  | j + 1 => dsl bits j ++ (if j != 1 && bt bits j then (allDats[j]?).toList else [])
/-- The declarations that the bits choose. -/
def dsOf (bits : Int) : List Dat := dsl bits 7
theorem dsl_zero (bits : Int) : dsl bits 0 = if ((Go.bits BinOp.and IntKind.i64 bits 2 != 0) || (Go.bits BinOp.and IntKind.i64 bits 64 != 0)) then (allDats[1]?).toList else [] := rfl
theorem dsl_succ (bits : Int) (j : Nat) : dsl bits (j + 1) = dsl bits j ++ (if j != 1 && bt bits j then (allDats[j]?).toList else []) := rfl
theorem opt_len {α : Type} (o : Option α) : o.toList.length ≤ 1 := by cases o <;> simp
theorem dsl_len (bits : Int) : ∀ j, (dsl bits j).length ≤ j + 1 := by
  intro j
  induction j with
  | zero => rw [dsl_zero]; split; exact opt_len _; simp
  | succ j ih =>
    rw [dsl_succ, List.length_append]
    have : (if j != 1 && bt bits j then (allDats[j]?).toList else []).length ≤ 1 := by
      split
      · exact opt_len _
      · simp
    omega
theorem opt_mem {l : List Dat} {j : Nat} {d : Dat} (h : d ∈ (l[j]?).toList) : d ∈ l := by
  cases hl : l[j]? with
  | none => rw [hl] at h; simp at h
  | some x => rw [hl] at h; simp at h; subst h; exact List.mem_of_getElem? hl
theorem dsl_mem (bits : Int) : ∀ j d, d ∈ dsl bits j → d ∈ allDats := by
  intro j
  induction j with
  | zero =>
    intro d h
    rw [dsl_zero] at h
    split at h
    · exact opt_mem h
    · simp at h
  | succ j ih =>
    intro d h
    rw [dsl_succ] at h
    rcases List.mem_append.1 h with h | h
    · exact ih d h
    · split at h
      · exact opt_mem h
      · simp at h
theorem dsOf_some (bits : Int) : Some_ (dsOf bits) := ⟨dsl_len bits 7, fun d h => dsl_mem bits 7 d h⟩
set_option maxRecDepth 100000 in
set_option maxHeartbeats 3200000 in
theorem datasB_any (bits : Int) (w : World) : Calls Try.prog 11 #[.int .i64 bits] w fun e w' => ∃ dv, e = .returned dv ∧ OwnD w w' (dsOf bits) dv ∧ Below w.heap.size w w' := by
  have HA := Lib.hid (fun w => all_any w)
  have HN := Lib.hid all_num
  cases hA : (Go.bits BinOp.and IntKind.i64 bits 2 != 0) <;> cases hB : (Go.bits BinOp.and IntKind.i64 bits 64 != 0)
  all_goals
   go_enter Try.func11, Try.ntmps11
   go_wp2_with fail
   go_at_call 24
   refine (HA.out _).mono ?_
   rintro e w1 ⟨dv, rfl, hsl, hb1⟩
   obtain ⟨da, dc, rfl⟩ := slG_form hsl
   rw [HN.out]
   rw [HN.out] at hsl
   have HSl := Lib.hid hsl.bound
   have HB := Lib.hid hb1
   obtain ⟨d, hd⟩ : ∃ x, allDats[1]? = some x := ⟨_, List.getElem?_eq_getElem (by rw [HN.out]; decide)⟩
   obtain ⟨ad, cl, rfl, -, ⟨pv, cv, rfl, hp, hc⟩, hc0, hcm⟩ := slG_get hsl hd
   have q0 := hc0 _ rfl
   have q1 := hcm 1 _ (by decide) rfl
   have q2 := hcm 2 _ (by decide) rfl
   have q3 := hcm 3 _ (by decide) rfl
   simp only [show DatE.k = 4 from rfl] at q0 q1 q2 q3
   simp [Addr.add] at q0 q1 q2 q3
   obtain ⟨pa, pc, rfl⟩ := slG_form hp
   obtain ⟨ca, cc, rfl⟩ := slG_form hc
   have HRp : Hid (DatE.rep w1 (fun c => w.heap.size ≤ c) d [.int .i64 d.pos, .string d.name, .slice pa d.params.length pc, .slice ca d.ctors.length cc]) := ⟨_, _, rfl, hp, hc⟩
   have HM := Lib.hid (List.mem_of_getElem? hd)
   have hx0 : ∀ X, DatE.rep (w1.alloc X) (fun c => (w.heap.size ≤ c ∧ c < w1.heap.size) ∧ some c ≠ (Value.slice none 0 0).ownBlock) d [.int .i64 d.pos, .string d.name, .slice pa d.params.length pc, .slice ca d.ctors.length cc] := fun X =>
     DatE.kept (fun c hc => ⟨hc, by simp [Value.ownBlock]⟩) (fun c hc _ => ((Below.refl _ w1).alloc (Nat.le_refl _) X).block c hc.2) (DatE.bound HRp.out)
   have HX0 := Lib.hid hx0
   have HN0 : Hid (∀ X Z, (w1.alloc (.cells X Z)).heap[w1.heap.size]? = some (.cells X Z (0, 0))) := fun X Z => heap_alloc_new w1 _
   have hbA : ∀ X, Below w1.heap.size w1 (w1.alloc X) := fun X => (Below.refl _ w1).alloc (Nat.le_refl _) X
   have hD0 : dsl bits 0 = if ((Go.bits BinOp.and IntKind.i64 bits 2 != 0) || (Go.bits BinOp.and IntKind.i64 bits 64 != 0)) then [d] else [] := by rw [dsl_zero, hd]; rfl
   rw [hA, hB] at hD0
   simp at hD0
   clear hc0 hcm hp hc hd hsl hb1 HA hx0
   go_wp2_with (at_builtin; refine wpList_pushG DatE rfl _ _ rfl w1.heap.size (fun c => w.heap.size ≤ c ∧ c < w1.heap.size) (.slice none 0 0) [] rfl (rowG_nil _ _ _ _) w1.heap.size _ [.int .i64 d.pos, .string d.name, .slice pa d.params.length pc, .slice ca d.ctors.length cc] (HN0.out _ _) rfl d (HX0.out _) 1 rfl (by decide) (hbA _).size ?_; intro a' c' w2 hrow2 hg2; have HRow2 := Lib.hid hrow2; have hb2 := Below.grown (hbA _) hg2 (hbA _).size (by intro k hk; simp [Value.ownBlock] at hk); clear hrow2 hg2)
   all_goals
     have HD0 := Lib.hid hD0
     clear hD0
     go_loopw [4, 5] (fun y x wr => ∃ (j : Nat), j ≤ 7 ∧ x = .int .i64 j ∧ Hid (RowG DatE wr w1.heap.size (fun c => w.heap.size ≤ c ∧ c < w1.heap.size) y (dsl bits j)) ∧ Below w1.heap.size w1 wr) (fun _ x _ => 7 - (intOf x).toNat)
     case atStart => first
       | exact ⟨0, Nat.zero_le _, rfl, by show RowG _ _ _ _ _ _; rw [HD0.out]; exact HRow2.out, hb2⟩
       | exact ⟨0, Nat.zero_le _, rfl, by show RowG _ _ _ _ _ _; rw [HD0.out]; exact rowG_nil _ _ _ _, Below.refl _ _⟩
     case round =>
       clear q0 q1 q2 q3 HX0 HN0 hbA HRp HM
       obtain ⟨j, hj, rfl, HRow, hb⟩ := hrel
       have hl := dsl_len bits j
       have HSn := Lib.hid (dsl_succ bits j)
       obtain ⟨xs, hxs7⟩ : ∃ xs, dsl bits j = xs := ⟨_, rfl⟩
       rw [hxs7] at HRow HSn hl
       by_cases hlt : j < 7
       · obtain ⟨e, he⟩ : ∃ x, allDats[j]? = some x := ⟨_, List.getElem?_eq_getElem (by rw [HN.out]; exact hlt)⟩
         obtain ⟨ad2, cl, had, -, ⟨pv2, cv2, rfl, hp, hc⟩, hc0, hcm⟩ := slG_get (HSl.out.lift hb) he
         cases had
         have q0 := hc0 _ rfl
         have q1 := hcm 1 _ (by decide) rfl
         have q2 := hcm 2 _ (by decide) rfl
         have q3 := hcm 3 _ (by decide) rfl
         simp only [show DatE.k = 4 from rfl] at q0 q1 q2 q3
         obtain ⟨pa2, pc2, rfl⟩ := slG_form hp
         obtain ⟨ca2, cc2, rfl⟩ := slG_form hc
         have HM := Lib.hid (List.mem_of_getElem? he)
         have hx0 : ∀ X, DatE.rep (wr.alloc X) (fun c => (w.heap.size ≤ c ∧ c < w1.heap.size) ∧ some c ≠ u4.ownBlock) e [.int .i64 e.pos, .string e.name, .slice pa2 e.params.length pc2, .slice ca2 e.ctors.length cc2] := fun X =>
           DatE.kept (fun c hc => ⟨hc, fun e => by have := (RowG.lt HRow.out c e.symm).1; omega⟩) (fun c hc hlt => ((Below.refl _ wr).alloc (Nat.le_refl _) X).block c hlt) ⟨_, _, rfl, hp, hc⟩
         have HXe := Lib.hid hx0
         have HNr : Hid (∀ X Z, (wr.alloc (.cells X Z)).heap[wr.heap.size]? = some (.cells X Z (0, 0))) := fun X Z => heap_alloc_new wr _
         have HBr : Hid (∀ X, Below wr.heap.size wr (wr.alloc X)) := fun X => (Below.refl _ wr).alloc (Nat.le_refl _) X
         have HRowA := Lib.hid (fun X => HRow.out.lift (HBr.out X))
         have hsz : w1.heap.size ≤ wr.heap.size := hb.size
         have HLow : Hid (∀ k, u4.ownBlock = some k → w1.heap.size ≤ k) := fun k hk => (RowG.lt HRow.out k hk).1
         have hji : (j : Int) < 7 := by omega
         have hj0 : (0 : Int) ≤ (j : Int) := by omega
         have HMe := Lib.hid he
         clear hc0 hcm hp hc he hx0
         by_cases hj1 : j = 1
         · subst hj1
           clear q0 q1 q2 q3 HXe HNr HBr HRowA hji hj0
           go_wp2
           go_roundw
           case rel => exact ⟨2, by omega, rfl, by show RowG _ _ _ _ _ _; rw [HSn.out]; simpa using HRow.out, hb⟩
           case measure => simp [intOf]
         have hj1' : ¬ (j : Int) = 1 := by omega
         have hj1b : ((j : Int) != 1) = true := by simp [hj1']
         cases hT : (Go.bits BinOp.and IntKind.i64 (bits / 2 ^ j) 1 == 1) with
         | true =>
           have HN : Hid (dsl bits (j + 1) = xs ++ [e]) := by
             show _ = _
             rw [HSn.out]
             have : (j != 1) = true := by simpa using hj1
             unfold bt
             rw [hT, this, HMe.out]
             rfl
           go_wp2_with (at_builtin; refine wpList_pushG DatE rfl _ _ rfl w1.heap.size (fun c => w.heap.size ≤ c ∧ c < w1.heap.size) u4 xs rfl (HRowA.out _) wr.heap.size _ [.int .i64 e.pos, .string e.name, .slice pa2 e.params.length pc2, .slice ca2 e.ctors.length cc2] (HNr.out _ _) rfl e (HXe.out _) (xs.length + 1) rfl (by omega) (Nat.le_trans hsz (HBr.out _).size) ?_; intro a3 c3 w3 hrow3 hg3; have HRow3 := Lib.hid hrow3; have hb3 := Below.grown (hb.trans ((HBr.out _).mono hsz)) hg3 (Nat.le_trans hsz (HBr.out _).size) HLow.out; clear hrow3 hg3)
           go_roundw
           case rel => exact ⟨j + 1, hlt, by go_num, by show RowG _ _ _ _ _ _; rw [HN.out]; exact HRow3.out, hb3⟩
           case measure => simp [intOf]; omega
         | false =>
           have HN : Hid (dsl bits (j + 1) = xs) := by
             show _ = _
             rw [HSn.out]
             unfold bt
             rw [hT]
             simp
           go_wp2
           go_roundw
           case rel => exact ⟨j + 1, hlt, by go_num, by show RowG _ _ _ _ _ _; rw [HN.out]; exact HRow.out, hb⟩
           case measure => simp [intOf]; omega
       · obtain rfl : j = 7 := by omega
         have hbw := HB.out.size
         have HS7 : Hid (OwnD w wr xs u4) := ⟨w1.heap.size, hbw, hb.size, HRow.out.imp fun _ h => h.1⟩
         have HB7 : Hid (Below w.heap.size w wr) := HB.out.trans (hb.mono hbw)
         have HXs : Hid (dsOf bits = xs) := hxs7
         go_wp2
         go_ret
         exact ⟨_, rfl, by rw [HXs.out]; exact HS7.out, HB7.out⟩
end Go.Proofs.Ytgfjcpeeoapjlaa
