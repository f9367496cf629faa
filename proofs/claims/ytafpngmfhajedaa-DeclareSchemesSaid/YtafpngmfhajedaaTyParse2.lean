/- The contract of the reference's Parse, of a text of data declarations. -/
import Derived.Test.YtafpngmfhajedaaTyParse
namespace Go.Proofs.Ytafpngmfhajedaa
open Go.RowKit Go.Sort Go.Shelf Go.Maps Mth

theorem enterDecl (v : Value) (w : World) : (callFunc 90 #[v]).run Try.prog w = .ok (.enter 90 #[v]) w := by kernel_rfl
/-- What Parse of a text of declarations needs to know of the text. -/
structure PText (s : ByteArray) (K : Nat) (ts : List Tok) (ds : List Dat) : Prop where
  size : s.size ≤ 4000
  err : ferr (bl s) = 0
  pos : fpos (bl s) = 0
  toks : ftoks (bl s) = ts
  len : ts.length ≤ 1000
  ne : ts ≠ []
  ok : TkOk ts
  hK : K ≤ 1000
  prog : pProg K K ts 0 [] = some ds
  num : ds.length ≤ 8
  lim : ∀ d ∈ ds, OkD d
theorem tok_cells {w : World} {base : Nat} {lv : Value} {ts : List Tok} (h : w.ownsRow base 146 3 lv ts.length (row3 ts)) (hne : ts ≠ []) : ∃ g cap, lv = .slice (some ⟨g, 0, none⟩) ts.length cap ∧ g < w.heap.size ∧ ∀ (j : Nat) (t : Tok), ts[j]? = some t →
    w.cell? ⟨g, j * 3, none⟩ = some (.int .i64 t.kind) ∧ w.cell? ⟨g, j * 3 + 1, none⟩ = some (.string ⟨t.text.toArray⟩) ∧ w.cell? ⟨g, j * 3 + 2, none⟩ = some (.int .i64 t.pos) := by
  have hlt := h.lt
  have hcell := fun g hg => h.cells (g := g) hg
  rcases h.2 with ⟨rfl, h0⟩ | ⟨g, cap, cur, rfl, -, -, -, -, -⟩
  · exact absurd (List.eq_nil_of_length_eq_zero h0) hne
  · refine ⟨g, cap, rfl, (hlt g rfl).2, fun j t ht => ?_⟩
    have key : ∀ m u, (cells3 t)[m]? = some u → w.cell? ⟨g, j * 3 + m, none⟩ = some u := by
      intro m u hu
      have hf : (row3 ts)[j * 3 + m]? = some u := by
        unfold row3
        rw [List.flatMap_def]
        exact flat_get 3 _ (by intro c hc; simp at hc; obtain ⟨x, -, rfl⟩ := hc; rfl) j m (cells3 t) u (by simp [ht]) hu
      have := hcell g rfl _ _ hf
      rwa [add_zero, Nat.zero_add] at this
    exact ⟨key 0 _ rfl, key 1 _ rfl, key 2 _ rfl⟩
theorem datE_of {w : World} {n base : Nat} {d : Dat} {sv pv cv : Value} (hp : SlG StrE w (fun c => n ≤ c) d.params pv) (hc : SlG CtorE w (fun c => n ≤ c) d.ctors cv) (hS : ∀ c, n ≤ c → base ≤ c ∧ some c ≠ sv.ownBlock) :
    DatE.rep w (fun c => base ≤ c ∧ some c ≠ sv.ownBlock) d [.int .i64 d.pos, .string d.name, pv, cv] := ⟨pv, cv, rfl, hp.kept hS (fun _ _ _ => rfl), hc.kept hS (fun _ _ _ => rfl)⟩
set_option maxRecDepth 100000 in
set_option maxHeartbeats 6400000 in
theorem refParse_any (s : ByteArray) (K : Nat) (ts : List Tok) (ds : List Dat) (ht : PText s K ts ds) (w : World) :
    Calls Try.prog 65 #[.string s] w fun e w' => ∃ dv, e = .returned (.tuple #[.agg #[dv, .slice none 0 0], .agg #[.int .i64 0, .int .i64 0]]) ∧ SlG DatE w' (fun c => w.heap.size ≤ c) ds dv ∧ Below w.heap.size w w' := by
  have HT := Lib.hid ht
  have HSc := Lib.hid (fun w => refScan_any s w (by have := ht.size; omega))
  clear ht
  have hb0 : Below w.heap.size w ((w.alloc (.cells #[.slice none 0 0, .slice none 0 0] 102)).alloc (.cells #[.int .i64 0, .int .i64 0] 29)) := ((Below.refl _ w).alloc (Nat.le_refl _) _).alloc (by simp) _
  have HR1 : Hid (((w.alloc (.cells #[.slice none 0 0, .slice none 0 0] 102)).alloc (.cells #[.int .i64 0, .int .i64 0] 29)).heap[w.heap.size]? = some (.cells #[.slice none 0 0, .slice none 0 0] 102 (0, 0))) := by
    show _ = _
    rw [heap_at, if_neg (by simp), heap_at, if_pos rfl]
  have HR2 : Hid (((w.alloc (.cells #[.slice none 0 0, .slice none 0 0] 102)).alloc (.cells #[.int .i64 0, .int .i64 0] 29)).heap[w.heap.size + 1]? = some (.cells #[.int .i64 0, .int .i64 0] 29 (0, 0))) := by
    show _ = _
    rw [heap_at, if_pos (by simp)]
  have hsz0 : w.heap.size + 2 = ((w.alloc (.cells #[.slice none 0 0, .slice none 0 0] 102)).alloc (.cells #[.int .i64 0, .int .i64 0] 29)).heap.size := by simp
  go_enter Try.func65, Try.ntmps65
  go_wp2_with fail
  go_at_call 87
  generalize ((w.alloc (.cells #[.slice none 0 0, .slice none 0 0] 102)).alloc (.cells #[.int .i64 0, .int .i64 0] 29)) = w0 at *
  refine (HSc.out _).mono ?_
  rintro e w1 ⟨lv, rfl, hrow, hb1⟩
  rw [HT.out.err, HT.out.pos]
  rw [HT.out.toks] at hrow
  have hg1 := hb0.trans (hb1.mono hb0.size)
  have HR1' := Lib.hid ((hb1.block _ (by omega)).trans HR1.out)
  have HR2' := Lib.hid ((hb1.block _ (by omega)).trans HR2.out)
  have hsz1 : w.heap.size + 2 ≤ w1.heap.size := by have := hb1.size; omega
  have HTk := Lib.hid hrow
  obtain ⟨tg, tc, rfl, htg, htc⟩ := tok_cells hrow HT.out.ne
  have HTc := Lib.hid htc
  clear hrow hb1 hb0 HR1 HR2 hsz0 HSc HTk htc
  have hbb := ((Below.refl w1.heap.size w1).alloc (Nat.le_refl _) (.cells #[.int .i64 0, .int .i64 0] 29)).alloc (by simp) (.cells #[.slice none 0 0, .slice none 0 0] 102)
  have HF1 : Hid (((w1.alloc (.cells #[.int .i64 0, .int .i64 0] 29)).alloc (.cells #[.slice none 0 0, .slice none 0 0] 102)).heap[w1.heap.size]? = some (.cells #[.int .i64 0, .int .i64 0] 29 (0, 0))) := by
    show _ = _
    rw [heap_at, if_neg (by simp), heap_at, if_pos rfl]
  have HP1 : Hid (((w1.alloc (.cells #[.int .i64 0, .int .i64 0] 29)).alloc (.cells #[.slice none 0 0, .slice none 0 0] 102)).heap[w1.heap.size + 1]? = some (.cells #[.slice none 0 0, .slice none 0 0] 102 (0, 0))) := by
    show _ = _
    rw [heap_at, if_pos (by simp)]
  have hsz2 : ((w1.alloc (.cells #[.int .i64 0, .int .i64 0] 29)).alloc (.cells #[.slice none 0 0, .slice none 0 0] 102)).heap.size = w1.heap.size + 2 := by simp
  go_wp2_with fail
  go_at_call 88
  generalize ((w1.alloc (.cells #[.int .i64 0, .int .i64 0] 29)).alloc (.cells #[.slice none 0 0, .slice none 0 0] 102)) = w2 at *
  refine (refNew_any _ _ _ _).mono ?_
  rintro e w3 ⟨rfl, hrd, hb3⟩
  have hkc : ∀ p v, w1.cell? p = some v → w3.cell? p = some v := fun p v h => by
    have h1 := World.block_lt_of_cell? _ _ h
    exact (hb3.cell (by omega)).trans ((hbb.cell h1).trans h)
  have HQk : Hid (QOk w w.heap.size w1.heap.size (w1.heap.size + 1) w2.heap.size (w2.heap.size + 1)) := ⟨rfl, by omega, by omega, by omega, by omega⟩
  have HQ0 : Hid (QSt w w.heap.size w1.heap.size (w1.heap.size + 1) w2.heap.size (w2.heap.size + 1) w3 0 ts (.slice none 0 0) (.slice none 0 0) []) :=
    ⟨⟨_, hrd, ⟨tg, tc, rfl, by omega, fun j t ht => ⟨hkc _ _ (HTc.out j t ht).1, hkc _ _ (HTc.out j t ht).2.1, hkc _ _ (HTc.out j t ht).2.2⟩⟩, Nat.zero_le _, HT.out.len⟩,
      (hb3.block _ (by omega)).trans HP1.out, (hb3.block _ (by omega)).trans ((hbb.block _ (by omega)).trans HR1'.out), (hb3.block _ (by omega)).trans ((hbb.block _ (by omega)).trans HR2'.out), (hb3.block _ (by omega)).trans HF1.out, rowG_nil _ _ _ _,
      (hg1.trans (hbb.mono hg1.size)).trans (hb3.mono (by omega)), hrd.lt⟩
  have HLen := Lib.hid HT.out.len
  clear hkc hrd hb3 hbb HP1 HF1 HR1' HR2' HTc hg1 htg hsz2
  go_wp2
  go_loopg [] K (fun kk wr => ∃ (acc : List Dat) (q : Nat) (dv : Value), Hid (pProg K kk ts q acc = some ds) ∧ acc.length + kk ≤ K ∧ Hid (QSt w w.heap.size w1.heap.size (w1.heap.size + 1) w2.heap.size (w2.heap.size + 1) wr q ts dv dv acc))
  case atStart => exact ⟨[], 0, _, HT.out.prog, by simp, HQ0⟩
  case round =>
    clear HQ0
    obtain ⟨acc, q, dv, HPg, hak, HQr⟩ := hrel
    obtain ⟨da, dc, rfl, -, -⟩ := HQr.out.row.slice
    obtain ⟨lv', hrd', ⟨tg', tc', rfl, -, -⟩, hqt, -⟩ := HQr.out.rd
    obtain ⟨r0, r1, r2, -⟩ := hrd'.cells
    clear hrd'
    rcases prog_cases HPg.out with ⟨hq, rfl⟩ | ⟨hq, hd, g, d, j, rfl, hdc, hrest⟩
    · have hql : ¬ ((q : Int) < (ts.length : Int)) := by omega
      have hQ := HQk.out
      have hwb : w.heap.size ≤ w2.heap.size + 1 := by have h1 := hQ.h1; have h2 := hQ.h2; have h3 := hQ.h3; omega
      have HSl : Hid (SlG DatE wr (fun c => w.heap.size ≤ c) ds (.slice da ds.length dc)) := HQr.out.row.slG (fun c h => Nat.le_trans hwb h) (fun c h => Nat.le_trans hwb h)
      have HDp := Lib.hid (deep_any ds _ _ wr HT.out.num HT.out.lim HSl.out)
      have d0 := HQr.out.cell
      have d1 : wr.cell? ⟨w1.heap.size + 1, 1, none⟩ = some (.slice none 0 0) := (cell_of_block HQr.out.p (m := 1) rfl).1
      clear hQ hwb
      go_wp2_with fail
      go_at_call 92
      refine HDp.out.mono ?_
      rintro e v5 ⟨rfl, hb5⟩
      have HQ5 := Lib.hid (HQr.out.lift HQk.out hb5)
      have HSl5 := Lib.hid (HSl.out.lift hb5)
      obtain ⟨a0, b0⟩ := cell_of_block HQ5.out.f (m := 0) rfl
      obtain ⟨a1, b1⟩ := cell_of_block HQ5.out.f (m := 1) rfl
      clear hb5 HQr HSl HDp d0 d1 r0 r1 r2 hql hq
      go_wp2
      clear a0 a1 b0 b1 HSl5
      obtain ⟨e1, g1, -⟩ := set1 HQ5.out.f 0 (.int .i64 0)
      obtain ⟨e2, g2, -⟩ := set1 e1 1 (.int .i64 0)
      have hg := grown_trans g1 g2
      clear e1 g1 g2
      generalize ((v5.setCell ⟨w1.heap.size, 0, none⟩ (.int .i64 0)).setCell ⟨w1.heap.size, 1, none⟩ (.int .i64 0)) = v6 at *
      have hQ := HQk.out
      have h0 := hQ.h0
      have h1 := hQ.h1
      have h2 := hQ.h2
      have h3 := hQ.h3
      have hn : ∀ X, X ≠ w1.heap.size → some X ≠ some w1.heap.size := fun X hX e => hX (Option.some.inj e)
      have HSl6 : Hid (SlG DatE v6 (fun c => w2.heap.size + 1 ≤ c) ds (.slice da ds.length dc)) := (HQ5.out.row.slG (S' := fun c => w2.heap.size + 1 ≤ c) (fun _ h => h) (fun _ h => h)).kept (fun _ h => h) (fun c hc hlt => hg.block c hlt (hn c (by omega)))
      have HLow : Hid (Below w.heap.size w v6) := Below.grown HQ5.out.low hg HQ5.out.low.size (fun k hk => by have := Option.some.inj hk; omega)
      have hP := HQ5.out.block hQ hg _ _ HQ5.out.p (hn _ (by omega))
      have hR1 := HQ5.out.block hQ hg _ _ HQ5.out.r1 (hn _ (by omega))
      have hR2 := HQ5.out.block hQ hg _ _ HQ5.out.r2 (hn _ (by omega))
      have d0 : v6.cell? ⟨w1.heap.size + 1, 0, none⟩ = some (.slice da ds.length dc) := (cell_of_block hP (m := 0) rfl).1
      have d1 : v6.cell? ⟨w1.heap.size + 1, 1, none⟩ = some (.slice none 0 0) := (cell_of_block hP (m := 1) rfl).1
      have f0 : v6.cell? ⟨w1.heap.size, 0, none⟩ = some (.int .i64 0) := (cell_of_block e2 (m := 0) (by simp)).1
      have f1 : v6.cell? ⟨w1.heap.size, 1, none⟩ = some (.int .i64 0) := (cell_of_block e2 (m := 1) (by simp)).1
      obtain ⟨a0, b0⟩ := cell_of_block hR1 (m := 0) rfl
      obtain ⟨a1, b1⟩ := cell_of_block hR1 (m := 1) rfl
      obtain ⟨a2, b2⟩ := cell_of_block hR2 (m := 0) rfl
      obtain ⟨a3, b3⟩ := cell_of_block hR2 (m := 1) rfl
      have n1 : ¬ w1.heap.size = w.heap.size := by omega
      have n2 : ¬ w.heap.size = w1.heap.size := by omega
      have n3 : ¬ w1.heap.size = w.heap.size + 1 := by omega
      have n4 : ¬ w.heap.size + 1 = w1.heap.size := by omega
      have n5 : ¬ w1.heap.size + 1 = w.heap.size := by omega
      have n6 : ¬ w.heap.size = w1.heap.size + 1 := by omega
      have HR1 := Lib.hid hR1
      have HR2 := Lib.hid hR2
      clear hP hR1 hR2 e2 hg HQ5 hQ h0 h1 h2 h3 hn
      go_region
      clear d0 d1 f0 f1 a0 a1 a2 a3 b0 b1 b2 b3 n1 n2 n3 n4 n5 n6
      have hQ := HQk.out
      have h1 := hQ.h1
      have h2 := hQ.h2
      have h3 := hQ.h3
      obtain ⟨e1, g1, -⟩ := set1 HR1.out 0 (.slice da ds.length dc)
      obtain ⟨e2, g2, -⟩ := set1 e1 1 (.slice none 0 0)
      have hgA := grown_trans g1 g2
      clear e1 g1 g2
      generalize ((v6.setCell ⟨w.heap.size, 0, none⟩ (.slice da ds.length dc)).setCell ⟨w.heap.size, 1, none⟩ (.slice none 0 0)) = v7 at *
      have hR2 := (hgA.block _ (Array.getElem?_eq_some_iff.1 HR2.out).1 (fun e => by have := Option.some.inj e; omega)).trans HR2.out
      obtain ⟨e3, g3, -⟩ := set1 hR2 0 (.int .i64 0)
      obtain ⟨e4, g4, -⟩ := set1 e3 1 (.int .i64 0)
      have hgB := grown_trans g3 g4
      clear e3 g3 g4
      generalize ((v7.setCell ⟨w.heap.size + 1, 0, none⟩ (.int .i64 0)).setCell ⟨w.heap.size + 1, 1, none⟩ (.int .i64 0)) = v8 at *
      have hR1 := (hgB.block _ (Array.getElem?_eq_some_iff.1 e2).1 (fun e => by have := Option.some.inj e; omega)).trans e2
      have c0 : v8.cell? ⟨w.heap.size, 0, none⟩ = some (.slice da ds.length dc) := (cell_of_block hR1 (m := 0) (by simp)).1
      have c1 : v8.cell? ⟨w.heap.size, 1, none⟩ = some (.slice none 0 0) := (cell_of_block hR1 (m := 1) (by simp)).1
      have c2 : v8.cell? ⟨w.heap.size + 1, 0, none⟩ = some (.int .i64 0) := (cell_of_block e4 (m := 0) (by simp)).1
      have c3 : v8.cell? ⟨w.heap.size + 1, 1, none⟩ = some (.int .i64 0) := (cell_of_block e4 (m := 1) (by simp)).1
      have HSl8 : Hid (SlG DatE v8.drew (fun c => w.heap.size ≤ c) ds (.slice da ds.length dc)) :=
        (((HSl6.out.kept (fun _ h => h) (fun c hc hlt => hgA.block c hlt (fun e => by have := Option.some.inj e; omega))).kept (S' := fun c => w.heap.size ≤ c) (fun c h => by omega) (fun c hc hlt => hgB.block c hlt (fun e => by have := Option.some.inj e; omega)))).lift (Below.refl _ v8).drew
      have hlA := Below.grown HLow.out hgA HLow.out.size (fun k hk => by have := Option.some.inj hk; omega)
      have HL8 : Hid (Below w.heap.size w v8.drew) := (Below.grown hlA hgB hlA.size (fun k hk => by have := Option.some.inj hk; omega)).drew
      clear hlA hgA hgB hR1 hR2 e2 e4 hQ h1 h2 h3
      go_wp2
      refine bodyPost_ret (by simp [results, Try.results65, go_sem, c0, c1, c2, c3]; try rfl) rfl ?_
      exact ⟨_, rfl, HSl8.out, HL8.out⟩
    · have HIs : Hid (∀ w, RdT w w2.heap.size ts q → Calls Try.prog 89 #[.pointer (some ⟨w2.heap.size, 0, none⟩), .string ⟨#[100, 97, 116, 97]⟩] w fun e w' => e = .returned (.bool true) ∧ Below w.heap.size w w') := fun w h => by
        have := rdIs_any ⟨#[100, 97, 116, 97]⟩ w2.heap.size ts q w h
        rwa [hd] at this
      have HDc := Lib.hid (decl_any ts HT.out.ok K HT.out.hK q d j hdc)
      have HPn := Lib.hid hrest
      have hql : (q : Int) < (ts.length : Int) := by omega
      clear hd hdc hrest HPg
      go_wp2_with fail
      go_at_call 89
      refine (HIs.out _ HQr.out.rd).mono ?_
      rintro e v1 ⟨rfl, hb1⟩
      have HQ1 := Lib.hid (HQr.out.lift HQk.out hb1)
      have HQd := Lib.hid (QSt.drew HQk.out HQ1.out)
      clear hb1 HQr HIs r0 r1 r2
      go_wp2_with fail
      have hbd : Below v1.heap.size v1 v1.drew := (Below.refl _ v1).drew
      have hsz1 := HQ1.out.size
      have hbv : w2.heap.size < v1.heap.size := by omega
      have hle : v1.heap.size ≤ v1.drew.heap.size := hbd.size
      have HSV : Hid (∀ c, v1.heap.size ≤ c → w2.heap.size + 1 ≤ c ∧ some c ≠ (Value.slice da acc.length dc).ownBlock) := fun c hc => ⟨by omega, fun e => by have := (RowG.lt HQ1.out.row _ e.symm).2; omega⟩
      have y4 := HQd.out.cell
      have hK1 := HT.out.hK
      have hNb : acc.length + 1 ≤ 1000000 := by omega
      clear hbd hsz1 hK1
      go_region_law
        (first
          | ((with_reducible refine step_call1 90 enterDecl (.pointer (some ⟨w2.heap.size, 0, none⟩)) (fun u w' => ∃ c : List Value, u = .agg c.toArray ∧ DatE.rep w' (fun c => v1.heap.size ≤ c) d c ∧ RdT w' w2.heap.size ts j ∧ v1.drew.grownBy w' (some w2.heap.size)) ?_ ?_ ?_); (rfl); (exact (HDc.out w2.heap.size v1.heap.size _ hbv hle HQd.out.rd).mono fun _ _ ⟨c, h1, h2⟩ => ⟨_, h1, c, rfl, h2⟩); (rintro u v3 ⟨cl, rfl, hrep, hr2, hg2⟩); (have HF := Lib.hid (QSt.call HQk.out HQd.out hr2 hg2)); (obtain ⟨pv, cv, rfl, hpv, hcv⟩ := hrep); (obtain ⟨pa, pc, rfl⟩ := slG_form hpv); (obtain ⟨ca, cc, rfl⟩ := slG_form hcv); (have HE := Lib.hid (datE_of hpv hcv HSV.out)); (have HE2 := Lib.hid (datE_of (hpv.lift (Below.refl _ v3).drew) (hcv.lift (Below.refl _ v3).drew) HSV.out)); (have z4 := HF.out.cell); (have z4o := HF.out.cellA HQk.out); (have z4d := HF.out.cellD HQk.out); clear hpv hcv hr2 hg2 y4)
          | ((with_reducible refine fitA v3 _ ?_); (refine step_pushQ HQk.out HF.out d [.int .i64 d.pos, .string d.name, .slice pa d.params.length pc, .slice ca d.ctors.length cc] HE.out _ rfl _ (by rfl) _ _ (by rfl) (by rfl) _ rfl (by rfl) (acc.length + 1) rfl hNb ?_); (intro a' c' v4 hP); (have HP3 := Lib.hid hP); (have c4 := hP.cell); (have f4 := hP.frozen); clear hP z4 z4o z4d)
          | ((with_reducible refine fitA v3.drew _ ?_); (refine step_pushQ HQk.out (QSt.drew HQk.out HF.out) d [.int .i64 d.pos, .string d.name, .slice pa d.params.length pc, .slice ca d.ctors.length cc] HE2.out _ rfl _ (by rfl) _ _ (by rfl) (by rfl) _ rfl (by rfl) (acc.length + 1) rfl hNb ?_); (intro a' c' v4 hP); (have HP3 := Lib.hid hP); (have c4 := hP.cell); (have f4 := hP.frozen); clear hP z4 z4o z4d))
      all_goals
        have HP4 := Lib.hid (QSt.stored HQk.out HT.out.ne HP3.out)
        clear HP3 c4 f4 HF HE HE2 hNb HQd HQ1
        go_wp2
        go_roundg g
        case measure => omega
        case rel => exact ⟨acc ++ [d], j, _, HPn, by simp; omega, by simpa using HP4⟩
end Go.Proofs.Ytafpngmfhajedaa
