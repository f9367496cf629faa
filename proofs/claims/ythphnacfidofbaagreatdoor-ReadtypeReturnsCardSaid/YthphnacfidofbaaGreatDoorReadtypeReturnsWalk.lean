/- The law ReadtypeReturns returns true at every input. -/
import Derived.Test.YthphnacfidofbaaGreatDoorRtLw
import Derived.Test.YthphnacfidofbaaGreatDoorRtAp
namespace Go.Proofs.YthphnacfidofbaaGreatDoor
open Go.RowKit Go.Maps Mth

/-- The reading of the text. -/
theorem read_text {T : Ty} {s : ByteArray} (hs : src T = true) (hn : nodes T ≤ 31) (hb : bl s = shT T) : kt (ftoks (bl s)) = wk (tkT T) ∧ rdT (ftoks (bl s)) 0 = ⟨T, (ftoks (bl s)).length, 0, 0⟩ :=
  have h := toks_of (m := 0) hs hn (by omega) hb
  ⟨h, rdT_text hs h⟩
def semi : Tok := ⟨5, [59], 999⟩
/-- The reading with a semicolon and any tokens behind. -/
theorem read_semi {T : Ty} {tl tb : List Tok} (hs : src T = true) (h : kt tl = wk (tkT T)) : rdT (tl ++ [semi] ++ tb) 0 = ⟨T, tl.length, 0, 0⟩ := by
  have h2 : kt (tl ++ [semi] ++ tb) = wk (tkT T) ++ ((5, [59]) :: kt tb) := by
    unfold kt at h ⊢
    rw [List.map_append, List.map_append, h]
    simp [semi]
  have hl : tl.length = (tkT T).length := by rw [← kt_len tl, h, wk_len]
  rw [rdT_behind hs h2, hl]
theorem all_ok {tl tb : List Tok} (h1 : TkOk tl) (h2 : TkOk tb) (hl : tl.length ≤ 4000) (hb : tb.length ≤ 4000) : TkOk (tl ++ [semi] ++ tb) := by
  refine ⟨by simp; omega, fun t ht => ?_⟩
  simp only [List.mem_append, List.mem_singleton] at ht
  rcases ht with (h | rfl) | h
  · exact h1.2 t h
  · exact ⟨by simp [semi], by simp [semi]⟩
  · exact h2.2 t h
set_option maxRecDepth 100000 in
set_option maxHeartbeats 16000000 in
theorem readtypeReturns_any (bits : Int) (cv : Value) (zs : List Int) (bv : Value) (ys : List Int) (w : World) (hz : Ints w cv zs) (hy : Ints w bv ys) (hg : Gl w) :
    Calls Tryz.prog 3 #[.int .i64 bits, cv, bv] w fun e w' => e = .returned (.bool true) ∧ Below w.heap.size w w' := by
  have HFi := Lib.hid (first_any w hg)
  have HZ := Lib.hid hz
  have HG := Lib.hid hg
  have HY := Lib.hid hy
  obtain ⟨za, zc, rfl, -, -, -⟩ := hz
  obtain ⟨ya, yc, rfl, -, -, -⟩ := hy
  have HFw : Hid (∀ V, Below w.heap.size w V → Calls Tryz.prog 9 #[.slice za zs.length zc] V fun e w' => e = .returned (.bool (decide (zs.length ≤ 60))) ∧ V = w') := fun V hb => S3.few_any _ zs V (HZ.out.lift hb)
  clear hg
  obtain ⟨zn, hzn⟩ : ∃ n, n = zs.length := ⟨_, rfl⟩
  rw [← hzn] at HZ HFw ⊢
  have HZn := Lib.hid hzn
  obtain ⟨yn, hyn⟩ : ∃ n, n = ys.length := ⟨_, rfl⟩
  rw [← hyn] at HY ⊢
  have HYn := Lib.hid hyn
  clear hzn hyn
  cases h60 : decide (zn ≤ 60) with
  | false =>
    rw [h60] at HFw
    clear h60
    go_enter Tryz.func3, Tryz.ntmps3
    go_wp2_with fail
    go_at_call 8
    refine HFi.out.mono ?_
    rintro e w1 ⟨rfl, hb1⟩
    go_wp2_with fail
    go_at_call 9
    refine (HFw.out _ hb1).mono ?_
    rintro e w2 ⟨rfl, rfl⟩
    go_wp2
    go_ret
    exact ⟨rfl, hb1⟩
  | true =>
   rw [h60] at HFw
   have hle : zn ≤ 60 := by simpa using h60
   clear h60
   cases h10 : decide (10 < (yn : Int)) with
   | true =>
    go_enter Tryz.func3, Tryz.ntmps3
    go_wp2_with fail
    go_at_call 8
    refine HFi.out.mono ?_
    rintro e w1 ⟨rfl, hb1⟩
    go_wp2_with fail
    go_at_call 9
    refine (HFw.out _ hb1).mono ?_
    rintro e w2 ⟨rfl, rfl⟩
    go_wp2
    go_ret
    exact ⟨rfl, hb1⟩
   | false =>
    have HWd : Hid (∀ V, Below w.heap.size w V → Calls Tryz.prog 16 #[.slice ya yn yc] V fun e w' => ∃ x : ByteArray, ScanEnd V (ftoks (bl x)) e w') := fun V hb => words_ft _ ys V (HY.out.lift hb) (by rw [← HYn.out]; simp at h10; omega)
    clear HY HYn
    have HDa := Lib.hid (fun V => S3.datas_any bits V)
    have HNm := Lib.hid (fun V => S3.mkNamed_any V)
    have HMk := Lib.hid (S3.mkType_any 4)
    go_enter Tryz.func3, Tryz.ntmps3
    go_wp2_with fail
    go_at_call 8
    refine HFi.out.mono ?_
    rintro e w1 ⟨rfl, hb1⟩
    have HB1 := Lib.hid hb1
    clear hb1 HFi
    go_wp2_with fail
    go_at_call 9
    refine (HFw.out _ HB1.out).mono ?_
    rintro e w2 ⟨rfl, rfl⟩
    clear HFw
    have hTq := tape_new (w1 := w1) HZn.out (by rw [← HZn.out]; omega) HZ.out HB1.out
    have HTq := Lib.hid hTq
    have hal : Below w1.heap.size w1 (w1.alloc (.cells #[.slice za zn zc, .int .i64 0] 27)) := (Below.refl _ w1).alloc (Nat.le_refl _) _
    have HB2 := Lib.hid (HB1.out.trans (hal.mono HB1.out.size))
    have hsz : (w1.alloc (.cells #[.slice za zn zc, .int .i64 0] 27)).heap.size = w1.heap.size + 1 := by simp
    have HSz := Lib.hid hsz
    have HWl := Lib.hid HB1.out.size
    clear hTq hal hsz
    go_wp2_with fail
    go_at_call 11
    generalize (w1.alloc (.cells #[.slice za zn zc, .int .i64 0] 27)) = V2 at *
    generalize w1.heap.size = b at *
    refine (HDa.out V2).mono ?_
    rintro e V3 ⟨ds, dv, rfl, hds, hsd, hb3⟩
    have HDs := Lib.hid hds
    have HSd := Lib.hid hsd
    have HTq3 := Lib.hid (HTq.out.lift hb3)
    have HB3 := Lib.hid (HB2.out.trans (hb3.mono HB2.out.size))
    have HS3 := Lib.hid hb3.size
    clear hds hsd hb3 HTq HB2 HDa
    go_wp2_with fail
    go_at_call 12
    refine (HNm.out V3).mono ?_
    rintro e V4 ⟨nv, rfl, hnm, hb4⟩
    have HSd4 : Hid (SlG DatE V4 (fun c => b < c) ds dv) := SlG.kept (fun c hc => by have := HSz.out; omega) (fun c _ hl => hb4.block c hl) HSd.out
    have HNm4 : Hid (SlG TyE V4 (fun c => b < c) [S3.namTy 97, S3.namTy 98, S3.namTy 99] nv) := SlG.kept (fun c hc => by have := HSz.out; have := HS3.out; omega) (fun _ _ _ => rfl) hnm
    have HTq4 := Lib.hid (HTq3.out.lift hb4)
    have HB4 := Lib.hid (HB3.out.trans (hb4.mono HB3.out.size))
    clear hnm hb4 HTq3 HB3 HSd HNm HS3
    go_wp2_with fail
    go_at_call 10
    refine (HMk.out 4 ds dv _ nv (fun c => b < c) b V4.heap.size V4 rfl (by omega) HDs.out named_leaf HSd4.out HNm4.out (fun c hc => by omega) HTq4.out (Nat.le_refl _)).mono ?_
    rintro e V5 ⟨u, rfl, T, hrep, hok, -, hg5⟩
    obtain ⟨uk, un, ui, uh, ua, um, uc, rfl⟩ := hrep.form
    have HMd := Lib.hid (md_new HB4.out HWl.out hrep hok hg5)
    clear hrep hok hg5 HSd4 HNm4 HTq4 HB4 HMk HDs HSz HWl
    go_upto_region 7 with fail
    generalize (V5.alloc (.cells #[.int .i64 uk, .string un, .int .i64 ui, .int .i64 uh, .slice ua um uc] 30)) = V6 at *
    generalize V5.heap.size = B at *
    obtain ⟨c0, c1, c2, c3, c4⟩ := HMd.out.box.cells
    go_wp2_with fail
    go_at_call 14
    refine (HMd.out.show (by omega)).mono ?_
    rintro e V7 ⟨x, rfl, hs, hb7⟩
    have HMd7 := Lib.hid (HMd.out.lift hb7)
    have HGV := Lib.hid (HG.out.lift HMd7.out.low)
    have hsl := HMd7.out.len (by omega)
    have hsz : x.size ≤ 713 := by rw [← bl_len, hs]; exact hsl
    have HRd := Lib.hid (read_text (ok_src (by omega) HMd7.out.ok).1 (ok_src (by omega) HMd7.out.ok).2 hs)
    have HSc : Hid (Calls Tryz.prog 13 #[.string x] V7 (ScanEnd V7 (ftoks (bl x)))) := scan_any x V7 (by omega)
    have HOk := Lib.hid (ftoks_ok (bl x))
    have HLn := Lib.hid (ftoks_len (bl x))
    clear c0 c1 c2 c3 c4 hb7 hs hsl HMd
    generalize ftoks (bl x) = tl at *
    have HBh : Hid (∀ tb : List Tok, rdT (tl ++ [semi] ++ tb) 0 = ⟨T, tl.length, 0, 0⟩) := fun tb => read_semi (ok_src (by omega) HMd7.out.ok).1 HRd.out.1
    have HRd := Lib.hid HRd.out.2
    go_wp2_with fail
    go_at_call 13
    refine HSc.out.mono ?_
    rintro e V8 ⟨lv, rfl, hrow, hb8⟩
    have htk := tokAt_of_row hrow
    have HSr := Lib.hid (SrcTk.of_row hrow)
    have HMd8 := Lib.hid (HMd7.out.lift hb8)
    have HG8 := Lib.hid (HGV.out.lift hb8)
    have HR : Hid (RdC 15 V8 lv 0 (rdT tl 0)) := rdC_of fun V hb => pkType_any tl HOk.out.1 _ lv 0 V (htk.lift hb) (HG8.out.lift hb)
    rw [HRd.out] at HR
    obtain ⟨la, lc, rfl, -, -⟩ := htk
    clear hrow hb8 HSc HMd7 HGV HRd
    obtain ⟨ln, hln⟩ : ∃ n, n = tl.length := ⟨_, rfl⟩
    rw [← hln] at HR HSr HBh HLn ⊢
    have HLe := Lib.hid hln
    clear hln
    go_wp2_with fail
    go_at_call 15
    refine (HR.out _ (Below.refl _ _)).mono ?_
    rintro e x1 ⟨u1k, u1n, u1i, u1h, u1a, u1m, u1c, rfl, hrep, hbx⟩
    have HTw : Hid (Two x1.heap.size T (.int .i64 u1k) (.string u1n) (.int .i64 u1i) (.int .i64 u1h) (.slice u1a u1m u1c) 0 0 _) := two_made hrep
    have hby := hbx.trans ((two_below x1 (.int .i64 u1k) (.string u1n) (.int .i64 u1i) (.int .i64 u1h) (.slice u1a u1m u1c) 0 0).mono hbx.size)
    have HMd9 := Lib.hid (HMd8.out.lift hby)
    have HSr9 := Lib.hid (HSr.out.lift hby)
    have HG9 := Lib.hid (HG8.out.lift hby)
    clear hrep hbx HR HMd8 hby HSr HG8
    go_upto_region 9 with fail
    generalize ((x1.alloc (.cells #[.int .i64 u1k, .string u1n, .int .i64 u1i, .int .i64 u1h, .slice u1a u1m u1c] 30)).alloc (.cells #[.int .i64 0, .int .i64 0] 40)) = y1 at *
    generalize x1.heap.size = b1 at *
    go_wp2_with (first
      | (at_builtin; refine wpList_copyTk rfl _ _ rfl tl rfl _ rfl HSr9.out (by have := HLn.out; have := HLe.out; omega) ?_; intro v1 y2 hrow2 hb2; have HRow2 := Lib.hid hrow2; have HB2' := Lib.hid hb2; clear hrow2 hb2)
      | (at_builtin; refine wpList_pushTk rfl _ _ rfl y1.heap.size v1 tl [semi] rfl (HRow2.out.alloc _) _ rfl (SrcTk.one rfl 5 [59] 999) (by have := HLn.out; have := HLe.out; simp; omega) (by have := HB2'.out.size; simp; omega) ?_; intro v2 y3 hrow3 hg3; have HRow3 := Lib.hid hrow3; have HG3 := Lib.hid hg3; clear hrow3 hg3))
    go_at_call 16
    have hb3 : Below y1.heap.size y1 y3 := Below.grown (HB2'.out.alloc HB2'.out.size _) HG3.out (by have := HB2'.out.size; simp; omega) (own_ge HRow2.out)
    have HB3 := Lib.hid hb3
    have HMdA := Lib.hid (HMd9.out.lift hb3)
    have HTwA := Lib.hid (HTw.out.lift hb3)
    have HGA := Lib.hid (HG9.out.lift hb3)
    clear HG3 HRow2 HB2' HSr9 hb3
    refine (HWd.out y3 HMdA.out.low).mono ?_
    rintro e y4 ⟨xb, wv, rfl, hroww, hb4⟩
    have HSw := Lib.hid (SrcTk.of_row hroww)
    have HLw := Lib.hid (ftoks_len (bl xb))
    have HOw := Lib.hid (ftoks_ok (bl xb))
    have HRow4 : Hid (y4.ownsRow y1.heap.size 44 3 v2 (tl ++ [semi]).length (row3 (tl ++ [semi]))) := ownsRow_below HRow3.out hb4
    generalize ftoks (bl xb) = tb at *
    have HMdB := Lib.hid (HMdA.out.lift hb4)
    have HTwB := Lib.hid (HTwA.out.lift hb4)
    have HGB := Lib.hid (HGA.out.lift hb4)
    have HB4 := Lib.hid (HB3.out.trans (hb4.mono HB3.out.size))
    clear hroww hb4 HRow3 HWd HMdA HTwA HGA HB3
    go_wp2_with (at_builtin; refine wpList_pushTk rfl _ _ rfl y1.heap.size v2 (tl ++ [semi]) tb rfl HRow4.out _ rfl HSw.out (by have := HLn.out; have := HLe.out; have := HLw.out; simp; omega) HB4.out.size ?_; intro v3 y5 hrow5 hg5; have HRow5 := Lib.hid hrow5; have HG5 := Lib.hid hg5; clear hrow5 hg5)
    go_at_call 15
    have hb5 : Below y1.heap.size y1 y5 := Below.grown HB4.out HG5.out HB4.out.size (own_ge HRow4.out)
    have hb45 : ∀ k, k < y1.heap.size → y5.heap[k]? = y1.heap[k]? := fun k hk => hb5.block k hk
    have HMdC := Lib.hid (HMd9.out.lift hb5)
    have HTwC := Lib.hid (HTw.out.lift hb5)
    have HGC := Lib.hid (HG9.out.lift hb5)
    have hok : TkOk (tl ++ [semi] ++ tb) := all_ok HOk.out.1 HOw.out.1 (by have := HLn.out; have := HLe.out; omega) HLw.out
    have htk := tokAt_of_row HRow5.out
    have HR : Hid (RdC 15 y5 v3 0 (rdT (tl ++ [semi] ++ tb) 0)) := rdC_of fun V hb => pkType_any _ hok _ v3 0 V (htk.lift hb) (HGC.out.lift hb)
    rw [HBh.out tb] at HR
    clear hb5 hb45 hok htk HRow4 HRow5 HG5 HSw HOw HLw HOk HB4 HMdB HTwB HGB HMd9 HTw HG9
    refine (HR.out _ (Below.refl _ _)).mono ?_
    rintro e x2 ⟨u2k, u2n, u2i, u2h, u2a, u2m, u2c, rfl, hrep, hbx⟩
    have HTw2 : Hid (Two x2.heap.size T (.int .i64 u2k) (.string u2n) (.int .i64 u2i) (.int .i64 u2h) (.slice u2a u2m u2c) 0 0 _) := two_made hrep
    have hby := hbx.trans ((two_below x2 (.int .i64 u2k) (.string u2n) (.int .i64 u2i) (.int .i64 u2h) (.slice u2a u2m u2c) 0 0).mono hbx.size)
    have HMdD := Lib.hid (HMdC.out.lift hby)
    have HTwD := Lib.hid (HTwC.out.lift hby)
    clear hrep hbx HR HMdC HTwC hby HGC
    go_upto_region 11 with fail
    generalize ((x2.alloc (.cells #[.int .i64 u2k, .string u2n, .int .i64 u2i, .int .i64 u2h, .slice u2a u2m u2c] 30)).alloc (.cells #[.int .i64 0, .int .i64 0] 40)) = y6 at *
    generalize x2.heap.size = b2 at *
    obtain ⟨c0, c1, c2, c3, c4⟩ := HMdD.out.box.cells
    obtain ⟨d0, d1, d2, d3, d4⟩ := HTwD.out.box.cells
    obtain ⟨f0, f1⟩ := flt_cells HTwD.out.flt
    have HEq := Lib.hid (same_eq T _ _ y6 HMdD.out.rep HTwD.out.rep)
    go_wp2_with fail
    go_at_call 17
    refine HEq.out.mono ?_
    rintro e w9 ⟨rfl, hb9⟩
    have HMdE := Lib.hid (HMdD.out.lift hb9)
    have HTwE := Lib.hid (HTw2.out.lift hb9)
    clear c0 c1 c2 c3 c4 d0 d1 d2 d3 d4 f0 f1 hb9 HEq HMdD HTwD HTw2
    obtain ⟨c0, c1, c2, c3, c4⟩ := HMdE.out.box.cells
    obtain ⟨d0, d1, d2, d3, d4⟩ := HTwE.out.box.cells
    obtain ⟨f0, f1⟩ := flt_cells HTwE.out.flt
    have HEq := Lib.hid (same_eq T _ _ w9 HMdE.out.rep HTwE.out.rep)
    go_wp2_with fail
    go_at_call 17
    refine HEq.out.mono ?_
    rintro e w10 ⟨rfl, hb10⟩
    go_wp2
    go_ret
    exact ⟨rfl, HMdE.out.low.trans (hb10.mono HMdE.out.low.size)⟩
end Go.Proofs.YthphnacfidofbaaGreatDoor
