/- The law ReadtypeParentheses returns true at every input. -/
import Derived.Test.YthphnacfidofbaaGreatDoorRtLw
namespace Go.Proofs.YthphnacfidofbaaGreatDoor
open Go.RowKit Go.Maps Mth

theorem parT_snoc (m : Nat) (l : List UInt8) (s : ByteArray) (h : bl s = parT m l) : bl (⟨#[40]⟩ ++ s ++ ⟨#[41]⟩) = parT (m + 1) l := par_bl s _ h
/-- The reading of the text in parentheses. -/
theorem read_par {T : Ty} {m : Nat} {s : ByteArray} (hs : src T = true) (hn : nodes T ≤ 31) (hm : m ≤ 4) (hb : bl s = parT (m + 1) (shT T)) : rdA (ftoks (bl s)) 0 = ⟨T, (ftoks (bl s)).length, 0, 0⟩ :=
  rdA_par hs (toks_of hs hn (by omega) hb)
set_option maxRecDepth 100000 in
set_option maxHeartbeats 16000000 in
theorem readtypeParentheses_any (bits : Int) (cv : Value) (zs : List Int) (n : Int) (w : World) (hz : Ints w cv zs) (hg : Gl w) :
    Calls Tryz.prog 4 #[.int .i64 bits, cv, .int .i64 n] w fun e w' => e = .returned (.bool true) ∧ Below w.heap.size w w' := by
  have HFi := Lib.hid (first_any w hg)
  have HZ := Lib.hid hz
  have HG := Lib.hid hg
  obtain ⟨za, zc, rfl, -, -, -⟩ := hz
  have HFw : Hid (∀ V, Below w.heap.size w V → Calls Tryz.prog 9 #[.slice za zs.length zc] V fun e w' => e = .returned (.bool (decide (zs.length ≤ 60))) ∧ V = w') := fun V hb => S3.few_any _ zs V (HZ.out.lift hb)
  clear hg
  obtain ⟨zn, hzn⟩ : ∃ n, n = zs.length := ⟨_, rfl⟩
  rw [← hzn] at HZ HFw ⊢
  have HZn := Lib.hid hzn
  clear hzn
  cases h60 : decide (zn ≤ 60) with
  | false =>
    rw [h60] at HFw
    clear h60
    go_enter Tryz.func4, Tryz.ntmps4
    go_wp2_with fail
    go_at_call 8
    refine HFi.out.mono ?_
    rintro e w1 ⟨rfl, hb1⟩
    go_wp2_with fail
    go_at_call 9
    refine (HFw.out _ hb1).mono ?_
    rintro e w2 ⟨rfl, rfl⟩
    go_wp2
    go_ret
    exact ⟨rfl, hb1⟩
  | true =>
    rw [h60] at HFw
    have hle : zn ≤ 60 := by simpa using h60
    clear h60
    have HDa := Lib.hid (fun V => S3.datas_any bits V)
    have HNm := Lib.hid (fun V => S3.mkNamed_any V)
    have HMk := Lib.hid (S3.mkType_any 3)
    go_enter Tryz.func4, Tryz.ntmps4
    go_wp2_with fail
    go_at_call 8
    refine HFi.out.mono ?_
    rintro e w1 ⟨rfl, hb1⟩
    have HB1 := Lib.hid hb1
    clear hb1 HFi
    go_wp2_with fail
    go_at_call 9
    refine (HFw.out _ HB1.out).mono ?_
    rintro e w2 ⟨rfl, rfl⟩
    clear HFw
    have hTq := tape_new (w1 := w1) HZn.out (by rw [← HZn.out]; omega) HZ.out HB1.out
    have HTq := Lib.hid hTq
    have hal : Below w1.heap.size w1 (w1.alloc (.cells #[.slice za zn zc, .int .i64 0] 27)) := (Below.refl _ w1).alloc (Nat.le_refl _) _
    have HB2 := Lib.hid (HB1.out.trans (hal.mono HB1.out.size))
    have hsz : (w1.alloc (.cells #[.slice za zn zc, .int .i64 0] 27)).heap.size = w1.heap.size + 1 := by simp
    have HSz := Lib.hid hsz
    have HWl := Lib.hid HB1.out.size
    clear hTq hal hsz
    go_wp2_with fail
    go_at_call 11
    generalize (w1.alloc (.cells #[.slice za zn zc, .int .i64 0] 27)) = V2 at *
    generalize w1.heap.size = b at *
    refine (HDa.out V2).mono ?_
    rintro e V3 ⟨ds, dv, rfl, hds, hsd, hb3⟩
    have HDs := Lib.hid hds
    have HSd := Lib.hid hsd
    have HTq3 := Lib.hid (HTq.out.lift hb3)
    have HB3 := Lib.hid (HB2.out.trans (hb3.mono HB2.out.size))
    have HS3 := Lib.hid hb3.size
    clear hds hsd hb3 HTq HB2 HDa
    go_wp2_with fail
    go_at_call 12
    refine (HNm.out V3).mono ?_
    rintro e V4 ⟨nv, rfl, hnm, hb4⟩
    have HSd4 : Hid (SlG DatE V4 (fun c => b < c) ds dv) := SlG.kept (fun c hc => by have := HSz.out; omega) (fun c _ hl => hb4.block c hl) HSd.out
    have HNm4 : Hid (SlG TyE V4 (fun c => b < c) [S3.namTy 97, S3.namTy 98, S3.namTy 99] nv) := SlG.kept (fun c hc => by have := HSz.out; have := HS3.out; omega) (fun _ _ _ => rfl) hnm
    have HTq4 := Lib.hid (HTq3.out.lift hb4)
    have HB4 := Lib.hid (HB3.out.trans (hb4.mono HB3.out.size))
    clear hnm hb4 HTq3 HB3 HSd HNm HS3
    go_wp2_with fail
    go_at_call 10
    refine (HMk.out 3 ds dv _ nv (fun c => b < c) b V4.heap.size V4 rfl (by omega) HDs.out named_leaf HSd4.out HNm4.out (fun c hc => by omega) HTq4.out (Nat.le_refl _)).mono ?_
    rintro e V5 ⟨u, rfl, T, hrep, hok, -, hg5⟩
    obtain ⟨uk, un, ui, uh, ua, um, uc, rfl⟩ := hrep.form
    have HMd := Lib.hid (md_new HB4.out HWl.out hrep hok hg5)
    clear hrep hok hg5 HSd4 HNm4 HTq4 HB4 HMk HDs HSz HWl
    go_upto_region 7 with fail
    generalize (V5.alloc (.cells #[.int .i64 uk, .string un, .int .i64 ui, .int .i64 uh, .slice ua um uc] 30)) = V6 at *
    generalize V5.heap.size = B at *
    obtain ⟨c0, c1, c2, c3, c4⟩ := HMd.out.box.cells
    go_wp2_with fail
    go_at_call 14
    refine (HMd.out.show (by omega)).mono ?_
    rintro e V7 ⟨s, rfl, hs, hb7⟩
    have HMd7 := Lib.hid (HMd.out.lift hb7)
    have HGV := Lib.hid (HG.out.lift HMd7.out.low)
    have hsl := HMd7.out.len (by omega)
    have hsz : s.size ≤ 713 := by rw [← bl_len, hs]; exact hsl
    have HL := Lib.hid hsl
    have HS := Lib.hid hs
    have hr1 := Int.emod_nonneg n (b := 5) (by omega)
    have hr2 := Int.emod_lt_of_pos n (b := 5) (by omega)
    have HMod : Hid (∀ w, Calls Tryz.prog 18 #[.int .i64 n, .int .i64 5] w fun e w' => e = .returned (.int .i64 (n % 5)) ∧ w = w') := fun w => S3.mod_any n 5 w (by omega) (by omega)
    generalize n % 5 = r at *
    clear c0 c1 c2 c3 c4 hb7 hs hsl HMd
    go_wp2_with (go_at_call 18; refine (HMod.out _).mono ?_; rintro e w' ⟨rfl, rfl⟩)
    clear HMod
    go_loop [9, 10] (fun y i => ∃ (z : Int) (s : ByteArray), -1 ≤ z ∧ z ≤ r ∧ i = .int .i64 z ∧ y = .string s ∧ s.size ≤ 1000 ∧ Hid (bl s = parT (r - z).toNat (shT T))) (fun _ i => (intOf i + 1).toNat)
    case atStart => exact ⟨r, s, by omega, by omega, rfl, rfl, by omega, by show _ = _; rw [HS.out]; simp [parT]⟩
    case round =>
      obtain ⟨z, x, hz1, hz2, rfl, rfl, hx, HX⟩ := hrel
      by_cases hge : 0 ≤ z
      · have HX2 : Hid (bl (⟨#[40]⟩ ++ x ++ ⟨#[41]⟩) = parT (r - (z - 1)).toNat (shT T)) := by
          show _ = _
          rw [show (r - (z - 1)).toNat = (r - z).toNat + 1 by omega]
          exact parT_snoc _ _ _ HX.out
        have hx2 : (⟨#[40]⟩ ++ x ++ ⟨#[41]⟩).size ≤ 1000 := by
          have h1 := parT_len (shT T) (r - (z - 1)).toNat
          have h2 := HL.out
          rw [← bl_len, HX2.out]
          omega
        have HXz := Lib.hid hx2
        clear hx2
        go_wp2
        go_round
        case rel => exact ⟨z - 1, _, by omega, by omega, rfl, rfl, HXz.out, HX2⟩
        case measure => simp [intOf]; omega
      · obtain rfl : z = -1 := by omega
        clear hge hz1 hz2
        have hm : (r - -1).toNat = r.toNat + 1 := by omega
        rw [hm] at HX
        have HRd : Hid (rdA (ftoks (bl x)) 0 = ⟨T, (ftoks (bl x)).length, 0, 0⟩) := read_par (ok_src (by omega) HMd7.out.ok).1 (ok_src (by omega) HMd7.out.ok).2 (by omega) HX.out
        have HSc : Hid (Calls Tryz.prog 13 #[.string x] V7 (ScanEnd V7 (ftoks (bl x)))) := scan_any x V7 (by omega)
        have HOk := Lib.hid (ftoks_ok (bl x))
        generalize ftoks (bl x) = tl at *
        clear hm
        go_wp2_with fail
        go_at_call 13
        refine HSc.out.mono ?_
        rintro e V8 ⟨lv, rfl, hrow, hb8⟩
        have htk := tokAt_of_row hrow
        have HMd8 := Lib.hid (HMd7.out.lift hb8)
        have HR : Hid (RdC 19 V8 lv 0 (rdA tl 0)) := rdC_of fun V hb => pkAtom_any tl HOk.out.1 _ lv 0 V (htk.lift hb) ((HGV.out.lift hb8).lift hb)
        rw [HRd.out] at HR
        obtain ⟨la, lc, rfl, -, -⟩ := htk
        clear hrow hb8 HSc HMd7 HOk HGV HRd
        generalize tl.length = ln at *
        go_wp2_with fail
        go_at_call 19
        refine (HR.out _ (Below.refl _ _)).mono ?_
        rintro e x1 ⟨u1k, u1n, u1i, u1h, u1a, u1m, u1c, rfl, hrep, hbx⟩
        have HTw : Hid (Two x1.heap.size T (.int .i64 u1k) (.string u1n) (.int .i64 u1i) (.int .i64 u1h) (.slice u1a u1m u1c) 0 0 _) := two_made hrep
        have HMd9 := Lib.hid (HMd8.out.lift (hbx.trans ((two_below x1 (.int .i64 u1k) (.string u1n) (.int .i64 u1i) (.int .i64 u1h) (.slice u1a u1m u1c) 0 0).mono hbx.size)))
        clear hrep hbx HR HMd8
        go_upto_region 14 with fail
        generalize ((x1.alloc (.cells #[.int .i64 u1k, .string u1n, .int .i64 u1i, .int .i64 u1h, .slice u1a u1m u1c] 30)).alloc (.cells #[.int .i64 0, .int .i64 0] 40)) = y1 at *
        generalize x1.heap.size = b1 at *
        obtain ⟨c0, c1, c2, c3, c4⟩ := HMd9.out.box.cells
        obtain ⟨d0, d1, d2, d3, d4⟩ := HTw.out.box.cells
        obtain ⟨f0, f1⟩ := flt_cells HTw.out.flt
        have HEq := Lib.hid (same_eq T _ _ y1 HMd9.out.rep HTw.out.rep)
        go_wp2_with fail
        go_at_call 17
        refine HEq.out.mono ?_
        rintro e w9 ⟨rfl, hb9⟩
        go_wp2
        go_ret
        exact ⟨rfl, HMd9.out.low.trans (hb9.mono HMd9.out.low.size)⟩
end Go.Proofs.YthphnacfidofbaaGreatDoor
