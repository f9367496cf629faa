/- The law ReadtypeStarts returns true at every input. -/
import Derived.Test.YtnfgljoeijlikaaDoorTyFst
import Derived.Test.YtnfgljoeijlikaaDoorTyRaw
import Derived.Deep.LoopGhost
namespace Go.Proofs.YtnfgljoeijlikaaDoor
open Go.RowKit Go.Maps Go.Sort Mth

set_option maxRecDepth 100000 in
set_option maxHeartbeats 8000000 in
theorem readtypeStarts_any (kind piece : Int) (s : ByteArray) (w : World) (hs : s.size ≤ maxLen) (hg : Gl w) :
    Calls Tryd.prog 4 #[.int .i64 kind, .int .i64 piece, .string s] w fun e w' => e = .returned (.bool true) ∧ Below w.heap.size w w' := by
  have HFi := Lib.hid (first_any w hg)
  clear hg
  unfold maxLen at hs
  cases h20 : decide (20 < (s.size : Int)) with
  | true =>
    go_enter Tryd.func4, Tryd.ntmps4
    go_wp2_with (go_at_call 5; refine HFi.out.mono ?_; rintro e w1 ⟨rfl, hb1⟩)
    go_ret
    exact ⟨rfl, hb1⟩
  | false =>
    obtain ⟨m, hm⟩ : ∃ m : Int, kind % 6 = m := ⟨_, rfl⟩
    have HMd : Hid (∀ w, Calls Tryd.prog 8 #[.int .i64 kind, .int .i64 6] w fun e w' => e = .returned (.int .i64 m) ∧ w = w') := fun w => by have := mod_any kind 6 w (by omega) (by omega); rwa [hm] at this
    clear hm
    go_enter Tryd.func4, Tryd.ntmps4
    go_wp2_with fail
    go_at_call 5
    refine HFi.out.mono ?_
    rintro e w1 ⟨rfl, hb1⟩
    have HB1 := Lib.hid hb1
    have HBa := Lib.hid (keepAlloc (.cells #[.int .i64 piece] 3) hb1)
    have HWd := Lib.hid (words_any _ [piece] (w1.alloc (.cells #[.int .i64 piece] 3)) (ints_one rfl piece) (by simp))
    clear hb1 HFi
    go_wp2_with fail
    go_at_call 7
    refine HWd.out.mono ?_
    rintro e w2 ⟨ts, ⟨v, rfl, hrow, hb2⟩, hok, -⟩
    have HB2 := Lib.hid (keepCall HBa.out hb2)
    have HOk := Lib.hid hok
    have hl := hok.1
    have hal : Below w2.heap.size w2 (w2.alloc (.cells #[.int .i64 kind, .string s, .int .i64 0, .int .i64 m, .string ⟨#[40]⟩, .int .i64 0] 39)) := (Below.refl _ w2).alloc (Nat.le_refl _) _
    have HOwn := Lib.hid (ownsRow_below (ownsRow_base hrow (Nat.le_trans HB1.out.size (by simp : w1.heap.size ≤ (w1.alloc (.cells #[.int .i64 piece] 3)).heap.size))) hal)
    have HBl := Lib.hid (keepCall HB2.out hal)
    have hbs := HBl.out.size
    obtain ⟨inf, hi, hz0, hz1, hz2⟩ := info_parts Tryd.info39
    have HIn := Lib.hid (And.intro hi (And.intro hz0 (And.intro hz1 hz2)))
    have hN1 : ts.length + 2 ≤ maxLen := by unfold maxLen; omega
    have hN2 : (ts.length + 2) * 32 ≤ 140737488355328 := by omega
    have HNN := Lib.hid (And.intro hN1 hN2)
    have HS0 := Lib.hid hs
    have hc40 : (⟨#[40]⟩ : ByteArray).size ≤ maxLen := by unfold maxLen; decide +kernel
    have HC40 := Lib.hid hc40
    clear hc40
    clear hrow hb2 hok hal hi hz0 hz1 hz2 hN1 hN2 HB1 HBa HWd
    go_wp2_with (first
      | (go_at_call 8; refine (HMd.out _).mono ?_; rintro e w' ⟨rfl, rfl⟩)
      | (at_builtin; refine wpList_append_own_at _ rfl _ _ 23 rfl w.heap.size 39 inf _ 3 32 Tryd.underlying23 HIn.out.1 HIn.out.2.1 HIn.out.2.2.1 HIn.out.2.2.2 rfl (by decide) v ts.length (row3 ts) rfl HOwn.out _ 2 2 (rawRow [⟨kind, s, 0⟩, ⟨m, ⟨#[40]⟩, 0⟩]) rfl (by rw [rawRow_len]; rfl) (six_new rfl ⟨kind, s, 0⟩ ⟨m, ⟨#[40]⟩, 0⟩) (six_one _ _) HNN.out.1 HNN.out.2 hbs ?_; intro v' V hown' hg' _ _; obtain ⟨R, a', c', rfl, hraw, hrok⟩ := row_raw _ _ hown' HOk.out (by unfold maxLen; exact HS0.out) HC40.out))
    have HBV := Lib.hid (Below.grown HBl.out hg' HBl.out.size (fun k hk => (HOwn.out.lt k hk).1))
    clear hown' hg' HOwn HBl hbs HNN HIn HB2 HMd HOk HC40 HS0
    obtain ⟨a2, c2, hv2, hcap2, hj2⟩ := hraw
    have HJ := Lib.hid hj2
    have HRk := Lib.hid hrok
    have hRl := hrok.1
    obtain ⟨rfl, rfl⟩ : a2 = a' ∧ c2 = c' := by simp at hv2; exact ⟨hv2.1.symm, hv2.2.symm⟩
    clear hj2 hrok hv2
    obtain ⟨N, hN⟩ : ∃ N, N = R.length := ⟨_, rfl⟩
    rw [← hN] at hRl hcap2 ⊢
    have HNl := Lib.hid hN
    clear hN
    go_loopg [26] N (fun g i wr => ∃ j : Nat, j + g = N ∧ i = .int .i64 j ∧ Hid (Below V.heap.size V wr))
    case atStart => exact ⟨0, by omega, rfl, Below.refl _ V⟩
    case round =>
      obtain ⟨j, hj, rfl, HBr⟩ := hrel
      by_cases hlt : j < N
      · obtain ⟨g, rfl⟩ : ∃ g, gk = g + 1 := ⟨gk - 1, by omega⟩
        obtain ⟨r, hr⟩ : ∃ r, R[j]? = some r := ⟨_, List.getElem?_eq_getElem (by rw [← HNl.out]; exact hlt)⟩
        obtain ⟨ad, rfl, q0, q1, q2⟩ := HJ.out j r hr
        have hrx := HRk.out.2 r (List.mem_of_getElem? hr)
        have HRx : Hid (r.x.size ≤ 9223372036854775807) := by unfold maxLen at hrx; exact hrx
        obtain ⟨rk, rx, rp⟩ := r
        dsimp only at q0 q1 q2 HRx
        have HBx : Hid (∀ X, Below V.heap.size V (wr.alloc X)) := fun X => keepAlloc X HBr.out
        have e0 : wr.cell? (ad.add (j * 3)) = some (.int .i64 rk) := by rw [HBr.out.cell (World.block_lt_of_cell? _ _ q0)]; exact q0
        have e1 : wr.cell? ⟨(ad.add (j * 3)).block, (ad.add (j * 3)).off + 1, none⟩ = some (.string rx) := by rw [HBr.out.cell (World.block_lt_of_cell? _ _ q1)]; exact q1
        have e2 : wr.cell? ⟨(ad.add (j * 3)).block, (ad.add (j * 3)).off + 2, none⟩ = some (.int .i64 rp) := by rw [HBr.out.cell (World.block_lt_of_cell? _ _ q2)]; exact q2
        have hji : (j : Int) < (N : Int) := by omega
        have hj0 : (0 : Int) ≤ (j : Int) := by omega
        have hn := tok_cells (heap_alloc_new wr (.cells #[.int .i64 rk, .string rx, .int .i64 rp] 39))
        have HN := Lib.hid hn
        have HVa := Lib.hid (fun w => valid_any rk rx rp w HRx.out)
        have HSa := Lib.hid (fun w => starts_any rk rx rp w)
        have HSb := Lib.hid (fun w => rstarts_any rk rx rp w)
        clear hn q0 q1 q2 hr hrx
        generalize valB rk rx rp = vb at *
        generalize (rk == 1 || rk == 2 || (rk == 5 && rx.toList == (⟨#[40]⟩ : ByteArray).toList)) = sb at *
        cases vb <;> cases sb
        all_goals
          go_upto_region 8 with fail
          have HW := Lib.hid (HBx.out (.cells #[.int .i64 rk, .string rx, .int .i64 rp] 39))
          clear e0 e1 e2
          generalize (wr.alloc (.cells #[.int .i64 rk, .string rx, .int .i64 rp] 39)) = W at *
          obtain ⟨⟨c0, c1, c2⟩, -⟩ := HN.out
          have G0 := cell_regrown c0
          have G1 := cell_regrown c1
          have G2 := cell_regrown c2
          refine wp_region_quiet_below (by kernel_rfl) (by kernel_rfl) ?_
          repeat (quiet_step ((first | (go_at_call 14; exact Calls.regrown_of (HVa.out _)) | (go_at_call 15; exact Calls.regrown_of (HSa.out _)) | (go_at_call 16; exact Calls.regrown_of (HSb.out _)))))
          refine wpQuiet_nil ?_
          intro _ hw'
          obtain ⟨⟨dq, osq⟩, hw''⟩ := hw'
          subst hw''
          have HZ := Lib.hid (HW.out.trans ((below_regrown W dq osq).mono HW.out.size))
          clear c0 c1 c2 G0 G1 G2 HN HW HBx HBr
          generalize grow (redrawn W dq) osq = Z at *
          go_wp2
          go_roundg g
          case measure => omega
          case rel => exact ⟨j + 1, by omega, by go_num, HZ⟩
      · obtain rfl : j = N := by omega
        have HE := Lib.hid (HBV.out.trans (HBr.out.mono HBV.out.size))
        go_wp2
        go_ret
        exact ⟨rfl, HE.out⟩
end Go.Proofs.YtnfgljoeijlikaaDoor
