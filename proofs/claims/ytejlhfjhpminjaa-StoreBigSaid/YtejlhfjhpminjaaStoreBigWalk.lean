/- The law StoreBig returns true at every input. -/
import Derived.Test.YtejlhfjhpminjaaStBi
import Derived.Test.YtejlhfjhpminjaaTyMake
import Derived.Deep.RegionWith
namespace Go.Proofs.Ytejlhfjhpminjaa
open Go.RowKit Go.Sort Go.Shelf Go.Maps Mth

theorem arr_ok : arrN.size ≤ maxLen := by unfold maxLen; decide +kernel
theorem refArr_rep (T U : Ty) (v u : Value) (S : Nat → Prop) (w : World) (hS : ∀ b, w.heap.size ≤ b → S b) (h : Rep w S T v) (h' : Rep w S U u) :
    Calls Try.prog 10 #[v, u] w fun e w' => ∃ a c, e = .returned (.agg #[.int .i64 4, .string arrN, .int .i64 0, .int .i64 0, .slice a 2 c]) ∧ Rep w' S (arT T U) (.agg #[.int .i64 4, .string arrN, .int .i64 0, .int .i64 0, .slice a 2 c]) ∧ Below w.heap.size w w' :=
  (refArrow_any T U v u S w hS h h').mono fun _ _ ⟨a, c, h1, h2, h3⟩ => ⟨a, c, h1, Rep.close arr_ok h2, h3⟩
set_option maxRecDepth 100000 in
set_option maxHeartbeats 20000000 in
theorem storeBig_any (z : Int) (w : World) :
    Calls Try.prog 3 #[.int .i64 z] w fun e w' => e = .returned (.bool true) ∧ RowKit.Below w.heap.size w w' := by
  have HAl : Hid (∀ (w : World) (o : Obj), RowKit.Below w.heap.size w (w.alloc o)) := fun w o => (Below.refl _ w).alloc (Nat.le_refl _) o
  have HFi := Lib.hid (fun w => first16_any w)
  have HNw := Lib.hid (fun W => new_any W)
  have HMd : Hid (∀ W, Calls Try.prog 6 #[.int .i64 z, .int .i64 60] W fun e w' => e = .returned (.int .i64 (z % 60)) ∧ W = w') := fun W => mod_any z 60 W (by decide) (by decide)
  obtain ⟨k, hk⟩ : ∃ k : Nat, (2 : Int) + z % 60 = (k : Int) := ⟨(2 + z % 60).toNat, by have := Int.emod_nonneg z (b := 60) (by decide); omega⟩
  have hk2 : 2 ≤ k := by have := Int.emod_nonneg z (b := 60) (by decide); omega
  have hk61 : k ≤ 61 := by have := Int.emod_lt_of_pos z (b := 60) (by decide); omega
  have hm0 := Int.emod_nonneg z (b := 60) (by decide)
  have hm1 := Int.emod_lt_of_pos z (b := 60) (by decide)
  have hzm : z % 60 = (k : Int) - 2 := by omega
  rw [hzm] at HMd
  clear hzm hk hm0 hm1
  have HVr : Hid (∀ x W, Calls Try.prog 11 #[.int .i64 x] W fun e w' => e = .returned (.agg #[.int .i64 1, .string ⟨#[]⟩, .int .i64 x, .int .i64 0, .slice none 0 0]) ∧ Below W.heap.size W w') := fun x W => refVar_any x W
  go_enter Try.func3, Try.ntmps3
  go_wp2_with fail
  go_at_call 5
  refine (HFi.out _).mono ?_
  rintro e w1 ⟨rfl, hb1⟩
  go_wp2_with fail
  go_at_call 6
  refine (HMd.out _).mono ?_
  rintro e w2 ⟨rfl, rfl⟩
  have hk3 : (2 : Int) + ((k : Int) - 2) = (k : Int) := by omega
  go_wp2_with fail
  go_at_call 7
  refine (HNw.out _).mono ?_
  rintro e w3 ⟨rfl, hb3⟩
  have hb13 := hb1.trans (hb3.mono hb1.size)
  have hal := HAl.out w3 (.cells #[.slice none 0 0, .slice none 0 0] 27)
  have H0 : Hid (BgSt w w3.heap.size 0 none 0 none 0 0 (bigS 0) (w3.alloc (.cells #[.slice none 0 0, .slice none 0 0] 27))) := ⟨BoxC.made _ w3 _, rfl, slG_nil _ _ _, ⟨[], rfl, slG_nil _ _ _⟩, by decide, hb13.trans (hal.mono hb13.size), hb13.size⟩
  clear hb1 hb3 hb13 hal HFi HNw HMd
  go_upto_region 5 with fail
  generalize (w3.alloc (.cells #[.slice none 0 0, .slice none 0 0] 27)) = V at *
  generalize w3.heap.size = B at *
  clear w1
  go_wp2
  go_loopw [5] (fun x wr => ∃ (i : Nat) (sa : Option Addr) (sc : Nat) (ta : Option Addr) (tn tc : Nat), i ≤ k ∧ x = .int .i64 i ∧ tn ≤ 2 * i ∧ Hid (BgSt w B i sa sc ta tn tc (bigS i) wr)) (fun x _ => k - (intOf x).toNat)
  case atStart => exact ⟨0, none, 0, none, 0, 0, Nat.zero_le _, rfl, Nat.le_refl _, H0⟩
  case round =>
    clear H0
    obtain ⟨i, sa, sc, ta, tn, tc, hik, rfl, htn, HS⟩ := hrel
    have c0 := HS.out.1.cell 0 _ rfl
    have c1 := HS.out.1.cell 1 _ rfl
    by_cases hlt : i < k
    · have hji : (i : Int) < (k : Int) := by omega
      have HF := Lib.hid (fresh_bg HS.out (by omega) (by omega))
      go_wp2_with fail
      go_at_call 8
      refine HF.out.mono ?_
      rintro e x1 ⟨sa1, sc1, ta1, tc1, rfl, hb1, hS1⟩
      have HS1 := Lib.hid hS1
      have hbx := HS.out.1.lift hb1
      clear c0 c1
      have c0 := hbx.cell 0 _ rfl
      have c1 := hbx.cell 1 _ rfl
      have f0 := hbx.free 0
      have f1 := hbx.free 1
      clear hS1 hb1 hbx HF HS
      go_upto_region 9 with fail
      clear c0 c1 f0 f1
      generalize ((x1.setCell ⟨B, 0, none⟩ (.slice sa1 (i + 1) sc1)).setCell ⟨B, 1, none⟩ (.slice ta1 (tn + 1) tc1)) = x2 at *
      by_cases h0 : i = 0
      · subst h0
        have HS2 : Hid (BgSt w B 1 sa1 sc1 ta1 (tn + 1) tc1 (bigS 1) x2) := HS1.out
        go_wp2
        go_roundw
        case rel => exact ⟨1, sa1, sc1, ta1, tn + 1, tc1, hlt, by go_num, by omega, HS2⟩
        case measure => simp [intOf]; omega
      · have hi0 : (0 : Int) < (i : Int) := by omega
        have HEq : Hid ((bigS i ++ [(⟨false, zTy, 0, false⟩ : Slt)]).set i ⟨true, arT (vT ((i : Int) - 1)) (vT ((i : Int) - 1)), 0, false⟩ = bigS (i + 1)) := by
          show _ = _
          rw [bigS_set, bigS_succ]
          unfold bigE
          rw [if_neg h0]
        have HY0 : Hid (BgSt w B (i + 1) sa1 sc1 ta1 (tn + 1) tc1 (bigS i ++ [⟨false, zTy, 0, false⟩]) x2.drew) := HS1.out.lift (Below.refl _ x2).drew
        have HC : Hid (∀ W, BgSt w B (i + 1) sa1 sc1 ta1 (tn + 1) tc1 (bigS i ++ [⟨false, zTy, 0, false⟩]) W → W.cell? ⟨B, 0, none⟩ = some (.slice sa1 (i + 1) sc1) ∧ W.cell? ⟨B, 1, none⟩ = some (.slice ta1 (tn + 1) tc1)) := fun W h => ⟨h.1.cell 0 _ rfl, h.1.cell 1 _ rfl⟩
        have HAr : Hid (∀ W, BgSt w B (i + 1) sa1 sc1 ta1 (tn + 1) tc1 (bigS i ++ [⟨false, zTy, 0, false⟩]) W → Calls Try.prog 10 #[.agg #[.int .i64 1, .string ⟨#[]⟩, .int .i64 ((i : Int) - 1), .int .i64 0, .slice none 0 0], .agg #[.int .i64 1, .string ⟨#[]⟩, .int .i64 ((i : Int) - 1), .int .i64 0, .slice none 0 0]] W fun e w' => ∃ a c, e = .returned (.agg #[.int .i64 4, .string arrN, .int .i64 0, .int .i64 0, .slice a 2 c]) ∧ Rep w' (fun b => b ≠ B) (arT (vT ((i : Int) - 1)) (vT ((i : Int) - 1))) (.agg #[.int .i64 4, .string arrN, .int .i64 0, .int .i64 0, .slice a 2 c]) ∧ Below W.heap.size W w') := fun W h => refArr_rep _ _ _ _ (fun b => b ≠ B) W (fun b hb => by have := h.1.lt; omega) (vT_rep W _ _) (vT_rep W _ _)
        have hwi : IntKind.i64.wrap ((i : Int) - 1) = (i : Int) - 1 := by rw [IntKind.wrap_i64]; omega
        have hi1 : i + 1 < 1000000 := by omega
        have htn1 : tn + 1 < 1000 := by omega
        obtain ⟨c0, c1⟩ := HC.out _ HY0.out
        clear HS1
        go_upto_region 10 with fail
        go_region_with (first
          | (go_at_call 11; (with_reducible refine (HVr.out ((i : Int) - 1) y1).mono ?_); rintro e y2 ⟨rfl, hb⟩; have HY2 := Lib.hid (BgSt.lift HY1.out hb); clear c0 c1; obtain ⟨c0, c1⟩ := HC.out y2 HY2.out; clear hb)
          | (go_at_call 11; (with_reducible refine (HVr.out ((i : Int) - 1) x2.drew).mono ?_); rintro e y1 ⟨rfl, hb⟩; have HY1 := Lib.hid (BgSt.lift HY0.out hb); clear c0 c1; obtain ⟨c0, c1⟩ := HC.out y1 HY1.out; clear hb)
          | (go_at_call 10; (with_reducible refine (HAr.out y2 HY2.out).mono ?_); rintro e y3 ⟨aa, ac, rfl, hr, hb⟩; have HY3 := Lib.hid (BgSt.lift HY2.out hb); have HR3 := Lib.hid hr; clear c0 c1; obtain ⟨c0, c1⟩ := HC.out y3 HY3.out; clear hb hr)
          | (go_at_call 9; (with_reducible refine (set_bg HY3.out hi1 htn1 (Nat.lt_succ_self i) HR3.out).mono ?_); rintro e y4 ⟨sa2, sc2, ta2, tc2, rfl, hb, hS2⟩; have HS2 := Lib.hid hS2; have hbx := BoxC.lift HY3.out.1 hb; clear c0 c1; have c0 := BoxC.cell hbx 0 _ rfl; have c1 := BoxC.cell hbx 1 _ rfl; have f0 := BoxC.free hbx 0; have f1 := BoxC.free hbx 1; clear hbx hb hS2))
        all_goals
          have HS3 : Hid (BgSt w B (i + 1) sa2 sc2 ta2 (tn + 1 + 1) tc2 (bigS (i + 1)) ((y4.setCell ⟨B, 0, none⟩ (.slice sa2 (i + 1) sc2)).setCell ⟨B, 1, none⟩ (.slice ta2 (tn + 1 + 1) tc2))) := by
            show BgSt _ _ _ _ _ _ _ _ _ _
            rw [← HEq.out]; exact HS2.out
          clear HS2 c0 c1 f0 f1
          generalize ((y4.setCell ⟨B, 0, none⟩ (.slice sa2 (i + 1) sc2)).setCell ⟨B, 1, none⟩ (.slice ta2 (tn + 1 + 1) tc2)) = y5 at *
          go_wp2
          go_roundw
          case rel => exact ⟨i + 1, sa2, sc2, ta2, tn + 1 + 1, tc2, hlt, by go_num, by omega, HS3⟩
          case measure => simp [intOf]; omega
    · obtain rfl : k = i := by omega
      clear hlt hik
      go_wp2
      clear c0 c1
      generalize wr = wo at *
      go_loopw [6, 7] (fun y x wx => ∃ i q : Nat, 1 ≤ i ∧ i ≤ k ∧ x = .int .i64 i ∧ y = .int .i64 q ∧ q ≤ 8001 ∧ Hid (q = nd (i - 1)) ∧ wx = wo) (fun _ x _ => k - (intOf x).toNat)
      case atStart => exact ⟨1, 1, Nat.le_refl _, by omega, rfl, rfl, by omega, rfl, rfl⟩
      case round =>
        obtain ⟨i, q, hi1, hik, rfl, rfl, hq, HQ, rfl⟩ := hrel
        by_cases hgo : i < k ∧ q ≤ 4000
        · have hgo1 : (i : Int) < (k : Int) := by omega
          have hgo2 : (q : Int) ≤ 4000 := by omega
          have HQ2 : Hid (2 * q + 1 = nd (i + 1 - 1)) := by
            show _ = _
            rw [HQ.out, show i + 1 - 1 = (i - 1) + 1 from by omega]; rfl
          go_wp2
          go_roundw
          case rel => exact ⟨i + 1, 2 * q + 1, by omega, hgo.1, by go_num, by go_num, by omega, HQ2, by first | rfl | trivial⟩
          case measure => simp [intOf]; omega
        · obtain ⟨N, hN⟩ : ∃ N, N = nd (k - 1) := ⟨_, rfl⟩
          have hmono : q ≤ N := by rw [hN, HQ.out]; exact nd_mono (by omega)
          have hqN : i = k → q = N := fun e => by rw [hN, HQ.out, e]
          have HMin : Hid (((min N (100 + 1) : Nat) : Int) = min (q : Int) 101) := by
            show _ = _
            by_cases e : i = k
            · rw [← hqN e]; omega
            · omega
          have hiff : (N ≤ 4000) = (q ≤ 4000) := by
            by_cases e : i = k
            · rw [← hqN e]
            · apply propext; omega
          have hR : Res (walkF (bigS k) k) (bigR (k - 1)) (vT ((k : Int) - 1)) := by
            have := big_res (k := k) (by omega) (k - 1) (by omega)
            rwa [show ((k - 1 : Nat) : Int) = (k : Int) - 1 from by omega] at this
          have hnd : nodes (bigR (k - 1)) = N := by rw [nd_nodes, hN]
          have HL := Lib.hid (bigS_len k)
          have HRs : Hid (∀ W, Below wr.heap.size wr W → Calls Try.prog 12 #[.agg #[.slice sa k sc, .slice ta tn tc], .agg #[.int .i64 1, .string ⟨#[]⟩, .int .i64 ((k : Int) - 1), .int .i64 0, .slice none 0 0]] W fun e w' => ∃ uk un ui uh ua um uc, e = .returned (.tuple #[.agg #[.int .i64 uk, .string un, .int .i64 ui, .int .i64 uh, .slice ua um uc], .bool (decide (q ≤ 4000))]) ∧ Below W.heap.size W w') := fun W hb => by
            refine (resolve_any (bigS k) k HL.out.symm (by omega) (vT ((k : Int) - 1)) sa sc ta tn tc _ (fun b => b ≠ B) W ((HS.out.lift hb).2.2.1) (vT_rep W _ _)).mono ?_
            rintro e w' ⟨⟨u, b, rfl, h2, h3, h4⟩, h5⟩
            have hb2 : b = decide (q ≤ 4000) := by
              rw [h2]
              have := (szF_iff hR (m := 4000) (f := 4001) (by omega)).trans (by rw [hnd, hiff] : nodes (bigR (k - 1)) ≤ 4000 ↔ q ≤ 4000)
              rw [Bool.eq_iff_iff, decide_eq_true_eq, decide_eq_true_eq]
              exact this
            have hform : ∃ uk un ui uh ua um uc, u = .agg #[.int .i64 uk, .string un, .int .i64 ui, .int .i64 uh, .slice ua um uc] := by
              cases hb3 : b with
              | true => obtain ⟨a1, a2, a3, a4, a5, -, -⟩ := (h3 hb3 _ hR).frm; exact ⟨_, _, _, _, _, _, _, a5⟩
              | false => obtain ⟨a1, a2, a3, a4, a5, -, -⟩ := (h4 hb3).frm; exact ⟨_, _, _, _, _, _, _, a5⟩
            obtain ⟨uk, un, ui, uh, ua, um, uc, rfl⟩ := hform
            exact ⟨uk, un, ui, uh, ua, um, uc, by rw [hb2], h5⟩
          have HSz : Hid (∀ W, Below wr.heap.size wr W → Calls Try.prog 13 #[.agg #[.slice sa k sc, .slice ta tn tc], .agg #[.int .i64 1, .string ⟨#[]⟩, .int .i64 ((k : Int) - 1), .int .i64 0, .slice none 0 0], .int .i64 100] W fun e w' => e = .returned (.int .i64 (min (q : Int) 101)) ∧ Below W.heap.size W w') := fun W hb => by
            have := size_any (bigS k) k HL.out.symm (by omega) 100 (by omega) (vT ((k : Int) - 1)) sa sc ta tn tc _ (fun b => b ≠ B) W ((HS.out.lift hb).2.2.1) (vT_rep W _ _)
            rw [szF_res _ _ 100 101 (by omega) hR, hnd, HMin.out] at this
            exact this
          have HK : Hid (∀ W, Below wr.heap.size wr W → W.cell? ⟨B, 0, none⟩ = some (.slice sa k sc) ∧ W.cell? ⟨B, 1, none⟩ = some (.slice ta tn tc)) := fun W hb => ⟨(HS.out.1.lift hb).cell 0 _ rfl, (HS.out.1.lift hb).cell 1 _ rfl⟩
          have HLw := Lib.hid HS.out.2.2.2.2.2.1
          have HBl : Hid (B < wr.heap.size) := HS.out.1.lt
          clear hR hnd hmono hqN hiff hN
          have HBM : Hid (∀ w : World, Zero (w.alloc (.cells #[.int .i64 0, .string ⟨#[]⟩, .int .i64 0, .int .i64 0, .slice none 0 0] 31)) w.heap.size) := fun w => Box.made _ _ _ _ _ _
          have HD0 : Hid (Below wr.heap.size wr wr.drew) := (Below.refl _ wr).drew
          have HDZ : Hid (Below wr.heap.size wr (wr.alloc (.cells #[.int .i64 0, .string ⟨#[]⟩, .int .i64 0, .int .i64 0, .slice none 0 0] 31)).drew) := ((Below.refl _ wr).alloc (Nat.le_refl _) _).drew
          have HZD : Hid (Zero (wr.alloc (.cells #[.int .i64 0, .string ⟨#[]⟩, .int .i64 0, .int .i64 0, .slice none 0 0] 31)).drew wr.heap.size) := Box.lift (HBM.out wr) (Below.refl _ _).drew
          have h1V : ¬ (B = wr.heap.size) := by have := HBl.out; omega
          have HNe : Hid (∀ x : World, Below wr.heap.size wr x → ¬ (B = x.heap.size)) := fun x hx => by have := HBl.out; have := hx.size; omega
          have hwk : IntKind.i64.wrap ((k : Int) - 1) = (k : Int) - 1 := by rw [IntKind.wrap_i64]; omega
          have hor : (k : Int) ≤ (i : Int) ∨ ((i : Int) < (k : Int) ∧ 4000 < (q : Int)) := by omega
          clear hgo
          rcases hor with g1 | ⟨g1, g2⟩
          all_goals
            go_upto_region 18 with fail
            try go_frame
            go_cut [9] (fun s9 wx => s9 = .bool (decide (q ≤ 4000)) ∧ Hid (Below wr.heap.size wr wx))
            case first =>
              go_region_held3 (fun W' => W'.cell? ⟨B, 0, none⟩ = some (.slice sa k sc) ∧ W'.cell? ⟨B, 1, none⟩ = some (.slice ta tn tc))
                (first
                  | with_reducible exact keepT (HK.out x2 HD2.out) h1V _ _ _ _ _
                  | with_reducible exact keepT (HK.out x2 HD2.out) (HNe.out x1 HD1.out) _ _ _ _ _
                  | with_reducible exact HK.out x2 HD2.out
                  | with_reducible exact HK.out x1 HD1.out
                  | with_reducible exact HK.out wr.drew HD0.out
                  | with_reducible exact HK.out _ HDZ.out
                  | with_reducible exact HK.out (x1.alloc _) (HD1.out.alloc HD1.out.size _)
                  | with_reducible exact HK.out (x2.alloc _) (HD2.out.alloc HD2.out.size _))
                (first
                  | (go_at_call 11; (with_reducible refine (HVr.out ((k : Int) - 1) wr.drew).mono ?_); rintro e x1 ⟨rfl, hb⟩; have HD1 := Lib.hid (RowKit.Below.trans HD0.out (RowKit.Below.mono hb (RowKit.Below.size HD0.out))); clear hb)
                  | (go_at_call 11; (with_reducible refine (HVr.out ((k : Int) - 1) (wr.alloc (.cells #[.int .i64 0, .string ⟨#[]⟩, .int .i64 0, .int .i64 0, .slice none 0 0] 31)).drew).mono ?_); rintro e x1 ⟨rfl, hb⟩; have HD1 := Lib.hid (RowKit.Below.trans HDZ.out (RowKit.Below.mono hb (RowKit.Below.size HDZ.out))); have HZ1 := Lib.hid (Box.lift HZD.out hb); clear hb)
                  | (go_at_call 12; (with_reducible refine (HRs.out x1 HD1.out).mono ?_); rintro e x2 ⟨uk, un, ui, uh, ua, um, uc, rfl, hb⟩; have HD2 := Lib.hid (RowKit.Below.trans HD1.out (RowKit.Below.mono hb (RowKit.Below.size HD1.out))); have HZ2 := Lib.hid (Box.lift HZ1.out hb); obtain ⟨y0, y1, y2, y3, y4⟩ := Box.cells HZ2.out; obtain ⟨z0, z1, z2, z3, z4⟩ := Box.frozen HZ2.out; clear hb)
                  | (go_at_call 12; (with_reducible refine (HRs.out x1 HD1.out).mono ?_); rintro e x2 ⟨uk, un, ui, uh, ua, um, uc, rfl, hb⟩; have HD2 := Lib.hid (RowKit.Below.trans HD1.out (RowKit.Below.mono hb (RowKit.Below.size HD1.out))); clear hb)
                  | (go_at_call 12; (with_reducible refine (HRs.out (x1.alloc (.cells #[.int .i64 0, .string ⟨#[]⟩, .int .i64 0, .int .i64 0, .slice none 0 0] 31)) (HD1.out.alloc HD1.out.size _)).mono ?_); rintro e x2 ⟨uk, un, ui, uh, ua, um, uc, rfl, hb⟩; have HD2 := Lib.hid (RowKit.Below.trans (HD1.out.alloc HD1.out.size (.cells #[.int .i64 0, .string ⟨#[]⟩, .int .i64 0, .int .i64 0, .slice none 0 0] 31)) (RowKit.Below.mono hb (RowKit.Below.size (HD1.out.alloc HD1.out.size (.cells #[.int .i64 0, .string ⟨#[]⟩, .int .i64 0, .int .i64 0, .slice none 0 0] 31))))); have HZ2 := Lib.hid (Box.lift (HBM.out x1) hb); obtain ⟨y0, y1, y2, y3, y4⟩ := Box.cells HZ2.out; obtain ⟨z0, z1, z2, z3, z4⟩ := Box.frozen HZ2.out; clear hb))
              all_goals
                have hs2 := HD2.out.size
                have hs1 := HD1.out.size
                go_wp2_with fail
                go_meet
                refine ⟨rfl, ?_⟩
                show Below _ _ _
                first
                  | exact HD2.out.trans (((Below.refl _ x2).alloc (Nat.le_refl _) _).mono hs2)
                  | (obtain ⟨-, q2, -⟩ := set5 HZ2.out (.int .i64 uk) (.string un) (.int .i64 ui) (.int .i64 uh) (.slice ua um uc)
                     exact Below.grown HD2.out q2 hs2 (fun r e => by cases e; omega))
            case rest =>
              obtain ⟨rfl, HBc⟩ := hcut
              have HE0 : Hid (Below wr.heap.size wr wc.drew) := HBc.out.trans ((Below.refl _ wc).drew.mono HBc.out.size)
              obtain ⟨c0, c1⟩ := HK.out wc HBc.out
              go_upto_region 19 with fail
              clear c0 c1
              have hq3 : (q ≤ 4000 ∧ (q : Int) ≤ 4000) ∨ (¬ q ≤ 4000 ∧ 4000 < (q : Int)) := by omega
              have hqmin : ((q : Int) ≤ 101) ∨ (101 < (q : Int)) := by omega
              rcases hq3 with ⟨g3, g4⟩ | ⟨g3, g4⟩ <;> rcases hqmin with g5 | g5
              all_goals try (exfalso; omega)
              all_goals
                first
                  | rw [decide_eq_true g3]
                  | (rw [decide_eq_false g3]; have g6 : decide ((q : Int) ≤ 4000) = false := (by simp; omega); have g7 : decide (q ≤ 4000) = false := decide_eq_false g3)
                first
                  | rw [show min (q : Int) 101 = (q : Int) from by omega] at HSz
                  | rw [show min (q : Int) 101 = 101 from by omega] at HSz
                clear g3
                go_region_held3 (fun W' => W'.cell? ⟨B, 0, none⟩ = some (.slice sa k sc) ∧ W'.cell? ⟨B, 1, none⟩ = some (.slice ta tn tc))
                  (first
                    | with_reducible exact HK.out z2 HE2.out
                    | with_reducible exact HK.out z1 HE1.out
                    | with_reducible exact HK.out wc.drew HE0.out)
                  (first
                    | (go_at_call 11; (with_reducible refine (HVr.out ((k : Int) - 1) wc.drew).mono ?_); rintro e z1 ⟨rfl, hb⟩; have HE1 := Lib.hid (RowKit.Below.trans HE0.out (RowKit.Below.mono hb (RowKit.Below.size HE0.out))); clear hb)
                    | (go_at_call 13; (with_reducible refine (HSz.out z1 HE1.out).mono ?_); rintro e z2 ⟨rfl, hb⟩; have HE2 := Lib.hid (RowKit.Below.trans HE1.out (RowKit.Below.mono hb (RowKit.Below.size HE1.out))); clear hb))
              all_goals
                go_wp2
                go_ret
                exact ⟨rfl, HLw.out.trans (HE2.out.mono HLw.out.size)⟩
end Go.Proofs.Ytejlhfjhpminjaa
