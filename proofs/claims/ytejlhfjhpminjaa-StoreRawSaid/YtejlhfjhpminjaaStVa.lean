/- Stores: the reference's Valid comes to an end. -/
import Derived.Test.YtejlhfjhpminjaaStCw
import Derived.Test.YtejlhfjhpminjaaStSm
import Derived.Deep.QuietTactic
import Derived.BigQuiet
namespace Go.Proofs.Ytejlhfjhpminjaa
open Go.RowKit Go.Sort Go.Shelf Go.Maps Mth

theorem elInfo_int : (Try.prog.info? 3).map (fun i => (i.zero, i.size, i.bytes)) = some (some (.int .i64 0), 1, 8) := by kernel_rfl
theorem run_makeI (n : Nat) (hn : n ≤ 100000) (w : World) : (Instr.makeSlice 45 (.int .i64 (n : Int)) (.int .i64 (n : Int))).run Try.prog w = .ok (.slice (some ⟨w.heap.size, 0, none⟩) n n) (w.alloc (.cells (Array.replicate n (intV 0)) 3)) := by
  obtain ⟨i, hi, hz0, hz1, hz2⟩ := info_parts elInfo_int
  have hbi : (i.bytes : Int) * (n : Int) ≤ 281474976710656 := by rw [hz2]; omega
  have hrun := run_make (P := Try.prog) w 45 3 i _ Try.underlying45 hi hz0 .i64 .i64 (n : Int) (n : Int) (by omega) (by omega) hbi (by omega)
  simp only [Int.toNat_natCast] at hrun
  rw [hrun, hz1]
  have e : madeCells (Value.cells (.int .i64 0)) (n * 1) = Array.replicate n (intV 0) := by
    rw [← Array.toList_inj, show Value.cells (.int .i64 0) = [Value.int .i64 0].toArray from rfl, made_rep [Value.int .i64 0] 1 rfl (by decide) n]
    simp [intV]
  rw [e]
/-- Some Bool was returned. -/
def RetB (e : Ending) : Prop := ∃ b : Bool, e = .returned (.bool b)
set_option maxRecDepth 100000 in
set_option maxHeartbeats 20000000 in
theorem valid16_any (s : Sto) (v : Value) (S : Nat → Prop) (w : World) (hf : FewS s) (h : StoR w S s v) : Calls Try.prog 15 #[v] w fun e w' => RetB e ∧ Below w.heap.size w w' := by
  obtain ⟨sa, sc, ta, tc, rfl, hsl, htr⟩ := h
  obtain ⟨V, hV⟩ : ∃ V, V = w.alloc (.cells #[.slice sa s.slots.length sc, .slice ta s.trail.length tc] 27) := ⟨_, rfl⟩
  have hVb : Below w.heap.size w V := by rw [hV]; exact (Below.refl _ w).alloc (Nat.le_refl _) _
  have hB1 : BoxC 27 V w.heap.size [.slice sa s.slots.length sc, .slice ta s.trail.length tc] := by rw [hV]; exact BoxC.made _ w _
  obtain ⟨f1, f2, f3, f4⟩ := hf
  obtain ⟨n, hn⟩ : ∃ n, n = s.slots.length := ⟨_, rfl⟩
  obtain ⟨m, hm⟩ : ∃ n, n = s.trail.length := ⟨_, rfl⟩
  rw [← hn] at f1 hsl hV hB1 ⊢
  rw [← hm] at f2 htr hV hB1 ⊢
  have HB := Lib.hid hB1
  have HVb := Lib.hid hVb
  have HS := Lib.hid (hsl.up hVb)
  have HT := Lib.hid (htr.up hVb)
  have HN := Lib.hid hn
  have HM := Lib.hid hm
  have HF3 := Lib.hid f3
  have HBl : Hid (w.heap.size < V.heap.size) := hB1.lt
  have c0 := hB1.cell 0 _ rfl
  have c1 := hB1.cell 1 _ rfl
  clear hB1 hsl htr hn hm f3 f4
  go_enter Try.func15, Try.ntmps15
  go_upto_region 1 with fail
  rw [← hV]
  clear hV
  go_wp2
  clear c0 c1
  go_loopw [3] (fun x wr => ∃ j : Nat, j ≤ m ∧ x = .int .i64 j ∧ Hid (Below V.heap.size V wr)) (fun x _ => m - (intOf x).toNat)
  case atStart => exact ⟨0, Nat.zero_le _, rfl, Below.refl _ _⟩
  case round =>
    obtain ⟨j, hj, rfl, HD⟩ := hrel
    have hVs := HVb.out.size
    have c0 := (HB.out.lift HD.out).cell 0 _ rfl
    have c1 := (HB.out.lift HD.out).cell 1 _ rfl
    by_cases hlt : j < m
    · have hji : (j : Int) < (m : Int) := by omega
      obtain ⟨x, hx⟩ : ∃ x, s.trail[j]? = some x := ⟨_, List.getElem?_eq_getElem (by rw [← HM.out]; exact hlt)⟩
      obtain ⟨ad, k', nm', i', hm', a', n', c', rfl, -, -, g0, -⟩ := chg_at (HT.out.up HD.out) hx
      clear hx
      have hor : (x.id < 0) ∨ (¬ x.id < 0 ∧ (n : Int) ≤ x.id) ∨ (¬ x.id < 0 ∧ x.id < (n : Int)) := by omega
      have HQ : Hid (∀ k, Below V.heap.size V (wr.drewN k)) := fun k => HD.out.trans ⟨rfl, rfl, rfl, Nat.le_refl _, fun _ _ => rfl⟩
      rcases hor with h0 | ⟨h0, h2⟩ | ⟨h0, h2⟩
      · go_upto_region 4 with fail
        go_quiet (fail)
        go_wp2
        go_ret
        exact ⟨⟨false, rfl⟩, HVb.out.trans ((HQ.out _).mono hVs)⟩
      · have h1 : decide (x.id < 0) = false := decide_eq_false h0
        go_upto_region 4 with fail
        go_quiet (fail)
        go_wp2
        go_ret
        exact ⟨⟨false, rfl⟩, HVb.out.trans ((HQ.out _).mono hVs)⟩
      · have h1 : decide (x.id < 0) = false := decide_eq_false h0
        go_upto_region 4 with fail
        go_quiet (fail)
        clear g0 c0 c1
        go_wp2
        go_roundw
        case rel => exact ⟨j + 1, hlt, by go_num, HQ.out _⟩
        case measure => simp [intOf]; omega
    · go_wp2
      clear c0 c1
      generalize wr = wo at *
      have HZr : Hid (∀ W, Rep W S zTy (.agg #[.int .i64 0, .string ⟨#[]⟩, .int .i64 0, .int .i64 0, .slice none 0 0])) := fun W => rep_leaf W S 0 ⟨#[]⟩ 0 0 (Nat.zero_le _)
      have hn6 : n ≤ 6 := f1
      go_loopw [4] (fun x wx => ∃ j : Nat, j ≤ n ∧ x = .int .i64 j ∧ Hid (∀ x ∈ s.slots.take j, x.bound = true → nodes x.ty ≤ 1000 ∧ ∀ v ∈ vids x.ty, 0 ≤ v ∧ v < (n : Int)) ∧ Hid (Below V.heap.size V wx)) (fun x _ => n - (intOf x).toNat)
      case atStart => exact ⟨0, Nat.zero_le _, rfl, fun x hx => by simp at hx, HD⟩
      case round =>
        clear HD
        obtain ⟨j, hj, rfl, HA, HD⟩ := hrel
        have c0 := (HB.out.lift HD.out).cell 0 _ rfl
        by_cases hlt2 : j < n
        · have hji : (j : Int) < (n : Int) := by omega
          obtain ⟨x, hx⟩ : ∃ x, s.slots[j]? = some x := ⟨_, List.getElem?_eq_getElem (by rw [← HN.out]; exact hlt2)⟩
          obtain ⟨ad, k', nm', i', hm', a', n', c', rfl, -, hr, g0, g1, g2, g3, g4, g5, g6, g7⟩ := slt_at (HS.out.up HD.out) hx
          have HR := Lib.hid hr
          have HMt := Lib.hid (mem_take_succ hx (p := fun x => x.bound = true → nodes x.ty ≤ 1000 ∧ ∀ v ∈ vids x.ty, 0 ≤ v ∧ v < (n : Int)) HA.out)
          have HNd := Lib.hid (HF3.out x (List.mem_of_getElem? hx))
          clear hx hr
          have HBz : Hid (∀ w : World, BoxC 39 (w.alloc (.cells #[.bool x.bound, .int .i64 k', .string nm', .int .i64 i', .int .i64 hm', .slice a' n' c', .int .i64 x.home, .bool x.base] 39)) w.heap.size [.bool x.bound, .int .i64 k', .string nm', .int .i64 i', .int .i64 hm', .slice a' n' c', .int .i64 x.home, .bool x.base]) := fun w => BoxC.made _ w _
          have hal : Below wr.heap.size wr (wr.alloc (.cells #[.bool x.bound, .int .i64 k', .string nm', .int .i64 i', .int .i64 hm', .slice a' n' c', .int .i64 x.home, .bool x.base] 39)) := (Below.refl _ wr).alloc (Nat.le_refl _) _
          have HBx := Lib.hid (HBz.out wr)
          have HD1 := Lib.hid (HD.out.trans (hal.mono HD.out.size))
          have HR1 := Lib.hid (HR.out.lift hal)
          have HWl : Hid (wr.heap.size < (wr.alloc (.cells #[.bool x.bound, .int .i64 k', .string nm', .int .i64 i', .int .i64 hm', .slice a' n' c', .int .i64 x.home, .bool x.base] 39)).heap.size) := HBx.out.lt
          go_upto_region 10 with fail
          clear g0 g1 g2 g3 g4 g5 g6 g7 c0 hal HD HR HBz
          generalize (wr.alloc (.cells #[.bool x.bound, .int .i64 k', .string nm', .int .i64 i', .int .i64 hm', .slice a' n' c', .int .i64 x.home, .bool x.base] 39)) = x1 at *
          generalize wr.heap.size = bx at *
          have b0 := HBx.out.cell 0 _ rfl
          have b1 := HBx.out.cell 1 _ rfl
          have b2 := HBx.out.cell 2 _ rfl
          have b3 := HBx.out.cell 3 _ rfl
          have b4 := HBx.out.cell 4 _ rfl
          have b5 := HBx.out.cell 5 _ rfl
          cases hxb : x.bound with
          | false =>
            rw [hxb] at b0
            have HMt2 := Lib.hid (HMt.out (fun h => by rw [hxb] at h; cases h))
            have HEq := Lib.hid (refEqual_any _ x.ty (Nat.le_refl _) zTy _ _ _ _ x1 HR1.out (HZr.out x1))
            clear hxb
            generalize teq x.ty zTy = tb at *
            cases tb with
            | true =>
              go_wp2_with (go_at_call 19; refine HEq.out.mono ?_; rintro e w1 ⟨rfl, hb1⟩)
              go_roundw
              case rel => exact ⟨j + 1, hlt2, by go_num, HMt2, HD1.out.trans (hb1.mono HD1.out.size)⟩
              case measure => simp [intOf]; omega
            | false =>
              go_wp2_with (go_at_call 19; refine HEq.out.mono ?_; rintro e w1 ⟨rfl, hb1⟩)
              go_ret
              exact ⟨⟨false, rfl⟩, HVb.out.trans ((HD1.out.trans (hb1.mono HD1.out.size)).mono hVs)⟩
          | true =>
            rw [hxb] at b0
            have HVd := Lib.hid (refValid_any x.ty _ _ x1 HR1.out)
            clear hxb
            cases hval : valid x.ty with
            | false =>
              rw [hval] at HVd
              clear hval
              go_wp2_with (go_at_call 31; refine HVd.out.mono ?_; rintro e w1 ⟨rfl, hb1⟩)
              go_ret
              exact ⟨⟨false, rfl⟩, HVb.out.trans ((HD1.out.trans (hb1.mono HD1.out.size)).mono hVs)⟩
            | true =>
              rw [hval] at HVd
              have HNn := Lib.hid (vids_nonneg hval)
              clear hval
              go_wp2_with fail
              go_at_call 31
              refine HVd.out.mono ?_
              rintro e w1 ⟨rfl, hb1⟩
              have HBx1 := HBx.out.lift hb1
              clear b0 b1 b2 b3 b4 b5
              have b1 := HBx1.cell 1 _ rfl
              have b2 := HBx1.cell 2 _ rfl
              have b3 := HBx1.cell 3 _ rfl
              have b4 := HBx1.cell 4 _ rfl
              have b5 := HBx1.cell 5 _ rfl
              have HL1 := Lib.hid (fun Z => list_one (T := x.ty) Z (HR1.out.lift hb1))
              have hal : ∀ o, Below w1.heap.size w1 (w1.alloc o) := fun o => (Below.refl _ w1).alloc (Nat.le_refl _) o
              have HVr : Hid (∀ Z, Calls Try.prog 32 #[.slice (some ⟨w1.heap.size, 0, none⟩) 1 1] (w1.alloc (.cells #[.int .i64 k', .string nm', .int .i64 i', .int .i64 hm', .slice a' n' c'] Z)) fun e w' => ∃ v, e = .returned v ∧ Ints w' v (vids x.ty) ∧ Below w1.heap.size w1 w') := fun Z => (varR_row [x.ty] _ _ _ (by simp [nodesL]; have := HNd.out; omega) (HL1.out Z)).mono fun _ _ ⟨v, h1, h2, h3⟩ => ⟨v, h1, h2.ints, (hal _).trans (h3.mono (hal _).size)⟩
              go_wp2_with fail
              go_at_call 32
              refine (HVr.out _).mono ?_
              rintro e w2 ⟨v, rfl, hint, hb2⟩
              have HD2 := Lib.hid (HD1.out.trans ((hb1.trans (hb2.mono hb1.size)).mono HD1.out.size))
              obtain ⟨va, vc, rfl, hvc1, hvc2, hvj⟩ := hint
              have HVj := Lib.hid hvj
              obtain ⟨ids, hids⟩ : ∃ l, l = vids x.ty := ⟨_, rfl⟩
              rw [← hids] at HVj hvc1 HNn HMt ⊢
              obtain ⟨vn, hvn⟩ : ∃ n, n = ids.length := ⟨_, rfl⟩
              rw [← hvn] at hvc1 ⊢
              have HVn := Lib.hid hvn
              unfold maxLen at hvc2
              clear hids hvn hvj hb1 hb2 HBx1 b1 b2 b3 b4 b5 HL1 HVr hal HVd
              go_wp2
              generalize wr = wq at *
              go_loopw [7] (fun y wy => ∃ k : Nat, k ≤ vn ∧ y = .int .i64 k ∧ Hid (∀ v ∈ ids.take k, v < (n : Int)) ∧ Hid (Below w2.heap.size w2 wy)) (fun y _ => vn - (intOf y).toNat)
              case atStart => exact ⟨0, Nat.zero_le _, rfl, fun v hv => by simp at hv, Below.refl _ _⟩
              case round =>
                obtain ⟨k, hk, rfl, HA2, HDk⟩ := hrel
                have hD3 := HD2.out.trans (HDk.out.mono HD2.out.size)
                have c0 := (HB.out.lift hD3).cell 0 _ rfl
                by_cases hlt3 : k < vn
                · have hki : (k : Int) < (vn : Int) := by omega
                  obtain ⟨u, hu⟩ : ∃ u, ids[k]? = some u := ⟨_, List.getElem?_eq_getElem (by rw [← HVn.out]; exact hlt3)⟩
                  obtain ⟨vad, rfl, hvk⟩ := HVj.out k u hu
                  have hvk2 := (HDk.out.cell (World.block_lt_of_cell? _ _ hvk)).trans hvk
                  have HMu := Lib.hid (mem_take_succ hu (p := fun v => v < (n : Int)) HA2.out)
                  have HQ : Hid (∀ q, Below w2.heap.size w2 (wr.drewN q)) := fun q => HDk.out.trans ⟨rfl, rfl, rfl, Nat.le_refl _, fun _ _ => rfl⟩
                  clear hu hvk
                  by_cases hun : u < (n : Int)
                  · go_upto_region 19 with fail
                    go_quiet (fail)
                    have HMv := Lib.hid (HMu.out hun)
                    clear c0 hvk2
                    go_wp2
                    go_roundw
                    case rel => exact ⟨k + 1, hlt3, by go_num, HMv, HQ.out _⟩
                    case measure => simp [intOf]; omega
                  · have hun2 : (n : Int) ≤ u := by omega
                    go_upto_region 19 with fail
                    go_quiet (fail)
                    go_wp2
                    go_ret
                    exact ⟨⟨false, rfl⟩, HVb.out.trans ((HD2.out.trans ((HQ.out _).mono HD2.out.size)).mono hVs)⟩
                · have HMt2 := Lib.hid (HMt.out (fun _ => ⟨by have := HNd.out; omega, fun v hv => ⟨HNn.out v hv, HA2.out v (by rw [List.take_of_length_le (by rw [← HVn.out]; omega)]; exact hv)⟩⟩))
                  go_wp2
                  go_roundw
                  case rel => exact ⟨j + 1, hlt2, by go_num, HMt2, hD3⟩
                  case measure => simp [intOf]; omega
        · have HVi : Hid (VarsIn s.slots) := by
            intro x hx hb
            have := HA.out x (by rw [List.take_of_length_le (by rw [← HN.out]; omega)]; exact hx) hb
            rwa [HN.out] at this
          have hmk := run_makeI n (by omega)
          go_wp2
          clear c0 HA
          generalize wr = wp at *
          go_loopw [8] (fun y wy => ∃ k : Nat, k ≤ n ∧ y = .int .i64 k ∧ Hid (Below V.heap.size V wy)) (fun y _ => n - (intOf y).toNat)
          case atStart => exact ⟨0, Nat.zero_le _, rfl, HD⟩
          case round =>
            clear HD
            obtain ⟨k, hk, rfl, HD⟩ := hrel
            have c0 := (HB.out.lift HD.out).cell 0 _ rfl
            have c1 := (HB.out.lift HD.out).cell 1 _ rfl
            by_cases hlt3 : k < n
            · have hki : (k : Int) < (n : Int) := by omega
              have HK : Hid (∀ W, Below V.heap.size V W → W.cell? ⟨w.heap.size, 0, none⟩ = some (.slice sa n sc) ∧ W.cell? ⟨w.heap.size, 1, none⟩ = some (.slice ta m tc)) := fun W hb => ⟨(HB.out.lift hb).cell 0 _ rfl, (HB.out.lift hb).cell 1 _ rfl⟩
              have HE0 : Hid (Below V.heap.size V wr.drew) := HD.out.trans ((Below.refl _ wr).drew.mono HD.out.size)
              have HE1 : Hid (Below V.heap.size V (wr.alloc (.cells (Array.replicate n (intV 0)) 3)).drew) := (HD.out.alloc HD.out.size _).drew
              have HCall : Hid (Calls Try.prog 33 #[.agg #[.slice sa n sc, .slice ta m tc], .int .i64 (k : Int), .slice (some ⟨wr.heap.size, 0, none⟩) n n, .int .i64 (k : Int)] (wr.alloc (.cells (Array.replicate n (intV 0)) 3)).drew fun e w' => RetB e ∧ Below V.heap.size V w') := by
                have hne : ∀ b, (S b ∧ b < V.heap.size) → b ≠ wr.heap.size := fun b hb => by have := HD.out.size; omega
                have := cyclic_any s.slots (by rw [← HN.out]; omega) HVi.out _ (List.replicate n 0) k sa sc ta m tc wr.heap.size (k : Int) (wr.alloc (.cells (Array.replicate n (intV 0)) 3)).drew (Nat.le_refl _) (by rw [List.length_replicate, HN.out]) (by rw [← HN.out]; exact hlt3) (by rw [← HN.out]; exact SlG.kept hne (fun _ _ _ => rfl) (HS.out.bound.up HE1.out)) (by unfold BoxC; rw [show ((List.replicate n (0 : Int)).map intV).toArray = Array.replicate n (intV 0) from by simp]; exact heap_alloc_new wr _)
                rw [← HN.out] at this
                refine this.mono ?_
                rintro e w' ⟨b, zs', h1, -, -, -, h2⟩
                exact ⟨⟨b, h1⟩, Below.grown HE1.out h2 HE1.out.size (fun q hq => by cases hq; exact HD.out.size)⟩
              go_upto_region 24 with fail
              clear c0 c1
              go_region_held3 (fun W' => W'.cell? ⟨w.heap.size, 0, none⟩ = some (.slice sa n sc) ∧ W'.cell? ⟨w.heap.size, 1, none⟩ = some (.slice ta m tc))
                (first
                  | with_reducible exact HK.out y1 HE2.out
                  | with_reducible exact HK.out wr.drew HE0.out
                  | with_reducible exact HK.out _ HE1.out)
                (first
                  | (go_at_call 33; (with_reducible refine HCall.out.mono ?_); rintro e y1 ⟨⟨b, rfl⟩, hb⟩; have HE2 := Lib.hid hb; clear hb))
              all_goals
                cases b
                · go_wp2
                  go_roundw
                  case rel => exact ⟨k + 1, hlt3, by go_num, HE2⟩
                  case measure => simp [intOf]; omega
                · go_wp2
                  go_ret
                  exact ⟨⟨false, rfl⟩, HVb.out.trans (HE2.out.mono hVs)⟩
            · go_wp2
              go_ret
              exact ⟨⟨true, rfl⟩, HVb.out.trans (HD.out.mono hVs)⟩
end Go.Proofs.Ytejlhfjhpminjaa
