/- The law StoreRaw returns true at every input. -/
import Derived.Test.YtejlhfjhpminjaaStFi
import Derived.Test.YtejlhfjhpminjaaStVa
import Derived.Test.YtejlhfjhpminjaaStSn
import Derived.Test.YtejlhfjhpminjaaTyMake
namespace Go.Proofs.Ytejlhfjhpminjaa
open Go.RowKit Go.Sort Go.Shelf Go.Maps Mth

set_option maxRecDepth 100000 in
set_option maxHeartbeats 20000000 in
theorem storeRaw_any (raw : Sto) (v : Value) (mark : Int) (w : World) (hr : StoR w (fun _ => True) raw v) :
    Calls Try.prog 4 #[v, .int .i64 mark] w fun e w' => e = .returned (.bool true) ∧ RowKit.Below w.heap.size w w' := by
  have HAl : Hid (∀ (w : World) (o : Obj), RowKit.Below w.heap.size w (w.alloc o)) := fun w o => (Below.refl _ w).alloc (Nat.le_refl _) o
  have HFi := Lib.hid (fun w => first16_any w)
  have HSto := Lib.hid hr
  have HFw : Hid (∀ W, Below w.heap.size w W → Calls Try.prog 14 #[v] W fun e w' => ∃ b, e = .returned (.bool b) ∧ (b = true → FewS raw) ∧ Below W.heap.size W w') := fun W hb => few16_any raw v _ W (hr.lift hb)
  have HVd : Hid (FewS raw → ∀ W, Below w.heap.size w W → Calls Try.prog 15 #[v] W fun e w' => RetB e ∧ Below W.heap.size W w') := fun hf W hb => valid16_any raw v _ W hf (hr.lift hb)
  have HRb : Hid (FewS raw → ∀ mk W, Below w.heap.size w W → Calls Try.prog 16 #[v, .int .i64 mk] W _) := fun hf mk W hb => rollback_any raw mk v _ W (by have := hf.1; omega) (by have := hf.2.1; omega) (hr.lift hb)
  have HSm : Hid (FewS raw → ∀ u W, Below w.heap.size w W → StoR W (fun _ => True) raw u → Calls Try.prog 17 #[u, v] W fun e w' => e = .returned (.bool true) ∧ Below W.heap.size W w') := fun hf u W hb hu => same16_any raw u v _ W hu (hr.lift hb) (by have := hf.1; omega) (by have := hf.2.1; omega)
  obtain ⟨sa, sc, ta, tc, rfl, -, -⟩ := hr
  obtain ⟨n, hn⟩ : ∃ n, n = raw.slots.length := ⟨_, rfl⟩
  obtain ⟨m, hm⟩ : ∃ n, n = raw.trail.length := ⟨_, rfl⟩
  rw [← hn] at HSto HFw HVd HRb HSm ⊢
  rw [← hm] at HSto HFw HVd HRb HSm ⊢
  have HM := Lib.hid hm
  obtain ⟨V, hV⟩ : ∃ V, V = w.alloc (.cells #[.slice sa n sc, .slice ta m tc] 27) := ⟨_, rfl⟩
  have hVb : Below w.heap.size w V := by rw [hV]; exact (Below.refl _ w).alloc (Nat.le_refl _) _
  have hB1 : BoxC 27 V w.heap.size [.slice sa n sc, .slice ta m tc] := by rw [hV]; exact BoxC.made _ w _
  have HB := Lib.hid hB1
  have HVb := Lib.hid hVb
  clear hB1 hn hm
  go_enter Try.func4, Try.ntmps4
  go_upto_region 1 with fail
  rw [← hV]
  clear hV
  go_wp2_with fail
  go_at_call 5
  refine (HFi.out V).mono ?_
  rintro e w1 ⟨rfl, hb1⟩
  have hw1 := hVb.trans (hb1.mono hVb.size)
  have c0 := (HB.out.lift hb1).cell 0 _ rfl
  have c1 := (HB.out.lift hb1).cell 1 _ rfl
  go_wp2_with fail
  go_at_call 14
  refine (HFw.out w1 hw1).mono ?_
  rintro e w2 ⟨b, rfl, hb, hb2⟩
  clear c0 c1
  cases b with
  | false =>
    go_wp2
    go_ret
    exact ⟨rfl, hw1.trans (hb2.mono hw1.size)⟩
  | true =>
    have HF := Lib.hid (hb rfl)
    clear hb
    have hw2 := hw1.trans (hb2.mono hw1.size)
    have hB2 := (HB.out.lift hb1).lift hb2
    have c0 := hB2.cell 0 _ rfl
    have c1 := hB2.cell 1 _ rfl
    have HB2 := Lib.hid hB2
    clear hB2
    go_wp2_with fail
    go_at_call 15
    refine (HVd.out HF.out w2 hw2).mono ?_
    rintro e w3 ⟨⟨b, rfl⟩, hb3⟩
    clear c0 c1
    have hw3 := hw2.trans (hb3.mono hw2.size)
    cases b with
    | false =>
      go_wp2
      go_ret
      exact ⟨rfl, hw3⟩
    | true =>
      have hm6 : m ≤ 6 := by have := HF.out.2.1; rw [HM.out]; exact this
      have hm6i : (m : Int) ≤ 6 := by omega
      have HMd : Hid (∀ W, Calls Try.prog 6 #[.int .i64 mark, .int .i64 ((m : Int) + 2)] W fun e w' => e = .returned (.int .i64 (mark % ((m : Int) + 2))) ∧ W = w') := fun W => mod_any mark ((m : Int) + 2) W (by omega) (by omega)
      have hz0 := Int.emod_nonneg mark (b := (m : Int) + 2) (by omega)
      have hz1 := Int.emod_lt_of_pos mark (b := (m : Int) + 2) (by omega)
      generalize mark % ((m : Int) + 2) = z at *
      have HB3 := Lib.hid (HB2.out.lift hb3)
      have c1 := HB3.out.cell 1 _ rfl
      clear hw1 hw2 hb1 hb2 hb3 HFi HFw HVd HB HB2
      go_wp2_with fail
      go_at_call 6
      refine (HMd.out _).mono ?_
      rintro e w4 ⟨rfl, rfl⟩
      clear c1
      have HArr : Hid (∀ j : Nat, j < 2 → ∃ mk : Int, (w3.alloc (.cells #[.int .i64 mark, .int .i64 (z - 1)] 3)).cell? ⟨w3.heap.size, j, none⟩ = some (.int .i64 mk)) := fun j hj => by
        have hb : BoxC 3 (w3.alloc (.cells #[.int .i64 mark, .int .i64 (z - 1)] 3)) w3.heap.size [.int .i64 mark, .int .i64 (z - 1)] := BoxC.made _ w3 _
        have : j = 0 ∨ j = 1 := by omega
        rcases this with rfl | rfl
        · exact ⟨_, hb.cell 0 _ rfl⟩
        · exact ⟨_, hb.cell 1 _ rfl⟩
      have hal := HAl.out w3 (.cells #[.int .i64 mark, .int .i64 (z - 1)] 3)
      have HB4 := Lib.hid (HB3.out.lift hal)
      have HL4 := Lib.hid (hw3.trans (hal.mono hw3.size))
      go_wp2
      clear HB3 hal hw3 hz0 hz1 HMd
      generalize (w3.alloc (.cells #[.int .i64 mark, .int .i64 (z - 1)] 3)) = X at *
      generalize w3.heap.size = b3 at *
      go_loopw [27] (fun y wr => ∃ j : Nat, j ≤ 2 ∧ y = .int .i64 j ∧ Hid (Below X.heap.size X wr)) (fun y _ => 2 - (intOf y).toNat)
      case atStart => exact ⟨0, by omega, rfl, Below.refl _ _⟩
      case round =>
        obtain ⟨j, hj, rfl, HD⟩ := hrel
        have hLs := HL4.out.size
        have hwr := HL4.out.trans (HD.out.mono hLs)
        have c0 := (HB4.out.lift HD.out).cell 0 _ rfl
        have c1 := (HB4.out.lift HD.out).cell 1 _ rfl
        by_cases hlt : j < 2
        · have hji : (j : Int) < 2 := by omega
          obtain ⟨mk, hmk0⟩ := HArr.out j hlt
          have hmk := (HD.out.cell (World.block_lt_of_cell? _ _ hmk0)).trans hmk0
          have HR := Lib.hid (HRb.out HF.out mk wr hwr)
          clear hmk0
          by_cases hin : 0 ≤ mk ∧ mk ≤ (m : Int)
          · have hd : (decide (0 ≤ mk) && decide (mk ≤ (m : Int))) = true := by simp; omega
            rw [hd, if_pos hin] at HR
            obtain ⟨q, hq⟩ : ∃ q : Nat, mk = (q : Int) := ⟨mk.toNat, by omega⟩
            subst hq
            have hlen : Hid ((stBack raw ((q : Int)).toNat).trail.length = q) := by
              show _ = _
              rw [Int.toNat_natCast]
              show (raw.trail.take q).length = q
              rw [List.length_take, ← HM.out]
              omega
            have hqm : (q : Int) ≤ (m : Int) := hin.2
            clear hd hin
            go_wp2_with fail
            go_at_call 16
            refine HR.out.mono ?_
            rintro e w5 ⟨u, rfl, hu, hb5⟩
            obtain ⟨xa, xc, ya, yc, rfl, -, -⟩ := hu
            rw [hlen.out]
            have hal5 := HAl.out w5 (.cells #[.slice xa (stBack raw ((q : Int)).toNat).slots.length xc, .slice ya q yc] 27)
            have HD5 := Lib.hid (HD.out.trans ((hb5.trans (hal5.mono hb5.size)).mono HD.out.size))
            have HBv : Hid (BoxC 27 (w5.alloc (.cells #[.slice xa (stBack raw ((q : Int)).toNat).slots.length xc, .slice ya q yc] 27)) w5.heap.size [.slice xa (stBack raw ((q : Int)).toNat).slots.length xc, .slice ya q yc]) := BoxC.made _ w5 _
            have HB5 := Lib.hid (HB4.out.lift HD5.out)
            clear hmk HR c0 c1 hb5 hal5 hlen
            generalize (stBack raw ((q : Int)).toNat).slots.length = sn at *
            go_upto_region 11 with fail
            generalize (w5.alloc (.cells #[.slice xa sn xc, .slice ya q yc] 27)) = w6 at *
            generalize w5.heap.size = b5 at *
            have c1 := HB5.out.cell 1 _ rfl
            have d1 := HBv.out.cell 1 _ rfl
            go_wp2
            go_roundw
            case rel => exact ⟨j + 1, hlt, by go_num, HD5⟩
            case measure => simp [intOf]; omega
          · have hd : (decide (0 ≤ mk) && decide (mk ≤ (m : Int))) = false := by
              by_cases h0 : 0 ≤ mk <;> simp [h0]
              omega
            rw [hd, if_neg hin] at HR
            have hor : (mk < 0 ∧ decide (0 ≤ mk) = false) ∨ (0 ≤ mk ∧ (m : Int) < mk) := by
              by_cases h0 : 0 ≤ mk
              · exact .inr (by omega)
              · exact .inl ⟨by omega, decide_eq_false h0⟩
            clear hd hin
            go_wp2_with fail
            go_at_call 16
            refine HR.out.mono ?_
            rintro e w5 ⟨u, rfl, hu, hb5⟩
            have hu0 : StoR w5 (fun _ => True) raw u := hu.imp fun _ _ => trivial
            have hu1 := Lib.hid hu0
            obtain ⟨xa, xc, ya, yc, rfl, -, -⟩ := hu
            rw [← HM.out] at hu1 ⊢
            have hal5 := HAl.out w5 (.cells #[.slice xa raw.slots.length xc, .slice ya m yc] 27)
            have HD5 := Lib.hid (HD.out.trans ((hb5.trans (hal5.mono hb5.size)).mono HD.out.size))
            have HBv : Hid (BoxC 27 (w5.alloc (.cells #[.slice xa raw.slots.length xc, .slice ya m yc] 27)) w5.heap.size [.slice xa raw.slots.length xc, .slice ya m yc]) := BoxC.made _ w5 _
            have HB5 := Lib.hid (HB4.out.lift HD5.out)
            have HSw := Lib.hid (HSm.out HF.out _ _ (HL4.out.trans (HD5.out.mono hLs)) (hu1.out.lift hal5))
            clear hmk HR c0 c1 hb5 hal5 hu0 hu1
            generalize raw.slots.length = sn at *
            go_upto_region 11 with fail
            generalize (w5.alloc (.cells #[.slice xa sn xc, .slice ya m yc] 27)) = w6 at *
            generalize w5.heap.size = b5 at *
            have c0 := HB5.out.cell 0 _ rfl
            have c1 := HB5.out.cell 1 _ rfl
            have d0 := HBv.out.cell 0 _ rfl
            have d1 := HBv.out.cell 1 _ rfl
            rcases hor with ⟨g1, g2⟩ | ⟨g1, g2⟩
            all_goals
              go_wp2_with (go_at_call 17; refine HSw.out.mono ?_; rintro e w7 ⟨rfl, hb7⟩)
              go_roundw
              case rel => exact ⟨j + 1, hlt, by go_num, HD5.out.trans (hb7.mono HD5.out.size)⟩
              case measure => simp [intOf]; omega
        · go_wp2
          go_ret
          exact ⟨rfl, hwr⟩
end Go.Proofs.Ytejlhfjhpminjaa
