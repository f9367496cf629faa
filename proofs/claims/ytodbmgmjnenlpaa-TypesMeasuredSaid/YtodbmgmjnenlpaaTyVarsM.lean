/- The contract of the maker's Vars. -/
import Derived.Test.YtodbmgmjnenlpaaTyDatas
namespace Go.Proofs.Ytodbmgmjnenlpaa
open Go.RowKit Go.Sort Go.Shelf Go.Maps Mth

def varTy (i : Nat) : Ty := .mk 1 ⟨#[]⟩ i 0 []
set_option maxHeartbeats 1600000 in
theorem mkVars_any (n : Nat) (hn : n ≤ 1000) (w : World) : Calls Try.prog 46 #[.int .i64 n] w fun e w' => ∃ v, e = .returned v ∧ RowG TyE w' w.heap.size (fun c => w.heap.size ≤ c) v ((List.range n).map varTy) ∧ Below w.heap.size w w' := by
  go_enter Try.func46, Try.ntmps46
  go_wp2
  go_loopw [3, 4] (fun y x wr => ∃ j : Nat, j ≤ n ∧ x = .int .i64 j ∧ Hid (RowG TyE wr w.heap.size (fun c => w.heap.size ≤ c) y ((List.range j).map varTy)) ∧ Below w.heap.size w wr) (fun _ x _ => n - (intOf x).toNat)
  case atStart => exact ⟨0, Nat.zero_le _, rfl, rowG_nil _ _ _ _, Below.refl _ _⟩
  case round =>
    obtain ⟨j, hj, rfl, HRow, hb⟩ := hrel
    by_cases hlt : j < n
    · have HV := Lib.hid (refVar_any (j : Int) wr)
      have hji : (j : Int) < (n : Int) := by omega
      go_wp2_with fail
      go_at_call 39
      refine HV.out.mono ?_
      rintro e w1 ⟨rfl, hb1⟩
      have HRow1 := Lib.hid (HRow.out.lift hb1)
      have hbw := hb.trans (hb1.mono hb.size)
      have HN : Hid (∀ X Z, (w1.alloc (.cells X Z)).heap[w1.heap.size]? = some (.cells X Z (0, 0))) := fun X Z => heap_alloc_new w1 _
      have HB : Hid (∀ X, Below w1.heap.size w1 (w1.alloc X)) := fun X => (Below.refl _ w1).alloc (Nat.le_refl _) X
      have HRowA := Lib.hid (fun X => HRow1.out.lift (HB.out X))
      have hsz : w.heap.size ≤ w1.heap.size := hbw.size
      have HLow : Hid (∀ k, u3.ownBlock = some k → w.heap.size ≤ k) := fun k hk => (RowG.lt HRow.out k hk).1
      have HE : Hid (∀ W S, TyE.rep W S (varTy j) [.int .i64 1, .string ⟨#[]⟩, .int .i64 j, .int .i64 0, .slice none 0 0]) := fun W S => rep_leaf W S 1 ⟨#[]⟩ j 0 (Nat.zero_le _)
      clear hb1 HV HRow HRow1
      unfold leafV
      go_wp2_with (at_builtin; refine wpList_pushG TyE rfl _ _ rfl w.heap.size (fun c => w.heap.size ≤ c) u3 _ rfl (HRowA.out _) w1.heap.size _ [.int .i64 1, .string ⟨#[]⟩, .int .i64 j, .int .i64 0, .slice none 0 0] (HN.out _ _) rfl (varTy j) (HE.out _ _) (j + 1) (by simp) (by omega) (Nat.le_trans hsz (HB.out _).size) ?_; intro a3 c3 w3 hrow3 hg3; have HRow3 := Lib.hid hrow3; have hb3 := Below.grown (hbw.trans ((HB.out _).mono hsz)) hg3 (Nat.le_trans hsz (HB.out _).size) HLow.out; clear hrow3 hg3)
      have HRow4 : Hid (RowG TyE w3 w.heap.size (fun c => w.heap.size ≤ c) (.slice a3 (j + 1) c3) ((List.range (j + 1)).map varTy)) := by
        show RowG _ _ _ _ _ _
        rw [List.range_succ, List.map_append]
        exact HRow3.out
      go_roundw
      case rel => exact ⟨j + 1, hlt, by go_num, HRow4, hb3⟩
      case measure => simp [intOf]; omega
    · obtain rfl : n = j := by omega
      go_wp2
      go_ret
      exact ⟨_, rfl, HRow.out, hb⟩
end Go.Proofs.Ytodbmgmjnenlpaa
