/- The walk of the law TextLines. -/
import Derived.Test.YtfhgmbfdhffidaaDoorOff
namespace Go.Proofs.YtfhgmbfdhffidaaDoor.textLines
open Go.RowKit Mth

set_option maxHeartbeats 800000 in
theorem walk (s : ByteArray) (w : World) (hm : s.size ≤ maxLen) (ht : Tab w) :
    Calls Tryd.prog 6 #[.string s] w fun e w' => e = .returned (.bool true) ∧ Below w.heap.size w w' := by
  unfold maxLen at hm
  by_cases hbig : 300 < s.size
  · go_enter Tryd.func6, Tryd.ntmps6
    go_wp2_with (go_at_call 9; refine (first_any _ ht).mono ?_; rintro e w1 ⟨rfl, hb1⟩)
    go_ret
    exact ⟨rfl, hb1⟩
  · have hl : s.data.toList.length = s.size := by simp
    have hn : (lines s.data.toList).length ≤ s.size + 1 := by unfold lines; have := full_len s.data.toList; simp at this ⊢; omega
    have hn0 : 0 < (lines s.data.toList).length := by simp [lines]
    have HL := Lib.hid hl
    clear hl
    go_enter Tryd.func6, Tryd.ntmps6
    go_wp2_with fail
    go_at_call 9
    refine (first_any _ ht).mono ?_
    rintro e w1 ⟨rfl, hb1⟩
    go_wp2_with fail
    go_at_call 15
    refine (lines_cells s _ (by omega)).mono ?_
    rintro e w2 ⟨g, cap, rfl, hcells, hb2⟩
    have HC := Lib.hid hcells
    clear hcells
    go_wp2
    go_loop [4] (fun i => ∃ j : Nat, j ≤ (lines s.data.toList).length ∧ i = .int .i64 j) (fun i => (lines s.data.toList).length - (intOf i).toNat)
    case atStart => exact ⟨0, Nat.zero_le _, rfl⟩
    case round =>
      obtain ⟨j, hj, rfl⟩ := hrel
      by_cases hlt : j < (lines s.data.toList).length
      · obtain ⟨x, hx⟩ := some_at hlt
        have hcj := HC.out j x hx
        unfold str at hcj
        have hxb := off_bound hx
        rw [HL.out] at hxb
        have HF := Lib.hid (line_free hx)
        have hxl : x.length ≤ 1000000 := by omega
        clear hx hxb
        have hjl : (j : Int) < ((lines s.data.toList).length : Int) := by omega
        go_wp2
        go_loop [5] (fun i => ∃ k : Nat, k ≤ x.length ∧ i = .int .i64 k) (fun i => x.length - (intOf i).toNat)
        case atStart => exact ⟨0, Nat.zero_le _, rfl⟩
        case round =>
          obtain ⟨k, hk, rfl⟩ := hrel
          by_cases hkl : k < x.length
          · have hne : ¬ ((x[k].toNat : Nat) : Int) = 10 := fun h => HF.out (by rw [← (byte_ten _).2 h]; exact List.getElem_mem hkl)
            have hkx : k < (⟨x.toArray⟩ : ByteArray).size := by show k < x.toArray.size; simpa using hkl
            have hne' : ¬ (((⟨x.toArray⟩ : ByteArray)[k].toNat : Nat) : Int) = 10 := hne
            clear hne
            go_wp2
            go_round
            case rel => exact ⟨k + 1, by omega, by go_num⟩
            case measure => simp [intOf]; omega
          · go_wp2
            go_round
            case rel => exact ⟨j + 1, by omega, by go_num⟩
            case measure => simp [intOf]; omega
      · obtain rfl : j = (lines s.data.toList).length := by omega
        go_wp2_with (go_at_call 16; refine (join_lines s g cap _ (by omega) HC.out).mono ?_; rintro e w' ⟨rfl, rfl⟩)
        go_ret
        exact ⟨rfl, hb1.trans (hb2.mono hb1.size)⟩
end Go.Proofs.YtfhgmbfdhffidaaDoor.textLines
