/- The walk of the law TextOffsets. -/
import Derived.Test.YtfhgmbfdhffidaaDoorOff
namespace Go.Proofs.YtfhgmbfdhffidaaDoor.textOffsets
open Go.RowKit Mth

set_option maxHeartbeats 800000 in
theorem walk (s : ByteArray) (a b : Int) (w : World) (hm : s.size ≤ maxLen) (ht : Tab w) :
    Calls Tryd.prog 4 #[.string s, .int .i64 a, .int .i64 b] w fun e w' => e = .returned (.bool true) ∧ Below w.heap.size w w' := by
  unfold maxLen at hm
  by_cases hbig : 100 < s.size
  · go_enter Tryd.func4, Tryd.ntmps4
    go_wp2_with (go_at_call 9; refine (first_any _ ht).mono ?_; rintro e w1 ⟨rfl, hb1⟩)
    go_ret
    exact ⟨rfl, hb1⟩
  · obtain ⟨o1, k1, A1, B1⟩ := offset_both s a b (by omega)
    obtain ⟨o2, k2, A2, B2⟩ := offset_both s (a % 5) (b % 9) (by omega)
    have HA1 := Lib.hid A1
    have HB1 := Lib.hid B1
    have HA2 := Lib.hid A2
    have HB2 := Lib.hid B2
    clear A1 B1 A2 B2
    go_enter Tryd.func4, Tryd.ntmps4
    go_wp2_with fail
    go_at_call 9
    refine (first_any _ ht).mono ?_
    rintro e w1 ⟨rfl, hb1⟩
    go_wp2_with fail
    go_at_call 13
    refine (HA1.out _).mono ?_
    rintro e w2 ⟨rfl, hb2⟩
    go_wp2_with fail
    go_at_call 14
    refine (HB1.out _).mono ?_
    rintro e w' ⟨rfl, rfl⟩
    go_wp2_with (first
      | (go_at_call 12; refine (mod_any _ _ _ (by omega) (by omega)).mono ?_; rintro e w' ⟨rfl, rfl⟩)
      | (go_at_call 13; refine (HA2.out _).mono ?_; rintro e w3 ⟨rfl, hb3⟩)
      | (go_at_call 14; refine (HB2.out _).mono ?_; rintro e w' ⟨rfl, rfl⟩))
    go_ret
    exact ⟨rfl, (hb1.trans (hb2.mono hb1.size)).trans (hb3.mono (Nat.le_trans hb1.size hb2.size))⟩
end Go.Proofs.YtfhgmbfdhffidaaDoor.textOffsets
