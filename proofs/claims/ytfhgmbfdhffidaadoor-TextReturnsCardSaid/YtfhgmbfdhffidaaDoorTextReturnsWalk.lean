/- The walk of the law TextReturns. -/
import Derived.Test.YtfhgmbfdhffidaaDoorOff
namespace Go.Proofs.YtfhgmbfdhffidaaDoor.textReturns
open Go.RowKit Mth

set_option maxHeartbeats 800000 in
theorem walk (s : ByteArray) (p : Int) (w : World) (hm : s.size ≤ maxLen) (ht : Tab w) :
    Calls Tryd.prog 5 #[.string s, .int .i64 p] w fun e w' => e = .returned (.bool true) ∧ Below w.heap.size w w' := by
  unfold maxLen at hm
  by_cases hbig : 300 < s.size
  · go_enter Tryd.func5, Tryd.ntmps5
    go_wp2_with (go_at_call 9; refine (first_any _ ht).mono ?_; rintro e w1 ⟨rfl, hb1⟩)
    go_ret
    exact ⟨rfl, hb1⟩
  · obtain ⟨K, hK⟩ : ∃ K : Nat, p % ((s.size : Int) + 1) = K := ⟨(p % ((s.size : Int) + 1)).toNat, by have := Int.emod_nonneg p (b := (s.size : Int) + 1) (by omega); omega⟩
    have hK1 : K ≤ s.size := by have := Int.emod_lt_of_pos p (b := (s.size : Int) + 1) (by omega); omega
    have HK : Hid (∀ w, Calls Tryd.prog 12 #[.int .i64 p, .int .i64 ((s.size : Int) + 1)] w fun e w' => e = .returned (.int .i64 K) ∧ w = w') := fun w => by
      have h := mod_any p ((s.size : Int) + 1) w (by omega) (by omega)
      rwa [hK] at h
    clear hK
    go_enter Tryd.func5, Tryd.ntmps5
    go_wp2_with (first
      | (go_at_call 9; refine (first_any _ ht).mono ?_; rintro e w1 ⟨rfl, hb1⟩)
      | (go_at_call 12; refine (HK.out _).mono ?_; rintro e w' ⟨rfl, rfl⟩)
      | (go_at_call 10; refine (place_at s K _ (by omega) hK1).mono ?_; rintro e w' ⟨rfl, rfl⟩)
      | (go_at_call 13; refine (offset_place s K _ (by omega) hK1).mono ?_; rintro e w2 ⟨rfl, hb2⟩))
    go_ret
    exact ⟨rfl, hb1.trans (hb2.mono hb1.size)⟩
end Go.Proofs.YtfhgmbfdhffidaaDoor.textReturns
