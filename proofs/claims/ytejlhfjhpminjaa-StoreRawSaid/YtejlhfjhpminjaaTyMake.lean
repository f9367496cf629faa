/- The contracts of the maker's small functions: Mod, Few, Next, SmallType, ValidType. -/
import Derived.Test.YtejlhfjhpminjaaTyVal3
import Derived.Test.YtejlhfjhpminjaaTyInts
import Derived.Test.YtejlhfjhpminjaaTyNk
namespace Go.Proofs.Ytejlhfjhpminjaa
open Go.RowKit Go.Sort Go.Shelf Go.Maps Mth

theorem mod_any (a n : Int) (w : World) (h1 : 1 ≤ n) (h2 : n ≤ 1000001) :
    Calls Try.prog 6 #[.int .i64 a, .int .i64 n] w fun e w' => e = .returned (.int .i64 (a % n)) ∧ w = w' := by
  have e1 := Int.emod_nonneg a (b := n) (by omega)
  have e2 := Int.emod_lt_of_pos a (b := n) (by omega)
  have HT : Hid ((a.tmod n = a % n) ∨ (a.tmod n = a % n - n ∧ a % n ≠ 0)) := by
    show _ ∨ _
    rw [Int.tmod_eq_emod]
    by_cases hc : 0 ≤ a ∨ n ∣ a
    · left; simp only [hc, if_true]; omega
    · right
      simp only [hc, if_false]
      refine ⟨by omega, fun h => hc (.inr (Int.dvd_of_emod_eq_zero h))⟩
  have hb : -n < a.tmod n ∧ a.tmod n < n := by rcases HT.out with h | ⟨h, h'⟩ <;> omega
  have HE : Hid (a % n = if a.tmod n < 0 then a.tmod n + n else a.tmod n) := by
    show a % n = _
    rcases HT.out with h | ⟨h, h'⟩
    · rw [if_neg (by omega)]; omega
    · rw [if_pos (by omega)]; omega
  clear HT e1 e2
  obtain ⟨hb1, hb2⟩ := hb
  go_enter Try.func6, Try.ntmps6
  go_wp2
  all_goals
    go_ret
    refine ⟨ret_int ?_, rfl⟩
    rw [HE.out]
  · rw [if_pos (by assumption)]
  · rw [if_neg (by omega)]

theorem below_grown_some {w w' : World} (h : Below w.heap.size w w') (b : Nat) : w.grownBy w' (some b) := grown_of_below h _
end Go.Proofs.Ytejlhfjhpminjaa
