import Derived.Test.YtljgpgmaceackaaQX33
import Derived.Test.YtljgpgmaceackaaQX35
/- The law's scan and words; the reference's Starts. -/
namespace Go.Proofs.Ytljgpgmaceackaa
open Go.RowKit Go.Maps Mth

theorem rstarts6_any (k : Int) (x : ByteArray) (p : Int) (w : World) :
    Calls Try.prog 68 #[.agg #[.int .i64 k, .string x, .int .i64 p]] w fun e w' => e = .returned (.bool (stB k x)) ∧ Below w.heap.size w w' := by
  have hb : Below w.heap.size w (w.alloc (.cells #[.int .i64 k, .string x, .int .i64 p] 113)) := (Below.refl _ w).alloc (Nat.le_refl _) _
  have HB := Lib.hid hb
  clear hb
  unfold stB
  cases h1 : (k == 1)
  rotate_left
  ·
    go_enter Try.func68, Try.ntmps68
    go_wp2
    go_ret
    exact ⟨rfl, HB.out⟩
  cases h2 : (k == 2)
  rotate_left
  ·
    go_enter Try.func68, Try.ntmps68
    go_wp2
    go_ret
    exact ⟨rfl, HB.out⟩
  cases h3 : (k == 3)
  rotate_left
  ·
    go_enter Try.func68, Try.ntmps68
    go_wp2
    go_ret
    exact ⟨rfl, HB.out⟩
  cases h5 : (k == 5)
  ·
    go_enter Try.func68, Try.ntmps68
    go_wp2
    go_ret
    exact ⟨rfl, HB.out⟩
  rw [show (⟨#[63]⟩ : ByteArray).toList = [63] from by decide +kernel, show (⟨#[40]⟩ : ByteArray).toList = [40] from by decide +kernel, show (⟨#[123]⟩ : ByteArray).toList = [123] from by decide +kernel]
  cases h6 : (x.toList == [63]) <;> cases h7 : (x.toList == [40]) <;> cases h8 : (x.toList == [123])
  all_goals
    go_enter Try.func68, Try.ntmps68
    go_wp2
    go_ret
    exact ⟨rfl, HB.out⟩
end Go.Proofs.Ytljgpgmaceackaa
