import Derived.Test.YtgfjcpeeoapjlaaQV11
import Derived.Test.YtgfjcpeeoapjlaaQV12
/- The law's scan and words; the reference's Starts. -/
namespace Go.Proofs.Ytgfjcpeeoapjlaa
open Go.RowKit Go.Maps Mth

def wordL6 : List ByteArray := [⟨#[120]⟩, ⟨#[102]⟩, ⟨#[67, 111, 110, 115]⟩, ⟨#[78, 105, 108]⟩, ⟨#[51]⟩, ⟨#[92]⟩, ⟨#[46]⟩, ⟨#[108, 101, 116]⟩, ⟨#[114, 101, 99]⟩, ⟨#[61]⟩, ⟨#[105, 110]⟩, ⟨#[99, 97, 115, 101]⟩, ⟨#[111, 102]⟩, ⟨#[124]⟩, ⟨#[101, 110, 100]⟩, ⟨#[40]⟩, ⟨#[41]⟩, ⟨#[123]⟩, ⟨#[125]⟩, ⟨#[63]⟩, ⟨#[58]⟩, ⟨#[73, 110, 116]⟩, ⟨#[45, 62]⟩, ⟨#[59]⟩, ⟨#[92, 32, 120, 32, 46]⟩, ⟨#[108, 101, 116, 32, 120, 32, 61]⟩, ⟨#[99, 97, 115, 101, 32, 120, 32, 111, 102]⟩, ⟨#[78, 105, 108, 32, 46]⟩]
theorem wordL6_at {V : World} {B : Nat} {Z : TypeId} (h : V.heap[B]? = some (.cells #[.string ⟨#[120]⟩, .string ⟨#[102]⟩, .string ⟨#[67, 111, 110, 115]⟩, .string ⟨#[78, 105, 108]⟩, .string ⟨#[51]⟩, .string ⟨#[92]⟩, .string ⟨#[46]⟩, .string ⟨#[108, 101, 116]⟩, .string ⟨#[114, 101, 99]⟩, .string ⟨#[61]⟩, .string ⟨#[105, 110]⟩, .string ⟨#[99, 97, 115, 101]⟩, .string ⟨#[111, 102]⟩, .string ⟨#[124]⟩, .string ⟨#[101, 110, 100]⟩, .string ⟨#[40]⟩, .string ⟨#[41]⟩, .string ⟨#[123]⟩, .string ⟨#[125]⟩, .string ⟨#[63]⟩, .string ⟨#[58]⟩, .string ⟨#[73, 110, 116]⟩, .string ⟨#[45, 62]⟩, .string ⟨#[59]⟩, .string ⟨#[92, 32, 120, 32, 46]⟩, .string ⟨#[108, 101, 116, 32, 120, 32, 61]⟩, .string ⟨#[99, 97, 115, 101, 32, 120, 32, 111, 102]⟩, .string ⟨#[78, 105, 108, 32, 46]⟩] Z (0, 0))) (m : Nat) (hm : m < 28) :
    ∃ x : ByteArray, x.size ≤ 9 ∧ V.cell? ⟨B, m, none⟩ = some (.string x) := by
  have hc : m = 0 ∨ m = 1 ∨ m = 2 ∨ m = 3 ∨ m = 4 ∨ m = 5 ∨ m = 6 ∨ m = 7 ∨ m = 8 ∨ m = 9 ∨ m = 10 ∨ m = 11 ∨ m = 12 ∨ m = 13 ∨ m = 14 ∨ m = 15 ∨ m = 16 ∨ m = 17 ∨ m = 18 ∨ m = 19 ∨ m = 20 ∨ m = 21 ∨ m = 22 ∨ m = 23 ∨ m = 24 ∨ m = 25 ∨ m = 26 ∨ m = 27 := by omega
  rcases hc with rfl | rfl | rfl | rfl | rfl | rfl | rfl | rfl | rfl | rfl | rfl | rfl | rfl | rfl | rfl | rfl | rfl | rfl | rfl | rfl | rfl | rfl | rfl | rfl | rfl | rfl | rfl | rfl
  all_goals
    refine ⟨_, ?_, (by simp only [World.cell?, h]; rfl)⟩
    decide
theorem rstarts6_any (k : Int) (x : ByteArray) (p : Int) (w : World) :
    Calls Try.prog 73 #[.agg #[.int .i64 k, .string x, .int .i64 p]] w fun e w' => e = .returned (.bool (stB k x)) ∧ Below w.heap.size w w' := by
  have hb : Below w.heap.size w (w.alloc (.cells #[.int .i64 k, .string x, .int .i64 p] 117)) := (Below.refl _ w).alloc (Nat.le_refl _) _
  have HB := Lib.hid hb
  clear hb
  unfold stB
  cases h1 : (k == 1)
  rotate_left
  ·
    go_enter Try.func73, Try.ntmps73
    go_wp2
    go_ret
    exact ⟨rfl, HB.out⟩
  cases h2 : (k == 2)
  rotate_left
  ·
    go_enter Try.func73, Try.ntmps73
    go_wp2
    go_ret
    exact ⟨rfl, HB.out⟩
  cases h3 : (k == 3)
  rotate_left
  ·
    go_enter Try.func73, Try.ntmps73
    go_wp2
    go_ret
    exact ⟨rfl, HB.out⟩
  cases h5 : (k == 5)
  ·
    go_enter Try.func73, Try.ntmps73
    go_wp2
    go_ret
    exact ⟨rfl, HB.out⟩
  rw [show (⟨#[63]⟩ : ByteArray).toList = [63] from by decide +kernel, show (⟨#[40]⟩ : ByteArray).toList = [40] from by decide +kernel, show (⟨#[123]⟩ : ByteArray).toList = [123] from by decide +kernel]
  cases h6 : (x.toList == [63]) <;> cases h7 : (x.toList == [40]) <;> cases h8 : (x.toList == [123])
  all_goals
    go_enter Try.func73, Try.ntmps73
    go_wp2
    go_ret
    exact ⟨rfl, HB.out⟩
end Go.Proofs.Ytgfjcpeeoapjlaa
