/- The law's words: tokens of a text that it makes. -/
import Derived.Test.YtbbplpmjpadgiaaGreatDoorTyScn
namespace Go.Proofs.YtbbplpmjpadgiaaGreatDoor
open Go.RowKit Go.Maps Mth

def wordL : List ByteArray := [⟨#[97]⟩, ⟨#[98]⟩, ⟨#[73, 110, 116]⟩, ⟨#[76, 105, 115, 116]⟩, ⟨#[80, 97, 105, 114]⟩, ⟨#[40]⟩, ⟨#[41]⟩, ⟨#[45, 62]⟩, ⟨#[45, 62]⟩, ⟨#[40]⟩, ⟨#[41]⟩, ⟨#[108, 101, 116]⟩, ⟨#[46]⟩, ⟨#[58]⟩, ⟨#[49, 50]⟩, ⟨#[61]⟩, ⟨#[59]⟩]
theorem wordL_at {V : World} {B : Nat} {Z : TypeId} (h : V.heap[B]? = some (.cells #[.string ⟨#[97]⟩, .string ⟨#[98]⟩, .string ⟨#[73, 110, 116]⟩, .string ⟨#[76, 105, 115, 116]⟩, .string ⟨#[80, 97, 105, 114]⟩, .string ⟨#[40]⟩, .string ⟨#[41]⟩, .string ⟨#[45, 62]⟩, .string ⟨#[45, 62]⟩, .string ⟨#[40]⟩, .string ⟨#[41]⟩, .string ⟨#[108, 101, 116]⟩, .string ⟨#[46]⟩, .string ⟨#[58]⟩, .string ⟨#[49, 50]⟩, .string ⟨#[61]⟩, .string ⟨#[59]⟩] Z (0, 0))) (m : Nat) (hm : m < 17) :
    ∃ x : ByteArray, x.size ≤ 4 ∧ V.cell? ⟨B, m, none⟩ = some (.string x) := by
  have hc : m = 0 ∨ m = 1 ∨ m = 2 ∨ m = 3 ∨ m = 4 ∨ m = 5 ∨ m = 6 ∨ m = 7 ∨ m = 8 ∨ m = 9 ∨ m = 10 ∨ m = 11 ∨ m = 12 ∨ m = 13 ∨ m = 14 ∨ m = 15 ∨ m = 16 := by omega
  rcases hc with rfl | rfl | rfl | rfl | rfl | rfl | rfl | rfl | rfl | rfl | rfl | rfl | rfl | rfl | rfl | rfl | rfl
  all_goals
    refine ⟨_, ?_, (by simp only [World.cell?, h]; rfl)⟩
    decide
set_option maxRecDepth 100000 in
set_option maxHeartbeats 3200000 in
theorem words_any (v : Value) (zs : List Int) (w : World) (h : Ints w v zs) (hz : zs.length ≤ 40) :
    Calls Tryz.prog 17 #[v] w fun e w' => ∃ ts, ScanEnd w ts e w' ∧ TkOk ts ∧ TkVal ts := by
  obtain ⟨a, cap, rfl, hcap, hcap2, hj⟩ := h
  have HJ := Lib.hid hj
  clear hj
  obtain ⟨n, hn⟩ : ∃ n, n = zs.length := ⟨_, rfl⟩
  rw [← hn] at hz hcap ⊢
  have HNl := Lib.hid hn
  clear hn
  have hb0 : Below w.heap.size w (w.alloc (.cells #[.string ⟨#[97]⟩, .string ⟨#[98]⟩, .string ⟨#[73, 110, 116]⟩, .string ⟨#[76, 105, 115, 116]⟩, .string ⟨#[80, 97, 105, 114]⟩, .string ⟨#[40]⟩, .string ⟨#[41]⟩, .string ⟨#[45, 62]⟩, .string ⟨#[45, 62]⟩, .string ⟨#[40]⟩, .string ⟨#[41]⟩, .string ⟨#[108, 101, 116]⟩, .string ⟨#[46]⟩, .string ⟨#[58]⟩, .string ⟨#[49, 50]⟩, .string ⟨#[61]⟩, .string ⟨#[59]⟩] 9)) := (Below.refl _ w).alloc (Nat.le_refl _) _
  have HB0 := Lib.hid hb0
  have HW : Hid (∀ m, m < 17 → ∃ x : ByteArray, x.size ≤ 4 ∧ (w.alloc (.cells #[.string ⟨#[97]⟩, .string ⟨#[98]⟩, .string ⟨#[73, 110, 116]⟩, .string ⟨#[76, 105, 115, 116]⟩, .string ⟨#[80, 97, 105, 114]⟩, .string ⟨#[40]⟩, .string ⟨#[41]⟩, .string ⟨#[45, 62]⟩, .string ⟨#[45, 62]⟩, .string ⟨#[40]⟩, .string ⟨#[41]⟩, .string ⟨#[108, 101, 116]⟩, .string ⟨#[46]⟩, .string ⟨#[58]⟩, .string ⟨#[49, 50]⟩, .string ⟨#[61]⟩, .string ⟨#[59]⟩] 9)).cell? ⟨w.heap.size, m, none⟩ = some (.string x)) := fun m hm => wordL_at (heap_alloc_new w _) m hm
  clear hb0
  go_enter Tryz.func17, Tryz.ntmps17
  go_upto_region 2 with fail
  generalize (w.alloc (.cells #[.string ⟨#[97]⟩, .string ⟨#[98]⟩, .string ⟨#[73, 110, 116]⟩, .string ⟨#[76, 105, 115, 116]⟩, .string ⟨#[80, 97, 105, 114]⟩, .string ⟨#[40]⟩, .string ⟨#[41]⟩, .string ⟨#[45, 62]⟩, .string ⟨#[45, 62]⟩, .string ⟨#[40]⟩, .string ⟨#[41]⟩, .string ⟨#[108, 101, 116]⟩, .string ⟨#[46]⟩, .string ⟨#[58]⟩, .string ⟨#[49, 50]⟩, .string ⟨#[61]⟩, .string ⟨#[59]⟩] 9)) = V at *
  have HJV : Hid (∀ (i : Nat) (x : Int), zs[i]? = some x → ∃ ad, a = some ad ∧ V.cell? (ad.add i) = some (.int .i64 x)) := fun i x hx => by
    obtain ⟨ad, h1, h2⟩ := HJ.out i x hx
    refine ⟨ad, h1, ?_⟩
    rw [HB0.out.cell (World.block_lt_of_cell? _ _ h2)]; exact h2
  clear HJ
  go_wp2
  go_loop [4, 5] (fun s i => ∃ (k : Nat) (x : ByteArray), k ≤ n ∧ i = .int .i64 k ∧ s = .string x ∧ x.size ≤ 5 * k) (fun _ i => n - (intOf i).toNat)
  case atStart => exact ⟨0, ⟨#[]⟩, Nat.zero_le _, rfl, rfl, Nat.zero_le _⟩
  case round =>
    obtain ⟨k, x, hk, rfl, rfl, hx⟩ := hrel
    by_cases hlt : k < n
    · obtain ⟨z, hz'⟩ : ∃ z, zs[k]? = some z := ⟨_, List.getElem?_eq_getElem (by rw [← HNl.out]; exact hlt)⟩
      obtain ⟨ad, rfl, hc⟩ := HJV.out k z hz'
      have e1 := Int.emod_nonneg z (b := 17) (by omega)
      have e2 := Int.emod_lt_of_pos z (b := 17) (by omega)
      obtain ⟨m, hm⟩ : ∃ m : Nat, z % 17 = m := ⟨(z % 17).toNat, by omega⟩
      have HMd : Hid (∀ w, Calls Tryz.prog 19 #[.int .i64 z, .int .i64 17] w fun e w' => e = .returned (.int .i64 m) ∧ w = w') := fun w => by have := mod_any z 17 w (by omega) (by omega); rwa [hm] at this
      have hm1 : m < 17 := by omega
      have hm2 : (m : Int) < 17 := by omega
      have hm0 : (0 : Int) ≤ (m : Int) := by omega
      obtain ⟨y, hy, hcy⟩ := HW.out m hm1
      have hki : (k : Int) < (n : Int) := by omega
      clear e1 e2 hm hz'
      go_wp2_with (go_at_call 19; refine (HMd.out _).mono ?_; rintro e w' ⟨rfl, rfl⟩)
      go_round
      case rel => exact ⟨k + 1, _, hlt, by go_num, rfl, by rw [ByteArray.size_append, ByteArray.size_append]; have h32 : (⟨#[32]⟩ : ByteArray).size = 1 := rfl; omega⟩
      case measure => simp [intOf]; omega
    · obtain rfl : k = n := by omega
      clear HJV HW
      go_wp2_with fail
      go_at_call 14
      refine (scan_any x V (by omega)).mono ?_
      rintro e w1 ⟨v, rfl, hrow, hb⟩
      have HR := Lib.hid (ownsRow_base hrow HB0.out.size)
      have HB := Lib.hid (HB0.out.trans (hb.mono HB0.out.size))
      clear hrow hb
      go_wp2
      go_ret
      exact ⟨_, ⟨v, rfl, HR.out, HB.out⟩, ftoks_ok _⟩
end Go.Proofs.YtbbplpmjpadgiaaGreatDoor
