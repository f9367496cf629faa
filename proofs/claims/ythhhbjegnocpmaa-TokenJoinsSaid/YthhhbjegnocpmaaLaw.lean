/- The contracts of the law's own functions: Mod, word, words, first. -/
import Derived.Test.YthhhbjegnocpmaaSame
import Derived.Test.YthhhbjegnocpmaaKind
namespace Go.Proofs.Ythhhbjegnocpmaa
open Go.RowKit Mth

theorem mod_any (a n : Int) (w : World) (h1 : 1 ≤ n) (h2 : n ≤ 1000000) :
    Calls Try.prog 12 #[.int .i64 a, .int .i64 n] w fun e w' => e = .returned (.int .i64 (a % n)) ∧ w = w' := by
  have e1 := Int.emod_nonneg a (b := n) (by omega)
  have e2 := Int.emod_lt_of_pos a (b := n) (by omega)
  have HT : Hid ((a.tmod n = a % n) ∨ (a.tmod n = a % n - n ∧ a % n ≠ 0)) := by
    show _ ∨ _
    rw [Int.tmod_eq_emod]
    by_cases hc : 0 ≤ a ∨ n ∣ a
    · left; simp only [hc, if_true]; omega
    · right
      simp only [hc, if_false]
      refine ⟨by omega, fun h => hc (.inr (Int.dvd_of_emod_eq_zero h))⟩
  have hb : -n < a.tmod n ∧ a.tmod n < n := by rcases HT.out with h | ⟨h, h'⟩ <;> omega
  have HE : Hid (a % n = if a.tmod n < 0 then a.tmod n + n else a.tmod n) := by
    show a % n = _
    rcases HT.out with h | ⟨h, h'⟩
    · rw [if_neg (by omega)]; omega
    · rw [if_pos (by omega)]; omega
  clear HT e1 e2
  obtain ⟨hb1, hb2⟩ := hb
  go_enter Try.func12, Try.ntmps12
  go_wp2
  all_goals
    go_ret
    refine ⟨ret_int ?_, rfl⟩
    rw [HE.out]
  · rw [if_pos (by assumption)]
  · rw [if_neg (by omega)]

/-- The pieces of a text. -/
def wtab : List (List UInt8) := [[108, 101, 116], [114, 101, 99], [105, 110], [100, 97, 116, 97], [99, 97, 115, 101], [111, 102], [101, 110, 100], [120], [76, 105, 115, 116], [97, 95, 49], [88, 121, 122, 57], [48], [49, 50], [48, 48, 55], [45, 62], [45], [62], [92], [46], [61], [59], [58], [124], [40], [41], [123], [125], [63], [32], [9], [13, 10], [35, 32, 110, 111, 116, 101, 10], [35], [52, 120], [95], [97, 118, 101, 114, 121, 108, 111, 110, 103, 110, 97, 109, 101, 49], [65, 118, 101, 114, 121, 108, 111, 110, 103, 110, 97, 109, 101], [49, 50, 51, 52, 53, 54, 55, 56, 57], [49, 50, 51, 52, 53, 54, 55, 56, 57, 48], [36], [0], [255], [108, 101, 116, 120], [120, 39]]
/-- The piece with a number. -/
def wtxt (n : Int) : List UInt8 := wtab.getD (n % 44).toNat []
theorem wtab_len : ∀ x ∈ wtab, x.length ≤ 14 := by decide +kernel
theorem wtxt_mem (n : Int) : wtxt n ∈ wtab := by
  have h : (n % 44).toNat < wtab.length := by show _ < 44; omega
  unfold wtxt
  rw [List.getD, List.getElem?_eq_getElem h]
  exact List.getElem_mem h
theorem wtxt_len (n : Int) : (wtxt n).length ≤ 14 := wtab_len _ (wtxt_mem n)
theorem wcell (w : World) (k : Nat) (h : k < 44) : (w.alloc (.cells #[.string ⟨#[108, 101, 116]⟩, .string ⟨#[114, 101, 99]⟩, .string ⟨#[105, 110]⟩, .string ⟨#[100, 97, 116, 97]⟩, .string ⟨#[99, 97, 115, 101]⟩, .string ⟨#[111, 102]⟩, .string ⟨#[101, 110, 100]⟩, .string ⟨#[120]⟩, .string ⟨#[76, 105, 115, 116]⟩, .string ⟨#[97, 95, 49]⟩, .string ⟨#[88, 121, 122, 57]⟩, .string ⟨#[48]⟩, .string ⟨#[49, 50]⟩, .string ⟨#[48, 48, 55]⟩, .string ⟨#[45, 62]⟩, .string ⟨#[45]⟩, .string ⟨#[62]⟩, .string ⟨#[92]⟩, .string ⟨#[46]⟩, .string ⟨#[61]⟩, .string ⟨#[59]⟩, .string ⟨#[58]⟩, .string ⟨#[124]⟩, .string ⟨#[40]⟩, .string ⟨#[41]⟩, .string ⟨#[123]⟩, .string ⟨#[125]⟩, .string ⟨#[63]⟩, .string ⟨#[32]⟩, .string ⟨#[9]⟩, .string ⟨#[13, 10]⟩, .string ⟨#[35, 32, 110, 111, 116, 101, 10]⟩, .string ⟨#[35]⟩, .string ⟨#[52, 120]⟩, .string ⟨#[95]⟩, .string ⟨#[97, 118, 101, 114, 121, 108, 111, 110, 103, 110, 97, 109, 101, 49]⟩, .string ⟨#[65, 118, 101, 114, 121, 108, 111, 110, 103, 110, 97, 109, 101]⟩, .string ⟨#[49, 50, 51, 52, 53, 54, 55, 56, 57]⟩, .string ⟨#[49, 50, 51, 52, 53, 54, 55, 56, 57, 48]⟩, .string ⟨#[36]⟩, .string ⟨#[0]⟩, .string ⟨#[255]⟩, .string ⟨#[108, 101, 116, 120]⟩, .string ⟨#[120, 39]⟩] 9)).cell? ⟨w.heap.size, k, none⟩ = some (.string ⟨(wtab.getD k []).toArray⟩) := by
  have h' : k < wtab.length := h
  refine (World.cell?_alloc_mark w _ 9 (0, 0) k).trans ?_
  change ((wtab.map fun t => Value.string ⟨t.toArray⟩).toArray)[k]? = _
  rw [List.getElem?_toArray, List.getElem?_map, List.getD, List.getElem?_eq_getElem h']
  rfl
set_option maxHeartbeats 800000 in
theorem word_any (n : Int) (w : World) : Calls Try.prog 13 #[.int .i64 n] w fun e w' => e = .returned (.string ⟨(wtxt n).toArray⟩) ∧ Below w.heap.size w w' := by
  obtain ⟨k, hk⟩ : ∃ k : Nat, n % 44 = k := ⟨(n % 44).toNat, by omega⟩
  have hk1 : k < 44 := by omega
  have HW : Hid (wtxt n = wtab.getD k []) := by show _ = _; unfold wtxt; rw [hk]; rfl
  have HM : Hid (∀ w, Calls Try.prog 12 #[.int .i64 n, .int .i64 44] w fun e w' => e = .returned (.int .i64 k) ∧ w = w') := fun w => by
    have h := mod_any n 44 w (by omega) (by omega)
    rwa [hk] at h
  have hc := wcell w k hk1
  clear hk
  generalize wtab.getD k [] = t at *
  go_enter Try.func13, Try.ntmps13
  go_wp2_with (go_at_call 12; refine (HM.out _).mono ?_; rintro e w' ⟨rfl, rfl⟩)
  go_ret
  exact ⟨by rw [HW.out]; rfl, (Below.refl _ _).alloc (Nat.le_refl _) _⟩
end Go.Proofs.Ythhhbjegnocpmaa
