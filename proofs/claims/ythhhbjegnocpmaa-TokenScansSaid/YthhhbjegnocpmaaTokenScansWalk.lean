/- The walk of the law TokenScans. -/
import Derived.Test.YthhhbjegnocpmaaLaw2
import Derived.Test.YthhhbjegnocpmaaRefScan
namespace Go.Proofs.Ythhhbjegnocpmaa.tokenScans
open Go.RowKit Mth

set_option maxHeartbeats 1600000 in
theorem walk (s : ByteArray) (v : Value) (zs : List Int) (w : World) (hm : s.size ≤ maxLen) (hz : Ints w v zs) (hzl : zs.length ≤ maxLen) :
    Calls Try.prog 3 #[.string s, v] w fun e w' => e = .returned (.bool true) ∧ Below w.heap.size w w' := by
  unfold maxLen at hm hzl
  obtain ⟨a, cap, rfl⟩ : ∃ a cap, v = .slice a zs.length cap := by
    rcases hz with ⟨rfl, rfl⟩ | ⟨a, cap, rfl, _, _⟩
    · exact ⟨none, 0, rfl⟩
    · exact ⟨some a, cap, rfl⟩
  by_cases hbig : 300 < s.size
  · go_enter Try.func3, Try.ntmps3
    go_wp2_with (go_at_call 7; refine (lawFirst_any _).mono ?_; rintro e w1 ⟨rfl, hb1⟩)
    go_ret
    exact ⟨rfl, hb1⟩
  by_cases hbig2 : 60 < zs.length
  · go_enter Try.func3, Try.ntmps3
    go_wp2_with (go_at_call 7; refine (lawFirst_any _).mono ?_; rintro e w1 ⟨rfl, hb1⟩)
    go_ret
    exact ⟨rfl, hb1⟩
  have hwl := wcat_len zs
  have hz1 : zs.length ≤ 100 := by omega
  have h9 : ¬ 9223372036854775807 < (wcat zs).length + s.size := by omega
  go_enter Try.func3, Try.ntmps3
  go_wp2_with fail
  go_at_call 7
  refine (lawFirst_any _).mono ?_
  rintro e w1 ⟨rfl, hb1⟩
  have hzw := ints_below hz hb1
  go_wp2_with fail
  go_at_call 8
  refine (words_any _ zs _ hz1 hzw).mono ?_
  rintro e w2 ⟨rfl, hb2⟩
  have hzx := ints_below hzw hb2
  go_wp2_with fail
  go_at_call 8
  refine (words_any _ zs _ hz1 hzx).mono ?_
  rintro e w3 ⟨rfl, hb3⟩
  have hb : Below w.heap.size w w3 := (hb1.trans (hb2.mono hb1.size)).trans (hb3.mono (Nat.le_trans hb1.size hb2.size))
  clear hb1 hb2 hb3 hzw hzx hz
  go_wp2
  have HS : Hid (∀ k, k < 3 → ∃ S : ByteArray, S.size ≤ 100000 ∧ (w3.alloc (.cells #[.string s, .string ⟨(wcat zs).toArray⟩, .string (⟨(wcat zs).toArray⟩ ++ s)] 9)).cell? ⟨w3.heap.size, k, none⟩ = some (.string S)) := by
    intro k hk
    rcases k with _ | _ | _ | k
    · exact ⟨s, by omega, by simp⟩
    · exact ⟨⟨(wcat zs).toArray⟩, by show (wcat zs).toArray.size ≤ _; simp; omega, by simp⟩
    · exact ⟨⟨(wcat zs).toArray⟩ ++ s, by rw [ByteArray.size_append]; show (wcat zs).toArray.size + _ ≤ _; simp; omega, by simp⟩
    · omega
  have hb3 : Below w.heap.size w (w3.alloc (.cells #[.string s, .string ⟨(wcat zs).toArray⟩, .string (⟨(wcat zs).toArray⟩ ++ s)] 9)) := hb.alloc hb.size _
  generalize (w3.alloc (.cells #[.string s, .string ⟨(wcat zs).toArray⟩, .string (⟨(wcat zs).toArray⟩ ++ s)] 9)) = W3 at *
  generalize w3.heap.size = b at *
  go_loopw [30] (fun i wr => ∃ k : Nat, k ≤ 3 ∧ i = .int .i64 k ∧ Below W3.heap.size W3 wr) (fun i _ => 3 - (intOf i).toNat)
  case atStart => exact ⟨0, by omega, rfl, Below.refl _ _⟩
  case round =>
    obtain ⟨k, hk, rfl, hbr⟩ := hrel
    by_cases hlt : k < 3
    · obtain ⟨S, hS1, hS2⟩ := HS.out k hlt
      have hcell := (hbr.cell (World.block_lt_of_cell? _ _ hS2)).trans hS2
      clear hS2
      go_wp2_with fail
      go_at_call 9
      refine (scan_any S _ (by omega)).mono ?_
      rintro e w4 ⟨v1, rfl, hr1, hb4⟩
      have T1 := toks_of_row hr1
      clear hr1
      go_wp2_with fail
      go_at_call 10
      refine (refScan_any S _ (by omega)).mono ?_
      rintro e w5 ⟨v2, rfl, hr2, hb5⟩
      have T2 := toks_of_row hr2
      clear hr2
      have hts := Lib.hid (ftoks_len (bl S))
      generalize ftoks (bl S) = ts at *
      generalize ferr (bl S) = fe at *
      generalize fpos (bl S) = fp at *
      have hbe : Below w4.heap.size w4 w5 := ((Below.refl _ _).alloc (Nat.le_refl _) _).trans (hb5.mono (by simp))
      have f0 : w5.cell? ⟨w4.heap.size, 0, none⟩ = some (.int .i64 fe) := by rw [hb5.cell (p := ⟨w4.heap.size, 0, none⟩) (by simp)]; simp
      have f1 : w5.cell? ⟨w4.heap.size, 1, none⟩ = some (.int .i64 fp) := by rw [hb5.cell (p := ⟨w4.heap.size, 1, none⟩) (by simp)]; simp
      have hg1 : w4.heap.size < w5.heap.size := by have := hb5.size; simp at this; omega
      have hbw : Below wr.heap.size wr w5 := hb4.trans (hbe.mono hb4.size)
      have A1 := toks_below (toks_below T1 hbe) ((Below.refl _ _).alloc (Nat.le_refl _) (.cells #[.int .i64 fe, .int .i64 fp] 29))
      have A2 := toks_below T2 ((Below.refl _ _).alloc (Nat.le_refl _) (.cells #[.int .i64 fe, .int .i64 fp] 29))
      have HA := Lib.hid (same_any v1 v2 true ts ts _ hts.out A1 A2 rfl (fun _ => rfl))
      clear T1 T2 A1 A2 hb4 hb5 hbe
      go_wp2_with (go_at_call 11; refine HA.out.mono ?_; rintro e w6 ⟨rfl, hb6⟩)
      have hb7 : Below wr.heap.size wr w6 := (hbw.alloc hbw.size _).trans (hb6.mono (by have := hbw.size; simp; omega))
      clear hb6
      go_roundw
      case rel => exact ⟨k + 1, hlt, by go_num, hbr.trans (hb7.mono hbr.size)⟩
      case measure => simp [intOf]; omega
    · obtain rfl : k = 3 := by omega
      go_wp2
      go_ret
      exact ⟨rfl, hb3.trans (hbr.mono hb3.size)⟩
end Go.Proofs.Ythhhbjegnocpmaa.tokenScans
