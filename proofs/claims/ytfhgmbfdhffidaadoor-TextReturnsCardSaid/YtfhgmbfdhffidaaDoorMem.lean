/- The contracts of the functions that make memory beside: text.Number, the two Describe. -/
import Derived.Test.YtfhgmbfdhffidaaDoorFns
import Derived.Lib.AppendIntMem
import Derived.Deep.RegionHeld3
import Derived.Deep.QuietTactic
import Derived.BigQuiet
namespace Go.Proofs.YtfhgmbfdhffidaaDoor
open Go.RowKit Mth

/-- The library's table of powers of ten lies as it was laid. -/
def Tab (w : World) : Prop := Lib.TabIs Tryd.prog w "internal/strconv.uint64pow10" .u64 Lib.pow10Tab
theorem Tryd.gPow : Tryd.prog.globalNamed "internal/strconv.uint64pow10" = some 0 := by kernel_rfl
theorem Tab.size {w : World} (h : Tab w) : 0 < w.heap.size := by
  unfold Tab Lib.TabIs World.var? at h
  rw [Tryd.gPow] at h
  simp only [Option.bind_some] at h
  by_cases hz : 0 < w.heap.size
  · exact hz
  · rw [Array.getElem?_eq_none (by omega)] at h
    simp at h
theorem Tab.below {w w' : World} (h : Tab w) (hb : Below w.heap.size w w') : Tab w' :=
  var?_below hb Tryd.gPow h.size h

/-- An integer's text. -/
def num (n : Int) : ByteArray := ⟨(Lib.itoa n).toArray⟩
theorem num_len (n : Int) (h1 : -9223372036854775808 ≤ n) (h2 : n ≤ 9223372036854775807) : (num n).size ≤ 21 := Lib.itoa_length_le n h1 h2
theorem number_any (n : Int) (w : World) (h1 : -9223372036854775808 ≤ n) (h2 : n ≤ 9223372036854775807) (ht : Tab w) :
    Calls Tryd.prog 17 #[.int .i64 n] w fun e w' => e = .returned (.string (num n)) ∧ Below w.heap.size w w' := by
  go_enter Tryd.func17, Tryd.ntmps17
  go_wp2_with (go_at_call 21; refine (Tryd.strconv_Itoa n h1 h2 _ ht).mono ?_; rintro e w' ⟨rfl, k, os, rfl⟩)
  go_ret
  exact ⟨rfl, Lib.below_grow _ _ (Nat.le_refl _) _ _⟩

/-- An error's description. -/
def dsc (s : ByteArray) (err pos : Int) : ByteArray :=
  num (ln (s.data.toList.take (clamp pos s.size))) ++ ⟨#[58]⟩ ++ num (cl (s.data.toList.take (clamp pos s.size))) ++ ⟨#[58, 32, 101, 114, 114, 111, 114, 32]⟩ ++ num err

theorem Tab.drew {w : World} (h : Tab w) : Tab w.drew := h
/-- What a region of Describe keeps, from world to world. -/
theorem keep3 {w0 W W' : World} {v : Value} (h1 : W.cell? ⟨w0.heap.size, 0, none⟩ = some v) (h2 : Tab W) (h3 : Below w0.heap.size w0 W) (hb : Below W.heap.size W W') :
    W'.cell? ⟨w0.heap.size, 0, none⟩ = some v ∧ Tab W' ∧ Below w0.heap.size w0 W' :=
  ⟨(hb.cell (p := ⟨w0.heap.size, 0, none⟩) (World.block_lt_of_cell? _ _ h1)).trans h1, h2.below hb, h3.trans (hb.mono h3.size)⟩

set_option maxHeartbeats 800000 in
theorem describe_none (s : ByteArray) (pos : Int) (w : World) :
    Calls Tryd.prog 19 #[.string s, .agg #[.int .i64 0, .int .i64 pos]] w fun e w' => e = .returned (.string ⟨#[]⟩) ∧ Below w.heap.size w w' := by
  go_enter Tryd.func19, Tryd.ntmps19
  go_wp2
  go_ret
  exact ⟨rfl, (Below.refl _ _).alloc (Nat.le_refl _) _⟩

set_option maxHeartbeats 800000 in
theorem describe_some (s : ByteArray) (err pos : Int) (w : World) (hs : s.size ≤ 1000000) (he : ¬ err = 0) (he1 : -9223372036854775808 ≤ err) (he2 : err ≤ 9223372036854775807) (ht : Tab w) :
    Calls Tryd.prog 19 #[.string s, .agg #[.int .i64 err, .int .i64 pos]] w fun e w' => e = .returned (.string (dsc s err pos)) ∧ Below w.heap.size w w' := by
  unfold dsc
  obtain ⟨b1, b2, b3, b4⟩ := bd (s.data.toList.take (clamp pos s.size))
  have hlen : (s.data.toList.take (clamp pos s.size)).length ≤ s.size := by rw [List.length_take]; have := clamp_le pos s.size; simp; omega
  have HP := fun w => place_any s pos w hs
  have n1 := num_len (ln (s.data.toList.take (clamp pos s.size))) (by omega) (by omega)
  have n2 := num_len (cl (s.data.toList.take (clamp pos s.size))) (by omega) (by omega)
  have n3 := num_len err he1 he2
  generalize ln (s.data.toList.take (clamp pos s.size)) = a at *
  generalize cl (s.data.toList.take (clamp pos s.size)) = b at *
  have hb0 : Below w.heap.size w (w.alloc (.cells #[.int .i64 err, .int .i64 pos] 38)) := (Below.refl _ _).alloc (Nat.le_refl _) _
  have ht0 : Tab (w.alloc (.cells #[.int .i64 err, .int .i64 pos] 38)) := ht.below hb0
  have hsz := ht.size
  have t1 : ¬ 9223372036854775807 < (num a).size + 1 := by omega
  have t2 : ¬ 9223372036854775807 < (num a).size + 1 + (num b).size := by omega
  have t3 : ¬ 9223372036854775807 < (num a).size + 1 + (num b).size + 8 := by omega
  have t4 : ¬ 9223372036854775807 < (num a).size + 1 + (num b).size + 8 + (num err).size := by omega
  go_enter Tryd.func19, Tryd.ntmps19
  go_wp2_with (go_at_call 10; refine (HP _).mono ?_; rintro e w' ⟨rfl, rfl⟩)
  have hc0 : (w.alloc (.cells #[.int .i64 err, .int .i64 pos] 38)).cell? ⟨w.heap.size, 0, none⟩ = some (.int .i64 err) := by simp
  go_region_held3 (fun w' => w'.cell? ⟨w.heap.size, 0, none⟩ = some (.int .i64 err) ∧ Tab w' ∧ Below w.heap.size w w')
    (first
      | (go_split_ands; exact keep3 (by assumption) (by assumption) (by assumption) hb)
      | (go_split_ands; exact ⟨by assumption, by assumption, by assumption⟩)
      | exact ⟨hc0, Tab.drew ht0, Below.drew hb0⟩)
    (first | (go_at_call 17; go_split_ands; refine (number_any _ _ (by omega) (by omega) (by assumption)).mono ?_; rintro e w' ⟨rfl, hb⟩))
  go_split_ands
  go_wp2
  go_ret
  exact ⟨rfl, by assumption⟩

set_option maxHeartbeats 800000 in
theorem refDescribe_none (s : ByteArray) (pos : Int) (w : World) :
    Calls Tryd.prog 20 #[.string s, .agg #[.int .i64 0, .int .i64 pos]] w fun e w' => e = .returned (.string ⟨#[]⟩) ∧ Below w.heap.size w w' := by
  go_enter Tryd.func20, Tryd.ntmps20
  go_wp2
  go_ret
  exact ⟨rfl, (Below.refl _ _).alloc (Nat.le_refl _) _⟩

theorem refNumber_num (n : Int) (w : World) (h1 : -9223372036854775808 ≤ n) (h2 : n ≤ 9223372036854775807) :
    Calls Tryd.prog 18 #[.int .i64 n] w fun e w' => e = .returned (.string (num n)) ∧ w' = w :=
  (refNumber_any n w h1 h2).mono fun _ _ ⟨h, k⟩ => ⟨h, k.symm⟩

set_option maxHeartbeats 800000 in
theorem refDescribe_some (s : ByteArray) (err pos : Int) (w : World) (hs : s.size ≤ 1000000) (he : ¬ err = 0) (he1 : -9223372036854775808 ≤ err) (he2 : err ≤ 9223372036854775807) :
    Calls Tryd.prog 20 #[.string s, .agg #[.int .i64 err, .int .i64 pos]] w fun e w' => e = .returned (.string (dsc s err pos)) ∧ Below w.heap.size w w' := by
  unfold dsc
  obtain ⟨b1, b2, b3, b4⟩ := bd (s.data.toList.take (clamp pos s.size))
  have hlen : (s.data.toList.take (clamp pos s.size)).length ≤ s.size := by rw [List.length_take]; have := clamp_le pos s.size; simp; omega
  have HP := fun w => refPlace_any s pos w hs
  have n1 := num_len (ln (s.data.toList.take (clamp pos s.size))) (by omega) (by omega)
  have n2 := num_len (cl (s.data.toList.take (clamp pos s.size))) (by omega) (by omega)
  have n3 := num_len err he1 he2
  generalize ln (s.data.toList.take (clamp pos s.size)) = a at *
  generalize cl (s.data.toList.take (clamp pos s.size)) = b at *
  have hb0 : Below w.heap.size w (w.alloc (.cells #[.int .i64 err, .int .i64 pos] 38)) := (Below.refl _ _).alloc (Nat.le_refl _) _
  have t1 : ¬ 9223372036854775807 < (num a).size + 1 := by omega
  have t2 : ¬ 9223372036854775807 < (num a).size + 1 + (num b).size := by omega
  have t3 : ¬ 9223372036854775807 < (num a).size + 1 + (num b).size + 8 := by omega
  have t4 : ¬ 9223372036854775807 < (num a).size + 1 + (num b).size + 8 + (num err).size := by omega
  go_enter Tryd.func20, Tryd.ntmps20
  go_wp2_with (go_at_call 11; refine (HP _).mono ?_; rintro e w' ⟨rfl, rfl⟩)
  go_quiet ((go_at_call 18; exact Calls.quiet_of_same (refNumber_num _ _ (by omega) (by omega))))
  go_wp2
  go_ret
  exact ⟨rfl, below_drewN hb0 _⟩

/-- The rows that Lines hands back, cell by cell. -/
def LinesCells (s : ByteArray) (w : World) (e : Ending) (w' : World) : Prop :=
  ∃ g cap, e = .returned (.slice (some ⟨g, 0, none⟩) (lines s.data.toList).length cap) ∧ (∀ j x, (lines s.data.toList)[j]? = some x → w'.cell? ⟨g, j, none⟩ = some (str x)) ∧ Below w.heap.size w w'
theorem lines_cells (s : ByteArray) (w : World) (hs : s.size ≤ 1000000) : Calls Tryd.prog 15 #[.string s] w (LinesCells s w) := by
  refine (lines_any s w hs).mono ?_
  rintro e w' ⟨v, rfl, hown, hb⟩
  have hn : 0 < (lines s.data.toList).length := by simp [lines]
  rcases hown.2 with ⟨_, h0⟩ | ⟨g, cap, cur, rfl, _⟩
  · omega
  · refine ⟨g, cap, rfl, ?_, hb⟩
    intro j x hx
    have h := hown.cells (g := g) rfl j (str x) (by rw [List.getElem?_map, hx]; rfl)
    rw [Lib.add_plain, Nat.zero_add] at h
    exact h
/-- The line of the empty text. -/
def OneLine (w : World) (e : Ending) (w' : World) : Prop :=
  ∃ g cap, e = .returned (.slice (some ⟨g, 0, none⟩) 1 cap) ∧ w'.cell? ⟨g, 0, none⟩ = some (.string ⟨#[]⟩) ∧ Below w.heap.size w w'
theorem lines_empty (w : World) : Calls Tryd.prog 15 #[.string ⟨#[]⟩] w (OneLine w) := by
  refine (lines_cells ⟨#[]⟩ w (by decide)).mono ?_
  rintro e w' ⟨g, cap, rfl, hc, hb⟩
  exact ⟨g, cap, rfl, hc 0 [] rfl, hb⟩
theorem place_four (w : World) : Calls Tryd.prog 10 #[.string ⟨#[120, 10, 121, 122]⟩, .int .i64 3] w fun e w' => e = .returned (.tuple #[.int .i64 2, .int .i64 2]) ∧ w = w' := by
  refine (place_any ⟨#[120, 10, 121, 122]⟩ 3 w (by decide)).mono ?_
  rintro e w' ⟨rfl, rfl⟩
  exact ⟨by kernel_rfl, rfl⟩
theorem number_120 (w : World) (ht : Tab w) : Calls Tryd.prog 17 #[.int .i64 (-120)] w fun e w' => e = .returned (.string ⟨#[45, 49, 50, 48]⟩) ∧ Below w.heap.size w w' := by
  refine (number_any (-120) w (by omega) (by omega) ht).mono ?_
  rintro e w' ⟨rfl, hb⟩
  exact ⟨by kernel_rfl, hb⟩
theorem describe_nine (w : World) (ht : Tab w) : Calls Tryd.prog 19 #[.string ⟨#[97, 10, 98, 99, 100, 101]⟩, .agg #[.int .i64 9, .int .i64 6]] w fun e w' => e = .returned (.string ⟨#[50, 58, 53, 58, 32, 101, 114, 114, 111, 114, 32, 57]⟩) ∧ Below w.heap.size w w' := by
  refine (describe_some ⟨#[97, 10, 98, 99, 100, 101]⟩ 9 6 w (by decide) (by omega) (by omega) (by omega) ht).mono ?_
  rintro e w' ⟨rfl, hb⟩
  exact ⟨by kernel_rfl, hb⟩

set_option maxHeartbeats 800000 in
theorem first_any (w : World) (ht : Tab w) : Calls Tryd.prog 9 #[] w fun e w' => e = .returned (.bool true) ∧ Below w.heap.size w w' := by
  go_enter Tryd.func9, Tryd.ntmps9
  go_wp2_with (first
    | (go_at_call 10; refine (place_four _).mono ?_; rintro e w' ⟨rfl, rfl⟩)
    | (go_at_call 15; refine (lines_empty _).mono ?_; rintro e w1 ⟨g, cap, rfl, hc, hb1⟩)
    | (go_at_call 17; refine (number_120 _ (ht.below hb1)).mono ?_; rintro e w2 ⟨rfl, hb2⟩)
    | (go_at_call 19; refine (describe_nine _ ((ht.below hb1).below hb2)).mono ?_; rintro e w3 ⟨rfl, hb3⟩))
  go_ret
  exact ⟨rfl, (hb1.trans (hb2.mono hb1.size)).trans (hb3.mono (Nat.le_trans hb1.size hb2.size))⟩
end Go.Proofs.YtfhgmbfdhffidaaDoor
