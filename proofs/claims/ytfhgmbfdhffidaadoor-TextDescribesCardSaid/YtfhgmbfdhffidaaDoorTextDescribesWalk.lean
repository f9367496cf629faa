/- The walk of the law TextDescribes. -/
import Derived.Test.YtfhgmbfdhffidaaDoorMem
namespace Go.Proofs.YtfhgmbfdhffidaaDoor.textDescribes
open Go.RowKit Mth

/-- What the last statement keeps, from world to world. -/
theorem keep {w0 W W' : World} {b : Nat} {u v : Value} (h0 : W.cell? ⟨b, 0, none⟩ = some u) (h1 : W.cell? ⟨b, 1, none⟩ = some v) (h2 : Tab W) (h3 : Below w0.heap.size w0 W) (hb : Below W.heap.size W W') :
    W'.cell? ⟨b, 0, none⟩ = some u ∧ W'.cell? ⟨b, 1, none⟩ = some v ∧ Tab W' ∧ Below w0.heap.size w0 W' :=
  ⟨(hb.cell (p := ⟨b, 0, none⟩) (World.block_lt_of_cell? _ _ h0)).trans h0, (hb.cell (p := ⟨b, 1, none⟩) (World.block_lt_of_cell? _ _ h1)).trans h1, h2.below hb, h3.trans (hb.mono h3.size)⟩
/-- The two descriptions of one error. -/
theorem both (s : ByteArray) (err pos : Int) (hs : s.size ≤ 1000000) (he1 : 0 ≤ err) (he2 : err ≤ 24) :
    ∃ d : ByteArray, (∀ W, Tab W → Calls Tryd.prog 19 #[.string s, .agg #[.int .i64 err, .int .i64 pos]] W fun e w' => e = .returned (.string d) ∧ Below W.heap.size W w') ∧
      (∀ W, Tab W → Calls Tryd.prog 20 #[.string s, .agg #[.int .i64 err, .int .i64 pos]] W fun e w' => e = .returned (.string d) ∧ Below W.heap.size W w') := by
  by_cases h : err = 0
  · subst h
    exact ⟨⟨#[]⟩, fun W _ => describe_none s pos W, fun W _ => refDescribe_none s pos W⟩
  · exact ⟨dsc s err pos, fun W hW => describe_some s err pos W hs h (by omega) (by omega) hW, fun W _ => refDescribe_some s err pos W hs h (by omega) (by omega)⟩

set_option maxHeartbeats 800000 in
theorem walk (s : ByteArray) (c p : Int) (w : World) (hm : s.size ≤ maxLen) (ht : Tab w) :
    Calls Tryd.prog 8 #[.string s, .int .i64 c, .int .i64 p] w fun e w' => e = .returned (.bool true) ∧ Below w.heap.size w w' := by
  unfold maxLen at hm
  by_cases hbig : 300 < s.size
  · go_enter Tryd.func8, Tryd.ntmps8
    go_wp2_with (go_at_call 9; refine (first_any _ ht).mono ?_; rintro e w1 ⟨rfl, hb1⟩)
    go_ret
    exact ⟨rfl, hb1⟩
  · obtain ⟨d, HA, HB⟩ := both s (c % 25) p (by omega) (by omega) (by omega)
    have KA := Lib.hid HA
    have KB := Lib.hid HB
    clear HA HB
    go_enter Tryd.func8, Tryd.ntmps8
    go_wp2_with (first
      | (go_at_call 9; refine (first_any _ ht).mono ?_; rintro e w1 ⟨rfl, hb1⟩)
      | (go_at_call 12; refine (mod_any _ _ _ (by omega) (by omega)).mono ?_; rintro e w' ⟨rfl, rfl⟩))
    have hb0 : Below w.heap.size w (w1.alloc (.cells #[.int .i64 (c % 25), .int .i64 p] 38)) := hb1.alloc hb1.size _
    have ht0 : Tab (w1.alloc (.cells #[.int .i64 (c % 25), .int .i64 p] 38)) := ht.below hb0
    have hc0 : (w1.alloc (.cells #[.int .i64 (c % 25), .int .i64 p] 38)).cell? ⟨w1.heap.size, 0, none⟩ = some (.int .i64 (c % 25)) := by simp
    have hc1 : (w1.alloc (.cells #[.int .i64 (c % 25), .int .i64 p] 38)).cell? ⟨w1.heap.size, 1, none⟩ = some (.int .i64 p) := by simp
    go_region_held3 (fun w' => w'.cell? ⟨w1.heap.size, 0, none⟩ = some (.int .i64 (c % 25)) ∧ w'.cell? ⟨w1.heap.size, 1, none⟩ = some (.int .i64 p) ∧ Tab w' ∧ Below w.heap.size w w')
      (first
        | (go_split_ands; exact keep (by assumption) (by assumption) (by assumption) (by assumption) hb)
        | (go_split_ands; exact ⟨by assumption, by assumption, by assumption, by assumption⟩)
        | exact ⟨hc0, hc1, Tab.drew ht0, Below.drew hb0⟩)
      (first
        | (go_at_call 19; go_split_ands; refine (KA.out _ (by assumption)).mono ?_; rintro e w' ⟨rfl, hb⟩)
        | (go_at_call 20; go_split_ands; refine (KB.out _ (by assumption)).mono ?_; rintro e w' ⟨rfl, hb⟩))
    go_split_ands
    go_wp2
    go_ret
    exact ⟨rfl, by assumption⟩
end Go.Proofs.YtfhgmbfdhffidaaDoor.textDescribes
