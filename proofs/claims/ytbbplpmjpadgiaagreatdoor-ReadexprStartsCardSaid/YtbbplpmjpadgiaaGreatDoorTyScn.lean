/- The law's scan, the reference's Valid, both Starts. -/
import Derived.Test.YtbbplpmjpadgiaaGreatDoorTyRes
import Derived.Lib.QuietBelow
import Derived.Test.YtbbplpmjpadgiaaGreatDoorRfScan
namespace Go.Proofs.YtbbplpmjpadgiaaGreatDoor
open Go.RowKit Go.Maps Mth

theorem row3_flat (l : List Tok) : row3 l = (l.map cells3).flatten := by unfold row3; rw [List.flatMap_def]
theorem row3_get (l : List Tok) (j m : Nat) (t : Tok) (u : Value) (ht : l[j]? = some t) (hu : (cells3 t)[m]? = some u) : (row3 l)[j * 3 + m]? = some u := by
  rw [row3_flat]
  exact flat_get 3 _ (fun c hc => by simp at hc; obtain ⟨t, _, rfl⟩ := hc; rfl) j m _ u (by rw [List.getElem?_map, ht]; rfl) hu
theorem tokAt_of_row {w : World} {base : Nat} {v : Value} {ts : List Tok} (h : w.ownsRow base 44 3 v ts.length (row3 ts)) : TokAt w (fun g => base ≤ g) v ts := by
  have hc := fun g (hv : v.ownBlock = some g) => h.cells (g := g) hv
  obtain ⟨-, hh⟩ := h
  rcases hh with ⟨rfl, h0⟩ | ⟨g, cap, cur, rfl, hg, hb, hn, hm, _⟩
  · have : ts = [] := List.eq_nil_of_length_eq_zero h0
    subst this
    exact ⟨none, 0, rfl, ⟨Nat.le_refl _, Nat.zero_le _⟩, fun j t h => by simp at h⟩
  · refine ⟨some ⟨g, 0, none⟩, cap, rfl, ⟨hn, hm⟩, fun j t ht => ⟨g, rfl, hg, ?_, ?_, ?_⟩⟩
    · have := hc g rfl _ _ (row3_get ts j 0 t _ ht rfl)
      rw [add_zero] at this; simpa using this
    · have := hc g rfl _ _ (row3_get ts j 1 t _ ht rfl)
      rw [add_zero] at this; simpa using this
    · have := hc g rfl _ _ (row3_get ts j 2 t _ ht rfl)
      rw [add_zero] at this; simpa using this
/-- What scan hands back. -/
def ScanEnd (w : World) (ts : List Tok) (e : Ending) (w' : World) : Prop := ∃ v, e = .returned v ∧ w'.ownsRow w.heap.size 44 3 v ts.length (row3 ts) ∧ Below w.heap.size w w'
theorem ownsRow_base {w : World} {base base' : Nat} {e : TypeId} {size : Nat} {v : Value} {n : Nat} {xs : List Value} (h : w.ownsRow base e size v n xs) (hb : base' ≤ base) : w.ownsRow base' e size v n xs := by
  refine ⟨h.1, ?_⟩
  rcases h.2 with h | ⟨g, cap, cur, hv, hg, rest⟩
  · exact .inl h
  · exact .inr ⟨g, cap, cur, hv, Nat.le_trans hb hg, rest⟩
set_option maxHeartbeats 1600000 in
theorem scan_any (s : ByteArray) (w : World) (hs : s.size ≤ 140737488355328) : Calls Tryz.prog 14 #[.string s] w (ScanEnd w (ftoks (bl s))) := by
  have HS := Lib.hid (refScan_any s w hs)
  go_enter Tryz.func14, Tryz.ntmps14
  go_wp2_with fail
  go_at_call 43
  refine HS.out.mono ?_
  rintro e w1 ⟨v, rfl, hrow, hb⟩
  have HR := Lib.hid (ownsRow_below (ownsRow_base hrow (Nat.le_succ _)) ((Below.refl _ w1).alloc (Nat.le_refl _) (.cells #[.int .i64 (ferr (bl s)), .int .i64 (fpos (bl s))] 40)))
  have HB := Lib.hid (hb.trans (((Below.refl _ w1).alloc (Nat.le_refl _) (.cells #[.int .i64 (ferr (bl s)), .int .i64 (fpos (bl s))] 40)).mono hb.size))
  clear hrow hb HS
  go_wp2
  go_ret
  exact ⟨v, rfl, HR.out, HB.out⟩
/-- The tokens that are valid. -/
def valB (k : Int) (x : ByteArray) (p : Int) : Bool := decide (1 ≤ k) && decide (k ≤ 5) && (rkind (bl x) == k) && decide (0 ≤ p) && decide (p < 4000)
set_option maxHeartbeats 3200000 in
theorem valid_any (k : Int) (x : ByteArray) (p : Int) (w : World) (hx : x.size ≤ 9223372036854775807) :
    Calls Tryz.prog 34 #[.agg #[.int .i64 k, .string x, .int .i64 p]] w fun e w' => e = .returned (.bool (valB k x p)) ∧ Below w.heap.size w w' := by
  have hb : Below w.heap.size w (w.alloc (.cells #[.int .i64 k, .string x, .int .i64 p] 44)) := (Below.refl _ w).alloc (Nat.le_refl _) _
  have HB := Lib.hid hb
  have HK := Lib.hid (fun w => kind_any x w hx)
  have hn := tok_cells (heap_alloc_new w (.cells #[.int .i64 k, .string x, .int .i64 p] 44))
  have HN := Lib.hid hn
  clear hb hn
  unfold valB
  generalize rkind (bl x) = r at *
  cases h1 : decide (1 ≤ k)
  rotate_left
  cases h2 : decide (k ≤ 5)
  rotate_left
  cases h3 : (r == k)
  rotate_left
  cases h4 : decide (0 ≤ p)
  rotate_left
  cases h5 : decide (p < 4000)
  all_goals
    go_enter Tryz.func34, Tryz.ntmps34
    go_upto_region 1 with fail
    generalize (w.alloc (.cells #[.int .i64 k, .string x, .int .i64 p] 44)) = V at *
    obtain ⟨⟨c0, c1, c2⟩, -⟩ := HN.out
    have G0 := cell_regrown c0
    have G1 := cell_regrown c1
    have G2 := cell_regrown c2
    refine wp_region_quiet_below (by kernel_rfl) (by kernel_rfl) ?_
    repeat (quiet_step ((go_at_call 65; exact Calls.regrown_of (HK.out _))))
    refine wpQuiet_nil ?_
    intro _ hw'
    obtain ⟨⟨dq, osq⟩, hw''⟩ := hw'
    subst hw''
    clear c0 c1 c2 G0 G1 G2
    go_wp2
    go_ret
    exact ⟨rfl, HB.out.trans ((below_regrown V dq osq).mono HB.out.size)⟩
end Go.Proofs.YtbbplpmjpadgiaaGreatDoor
