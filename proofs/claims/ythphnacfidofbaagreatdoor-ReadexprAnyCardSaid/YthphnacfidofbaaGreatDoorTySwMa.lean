import Derived.Test.YthphnacfidofbaaGreatDoorTyRes
import Derived.Lib.QuietBelow
import Derived.Test.YthphnacfidofbaaGreatDoorRfScan
/- The law's scan, the reference's Valid, both Starts. -/
namespace Go.Proofs.YthphnacfidofbaaGreatDoor
open Go.RowKit Go.Maps Mth

theorem row3_flat (l : List Tok) : row3 l = (l.map cells3).flatten := by unfold row3; rw [List.flatMap_def]
theorem row3_get (l : List Tok) (j m : Nat) (t : Tok) (u : Value) (ht : l[j]? = some t) (hu : (cells3 t)[m]? = some u) : (row3 l)[j * 3 + m]? = some u := by
  rw [row3_flat]
  exact flat_get 3 _ (fun c hc => by simp at hc; obtain ⟨t, _, rfl⟩ := hc; rfl) j m _ u (by rw [List.getElem?_map, ht]; rfl) hu
theorem tokAt_of_row {w : World} {base : Nat} {v : Value} {ts : List Tok} (h : w.ownsRow base 44 3 v ts.length (row3 ts)) : TokAt w (fun g => base ≤ g) v ts := by
  have hc := fun g (hv : v.ownBlock = some g) => h.cells (g := g) hv
  obtain ⟨-, hh⟩ := h
  rcases hh with ⟨rfl, h0⟩ | ⟨g, cap, cur, rfl, hg, hb, hn, hm, _⟩
  · have : ts = [] := List.eq_nil_of_length_eq_zero h0
    subst this
    exact ⟨none, 0, rfl, ⟨Nat.le_refl _, Nat.zero_le _⟩, fun j t h => by simp at h⟩
  · refine ⟨some ⟨g, 0, none⟩, cap, rfl, ⟨hn, hm⟩, fun j t ht => ⟨g, rfl, hg, ?_, ?_, ?_⟩⟩
    · have := hc g rfl _ _ (row3_get ts j 0 t _ ht rfl)
      rw [add_zero] at this; simpa using this
    · have := hc g rfl _ _ (row3_get ts j 1 t _ ht rfl)
      rw [add_zero] at this; simpa using this
    · have := hc g rfl _ _ (row3_get ts j 2 t _ ht rfl)
      rw [add_zero] at this; simpa using this
/-- What scan hands back. -/
def ScanEnd (w : World) (ts : List Tok) (e : Ending) (w' : World) : Prop := ∃ v, e = .returned v ∧ w'.ownsRow w.heap.size 44 3 v ts.length (row3 ts) ∧ Below w.heap.size w w'
theorem ownsRow_base {w : World} {base base' : Nat} {e : TypeId} {size : Nat} {v : Value} {n : Nat} {xs : List Value} (h : w.ownsRow base e size v n xs) (hb : base' ≤ base) : w.ownsRow base' e size v n xs := by
  refine ⟨h.1, ?_⟩
  rcases h.2 with h | ⟨g, cap, cur, hv, hg, rest⟩
  · exact .inl h
  · exact .inr ⟨g, cap, cur, hv, Nat.le_trans hb hg, rest⟩
set_option maxHeartbeats 1600000 in
theorem scan_any (s : ByteArray) (w : World) (hs : s.size ≤ 140737488355328) : Calls Tryz.prog 13 #[.string s] w (ScanEnd w (ftoks (bl s))) := by
  have HS := Lib.hid (refScan_any s w hs)
  go_enter Tryz.func13, Tryz.ntmps13
  go_wp2_with fail
  go_at_call 39
  refine HS.out.mono ?_
  rintro e w1 ⟨v, rfl, hrow, hb⟩
  have HR := Lib.hid (ownsRow_below (ownsRow_base hrow (Nat.le_succ _)) ((Below.refl _ w1).alloc (Nat.le_refl _) (.cells #[.int .i64 (ferr (bl s)), .int .i64 (fpos (bl s))] 40)))
  have HB := Lib.hid (hb.trans (((Below.refl _ w1).alloc (Nat.le_refl _) (.cells #[.int .i64 (ferr (bl s)), .int .i64 (fpos (bl s))] 40)).mono hb.size))
  clear hrow hb HS
  go_wp2
  go_ret
  exact ⟨v, rfl, HR.out, HB.out⟩
/-- The tokens that are valid. -/
def valB (k : Int) (x : ByteArray) (p : Int) : Bool := decide (1 ≤ k) && decide (k ≤ 5) && (rkind (bl x) == k) && decide (0 ≤ p) && decide (p < 4000)
set_option maxHeartbeats 3200000 in
theorem valid_any (k : Int) (x : ByteArray) (p : Int) (w : World) (hx : x.size ≤ 9223372036854775807) :
    Calls Tryz.prog 47 #[.agg #[.int .i64 k, .string x, .int .i64 p]] w fun e w' => e = .returned (.bool (valB k x p)) ∧ Below w.heap.size w w' := by
  have hb : Below w.heap.size w (w.alloc (.cells #[.int .i64 k, .string x, .int .i64 p] 44)) := (Below.refl _ w).alloc (Nat.le_refl _) _
  have HB := Lib.hid hb
  have HK := Lib.hid (fun w => kind_any x w hx)
  have hn := tok_cells (heap_alloc_new w (.cells #[.int .i64 k, .string x, .int .i64 p] 44))
  have HN := Lib.hid hn
  clear hb hn
  unfold valB
  generalize rkind (bl x) = r at *
  cases h1 : decide (1 ≤ k)
  rotate_left
  cases h2 : decide (k ≤ 5)
  rotate_left
  cases h3 : (r == k)
  rotate_left
  cases h4 : decide (0 ≤ p)
  rotate_left
  cases h5 : decide (p < 4000)
  all_goals
    go_enter Tryz.func47, Tryz.ntmps47
    go_upto_region 1 with fail
    generalize (w.alloc (.cells #[.int .i64 k, .string x, .int .i64 p] 44)) = V at *
    obtain ⟨⟨c0, c1, c2⟩, -⟩ := HN.out
    have G0 := cell_regrown c0
    have G1 := cell_regrown c1
    have G2 := cell_regrown c2
    refine wp_region_quiet_below (by kernel_rfl) (by kernel_rfl) ?_
    repeat (quiet_step ((go_at_call 64; exact Calls.regrown_of (HK.out _))))
    refine wpQuiet_nil ?_
    intro _ hw'
    obtain ⟨⟨dq, osq⟩, hw''⟩ := hw'
    subst hw''
    clear c0 c1 c2 G0 G1 G2
    go_wp2
    go_ret
    exact ⟨rfl, HB.out.trans ((below_regrown V dq osq).mono HB.out.size)⟩
end Go.Proofs.YthphnacfidofbaaGreatDoor

/- The law's words: tokens of a text that it makes. -/
namespace Go.Proofs.YthphnacfidofbaaGreatDoor
open Go.RowKit Go.Maps Mth

def wordL : List ByteArray := [⟨#[97]⟩, ⟨#[98]⟩, ⟨#[73, 110, 116]⟩, ⟨#[76, 105, 115, 116]⟩, ⟨#[80, 97, 105, 114]⟩, ⟨#[40]⟩, ⟨#[41]⟩, ⟨#[45, 62]⟩, ⟨#[45, 62]⟩, ⟨#[40]⟩, ⟨#[41]⟩, ⟨#[108, 101, 116]⟩, ⟨#[46]⟩, ⟨#[58]⟩, ⟨#[49, 50]⟩, ⟨#[61]⟩, ⟨#[59]⟩]
theorem wordL_at {V : World} {B : Nat} {Z : TypeId} (h : V.heap[B]? = some (.cells #[.string ⟨#[97]⟩, .string ⟨#[98]⟩, .string ⟨#[73, 110, 116]⟩, .string ⟨#[76, 105, 115, 116]⟩, .string ⟨#[80, 97, 105, 114]⟩, .string ⟨#[40]⟩, .string ⟨#[41]⟩, .string ⟨#[45, 62]⟩, .string ⟨#[45, 62]⟩, .string ⟨#[40]⟩, .string ⟨#[41]⟩, .string ⟨#[108, 101, 116]⟩, .string ⟨#[46]⟩, .string ⟨#[58]⟩, .string ⟨#[49, 50]⟩, .string ⟨#[61]⟩, .string ⟨#[59]⟩] Z (0, 0))) (m : Nat) (hm : m < 17) :
    ∃ x : ByteArray, x.size ≤ 4 ∧ V.cell? ⟨B, m, none⟩ = some (.string x) := by
  have hc : m = 0 ∨ m = 1 ∨ m = 2 ∨ m = 3 ∨ m = 4 ∨ m = 5 ∨ m = 6 ∨ m = 7 ∨ m = 8 ∨ m = 9 ∨ m = 10 ∨ m = 11 ∨ m = 12 ∨ m = 13 ∨ m = 14 ∨ m = 15 ∨ m = 16 := by omega
  rcases hc with rfl | rfl | rfl | rfl | rfl | rfl | rfl | rfl | rfl | rfl | rfl | rfl | rfl | rfl | rfl | rfl | rfl
  all_goals
    refine ⟨_, ?_, (by simp only [World.cell?, h]; rfl)⟩
    decide
set_option maxRecDepth 100000 in
set_option maxHeartbeats 3200000 in
theorem words_ft (v : Value) (zs : List Int) (w : World) (h : Ints w v zs) (hz : zs.length ≤ 40) :
    Calls Tryz.prog 16 #[v] w fun e w' => ∃ x : ByteArray, ScanEnd w (ftoks (bl x)) e w' := by
  obtain ⟨a, cap, rfl, hcap, hcap2, hj⟩ := h
  have HJ := Lib.hid hj
  clear hj
  obtain ⟨n, hn⟩ : ∃ n, n = zs.length := ⟨_, rfl⟩
  rw [← hn] at hz hcap ⊢
  have HNl := Lib.hid hn
  clear hn
  have hb0 : Below w.heap.size w (w.alloc (.cells #[.string ⟨#[97]⟩, .string ⟨#[98]⟩, .string ⟨#[73, 110, 116]⟩, .string ⟨#[76, 105, 115, 116]⟩, .string ⟨#[80, 97, 105, 114]⟩, .string ⟨#[40]⟩, .string ⟨#[41]⟩, .string ⟨#[45, 62]⟩, .string ⟨#[45, 62]⟩, .string ⟨#[40]⟩, .string ⟨#[41]⟩, .string ⟨#[108, 101, 116]⟩, .string ⟨#[46]⟩, .string ⟨#[58]⟩, .string ⟨#[49, 50]⟩, .string ⟨#[61]⟩, .string ⟨#[59]⟩] 9)) := (Below.refl _ w).alloc (Nat.le_refl _) _
  have HB0 := Lib.hid hb0
  have HW : Hid (∀ m, m < 17 → ∃ x : ByteArray, x.size ≤ 4 ∧ (w.alloc (.cells #[.string ⟨#[97]⟩, .string ⟨#[98]⟩, .string ⟨#[73, 110, 116]⟩, .string ⟨#[76, 105, 115, 116]⟩, .string ⟨#[80, 97, 105, 114]⟩, .string ⟨#[40]⟩, .string ⟨#[41]⟩, .string ⟨#[45, 62]⟩, .string ⟨#[45, 62]⟩, .string ⟨#[40]⟩, .string ⟨#[41]⟩, .string ⟨#[108, 101, 116]⟩, .string ⟨#[46]⟩, .string ⟨#[58]⟩, .string ⟨#[49, 50]⟩, .string ⟨#[61]⟩, .string ⟨#[59]⟩] 9)).cell? ⟨w.heap.size, m, none⟩ = some (.string x)) := fun m hm => wordL_at (heap_alloc_new w _) m hm
  clear hb0
  go_enter Tryz.func16, Tryz.ntmps16
  go_upto_region 2 with fail
  generalize (w.alloc (.cells #[.string ⟨#[97]⟩, .string ⟨#[98]⟩, .string ⟨#[73, 110, 116]⟩, .string ⟨#[76, 105, 115, 116]⟩, .string ⟨#[80, 97, 105, 114]⟩, .string ⟨#[40]⟩, .string ⟨#[41]⟩, .string ⟨#[45, 62]⟩, .string ⟨#[45, 62]⟩, .string ⟨#[40]⟩, .string ⟨#[41]⟩, .string ⟨#[108, 101, 116]⟩, .string ⟨#[46]⟩, .string ⟨#[58]⟩, .string ⟨#[49, 50]⟩, .string ⟨#[61]⟩, .string ⟨#[59]⟩] 9)) = V at *
  have HJV : Hid (∀ (i : Nat) (x : Int), zs[i]? = some x → ∃ ad, a = some ad ∧ V.cell? (ad.add i) = some (.int .i64 x)) := fun i x hx => by
    obtain ⟨ad, h1, h2⟩ := HJ.out i x hx
    refine ⟨ad, h1, ?_⟩
    rw [HB0.out.cell (World.block_lt_of_cell? _ _ h2)]; exact h2
  clear HJ
  go_wp2
  go_loop [4, 5] (fun s i => ∃ (k : Nat) (x : ByteArray), k ≤ n ∧ i = .int .i64 k ∧ s = .string x ∧ x.size ≤ 5 * k) (fun _ i => n - (intOf i).toNat)
  case atStart => exact ⟨0, ⟨#[]⟩, Nat.zero_le _, rfl, rfl, Nat.zero_le _⟩
  case round =>
    obtain ⟨k, x, hk, rfl, rfl, hx⟩ := hrel
    by_cases hlt : k < n
    · obtain ⟨z, hz'⟩ : ∃ z, zs[k]? = some z := ⟨_, List.getElem?_eq_getElem (by rw [← HNl.out]; exact hlt)⟩
      obtain ⟨ad, rfl, hc⟩ := HJV.out k z hz'
      have e1 := Int.emod_nonneg z (b := 17) (by omega)
      have e2 := Int.emod_lt_of_pos z (b := 17) (by omega)
      obtain ⟨m, hm⟩ : ∃ m : Nat, z % 17 = m := ⟨(z % 17).toNat, by omega⟩
      have HMd : Hid (∀ w, Calls Tryz.prog 18 #[.int .i64 z, .int .i64 17] w fun e w' => e = .returned (.int .i64 m) ∧ w = w') := fun w => by have := mod_any z 17 w (by omega) (by omega); rwa [hm] at this
      have hm1 : m < 17 := by omega
      have hm2 : (m : Int) < 17 := by omega
      have hm0 : (0 : Int) ≤ (m : Int) := by omega
      obtain ⟨y, hy, hcy⟩ := HW.out m hm1
      have hki : (k : Int) < (n : Int) := by omega
      clear e1 e2 hm hz'
      go_wp2_with (go_at_call 18; refine (HMd.out _).mono ?_; rintro e w' ⟨rfl, rfl⟩)
      go_round
      case rel => exact ⟨k + 1, _, hlt, by go_num, rfl, by rw [ByteArray.size_append, ByteArray.size_append]; have h32 : (⟨#[32]⟩ : ByteArray).size = 1 := rfl; omega⟩
      case measure => simp [intOf]; omega
    · obtain rfl : k = n := by omega
      clear HJV HW
      go_wp2_with fail
      go_at_call 13
      refine (scan_any x V (by omega)).mono ?_
      rintro e w1 ⟨v, rfl, hrow, hb⟩
      have HR := Lib.hid (ownsRow_base hrow HB0.out.size)
      have HB := Lib.hid (HB0.out.trans (hb.mono HB0.out.size))
      clear hrow hb
      go_wp2
      go_ret
      exact ⟨_, ⟨v, rfl, HR.out, HB.out⟩⟩
theorem words_any (v : Value) (zs : List Int) (w : World) (h : Ints w v zs) (hz : zs.length ≤ 40) :
    Calls Tryz.prog 16 #[v] w fun e w' => ∃ ts, ScanEnd w ts e w' ∧ TkOk ts ∧ TkVal ts :=
  (words_ft v zs w h hz).mono fun _ _ ⟨_, hx⟩ => ⟨_, hx, ftoks_ok _⟩
/-- No text has more tokens than bytes. -/
theorem ftoks_len (l : List UInt8) : (ftoks l).length ≤ 4000 := by
  unfold ftoks
  split
  · simp
  · rename_i hl
    split
    · have := sc_len _ l 0 (Nat.le_refl _); omega
    · simp
end Go.Proofs.YthphnacfidofbaaGreatDoor
