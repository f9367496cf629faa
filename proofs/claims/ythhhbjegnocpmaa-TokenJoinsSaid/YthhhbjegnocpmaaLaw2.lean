/- The contracts of the law's own functions, further: words, first. -/
import Derived.Test.YthhhbjegnocpmaaLaw
namespace Go.Proofs.Ythhhbjegnocpmaa
open Go.RowKit Mth

/-- A slice that holds numbers, cell by cell. -/
def Ints (w : World) (v : Value) (zs : List Int) : Prop :=
  (v = .slice none 0 0 ∧ zs = []) ∨ ∃ a cap, v = .slice (some a) zs.length cap ∧ zs.length ≤ cap ∧ ∀ i x, zs[i]? = some x → w.cell? (a.add i) = some (.int .i64 x)
theorem ints_below {w w' : World} {v : Value} {zs : List Int} (h : Ints w v zs) (hb : Below w.heap.size w w') : Ints w' v zs := by
  rcases h with h | ⟨a, cap, hv, hn, hc⟩
  · exact .inl h
  · exact .inr ⟨a, cap, hv, hn, fun i x hx => (hb.cell (World.block_lt_of_cell? _ _ (hc i x hx))).trans (hc i x hx)⟩
/-- The pieces with these numbers, one behind the other. -/
def wcat (zs : List Int) : List UInt8 := zs.flatMap wtxt
theorem wcat_snoc (zs : List Int) (k : Nat) (x : Int) (h : zs[k]? = some x) : wcat (zs.take (k + 1)) = wcat (zs.take k) ++ wtxt x := by
  unfold wcat
  rw [List.take_add_one, h]
  simp
theorem wcat_len (zs : List Int) : (wcat zs).length ≤ 14 * zs.length := by
  induction zs with
  | nil => simp [wcat]
  | cons x l ih =>
    have := wtxt_len x
    unfold wcat at *
    rw [List.flatMap_cons, List.length_append, List.length_cons]
    omega
theorem app_mk (a b : List UInt8) : (⟨a.toArray⟩ : ByteArray) ++ ⟨b.toArray⟩ = ⟨(a ++ b).toArray⟩ := by
  apply ByteArray.ext; simp

set_option maxHeartbeats 800000 in
theorem words_any (v : Value) (zs : List Int) (w : World) (hl : zs.length ≤ 100) (hz : Ints w v zs) :
    Calls Try.prog 8 #[v] w fun e w' => e = .returned (.string ⟨(wcat zs).toArray⟩) ∧ Below w.heap.size w w' := by
  rcases hz with ⟨rfl, rfl⟩ | ⟨a, cap, rfl, hn, hc⟩
  · go_enter Try.func8, Try.ntmps8
    go_wp2
    go_rounds 1
    go_ret
    exact ⟨rfl, Below.refl _ _⟩
  have HC := Lib.hid hc
  clear hc
  obtain ⟨n, hnn⟩ : ∃ n, n = zs.length := ⟨_, rfl⟩
  rw [← hnn] at hl hn ⊢
  have HN := Lib.hid hnn
  clear hnn
  go_enter Try.func8, Try.ntmps8
  go_wp2
  go_loopw [3, 4] (fun t i wr => ∃ k : Nat, k ≤ n ∧ i = .int .i64 k ∧ t = .string ⟨(wcat (zs.take k)).toArray⟩ ∧ Below w.heap.size w wr) (fun _ i _ => n - (intOf i).toNat)
  case atStart => exact ⟨0, Nat.zero_le _, rfl, rfl, Below.refl _ _⟩
  case round =>
    obtain ⟨k, hk, rfl, rfl, hb⟩ := hrel
    have hw := wcat_len (zs.take k)
    rw [List.length_take, ← HN.out] at hw
    by_cases hlt : k < n
    · obtain ⟨x, hx⟩ : ∃ x, zs[k]? = some x := ⟨_, List.getElem?_eq_getElem (by rw [← HN.out]; exact hlt)⟩
      have hcx := HC.out k x hx
      have hcell := (hb.cell (World.block_lt_of_cell? _ _ hcx)).trans hcx
      have HT := Lib.hid (wcat_snoc zs k x hx)
      have hwx := wtxt_len x
      clear hx hcx
      generalize wcat (zs.take k) = A at *
      generalize hB : wtxt x = B at *
      have h9 : ¬ 9223372036854775807 < A.length + B.length := by omega
      have HW : Hid (∀ w, Calls Try.prog 13 #[.int .i64 x] w fun e w' => e = .returned (.string ⟨B.toArray⟩) ∧ Below w.heap.size w w') := fun w => by
        have := word_any x w
        rwa [hB] at this
      clear hB
      go_wp2_with (go_at_call 13; refine (HW.out _).mono ?_; rintro e w1 ⟨rfl, hb1⟩)
      go_roundw
      case rel => exact ⟨k + 1, hlt, by go_num, by rw [HT.out, app_mk], hb.trans (hb1.mono hb.size)⟩
      case measure => simp [intOf]; omega
    · obtain rfl : k = n := by omega
      have HT : Hid (wcat (zs.take k) = wcat zs) := by show _ = _; rw [List.take_of_length_le (by rw [← HN.out]; exact Nat.le_refl _)]
      go_wp2
      go_ret
      exact ⟨by rw [← HT.out]; rfl, hb⟩

/-- The first text of the chapter's examples. -/
theorem scan_four (w : World) : Calls Try.prog 9 #[.string ⟨#[92, 120, 46, 120]⟩] w fun e w' => ∃ g cap, e = .returned (.tuple #[.slice (some ⟨g, 0, none⟩) 4 cap, .agg #[.int .i64 0, .int .i64 0]]) ∧ 4 ≤ cap ∧
    w'.cell? ⟨g, 0, none⟩ = some (.int .i64 5) ∧ w'.cell? ⟨g, 1, none⟩ = some (.string ⟨#[92]⟩) ∧ w'.cell? ⟨g, 10, none⟩ = some (.string ⟨#[120]⟩) ∧ w'.cell? ⟨g, 11, none⟩ = some (.int .i64 3) ∧ Below w.heap.size w w' := by
  refine (scan_any ⟨#[92, 120, 46, 120]⟩ w (by decide)).mono ?_
  rintro e w' ⟨v, rfl, hown, hb⟩
  have h1 : ferr (bl ⟨#[92, 120, 46, 120]⟩) = 0 := by decide +kernel
  have h2 : fpos (bl ⟨#[92, 120, 46, 120]⟩) = 0 := by decide +kernel
  have h3 : ftoks (bl ⟨#[92, 120, 46, 120]⟩) = [⟨5, [92], 0⟩, ⟨1, [120], 1⟩, ⟨5, [46], 2⟩, ⟨1, [120], 3⟩] := by rfl
  rw [h3] at hown
  rw [h1, h2]
  rcases toks_of_row hown with ⟨_, h⟩ | ⟨g, cap, rfl, hn, hc⟩
  · cases h
  · have c0 := hc 0 _ rfl
    have c3 := hc 3 _ rfl
    exact ⟨g, cap, rfl, hn, c0.1, c0.2.1, c3.2.1, c3.2.2, hb⟩
/-- The second one. -/
theorem scan_two (w : World) : Calls Try.prog 9 #[.string ⟨#[48, 49]⟩] w fun e w' => ∃ v, e = .returned (.tuple #[v, .agg #[.int .i64 2, .int .i64 0]]) ∧ Below w.heap.size w w' := by
  refine (scan_any ⟨#[48, 49]⟩ w (by decide)).mono ?_
  rintro e w' ⟨v, rfl, hown, hb⟩
  have h1 : ferr (bl ⟨#[48, 49]⟩) = 2 := by decide +kernel
  have h2 : fpos (bl ⟨#[48, 49]⟩) = 0 := by decide +kernel
  rw [h1, h2]
  exact ⟨v, rfl, hb⟩
set_option maxHeartbeats 800000 in
theorem lawFirst_any (w : World) : Calls Try.prog 7 #[] w fun e w' => e = .returned (.bool true) ∧ Below w.heap.size w w' := by
  go_enter Try.func7, Try.ntmps7
  go_wp2_with fail
  go_at_call 9
  refine (scan_four _).mono ?_
  rintro e w1 ⟨g, cap, rfl, hcap, c0, c1, c2, c3, hb1⟩
  go_wp2_with fail
  go_at_call 9
  refine (scan_two _).mono ?_
  rintro e w2 ⟨v, rfl, hb2⟩
  have hb12 : Below w1.heap.size w1 w2 := ((Below.refl _ _).alloc (Nat.le_refl _) _).trans (hb2.mono (by simp))
  have d0 := (hb12.cell (World.block_lt_of_cell? _ _ c0)).trans c0
  have d1 := (hb12.cell (World.block_lt_of_cell? _ _ c1)).trans c1
  have d2 := (hb12.cell (World.block_lt_of_cell? _ _ c2)).trans c2
  have d3 := (hb12.cell (World.block_lt_of_cell? _ _ c3)).trans c3
  have f0 : w2.cell? ⟨w1.heap.size, 0, none⟩ = some (.int .i64 0) := by rw [hb2.cell (p := ⟨w1.heap.size, 0, none⟩) (by simp)]; simp
  have hg : g < w2.heap.size := World.block_lt_of_cell? _ _ d0
  have hg1 : w1.heap.size < w2.heap.size := by have := hb2.size; simp at this; omega
  have hbw : Below w.heap.size w w2 := hb1.trans (hb12.mono hb1.size)
  clear c0 c1 c2 c3 hb1 hb2 hb12
  go_wp2
  go_ret
  exact ⟨rfl, hbw.alloc hbw.size _⟩

theorem scanF_len : ∀ (f : Nat) (l : List UInt8) (p : Nat), (scanF f l p).1.length ≤ f := by
  intro f
  induction f with
  | zero => intro l p; simp [scanF]
  | succ f ih =>
    intro l p
    unfold scanF
    split
    · simp
    · split
      · simp
      · split
        · have := ih (l.drop (stp l).2) (p + (stp l).2); omega
        · have := ih (l.drop (stp l).2) (p + (stp l).2); simp only [List.length_cons]; omega
theorem ftoks_len (l : List UInt8) : (ftoks l).length ≤ 1000000 := by
  unfold ftoks
  split
  · simp
  · rename_i h
    have := scanF_len l.length l 0
    split
    · unfold sc; omega
    · simp
end Go.Proofs.Ythhhbjegnocpmaa
