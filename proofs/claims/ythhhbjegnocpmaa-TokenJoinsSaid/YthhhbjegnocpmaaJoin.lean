/- The contracts of the two Valid and the two Join, where every token is valid. -/
import Derived.Test.YthhhbjegnocpmaaSame
import Derived.Test.YthhhbjegnocpmaaKind
namespace Go.Proofs.Ythhhbjegnocpmaa
open Go.RowKit Mth

/-- A token that can occur in a result of Scan. -/
def Vt (t : Tok) : Prop := rkind t.text = t.kind ∧ t.kind ≠ 0 ∧ t.pos < 4000 ∧ t.text.length ≤ 14
theorem vt_ne {t : Tok} (h : Vt t) : t.text ≠ [] := by
  intro e
  have := h.1
  rw [e] at this
  exact h.2.1 (this.symm.trans (by decide))
theorem vt_stp {t : Tok} (h : Vt t) : stp t.text = (t.kind, t.text.length) := by
  have := stp_token (t := t.text) (r := []) (by rw [h.1]; exact h.2.1) (by intro d x hd; cases hd)
  rwa [List.append_nil, h.1] at this
theorem vt_kind {t : Tok} (h : Vt t) : 1 ≤ t.kind ∧ t.kind ≤ 5 := by
  have h1 := rkind_cases t.text
  have h2 := h.2.1
  rw [h.1] at h1
  omega

set_option maxHeartbeats 800000 in
theorem valid_any (t : Tok) (h : Vt t) (w : World) :
    Calls Try.prog 24 #[.agg #[.int .i64 t.kind, .string ⟨t.text.toArray⟩, .int .i64 t.pos]] w fun e w' => e = .returned (.bool true) ∧ Below w.heap.size w w' := by
  have hb : bl ⟨t.text.toArray⟩ = t.text := bl_mk _
  have hsz : (⟨t.text.toArray⟩ : ByteArray).size = t.text.length := by rw [← bl_len, hb]
  have hpos : 0 < t.text.length := by have := vt_ne h; cases hl : t.text with
    | nil => exact absurd hl this
    | cons => simp
  have hF : Hid (∀ w, Calls Try.prog 17 #[.string ⟨t.text.toArray⟩] w fun e w' => e = .returned (.tuple #[.int .i64 t.kind, .int .i64 t.text.length]) ∧ w = w') := fun w => by
    have := first_some ⟨t.text.toArray⟩ w (by rw [hsz]; exact hpos) (by rw [hsz]; have := h.2.2.2; omega)
    rw [hb, vt_stp h] at this
    exact this
  have hn := nil_size (s := ⟨t.text.toArray⟩) (by rw [hsz]; exact hpos)
  obtain ⟨hk1, hk2⟩ := vt_kind h
  have hp := h.2.2.1
  clear h hpos hb
  generalize t.kind = K at *
  generalize t.pos = p at *
  generalize hl : t.text.length = n at *
  generalize (⟨t.text.toArray⟩ : ByteArray) = S at *
  clear hl
  go_enter Try.func24, Try.ntmps24
  go_wp2_with (go_at_call 17; refine (hF.out _).mono ?_; rintro e w' ⟨rfl, rfl⟩)
  go_ret
  exact ⟨ret_bool (a := decide ((p : Int) < 4000)) (by simp; omega), (Below.refl _ _).alloc (Nat.le_refl _) _⟩

/-- What the drawn statement keeps. -/
theorem keepV {w W W' : World} {u v x : Value} (h0 : W.cell? ⟨w.heap.size, 0, none⟩ = some u) (h1 : W.cell? ⟨w.heap.size, 1, none⟩ = some v) (h2 : W.cell? ⟨w.heap.size, 2, none⟩ = some x) (h3 : Below w.heap.size w W) (hb : Below W.heap.size W W') :
    W'.cell? ⟨w.heap.size, 0, none⟩ = some u ∧ W'.cell? ⟨w.heap.size, 1, none⟩ = some v ∧ W'.cell? ⟨w.heap.size, 2, none⟩ = some x ∧ Below w.heap.size w W' :=
  ⟨(hb.cell (p := ⟨w.heap.size, 0, none⟩) (World.block_lt_of_cell? _ _ h0)).trans h0, (hb.cell (p := ⟨w.heap.size, 1, none⟩) (World.block_lt_of_cell? _ _ h1)).trans h1, (hb.cell (p := ⟨w.heap.size, 2, none⟩) (World.block_lt_of_cell? _ _ h2)).trans h2, h3.trans (hb.mono h3.size)⟩
set_option maxHeartbeats 3200000 in
theorem refValid_any (t : Tok) (h : Vt t) (w : World) :
    Calls Try.prog 26 #[.agg #[.int .i64 t.kind, .string ⟨t.text.toArray⟩, .int .i64 t.pos]] w fun e w' => e = .returned (.bool true) ∧ Below w.heap.size w w' := by
  have hb : bl ⟨t.text.toArray⟩ = t.text := bl_mk _
  have hsz : (⟨t.text.toArray⟩ : ByteArray).size = t.text.length := by rw [← bl_len, hb]
  have hF : Hid (∀ w, Calls Try.prog 14 #[.string ⟨t.text.toArray⟩] w fun e w' => e = .returned (.int .i64 t.kind) ∧ Below w.heap.size w w') := fun w => by
    have := kind_any ⟨t.text.toArray⟩ w (by rw [hsz]; have := h.2.2.2; omega)
    rw [hb, h.1] at this
    exact this
  obtain ⟨hk1, hk2⟩ := vt_kind h
  have hp : (t.pos : Int) < 4000 := by have := h.2.2.1; omega
  have hp0 : (0 : Int) ≤ (t.pos : Int) := by omega
  clear h hb hsz
  generalize t.kind = K at *
  generalize (t.pos : Int) = p at *
  generalize (⟨t.text.toArray⟩ : ByteArray) = S at *
  go_enter Try.func26, Try.ntmps26
  go_wp2
  have hb0 : Below w.heap.size w (w.alloc (.cells #[.int .i64 K, .string S, .int .i64 p] 40)) := (Below.refl _ _).alloc (Nat.le_refl _) _
  have hc0 : (w.alloc (.cells #[.int .i64 K, .string S, .int .i64 p] 40)).cell? ⟨w.heap.size, 0, none⟩ = some (.int .i64 K) := by simp
  have hc1 : (w.alloc (.cells #[.int .i64 K, .string S, .int .i64 p] 40)).cell? ⟨w.heap.size, 1, none⟩ = some (.string S) := by simp
  have hc2 : (w.alloc (.cells #[.int .i64 K, .string S, .int .i64 p] 40)).cell? ⟨w.heap.size, 2, none⟩ = some (.int .i64 p) := by simp
  go_region_held3 (fun w' => w'.cell? ⟨w.heap.size, 0, none⟩ = some (.int .i64 K) ∧ w'.cell? ⟨w.heap.size, 1, none⟩ = some (.string S) ∧ w'.cell? ⟨w.heap.size, 2, none⟩ = some (.int .i64 p) ∧ Below w.heap.size w w')
    (first
      | (go_split_ands; exact keepV (by assumption) (by assumption) (by assumption) (by assumption) hb)
      | (go_split_ands; exact ⟨by assumption, by assumption, by assumption, by assumption⟩)
      | exact ⟨hc0, hc1, hc2, Below.drew hb0⟩)
    (first | (go_at_call 14; go_split_ands; refine (hF.out _).mono ?_; rintro e w' ⟨rfl, hb⟩))
  go_split_ands
  go_wp2
  go_ret
  exact ⟨rfl, by assumption⟩
end Go.Proofs.Ythhhbjegnocpmaa
