/- The contract of the law's same: two rows of tokens that agree. -/
import Derived.Test.YthhhbjegnocpmaaScan
import Derived.LoopTactic
import Derived.BigQuiet
namespace Go.Proofs.Ythhhbjegnocpmaa
open Go.RowKit Mth

/-- A slice that holds tokens, cell by cell. -/
def Toks (w : World) (v : Value) (ts : List Tok) : Prop :=
  (v = .slice none 0 0 ∧ ts = []) ∨
  ∃ g cap, v = .slice (some ⟨g, 0, none⟩) ts.length cap ∧ ts.length ≤ cap ∧ ∀ j t, ts[j]? = some t →
    w.cell? ⟨g, j * 3, none⟩ = some (.int .i64 t.kind) ∧ w.cell? ⟨g, j * 3 + 1, none⟩ = some (.string ⟨t.text.toArray⟩) ∧ w.cell? ⟨g, j * 3 + 2, none⟩ = some (.int .i64 t.pos)
theorem row3_get : ∀ (l : List Tok) (j : Nat) (t : Tok), l[j]? = some t →
    (row3 l)[3 * j]? = some (.int .i64 t.kind) ∧ (row3 l)[3 * j + 1]? = some (.string ⟨t.text.toArray⟩) ∧ (row3 l)[3 * j + 2]? = some (.int .i64 t.pos) := by
  intro l
  induction l with
  | nil => intro j t h; simp at h
  | cons x l ih =>
    intro j t h
    have e : row3 (x :: l) = cells3 x ++ row3 l := by simp [row3]
    cases j with
    | zero =>
      simp at h; subst h
      rw [e]
      exact ⟨rfl, rfl, rfl⟩
    | succ j =>
      have h' : l[j]? = some t := by simpa using h
      have := ih j t h'
      rw [e]
      have hl : (cells3 x).length = 3 := rfl
      refine ⟨?_, ?_, ?_⟩
      · rw [List.getElem?_append_right (by omega), hl, show 3 * (j + 1) - 3 = 3 * j by omega]; exact this.1
      · rw [List.getElem?_append_right (by omega), hl, show 3 * (j + 1) + 1 - 3 = 3 * j + 1 by omega]; exact this.2.1
      · rw [List.getElem?_append_right (by omega), hl, show 3 * (j + 1) + 2 - 3 = 3 * j + 2 by omega]; exact this.2.2
theorem toks_of_row {w : World} {base : Nat} {v : Value} {ts : List Tok} (h : w.ownsRow base 40 3 v ts.length (row3 ts)) : Toks w v ts := by
  rcases h.2 with ⟨rfl, h0⟩ | ⟨g, cap, cur, rfl, hg, hc, hn, _⟩
  · exact .inl ⟨rfl, List.eq_nil_of_length_eq_zero h0⟩
  · refine .inr ⟨g, cap, rfl, hn, fun j t ht => ?_⟩
    have hr := row3_get ts j t ht
    have hx : ∀ i u, (row3 ts)[i]? = some u → w.cell? ⟨g, i, none⟩ = some u := fun i u hu => by
      have := h.cells (g := g) rfl i u hu
      have e : (⟨g, 0, none⟩ : Addr).add i = ⟨g, i, none⟩ := by unfold Addr.add; split <;> simp_all
      rwa [e] at this
    rw [Nat.mul_comm 3 j] at hr
    exact ⟨hx _ _ hr.1, hx _ _ hr.2.1, hx _ _ hr.2.2⟩
theorem toks_below {w w' : World} {v : Value} {ts : List Tok} (h : Toks w v ts) (hb : Below w.heap.size w w') : Toks w' v ts := by
  rcases h with h | ⟨g, cap, hv, hn, hc⟩
  · exact .inl h
  · refine .inr ⟨g, cap, hv, hn, fun j t ht => ?_⟩
    obtain ⟨h1, h2, h3⟩ := hc j t ht
    exact ⟨(hb.cell (World.block_lt_of_cell? _ _ h1)).trans h1, (hb.cell (World.block_lt_of_cell? _ _ h2)).trans h2, (hb.cell (World.block_lt_of_cell? _ _ h3)).trans h3⟩
theorem kt_get {a b : List Tok} (h : kt a = kt b) {j : Nat} {x y : Tok} (hx : a[j]? = some x) (hy : b[j]? = some y) : x.kind = y.kind ∧ x.text = y.text := by
  have h1 : (kt a)[j]? = some (x.kind, x.text) := by unfold kt; rw [List.getElem?_map, hx]; rfl
  have h2 : (kt b)[j]? = some (y.kind, y.text) := by unfold kt; rw [List.getElem?_map, hy]; rfl
  rw [h, h2] at h1
  simp at h1
  exact ⟨h1.1.symm, h1.2.symm⟩
theorem kt_len {a b : List Tok} (h : kt a = kt b) : a.length = b.length := by
  have := congrArg List.length h
  simpa [kt] using this

set_option maxHeartbeats 1600000 in
theorem same_any (v1 v2 : Value) (p : Bool) (t1 t2 : List Tok) (w : World) (hl : t1.length ≤ 1000000) (h1 : Toks w v1 t1) (h2 : Toks w v2 t2) (hk : kt t1 = kt t2) (hp : p = true → t1 = t2) :
    Calls Try.prog 11 #[v1, v2, .bool p] w fun e w' => e = .returned (.bool true) ∧ Below w.heap.size w w' := by
  have hlen := kt_len hk
  rcases h1 with ⟨rfl, rfl⟩ | ⟨g1, cap1, rfl, hn1, hc1⟩
  · have hn : t2 = [] := List.eq_nil_of_length_eq_zero (by simpa using hlen.symm)
    subst hn
    rcases h2 with ⟨rfl, _⟩ | ⟨g2, cap2, rfl, _, _⟩
    all_goals
      go_enter Try.func11, Try.ntmps11
      go_wp2
      go_rounds 1
      go_ret
      exact ⟨rfl, Below.refl _ _⟩
  rcases h2 with ⟨rfl, rfl⟩ | ⟨g2, cap2, rfl, hn2, hc2⟩
  · have hn : t1.length = 0 := by simpa using hlen
    have hz : t1 = [] := List.eq_nil_of_length_eq_zero hn
    subst hz
    go_enter Try.func11, Try.ntmps11
    go_wp2
    go_rounds 1
    go_ret
    exact ⟨rfl, Below.refl _ _⟩
  have HC1 := Lib.hid hc1
  have HC2 := Lib.hid hc2
  have HK := Lib.hid hk
  have HP := Lib.hid hp
  clear hc1 hc2 hk hp
  rw [← hlen] at hn2 ⊢
  obtain ⟨N, hN⟩ : ∃ N, N = t1.length := ⟨_, rfl⟩
  rw [← hN] at hn1 hn2 hlen ⊢
  have HN := Lib.hid hN
  have HL := Lib.hid hlen
  have hNb : N ≤ 1000000 := by rw [HN.out]; exact hl
  clear hN hlen
  go_enter Try.func11, Try.ntmps11
  go_wp2
  go_loopw [7] (fun i wr => ∃ j : Nat, j ≤ N ∧ i = .int .i64 j ∧ Below w.heap.size w wr) (fun i _ => N - (intOf i).toNat)
  case atStart => exact ⟨0, Nat.zero_le _, rfl, Below.refl _ _⟩
  case round =>
    obtain ⟨j, hj, rfl, hb⟩ := hrel
    by_cases hlt : j < N
    · obtain ⟨x, hx⟩ : ∃ x, t1[j]? = some x := ⟨_, List.getElem?_eq_getElem (by rw [← HN.out]; exact hlt)⟩
      obtain ⟨y, hy⟩ : ∃ y, t2[j]? = some y := ⟨_, List.getElem?_eq_getElem (by rw [← HL.out]; exact hlt)⟩
      obtain ⟨a1, a2, a3⟩ := HC1.out j x hx
      obtain ⟨b1, b2, b3⟩ := HC2.out j y hy
      have hq := kt_get HK.out hx hy
      have hpp : p = true → y.pos = x.pos := fun h => by have := HP.out h; subst this; rw [hx] at hy; cases hy; rfl
      rw [← hq.1] at b1
      rw [← hq.2] at b2
      clear hq hx hy
      have A1 := (hb.cell (World.block_lt_of_cell? _ _ a1)).trans a1
      have A2 := (hb.cell (World.block_lt_of_cell? _ _ a2)).trans a2
      have A3 := (hb.cell (World.block_lt_of_cell? _ _ a3)).trans a3
      have B1 := (hb.cell (World.block_lt_of_cell? _ _ b1)).trans b1
      have B2 := (hb.cell (World.block_lt_of_cell? _ _ b2)).trans b2
      have B3 := (hb.cell (World.block_lt_of_cell? _ _ b3)).trans b3
      clear a1 a2 a3 b1 b2 b3
      have hji : (j : Int) < (N : Int) := by omega
      generalize x.kind = K at *
      generalize (⟨x.text.toArray⟩ : ByteArray) = tx at *
      generalize x.pos = p1 at *
      generalize y.pos = p2 at *
      cases p with
      | false =>
        clear hpp
        go_wp2
        go_quiet (fail)
        go_wp2
        go_roundw
        case rel => exact ⟨j + 1, hlt, by go_num, below_drewN hb _⟩
        case measure => simp [intOf]; omega
      | true =>
        obtain rfl := hpp rfl
        clear hpp
        go_wp2
        go_quiet (fail)
        go_wp2
        go_roundw
        case rel => exact ⟨j + 1, hlt, by go_num, below_drewN hb _⟩
        case measure => simp [intOf]; omega
    · go_wp2
      go_ret
      exact ⟨rfl, hb⟩
end Go.Proofs.Ythhhbjegnocpmaa
