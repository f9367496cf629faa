/- The contracts of the maker's small functions: Mod, Few, Next, SmallType, ValidType. -/
import Derived.Test.YtahiefgfhpkoeaaTyVal3
import Derived.Test.YtahiefgfhpkoeaaTyInts
import Derived.Test.YtahiefgfhpkoeaaTyNk
namespace Go.Proofs.Ytahiefgfhpkoeaa
open Go.RowKit Go.Sort Go.Shelf Go.Maps Mth

theorem mod_any (a n : Int) (w : World) (h1 : 1 ≤ n) (h2 : n ≤ 1000001) :
    Calls Try.prog 17 #[.int .i64 a, .int .i64 n] w fun e w' => e = .returned (.int .i64 (a % n)) ∧ w = w' := by
  have e1 := Int.emod_nonneg a (b := n) (by omega)
  have e2 := Int.emod_lt_of_pos a (b := n) (by omega)
  have HT : Hid ((a.tmod n = a % n) ∨ (a.tmod n = a % n - n ∧ a % n ≠ 0)) := by
    show _ ∨ _
    rw [Int.tmod_eq_emod]
    by_cases hc : 0 ≤ a ∨ n ∣ a
    · left; simp only [hc, if_true]; omega
    · right
      simp only [hc, if_false]
      refine ⟨by omega, fun h => hc (.inr (Int.dvd_of_emod_eq_zero h))⟩
  have hb : -n < a.tmod n ∧ a.tmod n < n := by rcases HT.out with h | ⟨h, h'⟩ <;> omega
  have HE : Hid (a % n = if a.tmod n < 0 then a.tmod n + n else a.tmod n) := by
    show a % n = _
    rcases HT.out with h | ⟨h, h'⟩
    · rw [if_neg (by omega)]; omega
    · rw [if_pos (by omega)]; omega
  clear HT e1 e2
  obtain ⟨hb1, hb2⟩ := hb
  go_enter Try.func17, Try.ntmps17
  go_wp2
  all_goals
    go_ret
    refine ⟨ret_int ?_, rfl⟩
    rw [HE.out]
  · rw [if_pos (by assumption)]
  · rw [if_neg (by omega)]

/-- The block is a tape with these choices, at this place. -/
def TapeAt (w : World) (t : Nat) (lv : Value) (i : Nat) : Prop := w.heap[t]? = some (.cells #[lv, .int .i64 i] 33 (0, 0))
theorem TapeAt.lt {w : World} {t : Nat} {lv : Value} {i : Nat} (h : TapeAt w t lv i) : t < w.heap.size := (Array.getElem?_eq_some_iff.1 h).1
theorem TapeAt.lift {w w' : World} {t : Nat} {lv : Value} {i : Nat} (h : TapeAt w t lv i) (hb : Below w.heap.size w w') : TapeAt w' t lv i := by unfold TapeAt at *; rw [hb.block _ (Array.getElem?_eq_some_iff.1 h).1, h]
theorem TapeAt.cells {w : World} {t : Nat} {lv : Value} {i : Nat} (h : TapeAt w t lv i) : w.cell? ⟨t, 0, none⟩ = some lv ∧ w.cell? ⟨t, 1, none⟩ = some (.int .i64 i) ∧ w.frozen? ⟨t, 1, none⟩ = false := by
  unfold TapeAt at h
  simp [World.cell?, World.frozen?, h]
theorem few_any (v : Value) (zs : List Int) (w : World) (h : Ints w v zs) : Calls Try.prog 10 #[v] w fun e w' => e = .returned (.bool (decide (zs.length ≤ 60))) ∧ w = w' := by
  obtain ⟨a, cap, rfl, -⟩ := h
  go_enter Try.func10, Try.ntmps10
  go_wp2
  go_ret
  exact ⟨ret_bool (by rw [Bool.eq_iff_iff]; simp <;> omega), rfl⟩

/-- A tape of choices in a block of its own. -/
def Tp (w : World) (b : Nat) : Prop :=
  ∃ (zs : List Int) (a : Option Addr) (cap i : Nat), TapeAt w b (.slice a zs.length cap) i ∧ i ≤ zs.length ∧ zs.length ≤ 1000 ∧ ∀ (j : Nat) (x : Int), zs[j]? = some x → ∃ ad, a = some ad ∧ ad.block ≠ b ∧ w.cell? (ad.add j) = some (.int .i64 x)
theorem Tp.lt {w : World} {b : Nat} (h : Tp w b) : b < w.heap.size := by
  obtain ⟨_, _, _, _, h, _⟩ := h
  exact h.lt
theorem Tp.lift {w w' : World} {b : Nat} (h : Tp w b) (hb : Below w.heap.size w w') : Tp w' b := by
  obtain ⟨zs, a, cap, i, h1, h2, h3, h4⟩ := h
  refine ⟨zs, a, cap, i, h1.lift hb, h2, h3, fun j x hx => ?_⟩
  obtain ⟨ad, e1, e2, e3⟩ := h4 j x hx
  exact ⟨ad, e1, e2, (hb.cell (World.block_lt_of_cell? _ _ e3)).trans e3⟩
theorem below_grown_some {w w' : World} (h : Below w.heap.size w w') (b : Nat) : w.grownBy w' (some b) := grown_of_below h _
set_option maxHeartbeats 1600000 in
theorem next_any (n : Int) (h1 : 1 ≤ n) (h2 : n ≤ 1000) (b : Nat) (w : World) (h : Tp w b) :
    Calls Try.prog 43 #[.pointer (some ⟨b, 0, none⟩), .int .i64 n] w fun e w' => ∃ r : Nat, e = .returned (.int .i64 r) ∧ (r : Int) < n ∧ Tp w' b ∧ w.grownBy w' (some b) := by
  obtain ⟨zs, a, cap, i, ht, hi, hl, hc⟩ := h
  obtain ⟨c0, c1, f1⟩ := ht.cells
  have HC := Lib.hid hc
  clear hc
  by_cases hlt : i < zs.length
  · have hge : decide ((zs.length : Int) ≤ (i : Int)) = false := by simpa using hlt
    obtain ⟨x, hx⟩ : ∃ x, zs[i]? = some x := ⟨_, List.getElem?_eq_getElem hlt⟩
    obtain ⟨ad, rfl, hne, hcx⟩ := HC.out i x hx
    clear hx
    have HT := Lib.hid ht
    have HM : Hid (∀ w, Calls Try.prog 17 #[.int .i64 x, .int .i64 n] w fun e w' => e = .returned (.int .i64 (x % n)) ∧ w' = w) := fun w => (mod_any x n w h1 (by omega)).mono fun _ _ ⟨a, b⟩ => ⟨a, b.symm⟩
    have e1 := Int.emod_nonneg x (b := n) (by omega)
    have e2 := Int.emod_lt_of_pos x (b := n) (by omega)
    generalize x % n = r at *
    clear ht
    obtain ⟨ln, hln⟩ : ∃ ln, ln = zs.length := ⟨_, rfl⟩
    rw [← hln] at hi hl hlt hge c0 HT
    have HL := Lib.hid hln
    clear hln
    go_enter Try.func43, Try.ntmps43
    go_wp2
    go_quiet (fail)
    go_wp2
    have hbd : Below w.heap.size w (w.drewN nq) := below_drewN (Below.refl _ w) nq
    have HT2 := Lib.hid (HT.out.lift hbd)
    have hset := set1 HT2.out 1 (.int .i64 ((i : Int) + 1))
    have HT3 : Hid (TapeAt ((w.drewN nq).setCell ⟨b, 1, none⟩ (.int .i64 ((i : Int) + 1))) b (.slice (some ad) ln cap) (i + 1)) := by
      show TapeAt _ _ _ _
      unfold TapeAt
      rw [hset.1]
      simp
    have HG : Hid (w.grownBy ((w.drewN nq).setCell ⟨b, 1, none⟩ (.int .i64 ((i : Int) + 1))) (some b)) := grown_trans (below_grown_some hbd b) hset.2.1
    have hcx3 : ((w.drewN nq).setCell ⟨b, 1, none⟩ (.int .i64 ((i : Int) + 1))).cell? (ad.add i) = some (.int .i64 x) := HG.out.cell hcx (by rw [add_block]; intro e; exact hne (Option.some.inj e))
    clear hset c0 c1 f1 hcx
    generalize ((w.drewN nq).setCell ⟨b, 1, none⟩ (.int .i64 ((i : Int) + 1))) = W at *
    obtain ⟨c0, c1, f1⟩ := HT3.out.cells
    have hwr : IntKind.i64.wrap (i : Int) = i := by rw [IntKind.wrap_i64]; omega
    go_quiet ((go_at_call 17; exact Calls.quiet_of_same (HM.out _)))
    go_wp2
    go_ret
    have hb2 : Below W.heap.size W (W.drewN nq) := below_drewN (Below.refl _ W) nq
    refine ⟨r.toNat, ret_int (by omega), by omega, ?_, grown_trans HG.out (below_grown_some hb2 b)⟩
    refine Tp.lift ⟨zs, some ad, cap, i + 1, by rw [← HL.out]; exact HT3.out, by rw [← HL.out]; omega, by rw [← HL.out]; omega, fun j y hy => ?_⟩ hb2
    obtain ⟨ad', e, h3, h4⟩ := HC.out j y hy
    exact ⟨ad', e, h3, HG.out.cell h4 (by rw [add_block]; intro e; exact h3 (Option.some.inj e))⟩
  · have hge : decide ((zs.length : Int) ≤ (i : Int)) = true := by simpa using hlt
    go_enter Try.func43, Try.ntmps43
    go_wp2
    go_quiet (fail)
    go_wp2
    go_ret
    have hb : Below w.heap.size w (w.drewN nq) := below_drewN (Below.refl _ w) nq
    exact ⟨0, rfl, by omega, Tp.lift ⟨zs, a, cap, i, ht, hi, hl, HC.out⟩ hb, below_grown_some hb b⟩
end Go.Proofs.Ytahiefgfhpkoeaa
