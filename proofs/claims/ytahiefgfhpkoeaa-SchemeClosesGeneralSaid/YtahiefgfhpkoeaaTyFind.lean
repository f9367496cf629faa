/- The contracts of IndexFunc and ContainsFunc at types. -/
import Derived.Test.YtahiefgfhpkoeaaTyEq3
namespace Go.Proofs.Ytahiefgfhpkoeaa
open Go.RowKit Go.Sort Go.Shelf Mth

/-- What is asked of a predicate that is handed over. -/
def PredOf (P : Program) (g : Nat) (lb : Array Value) (p : Ty → Bool) (w : World) (T : Ty) : Prop :=
  ∀ (v : Value) (S : Nat → Prop) (w' : World), Below w.heap.size w w' → Rep w' S T v → Calls P g (#[v] ++ lb) w' fun e w'' => e = .returned (.bool (p T)) ∧ Below w'.heap.size w' w''
theorem any_step {p : Ty → Bool} {l : List Ty} {j : Nat} {t : Ty} (h : l[j]? = some t) : (l.drop j).any p = (p t || (l.drop (j + 1)).any p) := by
  obtain ⟨hl, e⟩ := List.getElem?_eq_some_iff.1 h
  rw [List.drop_eq_getElem_cons hl, e]
  rfl

set_option maxHeartbeats 1600000 in
theorem indexFunc_of (g : Nat) (lb : Array Value) (eg : ∀ args w, (callFunc g args).run Try.prog w = .ok (.enter g args) w) (p : Ty → Bool) (l : List Ty) (v : Value) (S : Nat → Prop) (w : World)
    (H : ∀ T ∈ l, PredOf Try.prog g lb p w T) (h : RepL w S l v) :
    Calls Try.prog 105 #[v, .func (.func g) #[] lb] w fun e w' => ∃ r : Int, e = .returned (.int .i64 r) ∧ decide (0 ≤ r) = l.any p ∧ Below w.heap.size w w' := by
  obtain ⟨a, cap, rfl, ⟨hc1, hc2⟩, hj⟩ := h
  have HJ := Lib.hid hj
  have HH := Lib.hid H
  clear hj H
  unfold maxLen at hc2
  have HE : Hid (l.any p = (l.drop 0).any p) := by show _ = _; simp
  obtain ⟨m, hm⟩ : ∃ m, m = l.length := ⟨_, rfl⟩
  rw [← hm] at hc1 ⊢
  have HM := Lib.hid hm
  clear hm
  go_enter Try.func105, Try.ntmps105
  go_wp2
  go_loopw [8] (fun i wr => ∃ j : Nat, j ≤ m ∧ i = .int .i64 j ∧ Hid (l.any p = (l.drop j).any p) ∧ Below w.heap.size w wr) (fun i _ => m - (intOf i).toNat)
  case atStart => exact ⟨0, Nat.zero_le _, rfl, HE, Below.refl _ _⟩
  case round =>
    obtain ⟨j, hj, rfl, HT, hb⟩ := hrel
    by_cases hlt : j < m
    · obtain ⟨T, hT⟩ : ∃ x, l[j]? = some x := ⟨_, List.getElem?_eq_getElem (by rw [← HM.out]; exact hlt)⟩
      have HTm : Hid (T ∈ l) := List.mem_of_getElem? hT
      obtain ⟨ad, x, rfl, hS, h5, hx⟩ := HJ.out j T hT
      have HS := Lib.hid (any_step (p := p) hT)
      clear hT
      have hx' := hx.lift hb
      have g5 := h5.kept (hb.block _ h5.lt)
      obtain ⟨k, n, i, h, s, eT, rfl, hn, hs⟩ := hx'.open
      obtain ⟨q0, q1, q2, q3, q4⟩ := five_at g5
      obtain ⟨sa, sc, rfl, -⟩ := hs
      clear h5 hx g5 eT hn hS
      have HX := Lib.hid hx'
      clear hx'
      have hji : (j : Int) < (m : Int) := by omega
      generalize T.ts.length = sn at *
      have HC := Lib.hid (HH.out T HTm.out _ S wr hb HX.out)
      cases hq : p T with
      | true =>
        rw [hq] at HC
        have HS2 : Hid (l.any p = true) := by
          show _ = _
          rw [HT.out, HS.out, hq]; rfl
        clear hq
        go_wp2_with (go_at_fn g; refine HC.out.mono ?_; rintro e w1 ⟨rfl, hb1⟩)
        go_ret
        exact ⟨_, rfl, by rw [HS2.out]; simp, hb.trans (hb1.mono hb.size)⟩
      | false =>
        rw [hq] at HC
        have HS2 : Hid (l.any p = (l.drop (j + 1)).any p) := by
          show _ = _
          rw [HT.out, HS.out, hq]; rfl
        clear hq
        go_wp2_with (go_at_fn g; refine HC.out.mono ?_; rintro e w1 ⟨rfl, hb1⟩)
        go_roundw
        case rel => exact ⟨j + 1, hlt, by go_num, HS2, hb.trans (hb1.mono hb.size)⟩
        case measure => simp [intOf]; omega
    · have HS2 : Hid (l.any p = false) := by
        show _ = _
        rw [HT.out, List.drop_eq_nil_of_le (by rw [← HM.out]; omega)]; rfl
      go_wp2
      go_ret
      exact ⟨_, rfl, by rw [HS2.out]; decide, hb⟩

theorem containsFunc_of (g : Nat) (lb : Array Value) (eg : ∀ args w, (callFunc g args).run Try.prog w = .ok (.enter g args) w) (p : Ty → Bool) (l : List Ty) (v : Value) (S : Nat → Prop) (w : World)
    (H : ∀ T ∈ l, PredOf Try.prog g lb p w T) (h : RepL w S l v) :
    Calls Try.prog 81 #[v, .func (.func g) #[] lb] w fun e w' => e = .returned (.bool (l.any p)) ∧ Below w.heap.size w w' := by
  have HC := Lib.hid (indexFunc_of g lb eg p l v S w H h)
  clear h H
  generalize l.any p = q at *
  go_enter Try.func81, Try.ntmps81
  go_wp2_with (go_at_call 105; refine HC.out.mono ?_; rintro e w1 ⟨r, rfl, hr, hb1⟩)
  go_ret
  exact ⟨ret_bool (by rw [← hr]), hb1⟩
end Go.Proofs.Ytahiefgfhpkoeaa
