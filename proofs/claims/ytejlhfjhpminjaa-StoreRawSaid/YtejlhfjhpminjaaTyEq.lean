/- The contracts of the two Equals. -/
import Derived.Test.YtejlhfjhpminjaaTyRep
import Derived.Lib.QuietBelow
import Derived.LoopTactic
import Derived.Handy
namespace Go.Proofs.Ytejlhfjhpminjaa
open Go.RowKit Go.Sort Mth

mutual
def teq : Ty → Ty → Bool
  | .mk k n i h ts, .mk k' n' i' h' ts' => k == k' && n.toList == n'.toList && i == i' && h == h' && teqL ts ts'
def teqL : List Ty → List Ty → Bool
  | [], [] => true
  | t :: l, t' :: l' => teq t t' && teqL l l'
  | _, _ => false
end
theorem teqL_len : ∀ {l l' : List Ty}, teqL l l' = true → l.length = l'.length := by
  intro l
  induction l with
  | nil => intro l' h; cases l' <;> simp [teqL] at h ⊢
  | cons t l ih => intro l' h; cases l' <;> simp [teqL] at h ⊢; exact ih h.2
/-- From the j-th element on. -/
theorem teqL_step {l l' : List Ty} {j : Nat} {t t' : Ty} (h : l[j]? = some t) (h' : l'[j]? = some t') : teqL (l.drop j) (l'.drop j) = (teq t t' && teqL (l.drop (j + 1)) (l'.drop (j + 1))) := by
  obtain ⟨hl, e⟩ := List.getElem?_eq_some_iff.1 h
  obtain ⟨hl', e'⟩ := List.getElem?_eq_some_iff.1 h'
  rw [List.drop_eq_getElem_cons hl, List.drop_eq_getElem_cons hl', e, e']
  simp [teqL]

/-- What the contract of a comparison says. -/
def EqAt (P : Program) (f : Nat) (T : Ty) : Prop := ∀ (U : Ty) (v u : Value) (S S' : Nat → Prop) (w : World), Rep w S T v → Rep w S' U u →
  Calls P f #[v, u] w fun e w' => e = .returned (.bool (teq T U)) ∧ Below w.heap.size w w'

set_option maxHeartbeats 1600000 in
theorem refEqAll_of (l l' : List Ty) (H : ∀ T ∈ l, EqAt Try.prog 19 T) (v u : Value) (S S' : Nat → Prop) (w : World) (h : RepL w S l v) (h' : RepL w S' l' u) :
    Calls Try.prog 37 #[v, u] w fun e w' => e = .returned (.bool (teqL l l')) ∧ Below w.heap.size w w' := by
  obtain ⟨a, cap, rfl, ⟨hc1, hc2⟩, hj⟩ := h
  obtain ⟨a', cap', rfl, ⟨hc1', hc2'⟩, hj'⟩ := h'
  have HJ := Lib.hid hj
  have HJ' := Lib.hid hj'
  have HH := Lib.hid H
  clear hj hj' H
  unfold maxLen at hc2 hc2'
  cases hlen : ((l.length : Int) != (l'.length : Int)) with
  | true =>
    have HE : Hid (teqL l l' = false) := by
      show _ = _
      cases ht : teqL l l' with
      | false => rfl
      | true => have := teqL_len ht; simp [this] at hlen
    go_enter Try.func37, Try.ntmps37
    go_wp2
    go_ret
    exact ⟨ret_bool HE.out.symm, Below.refl _ _⟩
  | false =>
    have hl : l'.length = l.length := by simp at hlen; omega
    rw [hl] at hc1' hlen ⊢
    have HE : Hid (teqL l l' = teqL (l.drop 0) (l'.drop 0)) := by show _ = _; simp
    have HN : Hid (l'.length = l.length) := hl
    clear hl
    obtain ⟨m, hm⟩ : ∃ m, m = l.length := ⟨_, rfl⟩
    rw [← hm] at hc1 hc1' hlen ⊢
    have HM := Lib.hid hm
    clear hm
    go_enter Try.func37, Try.ntmps37
    go_wp2
    go_loopw [5] (fun i wr => ∃ j : Nat, j ≤ m ∧ i = .int .i64 j ∧ Hid (teqL l l' = teqL (l.drop j) (l'.drop j)) ∧ Below w.heap.size w wr) (fun i _ => m - (intOf i).toNat)
    case atStart => exact ⟨0, Nat.zero_le _, rfl, HE, Below.refl _ _⟩
    case round =>
      obtain ⟨j, hj, rfl, HT, hb⟩ := hrel
      by_cases hlt : j < m
      · obtain ⟨T, hT⟩ : ∃ x, l[j]? = some x := ⟨_, List.getElem?_eq_getElem (by rw [← HM.out]; exact hlt)⟩
        obtain ⟨U, hU⟩ : ∃ x, l'[j]? = some x := ⟨_, List.getElem?_eq_getElem (by rw [HN.out, ← HM.out]; exact hlt)⟩
        have HTm : Hid (T ∈ l) := List.mem_of_getElem? hT
        obtain ⟨ad, x, rfl, hS, h5, hx⟩ := HJ.out j T hT
        obtain ⟨ad', y, rfl, hS', h5', hy⟩ := HJ'.out j U hU
        have HS := Lib.hid (teqL_step hT hU)
        clear hT hU
        have hx' := hx.lift (hb.mono (Nat.le_refl _))
        have hy' := hy.lift (hb.mono (Nat.le_refl _))
        have g5 := h5.kept (hb.block _ h5.lt)
        have g5' := h5'.kept (hb.block _ h5'.lt)
        obtain ⟨k, n, i, h, s, eT, rfl, hn, hs⟩ := hx'.open
        obtain ⟨k', n', i', h', s', eU, rfl, hn', hs'⟩ := hy'.open
        obtain ⟨q0, q1, q2, q3, q4⟩ := five_at g5
        obtain ⟨r0, r1, r2, r3, r4⟩ := five_at g5'
        clear h5 h5' hx hy g5 g5' eT eU hn hn' hs hs' hS hS'
        have HX := Lib.hid hx'
        have HY := Lib.hid hy'
        clear hx' hy'
        have G0 := cell_regrown q0
        have G1 := cell_regrown q1
        have G2 := cell_regrown q2
        have G3 := cell_regrown q3
        have G4 := cell_regrown q4
        have R0 := cell_regrown r0
        have R1 := cell_regrown r1
        have R2 := cell_regrown r2
        have R3 := cell_regrown r3
        have R4 := cell_regrown r4
        have hji : (j : Int) < (m : Int) := by omega
        go_wp2
        refine wp_region_quiet_below (by kernel_rfl) (by kernel_rfl) ?_
        repeat (quiet_step ((go_at_call 19; exact Calls.regrown_of ((HH.out T HTm.out) U _ _ S S' _ (HX.out.lift (below_regrown _ _ _)) (HY.out.lift (below_regrown _ _ _))))))
        refine wpQuiet_nil ?_
        intro _ hw'
        obtain ⟨⟨dq, osq⟩, hw''⟩ := hw'
        subst hw''
        have hb2 := hb.trans ((below_regrown wr dq osq).mono hb.size)
        clear q0 q1 q2 q3 q4 r0 r1 r2 r3 r4 G0 G1 G2 G3 G4 R0 R1 R2 R3 R4
        cases hq : teq T U with
        | true =>
          have HS2 : Hid (teqL l l' = teqL (l.drop (j + 1)) (l'.drop (j + 1))) := by
            show _ = _
            rw [HT.out, HS.out, hq]; rfl
          go_wp2
          go_roundw
          case rel => exact ⟨j + 1, hlt, by go_num, HS2, hb2⟩
          case measure => simp [intOf]; omega
        | false =>
          have HS2 : Hid (teqL l l' = false) := by
            show _ = _
            rw [HT.out, HS.out, hq]; rfl
          go_wp2
          go_ret
          exact ⟨ret_bool HS2.out.symm, hb2⟩
      · have HS2 : Hid (teqL l l' = true) := by
          show _ = _
          rw [HT.out, List.drop_eq_nil_of_le (by rw [← HM.out]; omega), List.drop_eq_nil_of_le (by rw [HN.out, ← HM.out]; omega)]; rfl
        go_wp2
        go_ret
        exact ⟨ret_bool HS2.out.symm, hb⟩
end Go.Proofs.Ytejlhfjhpminjaa
