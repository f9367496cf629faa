/- The contract of the reference's Valid. -/
import Derived.Test.YtejlhfjhpminjaaTyVal2
namespace Go.Proofs.Ytejlhfjhpminjaa
open Go.RowKit Go.Sort Go.Shelf Mth

theorem validL_step {l : List Ty} {j : Nat} {t : Ty} (h : l[j]? = some t) : validL (l.drop j) = (valid t && validL (l.drop (j + 1))) := by
  obtain ⟨hl, e⟩ := List.getElem?_eq_some_iff.1 h
  rw [List.drop_eq_getElem_cons hl, e]
  rfl
/-- The cells of a boxed struct stay while memory is made. -/
theorem box_cell {w wr : World} {X : Array Value} {Z : TypeId} (hb : Below (w.heap.size + 1) (w.alloc (.cells X Z)) wr) (m : Nat) (v : Value) (h : (w.alloc (.cells X Z)).cell? ⟨w.heap.size, m, none⟩ = some v) : wr.cell? ⟨w.heap.size, m, none⟩ = some v :=
  (hb.cell (p := ⟨w.heap.size, m, none⟩) (Nat.lt_succ_self _)).trans h
theorem box_below {w wr : World} {X : Array Value} {Z : TypeId} (hb : Below (w.heap.size + 1) (w.alloc (.cells X Z)) wr) : Below w.heap.size w wr :=
  ((Below.refl _ w).alloc (Nat.le_refl _) _).trans (hb.mono (Nat.le_succ _))

set_option maxHeartbeats 3200000 in
theorem refValid_of (T : Ty) (H : ∀ U ∈ T.ts, TestAt Try.prog 31 valid U) : TestAt Try.prog 31 valid T := by
  intro v S w h
  obtain ⟨k, n, i, hm, s, eT, rfl, hn, hs⟩ := h.open
  have hb0 : ∀ X Z, Below w.heap.size w (w.alloc (.cells X Z)) := fun X Z => (Below.refl _ w).alloc (Nat.le_refl _) _
  obtain ⟨sa, sc, rfl, ⟨hc1, hc2⟩, hj⟩ := hs
  have HJ := Lib.hid hj
  have HH := Lib.hid H
  have HE : Hid (valid T = if k = 1 ∨ k = 2 then idOk i && n.toList == [] && hm == 0 && decide (T.ts.length = 0)
    else if k = 3 then idOk i && homeOk hm && n.toList == [] && decide (T.ts.length = 0)
    else if k = 4 then i == 0 && hm == 0 && conOk n T.ts.length && validL T.ts
    else if k = 5 then isLo (bl n) && i == 0 && hm == 0 && decide (T.ts.length = 0)
    else false) := by
    show _ = _
    conv => lhs; rw [eT]
    rfl
  have hn' : n.size ≤ 9223372036854775807 := by unfold maxLen at hn; omega
  clear h eT hn H hj
  unfold maxLen at hc2
  obtain ⟨l, hl⟩ : ∃ l, l = T.ts := ⟨_, rfl⟩
  rw [← hl] at HJ HH HE hc1 ⊢
  clear hl
  by_cases h4 : k = 4
  · subst h4
    have HE4 : Hid (valid T = (i == 0 && hm == 0 && conOk n l.length && validL l)) := HE.out
    clear HE
    cases hi0 : (i != 0) with
    | true =>
      go_enter Try.func31, Try.ntmps31
      go_wp2
      go_ret
      exact ⟨ret_bool (by rw [HE4.out]; simp_all), hb0 _ _⟩
    | false =>
      cases hh0 : (hm != 0) with
      | true =>
        go_enter Try.func31, Try.ntmps31
        go_wp2
        go_ret
        exact ⟨ret_bool (by rw [HE4.out]; simp_all), hb0 _ _⟩
      | false =>
        have HE5 : Hid (valid T = (conOk n l.length && validL l)) := by
          show _ = _
          rw [HE4.out]
          simp at hi0 hh0
          simp [hi0, hh0]
        clear HE4
        have HE0 : Hid (validL l = validL (l.drop 0)) := by show _ = _; simp
        obtain ⟨m, hmm⟩ : ∃ m, m = l.length := ⟨_, rfl⟩
        rw [← hmm] at hc1 HE5 ⊢
        have HM := Lib.hid hmm
        clear hmm
        go_enter Try.func31, Try.ntmps31
        go_wp2
        go_loopw [3] (fun x wr => ∃ j : Nat, j ≤ m ∧ x = .int .i64 j ∧ Hid (validL l = validL (l.drop j)) ∧ Below (w.heap.size + 1) (w.alloc (.cells #[.int .i64 4, .string n, .int .i64 i, .int .i64 hm, .slice sa m sc] 31)) wr) (fun x _ => m - (intOf x).toNat)
        case atStart => exact ⟨0, Nat.zero_le _, rfl, HE0, Below.refl _ _⟩
        case round =>
          obtain ⟨j, hj, rfl, HT, hb⟩ := hrel
          have b1 := box_cell hb 1 (.string n) (by simp)
          have b4 := box_cell hb 4 (.slice sa m sc) (by simp)
          have hbw := box_below hb
          have hsz := hb.size
          by_cases hlt : j < m
          · obtain ⟨T, hT⟩ : ∃ x, l[j]? = some x := ⟨_, List.getElem?_eq_getElem (by rw [← HM.out]; exact hlt)⟩
            have HTm : Hid (T ∈ l) := List.mem_of_getElem? hT
            obtain ⟨ad, x, rfl, hS, h5, hx⟩ := HJ.out j T hT
            have HS := Lib.hid (validL_step hT)
            clear hT
            have hx' := hx.lift hbw
            have g5 := h5.kept (hbw.block _ h5.lt)
            obtain ⟨k', n', i', h', s', eT, rfl, hn2, hs2⟩ := hx'.open
            obtain ⟨q0, q1, q2, q3, q4⟩ := five_at g5
            obtain ⟨sa', sc', rfl, -⟩ := hs2
            clear h5 hx g5 eT hn2 hS
            have HX := Lib.hid hx'
            clear hx'
            have hji : (j : Int) < (m : Int) := by omega
            generalize T.ts.length = sn' at *
            have HC := Lib.hid (HH.out T HTm.out _ S wr HX.out)
            cases hq : valid T with
            | true =>
              rw [hq] at HC
              have HS2 : Hid (validL l = validL (l.drop (j + 1))) := by
                show _ = _
                rw [HT.out, HS.out, hq]; rfl
              clear hq
              go_wp2_with (go_at_call 31; refine HC.out.mono ?_; rintro e w1 ⟨rfl, hb1⟩)
              go_roundw
              case rel => exact ⟨j + 1, hlt, by go_num, HS2, hb.trans (hb1.mono (by simp at hsz; omega))⟩
              case measure => simp [intOf]; omega
            | false =>
              rw [hq] at HC
              have HS2 : Hid (validL l = false) := by
                show _ = _
                rw [HT.out, HS.out, hq]; rfl
              clear hq
              go_wp2_with (go_at_call 31; refine HC.out.mono ?_; rintro e w1 ⟨rfl, hb1⟩)
              go_ret
              exact ⟨ret_bool (by rw [HE5.out, HS2.out]; simp), hbw.trans (hb1.mono hbw.size)⟩
          · have HS2 : Hid (validL l = true) := by
              show _ = _
              rw [HT.out, List.drop_eq_nil_of_le (by rw [← HM.out]; omega)]; rfl
            have HF : Hid (valid T = conOk n m) := by
              show _ = _
              rw [HE5.out, HS2.out]; simp
            clear hsz
            have hU : Hid (∀ w, Calls Try.prog 45 #[.string n] w fun e w' => e = .returned (.bool (isUp (bl n))) ∧ w = w') := fun w => upper_any n w hn'
            cases h1 : (n.toList == [45, 62]) with
            | true =>
              have HF2 : Hid (conOk n m = (m == 2)) := by show _ = _; unfold conOk; rw [h1]; rfl
              go_wp2
              all_goals
                go_ret
                exact ⟨ret_bool (by rw [HF.out, HF2.out, Bool.eq_iff_iff]; simp <;> omega), hbw⟩
            | false =>
              cases h2 : (n.toList == [73, 110, 116]) with
              | true =>
                have HF2 : Hid (conOk n m = (m == 0)) := by show _ = _; unfold conOk; rw [h1, h2]; rfl
                go_wp2
                all_goals
                  go_ret
                  exact ⟨ret_bool (by rw [HF.out, HF2.out, Bool.eq_iff_iff]; simp <;> omega), hbw⟩
              | false =>
                have HF2 : Hid (conOk n m = (isUp (bl n) && decide (m ≤ 4))) := by show _ = _; unfold conOk; rw [h1, h2]; rfl
                generalize isUp (bl n) = q at *
                cases q
                all_goals
                  go_wp2_with (go_at_call 45; refine (hU.out _).mono ?_; rintro e w1 ⟨rfl, rfl⟩)
                  all_goals
                    go_ret
                    exact ⟨ret_bool (by rw [HF.out, HF2.out, Bool.eq_iff_iff]; simp <;> omega), hbw⟩
  · have HL : Hid (∀ w, Calls Try.prog 44 #[.string n] w fun e w' => e = .returned (.bool (isLo (bl n))) ∧ Below w.heap.size w w') := fun w => lower_any n w hn'
    have h4b : (k == 4) = false := by simpa using h4
    generalize l.length = sn at *
    generalize isLo (bl n) = q at *
    go_enter Try.func31, Try.ntmps31
    go_wp2_with (go_at_call 44; refine (HL.out _).mono ?_; rintro e w1 ⟨rfl, hb1⟩)
    all_goals
      go_ret
      refine ⟨ret_bool (by rw [HE.out]; simp_all [idOk, homeOk] <;> first | exact len_zero _ | (intros; omega)), ?_⟩
      first
        | exact hb0 _ _
        | exact (hb0 _ _).trans (hb1.mono (by simp))
theorem refValid_any (T : Ty) : TestAt Try.prog 31 valid T := Ty.induct refValid_of T
end Go.Proofs.Ytejlhfjhpminjaa
