/- The contracts of the reference's reader: marks, words, positions. -/
import Derived.Test.YtahiefgfhpkoeaaTyRead
namespace Go.Proofs.Ytahiefgfhpkoeaa
open Go.RowKit Go.Sort Go.Shelf Go.Maps Mth

set_option maxHeartbeats 3200000 in
theorem rdIs_any (s : ByteArray) (b : Nat) (ts : List Tok) (i : Nat) (w : World) (h : RdT w b ts i) : Calls Try.prog 76 #[.pointer (some ⟨b, 0, none⟩), .string s] w fun e w' => e = .returned (.bool (rIs ts i s)) ∧ Below w.heap.size w w' := by
  obtain ⟨lv, hr, ⟨g, cap, rfl, hne, hc⟩, hi, hl⟩ := h
  obtain ⟨c0, c1, c2, f1⟩ := hr.cells
  have HC := Lib.hid hc
  have HR := Lib.hid hr
  clear hc hr
  by_cases hlt : i < ts.length
  · obtain ⟨t, ht⟩ : ∃ x, ts[i]? = some x := ⟨_, List.getElem?_eq_getElem hlt⟩
    obtain ⟨d0, d1, d2⟩ := HC.out i t ht
    have HE : Hid (rIs ts i s = ((t.kind == 5 || t.kind == 4) && (⟨t.text.toArray⟩ : ByteArray).toList == s.toList)) := by show _ = _; unfold rIs; rw [ht]
    clear ht
    have hli : ((i : Int) < (ts.length : Int)) := by omega
    generalize (⟨t.text.toArray⟩ : ByteArray) = tx at *
    generalize t.kind = tk at *
    cases h5 : (tk == 5)
    · cases h4 : (tk == 4)
      · go_enter Try.func76, Try.ntmps76
        go_wp2
        go_quiet (fail)
        go_wp2
        go_ret
        exact ⟨ret_bool (by rw [HE.out, h5, h4]; rfl), below_drewN (Below.refl _ w) nq⟩
      · cases ht : (tx.toList == s.toList)
        all_goals
          go_enter Try.func76, Try.ntmps76
          go_wp2
          go_quiet (fail)
          go_wp2
          go_ret
          exact ⟨ret_bool (by rw [HE.out, h5, h4, ht]; rfl), below_drewN (Below.refl _ w) nq⟩
    · cases ht : (tx.toList == s.toList)
      all_goals
        go_enter Try.func76, Try.ntmps76
        go_wp2
        go_quiet (fail)
        go_wp2
        go_ret
        exact ⟨ret_bool (by rw [HE.out, h5, ht]; rfl), below_drewN (Below.refl _ w) nq⟩
  · have HE : Hid (rIs ts i s = false) := by show _ = _; unfold rIs; rw [List.getElem?_eq_none (by omega)]
    have hli : decide ((i : Int) < (ts.length : Int)) = false := by simpa using hlt
    go_enter Try.func76, Try.ntmps76
    go_wp2
    go_quiet (fail)
    go_wp2
    go_ret
    exact ⟨ret_bool HE.out.symm, below_drewN (Below.refl _ w) nq⟩

/-- The reader after one step. -/
theorem RdT.step {w : World} {b : Nat} {ts : List Tok} {i : Nat} (h : RdT w b ts i) (hi : i < ts.length) :
    RdT (w.setCell ⟨b, 1, none⟩ (.int .i64 ((i : Int) + 1))) b ts (i + 1) ∧ w.grownBy (w.setCell ⟨b, 1, none⟩ (.int .i64 ((i : Int) + 1))) (some b) := by
  obtain ⟨lv, hr, ht, _, hl⟩ := h
  have hset := set1 hr 1 (.int .i64 ((i : Int) + 1))
  refine ⟨⟨lv, ?_, ht.grown hset.2.1, hi, hl⟩, hset.2.1⟩
  unfold Rd
  rw [hset.1]
  simp
theorem rIs_lt {ts : List Tok} {i : Nat} {s : ByteArray} (h : rIs ts i s = true) : i < ts.length := by
  unfold rIs at h
  cases ht : ts[i]? with
  | none => rw [ht] at h; simp at h
  | some t => exact (List.getElem?_eq_some_iff.1 ht).1
set_option maxHeartbeats 1600000 in
theorem rdSkip_yes (s : ByteArray) (b : Nat) (ts : List Tok) (i : Nat) (w : World) (h : RdT w b ts i) (hs : rIs ts i s = true) : Calls Try.prog 99 #[.pointer (some ⟨b, 0, none⟩), .string s] w fun e w' => e = .returned (.bool true) ∧ RdT w' b ts (i + 1) ∧ w.grownBy w' (some b) := by
  have hlt := rIs_lt hs
  have HI : Hid (∀ w, RdT w b ts i → Calls Try.prog 76 #[.pointer (some ⟨b, 0, none⟩), .string s] w fun e w' => e = .returned (.bool true) ∧ Below w.heap.size w w') := fun w h => by have := rdIs_any s b ts i w h; rwa [hs] at this
  have HR := Lib.hid h
  have hle : ts.length ≤ 1000 := by obtain ⟨_, _, _, _, h⟩ := h; exact h
  clear h hs
  go_enter Try.func99, Try.ntmps99
  go_wp2_with fail
  go_at_call 76
  refine (HI.out _ HR.out).mono ?_
  rintro e w1 ⟨rfl, hb1⟩
  have HR1 := Lib.hid (HR.out.lift hb1)
  obtain ⟨lv, hr, -⟩ := HR1.out
  obtain ⟨c0, c1, c2, f1⟩ := hr.cells
  clear hr
  go_wp2
  go_ret
  have hst := HR1.out.step hlt
  exact ⟨rfl, hst.1, grown_trans (below_grown_some hb1 b) hst.2⟩
theorem rdSkip_no (s : ByteArray) (b : Nat) (ts : List Tok) (i : Nat) (w : World) (h : RdT w b ts i) (hs : rIs ts i s = false) : Calls Try.prog 99 #[.pointer (some ⟨b, 0, none⟩), .string s] w fun e w' => e = .returned (.bool false) ∧ Below w.heap.size w w' := by
  have HI : Hid (∀ w, RdT w b ts i → Calls Try.prog 76 #[.pointer (some ⟨b, 0, none⟩), .string s] w fun e w' => e = .returned (.bool false) ∧ Below w.heap.size w w') := fun w h => by have := rdIs_any s b ts i w h; rwa [hs] at this
  have HR := Lib.hid h
  clear h hs
  go_enter Try.func99, Try.ntmps99
  go_wp2_with (go_at_call 76; refine (HI.out _ HR.out).mono ?_; rintro e w1 ⟨rfl, hb1⟩)
  go_ret
  exact ⟨rfl, hb1⟩
theorem rdNeed_yes (s : ByteArray) (b : Nat) (ts : List Tok) (i : Nat) (w : World) (h : RdT w b ts i) (hs : rIs ts i s = true) : Calls Try.prog 94 #[.pointer (some ⟨b, 0, none⟩), .string s] w fun e w' => e = .returned (.tuple #[]) ∧ RdT w' b ts (i + 1) ∧ w.grownBy w' (some b) := by
  have HS := Lib.hid (rdSkip_yes s b ts i w h hs)
  clear h hs
  go_enter Try.func94, Try.ntmps94
  go_wp2_with (go_at_call 99; refine HS.out.mono ?_; rintro e w1 ⟨rfl, hr1, hg1⟩; have HR1 := Lib.hid hr1; clear hr1)
  go_end0
  exact ⟨rfl, HR1.out, hg1⟩

theorem rKind_lt {ts : List Tok} {i : Nat} {k : Int} (h : rKind ts i k = true) : i < ts.length := by
  unfold rKind at h
  cases ht : ts[i]? with
  | none => rw [ht] at h; simp at h
  | some t => exact (List.getElem?_eq_some_iff.1 ht).1
set_option maxHeartbeats 1600000 in
theorem rdWord_yes (k : Int) (t : Tok) (b : Nat) (ts : List Tok) (i : Nat) (w : World) (h : RdT w b ts i) (ht : ts[i]? = some t) (hk : rKind ts i k = true) : Calls Try.prog 95 #[.pointer (some ⟨b, 0, none⟩), .int .i64 k] w fun e w' => e = .returned (.string ⟨t.text.toArray⟩) ∧ RdT w' b ts (i + 1) ∧ w.grownBy w' (some b) := by
  have hlt := rKind_lt hk
  have HI : Hid (∀ w, RdT w b ts i → Calls Try.prog 96 #[.pointer (some ⟨b, 0, none⟩), .int .i64 k] w fun e w' => e = .returned (.bool true) ∧ Below w.heap.size w w') := fun w h => by have := rdKind_any k b ts i w h; rwa [hk] at this
  have HR := Lib.hid h
  have HT := Lib.hid ht
  have hle : ts.length ≤ 1000 := by obtain ⟨_, _, _, _, h⟩ := h; exact h
  clear h hk ht
  go_enter Try.func95, Try.ntmps95
  go_wp2_with fail
  go_at_call 96
  refine (HI.out _ HR.out).mono ?_
  rintro e w1 ⟨rfl, hb1⟩
  have HR1 := Lib.hid (HR.out.lift hb1)
  obtain ⟨lv, hr, -⟩ := HR1.out
  obtain ⟨c0, c1, c2, f1⟩ := hr.cells
  clear hr
  go_wp2
  have HS := Lib.hid (HR1.out.step hlt)
  have hg := grown_trans (below_grown_some hb1 b) HS.out.2
  clear c0 c1 c2 f1
  have HS1 := Lib.hid HS.out.1
  clear HS
  generalize (w1.setCell ⟨b, 1, none⟩ (.int .i64 ((i : Int) + 1))) = W at *
  obtain ⟨lv2, hr2, ⟨g, cap, rfl, hne, hc⟩, -⟩ := HS1.out
  obtain ⟨c0, c1, c2, f1⟩ := hr2.cells
  obtain ⟨d0, d1, d2⟩ := hc i t HT.out
  clear hr2 hc
  have hwr : IntKind.i64.wrap (i : Int) = i := by rw [IntKind.wrap_i64]; omega
  have hli : ((i : Int) < (ts.length : Int)) := by omega
  go_quiet (fail)
  go_wp2
  go_ret
  have hb2 : Below W.heap.size W (W.drewN nq) := below_drewN (Below.refl _ W) nq
  exact ⟨rfl, HS1.out.lift hb2, grown_trans hg (below_grown_some hb2 b)⟩
set_option maxHeartbeats 1600000 in
theorem rdPos_any (t : Tok) (b : Nat) (ts : List Tok) (i : Nat) (w : World) (h : RdT w b ts i) (ht : ts[i]? = some t) : Calls Try.prog 93 #[.pointer (some ⟨b, 0, none⟩)] w fun e w' => e = .returned (.int .i64 t.pos) ∧ Below w.heap.size w w' := by
  obtain ⟨lv, hr, ⟨g, cap, rfl, hne, hc⟩, hi, hl⟩ := h
  obtain ⟨c0, c1, c2, f1⟩ := hr.cells
  obtain ⟨d0, d1, d2⟩ := hc i t ht
  have hlt := (List.getElem?_eq_some_iff.1 ht).1
  clear hc hr ht
  have hli : ((i : Int) < (ts.length : Int)) := by omega
  go_enter Try.func93, Try.ntmps93
  go_wp2
  go_quiet (fail)
  go_wp2
  go_quiet (fail)
  go_wp2
  go_ret
  exact ⟨rfl, below_drewN (below_drewN (Below.refl _ w) _) _⟩
theorem rdAtoms_any (b : Nat) (ts : List Tok) (i : Nat) (w : World) (h : RdT w b ts i) : Calls Try.prog 97 #[.pointer (some ⟨b, 0, none⟩)] w fun e w' => e = .returned (.bool (rKind ts i 1 || rKind ts i 2 || rIs ts i ⟨#[40]⟩)) ∧ Below w.heap.size w w' := by
  have HR := Lib.hid h
  have H1 : Hid (∀ w, RdT w b ts i → Calls Try.prog 96 #[.pointer (some ⟨b, 0, none⟩), .int .i64 1] w fun e w' => e = .returned (.bool (rKind ts i 1)) ∧ Below w.heap.size w w') := fun w h => rdKind_any 1 b ts i w h
  have H2 : Hid (∀ w, RdT w b ts i → Calls Try.prog 96 #[.pointer (some ⟨b, 0, none⟩), .int .i64 2] w fun e w' => e = .returned (.bool (rKind ts i 2)) ∧ Below w.heap.size w w') := fun w h => rdKind_any 2 b ts i w h
  have H3 : Hid (∀ w, RdT w b ts i → Calls Try.prog 76 #[.pointer (some ⟨b, 0, none⟩), .string ⟨#[40]⟩] w fun e w' => e = .returned (.bool (rIs ts i ⟨#[40]⟩)) ∧ Below w.heap.size w w') := fun w h => rdIs_any ⟨#[40]⟩ b ts i w h
  clear h
  generalize rKind ts i 1 = q1 at *
  generalize rKind ts i 2 = q2 at *
  generalize rIs ts i ⟨#[40]⟩ = q3 at *
  cases q1 with
  | true =>
    go_enter Try.func97, Try.ntmps97
    go_wp2_with (go_at_call 96; refine (H1.out _ HR.out).mono ?_; rintro e w1 ⟨rfl, hb1⟩)
    go_ret
    exact ⟨rfl, hb1⟩
  | false =>
    cases q2 with
    | true =>
      go_enter Try.func97, Try.ntmps97
      go_wp2_with fail
      go_at_call 96
      refine (H1.out _ HR.out).mono ?_
      rintro e w1 ⟨rfl, hb1⟩
      have HR1 := Lib.hid (HR.out.lift hb1)
      go_wp2_with (go_at_call 96; refine (H2.out _ HR1.out).mono ?_; rintro e w2 ⟨rfl, hb2⟩)
      go_ret
      exact ⟨rfl, hb1.trans (hb2.mono hb1.size)⟩
    | false =>
      go_enter Try.func97, Try.ntmps97
      go_wp2_with fail
      go_at_call 96
      refine (H1.out _ HR.out).mono ?_
      rintro e w1 ⟨rfl, hb1⟩
      have HR1 := Lib.hid (HR.out.lift hb1)
      go_wp2_with fail
      go_at_call 96
      refine (H2.out _ HR1.out).mono ?_
      rintro e w2 ⟨rfl, hb2⟩
      have HR2 := Lib.hid (HR1.out.lift hb2)
      go_wp2_with (go_at_call 76; refine (H3.out _ HR2.out).mono ?_; rintro e w3 ⟨rfl, hb3⟩)
      go_ret
      exact ⟨rfl, (hb1.trans (hb2.mono hb1.size)).trans (hb3.mono (Nat.le_trans hb1.size hb2.size))⟩
end Go.Proofs.Ytahiefgfhpkoeaa
