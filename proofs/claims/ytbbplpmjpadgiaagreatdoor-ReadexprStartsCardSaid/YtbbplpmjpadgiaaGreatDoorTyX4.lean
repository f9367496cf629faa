/- The reference's reader, whatever its state: Skip, Need, Word, Atoms. -/
import Derived.Test.YtbbplpmjpadgiaaGreatDoorTyX3
namespace Go.Proofs.YtbbplpmjpadgiaaGreatDoor
open Go.RowKit Go.Maps Mth

theorem xI_good {ts : List Tok} {s : St} {t : ByteArray} (h : xI ts s t = true) : s.bad = false ∧ s.i < ts.length ∧ rIs ts s.i t = true := by
  unfold xI at h
  simp at h
  exact ⟨h.1, rIs_lt h.2, h.2⟩
theorem xK_good {ts : List Tok} {s : St} {k : Int} (h : xK ts s k = true) : s.bad = false ∧ s.i < ts.length ∧ rKind ts s.i k = true := by
  unfold xK at h
  simp at h
  exact ⟨h.1, rKind_lt h.2, h.2⟩
/-- The reader after one step. -/
theorem RdX.step {w : World} {b : Nat} {ts : List Tok} {s : St} (h : RdX w b ts s) (hi : s.i < ts.length) :
    RdX (w.setCell ⟨b, 1, none⟩ (.int .i64 ((s.i : Int) + 1))) b ts (xStep s) ∧ w.grownBy (w.setCell ⟨b, 1, none⟩ (.int .i64 ((s.i : Int) + 1))) (some b) := by
  obtain ⟨lv, hr, ht, _, hp, hl⟩ := h
  have hset := set1 hr 1 (.int .i64 ((s.i : Int) + 1))
  refine ⟨⟨lv, ?_, ht.grown (fun g hg => by omega) hset.2.1, hi, hp, hl⟩, hset.2.1⟩
  unfold RdB
  rw [hset.1]
  simp [xStep]
set_option maxHeartbeats 1600000 in
theorem rdSkip_any (s : ByteArray) (b : Nat) (ts : List Tok) (st : St) (w : World) (h : RdX w b ts st) : Calls Tryz.prog 86 #[.pointer (some ⟨b, 0, none⟩), .string s] w (XEnd w b ts (xSkip ts st s) (.bool (xI ts st s))) := by
  cases hs : xI ts st s with
  | true =>
    obtain ⟨hq, hlt, -⟩ := xI_good hs
    have HE : Hid (xSkip ts st s = xStep st) := by show _ = _; unfold xSkip; rw [hs]; rfl
    have HI : Hid (∀ w, RdX w b ts st → Calls Tryz.prog 103 #[.pointer (some ⟨b, 0, none⟩), .string s] w fun e w' => e = .returned (.bool true) ∧ Below w.heap.size w w') := fun w h => by have := rdIs_any s b ts st w h; rwa [hs] at this
    have HR := Lib.hid h
    have hle := h.le.2
    clear h hs
    obtain ⟨i, q, p⟩ := st
    dsimp only at hq hlt
    subst hq
    go_enter Tryz.func86, Tryz.ntmps86
    go_wp2_with fail
    go_at_call 103
    refine (HI.out _ HR.out).mono ?_
    rintro e w1 ⟨rfl, hb1⟩
    have HR1 := Lib.hid (HR.out.lift hb1)
    obtain ⟨lv, hr, -⟩ := HR1.out
    obtain ⟨c0, c1, c2, c3, f1, f2, f3⟩ := hr.cells
    clear hr
    go_wp2
    go_ret
    have hst := HR1.out.step hlt
    exact ⟨rfl, by rw [HE.out]; exact hst.1, grown_trans (below_grown_some hb1 b) hst.2⟩
  | false =>
    have HE : Hid (xSkip ts st s = st) := by show _ = _; unfold xSkip; rw [hs]; rfl
    have HI : Hid (∀ w, RdX w b ts st → Calls Tryz.prog 103 #[.pointer (some ⟨b, 0, none⟩), .string s] w fun e w' => e = .returned (.bool false) ∧ Below w.heap.size w w') := fun w h => by have := rdIs_any s b ts st w h; rwa [hs] at this
    have HR := Lib.hid h
    clear h hs
    go_enter Tryz.func86, Tryz.ntmps86
    go_wp2_with (go_at_call 103; refine (HI.out _ HR.out).mono ?_; rintro e w1 ⟨rfl, hb1⟩)
    go_ret
    exact ⟨rfl, by rw [HE.out]; exact HR.out.lift hb1, below_grown_some hb1 b⟩
theorem rdNeed_any (s : ByteArray) (b : Nat) (ts : List Tok) (st : St) (w : World) (h : RdX w b ts st) : Calls Tryz.prog 88 #[.pointer (some ⟨b, 0, none⟩), .string s] w (XEnd w b ts (xNeed ts st s) (.tuple #[])) := by
  have HS := Lib.hid (rdSkip_any s b ts st w h)
  cases hs : xI ts st s with
  | true =>
    have HE : Hid (xNeed ts st s = xSkip ts st s) := by show _ = _; unfold xNeed xSkip; rw [hs]; rfl
    rw [hs] at HS
    clear h hs
    go_enter Tryz.func88, Tryz.ntmps88
    go_wp2_with (go_at_call 86; refine HS.out.mono ?_; rintro e w1 ⟨rfl, hr1, hg1⟩; have HR1 := Lib.hid hr1; clear hr1)
    go_end0
    exact ⟨rfl, by rw [HE.out]; exact HR1.out, hg1⟩
  | false =>
    have HE : Hid (xNeed ts st s = xFail ts st) := by show _ = _; unfold xNeed; rw [hs]; rfl
    have HE2 : Hid (xSkip ts st s = st) := by show _ = _; unfold xSkip; rw [hs]; rfl
    rw [hs] at HS
    clear h hs
    go_enter Tryz.func88, Tryz.ntmps88
    go_wp2_with fail
    go_at_call 86
    refine HS.out.mono ?_
    rintro e w1 ⟨rfl, hr1, hg1⟩
    rw [HE2.out] at hr1
    have HR1 := Lib.hid hr1
    clear hr1
    go_wp2_with fail
    go_at_call 122
    refine (rdFail_any b ts st _ HR1.out).mono ?_
    rintro e w2 ⟨rfl, hr2, hg2⟩
    have HR2 := Lib.hid hr2
    clear hr2
    go_wp2
    go_end0
    exact ⟨rfl, by rw [HE.out]; exact HR2.out, grown_trans hg1 hg2⟩
set_option maxHeartbeats 1600000 in
theorem rdWord_yes (k : Int) (b : Nat) (ts : List Tok) (st : St) (w : World) (h : RdX w b ts st) (hk : xK ts st k = true) : Calls Tryz.prog 87 #[.pointer (some ⟨b, 0, none⟩), .int .i64 k] w (XEnd w b ts (xStep st) (.string (txt ts st.i))) := by
  obtain ⟨hq, hlt, -⟩ := xK_good hk
  have HI : Hid (∀ w, RdX w b ts st → Calls Tryz.prog 95 #[.pointer (some ⟨b, 0, none⟩), .int .i64 k] w fun e w' => e = .returned (.bool true) ∧ Below w.heap.size w w') := fun w h => by have := rdKind_any k b ts st w h; rwa [hk] at this
  have HR := Lib.hid h
  have hle := h.le.2
  obtain ⟨t, ht⟩ : ∃ x, ts[st.i]? = some x := ⟨_, List.getElem?_eq_getElem hlt⟩
  rw [txt_some ht]
  have HT := Lib.hid ht
  clear h hk ht
  obtain ⟨i, q, p⟩ := st
  dsimp only at hq hlt HT
  subst hq
  go_enter Tryz.func87, Tryz.ntmps87
  go_wp2_with fail
  go_at_call 95
  refine (HI.out _ HR.out).mono ?_
  rintro e w1 ⟨rfl, hb1⟩
  have HR1 := Lib.hid (HR.out.lift hb1)
  obtain ⟨lv, hr, -⟩ := HR1.out
  obtain ⟨c0, c1, c2, c3, f1, f2, f3⟩ := hr.cells
  clear hr
  go_wp2
  have HS := Lib.hid (HR1.out.step hlt)
  have hg := grown_trans (below_grown_some hb1 b) HS.out.2
  clear c0 c1 c2 c3 f1 f2 f3
  have HS1 := Lib.hid HS.out.1
  clear HS
  dsimp only at HS1 hg
  generalize (w1.setCell ⟨b, 1, none⟩ (.int .i64 ((i : Int) + 1))) = W at *
  obtain ⟨lv2, hr2, ⟨a, cap, rfl, hcap, hc⟩, -⟩ := HS1.out
  unfold xStep at hr2
  obtain ⟨c0, c1, c2, c3, f1, f2, f3⟩ := hr2.cells
  obtain ⟨g, rfl, hgb, d0, d1, d2⟩ := hc i t HT.out
  clear hr2 hc
  have hwr : IntKind.i64.wrap (i : Int) = i := by rw [IntKind.wrap_i64]; omega
  have hli : ((i : Int) < (ts.length : Int)) := by omega
  go_quiet (fail)
  go_wp2
  go_ret
  have hb2 : Below W.heap.size W (W.drewN nq) := below_drewN (Below.refl _ W) nq
  exact ⟨rfl, HS1.out.lift hb2, grown_trans hg (below_grown_some hb2 b)⟩
theorem rdAtoms_any (b : Nat) (ts : List Tok) (i : St) (w : World) (h : RdX w b ts i) : Calls Tryz.prog 127 #[.pointer (some ⟨b, 0, none⟩)] w fun e w' => e = .returned (.bool (xK ts i 1 || xK ts i 2 || xI ts i ⟨#[40]⟩)) ∧ Below w.heap.size w w' := by
  have HR := Lib.hid h
  have H1 : Hid (∀ w, RdX w b ts i → Calls Tryz.prog 95 #[.pointer (some ⟨b, 0, none⟩), .int .i64 1] w fun e w' => e = .returned (.bool (xK ts i 1)) ∧ Below w.heap.size w w') := fun w h => rdKind_any 1 b ts i w h
  have H2 : Hid (∀ w, RdX w b ts i → Calls Tryz.prog 95 #[.pointer (some ⟨b, 0, none⟩), .int .i64 2] w fun e w' => e = .returned (.bool (xK ts i 2)) ∧ Below w.heap.size w w') := fun w h => rdKind_any 2 b ts i w h
  have H3 : Hid (∀ w, RdX w b ts i → Calls Tryz.prog 103 #[.pointer (some ⟨b, 0, none⟩), .string ⟨#[40]⟩] w fun e w' => e = .returned (.bool (xI ts i ⟨#[40]⟩)) ∧ Below w.heap.size w w') := fun w h => rdIs_any ⟨#[40]⟩ b ts i w h
  clear h
  generalize xK ts i 1 = q1 at *
  generalize xK ts i 2 = q2 at *
  generalize xI ts i ⟨#[40]⟩ = q3 at *
  cases q1 with
  | true =>
    go_enter Tryz.func127, Tryz.ntmps127
    go_wp2_with (go_at_call 95; refine (H1.out _ HR.out).mono ?_; rintro e w1 ⟨rfl, hb1⟩)
    go_ret
    exact ⟨rfl, hb1⟩
  | false =>
    cases q2 with
    | true =>
      go_enter Tryz.func127, Tryz.ntmps127
      go_wp2_with fail
      go_at_call 95
      refine (H1.out _ HR.out).mono ?_
      rintro e w1 ⟨rfl, hb1⟩
      have HR1 := Lib.hid (HR.out.lift hb1)
      go_wp2_with (go_at_call 95; refine (H2.out _ HR1.out).mono ?_; rintro e w2 ⟨rfl, hb2⟩)
      go_ret
      exact ⟨rfl, hb1.trans (hb2.mono hb1.size)⟩
    | false =>
      go_enter Tryz.func127, Tryz.ntmps127
      go_wp2_with fail
      go_at_call 95
      refine (H1.out _ HR.out).mono ?_
      rintro e w1 ⟨rfl, hb1⟩
      have HR1 := Lib.hid (HR.out.lift hb1)
      go_wp2_with fail
      go_at_call 95
      refine (H2.out _ HR1.out).mono ?_
      rintro e w2 ⟨rfl, hb2⟩
      have HR2 := Lib.hid (HR1.out.lift hb2)
      go_wp2_with (go_at_call 103; refine (H3.out _ HR2.out).mono ?_; rintro e w3 ⟨rfl, hb3⟩)
      go_ret
      exact ⟨rfl, (hb1.trans (hb2.mono hb1.size)).trans (hb3.mono (Nat.le_trans hb1.size hb2.size))⟩
end Go.Proofs.YtbbplpmjpadgiaaGreatDoor
