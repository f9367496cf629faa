import Derived.Test.YtljgpgmaceackaaQX03
import Derived.Test.YtljgpgmaceackaaQX05
import Derived.Test.YtljgpgmaceackaaQX02
/- The contracts of the reference's reader: where a token is read. -/
namespace Go.Proofs.Ytljgpgmaceackaa.S3
open Go.RowKit Go.Maps Mth

/-- The block is a reader at a place, without an error. -/
def Rd (w : World) (b : Nat) (lv : Value) (i : Nat) : Prop := w.heap[b]? = some (.cells #[lv, .int .i64 i, .bool false, .int .i64 0] 95 (0, 0))
theorem Rd.lt {w : World} {b : Nat} {lv : Value} {i : Nat} (h : Rd w b lv i) : b < w.heap.size := (Array.getElem?_eq_some_iff.1 h).1
theorem Rd.lift {w w' : World} {b : Nat} {lv : Value} {i : Nat} (h : Rd w b lv i) (hb : Below w.heap.size w w') : Rd w' b lv i := by unfold Rd at *; rw [hb.block _ (Array.getElem?_eq_some_iff.1 h).1, h]
theorem Rd.cells {w : World} {b : Nat} {lv : Value} {i : Nat} (h : Rd w b lv i) : w.cell? ⟨b, 0, none⟩ = some lv ∧ w.cell? ⟨b, 1, none⟩ = some (.int .i64 i) ∧ w.cell? ⟨b, 2, none⟩ = some (.bool false) ∧ w.frozen? ⟨b, 1, none⟩ = false := by
  unfold Rd at h
  simp [World.cell?, World.frozen?, h]
/-- The tokens of a slice whose cells lie in another block than the reader. -/
def TokAt (w : World) (b : Nat) (lv : Value) (ts : List Tok) : Prop :=
  ∃ g cap, lv = .slice (some ⟨g, 0, none⟩) ts.length cap ∧ g < b ∧ ∀ (j : Nat) (t : Tok), ts[j]? = some t →
    w.cell? ⟨g, j * 3, none⟩ = some (.int .i64 t.kind) ∧ w.cell? ⟨g, j * 3 + 1, none⟩ = some (.string ⟨t.text.toArray⟩) ∧ w.cell? ⟨g, j * 3 + 2, none⟩ = some (.int .i64 t.pos)
theorem TokAt.grown {w w' : World} {b : Nat} {lv : Value} {ts : List Tok} (h : TokAt w b lv ts) (hg : w.grownBy w' (some b)) : TokAt w' b lv ts := by
  obtain ⟨g, cap, hv, hne, hc⟩ := h
  refine ⟨g, cap, hv, hne, fun j t ht => ?_⟩
  obtain ⟨h1, h2, h3⟩ := hc j t ht
  have k : ∀ o v, w.cell? ⟨g, o, none⟩ = some v → w'.cell? ⟨g, o, none⟩ = some v := fun o v h => hg.cell h (by intro e; have := Option.some.inj e; simp at this; omega)
  exact ⟨k _ _ h1, k _ _ h2, k _ _ h3⟩
theorem TokAt.other {w w' : World} {b R : Nat} {lv : Value} {ts : List Tok} (h : TokAt w b lv ts) (hR : b < R) (hg : w.grownBy w' (some R)) : TokAt w' b lv ts := by
  obtain ⟨g, cap, hv, hne, hc⟩ := h
  refine ⟨g, cap, hv, hne, fun j t ht => ?_⟩
  obtain ⟨h1, h2, h3⟩ := hc j t ht
  have k : ∀ o v, w.cell? ⟨g, o, none⟩ = some v → w'.cell? ⟨g, o, none⟩ = some v := fun o v h => hg.cell h (by intro e; have := Option.some.inj e; simp at this; omega)
  exact ⟨k _ _ h1, k _ _ h2, k _ _ h3⟩
/-- The reader in its block, at a place in its tokens. -/
def RdT (w : World) (b : Nat) (ts : List Tok) (i : Nat) : Prop := ∃ lv, Rd w b lv i ∧ TokAt w b lv ts ∧ i ≤ ts.length ∧ ts.length ≤ 1000
theorem RdT.lift {w w' : World} {b : Nat} {ts : List Tok} {i : Nat} (h : RdT w b ts i) (hb : Below w.heap.size w w') : RdT w' b ts i := by
  obtain ⟨lv, h1, h2, h3⟩ := h
  exact ⟨lv, h1.lift hb, h2.grown (below_grown_some hb b), h3⟩
theorem RdT.other {w w' : World} {b R : Nat} {ts : List Tok} {i : Nat} (h : RdT w b ts i) (hR : b < R) (hg : w.grownBy w' (some R)) : RdT w' b ts i := by
  obtain ⟨lv, h1, h2, h3⟩ := h
  refine ⟨lv, ?_, h2.other hR hg, h3⟩
  unfold Rd at *
  rw [hg.block b (Array.getElem?_eq_some_iff.1 h1).1 (by intro e; have := Option.some.inj e; omega), h1]
theorem RdT.lt {w : World} {b : Nat} {ts : List Tok} {i : Nat} (h : RdT w b ts i) : b < w.heap.size := by
  obtain ⟨lv, h1, _⟩ := h
  exact h1.lt

/-- Is the next token of this kind? -/
def rKind (ts : List Tok) (i : Nat) (k : Int) : Bool := match ts[i]? with | some t => t.kind == k | none => false
/-- Is the next token a mark or a keyword with this text? -/
def rIs (ts : List Tok) (i : Nat) (s : ByteArray) : Bool := match ts[i]? with | some t => (t.kind == 5 || t.kind == 4) && (⟨t.text.toArray⟩ : ByteArray).toList == s.toList | none => false

set_option maxHeartbeats 1600000 in
theorem rdKind_any (k : Int) (b : Nat) (ts : List Tok) (i : Nat) (w : World) (h : RdT w b ts i) : Calls Try.prog 72 #[.pointer (some ⟨b, 0, none⟩), .int .i64 k] w fun e w' => e = .returned (.bool (rKind ts i k)) ∧ Below w.heap.size w w' := by
  obtain ⟨lv, hr, ⟨g, cap, rfl, hne, hc⟩, hi, hl⟩ := h
  obtain ⟨c0, c1, c2, f1⟩ := hr.cells
  have HC := Lib.hid hc
  have HR := Lib.hid hr
  clear hc hr
  by_cases hlt : i < ts.length
  · obtain ⟨t, ht⟩ : ∃ x, ts[i]? = some x := ⟨_, List.getElem?_eq_getElem hlt⟩
    obtain ⟨d0, d1, d2⟩ := HC.out i t ht
    have HE : Hid (rKind ts i k = (t.kind == k)) := by show _ = _; unfold rKind; rw [ht]
    clear ht
    have hli : ((i : Int) < (ts.length : Int)) := by omega
    go_enter Try.func72, Try.ntmps72
    go_wp2
    go_quiet (fail)
    go_wp2
    go_ret
    exact ⟨ret_bool HE.out.symm, below_drewN (Below.refl _ w) nq⟩
  · have HE : Hid (rKind ts i k = false) := by show _ = _; unfold rKind; rw [List.getElem?_eq_none (by omega)]
    have hli : decide ((i : Int) < (ts.length : Int)) = false := by simpa using hlt
    go_enter Try.func72, Try.ntmps72
    go_wp2
    go_quiet (fail)
    go_wp2
    go_ret
    exact ⟨ret_bool HE.out.symm, below_drewN (Below.refl _ w) nq⟩
end Go.Proofs.Ytljgpgmaceackaa.S3

/- The contracts of the reference's reader: marks, words, positions. -/
namespace Go.Proofs.Ytljgpgmaceackaa.S3
open Go.RowKit Go.Maps Mth

set_option maxHeartbeats 3200000 in
theorem rdIs_any (s : ByteArray) (b : Nat) (ts : List Tok) (i : Nat) (w : World) (h : RdT w b ts i) : Calls Try.prog 52 #[.pointer (some ⟨b, 0, none⟩), .string s] w fun e w' => e = .returned (.bool (rIs ts i s)) ∧ Below w.heap.size w w' := by
  obtain ⟨lv, hr, ⟨g, cap, rfl, hne, hc⟩, hi, hl⟩ := h
  obtain ⟨c0, c1, c2, f1⟩ := hr.cells
  have HC := Lib.hid hc
  have HR := Lib.hid hr
  clear hc hr
  by_cases hlt : i < ts.length
  · obtain ⟨t, ht⟩ : ∃ x, ts[i]? = some x := ⟨_, List.getElem?_eq_getElem hlt⟩
    obtain ⟨d0, d1, d2⟩ := HC.out i t ht
    have HE : Hid (rIs ts i s = ((t.kind == 5 || t.kind == 4) && (⟨t.text.toArray⟩ : ByteArray).toList == s.toList)) := by show _ = _; unfold rIs; rw [ht]
    clear ht
    have hli : ((i : Int) < (ts.length : Int)) := by omega
    generalize (⟨t.text.toArray⟩ : ByteArray) = tx at *
    generalize t.kind = tk at *
    cases h5 : (tk == 5)
    · cases h4 : (tk == 4)
      · go_enter Try.func52, Try.ntmps52
        go_wp2
        go_quiet (fail)
        go_wp2
        go_ret
        exact ⟨ret_bool (by rw [HE.out, h5, h4]; rfl), below_drewN (Below.refl _ w) nq⟩
      · cases ht : (tx.toList == s.toList)
        all_goals
          go_enter Try.func52, Try.ntmps52
          go_wp2
          go_quiet (fail)
          go_wp2
          go_ret
          exact ⟨ret_bool (by rw [HE.out, h5, h4, ht]; rfl), below_drewN (Below.refl _ w) nq⟩
    · cases ht : (tx.toList == s.toList)
      all_goals
        go_enter Try.func52, Try.ntmps52
        go_wp2
        go_quiet (fail)
        go_wp2
        go_ret
        exact ⟨ret_bool (by rw [HE.out, h5, ht]; rfl), below_drewN (Below.refl _ w) nq⟩
  · have HE : Hid (rIs ts i s = false) := by show _ = _; unfold rIs; rw [List.getElem?_eq_none (by omega)]
    have hli : decide ((i : Int) < (ts.length : Int)) = false := by simpa using hlt
    go_enter Try.func52, Try.ntmps52
    go_wp2
    go_quiet (fail)
    go_wp2
    go_ret
    exact ⟨ret_bool HE.out.symm, below_drewN (Below.refl _ w) nq⟩

/-- The reader after one step. -/
theorem RdT.step {w : World} {b : Nat} {ts : List Tok} {i : Nat} (h : RdT w b ts i) (hi : i < ts.length) :
    RdT (w.setCell ⟨b, 1, none⟩ (.int .i64 ((i : Int) + 1))) b ts (i + 1) ∧ w.grownBy (w.setCell ⟨b, 1, none⟩ (.int .i64 ((i : Int) + 1))) (some b) := by
  obtain ⟨lv, hr, ht, _, hl⟩ := h
  have hset := set1 hr 1 (.int .i64 ((i : Int) + 1))
  refine ⟨⟨lv, ?_, ht.grown hset.2.1, hi, hl⟩, hset.2.1⟩
  unfold Rd
  rw [hset.1]
  simp
theorem rIs_lt {ts : List Tok} {i : Nat} {s : ByteArray} (h : rIs ts i s = true) : i < ts.length := by
  unfold rIs at h
  cases ht : ts[i]? with
  | none => rw [ht] at h; simp at h
  | some t => exact (List.getElem?_eq_some_iff.1 ht).1
set_option maxHeartbeats 1600000 in
theorem rdSkip_yes (s : ByteArray) (b : Nat) (ts : List Tok) (i : Nat) (w : World) (h : RdT w b ts i) (hs : rIs ts i s = true) : Calls Try.prog 63 #[.pointer (some ⟨b, 0, none⟩), .string s] w fun e w' => e = .returned (.bool true) ∧ RdT w' b ts (i + 1) ∧ w.grownBy w' (some b) := by
  have hlt := rIs_lt hs
  have HI : Hid (∀ w, RdT w b ts i → Calls Try.prog 52 #[.pointer (some ⟨b, 0, none⟩), .string s] w fun e w' => e = .returned (.bool true) ∧ Below w.heap.size w w') := fun w h => by have := rdIs_any s b ts i w h; rwa [hs] at this
  have HR := Lib.hid h
  have hle : ts.length ≤ 1000 := by obtain ⟨_, _, _, _, h⟩ := h; exact h
  clear h hs
  go_enter Try.func63, Try.ntmps63
  go_wp2_with fail
  go_at_call 52
  refine (HI.out _ HR.out).mono ?_
  rintro e w1 ⟨rfl, hb1⟩
  have HR1 := Lib.hid (HR.out.lift hb1)
  obtain ⟨lv, hr, -⟩ := HR1.out
  obtain ⟨c0, c1, c2, f1⟩ := hr.cells
  clear hr
  go_wp2
  go_ret
  have hst := HR1.out.step hlt
  exact ⟨rfl, hst.1, grown_trans (below_grown_some hb1 b) hst.2⟩
theorem rdSkip_no (s : ByteArray) (b : Nat) (ts : List Tok) (i : Nat) (w : World) (h : RdT w b ts i) (hs : rIs ts i s = false) : Calls Try.prog 63 #[.pointer (some ⟨b, 0, none⟩), .string s] w fun e w' => e = .returned (.bool false) ∧ Below w.heap.size w w' := by
  have HI : Hid (∀ w, RdT w b ts i → Calls Try.prog 52 #[.pointer (some ⟨b, 0, none⟩), .string s] w fun e w' => e = .returned (.bool false) ∧ Below w.heap.size w w') := fun w h => by have := rdIs_any s b ts i w h; rwa [hs] at this
  have HR := Lib.hid h
  clear h hs
  go_enter Try.func63, Try.ntmps63
  go_wp2_with (go_at_call 52; refine (HI.out _ HR.out).mono ?_; rintro e w1 ⟨rfl, hb1⟩)
  go_ret
  exact ⟨rfl, hb1⟩
theorem rdNeed_yes (s : ByteArray) (b : Nat) (ts : List Tok) (i : Nat) (w : World) (h : RdT w b ts i) (hs : rIs ts i s = true) : Calls Try.prog 65 #[.pointer (some ⟨b, 0, none⟩), .string s] w fun e w' => e = .returned (.tuple #[]) ∧ RdT w' b ts (i + 1) ∧ w.grownBy w' (some b) := by
  have HS := Lib.hid (rdSkip_yes s b ts i w h hs)
  clear h hs
  go_enter Try.func65, Try.ntmps65
  go_wp2_with (go_at_call 63; refine HS.out.mono ?_; rintro e w1 ⟨rfl, hr1, hg1⟩; have HR1 := Lib.hid hr1; clear hr1)
  go_end0
  exact ⟨rfl, HR1.out, hg1⟩

theorem rKind_lt {ts : List Tok} {i : Nat} {k : Int} (h : rKind ts i k = true) : i < ts.length := by
  unfold rKind at h
  cases ht : ts[i]? with
  | none => rw [ht] at h; simp at h
  | some t => exact (List.getElem?_eq_some_iff.1 ht).1
set_option maxHeartbeats 1600000 in
theorem rdWord_yes (k : Int) (t : Tok) (b : Nat) (ts : List Tok) (i : Nat) (w : World) (h : RdT w b ts i) (ht : ts[i]? = some t) (hk : rKind ts i k = true) : Calls Try.prog 64 #[.pointer (some ⟨b, 0, none⟩), .int .i64 k] w fun e w' => e = .returned (.string ⟨t.text.toArray⟩) ∧ RdT w' b ts (i + 1) ∧ w.grownBy w' (some b) := by
  have hlt := rKind_lt hk
  have HI : Hid (∀ w, RdT w b ts i → Calls Try.prog 72 #[.pointer (some ⟨b, 0, none⟩), .int .i64 k] w fun e w' => e = .returned (.bool true) ∧ Below w.heap.size w w') := fun w h => by have := rdKind_any k b ts i w h; rwa [hk] at this
  have HR := Lib.hid h
  have HT := Lib.hid ht
  have hle : ts.length ≤ 1000 := by obtain ⟨_, _, _, _, h⟩ := h; exact h
  clear h hk ht
  go_enter Try.func64, Try.ntmps64
  go_wp2_with fail
  go_at_call 72
  refine (HI.out _ HR.out).mono ?_
  rintro e w1 ⟨rfl, hb1⟩
  have HR1 := Lib.hid (HR.out.lift hb1)
  obtain ⟨lv, hr, -⟩ := HR1.out
  obtain ⟨c0, c1, c2, f1⟩ := hr.cells
  clear hr
  go_wp2
  have HS := Lib.hid (HR1.out.step hlt)
  have hg := grown_trans (below_grown_some hb1 b) HS.out.2
  clear c0 c1 c2 f1
  have HS1 := Lib.hid HS.out.1
  clear HS
  generalize (w1.setCell ⟨b, 1, none⟩ (.int .i64 ((i : Int) + 1))) = W at *
  obtain ⟨lv2, hr2, ⟨g, cap, rfl, hne, hc⟩, -⟩ := HS1.out
  obtain ⟨c0, c1, c2, f1⟩ := hr2.cells
  obtain ⟨d0, d1, d2⟩ := hc i t HT.out
  clear hr2 hc
  have hwr : IntKind.i64.wrap (i : Int) = i := by rw [IntKind.wrap_i64]; omega
  have hli : ((i : Int) < (ts.length : Int)) := by omega
  go_quiet (fail)
  go_wp2
  go_ret
  have hb2 : Below W.heap.size W (W.drewN nq) := below_drewN (Below.refl _ W) nq
  exact ⟨rfl, HS1.out.lift hb2, grown_trans hg (below_grown_some hb2 b)⟩
set_option maxHeartbeats 1600000 in
theorem rdPos_any (t : Tok) (b : Nat) (ts : List Tok) (i : Nat) (w : World) (h : RdT w b ts i) (ht : ts[i]? = some t) : Calls Try.prog 62 #[.pointer (some ⟨b, 0, none⟩)] w fun e w' => e = .returned (.int .i64 t.pos) ∧ Below w.heap.size w w' := by
  obtain ⟨lv, hr, ⟨g, cap, rfl, hne, hc⟩, hi, hl⟩ := h
  obtain ⟨c0, c1, c2, f1⟩ := hr.cells
  obtain ⟨d0, d1, d2⟩ := hc i t ht
  have hlt := (List.getElem?_eq_some_iff.1 ht).1
  clear hc hr ht
  have hli : ((i : Int) < (ts.length : Int)) := by omega
  go_enter Try.func62, Try.ntmps62
  go_wp2
  go_quiet (fail)
  go_wp2
  go_quiet (fail)
  go_wp2
  go_ret
  exact ⟨rfl, below_drewN (below_drewN (Below.refl _ w) _) _⟩
theorem rdAtoms_any (b : Nat) (ts : List Tok) (i : Nat) (w : World) (h : RdT w b ts i) : Calls Try.prog 73 #[.pointer (some ⟨b, 0, none⟩)] w fun e w' => e = .returned (.bool (rKind ts i 1 || rKind ts i 2 || rIs ts i ⟨#[40]⟩)) ∧ Below w.heap.size w w' := by
  have HR := Lib.hid h
  have H1 : Hid (∀ w, RdT w b ts i → Calls Try.prog 72 #[.pointer (some ⟨b, 0, none⟩), .int .i64 1] w fun e w' => e = .returned (.bool (rKind ts i 1)) ∧ Below w.heap.size w w') := fun w h => rdKind_any 1 b ts i w h
  have H2 : Hid (∀ w, RdT w b ts i → Calls Try.prog 72 #[.pointer (some ⟨b, 0, none⟩), .int .i64 2] w fun e w' => e = .returned (.bool (rKind ts i 2)) ∧ Below w.heap.size w w') := fun w h => rdKind_any 2 b ts i w h
  have H3 : Hid (∀ w, RdT w b ts i → Calls Try.prog 52 #[.pointer (some ⟨b, 0, none⟩), .string ⟨#[40]⟩] w fun e w' => e = .returned (.bool (rIs ts i ⟨#[40]⟩)) ∧ Below w.heap.size w w') := fun w h => rdIs_any ⟨#[40]⟩ b ts i w h
  clear h
  generalize rKind ts i 1 = q1 at *
  generalize rKind ts i 2 = q2 at *
  generalize rIs ts i ⟨#[40]⟩ = q3 at *
  cases q1 with
  | true =>
    go_enter Try.func73, Try.ntmps73
    go_wp2_with (go_at_call 72; refine (H1.out _ HR.out).mono ?_; rintro e w1 ⟨rfl, hb1⟩)
    go_ret
    exact ⟨rfl, hb1⟩
  | false =>
    cases q2 with
    | true =>
      go_enter Try.func73, Try.ntmps73
      go_wp2_with fail
      go_at_call 72
      refine (H1.out _ HR.out).mono ?_
      rintro e w1 ⟨rfl, hb1⟩
      have HR1 := Lib.hid (HR.out.lift hb1)
      go_wp2_with (go_at_call 72; refine (H2.out _ HR1.out).mono ?_; rintro e w2 ⟨rfl, hb2⟩)
      go_ret
      exact ⟨rfl, hb1.trans (hb2.mono hb1.size)⟩
    | false =>
      go_enter Try.func73, Try.ntmps73
      go_wp2_with fail
      go_at_call 72
      refine (H1.out _ HR.out).mono ?_
      rintro e w1 ⟨rfl, hb1⟩
      have HR1 := Lib.hid (HR.out.lift hb1)
      go_wp2_with fail
      go_at_call 72
      refine (H2.out _ HR1.out).mono ?_
      rintro e w2 ⟨rfl, hb2⟩
      have HR2 := Lib.hid (HR1.out.lift hb2)
      go_wp2_with (go_at_call 52; refine (H3.out _ HR2.out).mono ?_; rintro e w3 ⟨rfl, hb3⟩)
      go_ret
      exact ⟨rfl, (hb1.trans (hb2.mono hb1.size)).trans (hb3.mono (Nat.le_trans hb1.size hb2.size))⟩
end Go.Proofs.Ytljgpgmaceackaa.S3
