import Derived.Test.YthphnacfidofbaaGreatDoorRfMa
import Derived.Test.YthphnacfidofbaaGreatDoorTyInMa
import Derived.Test.YthphnacfidofbaaGreatDoorTyCon
import Derived.StillTailTactics
import Derived.Deep.CutBlock
import Derived.BigQuiet
import Derived.Deep.QuietTactic
/- The reference's reader, whatever its state: its memory. -/
namespace Go.Proofs.YthphnacfidofbaaGreatDoor
open Go.RowKit Go.Maps Mth

theorem below_grown_some {w w' : World} (h : Below w.heap.size w w') (b : Nat) : w.grownBy w' (some b) := grown_of_below h _
theorem grown_fresh {a b c : World} {r row : Option Nat} (h : a.grownBy b r) (k : b.grownBy c row) (hr : ∀ i, row = some i → a.heap.size ≤ i) : a.grownBy c r :=
  ⟨k.os.trans h.os, k.tape.trans h.tape, k.output.trans h.output, Nat.le_trans h.size k.size, fun i hi hne => (k.block i (Nat.lt_of_lt_of_le hi h.size) (fun e => by have := hr i e.symm; omega)).trans (h.block i hi hne)⟩

/-- A state of the reader: its place, whether it has failed, and at which offset. -/
structure St where
  i : Nat
  bad : Bool
  p : Int
/-- All texts are short, and there are not too many. -/
def TkOk (ts : List Tok) : Prop := ts.length ≤ 100000 ∧ ∀ t ∈ ts, t.text.length ≤ 4000 ∧ t.pos ≤ 1000000000
/-- The tokens of a slice whose cells lie in a block of S. -/
def TokAt (w : World) (S : Nat → Prop) (lv : Value) (ts : List Tok) : Prop :=
  ∃ a cap, lv = .slice a ts.length cap ∧ (ts.length ≤ cap ∧ cap ≤ maxLen) ∧ ∀ (j : Nat) (t : Tok), ts[j]? = some t → ∃ g, a = some ⟨g, 0, none⟩ ∧ S g ∧
    w.cell? ⟨g, j * 3, none⟩ = some (.int .i64 t.kind) ∧ w.cell? ⟨g, j * 3 + 1, none⟩ = some (.string ⟨t.text.toArray⟩) ∧ w.cell? ⟨g, j * 3 + 2, none⟩ = some (.int .i64 t.pos)
theorem TokAt.kept {w w' : World} {S S' : Nat → Prop} {lv : Value} {ts : List Tok} (hS : ∀ g, S g → S' g) (hw : ∀ g, S g → g < w.heap.size → w'.heap[g]? = w.heap[g]?) (h : TokAt w S lv ts) : TokAt w' S' lv ts := by
  obtain ⟨a, cap, hv, hcap, hc⟩ := h
  refine ⟨a, cap, hv, hcap, fun j t ht => ?_⟩
  obtain ⟨g, ha, hg, h1, h2, h3⟩ := hc j t ht
  have e := hw g hg (World.block_lt_of_cell? _ _ h1)
  have k : ∀ o v, w.cell? ⟨g, o, none⟩ = some v → w'.cell? ⟨g, o, none⟩ = some v := fun o v h => by rw [World.cell?_of_block (a := ⟨g, o, none⟩) e]; exact h
  exact ⟨g, ha, hS g hg, k _ _ h1, k _ _ h2, k _ _ h3⟩
theorem TokAt.lift {w w' : World} {S : Nat → Prop} {lv : Value} {ts : List Tok} (h : TokAt w S lv ts) (hb : Below w.heap.size w w') : TokAt w' S lv ts := h.kept (fun _ h => h) fun g _ hl => hb.block g hl
theorem TokAt.grown {w w' : World} {S : Nat → Prop} {lv : Value} {ts : List Tok} {b : Nat} (h : TokAt w S lv ts) (hS : ∀ g, S g → g ≠ b) (hg : w.grownBy w' (some b)) : TokAt w' S lv ts :=
  h.kept (fun _ h => h) fun g hs hl => hg.block g hl (fun e => hS g hs (Option.some.inj e))

def RdB (w : World) (b : Nat) (lv : Value) (s : St) : Prop := w.heap[b]? = some (.cells #[lv, .int .i64 s.i, .bool s.bad, .int .i64 s.p] 125 (0, 0))
theorem RdB.lt {w : World} {b : Nat} {lv : Value} {s : St} (h : RdB w b lv s) : b < w.heap.size := (Array.getElem?_eq_some_iff.1 h).1
theorem RdB.cells {w : World} {b : Nat} {lv : Value} {i : Nat} {q : Bool} {p : Int} (h : RdB w b lv ⟨i, q, p⟩) : w.cell? ⟨b, 0, none⟩ = some lv ∧ w.cell? ⟨b, 1, none⟩ = some (.int .i64 i) ∧ w.cell? ⟨b, 2, none⟩ = some (.bool q) ∧ w.cell? ⟨b, 3, none⟩ = some (.int .i64 p) ∧ w.frozen? ⟨b, 1, none⟩ = false ∧ w.frozen? ⟨b, 2, none⟩ = false ∧ w.frozen? ⟨b, 3, none⟩ = false := by
  unfold RdB at h
  simp [World.cell?, World.frozen?, h]
/-- The reader in its block, in a state. -/
def RdX (w : World) (b : Nat) (ts : List Tok) (s : St) : Prop := ∃ lv, RdB w b lv s ∧ TokAt w (fun g => g < b) lv ts ∧ s.i ≤ ts.length ∧ (s.bad = false → s.p = 0) ∧ TkOk ts
theorem RdX.lift {w w' : World} {b : Nat} {ts : List Tok} {s : St} (h : RdX w b ts s) (hb : Below w.heap.size w w') : RdX w' b ts s := by
  obtain ⟨lv, h1, h2, h3⟩ := h
  refine ⟨lv, ?_, h2.lift hb, h3⟩
  unfold RdB at *
  rw [hb.block _ (Array.getElem?_eq_some_iff.1 h1).1, h1]
theorem RdX.other {w w' : World} {b R : Nat} {ts : List Tok} {s : St} (h : RdX w b ts s) (hR : b < R) (hg : w.grownBy w' (some R)) : RdX w' b ts s := by
  obtain ⟨lv, h1, h2, h3⟩ := h
  refine ⟨lv, ?_, h2.grown (fun g hg => by omega) hg, h3⟩
  unfold RdB at *
  rw [hg.block b (Array.getElem?_eq_some_iff.1 h1).1 (by intro e; have := Option.some.inj e; omega), h1]
theorem RdX.lt {w : World} {b : Nat} {ts : List Tok} {s : St} (h : RdX w b ts s) : b < w.heap.size := by
  obtain ⟨lv, h1, _⟩ := h
  exact h1.lt
theorem RdX.le {w : World} {b : Nat} {ts : List Tok} {s : St} (h : RdX w b ts s) : s.i ≤ ts.length ∧ ts.length ≤ 100000 := by
  obtain ⟨lv, _, _, h3, _, h4⟩ := h
  exact ⟨h3, h4.1⟩

/-- Is the next token of this kind? -/
def rKind (ts : List Tok) (i : Nat) (k : Int) : Bool := match ts[i]? with | some t => t.kind == k | none => false
/-- Is the next token a mark or a keyword with this text? -/
def rIs (ts : List Tok) (i : Nat) (s : ByteArray) : Bool := match ts[i]? with | some t => (t.kind == 5 || t.kind == 4) && (⟨t.text.toArray⟩ : ByteArray).toList == s.toList | none => false
def txt (ts : List Tok) (i : Nat) : ByteArray := match ts[i]? with | some t => ⟨t.text.toArray⟩ | none => ⟨#[]⟩
/-- The offset of the token at an index, or of the end. -/
def posAt (ts : List Tok) (i : Nat) : Int := match ts[i]? with
  | some t => t.pos
  | none => match ts[ts.length - 1]? with
    | some t => (t.pos : Int) + t.text.length
    | none => 0
def xK (ts : List Tok) (s : St) (k : Int) : Bool := !s.bad && rKind ts s.i k
def xI (ts : List Tok) (s : St) (t : ByteArray) : Bool := !s.bad && rIs ts s.i t
def xStep (s : St) : St := ⟨s.i + 1, s.bad, s.p⟩
def xFail (ts : List Tok) (s : St) : St := if s.bad then s else ⟨s.i, true, posAt ts s.i⟩
def xSkip (ts : List Tok) (s : St) (t : ByteArray) : St := if xI ts s t then xStep s else s
def xNeed (ts : List Tok) (s : St) (t : ByteArray) : St := if xI ts s t then xStep s else xFail ts s
theorem rKind_lt {ts : List Tok} {i : Nat} {k : Int} (h : rKind ts i k = true) : i < ts.length := by
  unfold rKind at h
  cases ht : ts[i]? with
  | none => rw [ht] at h; simp at h
  | some t => exact (List.getElem?_eq_some_iff.1 ht).1
theorem rIs_lt {ts : List Tok} {i : Nat} {s : ByteArray} (h : rIs ts i s = true) : i < ts.length := by
  unfold rIs at h
  cases ht : ts[i]? with
  | none => rw [ht] at h; simp at h
  | some t => exact (List.getElem?_eq_some_iff.1 ht).1
theorem txt_some {ts : List Tok} {i : Nat} {t : Tok} (h : ts[i]? = some t) : txt ts i = ⟨t.text.toArray⟩ := by unfold txt; rw [h]
theorem txt_size {ts : List Tok} (h : TkOk ts) (i : Nat) : (txt ts i).size ≤ maxLen := by
  unfold txt
  cases ht : ts[i]? with
  | none => exact Nat.zero_le _
  | some t =>
    have := (h.2 t (List.mem_of_getElem? ht)).1
    show (⟨t.text.toArray⟩ : ByteArray).size ≤ maxLen
    have e : (⟨t.text.toArray⟩ : ByteArray).size = t.text.length := by rw [← bl_len, bl_mk]
    rw [e]
    unfold maxLen
    omega
end Go.Proofs.YthphnacfidofbaaGreatDoor

/- The reference's reader, whatever its state: what each small method does. -/
namespace Go.Proofs.YthphnacfidofbaaGreatDoor
open Go.RowKit Go.Maps Mth

set_option maxHeartbeats 1600000 in
theorem rdKind_any (k : Int) (b : Nat) (ts : List Tok) (s : St) (w : World) (h : RdX w b ts s) : Calls Tryz.prog 94 #[.pointer (some ⟨b, 0, none⟩), .int .i64 k] w fun e w' => e = .returned (.bool (xK ts s k)) ∧ Below w.heap.size w w' := by
  obtain ⟨i, q, p⟩ := s
  obtain ⟨lv, hr, ⟨a, cap, rfl, hcap, hc⟩, hi, hp, hl⟩ := h
  obtain ⟨c0, c1, c2, c3, f1, f2, f3⟩ := hr.cells
  have hl1 := hl.1
  have HC := Lib.hid hc
  clear hc hr hp hl
  dsimp only at hi
  cases q
  · by_cases hlt : i < ts.length
    · obtain ⟨t, ht⟩ : ∃ x, ts[i]? = some x := ⟨_, List.getElem?_eq_getElem hlt⟩
      obtain ⟨g, rfl, hg, d0, d1, d2⟩ := HC.out i t ht
      have HE : Hid (xK ts ⟨i, false, p⟩ k = (t.kind == k)) := by show _ = _; unfold xK rKind; simp only; rw [ht]; rfl
      clear ht
      have hli : ((i : Int) < (ts.length : Int)) := by omega
      go_enter Tryz.func94, Tryz.ntmps94
      go_wp2
      go_quiet (fail)
      go_wp2
      go_ret
      exact ⟨ret_bool HE.out.symm, below_drewN (Below.refl _ w) nq⟩
    · have HE : Hid (xK ts ⟨i, false, p⟩ k = false) := by show _ = _; unfold xK rKind; simp only; rw [List.getElem?_eq_none (by omega)]; rfl
      have hli : decide ((i : Int) < (ts.length : Int)) = false := by simpa using hlt
      go_enter Tryz.func94, Tryz.ntmps94
      go_wp2
      go_quiet (fail)
      go_wp2
      go_ret
      exact ⟨ret_bool HE.out.symm, below_drewN (Below.refl _ w) nq⟩
  · go_enter Tryz.func94, Tryz.ntmps94
    go_wp2
    go_quiet (fail)
    go_wp2
    go_ret
    exact ⟨rfl, below_drewN (Below.refl _ w) nq⟩

set_option maxHeartbeats 3200000 in
theorem rdIs_any (s : ByteArray) (b : Nat) (ts : List Tok) (st : St) (w : World) (h : RdX w b ts st) : Calls Tryz.prog 97 #[.pointer (some ⟨b, 0, none⟩), .string s] w fun e w' => e = .returned (.bool (xI ts st s)) ∧ Below w.heap.size w w' := by
  obtain ⟨i, q, p⟩ := st
  obtain ⟨lv, hr, ⟨a, cap, rfl, hcap, hc⟩, hi, hp, hl⟩ := h
  obtain ⟨c0, c1, c2, c3, f1, f2, f3⟩ := hr.cells
  have hl1 := hl.1
  have HC := Lib.hid hc
  clear hc hr hp hl
  dsimp only at hi
  cases q
  · by_cases hlt : i < ts.length
    · obtain ⟨t, ht⟩ : ∃ x, ts[i]? = some x := ⟨_, List.getElem?_eq_getElem hlt⟩
      obtain ⟨g, rfl, hg, d0, d1, d2⟩ := HC.out i t ht
      have HE : Hid (xI ts ⟨i, false, p⟩ s = ((t.kind == 5 || t.kind == 4) && (⟨t.text.toArray⟩ : ByteArray).toList == s.toList)) := by show _ = _; unfold xI rIs; simp only; rw [ht]; rfl
      clear ht
      have hli : ((i : Int) < (ts.length : Int)) := by omega
      generalize (⟨t.text.toArray⟩ : ByteArray) = tx at *
      generalize t.kind = tk at *
      cases h5 : (tk == 5)
      · cases h4 : (tk == 4)
        · go_enter Tryz.func97, Tryz.ntmps97
          go_wp2
          go_quiet (fail)
          go_wp2
          go_ret
          exact ⟨ret_bool (by rw [HE.out, h5, h4]; rfl), below_drewN (Below.refl _ w) nq⟩
        · cases ht : (tx.toList == s.toList)
          all_goals
            go_enter Tryz.func97, Tryz.ntmps97
            go_wp2
            go_quiet (fail)
            go_wp2
            go_ret
            exact ⟨ret_bool (by rw [HE.out, h5, h4, ht]; rfl), below_drewN (Below.refl _ w) nq⟩
      · cases ht : (tx.toList == s.toList)
        all_goals
          go_enter Tryz.func97, Tryz.ntmps97
          go_wp2
          go_quiet (fail)
          go_wp2
          go_ret
          exact ⟨ret_bool (by rw [HE.out, h5, ht]; rfl), below_drewN (Below.refl _ w) nq⟩
    · have HE : Hid (xI ts ⟨i, false, p⟩ s = false) := by show _ = _; unfold xI rIs; simp only; rw [List.getElem?_eq_none (by omega)]; rfl
      have hli : decide ((i : Int) < (ts.length : Int)) = false := by simpa using hlt
      go_enter Tryz.func97, Tryz.ntmps97
      go_wp2
      go_quiet (fail)
      go_wp2
      go_ret
      exact ⟨ret_bool HE.out.symm, below_drewN (Below.refl _ w) nq⟩
  · go_enter Tryz.func97, Tryz.ntmps97
    go_wp2
    go_quiet (fail)
    go_wp2
    go_ret
    exact ⟨rfl, below_drewN (Below.refl _ w) nq⟩
end Go.Proofs.YthphnacfidofbaaGreatDoor
