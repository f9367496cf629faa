/- The contracts of the reference's reader: where a token is read. -/
import Derived.Test.YtahiefgfhpkoeaaRfScan
import Derived.Test.YtahiefgfhpkoeaaTyMake
import Derived.Test.YtahiefgfhpkoeaaTyCon
namespace Go.Proofs.Ytahiefgfhpkoeaa
open Go.RowKit Go.Sort Go.Shelf Go.Maps Mth

/-- The block is a reader at a place, without an error. -/
def Rd (w : World) (b : Nat) (lv : Value) (i : Nat) : Prop := w.heap[b]? = some (.cells #[lv, .int .i64 i, .bool false, .int .i64 0] 109 (0, 0))
theorem Rd.lt {w : World} {b : Nat} {lv : Value} {i : Nat} (h : Rd w b lv i) : b < w.heap.size := (Array.getElem?_eq_some_iff.1 h).1
theorem Rd.lift {w w' : World} {b : Nat} {lv : Value} {i : Nat} (h : Rd w b lv i) (hb : Below w.heap.size w w') : Rd w' b lv i := by unfold Rd at *; rw [hb.block _ (Array.getElem?_eq_some_iff.1 h).1, h]
theorem Rd.cells {w : World} {b : Nat} {lv : Value} {i : Nat} (h : Rd w b lv i) : w.cell? ⟨b, 0, none⟩ = some lv ∧ w.cell? ⟨b, 1, none⟩ = some (.int .i64 i) ∧ w.cell? ⟨b, 2, none⟩ = some (.bool false) ∧ w.frozen? ⟨b, 1, none⟩ = false := by
  unfold Rd at h
  simp [World.cell?, World.frozen?, h]
/-- The tokens of a slice whose cells lie in another block than the reader. -/
def TokAt (w : World) (b : Nat) (lv : Value) (ts : List Tok) : Prop :=
  ∃ g cap, lv = .slice (some ⟨g, 0, none⟩) ts.length cap ∧ g < b ∧ ∀ (j : Nat) (t : Tok), ts[j]? = some t →
    w.cell? ⟨g, j * 3, none⟩ = some (.int .i64 t.kind) ∧ w.cell? ⟨g, j * 3 + 1, none⟩ = some (.string ⟨t.text.toArray⟩) ∧ w.cell? ⟨g, j * 3 + 2, none⟩ = some (.int .i64 t.pos)
theorem TokAt.grown {w w' : World} {b : Nat} {lv : Value} {ts : List Tok} (h : TokAt w b lv ts) (hg : w.grownBy w' (some b)) : TokAt w' b lv ts := by
  obtain ⟨g, cap, hv, hne, hc⟩ := h
  refine ⟨g, cap, hv, hne, fun j t ht => ?_⟩
  obtain ⟨h1, h2, h3⟩ := hc j t ht
  have k : ∀ o v, w.cell? ⟨g, o, none⟩ = some v → w'.cell? ⟨g, o, none⟩ = some v := fun o v h => hg.cell h (by intro e; have := Option.some.inj e; simp at this; omega)
  exact ⟨k _ _ h1, k _ _ h2, k _ _ h3⟩
theorem TokAt.other {w w' : World} {b R : Nat} {lv : Value} {ts : List Tok} (h : TokAt w b lv ts) (hR : b < R) (hg : w.grownBy w' (some R)) : TokAt w' b lv ts := by
  obtain ⟨g, cap, hv, hne, hc⟩ := h
  refine ⟨g, cap, hv, hne, fun j t ht => ?_⟩
  obtain ⟨h1, h2, h3⟩ := hc j t ht
  have k : ∀ o v, w.cell? ⟨g, o, none⟩ = some v → w'.cell? ⟨g, o, none⟩ = some v := fun o v h => hg.cell h (by intro e; have := Option.some.inj e; simp at this; omega)
  exact ⟨k _ _ h1, k _ _ h2, k _ _ h3⟩
/-- The reader in its block, at a place in its tokens. -/
def RdT (w : World) (b : Nat) (ts : List Tok) (i : Nat) : Prop := ∃ lv, Rd w b lv i ∧ TokAt w b lv ts ∧ i ≤ ts.length ∧ ts.length ≤ 1000
theorem RdT.lift {w w' : World} {b : Nat} {ts : List Tok} {i : Nat} (h : RdT w b ts i) (hb : Below w.heap.size w w') : RdT w' b ts i := by
  obtain ⟨lv, h1, h2, h3⟩ := h
  exact ⟨lv, h1.lift hb, h2.grown (below_grown_some hb b), h3⟩
theorem RdT.other {w w' : World} {b R : Nat} {ts : List Tok} {i : Nat} (h : RdT w b ts i) (hR : b < R) (hg : w.grownBy w' (some R)) : RdT w' b ts i := by
  obtain ⟨lv, h1, h2, h3⟩ := h
  refine ⟨lv, ?_, h2.other hR hg, h3⟩
  unfold Rd at *
  rw [hg.block b (Array.getElem?_eq_some_iff.1 h1).1 (by intro e; have := Option.some.inj e; omega), h1]
theorem RdT.lt {w : World} {b : Nat} {ts : List Tok} {i : Nat} (h : RdT w b ts i) : b < w.heap.size := by
  obtain ⟨lv, h1, _⟩ := h
  exact h1.lt

/-- Is the next token of this kind? -/
def rKind (ts : List Tok) (i : Nat) (k : Int) : Bool := match ts[i]? with | some t => t.kind == k | none => false
/-- Is the next token a mark or a keyword with this text? -/
def rIs (ts : List Tok) (i : Nat) (s : ByteArray) : Bool := match ts[i]? with | some t => (t.kind == 5 || t.kind == 4) && (⟨t.text.toArray⟩ : ByteArray).toList == s.toList | none => false

set_option maxHeartbeats 1600000 in
theorem rdKind_any (k : Int) (b : Nat) (ts : List Tok) (i : Nat) (w : World) (h : RdT w b ts i) : Calls Try.prog 96 #[.pointer (some ⟨b, 0, none⟩), .int .i64 k] w fun e w' => e = .returned (.bool (rKind ts i k)) ∧ Below w.heap.size w w' := by
  obtain ⟨lv, hr, ⟨g, cap, rfl, hne, hc⟩, hi, hl⟩ := h
  obtain ⟨c0, c1, c2, f1⟩ := hr.cells
  have HC := Lib.hid hc
  have HR := Lib.hid hr
  clear hc hr
  by_cases hlt : i < ts.length
  · obtain ⟨t, ht⟩ : ∃ x, ts[i]? = some x := ⟨_, List.getElem?_eq_getElem hlt⟩
    obtain ⟨d0, d1, d2⟩ := HC.out i t ht
    have HE : Hid (rKind ts i k = (t.kind == k)) := by show _ = _; unfold rKind; rw [ht]
    clear ht
    have hli : ((i : Int) < (ts.length : Int)) := by omega
    go_enter Try.func96, Try.ntmps96
    go_wp2
    go_quiet (fail)
    go_wp2
    go_ret
    exact ⟨ret_bool HE.out.symm, below_drewN (Below.refl _ w) nq⟩
  · have HE : Hid (rKind ts i k = false) := by show _ = _; unfold rKind; rw [List.getElem?_eq_none (by omega)]
    have hli : decide ((i : Int) < (ts.length : Int)) = false := by simpa using hlt
    go_enter Try.func96, Try.ntmps96
    go_wp2
    go_quiet (fail)
    go_wp2
    go_ret
    exact ⟨ret_bool HE.out.symm, below_drewN (Below.refl _ w) nq⟩
end Go.Proofs.Ytahiefgfhpkoeaa
