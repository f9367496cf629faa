import Derived.Test.YtljgpgmaceackaaQX41
import Derived.Test.YtljgpgmaceackaaQX42
/- The texts of law 10's first: what they are read as. -/
namespace Go.Proofs.Ytljgpgmaceackaa
open Go.RowKit Go.Maps Mth S3

/-- What a text is read as; nothing, if it is not. -/
def readT (s : ByteArray) : Option Ex := match zRead 300 (ftoks (bl s)) ⟨startAt (ftoks (bl s)) 0, false, 0⟩ with | some (T, ⟨_, _, _⟩) => some T | none => none
/-- A text is read, by a run. -/
def readOk (s : ByteArray) : Bool := decide (s.size ≤ 4000) && decide (ferr (bl s) = 0) && decide (fpos (bl s) = 0) && !(ftoks (bl s)).isEmpty && match zRead 300 (ftoks (bl s)) ⟨startAt (ftoks (bl s)) 0, false, 0⟩ with | some (T, ⟨i, b, _⟩) => fitE 41 T && decide (i = (ftoks (bl s)).length) && !b | none => false
theorem etext_of {s : ByteArray} (h : readOk s = true) : ∃ T, readT s = some T ∧ EText s T := by
  unfold readOk at h
  simp only [Bool.and_eq_true, decide_eq_true_eq, Bool.not_eq_true'] at h
  obtain ⟨⟨⟨⟨h1, h2⟩, h3⟩, h4⟩, h5⟩ := h
  unfold readT
  cases hz : zRead 300 (ftoks (bl s)) ⟨startAt (ftoks (bl s)) 0, false, 0⟩ with
  | none => rw [hz] at h5; cases h5
  | some r =>
    obtain ⟨T, ⟨i, b, p⟩⟩ := r
    rw [hz] at h5
    simp only [Bool.and_eq_true, decide_eq_true_eq, Bool.not_eq_true'] at h5
    obtain ⟨⟨h6, h7⟩, h8⟩ := h5
    subst h7 h8
    exact ⟨T, rfl, h1, h2, h3, (fun e => by rw [e] at h4; cases h4), ⟨300, p, by decide, hz⟩, h6⟩
def tx1 : ByteArray := ⟨#[92, 120, 46, 32, 108, 101, 116, 32, 121, 32, 61, 32, 63, 32, 105, 110, 32, 63]⟩
def tx3 : ByteArray := ⟨#[120]⟩
def tx2 : ByteArray := ⟨#[99, 97, 115, 101, 32, 120, 32, 111, 102, 32, 78, 111, 110, 101, 46, 32, 49, 32, 124, 32, 83, 111, 109, 101, 32, 120, 46, 32, 120, 32, 101, 110, 100]⟩
theorem tx2_ok : readOk tx2 = true := by decide +kernel
theorem tx1_ok : readOk tx1 = true := by decide +kernel
theorem tx3_ok : readOk tx3 = true := by decide +kernel
/-- The names that are visible at the two holes. -/
theorem tx1_vis : (readT tx1).map (fun T => ((visN T [0, 0]).map bl, (visN T [0, 1]).map bl)) = some ([[120]], [[120], [121]]) := by decide +kernel
end Go.Proofs.Ytljgpgmaceackaa
