/- How far a scan has come: the tokens so far and what is left. -/
import Derived.Test.YtejlhfjhpminjaaTkMath2
namespace Go.Proofs.Ytejlhfjhpminjaa
namespace Mth
/-- The tokens of a text, its error and the error's place. -/
def ferr (l : List UInt8) : Int := if 4000 < l.length then 1 else match (sc l 0).2 with | none => 0 | some _ => 2
def fpos (l : List UInt8) : Int := if 4000 < l.length then 0 else match (sc l 0).2 with | none => 0 | some p => p
def ftoks (l : List UInt8) : List Tok := if 4000 < l.length then [] else match (sc l 0).2 with | none => (sc l 0).1 | some _ => []
/-- A scan of l that stands at k and has the tokens acc. -/
def Inv (l : List UInt8) (k : Nat) (acc : List Tok) : Prop := acc.length ≤ k ∧ sc l 0 = (acc ++ (sc (l.drop k) k).1, (sc (l.drop k) k).2)
theorem inv_start (l : List UInt8) : Inv l 0 [] := ⟨Nat.le_refl _, by simp⟩
theorem inv_blank {l : List UInt8} {k n : Nat} {acc : List Tok} (h : Inv l k acc) (hs : stp (l.drop k) = (-1, n)) : Inv l (k + n) acc := by
  have he := sc_blank (l := l.drop k) k (by rw [hs])
  rw [hs, List.drop_drop] at he
  refine ⟨Nat.le_trans h.1 (by omega), ?_⟩
  rw [h.2, he]
theorem inv_tok {l : List UInt8} {k n : Nat} {K : Int} {acc : List Tok} (h : Inv l k acc) (hs : stp (l.drop k) = (K, n)) (h0 : K ≠ 0) (h1 : K ≠ -1) : Inv l (k + n) (acc ++ [⟨K, (l.drop k).take n, k⟩]) := by
  have he := sc_tok (l := l.drop k) k (by rw [hs]; exact h0) (by rw [hs]; exact h1)
  have hn := stp_le (l.drop k) (by rw [hs]; exact h0)
  rw [hs, List.drop_drop] at he
  rw [hs] at hn
  refine ⟨by have := h.1; have := hn.1; simp only [List.length_append, List.length_singleton]; dsimp only at *; omega, ?_⟩
  rw [h.2, he]
  simp
theorem inv_err {l : List UInt8} {k n : Nat} {acc : List Tok} (h : Inv l k acc) (hs : stp (l.drop k) = (0, n)) (hk : k < l.length) (hl : ¬ 4000 < l.length) : ferr l = 2 ∧ fpos l = k ∧ ftoks l = [] := by
  have hne : l.drop k ≠ [] := fun e => by have := List.length_drop (l := l) (i := k); rw [e] at this; simp at this; omega
  have he := sc_err (l := l.drop k) k hne (by rw [hs])
  have h2 := h.2
  rw [he] at h2
  unfold ferr fpos ftoks
  rw [h2, if_neg hl, if_neg hl, if_neg hl]
  exact ⟨rfl, rfl, rfl⟩
theorem inv_end {l : List UInt8} {k : Nat} {acc : List Tok} (h : Inv l k acc) (hk : k = l.length) (hl : ¬ 4000 < l.length) : ferr l = 0 ∧ fpos l = 0 ∧ ftoks l = acc := by
  have h2 := h.2
  rw [hk, List.drop_length, sc_nil] at h2
  unfold ferr fpos ftoks
  rw [h2, if_neg hl, if_neg hl, if_neg hl]
  exact ⟨rfl, rfl, by simp⟩
theorem inv_big {l : List UInt8} (hl : 4000 < l.length) : ferr l = 1 ∧ fpos l = 0 ∧ ftoks l = [] := by
  unfold ferr fpos ftoks
  exact ⟨if_pos hl, if_pos hl, if_pos hl⟩
theorem stp_fits {l : List UInt8} {k n : Nat} {K : Int} (hs : stp (l.drop k) = (K, n)) (h0 : K ≠ 0) : 1 ≤ n ∧ k + n ≤ l.length := by
  have hn := stp_le (l.drop k) (by rw [hs]; exact h0)
  rw [hs, List.length_drop] at hn
  dsimp only at hn
  omega
end Mth
end Go.Proofs.Ytejlhfjhpminjaa
