import Derived.Test.YtljgpgmaceackaaQX31
import Derived.Test.YtljgpgmaceackaaQX24
/- What the maker's expressions are made of, for the walks over them: plain facts. -/
namespace Go.Proofs.Ytljgpgmaceackaa
open Go.RowKit Go.Maps Mth S3

mutual
theorem flat_src : ∀ (T : Ty), src T = true → flatT T = true
  | .mk k n i h ts, hs => by
    simp only [src, Bool.and_eq_true] at hs
    obtain ⟨⟨-, h1⟩, h2⟩ := hs
    have h3 := flatL_src ts h2
    unfold flatT
    rw [h3, Bool.and_true, Bool.or_eq_true]
    by_cases h5 : k == 5
    · rw [if_pos h5, Bool.and_eq_true] at h1
      exact .inr h1.2
    · rw [if_neg h5, Bool.and_eq_true] at h1
      exact .inl h1.1
theorem flatL_src : ∀ (l : List Ty), srcL l = true → flatT.flatL l = true
  | [], _ => rfl
  | t :: l, h => by
    simp only [srcL, Bool.and_eq_true] at h
    unfold flatT.flatL
    rw [flat_src t h.1, flatL_src l h.2]
    rfl
end
theorem node_src (T : Ex) (hs : srcE T = true) : (T.k = 9 → flatT T.t = true) ∧ (T.k ≠ 8 → T.arms.length = 0) := by
  obtain ⟨k, p, n, m, t, kids, arms⟩ := T
  simp only [srcE, Bool.and_eq_true] at hs
  obtain ⟨⟨⟨⟨⟨⟨-, -⟩, h2⟩, -⟩, -⟩, -⟩, h3⟩ := hs
  refine ⟨fun e => ?_, fun e => ?_⟩
  · have e : k = 9 := e
    subst e
    simp at h3
    exact flat_src t h3.2
  · have e : k ≠ 8 := e
    show arms.length = 0
    simp only [Bool.or_eq_true, beq_iff_eq] at h2
    exact h2.resolve_left e
theorem flE_src : ∀ (N : Nat) (T : Ex), srcE T = true → (shE T).length < N → flE N T = true ∧ a8 N T = true := by
  intro N
  induction N with
  | zero => intro T _ h; omega
  | succ N ih =>
    intro T hs hN
    obtain ⟨h1, h2, h3, h4⟩ := kidV_src T hs
    obtain ⟨h5, h6⟩ := node_src T hs
    have hk : ∀ U ∈ chN T, flE N U = true ∧ a8 N U = true := fun U hU => by
      obtain ⟨i, hi, e⟩ := List.getElem_of_mem hU
      obtain ⟨h7, h8, -⟩ := h4 i U (by rw [← e]; exact List.getElem?_eq_getElem hi)
      exact ih U h7 (by omega)
    constructor
    · simp only [flE, Bool.and_eq_true, Bool.or_eq_true, List.all_eq_true]
      refine ⟨?_, fun U hU => (hk U hU).1⟩
      by_cases e : T.k = 9
      · exact .inr (h5 e)
      · left; simpa using e
    · simp only [a8, Bool.and_eq_true, Bool.or_eq_true, List.all_eq_true, beq_iff_eq]
      refine ⟨?_, fun U hU => (hk U hU).2⟩
      by_cases e : T.k = 8
      · exact .inl e
      · exact .inr (h6 e)
theorem capE_mono {d : Nat} (h : d ≤ 5) : capE d ≤ 99999 := by
  match d, h with
  | 0, _ => decide
  | 1, _ => decide
  | 2, _ => decide
  | 3, _ => decide
  | 4, _ => decide
  | 5, _ => decide
theorem GE_ok {d : Nat} (hd : d ≤ 5) {T : Ex} (h : OkE d T) : GE 100000 99999 T := by
  have := capE_mono hd
  have hl := h.2
  exact ⟨fitV_src 100000 T 99999 h.1 (by omega) (by omega) (by omega), flE_src 100000 T h.1 (by omega)⟩
end Go.Proofs.Ytljgpgmaceackaa
