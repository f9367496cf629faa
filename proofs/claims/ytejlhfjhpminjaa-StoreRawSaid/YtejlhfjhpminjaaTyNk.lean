/- The contract of nodesOfKind. -/
import Derived.Test.YtejlhfjhpminjaaTyCon
import Derived.Test.YtejlhfjhpminjaaTyRepl
namespace Go.Proofs.Ytejlhfjhpminjaa
open Go.RowKit Go.Sort Go.Shelf Mth

mutual
def nk (K : Int) : Ty → List Ty
  | .mk k n i h ts => (if k = K then [.mk k n i h ts] else []) ++ nkL K ts
def nkL (K : Int) : List Ty → List Ty
  | [] => []
  | t :: l => nk K t ++ nkL K l
end
theorem nkL_append (K : Int) : ∀ l l' : List Ty, nkL K (l ++ l') = nkL K l ++ nkL K l' := by
  intro l l'
  induction l with
  | nil => rfl
  | cons t l ih => simp [nkL, ih]
theorem nkL_flat (K : Int) : ∀ l : List Ty, nkL K l = l.flatMap (nk K) := by
  intro l
  induction l with
  | nil => rfl
  | cons t l ih => simp [nkL, ih]
theorem nk_len (K : Int) (T : Ty) : (nk K T).length ≤ nodes T := by
  have : ∀ T, (nk K T).length ≤ nodes T := by
    intro T
    refine Ty.induct (p := fun T => (nk K T).length ≤ nodes T) (fun T ih => ?_) T
    have hl : ∀ l : List Ty, (∀ U ∈ l, (nk K U).length ≤ nodes U) → (nkL K l).length ≤ nodesL l := by
      intro l
      induction l with
      | nil => intro _; simp [nkL]
      | cons t l ih => intro h; have := h t (by simp); have := ih fun U hU => h U (by simp [hU]); simp [nkL, nodesL]; omega
    cases T with
    | mk k n i h ts =>
      have := hl ts ih
      simp only [nk, nodes, List.length_append]
      split <;> simp <;> omega
  exact this T
theorem nkL_len (K : Int) : ∀ l : List Ty, (nkL K l).length ≤ nodesL l := by
  intro l
  induction l with
  | nil => simp [nkL]
  | cons t l ih => have := nk_len K t; simp [nkL, nodesL]; omega
theorem nodesL_take (l : List Ty) (j : Nat) : nodesL (l.take j) ≤ nodesL l := by
  induction l generalizing j with
  | nil => simp
  | cons t l ih => cases j with
    | zero => simp [nodesL]
    | succ j => have := ih j; simp [nodesL]; omega
theorem nodesL_take_add {l : List Ty} {j : Nat} {T : Ty} (h : l[j]? = some T) : nodesL (l.take j) + nodes T ≤ nodesL l := by
  induction l generalizing j with
  | nil => simp at h
  | cons t l ih => cases j with
    | zero => simp at h; subst h; simp [nodesL]
    | succ j => have := ih (j := j) (by simpa using h); simp [nodesL]; omega
end Go.Proofs.Ytejlhfjhpminjaa
