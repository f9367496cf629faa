import Derived.Test.YtljgpgmaceackaaQX07
import Derived.Deep.LoopGhost
import Derived.Test.YtljgpgmaceackaaQX05
import Derived.Test.YtljgpgmaceackaaQX01
import Derived.Test.YtljgpgmaceackaaQX17
import Derived.Shelf.Abstract
import Derived.Test.YtljgpgmaceackaaQX26
import Derived.Test.YtljgpgmaceackaaQX02
/- Plain facts: the two readings find the same; each ends; the tokens of a text are valid. -/
namespace Go.Proofs.Ytljgpgmaceackaa
open Go.RowKit Go.Maps Mth

/-- The tokens are valid: each has the kind of its text. -/
def TkVal (ts : List Tok) : Prop := ∀ t ∈ ts, rkind t.text = t.kind
theorem rKind_K {ts : List Tok} (i : Nat) {k : Int} (hk : k ≠ 0) : rKind ts i k = (tkK ts i == k) := by
  unfold rKind tkK
  cases ts[i]? with
  | none => simp [Ne.symm hk]
  | some t => rfl
theorem stp_kind (l : List UInt8) (h0 : (stp l).1 ≠ 0) (h1 : (stp l).1 ≠ -1) : rkind (l.take (stp l).2) = (stp l).1 := by
  cases l with
  | nil => exact absurd rfl h0
  | cons c r =>
    by_cases hc : c = 35
    · exfalso; apply h1; simp [stp, hc]
    · by_cases hw : wht c = true
      · exfalso; apply h1; simp [stp, hc, hw]
      · obtain ⟨e1, e2⟩ := stp_ref (r := r) hc (by simpa using hw)
        rw [e1] at h0
        rw [e2 h0]; exact e1.symm
theorem sc_val : ∀ (n : Nat) (l : List UInt8) (p : Nat), l.length ≤ n → ∀ t ∈ (sc l p).1, rkind t.text = t.kind ∧ t.text.length ≤ l.length ∧ t.pos ≤ p + l.length := by
  intro n
  induction n with
  | zero =>
    intro l p hl t ht
    have : l = [] := List.eq_nil_of_length_eq_zero (by omega)
    subst this
    simp [sc_nil] at ht
  | succ n ih =>
    intro l p hl t ht
    by_cases hn : l = []
    · subst hn; simp [sc_nil] at ht
    · by_cases h0 : (stp l).1 = 0
      · rw [sc_err p hn h0] at ht; simp at ht
      · obtain ⟨s1, s2⟩ := stp_le l h0
        have hd : (l.drop (stp l).2).length ≤ n := by rw [List.length_drop]; omega
        by_cases h1 : (stp l).1 = -1
        · rw [sc_blank p h1] at ht
          obtain ⟨a, b, c⟩ := ih _ _ hd t ht
          rw [List.length_drop] at b c
          exact ⟨a, by omega, by omega⟩
        · rw [sc_tok p h0 h1] at ht
          simp only [List.mem_cons] at ht
          rcases ht with rfl | ht
          · refine ⟨stp_kind l h0 h1, ?_, ?_⟩
            · simp; omega
            · dsimp only; omega
          · obtain ⟨a, b, c⟩ := ih _ _ hd t ht
            rw [List.length_drop] at b c
            exact ⟨a, by omega, by omega⟩
theorem sc_len : ∀ (n : Nat) (l : List UInt8) (p : Nat), l.length ≤ n → (sc l p).1.length ≤ l.length := by
  intro n
  induction n with
  | zero =>
    intro l p hl
    have : l = [] := List.eq_nil_of_length_eq_zero (by omega)
    subst this
    simp [sc_nil]
  | succ n ih =>
    intro l p hl
    by_cases hn : l = []
    · subst hn; simp [sc_nil]
    · by_cases h0 : (stp l).1 = 0
      · rw [sc_err p hn h0]; simp
      · obtain ⟨s1, s2⟩ := stp_le l h0
        have hd : (l.drop (stp l).2).length ≤ n := by rw [List.length_drop]; omega
        by_cases h1 : (stp l).1 = -1
        · rw [sc_blank p h1]
          have := ih _ (p + (stp l).2) hd
          rw [List.length_drop] at this
          omega
        · rw [sc_tok p h0 h1]
          have := ih _ (p + (stp l).2) hd
          rw [List.length_drop] at this
          simp; omega
theorem ftoks_ok (l : List UInt8) : TkOk (ftoks l) ∧ TkVal (ftoks l) := by
  unfold ftoks
  split
  · exact ⟨⟨by simp, fun t h => by simp at h⟩, fun t h => by simp at h⟩
  · rename_i hl
    split
    · refine ⟨⟨?_, fun t h => ?_⟩, fun t h => ?_⟩
      · have := sc_len _ l 0 (Nat.le_refl _); omega
      · have := sc_val _ l 0 (Nat.le_refl _) t h; omega
      · exact (sc_val _ l 0 (Nat.le_refl _) t h).1
    · exact ⟨⟨by simp, fun t h => by simp at h⟩, fun t h => by simp at h⟩
end Go.Proofs.Ytljgpgmaceackaa

/- Plain facts: the maker's types are written types, how long their texts are, and what the package's reader returns at the tokens of these. -/
namespace Go.Proofs.Ytljgpgmaceackaa
open Go.RowKit Go.Maps Mth

theorem src_of_valid : ∀ T : Ty, S3.valid T = true → wr T = true → src T = true := by
  refine tyInd fun T ih hv hw => ?_
  cases T with
  | mk k n i h ts =>
    simp only [wr, Bool.and_eq_true] at hw
    obtain ⟨⟨hk, -⟩, hl⟩ := hw
    have hsL : S3.validL ts = true → srcL ts = true := fun hvl => by
      have h1 : ∀ U ∈ ts, src U = true := fun U hU => ih U hU (S3.validL_mem hvl hU) (wrL_mem hl hU)
      clear ih hv hl hvl hk
      induction ts with
      | nil => rfl
      | cons t l ihl => simp only [srcL, Bool.and_eq_true]; exact ⟨h1 t (by simp), ihl fun U hU => h1 U (by simp [hU])⟩
    by_cases h5 : k = 5
    · subst h5
      simp only [S3.valid] at hv
      rw [if_neg (by decide), if_neg (by decide), if_neg (by decide), if_pos trivial] at hv
      simp only [Bool.and_eq_true, decide_eq_true_eq, beq_iff_eq] at hv
      obtain ⟨⟨⟨h1, rfl⟩, rfl⟩, h4⟩ := hv
      obtain rfl : ts = [] := List.eq_nil_of_length_eq_zero h4
      simp [src, srcL, h1]
    · have h4 : k = 4 := by
        simp only [Bool.or_eq_true, beq_iff_eq] at hk
        rcases hk with h | h
        · exact h
        · exact absurd h h5
      subst h4
      simp only [S3.valid] at hv
      rw [if_neg (by decide), if_neg (by decide), if_pos trivial] at hv
      simp only [Bool.and_eq_true, beq_iff_eq] at hv
      obtain ⟨⟨⟨rfl, rfl⟩, hc⟩, hvl⟩ := hv
      have hs := hsL hvl
      have e5 : ((4 : Int) == 5) = false := rfl
      have e4 : ((4 : Int) == 4) = true := rfl
      have e0 : ((0 : Int) == 0) = true := rfl
      simp only [src, hs, e5, e4, e0, Bool.true_and, Bool.and_true, Bool.false_eq_true, if_false]
      unfold S3.conOk at hc
      cases ha : n.toList == [45, 62] with
      | true => rw [ha] at hc; simpa using hc
      | false =>
        rw [ha] at hc
        simp only [Bool.false_eq_true, if_false] at hc ⊢
        cases hI : n.toList == [73, 110, 116] with
        | true =>
          have : bl n = [73, 110, 116] := by
            have := eq_of_beq hI
            rw [Lib.toList_data] at this
            exact this
          rw [this]
          decide
        | false =>
          rw [hI] at hc
          simp only [Bool.false_eq_true, if_false, Bool.and_eq_true] at hc
          exact hc.1
theorem shT_len6 : ∀ T, src T = true → wr T = true → (shT T).length ≤ 9 * nodes T := by
  have key : ∀ T, src T = true → wr T = true → (shT T).length + 3 ≤ 9 * nodes T := by
    refine tyInd fun T ih hs hw => ?_
    cases T with
    | mk k n i h ts =>
      simp only [src, Bool.and_eq_true] at hs
      simp only [wr, Bool.and_eq_true, decide_eq_true_eq] at hw
      obtain ⟨⟨-, hk⟩, hl⟩ := hs
      have ih' : ∀ U ∈ ts, (shT U).length + 3 ≤ 9 * nodes U := fun U hU => ih U hU (srcL_mem hl hU) (wrL_mem hw.2 hU)
      have hn : (bl n).length ≤ 6 := by rw [bl_len]; exact hw.1.2
      simp only [shT, nodes]
      cases h5 : k == 5 with
      | true => simp only [if_true]; omega
      | false =>
        rw [h5] at hk
        simp only [Bool.false_eq_true, if_false, Bool.and_eq_true] at hk ⊢
        cases ha : n.toList == [45, 62] with
        | true =>
          rw [ha] at hk
          simp only [if_true, beq_iff_eq] at hk ⊢
          match ts, hk.2 with
          | [a, c], _ =>
            have h1 := ih' a (by simp)
            have h2 := ih' c (by simp)
            have h3 := brk_len (isArr a) (shT a)
            simp only [shH, shB, nodesL, List.length_append, List.length_cons, List.length_nil]
            omega
        | false =>
          simp only [Bool.false_eq_true, if_false]
          have hA : ∀ l : List Ty, (∀ U ∈ l, (shT U).length + 3 ≤ 9 * nodes U) → (shA l).length ≤ 9 * nodesL l := by
            intro l
            induction l with
            | nil => intro _; simp [shA]
            | cons t l ihl =>
              intro hh
              have h1 := hh t (by simp)
              have h2 := ihl fun U hU => hh U (by simp [hU])
              have h3 := brk_len (conArgs t) (shT t)
              simp only [shA, nodesL, List.length_cons, List.length_append]
              omega
          have h2 := hA ts ih'
          rw [List.length_append]
          omega
  intro T h1 h2
  have := key T h1 h2
  omega
end Go.Proofs.Ytljgpgmaceackaa
