import Derived.Test.YthphnacfidofbaaGreatDoorExTp
import Derived.Test.YthphnacfidofbaaGreatDoorExMe
/- The package's reader of expressions ends: fuel that is enough. -/
namespace Go.Proofs.YthphnacfidofbaaGreatDoor
open Go.RowKit Mth

/-- How many tokens are left to a state. -/
def mu (ts : List Tok) (s : St) : Nat := if s.bad then 0 else ts.length - s.i
theorem mu_pos {ts : List Tok} {s : St} (h : s.bad = false ∧ s.i < ts.length) : 1 ≤ mu ts s := by
  unfold mu; rw [h.1]; simp only [Bool.false_eq_true, if_false]; omega
theorem mu_step {ts : List Tok} {s : St} (h : 1 ≤ mu ts s) : mu ts (xStep s) + 1 = mu ts s := by
  obtain ⟨i, q, p⟩ := s
  cases q
  · unfold mu xStep at *; simp only [Bool.false_eq_true, if_false] at *; omega
  · unfold mu at h; simp at h
theorem mu_step_le (ts : List Tok) (s : St) : mu ts (xStep s) ≤ mu ts s := by
  obtain ⟨i, q, p⟩ := s
  cases q
  · unfold mu xStep; simp only [Bool.false_eq_true, if_false]; omega
  · unfold mu xStep; simp
theorem mu_fail (ts : List Tok) (s : St) : mu ts (xFail ts s) = 0 := by
  obtain ⟨i, q, p⟩ := s
  cases q <;> simp [mu, xFail]
theorem mu_exp (ts : List Tok) (s : St) (b : Bool) : mu ts (yExp ts s b) ≤ mu ts s := by
  unfold yExp
  cases b
  · simp only [Bool.false_eq_true, if_false]; rw [mu_fail]; omega
  · simp only [if_true]; exact mu_step_le ts s
theorem mu_tyR (ts : List Tok) (s : St) : mu ts (yTyR ts s).2 ≤ mu ts s := by
  obtain ⟨i, q, p0⟩ := s
  rcases rdT_cases ts i with ⟨T, j, he, hj, hs⟩ | ⟨p, he⟩
  · unfold yTyR
    dsimp only
    rw [he]
    cases q
    · unfold startAt at hs
      simp [mu]
      split at hs <;> omega
    · simp [mu]
  · unfold yTyR
    dsimp only
    rw [he]
    cases q <;> simp [mu, yFl]
theorem vars_end (ts : List Tok) : ∀ f s acc, mu ts s + 1 ≤ f → ∃ l s', yVars f ts s acc = some (l, s') ∧ mu ts s' ≤ mu ts s := by
  intro f
  induction f with
  | zero => intro s acc h; omega
  | succ f ih =>
    intro s acc h
    unfold yVars
    cases hk : yK ts s == 1 with
    | false => exact ⟨acc, s, by simp, Nat.le_refl _⟩
    | true =>
      have hp := mu_step (mu_pos (yK_lt (ts := ts) (s := s) (by rw [beq_iff_eq] at hk; rw [hk]; decide)))
      obtain ⟨l, s', hl, hm⟩ := ih (xStep s) (acc ++ [yT ts s]) (by omega)
      exact ⟨l, s', by simpa using hl, by omega⟩
structure YEnds (ts : List Tok) (f : Nat) : Prop where
  expr : ∀ s, 6 * mu ts s + 6 ≤ f → ∃ e s', yExpr f ts s = some (e, s') ∧ mu ts s' ≤ mu ts s
  fn : ∀ s, 1 ≤ mu ts s → 6 * mu ts s + 5 ≤ f → ∃ e s', yFun f ts s = some (e, s') ∧ mu ts s' ≤ mu ts s
  loc : ∀ s, 1 ≤ mu ts s → 6 * mu ts s + 5 ≤ f → ∃ e s', yLoc f ts s = some (e, s') ∧ mu ts s' ≤ mu ts s
  loc2 : ∀ k p s, 6 * mu ts s + 7 ≤ f → ∃ e s', yLoc2 f ts k p s = some (e, s') ∧ mu ts s' ≤ mu ts s
  cas : ∀ s, 1 ≤ mu ts s → 6 * mu ts s + 5 ≤ f → ∃ e s', yCas f ts s = some (e, s') ∧ mu ts s' ≤ mu ts s
  arms : ∀ s acc, 6 * mu ts s + 2 ≤ f → ∃ l s', yArms f ts s acc = some (l, s') ∧ mu ts s' ≤ mu ts s
  arm : ∀ s, 6 * mu ts s + 7 ≤ f → ∃ A s', yArm f ts s = some (A, s') ∧ mu ts s' ≤ mu ts s
  app : ∀ s, 6 * mu ts s + 5 ≤ f → ∃ e s', yApp f ts s = some (e, s') ∧ mu ts s' ≤ mu ts s
  apps : ∀ s e, 6 * mu ts s + 4 ≤ f → ∃ e' s', yApps f ts s e = some (e', s') ∧ mu ts s' ≤ mu ts s
  atom : ∀ s, 6 * mu ts s + 3 ≤ f → ∃ e s', yAtom f ts s = some (e, s') ∧ mu ts s' ≤ mu ts s ∧ (stB (yK ts s) (yT ts s) = true → mu ts s' < mu ts s)
  enc : ∀ s p, 6 * mu ts s + 7 ≤ f → ∃ e s', yEnc f ts s p = some (e, s') ∧ mu ts s' ≤ mu ts s
  held : ∀ s p, 6 * mu ts s + 7 ≤ f → ∃ e s', yHeld f ts s p = some (e, s') ∧ mu ts s' ≤ mu ts s
set_option maxHeartbeats 1600000 in
theorem yends (ts : List Tok) : ∀ f, YEnds ts f := by
  intro f
  induction f with
  | zero => constructor <;> intros <;> omega
  | succ f ih =>
    refine ⟨?_, ?_, ?_, ?_, ?_, ?_, ?_, ?_, ?_, ?_, ?_, ?_⟩
    · intro s h
      unfold yExpr
      cases h1 : yM ts s ⟨#[92]⟩ with
      | true =>
        simp only [if_true]
        exact ih.fn s (mu_pos (yM_lt h1)) (by omega)
      | false =>
        simp only [Bool.false_eq_true, if_false]
        cases h2 : yW ts s ⟨#[108, 101, 116]⟩ with
        | true =>
          simp only [if_true]
          exact ih.loc s (mu_pos (yW_lt h2)) (by omega)
        | false =>
          simp only [Bool.false_eq_true, if_false]
          cases h3 : yW ts s ⟨#[99, 97, 115, 101]⟩ with
          | true =>
            simp only [if_true]
            exact ih.cas s (mu_pos (yW_lt h3)) (by omega)
          | false =>
            simp only [Bool.false_eq_true, if_false]
            exact ih.app s (by omega)
    · intro s hp h
      unfold yFun
      have m1 := mu_step hp
      have m2 := mu_exp ts (xStep s) (yK ts (xStep s) == 1)
      have m3 := mu_exp ts (yExp ts (xStep s) (yK ts (xStep s) == 1)) (yM ts (yExp ts (xStep s) (yK ts (xStep s) == 1)) ⟨#[46]⟩)
      obtain ⟨a, s', ha, hm⟩ := ih.expr (yExp ts (yExp ts (xStep s) (yK ts (xStep s) == 1)) (yM ts (yExp ts (xStep s) (yK ts (xStep s) == 1)) ⟨#[46]⟩)) (by omega)
      rw [ha]
      exact ⟨_, _, rfl, by omega⟩
    · intro s hp h
      unfold yLoc
      have m1 := mu_step hp
      have m2 := mu_step_le ts (xStep s)
      cases hr : yW ts (xStep s) ⟨#[114, 101, 99]⟩ with
      | true =>
        obtain ⟨e, s', he, hm⟩ := ih.loc2 7 (tkP ts s.i) (xStep (xStep s)) (by omega)
        exact ⟨e, s', by simpa using he, by omega⟩
      | false =>
        obtain ⟨e, s', he, hm⟩ := ih.loc2 6 (tkP ts s.i) (xStep s) (by omega)
        exact ⟨e, s', by simpa using he, by omega⟩
    · intro k p s h
      unfold yLoc2
      have m2 := mu_exp ts s (yK ts s == 1)
      have m3 := mu_exp ts (yExp ts s (yK ts s == 1)) (yM ts (yExp ts s (yK ts s == 1)) ⟨#[61]⟩)
      obtain ⟨a, s1, ha, hm1⟩ := ih.expr (yExp ts (yExp ts s (yK ts s == 1)) (yM ts (yExp ts s (yK ts s == 1)) ⟨#[61]⟩)) (by omega)
      rw [ha]
      have m4 := mu_exp ts s1 (yW ts s1 ⟨#[105, 110]⟩)
      obtain ⟨c, s2, hc, hm2⟩ := ih.expr (yExp ts s1 (yW ts s1 ⟨#[105, 110]⟩)) (by omega)
      dsimp only
      rw [hc]
      exact ⟨_, _, rfl, by omega⟩
    · intro s hp h
      unfold yCas
      have m1 := mu_step hp
      obtain ⟨a, s1, ha, hm1⟩ := ih.expr (xStep s) (by omega)
      rw [ha]
      have m4 := mu_exp ts s1 (yW ts s1 ⟨#[111, 102]⟩)
      obtain ⟨A, s2, hA, hm2⟩ := ih.arm (yExp ts s1 (yW ts s1 ⟨#[111, 102]⟩)) (by omega)
      dsimp only
      rw [hA]
      obtain ⟨l, s3, hl, hm3⟩ := ih.arms s2 [A] (by omega)
      dsimp only
      rw [hl]
      have m5 := mu_exp ts s3 (yW ts s3 ⟨#[101, 110, 100]⟩)
      exact ⟨_, _, rfl, by omega⟩
    · intro s acc h
      unfold yArms
      cases h1 : yM ts s ⟨#[124]⟩ with
      | false => exact ⟨acc, s, by simp, Nat.le_refl _⟩
      | true =>
        simp only [if_true]
        have m1 := mu_step (mu_pos (yM_lt h1))
        obtain ⟨A, s2, hA, hm2⟩ := ih.arm (xStep s) (by omega)
        rw [hA]
        obtain ⟨l, s3, hl, hm3⟩ := ih.arms s2 (acc ++ [A]) (by omega)
        exact ⟨l, s3, hl, by omega⟩
    · intro s h
      unfold yArm
      have m1 := mu_exp ts s (yK ts s == 2)
      obtain ⟨vs, s1, hv, hm1⟩ := vars_end ts f (yExp ts s (yK ts s == 2)) [] (by omega)
      rw [hv]
      have m2 := mu_exp ts s1 (yM ts s1 ⟨#[46]⟩)
      obtain ⟨c, s2, hc, hm2⟩ := ih.expr (yExp ts s1 (yM ts s1 ⟨#[46]⟩)) (by omega)
      dsimp only
      rw [hc]
      exact ⟨_, _, rfl, by omega⟩
    · intro s h
      unfold yApp
      obtain ⟨e, s1, he, hm, -⟩ := ih.atom s (by omega)
      rw [he]
      obtain ⟨e', s2, he', hm2⟩ := ih.apps s1 e (by omega)
      exact ⟨e', s2, he', by omega⟩
    · intro s e h
      unfold yApps
      cases h1 : stB (yK ts s) (yT ts s) with
      | false => exact ⟨e, s, by simp, Nat.le_refl _⟩
      | true =>
        simp only [if_true]
        obtain ⟨a, s1, ha, hm, hlt⟩ := ih.atom s (by omega)
        have hlt := hlt h1
        rw [ha]
        obtain ⟨e', s2, he', hm2⟩ := ih.apps s1 (.mk 5 e.p ⟨#[]⟩ 0 zTy [e, a] []) (by omega)
        exact ⟨e', s2, he', by omega⟩
    · intro s h
      unfold yAtom
      cases h1 : stB (yK ts s) (yT ts s) with
      | false => exact ⟨zEx, xFail ts s, by simp, by rw [mu_fail]; omega, fun h => by simp at h⟩
      | true =>
        have m1 := mu_step (mu_pos (stB_lt h1))
        simp only [if_true]
        split
        · exact ⟨_, _, rfl, by omega, fun _ => by omega⟩
        split
        · exact ⟨_, _, rfl, by omega, fun _ => by omega⟩
        split
        · exact ⟨_, _, rfl, by omega, fun _ => by omega⟩
        split
        · obtain ⟨e, s1, he, hm⟩ := ih.enc (xStep s) (yP ts s) (by omega)
          exact ⟨e, s1, he, by omega, fun _ => by omega⟩
        split
        · obtain ⟨e, s1, he, hm⟩ := ih.held (xStep s) (yP ts s) (by omega)
          exact ⟨e, s1, he, by omega, fun _ => by omega⟩
        · exact ⟨_, _, rfl, by omega, fun _ => by omega⟩
    · intro s p h
      unfold yEnc
      obtain ⟨e, s1, he, hm⟩ := ih.expr s (by omega)
      rw [he]
      dsimp only
      split
      · have m2 := mu_step_le ts s1
        have m3 := mu_tyR ts (xStep s1)
        have m4 := mu_exp ts (yTyR ts (xStep s1)).2 (yM ts (yTyR ts (xStep s1)).2 ⟨#[41]⟩)
        exact ⟨_, _, rfl, by omega⟩
      · have m2 := mu_exp ts s1 (yM ts s1 ⟨#[41]⟩)
        exact ⟨_, _, rfl, by omega⟩
    · intro s p h
      unfold yHeld
      obtain ⟨e, s1, he, hm⟩ := ih.expr s (by omega)
      rw [he]
      have m2 := mu_exp ts s1 (yM ts s1 ⟨#[125]⟩)
      exact ⟨_, _, rfl, by omega⟩
end Go.Proofs.YthphnacfidofbaaGreatDoor

/- Plain facts: no expression that is read has too many kids or arms. -/
namespace Go.Proofs.YthphnacfidofbaaGreatDoor
open Go.RowKit Mth

mutual
def bndE : Ex → Bool
  | .mk _ _ _ _ _ kids arms => decide (kids.length ≤ 2) && decide (arms.length ≤ 900000) && bndK kids && bndA arms
def bndK : List Ex → Bool
  | [] => true
  | e :: l => bndE e && bndK l
def bndA : List (AH × Ex) → Bool
  | [] => true
  | (_, e) :: l => bndE e && bndA l
end
theorem bndK_mem : ∀ {l : List Ex}, bndK l = true → ∀ {T : Ex}, T ∈ l → bndE T = true := by
  intro l
  induction l with
  | nil => intro _ T h; simp at h
  | cons t l ih =>
    intro h T hT
    simp only [bndK, Bool.and_eq_true] at h
    rcases List.mem_cons.1 hT with rfl | hT
    · exact h.1
    · exact ih h.2 hT
theorem bndA_mem : ∀ {l : List (AH × Ex)}, bndA l = true → ∀ {A : AH × Ex}, A ∈ l → bndE A.2 = true := by
  intro l
  induction l with
  | nil => intro _ T h; simp at h
  | cons a l ih =>
    obtain ⟨h, e⟩ := a
    intro hs A hA
    simp only [bndA, Bool.and_eq_true] at hs
    rcases List.mem_cons.1 hA with rfl | hA
    · exact hs.1
    · exact ih hs.2 hA
theorem bndA_app : ∀ (l m : List (AH × Ex)), bndA (l ++ m) = (bndA l && bndA m) := by
  intro l m
  induction l with
  | nil => rfl
  | cons a l ih => obtain ⟨h, e⟩ := a; simp [bndA, ih, Bool.and_assoc]
theorem bnd_leaf (k p : Int) (n : ByteArray) (m : Int) (t : Ty) : bndE (.mk k p n m t [] []) = true := rfl
theorem bnd_one {k p : Int} {n : ByteArray} {m : Int} {t : Ty} {a : Ex} (h : bndE a = true) : bndE (.mk k p n m t [a] []) = true := by simp [bndE, bndK, bndA, h]
theorem bnd_two {k p : Int} {n : ByteArray} {m : Int} {t : Ty} {a b : Ex} (h : bndE a = true) (h' : bndE b = true) : bndE (.mk k p n m t [a, b] []) = true := by simp [bndE, bndK, bndA, h, h']
/-! An expression without its places. -/
mutual
def strip : Ex → Ex
  | .mk k _ n m t kids arms => .mk k 0 n m t (stripL kids) (stripA arms)
def stripL : List Ex → List Ex
  | [] => []
  | e :: l => strip e :: stripL l
def stripA : List (AH × Ex) → List (AH × Ex)
  | [] => []
  | (h, e) :: l => (⟨0, h.con, h.vars⟩, strip e) :: stripA l
end
structure YBd (ts : List Tok) (f : Nat) : Prop where
  expr : ∀ s T s', yExpr f ts s = some (T, s') → bndE T = true
  fn : ∀ s T s', yFun f ts s = some (T, s') → bndE T = true
  loc : ∀ s T s', yLoc f ts s = some (T, s') → bndE T = true
  loc2 : ∀ k p s T s', yLoc2 f ts k p s = some (T, s') → bndE T = true
  cas : ∀ s T s', yCas f ts s = some (T, s') → bndE T = true
  arms : ∀ s acc l s', bndA acc = true → yArms f ts s acc = some (l, s') → bndA l = true ∧ l.length ≤ acc.length + f
  arm : ∀ s A s', yArm f ts s = some (A, s') → bndE A.2 = true
  app : ∀ s T s', yApp f ts s = some (T, s') → bndE T = true
  apps : ∀ s e T s', bndE e = true → yApps f ts s e = some (T, s') → bndE T = true
  atom : ∀ s T s', yAtom f ts s = some (T, s') → bndE T = true
  enc : ∀ s p T s', yEnc f ts s p = some (T, s') → bndE T = true
  held : ∀ s p T s', yHeld f ts s p = some (T, s') → bndE T = true
set_option maxHeartbeats 1600000 in
theorem ybds (ts : List Tok) : ∀ f, f ≤ 899999 → YBd ts f := by
  intro f
  induction f with
  | zero => intro _; constructor <;> intros <;> simp_all [yExpr, yFun, yLoc, yLoc2, yCas, yArms, yArm, yApp, yApps, yAtom, yEnc, yHeld]
  | succ f ih =>
    intro hf
    have ih := ih (by omega)
    refine ⟨?_, ?_, ?_, ?_, ?_, ?_, ?_, ?_, ?_, ?_, ?_, ?_⟩
    · intro s T s' h
      unfold yExpr at h
      split at h
      · exact ih.fn _ _ _ h
      split at h
      · exact ih.loc _ _ _ h
      split at h
      · exact ih.cas _ _ _ h
      · exact ih.app _ _ _ h
    · intro s T s' h
      unfold yFun at h
      split at h
      · rename_i a s1 ha
        simp only [Option.some.injEq, Prod.mk.injEq] at h
        rw [← h.1]; exact bnd_one (ih.expr _ _ _ ha)
      · cases h
    · intro s T s' h
      unfold yLoc at h
      exact ih.loc2 _ _ _ _ _ h
    · intro k p s T s' h
      unfold yLoc2 at h
      split at h
      · rename_i a s1 ha
        split at h
        · rename_i c s2 hc
          simp only [Option.some.injEq, Prod.mk.injEq] at h
          rw [← h.1]; exact bnd_two (ih.expr _ _ _ ha) (ih.expr _ _ _ hc)
        · cases h
      · cases h
    · intro s T s' h
      unfold yCas at h
      split at h
      · rename_i a s1 ha
        split at h
        · rename_i A s2 hA
          split at h
          · rename_i l s3 hl
            simp only [Option.some.injEq, Prod.mk.injEq] at h
            rw [← h.1]
            have hA0 := ih.arm _ _ _ hA
            obtain ⟨q1, q2⟩ := ih.arms _ _ _ _ (by obtain ⟨ah, ae⟩ := A; simpa [bndA] using hA0) hl
            simp at q2
            simp [bndE, bndK, q1, ih.expr _ _ _ ha]
            omega
          · cases h
        · cases h
      · cases h
    · intro s acc l s' hacc h
      unfold yArms at h
      split at h
      · split at h
        · rename_i A s2 hA
          obtain ⟨q1, q2⟩ := ih.arms _ _ _ _ (by rw [bndA_app, hacc]; obtain ⟨ah, ae⟩ := A; simpa [bndA] using ih.arm _ _ _ hA) h
          simp at q2
          exact ⟨q1, by omega⟩
        · cases h
      · simp only [Option.some.injEq, Prod.mk.injEq] at h
        rw [← h.1]; exact ⟨hacc, by omega⟩
    · intro s A s' h
      unfold yArm at h
      split at h
      · split at h
        · rename_i c s2 hc
          simp only [Option.some.injEq, Prod.mk.injEq] at h
          rw [← h.1]; exact ih.expr _ _ _ hc
        · cases h
      · cases h
    · intro s T s' h
      unfold yApp at h
      split at h
      · rename_i e s1 he
        exact ih.apps _ _ _ _ (ih.atom _ _ _ he) h
      · cases h
    · intro s e T s' he h
      unfold yApps at h
      split at h
      · split at h
        · rename_i a s1 ha
          exact ih.apps _ _ _ _ (bnd_two he (ih.atom _ _ _ ha)) h
        · cases h
      · simp only [Option.some.injEq, Prod.mk.injEq] at h
        rw [← h.1]; exact he
    · intro s T s' h
      unfold yAtom at h
      split at h
      · split at h
        · simp only [Option.some.injEq, Prod.mk.injEq] at h; rw [← h.1]; rfl
        split at h
        · simp only [Option.some.injEq, Prod.mk.injEq] at h; rw [← h.1]; rfl
        split at h
        · simp only [Option.some.injEq, Prod.mk.injEq] at h; rw [← h.1]; rfl
        split at h
        · exact ih.enc _ _ _ _ h
        split at h
        · exact ih.held _ _ _ _ h
        · simp only [Option.some.injEq, Prod.mk.injEq] at h; rw [← h.1]; rfl
      · simp only [Option.some.injEq, Prod.mk.injEq] at h; rw [← h.1]; rfl
    · intro s p T s' h
      unfold yEnc at h
      split at h
      · rename_i e s1 he
        split at h
        · simp only [Option.some.injEq, Prod.mk.injEq] at h; rw [← h.1]; exact bnd_one (ih.expr _ _ _ he)
        · simp only [Option.some.injEq, Prod.mk.injEq] at h; rw [← h.1]; exact ih.expr _ _ _ he
      · cases h
    · intro s p T s' h
      unfold yHeld at h
      split at h
      · rename_i e s1 he
        simp only [Option.some.injEq, Prod.mk.injEq] at h; rw [← h.1]; exact bnd_one (ih.expr _ _ _ he)
      · cases h
end Go.Proofs.YthphnacfidofbaaGreatDoor

/- The package readexpr, whole: what Expr and Atom return for every list of valid tokens and every index. -/
namespace Go.Proofs.YthphnacfidofbaaGreatDoor
open Go.RowKit Mth

def rdOfY : Option (Ex × St) → ResE
  | some (T, s) => resY T s
  | none => resY zEx ⟨0, true, 0⟩
def rdE (ts : List Tok) (k : Int) : ResE := rdOfY (yExpr (6 * ts.length + 6) ts ⟨startAt ts k, false, 0⟩)
def rdEA (ts : List Tok) (k : Int) : ResE := rdOfY (yAtom (6 * ts.length + 6) ts ⟨startAt ts k, false, 0⟩)
theorem mu_le (ts : List Tok) (s : St) : mu ts s ≤ ts.length := by unfold mu; split <;> omega
theorem pkExpr_any (ts : List Tok) (hok : TkOk ts) (hv : TkVal ts) (ea : Addr) (S : Nat → Prop) (lv : Value) (k : Int) (w : World) (h : TokAt w S lv ts) (hg2 : G2 ea w) :
    Calls Tryz.prog 23 #[lv, .int .i64 k] w fun e w' => ∃ v, e = .returned v ∧ ResEAt w' (fun c => w.heap.size ≤ c) (rdE ts k) v ∧ Below w.heap.size w w' := by
  have hl := hok.1
  have hm := mu_le ts ⟨startAt ts k, false, 0⟩
  obtain ⟨T, s', hr, -⟩ := (yends ts (6 * ts.length + 6)).expr ⟨startAt ts k, false, 0⟩ (by omega)
  have e : rdE ts k = resY T s' := by unfold rdE; rw [hr]; rfl
  rw [e]
  exact yExprCall ts hok ea S lv k T s' _ hr ((yAll_any ts hv (fun s _ => yTyp_any ts (xStep s)) _ (by omega)).expr _) w h hg2
theorem pkExprAtom_any (ts : List Tok) (hok : TkOk ts) (hv : TkVal ts) (ea : Addr) (S : Nat → Prop) (lv : Value) (k : Int) (w : World) (h : TokAt w S lv ts) (hg2 : G2 ea w) :
    Calls Tryz.prog 25 #[lv, .int .i64 k] w fun e w' => ∃ v, e = .returned v ∧ ResEAt w' (fun c => w.heap.size ≤ c) (rdEA ts k) v ∧ Below w.heap.size w w' := by
  have hl := hok.1
  have hm := mu_le ts ⟨startAt ts k, false, 0⟩
  obtain ⟨T, s', hr, -, -⟩ := (yends ts (6 * ts.length + 6)).atom ⟨startAt ts k, false, 0⟩ (by omega)
  have e : rdEA ts k = resY T s' := by unfold rdEA; rw [hr]; rfl
  rw [e]
  exact yAtomCall ts hok ea S lv k T s' _ hr ((yAll_any ts hv (fun s _ => yTyp_any ts (xStep s)) _ (by omega)).atom _) w h hg2
end Go.Proofs.YthphnacfidofbaaGreatDoor
