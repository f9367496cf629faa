import Derived.Test.YtgfjcpeeoapjlaaQV09
import Derived.Test.YtgfjcpeeoapjlaaQV08
import Derived.Test.YtgfjcpeeoapjlaaQV07
import Derived.Lib.ItoaNum
import Derived.Lib.ItoaLen
import Derived.Test.YtgfjcpeeoapjlaaQV02
import Derived.Test.YtgfjcpeeoapjlaaQV01
import Derived.Deep.LoopGhost
/- The package's Expr and Atom. -/
namespace Go.Proofs.Ytgfjcpeeoapjlaa
open Go.RowKit Go.Maps Mth

end Go.Proofs.Ytgfjcpeeoapjlaa

/- The package readexpr, whole: what Expr and Atom return for every list of valid tokens and every index. -/
namespace Go.Proofs.Ytgfjcpeeoapjlaa
open Go.RowKit Mth

def rdOfY : Option (Ex × St) → ResE
  | some (T, s) => resY T s
  | none => resY zEx ⟨0, true, 0⟩
def rdE (ts : List Tok) (k : Int) : ResE := rdOfY (yExpr (6 * ts.length + 6) ts ⟨startAt ts k, false, 0⟩)
def rdEA (ts : List Tok) (k : Int) : ResE := rdOfY (yAtom (6 * ts.length + 6) ts ⟨startAt ts k, false, 0⟩)
theorem mu_le (ts : List Tok) (s : St) : mu ts s ≤ ts.length := by unfold mu; split <;> omega
end Go.Proofs.Ytgfjcpeeoapjlaa

/- Plain facts: no expression that is read has too many kids or arms. -/
namespace Go.Proofs.Ytgfjcpeeoapjlaa
open Go.RowKit Mth

mutual
def bndE : Ex → Bool
  | .mk _ _ _ _ _ kids arms => decide (kids.length ≤ 2) && decide (arms.length ≤ 900000) && bndK kids && bndA arms
def bndK : List Ex → Bool
  | [] => true
  | e :: l => bndE e && bndK l
def bndA : List (AH × Ex) → Bool
  | [] => true
  | (_, e) :: l => bndE e && bndA l
end
theorem bndK_mem : ∀ {l : List Ex}, bndK l = true → ∀ {T : Ex}, T ∈ l → bndE T = true := by
  intro l
  induction l with
  | nil => intro _ T h; simp at h
  | cons t l ih =>
    intro h T hT
    simp only [bndK, Bool.and_eq_true] at h
    rcases List.mem_cons.1 hT with rfl | hT
    · exact h.1
    · exact ih h.2 hT
theorem bndA_mem : ∀ {l : List (AH × Ex)}, bndA l = true → ∀ {A : AH × Ex}, A ∈ l → bndE A.2 = true := by
  intro l
  induction l with
  | nil => intro _ T h; simp at h
  | cons a l ih =>
    obtain ⟨h, e⟩ := a
    intro hs A hA
    simp only [bndA, Bool.and_eq_true] at hs
    rcases List.mem_cons.1 hA with rfl | hA
    · exact hs.1
    · exact ih hs.2 hA
theorem bndA_app : ∀ (l m : List (AH × Ex)), bndA (l ++ m) = (bndA l && bndA m) := by
  intro l m
  induction l with
  | nil => rfl
  | cons a l ih => obtain ⟨h, e⟩ := a; simp [bndA, ih, Bool.and_assoc]
theorem bnd_leaf (k p : Int) (n : ByteArray) (m : Int) (t : Ty) : bndE (.mk k p n m t [] []) = true := rfl
theorem bnd_one {k p : Int} {n : ByteArray} {m : Int} {t : Ty} {a : Ex} (h : bndE a = true) : bndE (.mk k p n m t [a] []) = true := by simp [bndE, bndK, bndA, h]
theorem bnd_two {k p : Int} {n : ByteArray} {m : Int} {t : Ty} {a b : Ex} (h : bndE a = true) (h' : bndE b = true) : bndE (.mk k p n m t [a, b] []) = true := by simp [bndE, bndK, bndA, h, h']
/-! An expression without its places. -/
mutual
def strip : Ex → Ex
  | .mk k _ n m t kids arms => .mk k 0 n m t (stripL kids) (stripA arms)
def stripL : List Ex → List Ex
  | [] => []
  | e :: l => strip e :: stripL l
def stripA : List (AH × Ex) → List (AH × Ex)
  | [] => []
  | (h, e) :: l => (⟨0, h.con, h.vars⟩, strip e) :: stripA l
end
structure YBd (ts : List Tok) (f : Nat) : Prop where
  expr : ∀ s T s', yExpr f ts s = some (T, s') → bndE T = true
  fn : ∀ s T s', yFun f ts s = some (T, s') → bndE T = true
  loc : ∀ s T s', yLoc f ts s = some (T, s') → bndE T = true
  loc2 : ∀ k p s T s', yLoc2 f ts k p s = some (T, s') → bndE T = true
  cas : ∀ s T s', yCas f ts s = some (T, s') → bndE T = true
  arms : ∀ s acc l s', bndA acc = true → yArms f ts s acc = some (l, s') → bndA l = true ∧ l.length ≤ acc.length + f
  arm : ∀ s A s', yArm f ts s = some (A, s') → bndE A.2 = true
  app : ∀ s T s', yApp f ts s = some (T, s') → bndE T = true
  apps : ∀ s e T s', bndE e = true → yApps f ts s e = some (T, s') → bndE T = true
  atom : ∀ s T s', yAtom f ts s = some (T, s') → bndE T = true
  enc : ∀ s p T s', yEnc f ts s p = some (T, s') → bndE T = true
  held : ∀ s p T s', yHeld f ts s p = some (T, s') → bndE T = true
set_option maxHeartbeats 1600000 in
theorem ybds (ts : List Tok) : ∀ f, f ≤ 899999 → YBd ts f := by
  intro f
  induction f with
  | zero => intro _; constructor <;> intros <;> simp_all [yExpr, yFun, yLoc, yLoc2, yCas, yArms, yArm, yApp, yApps, yAtom, yEnc, yHeld]
  | succ f ih =>
    intro hf
    have ih := ih (by omega)
    refine ⟨?_, ?_, ?_, ?_, ?_, ?_, ?_, ?_, ?_, ?_, ?_, ?_⟩
    · intro s T s' h
      unfold yExpr at h
      split at h
      · exact ih.fn _ _ _ h
      split at h
      · exact ih.loc _ _ _ h
      split at h
      · exact ih.cas _ _ _ h
      · exact ih.app _ _ _ h
    · intro s T s' h
      unfold yFun at h
      split at h
      · rename_i a s1 ha
        simp only [Option.some.injEq, Prod.mk.injEq] at h
        rw [← h.1]; exact bnd_one (ih.expr _ _ _ ha)
      · cases h
    · intro s T s' h
      unfold yLoc at h
      exact ih.loc2 _ _ _ _ _ h
    · intro k p s T s' h
      unfold yLoc2 at h
      split at h
      · rename_i a s1 ha
        split at h
        · rename_i c s2 hc
          simp only [Option.some.injEq, Prod.mk.injEq] at h
          rw [← h.1]; exact bnd_two (ih.expr _ _ _ ha) (ih.expr _ _ _ hc)
        · cases h
      · cases h
    · intro s T s' h
      unfold yCas at h
      split at h
      · rename_i a s1 ha
        split at h
        · rename_i A s2 hA
          split at h
          · rename_i l s3 hl
            simp only [Option.some.injEq, Prod.mk.injEq] at h
            rw [← h.1]
            have hA0 := ih.arm _ _ _ hA
            obtain ⟨q1, q2⟩ := ih.arms _ _ _ _ (by obtain ⟨ah, ae⟩ := A; simpa [bndA] using hA0) hl
            simp at q2
            simp [bndE, bndK, q1, ih.expr _ _ _ ha]
            omega
          · cases h
        · cases h
      · cases h
    · intro s acc l s' hacc h
      unfold yArms at h
      split at h
      · split at h
        · rename_i A s2 hA
          obtain ⟨q1, q2⟩ := ih.arms _ _ _ _ (by rw [bndA_app, hacc]; obtain ⟨ah, ae⟩ := A; simpa [bndA] using ih.arm _ _ _ hA) h
          simp at q2
          exact ⟨q1, by omega⟩
        · cases h
      · simp only [Option.some.injEq, Prod.mk.injEq] at h
        rw [← h.1]; exact ⟨hacc, by omega⟩
    · intro s A s' h
      unfold yArm at h
      split at h
      · split at h
        · rename_i c s2 hc
          simp only [Option.some.injEq, Prod.mk.injEq] at h
          rw [← h.1]; exact ih.expr _ _ _ hc
        · cases h
      · cases h
    · intro s T s' h
      unfold yApp at h
      split at h
      · rename_i e s1 he
        exact ih.apps _ _ _ _ (ih.atom _ _ _ he) h
      · cases h
    · intro s e T s' he h
      unfold yApps at h
      split at h
      · split at h
        · rename_i a s1 ha
          exact ih.apps _ _ _ _ (bnd_two he (ih.atom _ _ _ ha)) h
        · cases h
      · simp only [Option.some.injEq, Prod.mk.injEq] at h
        rw [← h.1]; exact he
    · intro s T s' h
      unfold yAtom at h
      split at h
      · split at h
        · simp only [Option.some.injEq, Prod.mk.injEq] at h; rw [← h.1]; rfl
        split at h
        · simp only [Option.some.injEq, Prod.mk.injEq] at h; rw [← h.1]; rfl
        split at h
        · simp only [Option.some.injEq, Prod.mk.injEq] at h; rw [← h.1]; rfl
        split at h
        · exact ih.enc _ _ _ _ h
        split at h
        · exact ih.held _ _ _ _ h
        · simp only [Option.some.injEq, Prod.mk.injEq] at h; rw [← h.1]; rfl
      · simp only [Option.some.injEq, Prod.mk.injEq] at h; rw [← h.1]; rfl
    · intro s p T s' h
      unfold yEnc at h
      split at h
      · rename_i e s1 he
        split at h
        · simp only [Option.some.injEq, Prod.mk.injEq] at h; rw [← h.1]; exact bnd_one (ih.expr _ _ _ he)
        · simp only [Option.some.injEq, Prod.mk.injEq] at h; rw [← h.1]; exact ih.expr _ _ _ he
      · cases h
    · intro s p T s' h
      unfold yHeld at h
      split at h
      · rename_i e s1 he
        simp only [Option.some.injEq, Prod.mk.injEq] at h; rw [← h.1]; exact bnd_one (ih.expr _ _ _ he)
      · cases h
end Go.Proofs.Ytgfjcpeeoapjlaa

/- Plain facts: the canonical text of an expression: its tokens. -/
namespace Go.Proofs.Ytgfjcpeeoapjlaa
open Go.RowKit Go.Maps Mth

def varsOk (l : List ByteArray) : Bool := l.all fun v => isLo (bl v)
def zTyB (t : Ty) : Bool := t.k == 0 && t.n.toList == [] && t.i == 0 && t.h == 0 && t.ts.length == 0
/-! What an expression without places is made of. -/
mutual
def srcE : Ex → Bool
  | .mk k p n m t kids arms =>
    p == 0 && (k == 9 || zTyB t) && (k == 8 || arms.length == 0) && (k == 3 || m == 0) && srcK kids && srcA arms &&
    (if k == 1 then isLo (bl n) && kids.length == 0
     else if k == 2 then isUp (bl n) && kids.length == 0
     else if k == 3 then n.toList == [] && decide (0 ≤ m) && decide (m ≤ 9) && kids.length == 0
     else if k == 4 then isLo (bl n) && kids.length == 1
     else if k == 5 then n.toList == [] && kids.length == 2
     else if k == 6 || k == 7 then isLo (bl n) && kids.length == 2
     else if k == 8 then n.toList == [] && kids.length == 1 && arms.length != 0
     else if k == 9 then n.toList == [] && kids.length == 1 && src t
     else if k == 10 then n.toList == [] && kids.length == 0
     else k == 11 && n.toList == [] && kids.length == 1)
def srcK : List Ex → Bool
  | [] => true
  | e :: l => srcE e && srcK l
def srcA : List (AH × Ex) → Bool
  | [] => true
  | (h, e) :: l => h.pos == 0 && isUp (bl h.con) && varsOk h.vars && srcE e && srcA l
end
theorem srcK_mem : ∀ {l : List Ex}, srcK l = true → ∀ {T : Ex}, T ∈ l → srcE T = true := by
  intro l
  induction l with
  | nil => intro _ T h; simp at h
  | cons t l ih =>
    intro h T hT
    simp only [srcK, Bool.and_eq_true] at h
    rcases List.mem_cons.1 hT with rfl | hT
    · exact h.1
    · exact ih h.2 hT
theorem srcA_mem : ∀ {l : List (AH × Ex)}, srcA l = true → ∀ {A : AH × Ex}, A ∈ l → A.1.pos = 0 ∧ isUp (bl A.1.con) = true ∧ varsOk A.1.vars = true ∧ srcE A.2 = true := by
  intro l
  induction l with
  | nil => intro _ T h; simp at h
  | cons a l ih =>
    obtain ⟨h, e⟩ := a
    intro hs A hA
    simp only [srcA, Bool.and_eq_true, beq_iff_eq] at hs
    rcases List.mem_cons.1 hA with rfl | hA
    · exact ⟨hs.1.1.1.1, hs.1.1.1.2, hs.1.1.2, hs.1.2⟩
    · exact ih hs.2 hA
def atomE (e : Ex) : Bool := e.k == 1 || e.k == 2 || e.k == 3 || e.k == 10 || e.k == 9 || e.k == 11
def armText (h : AH) : List UInt8 := bl h.con ++ (h.vars.flatMap fun v => 32 :: bl v) ++ [46, 32]
def armTk (h : AH) : List (List UInt8) := bl h.con :: (h.vars.map bl ++ [[46]])
/-! The canonical text. -/
mutual
def shE : Ex → List UInt8
  | .mk k _ n m t kids arms =>
    if k == 1 || k == 2 then bl n
    else if k == 3 then Lib.itoa m
    else if k == 10 then [63]
    else if k == 4 then 92 :: (bl n ++ 46 :: 32 :: shK kids)
    else if k == 5 then shF kids
    else if k == 6 then [108, 101, 116] ++ 32 :: (bl n ++ 32 :: 61 :: 32 :: shLt kids)
    else if k == 7 then [108, 101, 116] ++ 32 :: ([114, 101, 99] ++ 32 :: (bl n ++ 32 :: 61 :: 32 :: shLt kids))
    else if k == 9 then 40 :: (shK kids ++ 32 :: 58 :: 32 :: (shT t ++ [41]))
    else if k == 11 then 123 :: (shK kids ++ [125])
    else [99, 97, 115, 101] ++ 32 :: (shK kids ++ 32 :: ([111, 102] ++ 32 :: (shA0 arms ++ 32 :: [101, 110, 100])))
def shK : List Ex → List UInt8
  | [] => []
  | e :: _ => shE e
def shF : List Ex → List UInt8
  | [] => []
  | e :: l => brk (!(atomE e || e.k == 5)) (shE e) ++ shG l
def shG : List Ex → List UInt8
  | [] => []
  | e :: _ => 32 :: brk (!atomE e) (shE e)
def shLt : List Ex → List UInt8
  | [] => []
  | e :: l => shE e ++ 32 :: ([105, 110] ++ 32 :: shK l)
def shA0 : List (AH × Ex) → List UInt8
  | [] => []
  | (h, e) :: l => armText h ++ (shE e ++ shAr l)
def shAr : List (AH × Ex) → List UInt8
  | [] => []
  | (h, e) :: l => 32 :: 124 :: 32 :: (armText h ++ (shE e ++ shAr l))
end
/-! Its tokens. -/
mutual
def tkE : Ex → List (List UInt8)
  | .mk k _ n m t kids arms =>
    if k == 1 || k == 2 then [bl n]
    else if k == 3 then [Lib.itoa m]
    else if k == 10 then [[63]]
    else if k == 4 then [92] :: bl n :: [46] :: tkK' kids
    else if k == 5 then tkF kids
    else if k == 6 then [108, 101, 116] :: bl n :: [61] :: tkLt kids
    else if k == 7 then [108, 101, 116] :: [114, 101, 99] :: bl n :: [61] :: tkLt kids
    else if k == 9 then [40] :: (tkK' kids ++ [58] :: (tkT t ++ [[41]]))
    else if k == 11 then [123] :: (tkK' kids ++ [[125]])
    else [99, 97, 115, 101] :: (tkK' kids ++ [111, 102] :: (tkA0 arms ++ [[101, 110, 100]]))
def tkK' : List Ex → List (List UInt8)
  | [] => []
  | e :: _ => tkE e
def tkF : List Ex → List (List UInt8)
  | [] => []
  | e :: l => brkW (!(atomE e || e.k == 5)) (tkE e) ++ tkG l
def tkG : List Ex → List (List UInt8)
  | [] => []
  | e :: _ => brkW (!atomE e) (tkE e)
def tkLt : List Ex → List (List UInt8)
  | [] => []
  | e :: l => tkE e ++ [105, 110] :: tkK' l
def tkA0 : List (AH × Ex) → List (List UInt8)
  | [] => []
  | (h, e) :: l => armTk h ++ (tkE e ++ tkAr l)
def tkAr : List (AH × Ex) → List (List UInt8)
  | [] => []
  | (h, e) :: l => [124] :: (armTk h ++ (tkE e ++ tkAr l))
end
theorem sc_kw {x : List UInt8} (h : rkind x = 4) : Sc x [x] := sc_word (by rw [h]; decide)
theorem sc_vars : ∀ vs : List ByteArray, varsOk vs = true → Sc (vs.flatMap fun v => 32 :: bl v) (vs.map bl) := by
  intro vs
  induction vs with
  | nil => intro _; exact scA_nil.sc
  | cons v vs ih =>
    intro h
    simp only [varsOk, List.all_cons, Bool.and_eq_true] at h
    have h1 : Sc (bl v) [bl v] := sc_word (by rw [rkind_lo h.1]; decide)
    have h2 := h1.app (ih (by simpa [varsOk] using h.2)) (by
      intro r hr
      cases vs with
      | nil => simpa using hr
      | cons u us => simp only [List.flatMap_cons, List.cons_append]; exact hd0_cons (by decide))
    have := ScA.then scA_space h2
    simpa using this
theorem sc_armText {h : AH} (h1 : isUp (bl h.con) = true) (h2 : varsOk h.vars = true) : ScA (armText h) (armTk h) := by
  have a : Sc (bl h.con) [bl h.con] := sc_word (by rw [rkind_up h1]; decide)
  have b := a.app (sc_vars h.vars h2) (by
    intro r hr
    cases h.vars with
    | nil => simpa using hr
    | cons u us => simp only [List.flatMap_cons, List.cons_append]; exact hd0_cons (by decide))
  have c := b.appA ((scA_mark (c := 46) (by decide)).app scA_space) (by decide)
  simpa [armText, armTk] using c
theorem sc_Ar : ∀ l : List (AH × Ex), srcA l = true → (∀ A ∈ l, Sc (shE A.2) (tkE A.2)) → Sc (shAr l) (tkAr l) ∧ ∀ r, Hd0 r → Hd0 (shAr l ++ r) := by
  intro l
  induction l with
  | nil => intro _ _; exact ⟨by simpa [shAr, tkAr] using scA_nil.sc, fun r hr => by simpa [shAr] using hr⟩
  | cons a l ih =>
    obtain ⟨h, e⟩ := a
    intro hs hE
    obtain ⟨-, h1, h2, -⟩ := srcA_mem hs (A := (h, e)) (by simp)
    have hs' : srcA l = true := by simp only [srcA, Bool.and_eq_true] at hs; exact hs.2
    obtain ⟨i1, i2⟩ := ih hs' fun A hA => hE A (by simp [hA])
    refine ⟨?_, fun r hr => ?_⟩
    · simp only [shAr, tkAr]
      have := ScA.then (scA_space.app ((scA_mark (c := 124) (by decide)).app scA_space)) ((sc_armText h1 h2).then ((hE (h, e) (by simp)).app i1 i2))
      simpa using this
    · simp only [shAr]; exact hd0_cons (by decide)
theorem sc_A0 {l : List (AH × Ex)} (hs : srcA l = true) (hE : ∀ A ∈ l, Sc (shE A.2) (tkE A.2)) : Sc (shA0 l) (tkA0 l) := by
  cases l with
  | nil => simpa [shA0, tkA0] using scA_nil.sc
  | cons a l =>
    obtain ⟨h, e⟩ := a
    obtain ⟨-, h1, h2, -⟩ := srcA_mem hs (A := (h, e)) (by simp)
    have hs' : srcA l = true := by simp only [srcA, Bool.and_eq_true] at hs; exact hs.2
    obtain ⟨i1, i2⟩ := sc_Ar l hs' fun A hA => hE A (by simp [hA])
    simp only [shA0, tkA0]
    exact (sc_armText h1 h2).then ((hE (h, e) (by simp)).app i1 i2)
theorem sc_small {m : Int} (h0 : 0 ≤ m) (h1 : m ≤ 9) : rkind (Lib.itoa m) = 3 ∧ numB ⟨(Lib.itoa m).toArray⟩ = m := by
  have : m = 0 ∨ m = 1 ∨ m = 2 ∨ m = 3 ∨ m = 4 ∨ m = 5 ∨ m = 6 ∨ m = 7 ∨ m = 8 ∨ m = 9 := by omega
  rcases this with rfl | rfl | rfl | rfl | rfl | rfl | rfl | rfl | rfl | rfl <;> exact ⟨by decide +kernel, by decide +kernel⟩
theorem sc_E : ∀ T, srcE T = true → Sc (shE T) (tkE T) := by
  refine Ex.induct fun T ih1 ih2 hs => ?_
  cases T with
  | mk k p n m t kids arms =>
    simp only [srcE, Bool.and_eq_true] at hs
    obtain ⟨⟨⟨⟨⟨⟨-, -⟩, hna⟩, -⟩, hk⟩, ha⟩, hs⟩ := hs
    have e1 : ∀ U ∈ kids, Sc (shE U) (tkE U) := fun U hU => ih1 U hU (srcK_mem hk hU)
    have e2 : ∀ A ∈ arms, Sc (shE A.2) (tkE A.2) := fun A hA => ih2 A hA (srcA_mem ha hA).2.2.2
    have hkids : Sc (shK kids) (tkK' kids) := by
      cases kids with
      | nil => simpa [shK, tkK'] using scA_nil.sc
      | cons e l => simpa [shK, tkK'] using e1 e (by simp)
    have hlet : Sc (shLt kids) (tkLt kids) := by
      match kids with
      | [] => simpa [shLt, tkLt] using scA_nil.sc
      | [e] =>
        simp only [shLt, tkLt, shK, tkK']
        have := (e1 e (by simp)).app (ScA.then scA_space ((sc_kw (x := [105, 110]) (by decide)).appC scA_space.sc (by decide))) (fun r _ => hd0_cons (by decide))
        simpa using this
      | e :: f :: l =>
        simp only [shLt, tkLt, shK, tkK']
        have := (e1 e (by simp)).app (ScA.then scA_space ((sc_kw (x := [105, 110]) (by decide)).appC (ScA.then scA_space (e1 f (by simp))) (by decide))) (fun r _ => hd0_cons (by decide))
        simpa using this
    simp only [shE, tkE]
    by_cases h1 : k = 1
    · subst h1
      simp at hs ⊢
      exact sc_word (by rw [rkind_lo hs.1]; decide)
    by_cases h2 : k = 2
    · subst h2
      simp at hs ⊢
      exact sc_word (by rw [rkind_up hs.1]; decide)
    by_cases h3 : k = 3
    · subst h3
      simp at hs ⊢
      exact sc_word (by rw [(sc_small hs.1.1.2 hs.1.2).1]; decide)
    by_cases h10 : k = 10
    · subst h10
      simp
      exact (scA_mark (c := 63) (by decide)).sc
    by_cases h4 : k = 4
    · subst h4
      simp at hs ⊢
      have a : Sc (bl n) [bl n] := sc_word (by rw [rkind_lo hs.1]; decide)
      have := ScA.then (scA_mark (c := 92) (by decide)) (a.appC (ScA.then ((scA_mark (c := 46) (by decide)).app scA_space) hkids) (by decide))
      simpa using this
    by_cases h5 : k = 5
    · subst h5
      simp at hs ⊢
      match kids, hs.2 with
      | [f, a], _ =>
        simp only [shF, tkF, shG, tkG]
        have := (sc_brk (q := !(atomE f || f.k == 5)) (e1 f (by simp))).app (ScA.then scA_space (sc_brk (q := !atomE a) (e1 a (by simp)))) (fun r _ => hd0_cons (by decide))
        simpa using this
    by_cases h6 : k = 6
    · subst h6
      simp at hs ⊢
      have a : Sc (bl n) [bl n] := sc_word (by rw [rkind_lo hs.1]; decide)
      have := (sc_kw (x := [108, 101, 116]) (by decide)).appC (ScA.then scA_space (a.appC (ScA.then (scA_space.app ((scA_mark (c := 61) (by decide)).app scA_space)) hlet) (by decide))) (by decide)
      simpa using this
    by_cases h7 : k = 7
    · subst h7
      simp at hs ⊢
      have a : Sc (bl n) [bl n] := sc_word (by rw [rkind_lo hs.1]; decide)
      have := (sc_kw (x := [108, 101, 116]) (by decide)).appC (ScA.then scA_space ((sc_kw (x := [114, 101, 99]) (by decide)).appC (ScA.then scA_space (a.appC (ScA.then (scA_space.app ((scA_mark (c := 61) (by decide)).app scA_space)) hlet) (by decide))) (by decide))) (by decide)
      simpa using this
    by_cases h9 : k = 9
    · subst h9
      simp at hs ⊢
      have := ScA.then (scA_mark (c := 40) (by decide)) (hkids.appC (ScA.then (scA_space.app ((scA_mark (c := 58) (by decide)).app scA_space)) ((sc_T t hs.2).appA (scA_mark (c := 41) (by decide)) (by decide)).sc) (by decide))
      simpa using this
    by_cases h11 : k = 11
    · subst h11
      simp
      have := ScA.then (scA_mark (c := 123) (by decide)) (hkids.appA (scA_mark (c := 125) (by decide)) (by decide)).sc
      simpa using this
    · simp [h1, h2, h3, h4, h5, h6, h7, h9, h10, h11]
      have := (sc_kw (x := [99, 97, 115, 101]) (by decide)).appC (ScA.then scA_space (hkids.appC (ScA.then scA_space ((sc_kw (x := [111, 102]) (by decide)).appC (ScA.then scA_space ((sc_A0 ha e2).appC (ScA.then scA_space (sc_kw (x := [101, 110, 100]) (by decide))) (by decide))) (by decide))) (by decide))) (by decide)
      simpa using this
end Go.Proofs.Ytgfjcpeeoapjlaa

/- Plain facts: what the maker's types and expressions are, and how long their texts are. -/
namespace Go.Proofs.Ytgfjcpeeoapjlaa
open Go.RowKit Go.Maps Mth

def capE : Nat → Nat
  | 0 => 5
  | d + 1 => 3 * capE d + 60
theorem capE_pos : ∀ d, 5 ≤ capE d
  | 0 => Nat.le_refl _
  | d + 1 => by have := capE_pos d; simp only [capE]; omega
/-- What the maker's expressions of a depth are. -/
def OkE (d : Nat) (T : Ex) : Prop := srcE T = true ∧ (shE T).length ≤ capE d
def nmOk (n : ByteArray) : Bool := isLo (bl n) && decide (n.size ≤ 2)
def cnOk (n : ByteArray) : Bool := isUp (bl n) && decide (n.size ≤ 5)
theorem nmOk_iff {n : ByteArray} (h : nmOk n = true) : isLo (bl n) = true ∧ (bl n).length ≤ 2 := by
  simp only [nmOk, Bool.and_eq_true, decide_eq_true_eq] at h
  exact ⟨h.1, by rw [bl_len]; exact h.2⟩
theorem cnOk_iff {n : ByteArray} (h : cnOk n = true) : isUp (bl n) = true ∧ (bl n).length ≤ 5 := by
  simp only [cnOk, Bool.and_eq_true, decide_eq_true_eq] at h
  exact ⟨h.1, by rw [bl_len]; exact h.2⟩
theorem zTyB_z : zTyB zTy = true := by decide +kernel
theorem okE_mono {d : Nat} {T : Ex} (h : OkE d T) : OkE (d + 1) T := ⟨h.1, by have := h.2; simp only [capE]; omega⟩
theorem okE_var (d : Nat) {n : ByteArray} (h : nmOk n = true) : OkE d (.mk 1 0 n 0 zTy [] []) := by
  obtain ⟨h1, h2⟩ := nmOk_iff h
  have := capE_pos d
  exact ⟨by simp [srcE, srcK, srcA, zTyB_z, h1], by simp [shE]; omega⟩
theorem okE_con (d : Nat) {n : ByteArray} (h : cnOk n = true) : OkE d (.mk 2 0 n 0 zTy [] []) := by
  obtain ⟨h1, h2⟩ := cnOk_iff h
  have := capE_pos d
  exact ⟨by simp [srcE, srcK, srcA, zTyB_z, h1], by simp [shE]; omega⟩
theorem okE_hole (d : Nat) : OkE d (.mk 10 0 ⟨#[]⟩ 0 zTy [] []) := by
  have := capE_pos d
  exact ⟨by decide +kernel, by simp [shE]; omega⟩
theorem okE_int (d : Nat) {m : Int} (h0 : 0 ≤ m) (h1 : m ≤ 3) : OkE d (.mk 3 0 ⟨#[]⟩ m zTy [] []) := by
  have hp := capE_pos d
  have : m = 0 ∨ m = 1 ∨ m = 2 ∨ m = 3 := by omega
  rcases this with rfl | rfl | rfl | rfl
  all_goals
    refine ⟨by decide +kernel, Nat.le_trans ?_ hp⟩
    decide +kernel
theorem okE_lam {d : Nat} {n : ByteArray} {a : Ex} (h : nmOk n = true) (ha : OkE d a) : OkE (d + 1) (.mk 4 0 n 0 zTy [a] []) := by
  obtain ⟨h1, h2⟩ := nmOk_iff h
  obtain ⟨g1, g2⟩ := ha
  refine ⟨by simp [srcE, srcK, srcA, zTyB_z, h1, g1], ?_⟩
  simp [shE, shK, capE]
  omega
theorem okE_app {d : Nat} {f a : Ex} (hf : OkE d f) (ha : OkE d a) : OkE (d + 1) (.mk 5 0 ⟨#[]⟩ 0 zTy [f, a] []) := by
  obtain ⟨f1, f2⟩ := hf
  obtain ⟨g1, g2⟩ := ha
  have e1 := brk_len (!(atomE f || f.k == 5)) (shE f)
  have e2 := brk_len (!atomE a) (shE a)
  refine ⟨?_, ?_⟩
  · simp [srcE, srcK, srcA, zTyB_z, f1, g1]
  · simp only [shE, shF, shG, capE]
    simp only [show ((5 : Int) == 1 || (5 : Int) == 2) = false from rfl, show ((5 : Int) == 3) = false from rfl, show ((5 : Int) == 10) = false from rfl, show ((5 : Int) == 4) = false from rfl, show ((5 : Int) == 5) = true from rfl, Bool.false_eq_true, if_false, if_true, List.length_append, List.length_cons]
    omega
theorem okE_let {d : Nat} {k : Int} (hk : k = 6 ∨ k = 7) {n : ByteArray} {a b : Ex} (h : nmOk n = true) (ha : OkE d a) (hb : OkE d b) : OkE (d + 1) (.mk k 0 n 0 zTy [a, b] []) := by
  obtain ⟨h1, h2⟩ := nmOk_iff h
  obtain ⟨f1, f2⟩ := ha
  obtain ⟨g1, g2⟩ := hb
  rcases hk with rfl | rfl
  all_goals
    refine ⟨by simp [srcE, srcK, srcA, zTyB_z, h1, f1, g1], ?_⟩
    simp [shE, shLt, shK, capE]
    omega
theorem okE_held {d : Nat} {a : Ex} (ha : OkE d a) : OkE (d + 1) (.mk 11 0 ⟨#[]⟩ 0 zTy [a] []) := by
  obtain ⟨g1, g2⟩ := ha
  refine ⟨?_, ?_⟩
  · simp [srcE, srcK, srcA, zTyB_z, g1]
  · simp [shE, shK, capE]
    omega
theorem okE_ann {d : Nat} {a : Ex} {t : Ty} (ha : OkE d a) (ht : src t = true) (hl : (shT t).length ≤ 63) : OkE (d + 1) (.mk 9 0 ⟨#[]⟩ 0 t [a] []) := by
  obtain ⟨g1, g2⟩ := ha
  have hp := capE_pos d
  refine ⟨?_, ?_⟩
  · simp [srcE, srcK, srcA, g1, ht]
  · simp [shE, shK, capE]
    omega
/-- An arm that the maker makes. -/
def OkA (d : Nat) (A : AH × Ex) : Prop := A.1.pos = 0 ∧ cnOk A.1.con = true ∧ A.1.vars.length ≤ 2 ∧ (∀ v ∈ A.1.vars, nmOk v = true) ∧ OkE d A.2
theorem vars_len : ∀ vs : List ByteArray, (∀ v ∈ vs, nmOk v = true) → varsOk vs = true ∧ (vs.flatMap fun v => 32 :: bl v).length ≤ 3 * vs.length := by
  intro vs
  induction vs with
  | nil => intro _; exact ⟨rfl, Nat.le_refl _⟩
  | cons v vs ih =>
    intro h
    obtain ⟨i1, i2⟩ := ih fun v hv => h v (by simp [hv])
    obtain ⟨h1, h2⟩ := nmOk_iff (h v (by simp))
    refine ⟨by simp only [varsOk, List.all_cons, Bool.and_eq_true]; exact ⟨h1, by simpa [varsOk] using i1⟩, ?_⟩
    simp only [List.flatMap_cons, List.length_append, List.length_cons]
    omega
theorem okA_parts {d : Nat} {A : AH × Ex} (h : OkA d A) : (armText A.1).length ≤ 13 ∧ (shE A.2).length ≤ capE d ∧ (A.1.pos == 0) = true ∧ isUp (bl A.1.con) = true ∧ varsOk A.1.vars = true ∧ srcE A.2 = true := by
  obtain ⟨h1, h2, h3, h4, h5, h6⟩ := h
  obtain ⟨c1, c2⟩ := cnOk_iff h2
  obtain ⟨v1, v2⟩ := vars_len _ h4
  refine ⟨?_, h6, by simpa using h1, c1, v1, h5⟩
  unfold armText
  simp only [List.length_append, List.length_cons, List.length_nil]
  omega
theorem okE_case {d : Nat} {a : Ex} {arms : List (AH × Ex)} (ha : OkE d a) (h1 : arms ≠ []) (h2 : arms.length ≤ 2) (hA : ∀ A ∈ arms, OkA d A) : OkE (d + 1) (.mk 8 0 ⟨#[]⟩ 0 zTy [a] arms) := by
  obtain ⟨g1, g2⟩ := ha
  have e0 : (⟨#[]⟩ : ByteArray).toList = [] := by decide +kernel
  match arms, h1, h2 with
  | [A], _, _ =>
    obtain ⟨ah, ae⟩ := A
    obtain ⟨a1, a2, a3, a4, a5, a6⟩ := okA_parts (hA (ah, ae) (by simp))
    dsimp only at a1 a2 a3 a4 a5 a6
    refine ⟨?_, ?_⟩
    · simp [srcE, srcK, srcA, zTyB_z, g1, a4, a5, a6, e0]
      simpa using a3
    · simp [shE, shK, shA0, shAr, capE]
      omega
  | [A, B], _, _ =>
    obtain ⟨ah, ae⟩ := A
    obtain ⟨bh, be⟩ := B
    obtain ⟨a1, a2, a3, a4, a5, a6⟩ := okA_parts (hA (ah, ae) (by simp))
    obtain ⟨b1, b2, b3, b4, b5, b6⟩ := okA_parts (hA (bh, be) (by simp))
    dsimp only at a1 a2 a3 a4 a5 a6 b1 b2 b3 b4 b5 b6
    refine ⟨?_, ?_⟩
    · simp [srcE, srcK, srcA, zTyB_z, g1, a4, a5, a6, b4, b5, b6, e0]
      exact ⟨by simpa using a3, by simpa using b3⟩
    · simp [shE, shK, shA0, shAr, capE]
      omega
/-- The tokens of an expression's text, in so many parentheses. -/
theorem toksE_of {d : Nat} {T : Ex} (hd : d ≤ 4) (h : OkE d T) {s : ByteArray} {m : Nat} (hm : m ≤ 5) (hb : bl s = parT m (shE T)) : kt (ftoks (bl s)) = wk (parTk m (tkE T)) := by
  have h1 := (par_sc (sc_E T h.1) m).alone 0
  have h3 := parT_len (shE T) m
  have h2 := h.2
  have h4 : capE d ≤ 2805 := by
    have : d = 0 ∨ d = 1 ∨ d = 2 ∨ d = 3 ∨ d = 4 := by omega
    rcases this with rfl | rfl | rfl | rfl | rfl <;> decide
  unfold ftoks
  rw [hb, if_neg (by omega), h1.2]
  exact h1.1
end Go.Proofs.Ytgfjcpeeoapjlaa

/- The contracts of chapter 4's reference: words, Children, on what is the same up to places. -/
namespace Go.Proofs.Ytgfjcpeeoapjlaa
open Go.RowKit Go.Maps Mth

theorem teqL_same : ∀ l : List Ty, (∀ U ∈ l, teq U U = true) → teqL l l = true := by
  intro l
  induction l with
  | nil => intro _; rfl
  | cons x l ihl => intro hl; simp [teqL, hl x (by simp), ihl fun U hU => hl U (by simp [hU])]
theorem teq_same : ∀ (m : Nat) (T : Ty), nodes T ≤ m → teq T T = true := by
  intro m
  induction m with
  | zero => intro T h; have := nodes_pos T; omega
  | succ m ih =>
    intro T hm
    cases T with
    | mk k n i h ts =>
      have : teqL ts ts = true := teqL_same ts fun U hU => ih U (by have := nodesL_mem hU; simp only [nodes] at hm; omega)
      simp [teq, this]
def chd (T : Ex) : List Ex := T.kids ++ T.arms.map (·.2)
/-- The eleven cells of an element, as a walk meets them. -/
theorem AtC.eleven {w : World} {ad : Addr} {j : Nat} {c0 c1 c2 c3 c4 c5 c6 c7 c8 c9 c10 : Value} (h : AtC w ad (j * 11) [c0, c1, c2, c3, c4, c5, c6, c7, c8, c9, c10]) :
    w.cell? (ad.add (j * 11)) = some c0 ∧ w.cell? ⟨(ad.add (j * 11)).block, (ad.add (j * 11)).off + 1, none⟩ = some c1 ∧ w.cell? ⟨(ad.add (j * 11)).block, (ad.add (j * 11)).off + 2, none⟩ = some c2 ∧ w.cell? ⟨(ad.add (j * 11)).block, (ad.add (j * 11)).off + 3, none⟩ = some c3 ∧ w.cell? ⟨(ad.add (j * 11)).block, (ad.add (j * 11)).off + 4, none⟩ = some c4 ∧ w.cell? ⟨(ad.add (j * 11)).block, (ad.add (j * 11)).off + 5, none⟩ = some c5 ∧ w.cell? ⟨(ad.add (j * 11)).block, (ad.add (j * 11)).off + 6, none⟩ = some c6 ∧ w.cell? ⟨(ad.add (j * 11)).block, (ad.add (j * 11)).off + 7, none⟩ = some c7 ∧ w.cell? ⟨(ad.add (j * 11)).block, (ad.add (j * 11)).off + 8, none⟩ = some c8 ∧ w.cell? ⟨(ad.add (j * 11)).block, (ad.add (j * 11)).off + 9, none⟩ = some c9 ∧ w.cell? ⟨(ad.add (j * 11)).block, (ad.add (j * 11)).off + 10, none⟩ = some c10 := by
  refine ⟨h 0 _ rfl, ?_, ?_, ?_, ?_, ?_, ?_, ?_, ?_, ?_, ?_⟩
  all_goals rw [add_add' _ _ _ (by omega)]
  · exact h 1 _ rfl
  · exact h 2 _ rfl
  · exact h 3 _ rfl
  · exact h 4 _ rfl
  · exact h 5 _ rfl
  · exact h 6 _ rfl
  · exact h 7 _ rfl
  · exact h 8 _ rfl
  · exact h 9 _ rfl
  · exact h 10 _ rfl
/-- append(nil, xs...): a copy. -/
theorem wpList_cloneG {α : Type} {w : World} {ops : Array Oper} {rest : List Oper} {o : Oper} {a : Act} {Q : Exit → Act → World → Prop} (E : El α) (hgd : o.guard = none) (s x : Operand)
    (ho : o.op = .call { callee := .builtin .append, args := #[s, x], argTypes := #[E.t, E.t] }) (hs : a.eval s = .slice none 0 0) (ys : List α) (xv : Value) (S : Nat → Prop) (hy : SlG E w S ys xv) (hx : a.eval x = xv) (hb : ys.length ≤ 1000000)
    (hK : ∀ (a' : Option Addr) (c' : Nat) (w' : World), RowG E w' w.heap.size (fun b => S b ∧ b < w.heap.size) (.slice a' ys.length c') ys → Below w.heap.size w w' → wpList Try.prog ops Q rest (a.put o.dst (.slice a' ys.length c')) w') :
    wpList Try.prog ops Q (o :: rest) a w := by
  obtain ⟨i, z, hi, hz, hk, hby, hzs⟩ := E.info
  obtain ⟨xa, xc, rfl, hcap, hj⟩ := hy.bound
  have hE := E.hby
  cases xa with
  | none =>
    have h0 : ys = [] := by
      cases ys with
      | nil => rfl
      | cons y ys => obtain ⟨ad, c, h1, -⟩ := hj 0 y rfl; cases h1
    subst h0
    refine wpList_plain hgd fun K hK' => ?_
    have hr : (Builtin.append_ #[E.t, E.t] o.type #[.slice none 0 0, .slice none 0 xc]).run Try.prog w = .ok (.slice none 0 0) w := by
      simp [Builtin.append_, run_underlying E.und, sizeOf, typeInfo, hi, Builtin.lenOf, Builtin.firstCells]
    unfold Oper.wp execOp
    simp only [ho, resolve, invoke, builtin, Sem.run_bind, Sem.run_pure, Result.andThen_ok, List.map_toArray, List.map_cons, List.map_nil, hs, hx, List.length_nil, hr]
    exact hK' _ _ (hK none 0 w (rowG_nil E w _ _) (Below.refl _ w))
  | some ad =>
    have hex : ∀ j : Nat, ∃ c : List Value, ∀ y, ys[j]? = some y → (∀ (m : Nat) (u : Value), c[m]? = some u → w.cell? (ad.add (j * E.k + m)) = some u) ∧ E.rep w (fun b => S b ∧ b < w.heap.size) y c := by
      intro j
      cases hy : ys[j]? with
      | none => exact ⟨[], fun y h => by cases h⟩
      | some y0 =>
        obtain ⟨ad', c, h1, -, h3, h4⟩ := hj j y0 hy
        cases h1
        exact ⟨c, fun y h => by cases h; exact ⟨h3, h4⟩⟩
    obtain ⟨g, hg⟩ := Classical.axiomOfChoice hex
    have hlen : ∀ c ∈ (List.range ys.length).map g, c.length = E.k ∧ ∀ u ∈ c, u.oneCell' = true := by
      intro c hc
      obtain ⟨j, hj', rfl⟩ := List.mem_map.1 hc
      rw [List.mem_range] at hj'
      exact E.len (hg j _ (List.getElem?_eq_getElem hj')).2
    have hfl : ((List.range ys.length).map g).flatten.length = ys.length * E.k := by
      rw [List.length_flatten]
      have : ((List.range ys.length).map g).map List.length = List.replicate ys.length E.k := by
        apply List.ext_getElem
        · simp
        · intro i h1 h2
          simp only [List.getElem_map, List.getElem_replicate]
          exact (hlen _ (List.mem_map.2 ⟨_, List.getElem_mem _, rfl⟩)).1
      rw [this]; simp
    refine wpList_append_own_at w hgd s x E.t ho w.heap.size E.e i z E.k E.by_ E.und hi hz hk hby hzs E.hk (.slice none 0 0) 0 [] hs (World.ownsRow_nil _ _ _ _) ad ys.length xc ((List.range ys.length).map g).flatten hx hfl ?_ ?_ (by unfold maxLen; omega) ?_ (Nat.le_refl _) ?_
    · intro n u hu
      have hn : n < ys.length * E.k := by rw [← hfl]; exact (List.getElem?_eq_some_iff.1 hu).1
      have hkp := E.hk
      obtain ⟨q, r, hq, hr, rfl⟩ : ∃ q r, q < ys.length ∧ r < E.k ∧ n = q * E.k + r := ⟨n / E.k, n % E.k, (Nat.div_lt_iff_lt_mul hkp).2 hn, Nat.mod_lt _ hkp, by rw [Nat.mul_comm]; exact (Nat.div_add_mod n E.k).symm⟩
      obtain ⟨h1, h2⟩ := hg q _ (List.getElem?_eq_getElem hq)
      have hl := (E.len h2).1
      have hgu := flat_get E.k _ (fun c h => (hlen c h).1) q r (g q) ((g q)[r]'(by omega)) (by simp [List.getElem?_map, List.getElem?_range hq]) (List.getElem?_eq_getElem _)
      rw [hu] at hgu
      cases hgu
      exact h1 r _ (List.getElem?_eq_getElem _)
    · intro u hu
      obtain ⟨c, hc, hu'⟩ := List.mem_flatten.1 hu
      exact (hlen c hc).2 u hu'
    · have := Nat.mul_le_mul (show 0 + ys.length ≤ 1000000 by omega) hE
      omega
    · intro v' w' hown hgr hnil hloc
      simp only [Nat.zero_add, List.nil_append] at hown
      have hgr' : w.grownBy w' none := hgr
      have hbl : Below w.heap.size w w' := ⟨hgr'.os, hgr'.tape, hgr'.output, hgr'.size, fun i hi => hgr'.block i hi (by simp)⟩
      have hrow : RowG E w' w.heap.size (fun b => S b ∧ b < w.heap.size) v' ys := by
        refine ⟨(List.range ys.length).map g, hown, by simp, fun j y hy => ?_⟩
        have hjl := (List.getElem?_eq_some_iff.1 hy).1
        refine ⟨g j, by simp [List.getElem?_map, List.getElem?_range hjl], E.kept (fun b hb => ⟨hb, ?_⟩) (fun b hb hlt => hbl.block b hlt) (hg j y hy).2⟩
        rcases hloc with e | e
        · rw [e]; simp [Value.ownBlock]
        · rw [e]; intro e'; have := Option.some.inj e'; have := hb.2; omega
      obtain ⟨a', c', rfl, -⟩ := hrow.slice
      exact hK _ _ _ hrow hbl
end Go.Proofs.Ytgfjcpeeoapjlaa
