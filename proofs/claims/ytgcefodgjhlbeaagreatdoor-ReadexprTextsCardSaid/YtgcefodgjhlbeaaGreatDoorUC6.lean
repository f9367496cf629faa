import Derived.Test.YtgcefodgjhlbeaaGreatDoorUC5
import Derived.Test.YtgcefodgjhlbeaaGreatDoorUC1
import Derived.Test.YtgcefodgjhlbeaaGreatDoorUA5
import Derived.Test.YtgcefodgjhlbeaaGreatDoorUB5
import Derived.Lib.ItoaNum
import Derived.Lib.ItoaLen
namespace Go.Proofs.YtgcefodgjhlbeaaGreatDoor
open Go.RowKit Go.Maps Mth

theorem src_of_valid : ∀ T : Ty, S3.valid T = true → wr T = true → src T = true := by
 refine tyInd fun T ih hv hw => ?_
 cases T with
 | mk k n i h ts =>
  simp only [wr, Bool.and_eq_true] at hw
  obtain ⟨⟨hk, -⟩, hl⟩ := hw
  have hsL : S3.validL ts = true → srcL ts = true := fun hvl => by
   have h1 : ∀ U ∈ ts, src U = true := fun U hU => ih U hU (S3.validL_mem hvl hU) (wrL_mem hl hU)
   clear ih hv hl hvl hk
   induction ts with
   | nil => rfl
   | cons t l ihl => simp only [srcL, Bool.and_eq_true]; exact ⟨h1 t (by simp), ihl fun U hU => h1 U (by simp [hU])⟩
  by_cases h5 : k = 5
  ·subst h5
   simp only [S3.valid] at hv
   rw [if_neg (by decide), if_neg (by decide), if_neg (by decide), if_pos trivial] at hv
   simp only [Bool.and_eq_true, decide_eq_true_eq, beq_iff_eq] at hv
   obtain ⟨⟨⟨h1, rfl⟩, rfl⟩, h4⟩ := hv
   obtain rfl : ts = [] := List.eq_nil_of_length_eq_zero h4
   simp [src, srcL, h1]
  ·have h4 : k = 4 := by
    simp only [Bool.or_eq_true, beq_iff_eq] at hk
    rcases hk with h | h
    ·exact h
    ·exact absurd h h5
   subst h4
   simp only [S3.valid] at hv
   rw [if_neg (by decide), if_neg (by decide), if_pos trivial] at hv
   simp only [Bool.and_eq_true, beq_iff_eq] at hv
   obtain ⟨⟨⟨rfl, rfl⟩, hc⟩, hvl⟩ := hv
   have hs := hsL hvl
   have e5 : ((4 : Int) == 5) = false := rfl
   have e4 : ((4 : Int) == 4) = true := rfl
   have e0 : ((0 : Int) == 0) = true := rfl
   simp only [src, hs, e5, e4, e0, Bool.true_and, Bool.and_true, Bool.false_eq_true, if_false]
   unfold S3.conOk at hc
   cases ha : n.toList == [45, 62] with
   | true => rw [ha] at hc; simpa using hc
   | false =>
    rw [ha] at hc
    simp only [Bool.false_eq_true, if_false] at hc ⊢
    cases hI : n.toList == [73, 110, 116] with
    | true =>
     have : bl n = [73, 110, 116] := by
      have := eq_of_beq hI
      rw [Lib.toList_data] at this
      exact this
     rw [this]
     decide
    | false =>
     rw [hI] at hc
     simp only [Bool.false_eq_true, if_false, Bool.and_eq_true] at hc
     exact hc.1
theorem shT_len6 : ∀ T, src T = true → wr T = true → (shT T).length ≤ 9 * nodes T := by
 have key : ∀ T, src T = true → wr T = true → (shT T).length + 3 ≤ 9 * nodes T := by
  refine tyInd fun T ih hs hw => ?_
  cases T with
  | mk k n i h ts =>
   simp only [src, Bool.and_eq_true] at hs
   simp only [wr, Bool.and_eq_true, decide_eq_true_eq] at hw
   obtain ⟨⟨-, hk⟩, hl⟩ := hs
   have ih' : ∀ U ∈ ts, (shT U).length + 3 ≤ 9 * nodes U := fun U hU => ih U hU (srcL_mem hl hU) (wrL_mem hw.2 hU)
   have hn : (bl n).length ≤ 6 := by rw [bl_len]; exact hw.1.2
   simp only [shT, nodes]
   cases h5 : k == 5 with
   | true => simp only [if_true]; omega
   | false =>
    rw [h5] at hk
    simp only [Bool.false_eq_true, if_false, Bool.and_eq_true] at hk ⊢
    cases ha : n.toList == [45, 62] with
    | true =>
     rw [ha] at hk
     simp only [if_true, beq_iff_eq] at hk ⊢
     match ts, hk.2 with
     | [a, c], _ =>
      have h1 := ih' a (by simp)
      have h2 := ih' c (by simp)
      have h3 := brk_len (isArr a) (shT a)
      simp only [shH, shB, nodesL, List.length_append, List.length_cons, List.length_nil]
      omega
    | false =>
     simp only [Bool.false_eq_true, if_false]
     have hA : ∀ l : List Ty, (∀ U ∈ l, (shT U).length + 3 ≤ 9 * nodes U) → (shA l).length ≤ 9 * nodesL l := by
      intro l
      induction l with
      | nil => intro _; simp [shA]
      | cons t l ihl =>
       intro hh
       have h1 := hh t (by simp)
       have h2 := ihl fun U hU => hh U (by simp [hU])
       have h3 := brk_len (conArgs t) (shT t)
       simp only [shA, nodesL, List.length_cons, List.length_append]
       omega
     have h2 := hA ts ih'
     rw [List.length_append]
     omega
 intro T h1 h2
 have := key T h1 h2
 omega
theorem kt_len (l : List Tok) : (kt l).length = l.length := by simp [kt]
theorem start_zero (ts : List Tok) : startAt ts 0 = 0 := by unfold startAt; rw [if_neg (by omega)]; rfl
end Go.Proofs.YtgcefodgjhlbeaaGreatDoor

namespace Go.Proofs.YtgcefodgjhlbeaaGreatDoor
open Go.RowKit Go.Maps Mth

def varsOk (l : List ByteArray) : Bool := l.all fun v => isLo (bl v)
def zTyB (t : Ty) : Bool := t.k == 0 && t.n.toList == [] && t.i == 0 && t.h == 0 && t.ts.length == 0
mutual
def srcE : Ex → Bool
 | .mk k p n m t kids arms =>
  p == 0 && (k == 9 || zTyB t) && (k == 8 || arms.length == 0) && (k == 3 || m == 0) && srcK kids && srcA arms &&
  (if k == 1 then isLo (bl n) && kids.length == 0
   else if k == 2 then isUp (bl n) && kids.length == 0
   else if k == 3 then n.toList == [] && decide (0 ≤ m) && decide (m ≤ 9) && kids.length == 0
   else if k == 4 then isLo (bl n) && kids.length == 1
   else if k == 5 then n.toList == [] && kids.length == 2
   else if k == 6 || k == 7 then isLo (bl n) && kids.length == 2
   else if k == 8 then n.toList == [] && kids.length == 1 && arms.length != 0
   else if k == 9 then n.toList == [] && kids.length == 1 && src t
   else if k == 10 then n.toList == [] && kids.length == 0
   else k == 11 && n.toList == [] && kids.length == 1)
def srcK : List Ex → Bool
 | [] => true
 | e :: l => srcE e && srcK l
def srcA : List (AH × Ex) → Bool
 | [] => true
 | (h, e) :: l => h.pos == 0 && isUp (bl h.con) && varsOk h.vars && srcE e && srcA l
end
theorem srcK_mem : ∀ {l : List Ex}, srcK l = true → ∀ {T : Ex}, T ∈ l → srcE T = true := by
 intro l
 induction l with
 | nil => intro _ T h; simp at h
 | cons t l ih =>
  intro h T hT
  simp only [srcK, Bool.and_eq_true] at h
  rcases List.mem_cons.1 hT with rfl | hT
  ·exact h.1
  ·exact ih h.2 hT
theorem srcA_mem : ∀ {l : List (AH × Ex)}, srcA l = true → ∀ {A : AH × Ex}, A ∈ l → A.1.pos = 0 ∧ isUp (bl A.1.con) = true ∧ varsOk A.1.vars = true ∧ srcE A.2 = true := by
 intro l
 induction l with
 | nil => intro _ T h; simp at h
 | cons a l ih =>
  obtain ⟨h, e⟩ := a
  intro hs A hA
  simp only [srcA, Bool.and_eq_true, beq_iff_eq] at hs
  rcases List.mem_cons.1 hA with rfl | hA
  ·exact ⟨hs.1.1.1.1, hs.1.1.1.2, hs.1.1.2, hs.1.2⟩
  ·exact ih hs.2 hA
def atomE (e : Ex) : Bool := e.k == 1 || e.k == 2 || e.k == 3 || e.k == 10 || e.k == 9 || e.k == 11
def armText (h : AH) : List UInt8 := bl h.con ++ (h.vars.flatMap fun v => 32 :: bl v) ++ [46, 32]
def armTk (h : AH) : List (List UInt8) := bl h.con :: (h.vars.map bl ++ [[46]])
mutual
def shE : Ex → List UInt8
 | .mk k _ n m t kids arms =>
  if k == 1 || k == 2 then bl n
  else if k == 3 then Lib.itoa m
  else if k == 10 then [63]
  else if k == 4 then 92 :: (bl n ++ 46 :: 32 :: shK kids)
  else if k == 5 then shF kids
  else if k == 6 then [108, 101, 116] ++ 32 :: (bl n ++ 32 :: 61 :: 32 :: shLt kids)
  else if k == 7 then [108, 101, 116] ++ 32 :: ([114, 101, 99] ++ 32 :: (bl n ++ 32 :: 61 :: 32 :: shLt kids))
  else if k == 9 then 40 :: (shK kids ++ 32 :: 58 :: 32 :: (shT t ++ [41]))
  else if k == 11 then 123 :: (shK kids ++ [125])
  else [99, 97, 115, 101] ++ 32 :: (shK kids ++ 32 :: ([111, 102] ++ 32 :: (shA0 arms ++ 32 :: [101, 110, 100])))
def shK : List Ex → List UInt8
 | [] => []
 | e :: _ => shE e
def shF : List Ex → List UInt8
 | [] => []
 | e :: l => brk (!(atomE e || e.k == 5)) (shE e) ++ shG l
def shG : List Ex → List UInt8
 | [] => []
 | e :: _ => 32 :: brk (!atomE e) (shE e)
def shLt : List Ex → List UInt8
 | [] => []
 | e :: l => shE e ++ 32 :: ([105, 110] ++ 32 :: shK l)
def shA0 : List (AH × Ex) → List UInt8
 | [] => []
 | (h, e) :: l => armText h ++ (shE e ++ shAr l)
def shAr : List (AH × Ex) → List UInt8
 | [] => []
 | (h, e) :: l => 32 :: 124 :: 32 :: (armText h ++ (shE e ++ shAr l))
end
mutual
def tkE : Ex → List (List UInt8)
 | .mk k _ n m t kids arms =>
  if k == 1 || k == 2 then [bl n]
  else if k == 3 then [Lib.itoa m]
  else if k == 10 then [[63]]
  else if k == 4 then [92] :: bl n :: [46] :: tkK' kids
  else if k == 5 then tkF kids
  else if k == 6 then [108, 101, 116] :: bl n :: [61] :: tkLt kids
  else if k == 7 then [108, 101, 116] :: [114, 101, 99] :: bl n :: [61] :: tkLt kids
  else if k == 9 then [40] :: (tkK' kids ++ [58] :: (tkT t ++ [[41]]))
  else if k == 11 then [123] :: (tkK' kids ++ [[125]])
  else [99, 97, 115, 101] :: (tkK' kids ++ [111, 102] :: (tkA0 arms ++ [[101, 110, 100]]))
def tkK' : List Ex → List (List UInt8)
 | [] => []
 | e :: _ => tkE e
def tkF : List Ex → List (List UInt8)
 | [] => []
 | e :: l => brkW (!(atomE e || e.k == 5)) (tkE e) ++ tkG l
def tkG : List Ex → List (List UInt8)
 | [] => []
 | e :: _ => brkW (!atomE e) (tkE e)
def tkLt : List Ex → List (List UInt8)
 | [] => []
 | e :: l => tkE e ++ [105, 110] :: tkK' l
def tkA0 : List (AH × Ex) → List (List UInt8)
 | [] => []
 | (h, e) :: l => armTk h ++ (tkE e ++ tkAr l)
def tkAr : List (AH × Ex) → List (List UInt8)
 | [] => []
 | (h, e) :: l => [124] :: (armTk h ++ (tkE e ++ tkAr l))
end
theorem sc_kw {x : List UInt8} (h : rkind x = 4) : Sc x [x] := sc_word (by rw [h]; decide)
theorem sc_vars : ∀ vs : List ByteArray, varsOk vs = true → Sc (vs.flatMap fun v => 32 :: bl v) (vs.map bl) := by
 intro vs
 induction vs with
 | nil => intro _; exact scA_nil.sc
 | cons v vs ih =>
  intro h
  simp only [varsOk, List.all_cons, Bool.and_eq_true] at h
  have h1 : Sc (bl v) [bl v] := sc_word (by rw [rkind_lo h.1]; decide)
  have h2 := h1.app (ih (by simpa [varsOk] using h.2)) (by
   intro r hr
   cases vs with
   | nil => simpa using hr
   | cons u us => simp only [List.flatMap_cons, List.cons_append]; exact hd0_cons (by decide))
  have := ScA.then scA_space h2
  simpa using this
theorem sc_armText {h : AH} (h1 : isUp (bl h.con) = true) (h2 : varsOk h.vars = true) : ScA (armText h) (armTk h) := by
 have a : Sc (bl h.con) [bl h.con] := sc_word (by rw [rkind_up h1]; decide)
 have b := a.app (sc_vars h.vars h2) (by
  intro r hr
  cases h.vars with
  | nil => simpa using hr
  | cons u us => simp only [List.flatMap_cons, List.cons_append]; exact hd0_cons (by decide))
 have c := b.appA ((scA_mark (c := 46) (by decide)).app scA_space) (by decide)
 simpa [armText, armTk] using c
theorem sc_Ar : ∀ l : List (AH × Ex), srcA l = true → (∀ A ∈ l, Sc (shE A.2) (tkE A.2)) → Sc (shAr l) (tkAr l) ∧ ∀ r, Hd0 r → Hd0 (shAr l ++ r) := by
 intro l
 induction l with
 | nil => intro _ _; exact ⟨by simpa [shAr, tkAr] using scA_nil.sc, fun r hr => by simpa [shAr] using hr⟩
 | cons a l ih =>
  obtain ⟨h, e⟩ := a
  intro hs hE
  obtain ⟨-, h1, h2, -⟩ := srcA_mem hs (A := (h, e)) (by simp)
  have hs' : srcA l = true := by simp only [srcA, Bool.and_eq_true] at hs; exact hs.2
  obtain ⟨i1, i2⟩ := ih hs' fun A hA => hE A (by simp [hA])
  refine ⟨?_, fun r hr => ?_⟩
  ·simp only [shAr, tkAr]
   have := ScA.then (scA_space.app ((scA_mark (c := 124) (by decide)).app scA_space)) ((sc_armText h1 h2).then ((hE (h, e) (by simp)).app i1 i2))
   simpa using this
  ·simp only [shAr]; exact hd0_cons (by decide)
theorem sc_A0 {l : List (AH × Ex)} (hs : srcA l = true) (hE : ∀ A ∈ l, Sc (shE A.2) (tkE A.2)) : Sc (shA0 l) (tkA0 l) := by
 cases l with
 | nil => simpa [shA0, tkA0] using scA_nil.sc
 | cons a l =>
  obtain ⟨h, e⟩ := a
  obtain ⟨-, h1, h2, -⟩ := srcA_mem hs (A := (h, e)) (by simp)
  have hs' : srcA l = true := by simp only [srcA, Bool.and_eq_true] at hs; exact hs.2
  obtain ⟨i1, i2⟩ := sc_Ar l hs' fun A hA => hE A (by simp [hA])
  simp only [shA0, tkA0]
  exact (sc_armText h1 h2).then ((hE (h, e) (by simp)).app i1 i2)
theorem sc_small {m : Int} (h0 : 0 ≤ m) (h1 : m ≤ 9) : rkind (Lib.itoa m) = 3 ∧ numB ⟨(Lib.itoa m).toArray⟩ = m := by
 have : m = 0 ∨ m = 1 ∨ m = 2 ∨ m = 3 ∨ m = 4 ∨ m = 5 ∨ m = 6 ∨ m = 7 ∨ m = 8 ∨ m = 9 := by omega
 rcases this with rfl | rfl | rfl | rfl | rfl | rfl | rfl | rfl | rfl | rfl <;> exact ⟨by decide +kernel, by decide +kernel⟩
theorem sc_E : ∀ T, srcE T = true → Sc (shE T) (tkE T) := by
 refine Ex.induct fun T ih1 ih2 hs => ?_
 cases T with
 | mk k p n m t kids arms =>
  simp only [srcE, Bool.and_eq_true] at hs
  obtain ⟨⟨⟨⟨⟨⟨-, -⟩, hna⟩, -⟩, hk⟩, ha⟩, hs⟩ := hs
  have e1 : ∀ U ∈ kids, Sc (shE U) (tkE U) := fun U hU => ih1 U hU (srcK_mem hk hU)
  have e2 : ∀ A ∈ arms, Sc (shE A.2) (tkE A.2) := fun A hA => ih2 A hA (srcA_mem ha hA).2.2.2
  have hkids : Sc (shK kids) (tkK' kids) := by
   cases kids with
   | nil => simpa [shK, tkK'] using scA_nil.sc
   | cons e l => simpa [shK, tkK'] using e1 e (by simp)
  have hlet : Sc (shLt kids) (tkLt kids) := by
   match kids with
   | [] => simpa [shLt, tkLt] using scA_nil.sc
   | [e] =>
    simp only [shLt, tkLt, shK, tkK']
    have := (e1 e (by simp)).app (ScA.then scA_space ((sc_kw (x := [105, 110]) (by decide)).appC scA_space.sc (by decide))) (fun r _ => hd0_cons (by decide))
    simpa using this
   | e :: f :: l =>
    simp only [shLt, tkLt, shK, tkK']
    have := (e1 e (by simp)).app (ScA.then scA_space ((sc_kw (x := [105, 110]) (by decide)).appC (ScA.then scA_space (e1 f (by simp))) (by decide))) (fun r _ => hd0_cons (by decide))
    simpa using this
  simp only [shE, tkE]
  by_cases h1 : k = 1
  ·subst h1
   simp at hs ⊢
   exact sc_word (by rw [rkind_lo hs.1]; decide)
  by_cases h2 : k = 2
  ·subst h2
   simp at hs ⊢
   exact sc_word (by rw [rkind_up hs.1]; decide)
  by_cases h3 : k = 3
  ·subst h3
   simp at hs ⊢
   exact sc_word (by rw [(sc_small hs.1.1.2 hs.1.2).1]; decide)
  by_cases h10 : k = 10
  ·subst h10
   simp
   exact (scA_mark (c := 63) (by decide)).sc
  by_cases h4 : k = 4
  ·subst h4
   simp at hs ⊢
   have a : Sc (bl n) [bl n] := sc_word (by rw [rkind_lo hs.1]; decide)
   have := ScA.then (scA_mark (c := 92) (by decide)) (a.appC (ScA.then ((scA_mark (c := 46) (by decide)).app scA_space) hkids) (by decide))
   simpa using this
  by_cases h5 : k = 5
  ·subst h5
   simp at hs ⊢
   match kids, hs.2 with
   | [f, a], _ =>
    simp only [shF, tkF, shG, tkG]
    have := (sc_brk (q := !(atomE f || f.k == 5)) (e1 f (by simp))).app (ScA.then scA_space (sc_brk (q := !atomE a) (e1 a (by simp)))) (fun r _ => hd0_cons (by decide))
    simpa using this
  by_cases h6 : k = 6
  ·subst h6
   simp at hs ⊢
   have a : Sc (bl n) [bl n] := sc_word (by rw [rkind_lo hs.1]; decide)
   have := (sc_kw (x := [108, 101, 116]) (by decide)).appC (ScA.then scA_space (a.appC (ScA.then (scA_space.app ((scA_mark (c := 61) (by decide)).app scA_space)) hlet) (by decide))) (by decide)
   simpa using this
  by_cases h7 : k = 7
  ·subst h7
   simp at hs ⊢
   have a : Sc (bl n) [bl n] := sc_word (by rw [rkind_lo hs.1]; decide)
   have := (sc_kw (x := [108, 101, 116]) (by decide)).appC (ScA.then scA_space ((sc_kw (x := [114, 101, 99]) (by decide)).appC (ScA.then scA_space (a.appC (ScA.then (scA_space.app ((scA_mark (c := 61) (by decide)).app scA_space)) hlet) (by decide))) (by decide))) (by decide)
   simpa using this
  by_cases h9 : k = 9
  ·subst h9
   simp at hs ⊢
   have := ScA.then (scA_mark (c := 40) (by decide)) (hkids.appC (ScA.then (scA_space.app ((scA_mark (c := 58) (by decide)).app scA_space)) ((sc_T t hs.2).appA (scA_mark (c := 41) (by decide)) (by decide)).sc) (by decide))
   simpa using this
  by_cases h11 : k = 11
  ·subst h11
   simp
   have := ScA.then (scA_mark (c := 123) (by decide)) (hkids.appA (scA_mark (c := 125) (by decide)) (by decide)).sc
   simpa using this
  ·simp [h1, h2, h3, h4, h5, h6, h7, h9, h10, h11]
   have := (sc_kw (x := [99, 97, 115, 101]) (by decide)).appC (ScA.then scA_space (hkids.appC (ScA.then scA_space ((sc_kw (x := [111, 102]) (by decide)).appC (ScA.then scA_space ((sc_A0 ha e2).appC (ScA.then scA_space (sc_kw (x := [101, 110, 100]) (by decide))) (by decide))) (by decide))) (by decide))) (by decide)
   simpa using this
end Go.Proofs.YtgcefodgjhlbeaaGreatDoor

namespace Go.Proofs.YtgcefodgjhlbeaaGreatDoor
open Go.RowKit Go.Maps Mth

theorem st_at {ts : List Tok} {i : Nat} {k : Int} {x : List UInt8} {rest : List (Int × List UInt8)} (h : (kt ts).drop i = (k, x) :: rest) :
  yK ts ⟨i, false, 0⟩ = k ∧ yT ts ⟨i, false, 0⟩ = ⟨x.toArray⟩ ∧ (∀ t, yM ts ⟨i, false, 0⟩ t = (k == 5 && x == bl t)) ∧ (∀ t, yW ts ⟨i, false, 0⟩ t = (k == 4 && x == bl t)) ∧ (kt ts).drop (i + 1) = rest ∧ i < ts.length := by
 obtain ⟨h1, h2, h3, h4⟩ := at_tok h
 have e1 : yK ts ⟨i, false, 0⟩ = k := h1
 have e2 : yT ts ⟨i, false, 0⟩ = ⟨x.toArray⟩ := h2
 refine ⟨e1, e2, fun t => ?_, fun t => ?_, h3, h4⟩
 ·unfold yM; rw [e1, e2, Lib.toList_data, Lib.toList_data]; rfl
 ·unfold yW; rw [e1, e2, Lib.toList_data, Lib.toList_data]; rfl
theorem st_end {ts : List Tok} {i : Nat} (h : (kt ts).drop i = []) : yK ts ⟨i, false, 0⟩ = 0 := at_end h
def NoSt (r : List (Int × List UInt8)) : Prop := ∀ k x q, r = (k, x) :: q → stB k ⟨x.toArray⟩ = false
theorem noSt_nil : NoSt [] := fun k x q e => by cases e
theorem noSt_word {x : List UInt8} {q : List (Int × List UInt8)} : NoSt ((4, x) :: q) := fun k y r e => by
 cases e; unfold stB; simp
theorem noSt_mark {x : List UInt8} {q : List (Int × List UInt8)} (h : x ≠ [63] ∧ x ≠ [40] ∧ x ≠ [123]) : NoSt ((5, x) :: q) := fun k y r e => by
 cases e
 unfold stB
 have g : ∀ z : List UInt8, x ≠ z → ((⟨x.toArray⟩ : ByteArray).toList == (⟨z.toArray⟩ : ByteArray).toList) = false := fun z hz => by
  rw [beq_eq_false_iff_ne, Lib.toList_data, Lib.toList_data]
  simpa using hz
 have g1 := g [63] h.1
 have g2 := g [40] h.2.1
 have g3 := g [123] h.2.2
 simp only [List.toArray] at g1 g2 g3
 rw [show (⟨#[63]⟩ : ByteArray) = ⟨[63].toArray⟩ from rfl, show (⟨#[40]⟩ : ByteArray) = ⟨[40].toArray⟩ from rfl, show (⟨#[123]⟩ : ByteArray) = ⟨[123].toArray⟩ from rfl, g [63] h.1, g [40] h.2.1, g [123] h.2.2]
 rfl
theorem noSt_at {ts : List Tok} {i : Nat} {r : List (Int × List UInt8)} (h : (kt ts).drop i = r) (hn : NoSt r) : stB (yK ts ⟨i, false, 0⟩) (yT ts ⟨i, false, 0⟩) = false := by
 cases r with
 | nil => rw [st_end h]; unfold stB; simp
 | cons a q =>
  obtain ⟨k, x⟩ := a
  obtain ⟨h1, h2, -⟩ := st_at h
  rw [h1, h2]
  exact hn k x q rfl
theorem noM_at {ts : List Tok} {i : Nat} {r : List (Int × List UInt8)} {t : ByteArray} (h : (kt ts).drop i = r) (hn : ∀ x q, r = (5, x) :: q → x ≠ bl t) : yM ts ⟨i, false, 0⟩ t = false := by
 cases r with
 | nil => unfold yM; rw [st_end h]; rfl
 | cons a q =>
  obtain ⟨k, x⟩ := a
  rw [(st_at h).2.2.1]
  cases hk : k == 5 with
  | false => rfl
  | true =>
   obtain rfl : k = 5 := by simpa using hk
   have : (x == bl t) = false := by rw [beq_eq_false_iff_ne]; exact hn x q rfl
   rw [this]; rfl
theorem atom_st {f : Nat} {ts : List Tok} {i j : Nat} {T : Ex} (h : yAtom f ts ⟨i, false, 0⟩ = some (T, ⟨j, false, 0⟩)) : stB (yK ts ⟨i, false, 0⟩) (yT ts ⟨i, false, 0⟩) = true := by
 cases f with
 | zero => simp [yAtom] at h
 | succ f =>
  cases hq : stB (yK ts ⟨i, false, 0⟩) (yT ts ⟨i, false, 0⟩) with
  | true => rfl
  | false =>
   unfold yAtom at h
   rw [hq] at h
   simp [xFail] at h
theorem stB_not {k : Int} {x : ByteArray} (h : stB k x = true) : (k == 5 && x.toList == (⟨#[92]⟩ : ByteArray).toList) = false ∧ (k == 4) = false := by
 cases h5 : k == 5 with
 | false =>
  refine ⟨rfl, ?_⟩
  cases h4 : k == 4 with
  | false => rfl
  | true =>
   obtain rfl : k = 4 := by simpa using h4
   unfold stB at h; simp at h
 | true =>
  obtain rfl : k = 5 := by simpa using h5
  refine ⟨?_, rfl⟩
  cases hx : x.toList == (⟨#[92]⟩ : ByteArray).toList with
  | false => rfl
  | true =>
   have e := eq_of_beq hx
   unfold stB at h
   rw [e] at h
   revert h
   decide +kernel
theorem expr_app {f : Nat} {ts : List Tok} {i : Nat} (h : stB (yK ts ⟨i, false, 0⟩) (yT ts ⟨i, false, 0⟩) = true) : yExpr (f + 1) ts ⟨i, false, 0⟩ = yApp f ts ⟨i, false, 0⟩ := by
 obtain ⟨h1, h2⟩ := stB_not h
 have e1 : yM ts ⟨i, false, 0⟩ ⟨#[92]⟩ = false := h1
 have e2 : ∀ t, yW ts ⟨i, false, 0⟩ t = false := fun t => by unfold yW; rw [h2]; rfl
 conv => lhs; unfold yExpr
 rw [e1, e2, e2]
 rfl
def EOk (T : Ex) : Prop := ∀ f ts i rest, (kt ts).drop i = wk (tkE T) ++ rest → NoSt rest → 6 * (ts.length - i) + 6 ≤ f → ∃ T', yExpr f ts ⟨i, false, 0⟩ = some (T', ⟨i + (tkE T).length, false, 0⟩) ∧ strip T' = T
def AOk (T : Ex) : Prop := ∀ f ts i rest, (kt ts).drop i = wk (brkW (!atomE T) (tkE T)) ++ rest → 6 * (ts.length - i) + 3 ≤ f → ∃ T', yAtom f ts ⟨i, false, 0⟩ = some (T', ⟨i + (brkW (!atomE T) (tkE T)).length, false, 0⟩) ∧ strip T' = T
def HOk (T : Ex) : Prop := ∀ f ts i rest, (kt ts).drop i = wk (brkW (!(atomE T || T.k == 5)) (tkE T)) ++ rest → 6 * (ts.length - i) + 5 ≤ f →
 ∃ g T', yApp f ts ⟨i, false, 0⟩ = yApps g ts ⟨i + (brkW (!(atomE T || T.k == 5)) (tkE T)).length, false, 0⟩ T' ∧ strip T' = T ∧ 6 * (ts.length - (i + (brkW (!(atomE T || T.k == 5)) (tkE T)).length)) + 4 ≤ g ∧ stB (yK ts ⟨i, false, 0⟩) (yT ts ⟨i, false, 0⟩) = true
theorem nil_eq {n : ByteArray} (h : (n.toList == []) = true) : n = ⟨#[]⟩ := by
 rw [bl_eq]
 have := eq_of_beq h
 rw [Lib.toList_data] at this
 exact this
theorem zTyB_eq {t : Ty} (h : zTyB t = true) : t = zTy := by
 obtain ⟨k, n, i, hm, ts⟩ := t
 simp only [zTyB, Ty.k, Ty.n, Ty.i, Ty.h, Ty.ts, Bool.and_eq_true] at h
 obtain ⟨⟨⟨⟨h1, h2⟩, h3⟩, h4⟩, h5⟩ := h
 obtain rfl := nil_eq h2
 obtain rfl : ts = [] := List.eq_nil_of_length_eq_zero (by simpa using h5)
 simp at h1 h3 h4
 subst h1; subst h3; subst h4
 rfl
theorem vars_ok : ∀ (vs : List ByteArray) (f : Nat) (ts : List Tok) (i : Nat) (acc : List ByteArray) (rest : List (Int × List UInt8)), varsOk vs = true → (kt ts).drop i = wk (vs.map bl) ++ rest → (∀ k x q, rest = (k, x) :: q → k ≠ 1) → ts.length - i + 1 ≤ f →
  yVars f ts ⟨i, false, 0⟩ acc = some (acc ++ vs, ⟨i + vs.length, false, 0⟩) := by
 intro vs
 induction vs with
 | nil =>
  intro f ts i acc rest _ h hn hf
  obtain ⟨f, rfl⟩ : ∃ g, f = g + 1 := ⟨f - 1, by omega⟩
  have e : (yK ts ⟨i, false, 0⟩ == 1) = false := by
   have h' : (kt ts).drop i = rest := by simpa [wk] using h
   cases rest with
   | nil => rw [st_end h']; rfl
   | cons a q =>
    obtain ⟨k, x⟩ := a
    rw [(st_at h').1]
    simpa using hn k x q rfl
  unfold yVars
  rw [e]
  simp
 | cons v vs ih =>
  intro f ts i acc rest hv h hn hf
  simp only [varsOk, List.all_cons, Bool.and_eq_true] at hv
  obtain ⟨f, rfl⟩ : ∃ g, f = g + 1 := ⟨f - 1, by omega⟩
  have h0 : (kt ts).drop i = (rkind (bl v), bl v) :: (wk (vs.map bl) ++ rest) := by rw [h]; rfl
  rw [rkind_lo hv.1] at h0
  obtain ⟨k1, t1, -, -, d1, hlt⟩ := st_at h0
  unfold yVars
  rw [k1, t1, ← mk_bl v]
  have := ih f ts (i + 1) (acc ++ [v]) rest (by simpa [varsOk] using hv.2) d1 hn (by omega)
  show (if (1 : Int) == 1 then yVars f ts ⟨i + 1, false, 0⟩ (acc ++ [v]) else _) = _
  rw [if_pos (by decide), this]
  simp only [List.append_assoc, List.singleton_append, List.length_cons]
  congr 2
  congr 1
  omega
def SameA (A' A : AH × Ex) : Prop := A'.1.con = A.1.con ∧ A'.1.vars = A.1.vars ∧ strip A'.2 = A.2
theorem wk_mk (x : List UInt8) (l : List (List UInt8)) (r : List (Int × List UInt8)) : wk (x :: l) ++ r = (rkind x, x) :: (wk l ++ r) := rfl
theorem arm_ok {h : AH} {e : Ex} (h1 : isUp (bl h.con) = true) (h2 : varsOk h.vars = true) (he : EOk e) {f : Nat} {ts : List Tok} {i : Nat} {rest : List (Int × List UInt8)}
  (hd : (kt ts).drop i = wk (armTk h ++ tkE e) ++ rest) (hn : NoSt rest) (hf : 6 * (ts.length - i) + 7 ≤ f) :
  ∃ A', yArm f ts ⟨i, false, 0⟩ = some (A', ⟨i + (armTk h ++ tkE e).length, false, 0⟩) ∧ SameA A' (h, e) := by
 obtain ⟨f, rfl⟩ : ∃ g, f = g + 1 := ⟨f - 1, by omega⟩
 have d0 : (kt ts).drop i = (2, bl h.con) :: (wk (h.vars.map bl) ++ ((5, [46]) :: (wk (tkE e) ++ rest))) := by
  rw [hd]; simp [armTk, wk, rkind_up h1]; decide
 obtain ⟨k1, t1, -, -, d1, hlt⟩ := st_at d0
 have hv := vars_ok h.vars f ts (i + 1) [] _ h2 d1 (fun k x q e => by cases e; decide) (by omega)
 have d2 := drop_add d1
 rw [wk_len, List.length_map] at d2
 obtain ⟨k2, -, m2, -, d3, hlt2⟩ := st_at d2
 obtain ⟨e', hr, hs⟩ := he f ts _ rest d3 hn (by omega)
 unfold yArm
 rw [k1, show yExp ts ⟨i, false, 0⟩ ((2 : Int) == 2) = ⟨i + 1, false, 0⟩ from rfl, hv]
 dsimp only
 rw [m2, show ((5 : Int) == 5 && ([46] : List UInt8) == bl ⟨#[46]⟩) = true from by decide, show yExp ts ⟨i + 1 + h.vars.length, false, 0⟩ true = ⟨i + 1 + h.vars.length + 1, false, 0⟩ from rfl, hr]
 refine ⟨(⟨yP ts ⟨i, false, 0⟩, yT ts ⟨i, false, 0⟩, [] ++ h.vars⟩, e'), ?_, ?_⟩
 ·have e1 : i + 1 + h.vars.length + 1 + (tkE e).length = i + (armTk h ++ tkE e).length := by
   simp only [armTk, List.length_append, List.length_cons, List.length_map, List.length_nil]
   omega
  rw [e1]
 ·exact ⟨by rw [t1]; exact (mk_bl _).symm, rfl, hs⟩
theorem arms_ok : ∀ (l : List (AH × Ex)), srcA l = true → (∀ A ∈ l, EOk A.2) → ∀ (f : Nat) (ts : List Tok) (i : Nat) (acc : List (AH × Ex)) (rest : List (Int × List UInt8)), (kt ts).drop i = wk (tkAr l) ++ rest → NoSt rest → (∀ x q, rest = (5, x) :: q → x ≠ [124]) → 6 * (ts.length - i) + 2 ≤ f →
  ∃ l', yArms f ts ⟨i, false, 0⟩ acc = some (acc ++ l', ⟨i + (tkAr l).length, false, 0⟩) ∧ stripA l' = l := by
 intro l
 induction l with
 | nil =>
  intro _ _ f ts i acc rest h hn hb hf
  obtain ⟨f, rfl⟩ : ∃ g, f = g + 1 := ⟨f - 1, by omega⟩
  unfold yArms
  rw [noM_at (by simpa [tkAr, wk] using h) hb]
  exact ⟨[], by simp [tkAr], rfl⟩
 | cons a l ih =>
  obtain ⟨h, e⟩ := a
  intro hs hE f ts i acc rest hd hn hb hf
  obtain ⟨hp, h1, h2, -⟩ := srcA_mem hs (A := (h, e)) (by simp)
  have hs' : srcA l = true := by simp only [srcA, Bool.and_eq_true] at hs; exact hs.2
  obtain ⟨f, rfl⟩ : ∃ g, f = g + 1 := ⟨f - 1, by omega⟩
  simp only [tkAr] at hd ⊢
  have d0 : (kt ts).drop i = (5, [124]) :: (wk (armTk h ++ tkE e) ++ (wk (tkAr l) ++ rest)) := by
   rw [hd]; simp [wk]; decide
  obtain ⟨-, -, m1, -, d1, hlt⟩ := st_at d0
  have hn2 : NoSt (wk (tkAr l) ++ rest) := by
   cases l with
   | nil => simpa [tkAr, wk] using hn
   | cons b l =>
    obtain ⟨bh, be⟩ := b
    have : wk (tkAr ((bh, be) :: l)) ++ rest = (5, [124]) :: (wk (armTk bh ++ (tkE be ++ tkAr l)) ++ rest) := by
     simp [tkAr, wk]; decide
    rw [this]
    exact noSt_mark (by decide)
  obtain ⟨A', hA, hsame⟩ := arm_ok h1 h2 (hE (h, e) (by simp)) d1 hn2 (by omega : 6 * (ts.length - (i + 1)) + 7 ≤ f)
  have d2 := drop_add d1
  rw [wk_len] at d2
  obtain ⟨l', hl, hst⟩ := ih hs' (fun A hA => hE A (by simp [hA])) f ts _ (acc ++ [A']) rest d2 hn hb (by omega)
  unfold yArms
  rw [m1, if_pos (by decide), show xStep ⟨i, false, 0⟩ = (⟨i + 1, false, 0⟩ : St) from rfl, hA]
  dsimp only
  rw [hl]
  refine ⟨A' :: l', ?_, ?_⟩
  ·simp only [List.append_assoc, List.singleton_append, List.length_cons, List.length_append]
   congr 3
   omega
  ·obtain ⟨⟨ap, ac, av⟩, ae⟩ := A'
   obtain ⟨g1, g2, g3⟩ := hsame
   obtain ⟨bp, bc, bv⟩ := h
   dsimp only at g1 g2 g3 hp
   simp only [stripA, hst, g1, g2, g3, hp]
theorem enc_ok {T : Ex} (hT : EOk T) {f : Nat} {ts : List Tok} {i : Nat} {rest : List (Int × List UInt8)} (h : (kt ts).drop i = wk ([40] :: (tkE T ++ [[41]])) ++ rest) (hf : 6 * (ts.length - i) + 3 ≤ f) :
  ∃ T', yAtom f ts ⟨i, false, 0⟩ = some (T', ⟨i + ([40] :: (tkE T ++ [[41]])).length, false, 0⟩) ∧ strip T' = T := by
 obtain ⟨f, rfl⟩ : ∃ g, f = g + 2 := ⟨f - 2, by omega⟩
 have d0 : (kt ts).drop i = (5, [40]) :: (wk (tkE T) ++ ((5, [41]) :: rest)) := by rw [h]; simp [wk]; decide
 obtain ⟨k1, t1, -, -, d1, hlt⟩ := st_at d0
 obtain ⟨T', hr, hs⟩ := hT f ts (i + 1) _ d1 (noSt_mark (by decide)) (by omega)
 have d2 := drop_add d1
 rw [wk_len] at d2
 obtain ⟨-, -, m2, -, -, -⟩ := st_at d2
 refine ⟨T', ?_, hs⟩
 unfold yAtom
 rw [k1, t1, show stB 5 ⟨[40].toArray⟩ = true from by decide +kernel, show ((⟨[40].toArray⟩ : ByteArray).toList == (⟨#[40]⟩ : ByteArray).toList) = true from by decide +kernel]
 simp only [if_true, show ((5 : Int) == 1) = false from rfl, show ((5 : Int) == 2) = false from rfl, show ((5 : Int) == 3) = false from rfl, Bool.false_eq_true, if_false]
 show yEnc (f + 1) ts ⟨i + 1, false, 0⟩ _ = _
 unfold yEnc
 rw [hr]
 dsimp only
 rw [m2, m2, show ((5 : Int) == 5 && ([41] : List UInt8) == bl ⟨#[58]⟩) = false from by decide, show ((5 : Int) == 5 && ([41] : List UInt8) == bl ⟨#[41]⟩) = true from by decide]
 show some (T', (⟨i + 1 + (tkE T).length + 1, false, 0⟩ : St)) = _
 simp only [List.length_cons, List.length_append, List.length_nil]
 congr 3
 omega
theorem head_of_atom {T : Ex} (hA : AOk T) (hh : (!(atomE T || T.k == 5)) = (!atomE T)) : HOk T := by
 intro f ts i rest h hf
 rw [hh] at h ⊢
 obtain ⟨f, rfl⟩ : ∃ g, f = g + 1 := ⟨f - 1, by omega⟩
 obtain ⟨T', hr, hs⟩ := hA f ts i rest h (by omega)
 refine ⟨f, T', ?_, hs, by omega, atom_st hr⟩
 conv => lhs; unfold yApp
 rw [hr]
theorem expr_of_head {T : Ex} (hH : HOk T) (hb : (atomE T || T.k == 5) = true) : EOk T := by
 intro f ts i rest h hn hf
 obtain ⟨f, rfl⟩ : ∃ g, f = g + 1 := ⟨f - 1, by omega⟩
 have e : brkW (!(atomE T || T.k == 5)) (tkE T) = tkE T := by rw [hb]; rfl
 obtain ⟨g, T', h1, h2, h3, h4⟩ := hH f ts i rest (by rw [e]; exact h) (by omega)
 rw [e] at h1 h3
 refine ⟨T', ?_, h2⟩
 rw [expr_app h4, h1]
 obtain ⟨g, rfl⟩ : ∃ k, g = k + 1 := ⟨g - 1, by omega⟩
 have hd := drop_add h
 rw [wk_len] at hd
 unfold yApps
 rw [noSt_at hd hn]
 rfl
end Go.Proofs.YtgcefodgjhlbeaaGreatDoor

namespace Go.Proofs.YtgcefodgjhlbeaaGreatDoor
open Go.RowKit Go.Maps Mth

theorem all_of_atom {T : Ex} (hA : AOk T) (h : atomE T = true) : AOk T ∧ HOk T ∧ EOk T := by
 have hH := head_of_atom hA (by rw [h]; rfl)
 exact ⟨hA, hH, expr_of_head hH (by rw [h]; rfl)⟩
theorem all_of_expr {T : Ex} (hE : EOk T) (h : atomE T = false) (h5 : (T.k == 5) = false) : AOk T ∧ HOk T ∧ EOk T := by
 have hA : AOk T := by
  intro f ts i rest hd hf
  rw [h] at hd ⊢
  exact enc_ok hE hd hf
 exact ⟨hA, head_of_atom hA (by rw [h, h5]; rfl), hE⟩
theorem leaf_ok {T : Ex} {x : List UInt8} (hA : atomE T = true) (htk : tkE T = [x]) (h : ∀ f ts i rest, (kt ts).drop i = (rkind x, x) :: rest → ∃ T', yAtom (f + 1) ts ⟨i, false, 0⟩ = some (T', ⟨i + 1, false, 0⟩) ∧ strip T' = T) : AOk T ∧ HOk T ∧ EOk T := by
 refine all_of_atom (fun f ts i rest hd hf => ?_) hA
 rw [hA, htk] at *
 obtain ⟨f, rfl⟩ : ∃ g, f = g + 1 := ⟨f - 1, by omega⟩
 exact h f ts i rest hd
theorem typ_ok {t : Ty} (ht : src t = true) {ts : List Tok} {i : Nat} {rest : List (Int × List UInt8)} (h : (kt ts).drop i = wk (tkT t) ++ ((5, [41]) :: rest)) : yTyR ts ⟨i, false, 0⟩ = (t, ⟨i + (tkT t).length, false, 0⟩) := by
 have hle := at_len h
 have hi : i ≤ ts.length := by
  simp only [List.length_append, List.length_cons] at hle; omega
 have hq := (ty_ok t ht).2.2 (3 * ts.length + 3) ts i _ h (noArg_mark (by decide)) (noArr_mark (by decide)) (by omega)
 have hsa : startAt ts (i : Int) = i := by unfold startAt; split <;> omega
 have hrd : rdT ts (i : Int) = ⟨t, (i + (tkT t).length : Nat), 0, 0⟩ := by unfold rdT; rw [hsa, hq]; rfl
 unfold yTyR
 dsimp only
 rw [hrd]
 simp
 omega
theorem atom_open {f : Nat} {ts : List Tok} {i : Nat} {rest : List (Int × List UInt8)} (h : (kt ts).drop i = (5, [40]) :: rest) : yAtom (f + 1) ts ⟨i, false, 0⟩ = yEnc f ts ⟨i + 1, false, 0⟩ (yP ts ⟨i, false, 0⟩) := by
 obtain ⟨k1, t1, -⟩ := st_at h
 conv => lhs; unfold yAtom
 rw [k1, t1, show stB 5 ⟨[40].toArray⟩ = true from by decide +kernel, show ((⟨[40].toArray⟩ : ByteArray).toList == (⟨#[40]⟩ : ByteArray).toList) = true from by decide +kernel]
 simp only [if_true, show ((5 : Int) == 1) = false from rfl, show ((5 : Int) == 2) = false from rfl, show ((5 : Int) == 3) = false from rfl, Bool.false_eq_true, if_false]
 rfl
theorem atom_held {f : Nat} {ts : List Tok} {i : Nat} {rest : List (Int × List UInt8)} (h : (kt ts).drop i = (5, [123]) :: rest) : yAtom (f + 1) ts ⟨i, false, 0⟩ = yHeld f ts ⟨i + 1, false, 0⟩ (yP ts ⟨i, false, 0⟩) := by
 obtain ⟨k1, t1, -⟩ := st_at h
 conv => lhs; unfold yAtom
 rw [k1, t1, show stB 5 ⟨[123].toArray⟩ = true from by decide +kernel, show ((⟨[123].toArray⟩ : ByteArray).toList == (⟨#[40]⟩ : ByteArray).toList) = false from by decide +kernel, show ((⟨[123].toArray⟩ : ByteArray).toList == (⟨#[123]⟩ : ByteArray).toList) = true from by decide +kernel]
 simp only [if_true, show ((5 : Int) == 1) = false from rfl, show ((5 : Int) == 2) = false from rfl, show ((5 : Int) == 3) = false from rfl, Bool.false_eq_true, if_false]
 rfl
theorem atom_hole {f : Nat} {ts : List Tok} {i : Nat} {rest : List (Int × List UInt8)} (h : (kt ts).drop i = (5, [63]) :: rest) : yAtom (f + 1) ts ⟨i, false, 0⟩ = some (.mk 10 (yP ts ⟨i, false, 0⟩) ⟨#[]⟩ 0 zTy [] [], ⟨i + 1, false, 0⟩) := by
 obtain ⟨k1, t1, -⟩ := st_at h
 conv => lhs; unfold yAtom
 rw [k1, t1, show stB 5 ⟨[63].toArray⟩ = true from by decide +kernel, show ((⟨[63].toArray⟩ : ByteArray).toList == (⟨#[40]⟩ : ByteArray).toList) = false from by decide +kernel, show ((⟨[63].toArray⟩ : ByteArray).toList == (⟨#[123]⟩ : ByteArray).toList) = false from by decide +kernel]
 simp only [if_true, show ((5 : Int) == 1) = false from rfl, show ((5 : Int) == 2) = false from rfl, show ((5 : Int) == 3) = false from rfl, Bool.false_eq_true, if_false]
 rfl
theorem stB_low (x : ByteArray) : stB 1 x = true ∧ stB 2 x = true ∧ stB 3 x = true := ⟨rfl, rfl, rfl⟩
theorem loc2_ok {k p : Int} {n : ByteArray} (hn : isLo (bl n) = true) {a b : Ex} (ha : EOk a) (hb : EOk b) {f : Nat} {ts : List Tok} {i : Nat} {rest : List (Int × List UInt8)} (h : (kt ts).drop i = wk (bl n :: [61] :: (tkE a ++ [105, 110] :: tkE b)) ++ rest) (hst : NoSt rest) (hf : 6 * (ts.length - i) + 7 ≤ f) :
  ∃ a' b', yLoc2 f ts k p ⟨i, false, 0⟩ = some (.mk k p n 0 zTy [a', b'] [], ⟨i + (bl n :: [61] :: (tkE a ++ [105, 110] :: tkE b)).length, false, 0⟩) ∧ strip a' = a ∧ strip b' = b := by
 obtain ⟨f, rfl⟩ : ∃ g, f = g + 1 := ⟨f - 1, by omega⟩
 have d0 : (kt ts).drop i = (1, bl n) :: ((5, [61]) :: (wk (tkE a) ++ ((4, [105, 110]) :: (wk (tkE b) ++ rest)))) := by
  rw [h]; simp [wk, rkind_lo hn]; decide
 obtain ⟨k1, t1, -, -, d1, hlt1⟩ := st_at d0
 obtain ⟨-, -, m2, -, d2, hlt2⟩ := st_at d1
 obtain ⟨a', hra, hsa⟩ := ha f ts (i + 1 + 1) _ d2 noSt_word (by omega)
 have d3 := drop_add d2
 rw [wk_len] at d3
 obtain ⟨-, -, -, w4, d4, hlt4⟩ := st_at d3
 obtain ⟨b', hrb, hsb⟩ := hb f ts _ _ d4 hst (by omega)
 refine ⟨a', b', ?_, hsa, hsb⟩
 unfold yLoc2
 rw [k1, t1, ← mk_bl n, show yExp ts ⟨i, false, 0⟩ ((1 : Int) == 1) = ⟨i + 1, false, 0⟩ from rfl, m2, show ((5 : Int) == 5 && ([61] : List UInt8) == bl ⟨#[61]⟩) = true from by decide, show yExp ts ⟨i + 1, false, 0⟩ true = ⟨i + 1 + 1, false, 0⟩ from rfl, hra]
 dsimp only
 rw [w4, show ((4 : Int) == 4 && ([105, 110] : List UInt8) == bl ⟨#[105, 110]⟩) = true from by decide, show yExp ts ⟨i + 1 + 1 + (tkE a).length, false, 0⟩ true = ⟨i + 1 + 1 + (tkE a).length + 1, false, 0⟩ from rfl, hrb]
 simp only [List.length_cons, List.length_append]
 congr 3
 omega
theorem fun_ok {n : ByteArray} (hn : isLo (bl n) = true) {a : Ex} (ha : EOk a) {f : Nat} {ts : List Tok} {i : Nat} {rest : List (Int × List UInt8)} (h : (kt ts).drop i = wk ([92] :: bl n :: [46] :: tkE a) ++ rest) (hst : NoSt rest) (hf : 6 * (ts.length - i) + 6 ≤ f) :
  ∃ a', yExpr f ts ⟨i, false, 0⟩ = some (.mk 4 (tkP ts i) n 0 zTy [a'] [], ⟨i + ([92] :: bl n :: [46] :: tkE a).length, false, 0⟩) ∧ strip a' = a := by
 obtain ⟨f, rfl⟩ : ∃ g, f = g + 2 := ⟨f - 2, by omega⟩
 have d0 : (kt ts).drop i = (5, [92]) :: ((1, bl n) :: ((5, [46]) :: (wk (tkE a) ++ rest))) := by
  rw [h]; simp [wk, rkind_lo hn]; decide
 obtain ⟨-, -, m0, -, d1, hlt0⟩ := st_at d0
 obtain ⟨k1, t1, -, -, d2, hlt1⟩ := st_at d1
 obtain ⟨-, -, m2, -, d3, hlt2⟩ := st_at d2
 obtain ⟨a', hra, hsa⟩ := ha f ts (i + 1 + 1 + 1) _ d3 hst (by omega)
 refine ⟨a', ?_, hsa⟩
 unfold yExpr
 rw [m0, if_pos (by decide)]
 unfold yFun
 rw [show xStep ⟨i, false, 0⟩ = (⟨i + 1, false, 0⟩ : St) from rfl, k1, t1, ← mk_bl n, show yExp ts ⟨i + 1, false, 0⟩ ((1 : Int) == 1) = ⟨i + 1 + 1, false, 0⟩ from rfl, m2, show ((5 : Int) == 5 && ([46] : List UInt8) == bl ⟨#[46]⟩) = true from by decide, show yExp ts ⟨i + 1 + 1, false, 0⟩ true = ⟨i + 1 + 1 + 1, false, 0⟩ from rfl, hra]
 simp only [List.length_cons]
 congr 3
 omega
theorem let_ok {q : Bool} {n : ByteArray} (hn : isLo (bl n) = true) {a b : Ex} (ha : EOk a) (hb : EOk b) {f : Nat} {ts : List Tok} {i : Nat} {rest : List (Int × List UInt8)} {tk : List (List UInt8)} (htk : tk = if q then [108, 101, 116] :: [114, 101, 99] :: (bl n :: [61] :: (tkE a ++ [105, 110] :: tkE b)) else [108, 101, 116] :: (bl n :: [61] :: (tkE a ++ [105, 110] :: tkE b)))
  (h : (kt ts).drop i = wk tk ++ rest) (hst : NoSt rest) (hf : 6 * (ts.length - i) + 6 ≤ f) :
  ∃ a' b', yExpr f ts ⟨i, false, 0⟩ = some (.mk (if q then 7 else 6) (tkP ts i) n 0 zTy [a', b'] [], ⟨i + tk.length, false, 0⟩) ∧ strip a' = a ∧ strip b' = b := by
 subst htk
 obtain ⟨f, rfl⟩ : ∃ g, f = g + 2 := ⟨f - 2, by omega⟩
 cases q with
 | false =>
  simp only [Bool.false_eq_true, if_false] at h ⊢
  have d0 : (kt ts).drop i = (4, [108, 101, 116]) :: (wk (bl n :: [61] :: (tkE a ++ [105, 110] :: tkE b)) ++ rest) := by rw [h]; rfl
  obtain ⟨-, -, m0, w0, d1, hlt0⟩ := st_at d0
  have d1' : (kt ts).drop (i + 1) = (1, bl n) :: (wk ([61] :: (tkE a ++ [105, 110] :: tkE b)) ++ rest) := by rw [d1, wk_mk, rkind_lo hn]
  obtain ⟨-, -, -, w1, -, hlt1⟩ := st_at d1'
  obtain ⟨a', b', hr, h1, h2⟩ := loc2_ok (k := 6) (p := tkP ts i) hn ha hb d1 hst (by omega : 6 * (ts.length - (i + 1)) + 7 ≤ f)
  refine ⟨a', b', ?_, h1, h2⟩
  unfold yExpr
  rw [m0, if_neg (by simp), w0, if_pos (by decide)]
  unfold yLoc
  show yLoc2 f ts (if yW ts ⟨i + 1, false, 0⟩ ⟨#[114, 101, 99]⟩ then 7 else 6) (tkP ts i) (if yW ts ⟨i + 1, false, 0⟩ ⟨#[114, 101, 99]⟩ then xStep (xStep ⟨i, false, 0⟩) else ⟨i + 1, false, 0⟩) = _
  rw [w1, if_neg (by simp), if_neg (by simp), hr]
  simp only [List.length_cons]
  congr 3
  omega
 | true =>
  simp only [if_true] at h ⊢
  have d0 : (kt ts).drop i = (4, [108, 101, 116]) :: ((4, [114, 101, 99]) :: (wk (bl n :: [61] :: (tkE a ++ [105, 110] :: tkE b)) ++ rest)) := by rw [h]; rfl
  obtain ⟨-, -, m0, w0, d1, hlt0⟩ := st_at d0
  obtain ⟨-, -, -, w1, d2, hlt1⟩ := st_at d1
  obtain ⟨a', b', hr, h1, h2⟩ := loc2_ok (k := 7) (p := tkP ts i) hn ha hb d2 hst (by omega : 6 * (ts.length - (i + 1 + 1)) + 7 ≤ f)
  refine ⟨a', b', ?_, h1, h2⟩
  unfold yExpr
  rw [m0, if_neg (by simp), w0, if_pos (by decide)]
  unfold yLoc
  show yLoc2 f ts (if yW ts ⟨i + 1, false, 0⟩ ⟨#[114, 101, 99]⟩ then 7 else 6) (tkP ts i) (if yW ts ⟨i + 1, false, 0⟩ ⟨#[114, 101, 99]⟩ then ⟨i + 1 + 1, false, 0⟩ else xStep ⟨i, false, 0⟩) = _
  rw [w1, if_pos (by decide), if_pos (by decide), hr]
  simp only [List.length_cons]
  congr 3
  omega
theorem case_ok {a : Ex} {arms : List (AH × Ex)} (ha : EOk a) (hs : srcA arms = true) (hne : arms ≠ []) (hE : ∀ A ∈ arms, EOk A.2) {f : Nat} {ts : List Tok} {i : Nat} {rest : List (Int × List UInt8)} (h : (kt ts).drop i = wk ([99, 97, 115, 101] :: (tkE a ++ [111, 102] :: (tkA0 arms ++ [[101, 110, 100]]))) ++ rest) (hf : 6 * (ts.length - i) + 6 ≤ f) :
  ∃ a' arms', yExpr f ts ⟨i, false, 0⟩ = some (.mk 8 (tkP ts i) ⟨#[]⟩ 0 zTy [a'] arms', ⟨i + ([99, 97, 115, 101] :: (tkE a ++ [111, 102] :: (tkA0 arms ++ [[101, 110, 100]]))).length, false, 0⟩) ∧ strip a' = a ∧ stripA arms' = arms := by
 obtain ⟨f, rfl⟩ : ∃ g, f = g + 2 := ⟨f - 2, by omega⟩
 cases arms with
 | nil => exact absurd rfl hne
 | cons A l =>
  obtain ⟨hd, e⟩ := A
  obtain ⟨hp, g1, g2, -⟩ := srcA_mem hs (A := (hd, e)) (by simp)
  have hs' : srcA l = true := by simp only [srcA, Bool.and_eq_true] at hs; exact hs.2
  have d0 : (kt ts).drop i = (4, [99, 97, 115, 101]) :: (wk (tkE a) ++ ((4, [111, 102]) :: (wk (armTk hd ++ tkE e) ++ (wk (tkAr l) ++ ((4, [101, 110, 100]) :: rest))))) := by
   rw [h]; simp [wk, tkA0]; decide
  obtain ⟨-, -, m0, w0, d1, hlt0⟩ := st_at d0
  obtain ⟨a', hra, hsa⟩ := ha f ts (i + 1) _ d1 noSt_word (by omega)
  have d2 := drop_add d1
  rw [wk_len] at d2
  obtain ⟨-, -, -, w2, d3, hlt2⟩ := st_at d2
  have hn2 : NoSt (wk (tkAr l) ++ ((4, [101, 110, 100]) :: rest)) := by
   cases l with
   | nil => exact noSt_word
   | cons b l =>
    obtain ⟨bh, be⟩ := b
    have : wk (tkAr ((bh, be) :: l)) ++ ((4, [101, 110, 100]) :: rest) = (5, [124]) :: (wk (armTk bh ++ (tkE be ++ tkAr l)) ++ ((4, [101, 110, 100]) :: rest)) := by
     simp [tkAr, wk]; decide
    rw [this]
    exact noSt_mark (by decide)
  obtain ⟨A', hA, q1, q2, q3⟩ := arm_ok g1 g2 (hE (hd, e) (by simp)) d3 hn2 (by omega : 6 * (ts.length - (i + 1 + (tkE a).length + 1)) + 7 ≤ f)
  have d4 := drop_add d3
  rw [wk_len] at d4
  obtain ⟨l', hl, hst⟩ := arms_ok l hs' (fun A hA => hE A (by simp [hA])) f ts _ [A'] _ d4 noSt_word (fun x q e => by cases e) (by omega)
  have d5 := drop_add d4
  rw [wk_len] at d5
  obtain ⟨-, -, -, w5, -, hlt5⟩ := st_at d5
  refine ⟨a', A' :: l', ?_, hsa, ?_⟩
  ·unfold yExpr
   rw [m0, if_neg (by simp), w0, if_neg (by decide), w0, if_pos (by decide)]
   unfold yCas
   rw [show xStep ⟨i, false, 0⟩ = (⟨i + 1, false, 0⟩ : St) from rfl, hra]
   dsimp only
   rw [w2, show ((4 : Int) == 4 && ([111, 102] : List UInt8) == bl ⟨#[111, 102]⟩) = true from by decide, show yExp ts ⟨i + 1 + (tkE a).length, false, 0⟩ true = ⟨i + 1 + (tkE a).length + 1, false, 0⟩ from rfl, hA]
   dsimp only
   rw [hl]
   dsimp only
   rw [w5, show ((4 : Int) == 4 && ([101, 110, 100] : List UInt8) == bl ⟨#[101, 110, 100]⟩) = true from by decide]
   show some (Ex.mk 8 (tkP ts i) ⟨#[]⟩ 0 zTy [a'] ([A'] ++ l'), (⟨i + 1 + (tkE a).length + 1 + (armTk hd ++ tkE e).length + (tkAr l).length + 1, false, 0⟩ : St)) = _
   simp only [List.singleton_append, tkA0, List.length_cons, List.length_append, List.length_nil]
   congr 3
   omega
  ·obtain ⟨⟨ap, ac, av⟩, ae⟩ := A'
   obtain ⟨bp, bc, bv⟩ := hd
   dsimp only at q1 q2 q3 hp
   simp only [stripA, hst, q1, q2, q3, hp]
set_option maxHeartbeats 1600000 in
theorem ex_ok : ∀ T, srcE T = true → AOk T ∧ HOk T ∧ EOk T := by
 refine Ex.induct fun T ih1 ih2 hs => ?_
 cases T with
 | mk k p n m t kids arms =>
  simp only [srcE, Bool.and_eq_true, beq_iff_eq] at hs
  obtain ⟨⟨⟨⟨⟨⟨rfl, hzt⟩, hna⟩, hm⟩, hk⟩, ha⟩, hs⟩ := hs
  have e1 : ∀ U ∈ kids, AOk U ∧ HOk U ∧ EOk U := fun U hU => ih1 U hU (srcK_mem hk hU)
  have e2 : ∀ A ∈ arms, EOk A.2 := fun A hA => (ih2 A hA (srcA_mem ha hA).2.2.2).2.2
  have hz : k ≠ 9 → t = zTy := fun h9 => zTyB_eq (by simpa [h9] using hzt)
  have har : k ≠ 8 → arms = [] := fun h8 => List.eq_nil_of_length_eq_zero (by simpa [h8] using hna)
  have hm0 : k ≠ 3 → m = 0 := fun h3 => by simpa [h3] using hm
  by_cases h1 : k = 1
  ·subst h1
   obtain rfl := hz (by decide); obtain rfl := har (by decide); obtain rfl := hm0 (by decide)
   simp at hs
   obtain ⟨hn, rfl⟩ := hs
   refine leaf_ok (x := bl n) rfl (by simp [tkE]) fun f ts i rest h => ?_
   rw [rkind_lo hn] at h
   obtain ⟨k1, t1, -⟩ := st_at h
   refine ⟨.mk 1 (yP ts ⟨i, false, 0⟩) n 0 zTy [] [], ?_, rfl⟩
   unfold yAtom
   rw [k1, t1, (stB_low _).1, ← mk_bl n]
   rfl
  by_cases h2 : k = 2
  ·subst h2
   obtain rfl := hz (by decide); obtain rfl := har (by decide); obtain rfl := hm0 (by decide)
   simp at hs
   obtain ⟨hn, rfl⟩ := hs
   refine leaf_ok (x := bl n) rfl (by simp [tkE]) fun f ts i rest h => ?_
   rw [rkind_up hn] at h
   obtain ⟨k1, t1, -⟩ := st_at h
   refine ⟨.mk 2 (yP ts ⟨i, false, 0⟩) n 0 zTy [] [], ?_, rfl⟩
   unfold yAtom
   rw [k1, t1, (stB_low _).2.1, ← mk_bl n]
   rfl
  by_cases h3 : k = 3
  ·subst h3
   obtain rfl := hz (by decide); obtain rfl := har (by decide)
   simp at hs
   obtain ⟨⟨⟨hn, hm1⟩, hm2⟩, rfl⟩ := hs
   obtain rfl : n = ⟨#[]⟩ := nil_eq (by simpa using hn)
   obtain ⟨s1, s2⟩ := sc_small hm1 hm2
   refine leaf_ok (x := Lib.itoa m) rfl (by simp [tkE]) fun f ts i rest h => ?_
   rw [s1] at h
   obtain ⟨k1, t1, -⟩ := st_at h
   refine ⟨.mk 3 (yP ts ⟨i, false, 0⟩) ⟨#[]⟩ m zTy [] [], ?_, rfl⟩
   unfold yAtom
   rw [k1, t1, (stB_low _).2.2, s2]
   rfl
  by_cases h10 : k = 10
  ·subst h10
   obtain rfl := hz (by decide); obtain rfl := har (by decide); obtain rfl := hm0 (by decide)
   simp at hs
   obtain ⟨hn, rfl⟩ := hs
   obtain rfl : n = ⟨#[]⟩ := nil_eq (by simpa using hn)
   exact leaf_ok (x := [63]) rfl (by simp [tkE]) fun f ts i rest h => ⟨_, atom_hole h, rfl⟩
  by_cases h4 : k = 4
  ·subst h4
   obtain rfl := hz (by decide); obtain rfl := har (by decide); obtain rfl := hm0 (by decide)
   simp at hs
   match kids, hs.2 with
   | [a], _ =>
    refine all_of_expr (fun f ts i rest h hst hf => ?_) rfl rfl
    have e : tkE (.mk 4 0 n 0 zTy [a] []) = [92] :: bl n :: [46] :: tkE a := by simp [tkE, tkK']
    rw [e] at h ⊢
    obtain ⟨a', h1, h2⟩ := fun_ok hs.1 (e1 a (by simp)).2.2 h hst hf
    exact ⟨_, h1, by simp [strip, stripL, stripA, h2]⟩
  by_cases h5 : k = 5
  ·subst h5
   obtain rfl := hz (by decide); obtain rfl := har (by decide); obtain rfl := hm0 (by decide)
   simp at hs
   obtain rfl : n = ⟨#[]⟩ := nil_eq (by simpa using hs.1)
   match kids, hs.2 with
   | [fn, a], _ =>
    have e : tkE (.mk 5 0 ⟨#[]⟩ 0 zTy [fn, a] []) = brkW (!(atomE fn || fn.k == 5)) (tkE fn) ++ brkW (!atomE a) (tkE a) := by simp [tkE, tkF, tkG]
    have hH : HOk (.mk 5 0 ⟨#[]⟩ 0 zTy [fn, a] []) := by
     intro f ts i rest h hf
     have eb : brkW (!(atomE (.mk 5 0 ⟨#[]⟩ 0 zTy [fn, a] []) || (Ex.mk 5 0 ⟨#[]⟩ 0 zTy [fn, a] []).k == 5)) (tkE (.mk 5 0 ⟨#[]⟩ 0 zTy [fn, a] [])) = brkW (!(atomE fn || fn.k == 5)) (tkE fn) ++ brkW (!atomE a) (tkE a) := e
     rw [eb] at h ⊢
     rw [wk_app, List.append_assoc] at h
     obtain ⟨g, fn', r1, r2, r3, r4⟩ := (e1 fn (by simp)).2.1 f ts i _ h hf
     have d1 := drop_add h
     rw [wk_len] at d1
     obtain ⟨g, rfl⟩ : ∃ k, g = k + 1 := ⟨g - 1, by omega⟩
     obtain ⟨a', q1, q2⟩ := (e1 a (by simp)).1 g ts _ rest d1 (by omega)
     have hlt := (stB_lt (atom_st q1)).2
     have hpos : 1 ≤ (brkW (!atomE a) (tkE a)).length := by
      cases hz : (brkW (!atomE a) (tkE a)).length with
      | zero =>
       exfalso
       rw [hz] at q1
       have hst := atom_st q1
       obtain ⟨e', s', q1', hmu, hmu2⟩ := (yends ts g).atom ⟨i + (brkW (!(atomE fn || fn.k == 5)) (tkE fn)).length, false, 0⟩ (by unfold mu; simp only [Bool.false_eq_true, if_false]; omega)
       rw [q1] at q1'
       simp only [Option.some.injEq, Prod.mk.injEq] at q1'
       have := hmu2 hst
       rw [← q1'.2] at this
       simp [mu] at this
      | succ n => omega
     refine ⟨g, .mk 5 fn'.p ⟨#[]⟩ 0 zTy [fn', a'] [], ?_, by simp [strip, stripL, stripA, r2, q2], ?_, r4⟩
     ·rw [r1]
      conv => lhs; unfold yApps
      rw [atom_st q1, q1]
      simp only [if_true, List.length_append, Nat.add_assoc]
     ·simp only [List.length_append]
      dsimp only at hlt
      omega
    have hE := expr_of_head hH rfl
    exact ⟨fun f ts i rest h hf => enc_ok hE h hf, hH, hE⟩
  by_cases h6 : k = 6
  ·subst h6
   obtain rfl := hz (by decide); obtain rfl := har (by decide); obtain rfl := hm0 (by decide)
   simp at hs
   match kids, hs.2 with
   | [a, b], _ =>
    refine all_of_expr (fun f ts i rest h hst hf => ?_) rfl rfl
    have e : tkE (.mk 6 0 n 0 zTy [a, b] []) = [108, 101, 116] :: (bl n :: [61] :: (tkE a ++ [105, 110] :: tkE b)) := by simp [tkE, tkLt, tkK']
    obtain ⟨a', b', h1, h2, h3⟩ := let_ok (q := false) hs.1 (e1 a (by simp)).2.2 (e1 b (by simp)).2.2 e h hst hf
    exact ⟨_, h1, by simp [strip, stripL, stripA, h2, h3]⟩
  by_cases h7 : k = 7
  ·subst h7
   obtain rfl := hz (by decide); obtain rfl := har (by decide); obtain rfl := hm0 (by decide)
   simp at hs
   match kids, hs.2 with
   | [a, b], _ =>
    refine all_of_expr (fun f ts i rest h hst hf => ?_) rfl rfl
    have e : tkE (.mk 7 0 n 0 zTy [a, b] []) = [108, 101, 116] :: [114, 101, 99] :: (bl n :: [61] :: (tkE a ++ [105, 110] :: tkE b)) := by simp [tkE, tkLt, tkK']
    obtain ⟨a', b', h1, h2, h3⟩ := let_ok (q := true) hs.1 (e1 a (by simp)).2.2 (e1 b (by simp)).2.2 e h hst hf
    exact ⟨_, h1, by simp [strip, stripL, stripA, h2, h3]⟩
  by_cases h8 : k = 8
  ·subst h8
   obtain rfl := hz (by decide); obtain rfl := hm0 (by decide)
   simp at hs
   obtain ⟨⟨hn, hk1⟩, hne⟩ := hs
   obtain rfl : n = ⟨#[]⟩ := nil_eq (by simpa using hn)
   match kids, hk1 with
   | [a], _ =>
    refine all_of_expr (fun f ts i rest h hst hf => ?_) rfl rfl
    have e : tkE (.mk 8 0 ⟨#[]⟩ 0 zTy [a] arms) = [99, 97, 115, 101] :: (tkE a ++ [111, 102] :: (tkA0 arms ++ [[101, 110, 100]])) := by simp [tkE, tkK']
    rw [e] at h ⊢
    obtain ⟨a', arms', h1, h2, h3⟩ := case_ok (e1 a (by simp)).2.2 ha hne e2 h hf
    exact ⟨_, h1, by simp [strip, stripL, h2, h3]⟩
  by_cases h9 : k = 9
  ·subst h9
   obtain rfl := har (by decide); obtain rfl := hm0 (by decide)
   simp at hs
   obtain ⟨⟨hn, hk1⟩, ht⟩ := hs
   obtain rfl : n = ⟨#[]⟩ := nil_eq (by simpa using hn)
   match kids, hk1 with
   | [a], _ =>
    refine all_of_atom (fun f ts i rest h hf => ?_) rfl
    have e : brkW (!atomE (.mk 9 0 ⟨#[]⟩ 0 t [a] [])) (tkE (.mk 9 0 ⟨#[]⟩ 0 t [a] [])) = [40] :: (tkE a ++ [58] :: (tkT t ++ [[41]])) := by
     show tkE (.mk 9 0 ⟨#[]⟩ 0 t [a] []) = _
     simp [tkE, tkK']
    rw [e] at h ⊢
    obtain ⟨f, rfl⟩ : ∃ g, f = g + 2 := ⟨f - 2, by omega⟩
    have d0 : (kt ts).drop i = (5, [40]) :: (wk (tkE a) ++ ((5, [58]) :: (wk (tkT t) ++ ((5, [41]) :: rest)))) := by
     rw [h]; simp [wk]; decide
    obtain ⟨-, -, -, -, d1, hlt⟩ := st_at d0
    obtain ⟨a', q1, q2⟩ := (e1 a (by simp)).2.2 f ts (i + 1) _ d1 (noSt_mark (by decide)) (by omega)
    have d2 := drop_add d1
    rw [wk_len] at d2
    obtain ⟨-, -, m2, -, d3, hlt2⟩ := st_at d2
    have hty := typ_ok ht d3
    have d4 := drop_add d3
    rw [wk_len] at d4
    obtain ⟨-, -, m4, -, -, hlt4⟩ := st_at d4
    refine ⟨.mk 9 (yP ts ⟨i, false, 0⟩) ⟨#[]⟩ 0 t [a'] [], ?_, by simp [strip, stripL, stripA, q2]⟩
    rw [atom_open d0]
    unfold yEnc
    rw [q1]
    dsimp only
    rw [m2, if_pos (by decide)]
    show some (Ex.mk 9 _ ⟨#[]⟩ 0 (yTyR ts ⟨i + 1 + (tkE a).length + 1, false, 0⟩).1 [a'] [], yExp ts (yTyR ts ⟨i + 1 + (tkE a).length + 1, false, 0⟩).2 (yM ts (yTyR ts ⟨i + 1 + (tkE a).length + 1, false, 0⟩).2 ⟨#[41]⟩)) = _
    rw [hty]
    dsimp only
    rw [m4, show ((5 : Int) == 5 && ([41] : List UInt8) == bl ⟨#[41]⟩) = true from by decide]
    show some (Ex.mk 9 _ ⟨#[]⟩ 0 t [a'] [], (⟨i + 1 + (tkE a).length + 1 + (tkT t).length + 1, false, 0⟩ : St)) = _
    simp only [List.length_cons, List.length_append, List.length_nil]
    congr 3
    omega
  ·have h11 : k = 11 := by simp [h1, h2, h3, h4, h5, h6, h7, h8, h9, h10] at hs; exact hs.1.1
   subst h11
   obtain rfl := hz (by decide); obtain rfl := har (by decide); obtain rfl := hm0 (by decide)
   simp at hs
   obtain ⟨hn, hk1⟩ := hs
   obtain rfl : n = ⟨#[]⟩ := nil_eq (by simpa using hn)
   match kids, hk1 with
   | [a], _ =>
    refine all_of_atom (fun f ts i rest h hf => ?_) rfl
    have e : brkW (!atomE (.mk 11 0 ⟨#[]⟩ 0 zTy [a] [])) (tkE (.mk 11 0 ⟨#[]⟩ 0 zTy [a] [])) = [123] :: (tkE a ++ [[125]]) := by
     show tkE (.mk 11 0 ⟨#[]⟩ 0 zTy [a] []) = _
     simp [tkE, tkK']
    rw [e] at h ⊢
    obtain ⟨f, rfl⟩ : ∃ g, f = g + 2 := ⟨f - 2, by omega⟩
    have d0 : (kt ts).drop i = (5, [123]) :: (wk (tkE a) ++ ((5, [125]) :: rest)) := by
     rw [h]; simp [wk]; decide
    obtain ⟨-, -, -, -, d1, hlt⟩ := st_at d0
    obtain ⟨a', q1, q2⟩ := (e1 a (by simp)).2.2 f ts (i + 1) _ d1 (noSt_mark (by decide)) (by omega)
    have d2 := drop_add d1
    rw [wk_len] at d2
    obtain ⟨-, -, m2, -, -, hlt2⟩ := st_at d2
    refine ⟨.mk 11 (yP ts ⟨i, false, 0⟩) ⟨#[]⟩ 0 zTy [a'] [], ?_, by simp [strip, stripL, stripA, q2]⟩
    rw [atom_held d0]
    unfold yHeld
    rw [q1]
    dsimp only
    rw [m2, show ((5 : Int) == 5 && ([125] : List UInt8) == bl ⟨#[125]⟩) = true from by decide]
    show some (Ex.mk 11 _ ⟨#[]⟩ 0 zTy [a'] [], (⟨i + 1 + (tkE a).length + 1, false, 0⟩ : St)) = _
    simp only [List.length_cons, List.length_append, List.length_nil]
    congr 3
    omega
end Go.Proofs.YtgcefodgjhlbeaaGreatDoor

namespace Go.Proofs.YtgcefodgjhlbeaaGreatDoor
open Go.RowKit Go.Maps Mth

def capE : Nat → Nat
 | 0 => 5
 | d + 1 => 3 * capE d + 60
theorem capE_pos : ∀ d, 5 ≤ capE d
 | 0 => Nat.le_refl _
 | d + 1 => by have := capE_pos d; simp only [capE]; omega
def OkE (d : Nat) (T : Ex) : Prop := srcE T = true ∧ (shE T).length ≤ capE d
def nmOk (n : ByteArray) : Bool := isLo (bl n) && decide (n.size ≤ 2)
def cnOk (n : ByteArray) : Bool := isUp (bl n) && decide (n.size ≤ 5)
theorem nmOk_iff {n : ByteArray} (h : nmOk n = true) : isLo (bl n) = true ∧ (bl n).length ≤ 2 := by
 simp only [nmOk, Bool.and_eq_true, decide_eq_true_eq] at h
 exact ⟨h.1, by rw [bl_len]; exact h.2⟩
theorem cnOk_iff {n : ByteArray} (h : cnOk n = true) : isUp (bl n) = true ∧ (bl n).length ≤ 5 := by
 simp only [cnOk, Bool.and_eq_true, decide_eq_true_eq] at h
 exact ⟨h.1, by rw [bl_len]; exact h.2⟩
theorem zTyB_z : zTyB zTy = true := by decide +kernel
theorem okE_mono {d : Nat} {T : Ex} (h : OkE d T) : OkE (d + 1) T := ⟨h.1, by have := h.2; simp only [capE]; omega⟩
theorem okE_var (d : Nat) {n : ByteArray} (h : nmOk n = true) : OkE d (.mk 1 0 n 0 zTy [] []) := by
 obtain ⟨h1, h2⟩ := nmOk_iff h
 have := capE_pos d
 exact ⟨by simp [srcE, srcK, srcA, zTyB_z, h1], by simp [shE]; omega⟩
theorem okE_con (d : Nat) {n : ByteArray} (h : cnOk n = true) : OkE d (.mk 2 0 n 0 zTy [] []) := by
 obtain ⟨h1, h2⟩ := cnOk_iff h
 have := capE_pos d
 exact ⟨by simp [srcE, srcK, srcA, zTyB_z, h1], by simp [shE]; omega⟩
theorem okE_hole (d : Nat) : OkE d (.mk 10 0 ⟨#[]⟩ 0 zTy [] []) := by
 have := capE_pos d
 exact ⟨by decide +kernel, by simp [shE]; omega⟩
theorem okE_int (d : Nat) {m : Int} (h0 : 0 ≤ m) (h1 : m ≤ 3) : OkE d (.mk 3 0 ⟨#[]⟩ m zTy [] []) := by
 have hp := capE_pos d
 have : m = 0 ∨ m = 1 ∨ m = 2 ∨ m = 3 := by omega
 rcases this with rfl | rfl | rfl | rfl
 all_goals
  refine ⟨by decide +kernel, Nat.le_trans ?_ hp⟩
  decide +kernel
theorem okE_lam {d : Nat} {n : ByteArray} {a : Ex} (h : nmOk n = true) (ha : OkE d a) : OkE (d + 1) (.mk 4 0 n 0 zTy [a] []) := by
 obtain ⟨h1, h2⟩ := nmOk_iff h
 obtain ⟨g1, g2⟩ := ha
 refine ⟨by simp [srcE, srcK, srcA, zTyB_z, h1, g1], ?_⟩
 simp [shE, shK, capE]
 omega
theorem okE_app {d : Nat} {f a : Ex} (hf : OkE d f) (ha : OkE d a) : OkE (d + 1) (.mk 5 0 ⟨#[]⟩ 0 zTy [f, a] []) := by
 obtain ⟨f1, f2⟩ := hf
 obtain ⟨g1, g2⟩ := ha
 have e1 := brk_len (!(atomE f || f.k == 5)) (shE f)
 have e2 := brk_len (!atomE a) (shE a)
 refine ⟨?_, ?_⟩
 ·simp [srcE, srcK, srcA, zTyB_z, f1, g1]
 ·simp only [shE, shF, shG, capE]
  simp only [show ((5 : Int) == 1 || (5 : Int) == 2) = false from rfl, show ((5 : Int) == 3) = false from rfl, show ((5 : Int) == 10) = false from rfl, show ((5 : Int) == 4) = false from rfl, show ((5 : Int) == 5) = true from rfl, Bool.false_eq_true, if_false, if_true, List.length_append, List.length_cons]
  omega
theorem okE_let {d : Nat} {k : Int} (hk : k = 6 ∨ k = 7) {n : ByteArray} {a b : Ex} (h : nmOk n = true) (ha : OkE d a) (hb : OkE d b) : OkE (d + 1) (.mk k 0 n 0 zTy [a, b] []) := by
 obtain ⟨h1, h2⟩ := nmOk_iff h
 obtain ⟨f1, f2⟩ := ha
 obtain ⟨g1, g2⟩ := hb
 rcases hk with rfl | rfl
 all_goals
  refine ⟨by simp [srcE, srcK, srcA, zTyB_z, h1, f1, g1], ?_⟩
  simp [shE, shLt, shK, capE]
  omega
theorem okE_held {d : Nat} {a : Ex} (ha : OkE d a) : OkE (d + 1) (.mk 11 0 ⟨#[]⟩ 0 zTy [a] []) := by
 obtain ⟨g1, g2⟩ := ha
 refine ⟨?_, ?_⟩
 ·simp [srcE, srcK, srcA, zTyB_z, g1]
 ·simp [shE, shK, capE]
  omega
theorem okE_ann {d : Nat} {a : Ex} {t : Ty} (ha : OkE d a) (ht : src t = true) (hl : (shT t).length ≤ 63) : OkE (d + 1) (.mk 9 0 ⟨#[]⟩ 0 t [a] []) := by
 obtain ⟨g1, g2⟩ := ha
 have hp := capE_pos d
 refine ⟨?_, ?_⟩
 ·simp [srcE, srcK, srcA, g1, ht]
 ·simp [shE, shK, capE]
  omega
def OkA (d : Nat) (A : AH × Ex) : Prop := A.1.pos = 0 ∧ cnOk A.1.con = true ∧ A.1.vars.length ≤ 2 ∧ (∀ v ∈ A.1.vars, nmOk v = true) ∧ OkE d A.2
theorem vars_len : ∀ vs : List ByteArray, (∀ v ∈ vs, nmOk v = true) → varsOk vs = true ∧ (vs.flatMap fun v => 32 :: bl v).length ≤ 3 * vs.length := by
 intro vs
 induction vs with
 | nil => intro _; exact ⟨rfl, Nat.le_refl _⟩
 | cons v vs ih =>
  intro h
  obtain ⟨i1, i2⟩ := ih fun v hv => h v (by simp [hv])
  obtain ⟨h1, h2⟩ := nmOk_iff (h v (by simp))
  refine ⟨by simp only [varsOk, List.all_cons, Bool.and_eq_true]; exact ⟨h1, by simpa [varsOk] using i1⟩, ?_⟩
  simp only [List.flatMap_cons, List.length_append, List.length_cons]
  omega
theorem okA_parts {d : Nat} {A : AH × Ex} (h : OkA d A) : (armText A.1).length ≤ 13 ∧ (shE A.2).length ≤ capE d ∧ (A.1.pos == 0) = true ∧ isUp (bl A.1.con) = true ∧ varsOk A.1.vars = true ∧ srcE A.2 = true := by
 obtain ⟨h1, h2, h3, h4, h5, h6⟩ := h
 obtain ⟨c1, c2⟩ := cnOk_iff h2
 obtain ⟨v1, v2⟩ := vars_len _ h4
 refine ⟨?_, h6, by simpa using h1, c1, v1, h5⟩
 unfold armText
 simp only [List.length_append, List.length_cons, List.length_nil]
 omega
theorem okE_case {d : Nat} {a : Ex} {arms : List (AH × Ex)} (ha : OkE d a) (h1 : arms ≠ []) (h2 : arms.length ≤ 2) (hA : ∀ A ∈ arms, OkA d A) : OkE (d + 1) (.mk 8 0 ⟨#[]⟩ 0 zTy [a] arms) := by
 obtain ⟨g1, g2⟩ := ha
 have e0 : (⟨#[]⟩ : ByteArray).toList = [] := by decide +kernel
 match arms, h1, h2 with
 | [A], _, _ =>
  obtain ⟨ah, ae⟩ := A
  obtain ⟨a1, a2, a3, a4, a5, a6⟩ := okA_parts (hA (ah, ae) (by simp))
  dsimp only at a1 a2 a3 a4 a5 a6
  refine ⟨?_, ?_⟩
  ·simp [srcE, srcK, srcA, zTyB_z, g1, a4, a5, a6, e0]
   simpa using a3
  ·simp [shE, shK, shA0, shAr, capE]
   omega
 | [A, B], _, _ =>
  obtain ⟨ah, ae⟩ := A
  obtain ⟨bh, be⟩ := B
  obtain ⟨a1, a2, a3, a4, a5, a6⟩ := okA_parts (hA (ah, ae) (by simp))
  obtain ⟨b1, b2, b3, b4, b5, b6⟩ := okA_parts (hA (bh, be) (by simp))
  dsimp only at a1 a2 a3 a4 a5 a6 b1 b2 b3 b4 b5 b6
  refine ⟨?_, ?_⟩
  ·simp [srcE, srcK, srcA, zTyB_z, g1, a4, a5, a6, b4, b5, b6, e0]
   exact ⟨by simpa using a3, by simpa using b3⟩
  ·simp [shE, shK, shA0, shAr, capE]
   omega
theorem toksE_of {d : Nat} {T : Ex} (hd : d ≤ 4) (h : OkE d T) {s : ByteArray} {m : Nat} (hm : m ≤ 5) (hb : bl s = parT m (shE T)) : kt (ftoks (bl s)) = wk (parTk m (tkE T)) := by
 have h1 := (par_sc (sc_E T h.1) m).alone 0
 have h3 := parT_len (shE T) m
 have h2 := h.2
 have h4 : capE d ≤ 2805 := by
  have : d = 0 ∨ d = 1 ∨ d = 2 ∨ d = 3 ∨ d = 4 := by omega
  rcases this with rfl | rfl | rfl | rfl | rfl <;> decide
 unfold ftoks
 rw [hb, if_neg (by omega), h1.2]
 exact h1.1
end Go.Proofs.YtgcefodgjhlbeaaGreatDoor
