import Derived.Test.YthphnacfidofbaaGreatDoorTkMa
import Derived.Test.YthphnacfidofbaaGreatDoorTyBxMa
/- Plain facts: texts made of parts whose scan is known. -/
namespace Go.Proofs.YthphnacfidofbaaGreatDoor
open Mth

/-- The kinds and texts that token texts have. -/
def wk (ws : List (List UInt8)) : List (Int × List UInt8) := ws.map fun x => (rkind x, x)
theorem wk_app (a b : List (List UInt8)) : wk (a ++ b) = wk a ++ wk b := by simp [wk]
/-- No byte of a word begins the text. -/
def Hd0 (r : List UInt8) : Prop := ∀ d x, r = d :: x → inn d = false
theorem hd0_nil : Hd0 [] := fun d x h => by cases h
theorem hd0_cons {c : UInt8} {r : List UInt8} (h : inn c = false) : Hd0 (c :: r) := fun d x e => by cases e; exact h
/-- A text scans to these tokens, whatever follows that does not begin as a word goes on. -/
def Sc (l : List UInt8) (ws : List (List UInt8)) : Prop := ∀ r p, Hd0 r → ∃ q, kt (sc (l ++ r) p).1 = wk ws ++ kt (sc r q).1 ∧ (sc (l ++ r) p).2 = (sc r q).2
/-- The same, whatever follows. -/
def ScA (l : List UInt8) (ws : List (List UInt8)) : Prop := ∀ r p, ∃ q, kt (sc (l ++ r) p).1 = wk ws ++ kt (sc r q).1 ∧ (sc (l ++ r) p).2 = (sc r q).2
theorem ScA.sc {l : List UInt8} {ws : List (List UInt8)} (h : ScA l ws) : Sc l ws := fun r p _ => h r p
theorem scA_nil : ScA [] [] := fun _ p => ⟨p, rfl, rfl⟩
theorem sc_word {x : List UInt8} (h : rkind x ≠ 0) : Sc x [x] := fun r p hr => by
  refine ⟨p + x.length, ?_, ?_⟩
  · rw [sc_token p h hr]; rfl
  · rw [sc_token p h hr]
theorem scA_mark {c : UInt8} (h : c ∈ mks) : ScA [c] [[c]] := fun r p => by
  have h1 : c ≠ 35 := by rintro rfl; revert h; decide
  have h2 : wht c = false := by
    unfold mks at h
    simp only [List.mem_cons, List.not_mem_nil, or_false] at h
    rcases h with e | e | e | e | e | e | e | e | e | e | e <;> subst e <;> decide
  have h3 : c ≠ 45 := by rintro rfl; revert h; decide
  have hs : stp (c :: r) = (5, 1) := by
    unfold stp
    dsimp only
    rw [if_neg h1, h2, if_neg (by simp), if_neg h3, if_pos h]
  have hk : rkind [c] = 5 := by
    unfold mks at h
    simp only [List.mem_cons, List.not_mem_nil, or_false] at h
    rcases h with e | e | e | e | e | e | e | e | e | e | e <;> subst e <;> decide
  refine ⟨p + 1, ?_, ?_⟩
  · show kt (sc (c :: r) p).1 = _
    rw [sc_tok p (by rw [hs]; decide) (by rw [hs]; decide), hs]
    simp [kt, wk, hk]
  · show (sc (c :: r) p).2 = _
    rw [sc_tok p (by rw [hs]; decide) (by rw [hs]; decide), hs]
    rfl
theorem scA_arrow : ScA [45, 62] [[45, 62]] := fun r p => by
  have hs : stp (45 :: 62 :: r) = (5, 2) := rfl
  refine ⟨p + 2, ?_, ?_⟩
  · show kt (sc (45 :: 62 :: r) p).1 = _
    rw [sc_tok p (by rw [hs]; decide) (by rw [hs]; decide), hs]
    simp [kt, wk]; decide
  · show (sc (45 :: 62 :: r) p).2 = _
    rw [sc_tok p (by rw [hs]; decide) (by rw [hs]; decide), hs]
    rfl
theorem scA_space : ScA [32] [] := fun r p => ⟨p + 1, by show kt (sc (32 :: r) p).1 = _; rw [sc_white p (by decide) (by decide)]; rfl, by show (sc (32 :: r) p).2 = _; rw [sc_white p (by decide) (by decide)]⟩
theorem ScA.app {l m : List UInt8} {a b : List (List UInt8)} (h : ScA l a) (k : ScA m b) : ScA (l ++ m) (a ++ b) := fun r p => by
  obtain ⟨q, h1, h2⟩ := h (m ++ r) p
  obtain ⟨q', k1, k2⟩ := k r q
  exact ⟨q', by rw [List.append_assoc, h1, k1, wk_app, List.append_assoc], by rw [List.append_assoc, h2, k2]⟩
theorem ScA.then {l m : List UInt8} {a b : List (List UInt8)} (h : ScA l a) (k : Sc m b) : Sc (l ++ m) (a ++ b) := fun r p hr => by
  obtain ⟨q, h1, h2⟩ := h (m ++ r) p
  obtain ⟨q', k1, k2⟩ := k r q hr
  exact ⟨q', by rw [List.append_assoc, h1, k1, wk_app, List.append_assoc], by rw [List.append_assoc, h2, k2]⟩
theorem Sc.app {l m : List UInt8} {a b : List (List UInt8)} (h : Sc l a) (k : Sc m b) (hm : ∀ r, Hd0 r → Hd0 (m ++ r)) : Sc (l ++ m) (a ++ b) := fun r p hr => by
  obtain ⟨q, h1, h2⟩ := h (m ++ r) p (hm r hr)
  obtain ⟨q', k1, k2⟩ := k r q hr
  exact ⟨q', by rw [List.append_assoc, h1, k1, wk_app, List.append_assoc], by rw [List.append_assoc, h2, k2]⟩
/-- A text that begins with a byte of no word. -/
theorem Sc.appC {l m : List UInt8} {c : UInt8} {a b : List (List UInt8)} (h : Sc l a) (k : Sc (c :: m) b) (hc : inn c = false) : Sc (l ++ c :: m) (a ++ b) := h.app k fun _ _ => hd0_cons hc
theorem Sc.appA {l m : List UInt8} {c : UInt8} {a b : List (List UInt8)} (h : Sc l a) (k : ScA (c :: m) b) (hc : inn c = false) : ScA (l ++ c :: m) (a ++ b) := fun r p => by
  obtain ⟨q, h1, h2⟩ := h (c :: m ++ r) p (hd0_cons hc)
  obtain ⟨q', k1, k2⟩ := k r q
  exact ⟨q', by rw [List.append_assoc, h1, k1, wk_app, List.append_assoc], by rw [List.append_assoc, h2, k2]⟩
/-- A text in parentheses. -/
theorem Sc.par {l : List UInt8} {a : List (List UInt8)} (h : Sc l a) : ScA (40 :: (l ++ [41])) ([40] :: (a ++ [[41]])) :=
  ScA.app (scA_mark (c := 40) (by decide)) (h.appA (scA_mark (c := 41) (by decide)) (by decide))
/-- The tokens of a text that stands alone. -/
theorem Sc.alone {l : List UInt8} {a : List (List UInt8)} (h : Sc l a) (p : Nat) : kt (sc l p).1 = wk a ∧ (sc l p).2 = none := by
  obtain ⟨q, h1, h2⟩ := h [] p hd0_nil
  rw [List.append_nil] at h1 h2
  exact ⟨by rw [h1]; simp [sc_nil, kt], by rw [h2]; rfl⟩
end Go.Proofs.YthphnacfidofbaaGreatDoor

/- Plain facts: the canonical text of a written type, its tokens, its length. -/
namespace Go.Proofs.YthphnacfidofbaaGreatDoor
open Go.RowKit Go.Maps Mth

theorem tyInd {p : Ty → Prop} (h : ∀ T, (∀ U ∈ T.ts, p U) → p T) : ∀ T, p T := by
  have : ∀ (m : Nat) (T : Ty), nodes T ≤ m → p T := by
    intro m
    induction m with
    | zero => intro T h; have := nodes_pos T; omega
    | succ m ih =>
      intro T hm
      refine h T fun U hU => ih U ?_
      have := nodesL_mem hU
      cases T
      simp only [nodes, Ty.ts] at *
      omega
  exact fun T => this _ T (Nat.le_refl _)
def isArr (T : Ty) : Bool := T.k == 4 && T.n.toList == [45, 62]
def conArgs (T : Ty) : Bool := T.k == 4 && T.ts.length != 0
/-! A type that can be written: names and constructors alone. -/
mutual
def src : Ty → Bool
  | .mk k n i h ts => i == 0 && h == 0 && (if k == 5 then isLo (bl n) && ts.length == 0 else k == 4 && (if n.toList == [45, 62] then ts.length == 2 else isUp (bl n))) && srcL ts
def srcL : List Ty → Bool
  | [] => true
  | t :: l => src t && srcL l
end
theorem srcL_mem : ∀ {l : List Ty}, srcL l = true → ∀ {T : Ty}, T ∈ l → src T = true := by
  intro l
  induction l with
  | nil => intro _ T h; simp at h
  | cons t l ih =>
    intro h T hT
    simp only [srcL, Bool.and_eq_true] at h
    rcases List.mem_cons.1 hT with rfl | hT
    · exact h.1
    · exact ih h.2 hT
def brk (q : Bool) (l : List UInt8) : List UInt8 := if q then 40 :: (l ++ [41]) else l
def brkW (q : Bool) (l : List (List UInt8)) : List (List UInt8) := if q then [40] :: (l ++ [[41]]) else l
/-! The canonical text. -/
mutual
def shT : Ty → List UInt8
  | .mk k n _ _ ts => if k == 5 then bl n else if n.toList == [45, 62] then shH ts else bl n ++ shA ts
def shH : List Ty → List UInt8
  | [] => []
  | t :: l => brk (isArr t) (shT t) ++ shB l
def shB : List Ty → List UInt8
  | [] => []
  | t :: l => 32 :: ([45, 62] ++ 32 :: (shT t ++ shB l))
def shA : List Ty → List UInt8
  | [] => []
  | t :: l => 32 :: (brk (conArgs t) (shT t) ++ shA l)
end
/-! Its tokens. -/
mutual
def tkT : Ty → List (List UInt8)
  | .mk k n _ _ ts => if k == 5 then [bl n] else if n.toList == [45, 62] then tkH ts else bl n :: tkA ts
def tkH : List Ty → List (List UInt8)
  | [] => []
  | t :: l => brkW (isArr t) (tkT t) ++ tkB l
def tkB : List Ty → List (List UInt8)
  | [] => []
  | t :: l => [45, 62] :: (tkT t ++ tkB l)
def tkA : List Ty → List (List UInt8)
  | [] => []
  | t :: l => brkW (conArgs t) (tkT t) ++ tkA l
end
theorem rkind_lo {l : List UInt8} (h : isLo l = true) : rkind l = 1 := by
  rw [rkind_eq]
  have hk : kw l = false := by unfold isLo at h; simp only [Bool.and_eq_true, Bool.not_eq_true'] at h; exact h.2
  rw [hk, h]; rfl
theorem kw_low {l : List UInt8} (h : kw l = true) : hd low l = true := by
  unfold kw at h
  have h' := of_decide_eq_true h
  unfold kws at h'
  simp only [List.mem_cons, List.not_mem_nil, or_false] at h'
  rcases h' with e | e | e | e | e | e | e <;> subst e <;> decide
theorem low_upp {l : List UInt8} (h : hd upp l = true) : hd low l = false := by
  cases l with
  | nil => rfl
  | cons c l =>
    simp only [hd, upp, low, Bool.and_eq_true, decide_eq_true_eq] at h ⊢
    have : ¬ (97 ≤ c.toNat) := by omega
    simp [this]
theorem rkind_up {l : List UInt8} (h : isUp l = true) : rkind l = 2 := by
  have hu : hd upp l = true := by unfold isUp at h; simp only [Bool.and_eq_true] at h; exact h.1.2
  have hl := low_upp hu
  have hk : kw l = false := by
    cases hk : kw l with
    | false => rfl
    | true => rw [kw_low hk] at hl; cases hl
  have h1 : isLo l = false := by unfold isLo; rw [hl]; simp
  rw [rkind_eq, hk, h1, h]; rfl
theorem sc_brk {q : Bool} {l : List UInt8} {a : List (List UInt8)} (h : Sc l a) : Sc (brk q l) (brkW q a) := by
  cases q
  · exact h
  · exact h.par.sc
theorem shA_hd : ∀ (l : List Ty) (r : List UInt8), Hd0 r → Hd0 (shA l ++ r) := by
  intro l r h
  cases l with
  | nil => simpa [shA] using h
  | cons t l => simp only [shA]; exact hd0_cons (by decide)
theorem shB_hd : ∀ (l : List Ty) (r : List UInt8), Hd0 r → Hd0 (shB l ++ r) := by
  intro l r h
  cases l with
  | nil => simpa [shB] using h
  | cons t l => simp only [shB]; exact hd0_cons (by decide)
theorem sc_A : ∀ l : List Ty, (∀ U ∈ l, Sc (shT U) (tkT U)) → Sc (shA l) (tkA l) := by
  intro l
  induction l with
  | nil => intro _; simpa [shA, tkA] using scA_nil.sc
  | cons t l ih =>
    intro h
    simp only [shA, tkA]
    have := ScA.then scA_space ((sc_brk (q := conArgs t) (h t (by simp))).app (ih fun U hU => h U (by simp [hU])) (shA_hd l))
    simpa using this
theorem sc_B : ∀ l : List Ty, (∀ U ∈ l, Sc (shT U) (tkT U)) → Sc (shB l) (tkB l) := by
  intro l
  induction l with
  | nil => intro _; simpa [shB, tkB] using scA_nil.sc
  | cons t l ih =>
    intro h
    simp only [shB, tkB]
    have := ScA.then (scA_space.app (scA_arrow.app scA_space)) ((h t (by simp)).app (ih fun U hU => h U (by simp [hU])) (shB_hd l))
    simpa using this
theorem sc_T : ∀ T, src T = true → Sc (shT T) (tkT T) := by
  refine tyInd fun T ih hs => ?_
  cases T with
  | mk k n i h ts =>
    simp only [src, Bool.and_eq_true] at hs
    obtain ⟨⟨-, hk⟩, hl⟩ := hs
    have ih' : ∀ U ∈ ts, Sc (shT U) (tkT U) := fun U hU => ih U hU (srcL_mem hl hU)
    simp only [shT, tkT]
    cases h5 : k == 5 with
    | true =>
      rw [h5] at hk
      simp only [if_true, Bool.and_eq_true] at hk ⊢
      exact sc_word (by rw [rkind_lo hk.1]; decide)
    | false =>
      rw [h5] at hk
      simp only [Bool.false_eq_true, if_false, Bool.and_eq_true] at hk ⊢
      cases ha : n.toList == [45, 62] with
      | true =>
        simp only [if_true]
        cases ts with
        | nil => simpa [shH, tkH] using scA_nil.sc
        | cons t l =>
          simp only [shH, tkH]
          exact (sc_brk (ih' t (by simp))).app (sc_B l fun U hU => ih' U (by simp [hU])) (shB_hd l)
      | false =>
        rw [ha] at hk
        simp only [Bool.false_eq_true, if_false] at hk ⊢
        exact (sc_word (x := bl n) (by rw [rkind_up hk.2]; decide)).app (sc_A ts ih') (shA_hd ts)
theorem isLo_len {l : List UInt8} (h : isLo l = true) : l.length ≤ 12 := by
  unfold isLo at h; simp only [Bool.and_eq_true, decide_eq_true_eq] at h; exact h.1.2
theorem isUp_len {l : List UInt8} (h : isUp l = true) : l.length ≤ 12 := by
  unfold isUp at h; simp only [Bool.and_eq_true, decide_eq_true_eq] at h; exact h.2
theorem brk_len (q : Bool) (l : List UInt8) : (brk q l).length ≤ l.length + 2 := by
  cases q <;> simp [brk]
theorem shT_len2 : ∀ T, src T = true → (shT T).length + 8 ≤ 23 * nodes T := by
  refine tyInd fun T ih hs => ?_
  cases T with
  | mk k n i h ts =>
    simp only [src, Bool.and_eq_true] at hs
    obtain ⟨⟨-, hk⟩, hl⟩ := hs
    have ih' : ∀ U ∈ ts, (shT U).length + 8 ≤ 23 * nodes U := fun U hU => ih U hU (srcL_mem hl hU)
    simp only [shT, nodes]
    cases h5 : k == 5 with
    | true =>
      rw [h5] at hk
      simp only [if_true, Bool.and_eq_true] at hk ⊢
      have := isLo_len hk.1
      omega
    | false =>
      rw [h5] at hk
      simp only [Bool.false_eq_true, if_false, Bool.and_eq_true] at hk ⊢
      cases ha : n.toList == [45, 62] with
      | true =>
        rw [ha] at hk
        simp only [if_true, beq_iff_eq] at hk ⊢
        match ts, hk.2 with
        | [a, c], _ =>
          have h1 := ih' a (by simp)
          have h2 := ih' c (by simp)
          have h3 := brk_len (isArr a) (shT a)
          simp only [shH, shB, nodesL, List.length_append, List.length_cons, List.length_nil]
          omega
      | false =>
        rw [ha] at hk
        simp only [Bool.false_eq_true, if_false] at hk ⊢
        have h1 := isUp_len hk.2
        have hA : ∀ l : List Ty, (∀ U ∈ l, (shT U).length + 8 ≤ 23 * nodes U) → (shA l).length ≤ 23 * nodesL l := by
          intro l
          induction l with
          | nil => intro _; simp [shA]
          | cons t l ihl =>
            intro hh
            have h1 := hh t (by simp)
            have h2 := ihl fun U hU => hh U (by simp [hU])
            have h3 := brk_len (conArgs t) (shT t)
            simp only [shA, nodesL, List.length_cons, List.length_append]
            omega
        have h2 := hA ts ih'
        rw [List.length_append]
        omega
end Go.Proofs.YthphnacfidofbaaGreatDoor
