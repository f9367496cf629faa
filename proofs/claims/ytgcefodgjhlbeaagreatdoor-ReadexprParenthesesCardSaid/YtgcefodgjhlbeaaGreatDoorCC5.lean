import Derived.Test.YtgcefodgjhlbeaaGreatDoorCA1
import Derived.Test.YtgcefodgjhlbeaaGreatDoorCA5
import Derived.RegionTactic
import Derived.Deep.CutBlock
import Derived.Deep.LoopGhost
/- Plain facts: texts made of parts whose scan is known. -/
namespace Go.Proofs.YtgcefodgjhlbeaaGreatDoor
open Mth

/-- The kinds and texts that token texts have. -/
def wk (ws : List (List UInt8)) : List (Int × List UInt8) := ws.map fun x => (rkind x, x)
theorem wk_app (a b : List (List UInt8)) : wk (a ++ b) = wk a ++ wk b := by simp [wk]
/-- No byte of a word begins the text. -/
def Hd0 (r : List UInt8) : Prop := ∀ d x, r = d :: x → inn d = false
theorem hd0_nil : Hd0 [] := fun d x h => by cases h
theorem hd0_cons {c : UInt8} {r : List UInt8} (h : inn c = false) : Hd0 (c :: r) := fun d x e => by cases e; exact h
/-- A text scans to these tokens, whatever follows that does not begin as a word goes on. -/
def Sc (l : List UInt8) (ws : List (List UInt8)) : Prop := ∀ r p, Hd0 r → ∃ q, kt (sc (l ++ r) p).1 = wk ws ++ kt (sc r q).1 ∧ (sc (l ++ r) p).2 = (sc r q).2
/-- The same, whatever follows. -/
def ScA (l : List UInt8) (ws : List (List UInt8)) : Prop := ∀ r p, ∃ q, kt (sc (l ++ r) p).1 = wk ws ++ kt (sc r q).1 ∧ (sc (l ++ r) p).2 = (sc r q).2
theorem ScA.sc {l : List UInt8} {ws : List (List UInt8)} (h : ScA l ws) : Sc l ws := fun r p _ => h r p
theorem scA_nil : ScA [] [] := fun _ p => ⟨p, rfl, rfl⟩
theorem sc_word {x : List UInt8} (h : rkind x ≠ 0) : Sc x [x] := fun r p hr => by
  refine ⟨p + x.length, ?_, ?_⟩
  · rw [sc_token p h hr]; rfl
  · rw [sc_token p h hr]
theorem scA_mark {c : UInt8} (h : c ∈ mks) : ScA [c] [[c]] := fun r p => by
  have h1 : c ≠ 35 := by rintro rfl; revert h; decide
  have h2 : wht c = false := by
    unfold mks at h
    simp only [List.mem_cons, List.not_mem_nil, or_false] at h
    rcases h with e | e | e | e | e | e | e | e | e | e | e <;> subst e <;> decide
  have h3 : c ≠ 45 := by rintro rfl; revert h; decide
  have hs : stp (c :: r) = (5, 1) := by
    unfold stp
    dsimp only
    rw [if_neg h1, h2, if_neg (by simp), if_neg h3, if_pos h]
  have hk : rkind [c] = 5 := by
    unfold mks at h
    simp only [List.mem_cons, List.not_mem_nil, or_false] at h
    rcases h with e | e | e | e | e | e | e | e | e | e | e <;> subst e <;> decide
  refine ⟨p + 1, ?_, ?_⟩
  · show kt (sc (c :: r) p).1 = _
    rw [sc_tok p (by rw [hs]; decide) (by rw [hs]; decide), hs]
    simp [kt, wk, hk]
  · show (sc (c :: r) p).2 = _
    rw [sc_tok p (by rw [hs]; decide) (by rw [hs]; decide), hs]
    rfl
theorem scA_arrow : ScA [45, 62] [[45, 62]] := fun r p => by
  have hs : stp (45 :: 62 :: r) = (5, 2) := rfl
  refine ⟨p + 2, ?_, ?_⟩
  · show kt (sc (45 :: 62 :: r) p).1 = _
    rw [sc_tok p (by rw [hs]; decide) (by rw [hs]; decide), hs]
    simp [kt, wk]; decide
  · show (sc (45 :: 62 :: r) p).2 = _
    rw [sc_tok p (by rw [hs]; decide) (by rw [hs]; decide), hs]
    rfl
theorem scA_space : ScA [32] [] := fun r p => ⟨p + 1, by show kt (sc (32 :: r) p).1 = _; rw [sc_white p (by decide) (by decide)]; rfl, by show (sc (32 :: r) p).2 = _; rw [sc_white p (by decide) (by decide)]⟩
theorem ScA.app {l m : List UInt8} {a b : List (List UInt8)} (h : ScA l a) (k : ScA m b) : ScA (l ++ m) (a ++ b) := fun r p => by
  obtain ⟨q, h1, h2⟩ := h (m ++ r) p
  obtain ⟨q', k1, k2⟩ := k r q
  exact ⟨q', by rw [List.append_assoc, h1, k1, wk_app, List.append_assoc], by rw [List.append_assoc, h2, k2]⟩
theorem ScA.then {l m : List UInt8} {a b : List (List UInt8)} (h : ScA l a) (k : Sc m b) : Sc (l ++ m) (a ++ b) := fun r p hr => by
  obtain ⟨q, h1, h2⟩ := h (m ++ r) p
  obtain ⟨q', k1, k2⟩ := k r q hr
  exact ⟨q', by rw [List.append_assoc, h1, k1, wk_app, List.append_assoc], by rw [List.append_assoc, h2, k2]⟩
theorem Sc.app {l m : List UInt8} {a b : List (List UInt8)} (h : Sc l a) (k : Sc m b) (hm : ∀ r, Hd0 r → Hd0 (m ++ r)) : Sc (l ++ m) (a ++ b) := fun r p hr => by
  obtain ⟨q, h1, h2⟩ := h (m ++ r) p (hm r hr)
  obtain ⟨q', k1, k2⟩ := k r q hr
  exact ⟨q', by rw [List.append_assoc, h1, k1, wk_app, List.append_assoc], by rw [List.append_assoc, h2, k2]⟩
/-- A text that begins with a byte of no word. -/
theorem Sc.appC {l m : List UInt8} {c : UInt8} {a b : List (List UInt8)} (h : Sc l a) (k : Sc (c :: m) b) (hc : inn c = false) : Sc (l ++ c :: m) (a ++ b) := h.app k fun _ _ => hd0_cons hc
theorem Sc.appA {l m : List UInt8} {c : UInt8} {a b : List (List UInt8)} (h : Sc l a) (k : ScA (c :: m) b) (hc : inn c = false) : ScA (l ++ c :: m) (a ++ b) := fun r p => by
  obtain ⟨q, h1, h2⟩ := h (c :: m ++ r) p (hd0_cons hc)
  obtain ⟨q', k1, k2⟩ := k r q
  exact ⟨q', by rw [List.append_assoc, h1, k1, wk_app, List.append_assoc], by rw [List.append_assoc, h2, k2]⟩
/-- A text in parentheses. -/
theorem Sc.par {l : List UInt8} {a : List (List UInt8)} (h : Sc l a) : ScA (40 :: (l ++ [41])) ([40] :: (a ++ [[41]])) :=
  ScA.app (scA_mark (c := 40) (by decide)) (h.appA (scA_mark (c := 41) (by decide)) (by decide))
/-- The tokens of a text that stands alone. -/
theorem Sc.alone {l : List UInt8} {a : List (List UInt8)} (h : Sc l a) (p : Nat) : kt (sc l p).1 = wk a ∧ (sc l p).2 = none := by
  obtain ⟨q, h1, h2⟩ := h [] p hd0_nil
  rw [List.append_nil] at h1 h2
  exact ⟨by rw [h1]; simp [sc_nil, kt], by rw [h2]; rfl⟩
end Go.Proofs.YtgcefodgjhlbeaaGreatDoor

/- Plain facts: the canonical text of a written type, its tokens, its length. -/
namespace Go.Proofs.YtgcefodgjhlbeaaGreatDoor
open Go.RowKit Go.Maps Mth

theorem tyInd {p : Ty → Prop} (h : ∀ T, (∀ U ∈ T.ts, p U) → p T) : ∀ T, p T := by
  have : ∀ (m : Nat) (T : Ty), nodes T ≤ m → p T := by
    intro m
    induction m with
    | zero => intro T h; have := nodes_pos T; omega
    | succ m ih =>
      intro T hm
      refine h T fun U hU => ih U ?_
      have := nodesL_mem hU
      cases T
      simp only [nodes, Ty.ts] at *
      omega
  exact fun T => this _ T (Nat.le_refl _)
def isArr (T : Ty) : Bool := T.k == 4 && T.n.toList == [45, 62]
def conArgs (T : Ty) : Bool := T.k == 4 && T.ts.length != 0
/-! A type that can be written: names and constructors alone. -/
mutual
def src : Ty → Bool
  | .mk k n i h ts => i == 0 && h == 0 && (if k == 5 then isLo (bl n) && ts.length == 0 else k == 4 && (if n.toList == [45, 62] then ts.length == 2 else isUp (bl n))) && srcL ts
def srcL : List Ty → Bool
  | [] => true
  | t :: l => src t && srcL l
end
theorem srcL_mem : ∀ {l : List Ty}, srcL l = true → ∀ {T : Ty}, T ∈ l → src T = true := by
  intro l
  induction l with
  | nil => intro _ T h; simp at h
  | cons t l ih =>
    intro h T hT
    simp only [srcL, Bool.and_eq_true] at h
    rcases List.mem_cons.1 hT with rfl | hT
    · exact h.1
    · exact ih h.2 hT
def brk (q : Bool) (l : List UInt8) : List UInt8 := if q then 40 :: (l ++ [41]) else l
def brkW (q : Bool) (l : List (List UInt8)) : List (List UInt8) := if q then [40] :: (l ++ [[41]]) else l
/-! The canonical text. -/
mutual
def shT : Ty → List UInt8
  | .mk k n _ _ ts => if k == 5 then bl n else if n.toList == [45, 62] then shH ts else bl n ++ shA ts
def shH : List Ty → List UInt8
  | [] => []
  | t :: l => brk (isArr t) (shT t) ++ shB l
def shB : List Ty → List UInt8
  | [] => []
  | t :: l => 32 :: ([45, 62] ++ 32 :: (shT t ++ shB l))
def shA : List Ty → List UInt8
  | [] => []
  | t :: l => 32 :: (brk (conArgs t) (shT t) ++ shA l)
end
/-! Its tokens. -/
mutual
def tkT : Ty → List (List UInt8)
  | .mk k n _ _ ts => if k == 5 then [bl n] else if n.toList == [45, 62] then tkH ts else bl n :: tkA ts
def tkH : List Ty → List (List UInt8)
  | [] => []
  | t :: l => brkW (isArr t) (tkT t) ++ tkB l
def tkB : List Ty → List (List UInt8)
  | [] => []
  | t :: l => [45, 62] :: (tkT t ++ tkB l)
def tkA : List Ty → List (List UInt8)
  | [] => []
  | t :: l => brkW (conArgs t) (tkT t) ++ tkA l
end
theorem rkind_lo {l : List UInt8} (h : isLo l = true) : rkind l = 1 := by
  rw [rkind_eq]
  have hk : kw l = false := by unfold isLo at h; simp only [Bool.and_eq_true, Bool.not_eq_true'] at h; exact h.2
  rw [hk, h]; rfl
theorem kw_low {l : List UInt8} (h : kw l = true) : hd low l = true := by
  unfold kw at h
  have h' := of_decide_eq_true h
  unfold kws at h'
  simp only [List.mem_cons, List.not_mem_nil, or_false] at h'
  rcases h' with e | e | e | e | e | e | e <;> subst e <;> decide
theorem low_upp {l : List UInt8} (h : hd upp l = true) : hd low l = false := by
  cases l with
  | nil => rfl
  | cons c l =>
    simp only [hd, upp, low, Bool.and_eq_true, decide_eq_true_eq] at h ⊢
    have : ¬ (97 ≤ c.toNat) := by omega
    simp [this]
theorem rkind_up {l : List UInt8} (h : isUp l = true) : rkind l = 2 := by
  have hu : hd upp l = true := by unfold isUp at h; simp only [Bool.and_eq_true] at h; exact h.1.2
  have hl := low_upp hu
  have hk : kw l = false := by
    cases hk : kw l with
    | false => rfl
    | true => rw [kw_low hk] at hl; cases hl
  have h1 : isLo l = false := by unfold isLo; rw [hl]; simp
  rw [rkind_eq, hk, h1, h]; rfl
theorem sc_brk {q : Bool} {l : List UInt8} {a : List (List UInt8)} (h : Sc l a) : Sc (brk q l) (brkW q a) := by
  cases q
  · exact h
  · exact h.par.sc
theorem shA_hd : ∀ (l : List Ty) (r : List UInt8), Hd0 r → Hd0 (shA l ++ r) := by
  intro l r h
  cases l with
  | nil => simpa [shA] using h
  | cons t l => simp only [shA]; exact hd0_cons (by decide)
theorem shB_hd : ∀ (l : List Ty) (r : List UInt8), Hd0 r → Hd0 (shB l ++ r) := by
  intro l r h
  cases l with
  | nil => simpa [shB] using h
  | cons t l => simp only [shB]; exact hd0_cons (by decide)
theorem sc_A : ∀ l : List Ty, (∀ U ∈ l, Sc (shT U) (tkT U)) → Sc (shA l) (tkA l) := by
  intro l
  induction l with
  | nil => intro _; simpa [shA, tkA] using scA_nil.sc
  | cons t l ih =>
    intro h
    simp only [shA, tkA]
    have := ScA.then scA_space ((sc_brk (q := conArgs t) (h t (by simp))).app (ih fun U hU => h U (by simp [hU])) (shA_hd l))
    simpa using this
theorem sc_B : ∀ l : List Ty, (∀ U ∈ l, Sc (shT U) (tkT U)) → Sc (shB l) (tkB l) := by
  intro l
  induction l with
  | nil => intro _; simpa [shB, tkB] using scA_nil.sc
  | cons t l ih =>
    intro h
    simp only [shB, tkB]
    have := ScA.then (scA_space.app (scA_arrow.app scA_space)) ((h t (by simp)).app (ih fun U hU => h U (by simp [hU])) (shB_hd l))
    simpa using this
theorem sc_T : ∀ T, src T = true → Sc (shT T) (tkT T) := by
  refine tyInd fun T ih hs => ?_
  cases T with
  | mk k n i h ts =>
    simp only [src, Bool.and_eq_true] at hs
    obtain ⟨⟨-, hk⟩, hl⟩ := hs
    have ih' : ∀ U ∈ ts, Sc (shT U) (tkT U) := fun U hU => ih U hU (srcL_mem hl hU)
    simp only [shT, tkT]
    cases h5 : k == 5 with
    | true =>
      rw [h5] at hk
      simp only [if_true, Bool.and_eq_true] at hk ⊢
      exact sc_word (by rw [rkind_lo hk.1]; decide)
    | false =>
      rw [h5] at hk
      simp only [Bool.false_eq_true, if_false, Bool.and_eq_true] at hk ⊢
      cases ha : n.toList == [45, 62] with
      | true =>
        simp only [if_true]
        cases ts with
        | nil => simpa [shH, tkH] using scA_nil.sc
        | cons t l =>
          simp only [shH, tkH]
          exact (sc_brk (ih' t (by simp))).app (sc_B l fun U hU => ih' U (by simp [hU])) (shB_hd l)
      | false =>
        rw [ha] at hk
        simp only [Bool.false_eq_true, if_false] at hk ⊢
        exact (sc_word (x := bl n) (by rw [rkind_up hk.2]; decide)).app (sc_A ts ih') (shA_hd ts)
theorem isLo_len {l : List UInt8} (h : isLo l = true) : l.length ≤ 12 := by
  unfold isLo at h; simp only [Bool.and_eq_true, decide_eq_true_eq] at h; exact h.1.2
theorem isUp_len {l : List UInt8} (h : isUp l = true) : l.length ≤ 12 := by
  unfold isUp at h; simp only [Bool.and_eq_true, decide_eq_true_eq] at h; exact h.2
theorem brk_len (q : Bool) (l : List UInt8) : (brk q l).length ≤ l.length + 2 := by
  cases q <;> simp [brk]
theorem shT_len2 : ∀ T, src T = true → (shT T).length + 8 ≤ 23 * nodes T := by
  refine tyInd fun T ih hs => ?_
  cases T with
  | mk k n i h ts =>
    simp only [src, Bool.and_eq_true] at hs
    obtain ⟨⟨-, hk⟩, hl⟩ := hs
    have ih' : ∀ U ∈ ts, (shT U).length + 8 ≤ 23 * nodes U := fun U hU => ih U hU (srcL_mem hl hU)
    simp only [shT, nodes]
    cases h5 : k == 5 with
    | true =>
      rw [h5] at hk
      simp only [if_true, Bool.and_eq_true] at hk ⊢
      have := isLo_len hk.1
      omega
    | false =>
      rw [h5] at hk
      simp only [Bool.false_eq_true, if_false, Bool.and_eq_true] at hk ⊢
      cases ha : n.toList == [45, 62] with
      | true =>
        rw [ha] at hk
        simp only [if_true, beq_iff_eq] at hk ⊢
        match ts, hk.2 with
        | [a, c], _ =>
          have h1 := ih' a (by simp)
          have h2 := ih' c (by simp)
          have h3 := brk_len (isArr a) (shT a)
          simp only [shH, shB, nodesL, List.length_append, List.length_cons, List.length_nil]
          omega
      | false =>
        rw [ha] at hk
        simp only [Bool.false_eq_true, if_false] at hk ⊢
        have h1 := isUp_len hk.2
        have hA : ∀ l : List Ty, (∀ U ∈ l, (shT U).length + 8 ≤ 23 * nodes U) → (shA l).length ≤ 23 * nodesL l := by
          intro l
          induction l with
          | nil => intro _; simp [shA]
          | cons t l ihl =>
            intro hh
            have h1 := hh t (by simp)
            have h2 := ihl fun U hU => hh U (by simp [hU])
            have h3 := brk_len (conArgs t) (shT t)
            simp only [shA, nodesL, List.length_cons, List.length_append]
            omega
        have h2 := hA ts ih'
        rw [List.length_append]
        omega
end Go.Proofs.YtgcefodgjhlbeaaGreatDoor

/- Plain facts: the tokens of the canonical text of a written type are read as this type. -/
namespace Go.Proofs.YtgcefodgjhlbeaaGreatDoor
open Go.RowKit Go.Maps Mth

/-! Reading. -/
theorem at_tok {ts : List Tok} {i : Nat} {k : Int} {x : List UInt8} {rest : List (Int × List UInt8)} (h : (kt ts).drop i = (k, x) :: rest) :
    tkK ts i = k ∧ txt ts i = ⟨x.toArray⟩ ∧ (kt ts).drop (i + 1) = rest ∧ i < ts.length := by
  have hg : (kt ts)[i]? = some (k, x) := by
    have : ((kt ts).drop i)[0]? = some (k, x) := by rw [h]; rfl
    rwa [List.getElem?_drop, Nat.add_zero] at this
  have hd1 : (kt ts).drop (i + 1) = rest := by rw [← List.drop_drop, h]; rfl
  unfold kt at hg
  rw [List.getElem?_map] at hg
  obtain ⟨t, ht, he⟩ := Option.map_eq_some_iff.1 hg
  simp only [Prod.mk.injEq] at he
  refine ⟨?_, ?_, hd1, (List.getElem?_eq_some_iff.1 ht).1⟩
  · unfold tkK; rw [ht]; exact he.1
  · rw [txt_some ht, he.2]
theorem at_len {ts : List Tok} {i : Nat} {L : List (Int × List UInt8)} (h : (kt ts).drop i = L) : ts.length - i = L.length := by
  rw [← h, List.length_drop]; simp [kt]
theorem at_end {ts : List Tok} {i : Nat} (h : (kt ts).drop i = []) : tkK ts i = 0 := by
  have h2 : ts.length ≤ i := by
    have := at_len h
    simp at this; omega
  unfold tkK; rw [List.getElem?_eq_none h2]
theorem rMark_at {ts : List Tok} {i : Nat} {k : Int} {x : List UInt8} {rest : List (Int × List UInt8)} (h : (kt ts).drop i = (k, x) :: rest) (s : ByteArray) : rMark ts i s = (k == 5 && x == bl s) := by
  obtain ⟨h1, h2, -⟩ := at_tok h
  unfold rMark
  rw [h1, h2, Lib.toList_data, Lib.toList_data]
  rfl
theorem rMark_end {ts : List Tok} {i : Nat} (h : (kt ts).drop i = []) (s : ByteArray) : rMark ts i s = false := by
  unfold rMark; rw [at_end h]; rfl
/-- No argument, or no arrow, follows. -/
def NoArg (r : List (Int × List UInt8)) : Prop := ∀ k x q, r = (k, x) :: q → k ≠ 1 ∧ k ≠ 2 ∧ ¬ (k = 5 ∧ x = [40])
def NoArr (r : List (Int × List UInt8)) : Prop := ∀ k x q, r = (k, x) :: q → ¬ (k = 5 ∧ x = [45, 62])
theorem noArg_mark {x : List UInt8} {q : List (Int × List UInt8)} (h : x ≠ [40]) : NoArg ((5, x) :: q) := fun k y r e => by
  cases e; exact ⟨by decide, by decide, fun e => h e.2⟩
theorem noArr_mark {x : List UInt8} {q : List (Int × List UInt8)} (h : x ≠ [45, 62]) : NoArr ((5, x) :: q) := fun k y r e => by
  cases e; exact fun e => h e.2
theorem start_no {ts : List Tok} {i : Nat} {r : List (Int × List UInt8)} (h : (kt ts).drop i = r) (hn : NoArg r) : rStart ts i = false := by
  cases r with
  | nil => unfold rStart; rw [at_end h, rMark_end h]; rfl
  | cons a q =>
    obtain ⟨k, x⟩ := a
    obtain ⟨h1, h2, h3⟩ := hn k x q rfl
    unfold rStart
    rw [(at_tok h).1, rMark_at h]
    have e1 : (k == 1) = false := by simpa using h1
    have e2 : (k == 2) = false := by simpa using h2
    rw [e1, e2]
    cases hk : (k == 5) with
    | false => rfl
    | true =>
      have hx : ¬ x = [40] := fun e => h3 ⟨by simpa using hk, e⟩
      have : (x == bl ⟨#[40]⟩) = false := by rw [beq_eq_false_iff_ne]; exact hx
      rw [this]; rfl
theorem arrow_no {ts : List Tok} {i : Nat} {r : List (Int × List UInt8)} (h : (kt ts).drop i = r) (hn : NoArr r) : rMark ts i ⟨#[45, 62]⟩ = false := by
  cases r with
  | nil => exact rMark_end h _
  | cons a q =>
    obtain ⟨k, x⟩ := a
    have h3 := hn k x q rfl
    rw [rMark_at h]
    cases hk : (k == 5) with
    | false => rfl
    | true =>
      have hx : ¬ x = [45, 62] := fun e => h3 ⟨by simpa using hk, e⟩
      have : (x == bl ⟨#[45, 62]⟩) = false := by rw [beq_eq_false_iff_ne]; exact hx
      rw [this]; rfl
theorem atom_starts {f : Nat} {ts : List Tok} {i : Nat} {T : Ty} {j : Nat} (h : qAtom f ts i = some (.ok T j)) : rStart ts i = true := by
  cases f with
  | zero => simp [qAtom] at h
  | succ f =>
    unfold qAtom at h
    unfold rStart
    cases h1 : tkK ts i == 1 with
    | true => rfl
    | false =>
      cases h2 : tkK ts i == 2 with
      | true => rfl
      | false =>
        cases h3 : rMark ts i ⟨#[40]⟩ with
        | true => rfl
        | false => rw [h1, h2, h3] at h; simp at h
def AtomOk (T : Ty) : Prop := ∀ f ts i rest, (kt ts).drop i = wk (brkW (conArgs T) (tkT T)) ++ rest → 3 * (ts.length - i) + 1 ≤ f → qAtom f ts i = some (.ok T (i + (brkW (conArgs T) (tkT T)).length))
def HeadOk (T : Ty) : Prop := ∀ f ts i rest, (kt ts).drop i = wk (brkW (isArr T) (tkT T)) ++ rest → NoArg rest → 3 * (ts.length - i) + 2 ≤ f → qType (f + 1) ts i = qArrow f ts (i + (brkW (isArr T) (tkT T)).length) T
def TypeOk (T : Ty) : Prop := ∀ f ts i rest, (kt ts).drop i = wk (tkT T) ++ rest → NoArg rest → NoArr rest → 3 * (ts.length - i) + 3 ≤ f → qType f ts i = some (.ok T (i + (tkT T).length))
theorem drop_add {α : Type} {l : List α} {i : Nat} {a r : List α} (h : l.drop i = a ++ r) : l.drop (i + a.length) = r := by
  rw [← List.drop_drop, h, List.drop_left]
theorem wk_len (l : List (List UInt8)) : (wk l).length = l.length := by simp [wk]
theorem args_ok : ∀ l : List Ty, (∀ U ∈ l, AtomOk U) → ∀ f ts i acc rest, (kt ts).drop i = wk (tkA l) ++ rest → NoArg rest → 3 * (ts.length - i) + 2 ≤ f → qArgs f ts i acc = some (.ok (acc ++ l) (i + (tkA l).length)) := by
  intro l
  induction l with
  | nil =>
    intro _ f ts i acc rest h hn hf
    obtain ⟨f, rfl⟩ : ∃ g, f = g + 1 := ⟨f - 1, by omega⟩
    unfold qArgs
    rw [start_no (by simpa [tkA, wk] using h) hn]
    simp [tkA]
  | cons t l ih =>
    intro hA f ts i acc rest h hn hf
    obtain ⟨f, rfl⟩ : ∃ g, f = g + 1 := ⟨f - 1, by omega⟩
    simp only [tkA] at h ⊢
    rw [wk_app, List.append_assoc] at h
    have ha := hA t (by simp) f ts i _ h (by omega)
    unfold qArgs
    rw [atom_starts ha, ha]
    simp only [if_true]
    have hlt := rStart_lt (atom_starts ha)
    have hd := drop_add h
    rw [wk_len] at hd
    have hpos : 1 ≤ (brkW (conArgs t) (tkT t)).length := by
      cases hz : (brkW (conArgs t) (tkT t)).length with
      | zero =>
        rw [hz] at ha
        have := (goes_all ts f).1 i t (i + 0) ha
        omega
      | succ n => omega
    rw [ih (fun U hU => hA U (by simp [hU])) f ts _ (acc ++ [t]) rest hd hn (by omega), List.append_assoc, List.length_append, Nat.add_assoc]
    rfl
theorem wk_cons (x : List UInt8) (l : List (List UInt8)) : wk (x :: l) = (rkind x, x) :: wk l := rfl
theorem r40 : rkind [40] = 5 := by decide
theorem r41 : rkind [41] = 5 := by decide
theorem rAr : rkind [45, 62] = 5 := by decide
theorem enc_at {T : Ty} {f : Nat} {ts : List Tok} {i : Nat} {rest : List (Int × List UInt8)} (hT : TypeOk T) (h : (kt ts).drop i = wk ([40] :: (tkT T ++ [[41]])) ++ rest) (hf : 3 * (ts.length - i) + 1 ≤ f) :
    qAtom f ts i = some (.ok T (i + ([40] :: (tkT T ++ [[41]])).length)) := by
  obtain ⟨f, rfl⟩ : ∃ g, f = g + 1 := ⟨f - 1, by omega⟩
  rw [wk_cons, wk_app, r40] at h
  have h0 : (kt ts).drop i = (5, [40]) :: (wk (tkT T) ++ ((5, [41]) :: rest)) := by rw [h]; simp [wk, r41]
  obtain ⟨k1, -, d1, hlt⟩ := at_tok h0
  unfold qAtom
  rw [k1, rMark_at h0]
  have hq := hT f ts (i + 1) _ d1 (noArg_mark (by decide)) (noArr_mark (by decide)) (by omega)
  rw [if_neg (by decide), if_neg (by decide), if_pos (by decide), hq]
  have d2 := drop_add d1
  rw [wk_len] at d2
  simp only [qEncl]
  rw [rMark_at d2, if_pos (by decide)]
  simp only [List.length_cons, List.length_append, List.length_nil]
  congr 2
  omega
theorem ty_ok : ∀ T, src T = true → AtomOk T ∧ HeadOk T ∧ TypeOk T := by
  refine tyInd fun T ih hs => ?_
  cases T with
  | mk k n i h ts =>
    simp only [src, Bool.and_eq_true] at hs
    obtain ⟨⟨⟨hi0, hh0⟩, hk⟩, hl⟩ := hs
    rw [beq_iff_eq] at hi0 hh0
    subst hi0
    subst hh0
    have ih' : ∀ U ∈ ts, AtomOk U ∧ HeadOk U ∧ TypeOk U := fun U hU => ih U hU (srcL_mem hl hU)
    cases h5 : k == 5 with
    | true =>
      rw [h5] at hk
      have hk5 : k = 5 := by simpa using h5
      subst hk5
      simp only [if_true, Bool.and_eq_true, beq_iff_eq] at hk
      obtain ⟨hlo, hts⟩ := hk
      obtain rfl : ts = [] := List.eq_nil_of_length_eq_zero (by simpa using hts)
      have e1 : tkT (.mk 5 n 0 0 []) = [bl n] := by simp [tkT]
      have eC : conArgs (.mk 5 n 0 0 []) = false := rfl
      have eA : isArr (.mk 5 n 0 0 []) = false := rfl
      have hatom : ∀ f ts i rest, (kt ts).drop i = wk [bl n] ++ rest → qAtom (f + 1) ts i = some (.ok (.mk 5 n 0 0 []) (i + 1)) := by
        intro f ts i rest h
        obtain ⟨k1, t1, d1, hlt⟩ := at_tok (k := rkind (bl n)) (x := bl n) (rest := rest) (by rw [h]; rfl)
        rw [rkind_lo hlo] at k1
        unfold qAtom
        rw [k1, t1, if_pos (by decide), ← mk_bl n]
      have hhead : HeadOk (.mk 5 n 0 0 []) := by
        intro f ts i rest h hn hf
        rw [eA, e1] at *
        simp only [brkW, Bool.false_eq_true, if_false] at h ⊢
        obtain ⟨f, rfl⟩ : ∃ g, f = g + 1 := ⟨f - 1, by omega⟩
        obtain ⟨k1, -, d1, hlt⟩ := at_tok (k := rkind (bl n)) (x := bl n) (rest := rest) (by rw [h]; rfl)
        rw [rkind_lo hlo] at k1
        unfold qType
        rw [k1, if_neg (by decide), hatom f ts i rest h]
        rfl
      refine ⟨?_, hhead, ?_⟩
      · intro f ts i rest h hf
        rw [eC, e1] at *
        simp only [brkW, Bool.false_eq_true, if_false] at h ⊢
        obtain ⟨f, rfl⟩ : ∃ g, f = g + 1 := ⟨f - 1, by omega⟩
        exact hatom f ts i rest h
      · intro f ts i rest h hn hr hf
        obtain ⟨f, rfl⟩ : ∃ g, f = g + 2 := ⟨f - 2, by omega⟩
        have h' : (kt ts).drop i = wk (brkW (isArr (.mk 5 n 0 0 [])) (tkT (.mk 5 n 0 0 []))) ++ rest := by rw [eA]; exact h
        rw [hhead (f + 1) ts i rest h' hn (by omega)]
        have hd := drop_add h
        rw [wk_len] at hd
        unfold qArrow
        rw [eA]
        simp only [brkW, Bool.false_eq_true, if_false]
        rw [arrow_no hd hr]
        rfl
    | false =>
      rw [h5] at hk
      simp only [Bool.false_eq_true, if_false, Bool.and_eq_true] at hk
      obtain ⟨hk4, hk⟩ := hk
      rw [beq_iff_eq] at hk4
      subst hk4
      cases ha : n.toList == [45, 62] with
      | true =>
        rw [ha] at hk
        simp only [if_true, beq_iff_eq] at hk
        have hn : n = arrN := by
          rw [bl_eq]
          have := eq_of_beq ha
          rw [Lib.toList_data] at this
          exact this
        match ts, hk with
        | [a, c], _ =>
          obtain ⟨-, Ha, Fa⟩ := ih' a (by simp)
          obtain ⟨-, -, Fc⟩ := ih' c (by simp)
          have e1 : tkT (.mk 4 n 0 0 [a, c]) = brkW (isArr a) (tkT a) ++ [45, 62] :: tkT c := by simp [tkT, ha, tkH, tkB]
          have eA : isArr (.mk 4 n 0 0 [a, c]) = true := by simp [isArr, Ty.k, Ty.n, ha]
          have eC : conArgs (.mk 4 n 0 0 [a, c]) = true := rfl
          have F : TypeOk (.mk 4 n 0 0 [a, c]) := by
            intro f ts i rest h hnA hnR hf
            obtain ⟨f, rfl⟩ : ∃ g, f = g + 2 := ⟨f - 2, by omega⟩
            rw [e1] at h ⊢
            have h0 : (kt ts).drop i = wk (brkW (isArr a) (tkT a)) ++ ((5, [45, 62]) :: (wk (tkT c) ++ rest)) := by rw [h]; simp [wk, rAr]
            have hlen := at_len h0
            rw [Ha (f + 1) ts i _ h0 (noArg_mark (by decide)) (by omega)]
            have d1 := drop_add h0
            rw [wk_len] at d1
            obtain ⟨-, -, d2, hlt⟩ := at_tok d1
            unfold qArrow
            rw [rMark_at d1, if_pos (by decide)]
            simp only [List.length_append, List.length_cons, wk_len] at hlen
            rw [Fc f ts _ rest d2 hnA hnR (by omega), hn]
            simp only [List.length_append, List.length_cons]
            congr 2
            omega
          refine ⟨?_, ?_, F⟩
          · intro f ts i rest h hf
            rw [eC] at h ⊢
            exact enc_at F h hf
          · intro f ts i rest h hnA hf
            rw [eA] at h ⊢
            have ha := enc_at (f := f) F h (by omega)
            have h0 : (kt ts).drop i = (5, [40]) :: (wk (tkT (.mk 4 n 0 0 [a, c]) ++ [[41]]) ++ rest) := by rw [h]; simp [brkW, wk, r40]
            unfold qType
            rw [(at_tok h0).1, if_neg (by decide), ha]
            rfl
      | false =>
        rw [ha] at hk
        simp only [Bool.false_eq_true, if_false] at hk
        have e1 : tkT (.mk 4 n 0 0 ts) = bl n :: tkA ts := by simp [tkT, ha]
        have eA : isArr (.mk 4 n 0 0 ts) = false := by simp [isArr, Ty.k, Ty.n, ha]
        have H : HeadOk (.mk 4 n 0 0 ts) := by
          intro f us i rest h hnA hf
          rw [eA, e1] at *
          simp only [brkW, Bool.false_eq_true, if_false] at h ⊢
          obtain ⟨k1, t1, d1, hlt⟩ := at_tok (k := rkind (bl n)) (x := bl n) (rest := wk (tkA ts) ++ rest) (by rw [h]; rfl)
          rw [rkind_up hk] at k1
          unfold qType
          rw [k1, t1, if_pos (by decide), args_ok ts (fun U hU => (ih' U hU).1) f us (i + 1) [] rest d1 hnA (by omega), ← mk_bl n]
          simp only [List.nil_append, List.length_cons]
          congr 1
          omega
        have F : TypeOk (.mk 4 n 0 0 ts) := by
          intro f us i rest h hnA hnR hf
          obtain ⟨f, rfl⟩ : ∃ g, f = g + 2 := ⟨f - 2, by omega⟩
          have h' : (kt us).drop i = wk (brkW (isArr (.mk 4 n 0 0 ts)) (tkT (.mk 4 n 0 0 ts))) ++ rest := by rw [eA]; exact h
          rw [H (f + 1) us i rest h' hnA (by omega)]
          have hd := drop_add h
          rw [wk_len] at hd
          unfold qArrow
          rw [eA]
          simp only [brkW, Bool.false_eq_true, if_false]
          rw [arrow_no hd hnR]
          rfl
        refine ⟨?_, H, F⟩
        intro f us i rest h hf
        cases hc : conArgs (.mk 4 n 0 0 ts) with
        | true =>
          rw [hc] at h
          exact enc_at F h hf
        | false =>
          rw [hc] at h
          simp only [brkW, Bool.false_eq_true, if_false] at h ⊢
          obtain rfl : ts = [] := by
            cases ts with
            | nil => rfl
            | cons t l => simp [conArgs, Ty.k, Ty.ts] at hc
          have e2 : tkT (.mk 4 n 0 0 []) = [bl n] := by rw [e1]; rfl
          rw [e2] at h ⊢
          obtain ⟨f, rfl⟩ : ∃ g, f = g + 1 := ⟨f - 1, by omega⟩
          obtain ⟨k1, t1, d1, hlt⟩ := at_tok (k := rkind (bl n)) (x := bl n) (rest := rest) (by rw [h]; rfl)
          rw [rkind_up hk] at k1
          unfold qAtom
          rw [k1, t1, if_neg (by decide), if_pos (by decide), ← mk_bl n]
          rfl
/-! Superfluous parentheses; lengths. -/
/-- The text in so many parentheses, and its tokens. -/
def parT : Nat → List UInt8 → List UInt8
  | 0, l => l
  | n + 1, l => 40 :: (parT n l ++ [41])
def parTk : Nat → List (List UInt8) → List (List UInt8)
  | 0, l => l
  | n + 1, l => [40] :: (parTk n l ++ [[41]])
theorem par_sc {l : List UInt8} {a : List (List UInt8)} (h : Sc l a) : ∀ n, Sc (parT n l) (parTk n a)
  | 0 => h
  | n + 1 => (Sc.par (par_sc h n)).sc
theorem parT_len (l : List UInt8) : ∀ n, (parT n l).length = l.length + 2 * n
  | 0 => rfl
  | n + 1 => by simp only [parT, List.length_cons, List.length_append, List.length_nil, parT_len l n]; omega
end Go.Proofs.YtgcefodgjhlbeaaGreatDoor

/- The canonical text of a written type: what the reference's functions return. -/
namespace Go.Proofs.YtgcefodgjhlbeaaGreatDoor
open Go.RowKit Go.Maps Mth

theorem src_arr {T : Ty} (h : src T = true) (ha : isArr T = true) : ∃ a c, T.ts = [a, c] := by
  cases T with
  | mk k n i hm ts =>
    simp only [isArr, Ty.k, Ty.n, Bool.and_eq_true] at ha
    obtain ⟨h4, hn⟩ := ha
    rw [beq_iff_eq] at h4
    subst h4
    simp only [src, Bool.and_eq_true] at h
    obtain ⟨⟨-, hk⟩, -⟩ := h
    have e5 : ((4 : Int) == 5) = false := rfl
    rw [e5] at hk
    simp only [Bool.false_eq_true, if_false, Bool.and_eq_true] at hk
    rw [hn] at hk
    simp only [if_true, beq_iff_eq] at hk
    match ts, hk.2 with
    | [a, c], _ => exact ⟨a, c, rfl⟩
/-- What IsArrow returns. -/
def IsArrEnd (w : World) (S : Nat → Prop) (T : Ty) (e : Ending) (w' : World) : Prop :=
  ∃ k0 n0 i0 h0 a0 m0 c0 k1 n1 i1 h1 a1 m1 c1, e = .returned (.tuple #[.agg #[.int .i64 k0, .string n0, .int .i64 i0, .int .i64 h0, .slice a0 m0 c0], .agg #[.int .i64 k1, .string n1, .int .i64 i1, .int .i64 h1, .slice a1 m1 c1], .bool (isArr T)]) ∧ Below w.heap.size w w' ∧
    (isArr T = true → ∀ a c, T.ts = [a, c] → Rep w' S a (.agg #[.int .i64 k0, .string n0, .int .i64 i0, .int .i64 h0, .slice a0 m0 c0]) ∧ Rep w' S c (.agg #[.int .i64 k1, .string n1, .int .i64 i1, .int .i64 h1, .slice a1 m1 c1]))
/-- The worlds of IsArrow: the parameter, the two results. -/
structure IA (w V : World) (c0 c1 c2 c3 c4 : Value) : Prop where
  par : Box V w.heap.size c0 c1 c2 c3 c4
  r0 : Zero V (w.heap.size + 1)
  r1 : Zero V (w.heap.size + 1 + 1)
  low : Below w.heap.size w V
theorem ia_new (w : World) (c0 c1 c2 c3 c4 : Value) : IA w (((w.alloc (.cells #[c0, c1, c2, c3, c4] 32)).alloc (.cells #[.int .i64 0, .string ⟨#[]⟩, .int .i64 0, .int .i64 0, .slice none 0 0] 32)).alloc (.cells #[.int .i64 0, .string ⟨#[]⟩, .int .i64 0, .int .i64 0, .slice none 0 0] 32)) c0 c1 c2 c3 c4 := by
  refine ⟨?_, ?_, ?_, (((Below.refl _ w).alloc (Nat.le_refl _) _).alloc (by simp) _).alloc (by simp; omega) _⟩
  · unfold Box; rw [heap_at, if_neg (by simp; omega), heap_at, if_neg (by simp), heap_at, if_pos rfl]
  · show Box _ _ _ _ _ _ _
    unfold Box; rw [heap_at, if_neg (by simp), heap_at, if_pos (by simp)]
  · show Box _ _ _ _ _ _ _
    unfold Box; rw [heap_at, if_pos (by simp)]
theorem IA.fin1 {w V : World} {c0 c1 c2 c3 c4 : Value} (h : IA w V c0 c1 c2 c3 c4) (v0 v1 v2 v3 v4 : Value) :
    Box (((((V.setCell ⟨w.heap.size + 1, 0, none⟩ v0).setCell ⟨w.heap.size + 1, 1, none⟩ v1).setCell ⟨w.heap.size + 1, 2, none⟩ v2).setCell ⟨w.heap.size + 1, 3, none⟩ v3).setCell ⟨w.heap.size + 1, 4, none⟩ v4) (w.heap.size + 1) v0 v1 v2 v3 v4 ∧ Zero (((((V.setCell ⟨w.heap.size + 1, 0, none⟩ v0).setCell ⟨w.heap.size + 1, 1, none⟩ v1).setCell ⟨w.heap.size + 1, 2, none⟩ v2).setCell ⟨w.heap.size + 1, 3, none⟩ v3).setCell ⟨w.heap.size + 1, 4, none⟩ v4) (w.heap.size + 1 + 1) ∧ Below w.heap.size w (((((V.setCell ⟨w.heap.size + 1, 0, none⟩ v0).setCell ⟨w.heap.size + 1, 1, none⟩ v1).setCell ⟨w.heap.size + 1, 2, none⟩ v2).setCell ⟨w.heap.size + 1, 3, none⟩ v3).setCell ⟨w.heap.size + 1, 4, none⟩ v4) := by
  obtain ⟨hB, hG, -⟩ := set5 h.r0 v0 v1 v2 v3 v4
  have h1 := h.r1.kept (hG.block _ h.r1.lt (by intro e; have := Option.some.inj e; omega))
  have hL := Below.grown h.low hG h.low.size (fun k hk => by have := Option.some.inj hk; omega)
  generalize (((((V.setCell ⟨w.heap.size + 1, 0, none⟩ v0).setCell ⟨w.heap.size + 1, 1, none⟩ v1).setCell ⟨w.heap.size + 1, 2, none⟩ v2).setCell ⟨w.heap.size + 1, 3, none⟩ v3).setCell ⟨w.heap.size + 1, 4, none⟩ v4) = V1 at *
  exact ⟨hB, h1, hL⟩
theorem fin2 {w V : World} {v0 v1 v2 v3 v4 : Value} (hB : Box V (w.heap.size + 1) v0 v1 v2 v3 v4) (h1 : Zero V (w.heap.size + 1 + 1)) (hL : Below w.heap.size w V) (u0 u1 u2 u3 u4 : Value) :
    Box (((((V.setCell ⟨w.heap.size + 1 + 1, 0, none⟩ u0).setCell ⟨w.heap.size + 1 + 1, 1, none⟩ u1).setCell ⟨w.heap.size + 1 + 1, 2, none⟩ u2).setCell ⟨w.heap.size + 1 + 1, 3, none⟩ u3).setCell ⟨w.heap.size + 1 + 1, 4, none⟩ u4).drew (w.heap.size + 1) v0 v1 v2 v3 v4 ∧ Box (((((V.setCell ⟨w.heap.size + 1 + 1, 0, none⟩ u0).setCell ⟨w.heap.size + 1 + 1, 1, none⟩ u1).setCell ⟨w.heap.size + 1 + 1, 2, none⟩ u2).setCell ⟨w.heap.size + 1 + 1, 3, none⟩ u3).setCell ⟨w.heap.size + 1 + 1, 4, none⟩ u4).drew (w.heap.size + 1 + 1) u0 u1 u2 u3 u4 ∧ Below w.heap.size w (((((V.setCell ⟨w.heap.size + 1 + 1, 0, none⟩ u0).setCell ⟨w.heap.size + 1 + 1, 1, none⟩ u1).setCell ⟨w.heap.size + 1 + 1, 2, none⟩ u2).setCell ⟨w.heap.size + 1 + 1, 3, none⟩ u3).setCell ⟨w.heap.size + 1 + 1, 4, none⟩ u4).drew := by
  obtain ⟨hB2, hG2, -⟩ := set5 h1 u0 u1 u2 u3 u4
  have h3 := hB.kept (hG2.block _ hB.lt (by intro e; have := Option.some.inj e; omega))
  have h4 := Below.grown hL hG2 hL.size (fun k hk => by have := Option.some.inj hk; omega)
  generalize (((((V.setCell ⟨w.heap.size + 1 + 1, 0, none⟩ u0).setCell ⟨w.heap.size + 1 + 1, 1, none⟩ u1).setCell ⟨w.heap.size + 1 + 1, 2, none⟩ u2).setCell ⟨w.heap.size + 1 + 1, 3, none⟩ u3).setCell ⟨w.heap.size + 1 + 1, 4, none⟩ u4) = V1 at *
  exact ⟨h3, hB2, h4.drew⟩
theorem five0 {w : World} {ad : Addr} {v0 v1 v2 v3 v4 : Value} (h5 : Five w ad 0 (.agg #[v0, v1, v2, v3, v4])) :
    w.cell? ad = some v0 ∧ w.cell? ⟨ad.block, ad.off + 1, none⟩ = some v1 ∧ w.cell? ⟨ad.block, ad.off + 2, none⟩ = some v2 ∧ w.cell? ⟨ad.block, ad.off + 3, none⟩ = some v3 ∧ w.cell? ⟨ad.block, ad.off + 4, none⟩ = some v4 := by
  obtain ⟨c0, c1, c2, c3, c4, hv, h⟩ := h5
  simp at hv
  obtain ⟨rfl, rfl, rfl, rfl, rfl⟩ := hv
  have e : ad.add (0 * 5) = ad := by unfold Addr.add; simp
  rw [e] at h
  exact h
theorem five1 {w : World} {ad : Addr} {v0 v1 v2 v3 v4 : Value} (h5 : Five w ad 1 (.agg #[v0, v1, v2, v3, v4])) :
    w.cell? ⟨ad.block, ad.off + 5, none⟩ = some v0 ∧ w.cell? ⟨ad.block, ad.off + 5 + 1, none⟩ = some v1 ∧ w.cell? ⟨ad.block, ad.off + 5 + 2, none⟩ = some v2 ∧ w.cell? ⟨ad.block, ad.off + 5 + 3, none⟩ = some v3 ∧ w.cell? ⟨ad.block, ad.off + 5 + 4, none⟩ = some v4 := by
  obtain ⟨c0, c1, c2, c3, c4, hv, h⟩ := h5
  simp at hv
  obtain ⟨rfl, rfl, rfl, rfl, rfl⟩ := hv
  have e : ad.add (1 * 5) = ⟨ad.block, ad.off + 5, none⟩ := by unfold Addr.add; simp
  rw [e] at h
  exact h
set_option maxRecDepth 100000 in
set_option maxHeartbeats 3200000 in
theorem isArrow_any (T : Ty) (hT : isArr T = true → ∃ a c, T.ts = [a, c]) (v : Value) (S : Nat → Prop) (w : World) (h : Rep w S T v) :
    Calls Tryz.prog 45 #[v] w (IsArrEnd w S T) := by
  have HR := Lib.hid h
  obtain ⟨k, n, i, hm, s, eT, rfl, hn, hs⟩ := h.open
  obtain ⟨sa, sc, rfl, hcap, hj⟩ := hs
  have hk : T.k = k := by rw [eT]; rfl
  have hn' : T.n = n := by rw [eT]; rfl
  have HIA := Lib.hid (ia_new w (.int .i64 k) (.string n) (.int .i64 i) (.int .i64 hm) (.slice sa T.ts.length sc))
  have HA : Hid (isArr T = (k == 4 && n.toList == [45, 62])) := by show _ = _; unfold isArr; rw [hk, hn']
  have HJ := Lib.hid hj
  clear h eT hn hk hn' hj
  have HF : isArr T = false → ∀ V : World, Below w.heap.size w V → IsArrEnd w S T (.returned (.tuple #[.agg #[.int .i64 0, .string ⟨#[]⟩, .int .i64 0, .int .i64 0, .slice none 0 0], .agg #[.int .i64 0, .string ⟨#[]⟩, .int .i64 0, .int .i64 0, .slice none 0 0], .bool false])) V := fun h V hV =>
    ⟨_, _, _, _, _, _, _, _, _, _, _, _, _, _, by rw [h], hV, fun h' => by rw [h] at h'; cases h'⟩
  cases h4 : (k == 4) with
  | false =>
    have HE := Lib.hid (HF (by rw [HA.out, h4]; rfl) _ HIA.out.low)
    clear HJ hT HA HF HIA HR
    generalize T.ts.length = tn at *
    go_enter Tryz.func45, Tryz.ntmps45
    go_wp2
    refine bodyPost_ret (by simp [results, Tryz.results45, go_sem]; try rfl) rfl ?_
    exact HE.out
  | true =>
    cases hA : (n.toList == [45, 62]) with
    | false =>
      have HE := Lib.hid (HF (by rw [HA.out, h4, hA]; rfl) _ HIA.out.low)
      clear HJ hT HA HF HIA HR
      generalize T.ts.length = tn at *
      go_enter Tryz.func45, Tryz.ntmps45
      go_wp2
      refine bodyPost_ret (by simp [results, Tryz.results45, go_sem]; try rfl) rfl ?_
      exact HE.out
    | true =>
      have HI : Hid (isArr T = true) := by show _ = _; rw [HA.out, h4, hA]; rfl
      obtain ⟨a, c, eTs⟩ := hT HI.out
      have HTs := Lib.hid eTs
      obtain ⟨ad, x, rfl, hS0, h50, hx0⟩ := HJ.out 0 a (by rw [eTs]; rfl)
      obtain ⟨ad', y, e', hS1, h51, hx1⟩ := HJ.out 1 c (by rw [eTs]; rfl)
      cases e'
      have hlen : T.ts.length = 2 := by rw [eTs]; rfl
      rw [hlen] at HIA HR hcap ⊢
      clear eTs HJ hT HA HF hlen
      obtain ⟨k0, n0, i0, m0, s0, -, rfl, -, hs0⟩ := hx0.open
      obtain ⟨a0, p0, rfl, -⟩ := hs0
      obtain ⟨k1, n1, i1, m1, s1, -, rfl, -, hs1⟩ := hx1.open
      obtain ⟨a1, p1, rfl, -⟩ := hs1
      have HX0 := Lib.hid hx0
      have HX1 := Lib.hid hx1
      generalize a.ts.length = l0 at *
      generalize c.ts.length = l1 at *
      have HG0 := Lib.hid h50
      have HG1 := Lib.hid h51
      have had : ad.block < w.heap.size := h50.lt
      clear hx0 hx1 h50 h51 hS0 hS1
      go_enter Tryz.func45, Tryz.ntmps45
      go_upto_region 1 with fail
      generalize (((w.alloc (.cells #[.int .i64 k, .string n, .int .i64 i, .int .i64 hm, .slice (some ad) 2 sc] 32)).alloc (.cells #[.int .i64 0, .string ⟨#[]⟩, .int .i64 0, .int .i64 0, .slice none 0 0] 32)).alloc (.cells #[.int .i64 0, .string ⟨#[]⟩, .int .i64 0, .int .i64 0, .slice none 0 0] 32)) = V at *
      have g0 := HG0.out.kept (HIA.out.low.block _ had)
      have g1 := HG1.out.kept (HIA.out.low.block _ had)
      obtain ⟨q0, q1, q2, q3, q4⟩ := five0 g0
      obtain ⟨u0, u1, u2, u3, u4⟩ := five1 g1
      obtain ⟨b0, b1, b2, b3, b4⟩ := HIA.out.par.cells
      obtain ⟨t0, t1, t2, t3, t4⟩ := HIA.out.r0.cells
      obtain ⟨f0, f1, f2, f3, f4⟩ := HIA.out.r0.frozen
      obtain ⟨z0, z1, z2, z3, z4⟩ := HIA.out.r1.cells
      obtain ⟨y0, y1, y2, y3, y4⟩ := HIA.out.r1.frozen
      clear g0 g1
      go_wp2
      go_region
      all_goals
        obtain ⟨hA0, hA1, hA2⟩ := HIA.out.fin1 (.int .i64 k0) (.string n0) (.int .i64 i0) (.int .i64 m0) (.slice a0 l0 p0)
        clear q0 q1 q2 q3 q4 u0 u1 u2 u3 u4 b0 b1 b2 b3 b4 t0 t1 t2 t3 t4 f0 f1 f2 f3 f4 z0 z1 z2 z3 z4 y0 y1 y2 y3 y4
        generalize (((((V.setCell ⟨w.heap.size + 1, 0, none⟩ (.int .i64 k0)).setCell ⟨w.heap.size + 1, 1, none⟩ (.string n0)).setCell ⟨w.heap.size + 1, 2, none⟩ (.int .i64 i0)).setCell ⟨w.heap.size + 1, 3, none⟩ (.int .i64 m0)).setCell ⟨w.heap.size + 1, 4, none⟩ (.slice a0 l0 p0)) = V1 at *
        obtain ⟨hB0, hB1, hL⟩ := fin2 hA0 hA1 hA2 (.int .i64 k1) (.string n1) (.int .i64 i1) (.int .i64 m1) (.slice a1 l1 p1)
        clear hA0 hA1 hA2
        generalize (((((V1.setCell ⟨w.heap.size + 1 + 1, 0, none⟩ (.int .i64 k1)).setCell ⟨w.heap.size + 1 + 1, 1, none⟩ (.string n1)).setCell ⟨w.heap.size + 1 + 1, 2, none⟩ (.int .i64 i1)).setCell ⟨w.heap.size + 1 + 1, 3, none⟩ (.int .i64 m1)).setCell ⟨w.heap.size + 1 + 1, 4, none⟩ (.slice a1 l1 p1)).drew = X at *
        obtain ⟨c0, c1, c2, c3, c4⟩ := hB0.cells
        obtain ⟨d0, d1, d2, d3, d4⟩ := hB1.cells
        go_wp2
        refine bodyPost_ret (by simp [results, Tryz.results45, go_sem, c0, c1, c2, c3, c4, d0, d1, d2, d3, d4]; try rfl) rfl ?_
        refine ⟨_, _, _, _, _, _, _, _, _, _, _, _, _, _, by rw [HI.out], hL, fun _ a' c' e' => ?_⟩
        rw [HTs.out] at e'
        cases e'
        exact ⟨HX0.out.lift hL, HX1.out.lift hL⟩
end Go.Proofs.YtgcefodgjhlbeaaGreatDoor

/- The canonical text of a written type: the reference's Type and argument return it. -/
namespace Go.Proofs.YtgcefodgjhlbeaaGreatDoor
open Go.RowKit Go.Maps Mth

theorem bl_app (s t : ByteArray) : bl (s ++ t) = bl s ++ bl t := by unfold bl; simp [ByteArray.data_append]
def ShEnd (w : World) (l : List UInt8) (e : Ending) (w' : World) : Prop := ∃ s, e = .returned (.string s) ∧ bl s = l ∧ Below w.heap.size w w'
def ShAt (T : Ty) : Prop := src T = true → nodes T ≤ 100000 → ∀ (v : Value) (S : Nat → Prop) (w : World), Rep w S T v → Calls Tryz.prog 26 #[v] w (ShEnd w (shT T))
theorem shA_app (x y : List Ty) : shA (x ++ y) = shA x ++ shA y := by
  induction x with
  | nil => rfl
  | cons t x ih => simp only [List.cons_append, shA, ih, List.append_assoc]
theorem src_k {T : Ty} (h : src T = true) : T.k = 5 ∨ T.k = 4 := by
  cases T with
  | mk k n i h ts =>
    simp only [src, Bool.and_eq_true] at h
    obtain ⟨⟨-, hk⟩, -⟩ := h
    by_cases h5 : k = 5
    · exact .inl h5
    · have e : (k == 5) = false := by simpa using h5
      rw [e] at hk
      simp only [Bool.false_eq_true, if_false, Bool.and_eq_true, beq_iff_eq] at hk
      exact .inr hk.1
theorem shT_5 {T : Ty} (h : T.k = 5) : shT T = bl T.n := by
  cases T with
  | mk k n i hm ts => obtain rfl : k = 5 := h; rfl
theorem shT_arr {T a c : Ty} (h : isArr T = true) (hts : T.ts = [a, c]) : shT T = brk (isArr a) (shT a) ++ (32 :: ([45, 62] ++ 32 :: shT c)) := by
  cases T with
  | mk k n i hm ts =>
    obtain rfl : ts = [a, c] := hts
    simp only [isArr, Ty.k, Ty.n, Bool.and_eq_true, beq_iff_eq] at h
    obtain ⟨rfl, hn⟩ := h
    simp only [shT]
    rw [if_neg (by decide), if_pos (by simp [hn])]
    simp [shH, shB]
theorem shT_app {T : Ty} (h4 : T.k = 4) (h : isArr T = false) : shT T = bl T.n ++ shA T.ts := by
  cases T with
  | mk k n i hm ts =>
    obtain rfl : k = 4 := h4
    simp only [isArr, Ty.k, Ty.n] at h
    have hn : (n.toList == [45, 62]) = false := by simpa using h
    simp only [shT, Ty.n, Ty.ts]
    rw [if_neg (by decide), hn]
    rfl
theorem src_ts {T : Ty} (h : src T = true) {U : Ty} (hU : U ∈ T.ts) : src U = true := by
  cases T with
  | mk k n i hm ts =>
    simp only [src, Bool.and_eq_true] at h
    exact srcL_mem h.2 hU
theorem conArgs_of {T : Ty} {k : Int} {m : Nat} (hk : T.k = k) (hm : T.ts.length = m) : conArgs T = (k == 4 && m != 0) := by unfold conArgs; rw [hk, hm]
theorem par_bl (s : ByteArray) (l : List UInt8) (h : bl s = l) : bl (⟨#[40]⟩ ++ s ++ ⟨#[41]⟩) = 40 :: (l ++ [41]) := by
  rw [bl_app, bl_app, h]; rfl
theorem sh_len {T : Ty} (hs : src T = true) (hn : nodes T ≤ 100000) : (shT T).length ≤ 2300000 := by
  have := shT_len2 T hs
  omega
theorem shA_take (l : List Ty) (j : Nat) : (shA (l.take j)).length ≤ (shA l).length := by
  have := congrArg List.length (shA_app (l.take j) (l.drop j))
  rw [List.take_append_drop, List.length_append] at this
  omega
theorem nodes_ts {T U : Ty} (hU : U ∈ T.ts) : nodes U ≤ nodes T := by
  cases T with
  | mk k n i h ts =>
    have := nodesL_mem (l := ts) hU
    simp only [nodes]
    omega
set_option maxHeartbeats 1600000 in
theorem argument_of (T : Ty) (H : ShAt T) (hs : src T = true) (hn : nodes T ≤ 100000) (v : Value) (S : Nat → Prop) (w : World) (h : Rep w S T v) :
    Calls Tryz.prog 46 #[v] w (ShEnd w (brk (conArgs T) (shT T))) := by
  have HC : Hid (∀ V, Below w.heap.size w V → Calls Tryz.prog 26 #[v] V (ShEnd V (shT T))) := fun V hV => H hs hn v S V (h.lift hV)
  have HL := Lib.hid (sh_len hs hn)
  obtain ⟨k, n, i, hm, s, eT, rfl, -, sa, sc, rfl, hcap, hj⟩ := h.open
  have hk : T.k = k := by rw [eT]; rfl
  have HCA := Lib.hid (conArgs_of hk rfl)
  have HK := Lib.hid (src_k hs)
  rw [hk] at HK
  clear h H hs eT hn hk hj hcap
  generalize T.ts.length = m at *
  have hb1 : ∀ X, Below w.heap.size w (w.alloc (.cells X 32)) := fun X => (Below.refl _ w).alloc (Nat.le_refl _) _
  have HB := Lib.hid hb1
  clear hb1
  rcases HK.out with rfl | rfl
  · have HE : Hid (conArgs T = false) := by show _ = _; rw [HCA.out]; rfl
    clear HCA HK
    rw [HE.out]
    go_enter Tryz.func46, Tryz.ntmps46
    go_wp2_with fail
    go_at_call 26
    refine (HC.out _ (HB.out _)).mono ?_
    rintro e w1 ⟨s, rfl, hs, hb⟩
    go_wp2
    go_ret
    exact ⟨_, rfl, hs, (HB.out _).trans (hb.mono (HB.out _).size)⟩
  · by_cases h0 : m = 0
    · subst h0
      have HE : Hid (conArgs T = false) := by show _ = _; rw [HCA.out]; rfl
      clear HCA HK
      rw [HE.out]
      go_enter Tryz.func46, Tryz.ntmps46
      go_wp2_with fail
      go_at_call 26
      refine (HC.out _ (HB.out _)).mono ?_
      rintro e w1 ⟨s, rfl, hs, hb⟩
      go_wp2
      go_ret
      exact ⟨_, rfl, hs, (HB.out _).trans (hb.mono (HB.out _).size)⟩
    · have HE : Hid (conArgs T = true) := by show _ = _; rw [HCA.out]; simp [h0]
      have hpos : 0 < m := by omega
      have hp2 : decide ((0 : Int) < (m : Int)) = true := by simpa using hpos
      clear HCA HK h0
      rw [HE.out]
      go_enter Tryz.func46, Tryz.ntmps46
      go_wp2_with fail
      go_at_call 26
      refine (HC.out _ (HB.out _)).mono ?_
      rintro e w1 ⟨s, rfl, hs, hb⟩
      have hz : s.size ≤ 2300000 := by rw [← bl_len, hs]; exact HL.out
      have HS := Lib.hid hs
      clear hs HL
      go_wp2
      go_ret
      exact ⟨_, rfl, par_bl _ _ HS.out, (HB.out _).trans (hb.mono (HB.out _).size)⟩

set_option maxHeartbeats 3200000 in
theorem show_name (T : Ty) (h5 : T.k = 5) (v : Value) (S : Nat → Prop) (w : World) (h : Rep w S T v) : Calls Tryz.prog 26 #[v] w (ShEnd w (shT T)) := by
  obtain ⟨k, n, i, hm, s, eT, rfl, -, sa, sc, rfl, hcap, hj⟩ := h.open
  obtain rfl : k = 5 := by rw [← h5, eT]; rfl
  have HE : Hid (bl n = shT T) := by show _ = _; rw [shT_5 h5, eT]; rfl
  clear h h5 hj hcap eT
  generalize T.ts.length = m at *
  go_enter Tryz.func26, Tryz.ntmps26
  go_wp2
  go_ret
  exact ⟨_, rfl, HE.out, (Below.refl _ w).alloc (Nat.le_refl _) _⟩
set_option maxRecDepth 100000 in
set_option maxHeartbeats 6400000 in
theorem show_arr (T a c : Ty) (hA : isArr T = true) (hts : T.ts = [a, c]) (Ha : ShAt a) (Hc : ShAt c) (hs : src T = true) (hn : nodes T ≤ 100000) (v : Value) (S : Nat → Prop) (w : World) (h : Rep w S T v) :
    Calls Tryz.prog 26 #[v] w (ShEnd w (shT T)) := by
  have hsa := src_ts hs (U := a) (by rw [hts]; simp)
  have hsc := src_ts hs (U := c) (by rw [hts]; simp)
  have hna := nodes_ts (T := T) (U := a) (by rw [hts]; simp)
  have hnc := nodes_ts (T := T) (U := c) (by rw [hts]; simp)
  have HCa : Hid (∀ v S V, Rep V S a v → Calls Tryz.prog 26 #[v] V (ShEnd V (shT a))) := fun v S V hr => Ha hsa (by omega) v S V hr
  have HCc : Hid (∀ v S V, Rep V S c v → Calls Tryz.prog 26 #[v] V (ShEnd V (shT c))) := fun v S V hr => Hc hsc (by omega) v S V hr
  have HIs : Hid (∀ V, Below w.heap.size w V → Calls Tryz.prog 45 #[v] V (IsArrEnd V S T)) := fun V hV => isArrow_any T (fun _ => ⟨a, c, hts⟩) v S V (h.lift hV)
  have HIa : Hid (∀ v S V, Rep V S a v → Calls Tryz.prog 45 #[v] V (IsArrEnd V S a)) := fun v S V hr => isArrow_any a (fun ha => src_arr hsa ha) v S V hr
  have HLa := Lib.hid (sh_len hsa (by omega))
  have HLc := Lib.hid (sh_len hsc (by omega))
  have HE := Lib.hid (shT_arr hA hts)
  have HTs := Lib.hid hts
  have HAr := Lib.hid hA
  obtain ⟨k, n, i, hm, s, eT, rfl, -, sa, sc, rfl, hcap, hj⟩ := h.open
  obtain rfl : k = 4 := by
    rw [eT] at hA
    simp only [isArr, Ty.k, Bool.and_eq_true, beq_iff_eq] at hA
    exact hA.1
  have hb1 : ∀ X, Below w.heap.size w (w.alloc (.cells X 32)) := fun X => (Below.refl _ w).alloc (Nat.le_refl _) _
  have HB := Lib.hid hb1
  clear hb1 h hA hts Ha Hc hs hn hsa hsc hna hnc eT hcap hj
  generalize T.ts.length = m at *
  go_enter Tryz.func26, Tryz.ntmps26
  go_wp2_with fail
  go_at_call 45
  refine (HIs.out _ (HB.out _)).mono ?_
  rintro e w1 ⟨k0, n0, i0, m0, a0, l0, p0, k1, n1, i1, m1, a1, l1, p1, rfl, hb1, hr⟩
  obtain ⟨hr0, hr1⟩ := hr HAr.out a c HTs.out
  rw [HAr.out]
  have HR0 := Lib.hid hr0
  have HR1 := Lib.hid hr1
  have HL1 := Lib.hid ((HB.out _).trans (hb1.mono (HB.out _).size))
  clear hr0 hr1 hr hb1 HIs
  go_upto_region 11 with fail
  have hV : Below w1.heap.size w1 ((w1.alloc (.cells #[.int .i64 k0, .string n0, .int .i64 i0, .int .i64 m0, .slice a0 l0 p0] 32)).alloc (.cells #[.int .i64 k1, .string n1, .int .i64 i1, .int .i64 m1, .slice a1 l1 p1] 32)) := ((Below.refl _ w1).alloc (Nat.le_refl _) _).alloc (by simp) _
  have hX0 : Box ((w1.alloc (.cells #[.int .i64 k0, .string n0, .int .i64 i0, .int .i64 m0, .slice a0 l0 p0] 32)).alloc (.cells #[.int .i64 k1, .string n1, .int .i64 i1, .int .i64 m1, .slice a1 l1 p1] 32)) w1.heap.size (.int .i64 k0) (.string n0) (.int .i64 i0) (.int .i64 m0) (.slice a0 l0 p0) := by unfold Box; rw [heap_at, if_neg (by simp), heap_at, if_pos rfl]
  have hX1 : Box ((w1.alloc (.cells #[.int .i64 k0, .string n0, .int .i64 i0, .int .i64 m0, .slice a0 l0 p0] 32)).alloc (.cells #[.int .i64 k1, .string n1, .int .i64 i1, .int .i64 m1, .slice a1 l1 p1] 32)) (w1.heap.size + 1) (.int .i64 k1) (.string n1) (.int .i64 i1) (.int .i64 m1) (.slice a1 l1 p1) := by unfold Box; rw [heap_at, if_pos (by simp)]
  have HR0V := Lib.hid (HR0.out.lift hV)
  have HR1V := Lib.hid (HR1.out.lift hV)
  have HLV := Lib.hid (HL1.out.trans (hV.mono HL1.out.size))
  have HX1 := Lib.hid hX1
  clear hV HR0 HR1 HL1 hX1
  generalize ((w1.alloc (.cells #[.int .i64 k0, .string n0, .int .i64 i0, .int .i64 m0, .slice a0 l0 p0] 32)).alloc (.cells #[.int .i64 k1, .string n1, .int .i64 i1, .int .i64 m1, .slice a1 l1 p1] 32)) = V at *
  generalize w1.heap.size = N at *
  obtain ⟨c0, c1, c2, c3, c4⟩ := hX0.cells
  have HX0 := Lib.hid hX0
  clear hX0
  go_wp2_with fail
  go_at_call 26
  refine (HCa.out _ _ _ HR0V.out).mono ?_
  rintro e w2 ⟨s, rfl, hs, hb2⟩
  have hsz : s.size ≤ 2300000 := by rw [← bl_len, hs]; exact HLa.out
  have HS := Lib.hid hs
  have HX0' := Lib.hid (Box.lift HX0.out hb2)
  have HX1' := Lib.hid (Box.lift HX1.out hb2)
  have HR0' := Lib.hid (HR0V.out.lift hb2)
  have HR1' := Lib.hid (HR1V.out.lift hb2)
  have HL2 := Lib.hid (HLV.out.trans (hb2.mono HLV.out.size))
  clear c0 c1 c2 c3 c4 hs hb2 HX0 HX1 HR0V HR1V HLV
  obtain ⟨c0, c1, c2, c3, c4⟩ := HX0'.out.cells
  go_wp2_with fail
  go_at_call 45
  refine (HIa.out _ _ _ HR0'.out).mono ?_
  rintro e w3 ⟨k2, n2, i2, m2, a2, l2, p2, k3, n3, i3, m3, a3, l3, p3, rfl, hb3, -⟩
  have HX1w := Lib.hid (Box.lift HX1'.out hb3)
  have HR1w := Lib.hid (HR1'.out.lift hb3)
  have HL3 := Lib.hid (HL2.out.trans (hb3.mono HL2.out.size))
  clear c0 c1 c2 c3 c4 hb3 HX0' HX1' HR0' HR1' HL2 HIa HCa
  go_upto_region 14 with fail
  have hV2 : Below w3.heap.size w3 ((w3.alloc (.cells #[.int .i64 k2, .string n2, .int .i64 i2, .int .i64 m2, .slice a2 l2 p2] 32)).alloc (.cells #[.int .i64 k3, .string n3, .int .i64 i3, .int .i64 m3, .slice a3 l3 p3] 32)) := ((Below.refl _ w3).alloc (Nat.le_refl _) _).alloc (by simp) _
  have HX1z := Lib.hid (Box.lift HX1w.out hV2)
  have HR1z := Lib.hid (HR1w.out.lift hV2)
  have HLz := Lib.hid (HL3.out.trans (hV2.mono HL3.out.size))
  clear hV2 HX1w HR1w HL3
  generalize ((w3.alloc (.cells #[.int .i64 k2, .string n2, .int .i64 i2, .int .i64 m2, .slice a2 l2 p2] 32)).alloc (.cells #[.int .i64 k3, .string n3, .int .i64 i3, .int .i64 m3, .slice a3 l3 p3] 32)) = V2 at *
  obtain ⟨c0, c1, c2, c3, c4⟩ := HX1z.out.cells
  cases hx : isArr a with
  | false =>
    go_wp2_with fail
    go_at_call 26
    refine (HCc.out _ _ _ HR1z.out).mono ?_
    rintro e w4 ⟨s', rfl, hs', hb4⟩
    have hsz' : s'.size ≤ 2300000 := by rw [← bl_len, hs']; exact HLc.out
    have HS' := Lib.hid hs'
    have HX := Lib.hid hx
    clear hs' hx c0 c1 c2 c3 c4
    go_wp2
    go_ret
    exact ⟨_, rfl, by rw [HE.out, HX.out, bl_app, bl_app, HS.out, HS'.out]; simp [brk, bl], HLz.out.trans (hb4.mono HLz.out.size)⟩
  | true =>
    go_wp2_with fail
    go_at_call 26
    refine (HCc.out _ _ _ HR1z.out).mono ?_
    rintro e w4 ⟨s', rfl, hs', hb4⟩
    have hsz' : s'.size ≤ 2300000 := by rw [← bl_len, hs']; exact HLc.out
    have HS' := Lib.hid hs'
    have HX := Lib.hid hx
    clear hs' hx c0 c1 c2 c3 c4
    go_wp2
    go_ret
    exact ⟨_, rfl, by rw [HE.out, HX.out, bl_app, bl_app, par_bl _ _ HS.out, HS'.out]; simp [brk, bl], HLz.out.trans (hb4.mono HLz.out.size)⟩
end Go.Proofs.YtgcefodgjhlbeaaGreatDoor

/- The reference's Type at an application; at every written type. -/
namespace Go.Proofs.YtgcefodgjhlbeaaGreatDoor
open Go.RowKit Go.Maps Mth

set_option maxRecDepth 100000 in
set_option maxHeartbeats 6400000 in
theorem show_app (T : Ty) (h4 : T.k = 4) (hA : isArr T = false) (H : ∀ U ∈ T.ts, ShAt U) (hs : src T = true) (hn : nodes T ≤ 100000) (v : Value) (S : Nat → Prop) (w : World) (h : Rep w S T v) :
    Calls Tryz.prog 26 #[v] w (ShEnd w (shT T)) := by
  have HArg : Hid (∀ U ∈ T.ts, ∀ v S V, Rep V S U v → Calls Tryz.prog 46 #[v] V (ShEnd V (brk (conArgs U) (shT U)))) := fun U hU v S V hr => argument_of U (H U hU) (src_ts hs hU) (by have := nodes_ts hU; omega) v S V hr
  have HIs : Hid (∀ V, Below w.heap.size w V → Calls Tryz.prog 45 #[v] V (IsArrEnd V S T)) := fun V hV => isArrow_any T (fun ha => by rw [hA] at ha; cases ha) v S V (h.lift hV)
  have HE := Lib.hid (shT_app h4 hA)
  have HL := Lib.hid (sh_len hs hn)
  have HAr := Lib.hid hA
  have HLa : Hid (∀ U ∈ T.ts, (brk (conArgs U) (shT U)).length ≤ 2300002) := fun U hU => by
    have h1 := sh_len (src_ts hs hU) (by have := nodes_ts hU; omega)
    have h2 := brk_len (conArgs U) (shT U)
    omega
  obtain ⟨k, n, i, hm, s, eT, rfl, -, sa, sc, rfl, ⟨hc1, hc2⟩, hj⟩ := h.open
  obtain rfl : k = 4 := by rw [← h4, eT]; rfl
  have hnn : T.n = n := by rw [eT]; rfl
  rw [hnn] at HE
  have HR := Lib.hid h
  have HJ := Lib.hid hj
  have hb1 : ∀ X, Below w.heap.size w (w.alloc (.cells X 32)) := fun X => (Below.refl _ w).alloc (Nat.le_refl _) _
  have HB := Lib.hid hb1
  have HX0 := Lib.hid (Box.made w (.int .i64 4) (.string n) (.int .i64 i) (.int .i64 hm) (.slice sa T.ts.length sc))
  clear hb1 h hA H hs hn eT h4 hj hnn
  unfold maxLen at hc2
  obtain ⟨ts, hts⟩ : ∃ ts, ts = T.ts := ⟨_, rfl⟩
  rw [← hts] at HArg HJ HE HX0 HLa hc1 HIs ⊢
  clear hts
  obtain ⟨m, hm'⟩ : ∃ m, m = ts.length := ⟨_, rfl⟩
  rw [← hm'] at HX0 hc1 HIs ⊢
  have HM := Lib.hid hm'
  clear hm' HR
  go_enter Tryz.func26, Tryz.ntmps26
  go_wp2_with fail
  go_at_call 45
  refine (HIs.out _ (HB.out _)).mono ?_
  rintro e w1 ⟨k0, n0, i0, m0, a0, l0, p0, k1, n1, i1, m1, a1, l1, p1, rfl, hb1, -⟩
  rw [HAr.out]
  have HX1 := Lib.hid (Box.lift HX0.out hb1)
  have HL1 := Lib.hid ((HB.out _).trans (hb1.mono (HB.out _).size))
  clear hb1 HIs HX0
  go_upto_region 11 with fail
  have hV : Below w1.heap.size w1 ((w1.alloc (.cells #[.int .i64 k0, .string n0, .int .i64 i0, .int .i64 m0, .slice a0 l0 p0] 32)).alloc (.cells #[.int .i64 k1, .string n1, .int .i64 i1, .int .i64 m1, .slice a1 l1 p1] 32)) := ((Below.refl _ w1).alloc (Nat.le_refl _) _).alloc (by simp) _
  have HX := Lib.hid (Box.lift HX1.out hV)
  have HLV := Lib.hid (HL1.out.trans (hV.mono HL1.out.size))
  clear hV HX1 HL1
  generalize ((w1.alloc (.cells #[.int .i64 k0, .string n0, .int .i64 i0, .int .i64 m0, .slice a0 l0 p0] 32)).alloc (.cells #[.int .i64 k1, .string n1, .int .i64 i1, .int .i64 m1, .slice a1 l1 p1] 32)) = V at *
  obtain ⟨c0, c1, c2, c3, c4⟩ := HX.out.cells
  go_wp2
  clear c0 c1 c2 c3 c4
  go_loopw [10, 11] (fun y x wr => ∃ (j : Nat) (s : ByteArray), j ≤ m ∧ x = .int .i64 j ∧ y = .string s ∧ s.size ≤ 2300000 ∧ Hid (bl s = bl n ++ shA (ts.take j)) ∧ Hid (Box wr w.heap.size (.int .i64 4) (.string n) (.int .i64 i) (.int .i64 hm) (.slice sa m sc)) ∧ Hid (Below w.heap.size w wr)) (fun _ x _ => m - (intOf x).toNat)
  case atStart => exact ⟨0, n, Nat.zero_le _, rfl, rfl, by have := HL.out; rw [HE.out, List.length_append, bl_len] at this; omega, by show _ = _; simp [shA], HX.out, HLV.out⟩
  case round =>
    obtain ⟨j, s, hj, rfl, rfl, hsz, HS, HBx, HLo⟩ := hrel
    obtain ⟨c0, c1, c2, c3, c4⟩ := HBx.out.cells
    by_cases hlt : j < m
    · obtain ⟨U, hU⟩ : ∃ x, ts[j]? = some x := ⟨_, List.getElem?_eq_getElem (by rw [← HM.out]; exact hlt)⟩
      have HUm : Hid (U ∈ ts) := List.mem_of_getElem? hU
      have HSt : Hid (shA (ts.take (j + 1)) = shA (ts.take j) ++ (32 :: brk (conArgs U) (shT U))) := by
        show _ = _
        rw [List.take_add_one, hU, shA_app]; simp [shA]
      obtain ⟨ad, x, rfl, hS, h5, hx⟩ := HJ.out j U hU
      clear hU
      have hx' := hx.lift HLo.out
      have g5 := h5.kept (HLo.out.block _ h5.lt)
      obtain ⟨k', n', i', h', s', eU, rfl, hn2, hs2⟩ := hx'.open
      obtain ⟨q0, q1, q2, q3, q4⟩ := five_at g5
      obtain ⟨sa', sc', rfl, -⟩ := hs2
      have HXr := Lib.hid hx'
      clear h5 hx g5 eU hn2 hS hx'
      have hji : (j : Int) < (m : Int) := by omega
      have HC := Lib.hid (HArg.out U HUm.out _ S wr HXr.out)
      have HLu := Lib.hid (HLa.out U HUm.out)
      generalize U.ts.length = sn' at *
      go_wp2_with fail
      go_at_call 46
      refine HC.out.mono ?_
      rintro e w2 ⟨r, rfl, hr, hb2⟩
      have hrz : r.size ≤ 2300002 := by rw [← bl_len, hr]; exact HLu.out
      have HS2 : Hid (bl (s ++ (⟨#[32]⟩ ++ r)) = bl n ++ shA (ts.take (j + 1))) := by
        show _ = _
        rw [bl_app, bl_app, HS.out, hr, HSt.out]; simp [bl]
      have hz2 : (s ++ (⟨#[32]⟩ ++ r)).size ≤ 2300000 := by
        have h1 := HL.out
        have h2 := shA_take ts (j + 1)
        rw [← bl_len, HS2.out]
        rw [HE.out, List.length_append] at h1
        rw [List.length_append]
        omega
      have HZ2 := Lib.hid hz2
      have HBx2 := Lib.hid (Box.lift HBx.out hb2)
      have HLo2 := Lib.hid (HLo.out.trans (hb2.mono HLo.out.size))
      clear hr hb2 hz2 c0 c1 c2 c3 c4 q0 q1 q2 q3 q4
      go_wp2
      go_roundw
      case rel => exact ⟨j + 1, _, hlt, by go_num, rfl, HZ2.out, HS2, HBx2, HLo2⟩
      case measure => simp [intOf]; omega
    · have HF : Hid (bl s = shT T) := by
        show _ = _
        rw [HS.out, HE.out, List.take_of_length_le (by rw [← HM.out]; omega)]
      go_wp2
      go_ret
      exact ⟨_, rfl, HF.out, HLo.out⟩
theorem show_of (T : Ty) (H : ∀ U ∈ T.ts, ShAt U) : ShAt T := by
  intro hs hn v S w h
  rcases src_k hs with h5 | h4
  · exact show_name T h5 v S w h
  · cases hA : isArr T with
    | false => exact show_app T h4 hA H hs hn v S w h
    | true =>
      obtain ⟨a, c, hts⟩ := src_arr hs hA
      exact show_arr T a c hA hts (H a (by rw [hts]; simp)) (H c (by rw [hts]; simp)) hs hn v S w h
/-- The text of a written type. -/
theorem showT_any (T : Ty) : ShAt T := tyInd show_of T
end Go.Proofs.YtgcefodgjhlbeaaGreatDoor
