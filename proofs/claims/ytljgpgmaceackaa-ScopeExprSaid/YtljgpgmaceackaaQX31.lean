import Derived.Test.YtljgpgmaceackaaQX11
import Derived.Test.YtljgpgmaceackaaQX30
/- What a text of an expression bounds: its lists, the names on the ways down. -/
namespace Go.Proofs.Ytljgpgmaceackaa
open Go.RowKit Go.Maps Mth S3

theorem oneV {l : List Ex} (h : l.length = 1) : ∃ a, l = [a] := by
  match l, h with
  | [a], _ => exact ⟨a, rfl⟩
theorem twoV {l : List Ex} (h : l.length = 2) : ∃ a b, l = [a, b] := by
  match l, h with
  | [a, b], _ => exact ⟨a, b, rfl⟩
theorem flatV (l : List ByteArray) : l.length ≤ (l.flatMap fun v => 32 :: bl v).length ∧ ∀ x ∈ l, x.size ≤ (l.flatMap fun v => 32 :: bl v).length := by
  induction l with
  | nil => simp
  | cons v l ih =>
    rw [List.flatMap_cons]
    simp only [List.length_append, List.length_cons]
    refine ⟨by have := ih.1; omega, fun x hx => ?_⟩
    rcases List.mem_cons.1 hx with rfl | hx
    · rw [bl_len]; omega
    · have := ih.2 x hx; omega
theorem armV_len (h : AH) : h.vars.length ≤ (armText h).length ∧ ∀ x ∈ h.vars, x.size ≤ (armText h).length := by
  have := flatV h.vars
  unfold armText
  simp only [List.length_append]
  exact ⟨by omega, fun x hx => by have := this.2 x hx; omega⟩
theorem armV_pos (h : AH) : 2 ≤ (armText h).length := by unfold armText; simp only [List.length_append, List.length_cons, List.length_nil]; omega
/-- An arm and its body are no longer than the arms. -/
theorem armV_le : ∀ (l : List (AH × Ex)) (A : AH × Ex), A ∈ l → (armText A.1).length + (shE A.2).length ≤ (shA0 l).length ∧ (armText A.1).length + (shE A.2).length ≤ (shAr l).length
  | (h, e) :: l, A, hA => by
    rcases List.mem_cons.1 hA with rfl | hA
    · simp only [shA0, shAr, List.length_append, List.length_cons]; omega
    · have := (armV_le l A hA).2
      simp only [shA0, shAr, List.length_append, List.length_cons]; omega
theorem armsV_num : ∀ (l : List (AH × Ex)), l.length ≤ (shA0 l).length ∧ l.length ≤ (shAr l).length
  | [] => by simp
  | (h, e) :: l => by
    have h1 := (armsV_num l).2
    have h2 := armV_pos h
    simp only [shA0, shAr, List.length_append, List.length_cons]
    omega
theorem brkV_le (b : Bool) (l : List UInt8) : l.length ≤ (brk b l).length := by
  cases b
  · exact Nat.le_refl _
  · simp [brk]; omega
/-- The children of an expression, case by case: what is read of the names that it binds in them, and how long they are. -/
theorem kidV_src (T : Ex) (hs : srcE T = true) : T.kids.length ≤ 2 ∧ T.arms.length ≤ (shE T).length ∧ (T.k = 8 → T.kids.length = 1) ∧ ∀ (i : Nat) (U : Ex), (chN T)[i]? = some U → srcE U = true ∧ (bnN T i).length + (shE U).length + 1 ≤ (shE T).length ∧ ∀ x ∈ bnN T i, x.size ≤ (shE T).length := by
  obtain ⟨k, p, n, m, t, kids, arms⟩ := T
  simp only [srcE, Bool.and_eq_true] at hs
  obtain ⟨⟨⟨⟨⟨⟨-, htz⟩, hka⟩, hkm⟩, hsK⟩, hsA⟩, hc⟩ := hs
  have hkid : ∀ U ∈ kids, srcE U = true := fun U hU => srcK_mem hsK hU
  have hno : (k == 8) = false → arms = [] := fun e => by
    rw [e] at hka
    simp at hka
    exact hka
  have hnone : ∀ (h : kids = []) (h' : arms = []) (Q : Nat → Ex → Prop), ∀ (i : Nat) (U : Ex), (chN (.mk k p n m t kids arms))[i]? = some U → Q i U := by
    intro h h' Q i U hU
    subst h h'
    simp [chN, Ex.kids, Ex.arms] at hU
  by_cases h1 : (k == 1) = true
  · have e := beq_iff_eq.1 h1; subst e
    have ha := hno (by decide); subst ha
    rw [if_pos (by rfl)] at hc
    simp only [Bool.and_eq_true, beq_iff_eq, List.length_eq_zero_iff] at hc
    obtain ⟨-, rfl⟩ := hc
    exact ⟨by simp [Ex.kids], by simp [Ex.arms], fun e => by simp [Ex.k] at e, hnone rfl rfl _⟩
  rw [if_neg h1] at hc
  by_cases h2 : (k == 2) = true
  · have e := beq_iff_eq.1 h2; subst e
    have ha := hno (by decide); subst ha
    rw [if_pos (by rfl)] at hc
    simp only [Bool.and_eq_true, beq_iff_eq, List.length_eq_zero_iff] at hc
    obtain ⟨-, rfl⟩ := hc
    exact ⟨by simp [Ex.kids], by simp [Ex.arms], fun e => by simp [Ex.k] at e, hnone rfl rfl _⟩
  rw [if_neg h2] at hc
  by_cases h3 : (k == 3) = true
  · have e := beq_iff_eq.1 h3; subst e
    have ha := hno (by decide); subst ha
    rw [if_pos (by rfl)] at hc
    simp only [Bool.and_eq_true, beq_iff_eq, List.length_eq_zero_iff] at hc
    obtain ⟨-, rfl⟩ := hc
    exact ⟨by simp [Ex.kids], by simp [Ex.arms], fun e => by simp [Ex.k] at e, hnone rfl rfl _⟩
  rw [if_neg h3] at hc
  by_cases h4 : (k == 4) = true
  · have e := beq_iff_eq.1 h4; subst e
    have ha := hno (by decide); subst ha
    simp only [show ((4 : Int) == 4) = true from rfl, if_true, Bool.and_eq_true, beq_iff_eq] at hc
    obtain ⟨a, rfl⟩ := oneV hc.2
    have hsh : shE (.mk 4 p n m t [a] []) = 92 :: (bl n ++ 46 :: 32 :: shE a) := by simp [shE, shK]
    rw [hsh]
    refine ⟨by simp [Ex.kids], by simp [Ex.arms], fun e => by simp [Ex.k] at e, fun i U hU => ?_⟩
    have hb : ∀ i, bnN (.mk 4 p n m t [a] []) i = [n] := fun i => rfl
    match i, hU with
    | 0, hU =>
      simp [chN, Ex.kids, Ex.arms] at hU; subst hU
      refine ⟨hkid a (by simp), by rw [hb]; simp only [List.length_cons, List.length_append, List.length_nil]; omega, fun x hx => ?_⟩
      rw [hb] at hx; simp at hx; subst hx
      have := bl_len x
      simp only [List.length_cons, List.length_append]; omega
    | i + 1, hU => simp [chN, Ex.kids, Ex.arms] at hU
  rw [if_neg h4] at hc
  by_cases h5 : (k == 5) = true
  · have e := beq_iff_eq.1 h5; subst e
    have ha := hno (by decide); subst ha
    simp only [show ((5 : Int) == 5) = true from rfl, if_true, Bool.and_eq_true, beq_iff_eq] at hc
    obtain ⟨a, b, rfl⟩ := twoV hc.2
    have hsh : shE (.mk 5 p n m t [a, b] []) = brk (!(atomE a || a.k == 5)) (shE a) ++ 32 :: brk (!atomE b) (shE b) := by simp [shE, shF, shG]
    have e1 := brkV_le (!(atomE a || a.k == 5)) (shE a)
    have e2 := brkV_le (!atomE b) (shE b)
    rw [hsh]
    refine ⟨by simp [Ex.kids], by simp [Ex.arms], fun e => by simp [Ex.k] at e, fun i U hU => ?_⟩
    have hb : ∀ i, bnN (.mk 5 p n m t [a, b] []) i = [] := fun i => rfl
    match i, hU with
    | 0, hU =>
      simp [chN, Ex.kids, Ex.arms] at hU; subst hU
      exact ⟨hkid a (by simp), by rw [hb]; simp only [List.length_cons, List.length_append, List.length_nil]; omega, fun x hx => by rw [hb] at hx; cases hx⟩
    | 1, hU =>
      simp [chN, Ex.kids, Ex.arms] at hU; subst hU
      exact ⟨hkid b (by simp), by rw [hb]; simp only [List.length_cons, List.length_append, List.length_nil]; omega, fun x hx => by rw [hb] at hx; cases hx⟩
    | i + 2, hU => simp [chN, Ex.kids, Ex.arms] at hU
  rw [if_neg h5] at hc
  by_cases h6 : (k == 6) = true
  · have e := beq_iff_eq.1 h6; subst e
    have ha := hno (by decide); subst ha
    simp only [show ((6 : Int) == 6 || (6 : Int) == 7) = true from rfl, if_true, Bool.and_eq_true, beq_iff_eq] at hc
    obtain ⟨a, b, rfl⟩ := twoV hc.2
    have hsh : shE (.mk 6 p n m t [a, b] []) = [108, 101, 116] ++ 32 :: (bl n ++ 32 :: 61 :: 32 :: (shE a ++ 32 :: ([105, 110] ++ 32 :: shE b))) := by simp [shE, shLt, shK]
    rw [hsh]
    refine ⟨by simp [Ex.kids], by simp [Ex.arms], fun e => by simp [Ex.k] at e, fun i U hU => ?_⟩
    have := bl_len n
    match i, hU with
    | 0, hU =>
      simp [chN, Ex.kids, Ex.arms] at hU; subst hU
      have hb : bnN (.mk 6 p n m t [a, b] []) 0 = [] := rfl
      exact ⟨hkid a (by simp), by rw [hb]; simp only [List.length_cons, List.length_append, List.length_nil]; omega, fun x hx => by rw [hb] at hx; cases hx⟩
    | 1, hU =>
      simp [chN, Ex.kids, Ex.arms] at hU; subst hU
      have hb : bnN (.mk 6 p n m t [a, b] []) 1 = [n] := rfl
      refine ⟨hkid b (by simp), by rw [hb]; simp only [List.length_cons, List.length_append, List.length_nil]; omega, fun x hx => ?_⟩
      rw [hb] at hx; simp at hx; subst hx
      simp only [List.length_cons, List.length_append]; omega
    | i + 2, hU => simp [chN, Ex.kids, Ex.arms] at hU
  by_cases h7 : (k == 7) = true
  · have e := beq_iff_eq.1 h7; subst e
    have ha := hno (by decide); subst ha
    simp only [show ((7 : Int) == 6 || (7 : Int) == 7) = true from rfl, if_true, Bool.and_eq_true, beq_iff_eq] at hc
    obtain ⟨a, b, rfl⟩ := twoV hc.2
    have hsh : shE (.mk 7 p n m t [a, b] []) = [108, 101, 116] ++ 32 :: ([114, 101, 99] ++ 32 :: (bl n ++ 32 :: 61 :: 32 :: (shE a ++ 32 :: ([105, 110] ++ 32 :: shE b)))) := by simp [shE, shLt, shK]
    rw [hsh]
    refine ⟨by simp [Ex.kids], by simp [Ex.arms], fun e => by simp [Ex.k] at e, fun i U hU => ?_⟩
    have := bl_len n
    have hb : ∀ i, bnN (.mk 7 p n m t [a, b] []) i = [n] := fun i => rfl
    match i, hU with
    | 0, hU =>
      simp [chN, Ex.kids, Ex.arms] at hU; subst hU
      refine ⟨hkid a (by simp), by rw [hb]; simp only [List.length_cons, List.length_append, List.length_nil]; omega, fun x hx => ?_⟩
      rw [hb] at hx; simp at hx; subst hx
      simp only [List.length_cons, List.length_append]; omega
    | 1, hU =>
      simp [chN, Ex.kids, Ex.arms] at hU; subst hU
      refine ⟨hkid b (by simp), by rw [hb]; simp only [List.length_cons, List.length_append, List.length_nil]; omega, fun x hx => ?_⟩
      rw [hb] at hx; simp at hx; subst hx
      simp only [List.length_cons, List.length_append]; omega
    | i + 2, hU => simp [chN, Ex.kids, Ex.arms] at hU
  have h67 : (k == 6 || k == 7) = false := by simp [h6, h7]
  rw [h67] at hc
  simp only [Bool.false_eq_true, if_false] at hc
  by_cases h8 : (k == 8) = true
  · have e := beq_iff_eq.1 h8; subst e
    simp only [show ((8 : Int) == 8) = true from rfl, if_true, Bool.and_eq_true, beq_iff_eq] at hc
    obtain ⟨a, rfl⟩ := oneV hc.1.2
    have hsh : shE (.mk 8 p n m t [a] arms) = [99, 97, 115, 101] ++ 32 :: (shE a ++ 32 :: ([111, 102] ++ 32 :: (shA0 arms ++ 32 :: [101, 110, 100]))) := by simp [shE, shK]
    rw [hsh]
    have hn := (armsV_num arms).1
    refine ⟨by simp [Ex.kids], by simp only [Ex.arms, List.length_cons, List.length_append]; omega, fun _ => rfl, fun i U hU => ?_⟩
    match i, hU with
    | 0, hU =>
      simp [chN, Ex.kids, Ex.arms] at hU; subst hU
      have hb : bnN (.mk 8 p n m t [a] arms) 0 = [] := rfl
      exact ⟨hkid a (by simp), by rw [hb]; simp only [List.length_cons, List.length_append, List.length_nil]; omega, fun x hx => by rw [hb] at hx; cases hx⟩
    | i + 1, hU =>
      have hU' : (arms.map (·.2))[i]? = some U := by simpa [chN, Ex.kids, Ex.arms] using hU
      rw [List.getElem?_map] at hU'
      obtain ⟨A, hA, hAU⟩ : ∃ A, arms[i]? = some A ∧ A.2 = U := by
        cases hA : arms[i]? with
        | none => rw [hA] at hU'; cases hU'
        | some A => rw [hA] at hU'; exact ⟨A, rfl, Option.some.inj hU'⟩
      subst hAU
      have hm := List.mem_of_getElem? hA
      have hb : bnN (.mk 8 p n m t [a] arms) (i + 1) = A.1.vars := by
        show (match arms[i]? with | some A => A.1.vars | none => []) = _
        rw [hA]
      have h1 := (armV_le arms A hm).1
      have h2 := armV_len A.1
      refine ⟨(srcA_mem hsA hm).2.2.2, by rw [hb]; simp only [List.length_cons, List.length_append, List.length_nil]; omega, fun x hx => ?_⟩
      rw [hb] at hx
      have := h2.2 x hx
      simp only [List.length_cons, List.length_append]; omega
  rw [if_neg h8] at hc
  have ha := hno (by simpa using h8); subst ha
  by_cases h9 : (k == 9) = true
  · have e := beq_iff_eq.1 h9; subst e
    simp only [show ((9 : Int) == 9) = true from rfl, if_true, Bool.and_eq_true, beq_iff_eq] at hc
    obtain ⟨a, rfl⟩ := oneV hc.1.2
    have hsh : shE (.mk 9 p n m t [a] []) = 40 :: (shE a ++ 32 :: 58 :: 32 :: (shT t ++ [41])) := by simp [shE, shK]
    rw [hsh]
    refine ⟨by simp [Ex.kids], by simp [Ex.arms], fun e => by simp [Ex.k] at e, fun i U hU => ?_⟩
    have hb : ∀ i, bnN (.mk 9 p n m t [a] []) i = [] := fun i => rfl
    match i, hU with
    | 0, hU =>
      simp [chN, Ex.kids, Ex.arms] at hU; subst hU
      exact ⟨hkid a (by simp), by rw [hb]; simp only [List.length_cons, List.length_append, List.length_nil]; omega, fun x hx => by rw [hb] at hx; cases hx⟩
    | i + 1, hU => simp [chN, Ex.kids, Ex.arms] at hU
  rw [if_neg h9] at hc
  by_cases h10 : (k == 10) = true
  · have e := beq_iff_eq.1 h10; subst e
    rw [if_pos (by rfl)] at hc
    simp only [Bool.and_eq_true, beq_iff_eq, List.length_eq_zero_iff] at hc
    obtain ⟨-, rfl⟩ := hc
    exact ⟨by simp [Ex.kids], by simp [Ex.arms], fun e => by simp [Ex.k] at e, hnone rfl rfl _⟩
  rw [if_neg h10] at hc
  simp only [Bool.and_eq_true, beq_iff_eq] at hc
  have e := hc.1.1; subst e
  obtain ⟨a, rfl⟩ := oneV hc.2
  have hsh : shE (.mk 11 p n m t [a] []) = 123 :: (shE a ++ [125]) := by simp [shE, shK]
  rw [hsh]
  refine ⟨by simp [Ex.kids], by simp [Ex.arms], fun e => by simp [Ex.k] at e, fun i U hU => ?_⟩
  have hb : ∀ i, bnN (.mk 11 p n m t [a] []) i = [] := fun i => rfl
  match i, hU with
  | 0, hU =>
    simp [chN, Ex.kids, Ex.arms] at hU; subst hU
    exact ⟨hkid a (by simp), by rw [hb]; simp only [List.length_cons, List.length_append, List.length_nil]; omega, fun x hx => by rw [hb] at hx; cases hx⟩
  | i + 1, hU => simp [chN, Ex.kids, Ex.arms] at hU
theorem fitV_src : ∀ (N : Nat) (T : Ex) (m : Nat), srcE T = true → (shE T).length < N → (shE T).length ≤ m → (shE T).length ≤ 100000 → fitV N m T = true := by
  intro N
  induction N with
  | zero => intro T m _ h; omega
  | succ N ih =>
    intro T m hs hN hm hM
    obtain ⟨h1, h2, h3, h4⟩ := kidV_src T hs
    refine fitV_mk ⟨by omega, by omega, h3, fun i U hU => ?_⟩
    obtain ⟨h5, h6, h7⟩ := h4 i U hU
    exact ⟨by omega, fun x hx => by have := h7 x hx; omega, ih U _ h5 (by omega) (by omega) (by omega)⟩
end Go.Proofs.Ytljgpgmaceackaa
