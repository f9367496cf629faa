/- The reference's step and the program's agree; what a separated token gives. -/
import Derived.Test.YtejlhfjhpminjaaTkMath
import Derived.Lib.Bytealg
namespace Go.Proofs.Ytejlhfjhpminjaa
namespace Mth

theorem kw_inn {l : List UInt8} (h : kw l = true) : wrd l = true := by
  unfold kw kws at h
  simp only [decide_eq_true_eq, List.mem_cons, List.not_mem_nil, or_false] at h
  rcases h with h | h | h | h | h | h | h <;> subst h <;> decide
theorem dig_inn {c : UInt8} (h : dig c = true) : inn c = true := by unfold inn; simp [h]
theorem low_inn {c : UInt8} (h : low c = true) : inn c = true := by unfold inn; simp [h]
theorem upp_inn {c : UInt8} (h : upp c = true) : inn c = true := by unfold inn; simp [h]
theorem int_wrd {l : List UInt8} (h : isInt l = true) (hl : l.isEmpty = false) : wrd l = true := by
  unfold isInt at h
  simp only [Bool.and_eq_true] at h
  unfold wrd
  rw [hl]
  simp only [Bool.not_false, Bool.and_true, List.all_eq_true]
  intro c hc
  exact dig_inn (List.all_eq_true.1 h.2 c hc)
/-- A word's kind is its kind by the reference. -/
theorem wkind_eq {l : List UInt8} (h : wrd l = true) : wkind l = rkind l := by
  have hne : l.isEmpty = false := by unfold wrd at h; simp at h; simpa using h.2
  have hnil : ¬ l = [] := by intro e; subst e; simp at hne
  have hmk : mk l = false := by
    unfold mk
    simp only [Bool.or_eq_false_iff, decide_eq_false_iff_not]
    refine ⟨fun e => ?_, fun ⟨c, hc, e⟩ => ?_⟩
    · subst e; exact absurd h (by decide)
    · subst e
      unfold mks at hc
      simp only [List.mem_cons, List.not_mem_nil, or_false] at hc
      rcases hc with hc | hc | hc | hc | hc | hc | hc | hc | hc | hc | hc <;> subst hc <;> exact absurd h (by decide)
  unfold wkind rkind
  rw [if_neg hnil, h, hne, hmk]
  simp
/-- What is no word: only a mark has a kind. -/
theorem rkind_no {l : List UInt8} (h : wrd l = false) : rkind l = if mk l then 5 else 0 := by
  have h1 : kw l = false := by cases hk : kw l with | false => rfl | true => rw [kw_inn hk] at h; cases h
  have h2 : (!l.isEmpty && isInt l) = false := by
    cases he : l.isEmpty with
    | true => rfl
    | false =>
      cases hi : isInt l with
      | false => rfl
      | true => rw [int_wrd hi he] at h; cases h
  unfold rkind
  rw [h1, h, h2]
  simp
/-- The size of the part that the reference takes. -/
def rsize : List UInt8 → Nat
  | [] => 0
  | c :: r => if inn c then wsize (c :: r) else if c = 45 ∧ r.head? = some 62 then 2 else 1
theorem wsize_cons {c : UInt8} {r : List UInt8} (h : inn c = true) : wsize (c :: r) = wsize r + 1 := by unfold wsize; rw [List.takeWhile_cons, if_pos h]; rfl
theorem wsize_none {c : UInt8} {r : List UInt8} (h : inn c = false) : wsize (c :: r) = 0 := by unfold wsize; rw [List.takeWhile_cons, if_neg (by simp [h])]; rfl
theorem take_wsize (l : List UInt8) : l.take (wsize l) = l.takeWhile inn := by
  unfold wsize
  exact (List.prefix_iff_eq_take.1 (List.takeWhile_prefix _)).symm
theorem all_takeWhile (l : List UInt8) : (l.takeWhile inn).all inn = true := by
  induction l with
  | nil => rfl
  | cons c r ih =>
    rw [List.takeWhile_cons]
    split
    · rename_i h; simp [h, ih]
    · rfl
theorem wrd_take {c : UInt8} {r : List UInt8} (h : inn c = true) : wrd ((c :: r).take (wsize (c :: r))) = true := by
  rw [take_wsize]
  unfold wrd
  rw [all_takeWhile, List.takeWhile_cons, if_pos h]
  rfl
theorem inn_not {c : UInt8} (h : inn c = true) : c ≠ 35 ∧ wht c = false ∧ c ≠ 45 ∧ ¬ c ∈ mks := by
  refine ⟨fun e => ?_, ?_, fun e => ?_, fun e => ?_⟩
  · subst e; exact absurd h (by decide)
  · cases hw : wht c with
    | false => rfl
    | true =>
      unfold wht at hw
      simp only [decide_eq_true_eq, List.mem_cons, List.not_mem_nil, or_false] at hw
      rcases hw with e | e | e | e <;> subst e <;> exact absurd h (by decide)
  · subst e; exact absurd h (by decide)
  · unfold mks at e
    simp only [List.mem_cons, List.not_mem_nil, or_false] at e
    rcases e with e | e | e | e | e | e | e | e | e | e | e <;> subst e <;> exact absurd h (by decide)
/-- A word at the head of a text. -/
theorem stp_word {c : UInt8} {r : List UInt8} (h : inn c = true) : stp (c :: r) = (rkind ((c :: r).take (wsize (c :: r))), wsize (c :: r)) := by
  obtain ⟨h1, h2, h3, h4⟩ := inn_not h
  unfold stp
  dsimp only
  rw [if_neg h1, if_neg (by simp [h2]), if_neg h3, if_neg h4, wkind_eq (wrd_take h)]
/-- THE STEP: where no white space and no comment begins, the two agree. -/
theorem stp_ref {c : UInt8} {r : List UInt8} (h1 : c ≠ 35) (h2 : wht c = false) :
    (stp (c :: r)).1 = rkind ((c :: r).take (rsize (c :: r))) ∧ (rkind ((c :: r).take (rsize (c :: r))) ≠ 0 → (stp (c :: r)).2 = rsize (c :: r)) := by
  cases hi : inn c with
  | true =>
    have hr : rsize (c :: r) = wsize (c :: r) := by unfold rsize; dsimp only; rw [if_pos hi]
    rw [stp_word hi, hr]; exact ⟨rfl, fun _ => rfl⟩
  | false =>
    have hnw : ∀ t, wrd (c :: t) = false := fun t => by unfold wrd; simp [hi]
    unfold stp rsize
    dsimp only
    rw [if_neg h1, if_neg (show ¬ wht c = true by simp [h2]), if_neg (show ¬ inn c = true by simp [hi])]
    by_cases h3 : c = 45
    · subst h3
      rw [if_pos rfl]
      by_cases h4 : r.head? = some 62
      · rw [if_pos h4, if_pos ⟨rfl, h4⟩]
        cases r with
        | nil => simp at h4
        | cons d r => simp at h4; subst h4; exact ⟨rfl, fun _ => rfl⟩
      · rw [if_neg h4, if_neg (fun h => h4 h.2)]
        simp; decide
    · rw [if_neg h3, if_neg (show ¬ (c = 45 ∧ r.head? = some 62) from fun h => h3 h.1)]
      have ht : (c :: r).take 1 = [c] := by simp
      rw [ht, rkind_no (hnw [])]
      by_cases h5 : c ∈ mks
      · rw [if_pos h5]
        have hm : mk [c] = true := by unfold mk; simp [h5]
        rw [hm]; exact ⟨rfl, fun _ => rfl⟩
      · rw [if_neg h5]
        have hm : mk [c] = false := by unfold mk; simp [h5]
        rw [hm, wsize_none hi]
        exact ⟨by simp [wkind], fun h => absurd rfl h⟩

/-- A token's text at the head of a text, with no byte of a word behind it. -/
theorem stp_token {t r : List UInt8} (hk : rkind t ≠ 0) (hr : ∀ d x, r = d :: x → inn d = false) : stp (t ++ r) = (rkind t, t.length) := by
  cases hw : wrd t with
  | true =>
    unfold wrd at hw
    rw [Bool.and_eq_true] at hw
    obtain ⟨ha, he⟩ := hw
    cases t with
    | nil => simp at he
    | cons c t =>
      have hc : inn c = true := by simp at ha; exact ha.1
      have hs : wsize (c :: t ++ r) = (c :: t).length := by
        unfold wsize
        rw [List.takeWhile_append_of_pos (fun x hx => List.all_eq_true.1 ha x hx)]
        have hn : r.takeWhile inn = [] := by
          cases r with
          | nil => rfl
          | cons d x => rw [List.takeWhile_cons, if_neg (by simp [hr d x rfl])]
        rw [hn]; simp
      have := stp_word (c := c) (r := t ++ r) hc
      rw [show c :: t ++ r = c :: (t ++ r) from rfl] at hs ⊢
      rw [this, hs]
      congr 1
      rw [show c :: (t ++ r) = (c :: t) ++ r from rfl, List.take_left]
  | false =>
    have h := rkind_no hw
    cases hm : mk t with
    | false => rw [h, hm] at hk; exact absurd rfl hk
    | true =>
      rw [h, hm]
      unfold mk at hm
      simp only [Bool.or_eq_true, decide_eq_true_eq] at hm
      rcases hm with e | ⟨c, hc, e⟩
      · subst e; rfl
      · subst e
        unfold mks at hc
        simp only [List.mem_cons, List.not_mem_nil, or_false] at hc
        rcases hc with e | e | e | e | e | e | e | e | e | e | e <;> subst e <;> rfl
theorem rkind_cases (l : List UInt8) : rkind l = 0 ∨ rkind l = 1 ∨ rkind l = 2 ∨ rkind l = 3 ∨ rkind l = 4 ∨ rkind l = 5 := by
  unfold rkind
  repeat' split
  all_goals simp
theorem sc_token {t r : List UInt8} (p : Nat) (hk : rkind t ≠ 0) (hr : ∀ d x, r = d :: x → inn d = false) :
    sc (t ++ r) p = (⟨rkind t, t, p⟩ :: (sc r (p + t.length)).1, (sc r (p + t.length)).2) := by
  have hs := stp_token hk hr
  have := rkind_cases t
  rw [sc_tok p (by rw [hs]; exact hk) (by rw [hs]; show rkind t ≠ -1; omega), hs]
  simp
theorem sc_white {c : UInt8} {r : List UInt8} (p : Nat) (h : wht c = true) (h1 : c ≠ 35) : sc (c :: r) p = sc r (p + 1) := by
  have hs : stp (c :: r) = (-1, 1) := by unfold stp; dsimp only; rw [if_neg h1, if_pos h]
  rw [sc_blank p (by rw [hs]), hs]; rfl
/-- White space, and comments that end. -/
def whs : List (List UInt8) := [[32], [10], [9, 32, 13], [32, 35, 32, 120, 32, 45, 62, 32, 52, 120, 10], [10, 10], [35, 10]]
theorem sc_whs {b r : List UInt8} (p : Nat) (h : b ∈ whs) : ∃ q, sc (b ++ r) p = sc r q := by
  unfold whs at h
  simp only [List.mem_cons, List.not_mem_nil, or_false] at h
  rcases h with e | e | e | e | e | e <;> subst e
  · exact ⟨_, sc_white p (by decide) (by decide)⟩
  · exact ⟨_, sc_white p (by decide) (by decide)⟩
  · exact ⟨_, ((sc_white p (by decide) (by decide)).trans (sc_white _ (by decide) (by decide))).trans (sc_white _ (by decide) (by decide))⟩
  · refine ⟨p + 1 + 9 + 1, (sc_white p (by decide) (by decide)).trans ?_⟩
    have hs : stp (35 :: 32 :: 120 :: 32 :: 45 :: 62 :: 32 :: 52 :: 120 :: 10 :: r) = (-1, 9) := rfl
    show sc (35 :: 32 :: 120 :: 32 :: 45 :: 62 :: 32 :: 52 :: 120 :: 10 :: r) (p + 1) = _
    rw [sc_blank _ (by rw [hs]), hs]
    exact sc_white _ (by decide) (by decide)
  · exact ⟨_, (sc_white p (by decide) (by decide)).trans (sc_white _ (by decide) (by decide))⟩
  · refine ⟨p + 1 + 1, ?_⟩
    have hs : stp (35 :: 10 :: r) = (-1, 1) := rfl
    show sc (35 :: 10 :: r) p = _
    rw [sc_blank _ (by rw [hs]), hs]
    exact sc_white _ (by decide) (by decide)
theorem whs_head {b r : List UInt8} (h : b ∈ whs) : ∀ d x, b ++ r = d :: x → inn d = false := by
  unfold whs at h
  simp only [List.mem_cons, List.not_mem_nil, or_false] at h
  rcases h with e | e | e | e | e | e <;> subst e <;> intro d x hd <;> cases hd <;> decide
/-- Kinds and texts, without the places. -/
def kt (l : List Tok) : List (Int × List UInt8) := l.map fun t => (t.kind, t.text)
/-- White space ahead of each token. -/
def before (l : List (List UInt8 × List UInt8)) : List UInt8 := l.flatMap fun x => x.1 ++ x.2
theorem before_head {l : List (List UInt8 × List UInt8)} (h : ∀ x ∈ l, x.1 ∈ whs) : ∀ d x, before l = d :: x → inn d = false := by
  cases l with
  | nil => intro d x h; simp [before] at h
  | cons y l =>
    have e : before (y :: l) = y.1 ++ (y.2 ++ before l) := by simp [before]
    rw [e]
    exact whs_head (h y (by simp))
theorem sc_before : ∀ (l : List (List UInt8 × List UInt8)) (p : Nat), (∀ x ∈ l, x.1 ∈ whs ∧ rkind x.2 ≠ 0) →
    kt (sc (before l) p).1 = l.map (fun x => (rkind x.2, x.2)) ∧ (sc (before l) p).2 = none := by
  intro l
  induction l with
  | nil => intro p _; exact ⟨rfl, rfl⟩
  | cons y l ih =>
    intro p h
    have e : before (y :: l) = y.1 ++ (y.2 ++ before l) := by simp [before]
    obtain ⟨q, hq⟩ := sc_whs (b := y.1) (r := y.2 ++ before l) p (h y (by simp)).1
    rw [e, hq, sc_token q (h y (by simp)).2 (before_head fun x hx => (h x (by simp [hx])).1)]
    have := ih (q + y.2.length) (fun x hx => h x (by simp [hx]))
    exact ⟨by simp only [kt, List.map_cons] at this ⊢; rw [this.1], this.2⟩
/-- A space behind each token. -/
def behind (l : List (List UInt8)) : List UInt8 := l.flatMap fun x => x ++ [32]
theorem sc_behind : ∀ (l : List (List UInt8)) (p : Nat), (∀ x ∈ l, rkind x ≠ 0) →
    kt (sc (behind l) p).1 = l.map (fun x => (rkind x, x)) ∧ (sc (behind l) p).2 = none := by
  intro l
  induction l with
  | nil => intro p _; exact ⟨rfl, rfl⟩
  | cons y l ih =>
    intro p h
    have e : behind (y :: l) = y ++ (32 :: behind l) := by simp [behind]
    rw [e, sc_token p (h y (by simp)) (by intro d x hd; cases hd; decide), sc_white _ (by decide) (by decide)]
    have := ih (p + y.length + 1) (fun x hx => h x (by simp [hx]))
    exact ⟨by simp only [kt, List.map_cons] at this ⊢; rw [this.1], this.2⟩
/-- The texts, separated by one space. -/
def joined : List (List UInt8) → List UInt8
  | [] => []
  | y :: l => y ++ before (l.map fun x => ([32], x))
theorem sc_joined (l : List (List UInt8)) (p : Nat) (h : ∀ x ∈ l, rkind x ≠ 0) :
    kt (sc (joined l) p).1 = l.map (fun x => (rkind x, x)) ∧ (sc (joined l) p).2 = none := by
  cases l with
  | nil => exact ⟨rfl, rfl⟩
  | cons y l =>
    have hb : ∀ x ∈ l.map (fun x => (([32] : List UInt8), x)), x.1 ∈ whs ∧ rkind x.2 ≠ 0 := by
      intro x hx
      obtain ⟨z, hz, rfl⟩ := List.mem_map.1 hx
      exact ⟨by show ([32] : List UInt8) ∈ whs; decide, h z (by simp [hz])⟩
    show kt (sc (y ++ before (l.map fun x => ([32], x))) p).1 = _ ∧ _
    unfold joined
    rw [sc_token p (h y (by simp)) (before_head fun x hx => (hb x hx).1)]
    have := sc_before _ (p + y.length) hb
    refine ⟨?_, this.2⟩
    simp only [kt, List.map_cons, List.map_map] at this ⊢
    rw [this.1]
    rfl
/-- How far a list's bytes meet p. -/
def tw (p : UInt8 → Bool) (l : List UInt8) : Nat := (l.takeWhile p).length
theorem wsize_tw (l : List UInt8) : wsize l = tw inn l := rfl
theorem tw_le (p : UInt8 → Bool) (l : List UInt8) : tw p l ≤ l.length := (List.takeWhile_sublist _).length_le
theorem tw_step (p : UInt8 → Bool) : ∀ (l : List UInt8) (k : Nat) (h : k < l.length), k ≤ tw p l → (p l[k] = true → k + 1 ≤ tw p l) ∧ (p l[k] = false → k = tw p l) := by
  intro l
  induction l with
  | nil => intro k h; simp at h
  | cons c r ih =>
    intro k h hk
    unfold tw at hk ⊢
    rw [List.takeWhile_cons] at hk ⊢
    cases hp : p c with
    | false =>
      rw [hp] at hk
      simp at hk
      subst hk
      simp [hp]
    | true =>
      rw [hp] at hk
      simp at hk
      cases k with
      | zero => simp [hp]
      | succ k =>
        have := ih k (by simpa using h) (by unfold tw; omega)
        unfold tw at this
        simp only [List.getElem_cons_succ, if_true, List.length_cons]
        refine ⟨fun h => by have := this.1 h; omega, fun h => by have := this.2 h; omega⟩
theorem all_tw (p : UInt8 → Bool) : ∀ l : List UInt8, l.all p = decide (tw p l = l.length) := by
  intro l
  induction l with
  | nil => rfl
  | cons c r ih =>
    unfold tw at ih ⊢
    rw [List.takeWhile_cons, List.all_cons]
    cases hp : p c with
    | false => simp
    | true => simp [ih]
theorem csize_index : ∀ l : List UInt8, Lib.indexByte l 10 = if csize l < l.length then (csize l : Int) else -1 := by
  intro l
  induction l with
  | nil => rfl
  | cons c r ih =>
    unfold Lib.indexByte csize
    rw [List.takeWhile_cons]
    by_cases h : c = 10
    · subst h; simp
    · have h' : (c == 10) = false := by simpa using h
      rw [h']
      have ih' : Lib.indexByte r 10 = if csize r < r.length then (csize r : Int) else -1 := ih
      unfold csize at ih'
      rw [ih']
      by_cases hl : (List.takeWhile (fun c => !decide (c = 10)) r).length < r.length
      · simp [h, hl]
      · simp [h, hl]
/-- A string's bytes. -/
def bl (s : ByteArray) : List UInt8 := s.data.toList
theorem bl_len (s : ByteArray) : (bl s).length = s.size := by unfold bl; simp
theorem bl_get (s : ByteArray) (k : Nat) (h : k < s.size) : (bl s)[k]'(by rw [bl_len]; exact h) = s[k] := rfl
theorem bl_eq {s t : ByteArray} : s = t ↔ bl s = bl t := ⟨fun h => by rw [h], fun h => by apply ByteArray.ext; apply Array.ext'; exact h⟩
theorem bl_mk (l : List UInt8) : bl ⟨l.toArray⟩ = l := by unfold bl; simp
theorem mk_bl (s : ByteArray) : s = ⟨(bl s).toArray⟩ := bl_eq.2 (bl_mk (bl s)).symm
theorem bl_extract (s : ByteArray) (a b : Nat) : bl (s.extract a b) = ((bl s).drop a).take (b - a) := by
  unfold bl; simp
end Mth
end Go.Proofs.Ytejlhfjhpminjaa
