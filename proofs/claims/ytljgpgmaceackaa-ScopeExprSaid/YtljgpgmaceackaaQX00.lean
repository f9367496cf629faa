import Derived.IntWalk
import Derived.Lib.Strings
import Derived.Lib.Bytealg
import Derived.Lib.Atoi
import Derived.Lib.AtoiBound
import Derived.Below
import Derived.Lib.ConvBytes
/- Plain facts on lists of bytes: words, kinds, one step of a scan, the scan, as the walks use them. -/
namespace Go.Proofs.Ytljgpgmaceackaa
namespace Mth

def low (c : UInt8) : Bool := decide (97 ≤ c.toNat) && decide (c.toNat ≤ 122)
def upp (c : UInt8) : Bool := decide (65 ≤ c.toNat) && decide (c.toNat ≤ 90)
def dig (c : UInt8) : Bool := decide (48 ≤ c.toNat) && decide (c.toNat ≤ 57)
def inn (c : UInt8) : Bool := low c || upp c || dig c || decide (c.toNat = 95)
def kws : List (List UInt8) := [[100, 97, 116, 97], [108, 101, 116], [114, 101, 99], [105, 110], [99, 97, 115, 101], [111, 102], [101, 110, 100]]
def kw (l : List UInt8) : Bool := decide (l ∈ kws)
def mks : List UInt8 := [92, 46, 61, 59, 58, 124, 40, 41, 123, 125, 63]
def mk (l : List UInt8) : Bool := decide (l = [45, 62]) || decide (∃ c ∈ mks, l = [c])
/-- Is the list a word? -/
def wrd (l : List UInt8) : Bool := l.all inn && !l.isEmpty
/-- Of a list that is not empty: is it an integer? -/
def isInt (l : List UInt8) : Bool := decide (l.length ≤ 9) && !(decide (l.head? = some 48) && decide (1 < l.length)) && l.all dig
def hd (p : UInt8 → Bool) (l : List UInt8) : Bool := match l with | [] => false | c :: _ => p c
/-- The kind of a word. -/
def wkind (l : List UInt8) : Int :=
  if l = [] then 0 else if kw l then 4 else if hd low l && decide (l.length ≤ 12) then 1 else if hd upp l && decide (l.length ≤ 12) then 2 else if isInt l then 3 else 0
/-- The kind of a word or a mark, as the reference has it. -/
def rkind (l : List UInt8) : Int :=
  if kw l then 4 else if wrd l && hd low l && decide (l.length ≤ 12) then 1 else if wrd l && hd upp l && decide (l.length ≤ 12) then 2 else if !l.isEmpty && isInt l then 3 else if mk l then 5 else 0
def wsize (l : List UInt8) : Nat := (l.takeWhile inn).length
def csize (l : List UInt8) : Nat := (l.takeWhile (fun c => !decide (c = 10))).length
def wht (c : UInt8) : Bool := decide (c ∈ ([32, 9, 13, 10] : List UInt8))

/-- The first part of a text that is not empty: its kind and its size. -/
def stp : List UInt8 → Int × Nat
  | [] => (0, 0)
  | c :: r =>
    if c = 35 then (-1, csize (c :: r))
    else if wht c then (-1, 1)
    else if c = 45 then (if r.head? = some 62 then (5, 2) else (0, 1))
    else if c ∈ mks then (5, 1)
    else (wkind ((c :: r).take (wsize (c :: r))), wsize (c :: r))

theorem wsize_le (l : List UInt8) : wsize l ≤ l.length := by
  unfold wsize; exact (List.takeWhile_sublist _).length_le
theorem csize_le (l : List UInt8) : csize l ≤ l.length := by
  unfold csize; exact (List.takeWhile_sublist _).length_le
theorem stp_le (l : List UInt8) (h : (stp l).1 ≠ 0) : 1 ≤ (stp l).2 ∧ (stp l).2 ≤ l.length := by
  cases l with
  | nil => simp [stp] at h
  | cons c r =>
    unfold stp at h ⊢
    dsimp only at h ⊢
    split at h <;> rename_i h1
    · rw [if_pos h1]
      refine ⟨?_, csize_le _⟩
      subst h1; simp [csize]
    · rw [if_neg h1]
      split at h <;> rename_i h2
      · rw [if_pos h2]; simp
      · rw [if_neg h2]
        split at h <;> rename_i h3
        · rw [if_pos h3]
          split at h <;> rename_i h4
          · rw [if_pos h4]
            cases r with
            | nil => simp at h4
            | cons => simp
          · simp at h
        · rw [if_neg h3]
          split at h <;> rename_i h4
          · rw [if_pos h4]; simp
          · rw [if_neg h4]
            refine ⟨?_, wsize_le _⟩
            by_cases hz : wsize (c :: r) = 0
            · rw [hz] at h; simp [wkind] at h
            · dsimp only; omega

structure Tok where
  kind : Int
  text : List UInt8
  pos : Nat

/-- The tokens of a text, or where none begins; p is the offset of its first byte. -/
def scanF : Nat → List UInt8 → Nat → List Tok × Option Nat
  | 0, _, _ => ([], none)
  | f + 1, l, p =>
    if l = [] then ([], none)
    else if (stp l).1 = 0 then ([], some p)
    else if (stp l).1 = -1 then scanF f (l.drop (stp l).2) (p + (stp l).2)
    else (⟨(stp l).1, l.take (stp l).2, p⟩ :: (scanF f (l.drop (stp l).2) (p + (stp l).2)).1, (scanF f (l.drop (stp l).2) (p + (stp l).2)).2)
theorem scanF_more : ∀ (f : Nat) (l : List UInt8) (p : Nat), l.length ≤ f → scanF f l p = scanF l.length l p := by
  intro f
  induction f using Nat.strongRecOn with
  | ind f ih =>
    intro l p hl
    cases f with
    | zero => have : l = [] := List.eq_nil_of_length_eq_zero (by omega); subst this; rfl
    | succ f =>
      cases l with
      | nil => simp [scanF]
      | cons c r =>
        simp only [List.length_cons] at hl ⊢
        unfold scanF
        by_cases h0 : (stp (c :: r)).1 = 0
        · rw [if_neg (by simp), if_pos h0, if_neg (by simp), if_pos h0]
        · have hb := stp_le (c :: r) h0
          have hlen : ((c :: r).drop (stp (c :: r)).2).length ≤ r.length := by simp only [List.length_drop, List.length_cons]; omega
          have e1 := ih f (by omega) ((c :: r).drop (stp (c :: r)).2) (p + (stp (c :: r)).2) (by omega)
          have e2 : scanF r.length ((c :: r).drop (stp (c :: r)).2) (p + (stp (c :: r)).2) = scanF ((c :: r).drop (stp (c :: r)).2).length ((c :: r).drop (stp (c :: r)).2) (p + (stp (c :: r)).2) :=
            ih r.length (by omega) _ _ hlen
          rw [e1, e2]
def sc (l : List UInt8) (p : Nat) : List Tok × Option Nat := scanF l.length l p
theorem sc_nil (p : Nat) : sc [] p = ([], none) := rfl
theorem sc_err {l : List UInt8} (p : Nat) (hl : l ≠ []) (h : (stp l).1 = 0) : sc l p = ([], some p) := by
  cases l with
  | nil => exact absurd rfl hl
  | cons c r => unfold sc; simp only [List.length_cons]; unfold scanF; rw [if_neg hl, if_pos h]
theorem sc_rest {l : List UInt8} (p : Nat) (h : (stp l).1 ≠ 0) (f : Nat) (hr : l.length = f + 1) : scanF f (l.drop (stp l).2) (p + (stp l).2) = sc (l.drop (stp l).2) (p + (stp l).2) := by
  have hb := stp_le l h
  exact scanF_more _ _ _ (by simp only [List.length_drop]; omega)
theorem sc_blank {l : List UInt8} (p : Nat) (h : (stp l).1 = -1) : sc l p = sc (l.drop (stp l).2) (p + (stp l).2) := by
  have h0 : (stp l).1 ≠ 0 := by rw [h]; decide
  cases l with
  | nil => simp [stp] at h
  | cons c r =>
    rw [← sc_rest p h0 r.length rfl]
    unfold sc; simp only [List.length_cons]
    rw [scanF, if_neg (by simp), if_neg h0, if_pos h]
theorem sc_tok {l : List UInt8} (p : Nat) (h0 : (stp l).1 ≠ 0) (h : (stp l).1 ≠ -1) :
    sc l p = (⟨(stp l).1, l.take (stp l).2, p⟩ :: (sc (l.drop (stp l).2) (p + (stp l).2)).1, (sc (l.drop (stp l).2) (p + (stp l).2)).2) := by
  cases l with
  | nil => simp [stp] at h0
  | cons c r =>
    rw [← sc_rest p h0 r.length rfl]
    conv => lhs; unfold sc; simp only [List.length_cons]
    rw [scanF, if_neg (by simp), if_neg h0, if_neg h]
end Mth
end Go.Proofs.Ytljgpgmaceackaa

/- The reference's step and the program's agree; what a separated token gives. -/
namespace Go.Proofs.Ytljgpgmaceackaa
namespace Mth

theorem kw_inn {l : List UInt8} (h : kw l = true) : wrd l = true := by
  unfold kw kws at h
  simp only [decide_eq_true_eq, List.mem_cons, List.not_mem_nil, or_false] at h
  rcases h with h | h | h | h | h | h | h <;> subst h <;> decide
theorem dig_inn {c : UInt8} (h : dig c = true) : inn c = true := by unfold inn; simp [h]
theorem int_wrd {l : List UInt8} (h : isInt l = true) (hl : l.isEmpty = false) : wrd l = true := by
  unfold isInt at h
  simp only [Bool.and_eq_true] at h
  unfold wrd
  rw [hl]
  simp only [Bool.not_false, Bool.and_true, List.all_eq_true]
  intro c hc
  exact dig_inn (List.all_eq_true.1 h.2 c hc)
/-- A word's kind is its kind by the reference. -/
theorem wkind_eq {l : List UInt8} (h : wrd l = true) : wkind l = rkind l := by
  have hne : l.isEmpty = false := by unfold wrd at h; simp at h; simpa using h.2
  have hnil : ¬ l = [] := by intro e; subst e; simp at hne
  have hmk : mk l = false := by
    unfold mk
    simp only [Bool.or_eq_false_iff, decide_eq_false_iff_not]
    refine ⟨fun e => ?_, fun ⟨c, hc, e⟩ => ?_⟩
    · subst e; exact absurd h (by decide)
    · subst e
      unfold mks at hc
      simp only [List.mem_cons, List.not_mem_nil, or_false] at hc
      rcases hc with hc | hc | hc | hc | hc | hc | hc | hc | hc | hc | hc <;> subst hc <;> exact absurd h (by decide)
  unfold wkind rkind
  rw [if_neg hnil, h, hne, hmk]
  simp
/-- What is no word: only a mark has a kind. -/
theorem rkind_no {l : List UInt8} (h : wrd l = false) : rkind l = if mk l then 5 else 0 := by
  have h1 : kw l = false := by cases hk : kw l with | false => rfl | true => rw [kw_inn hk] at h; cases h
  have h2 : (!l.isEmpty && isInt l) = false := by
    cases he : l.isEmpty with
    | true => rfl
    | false =>
      cases hi : isInt l with
      | false => rfl
      | true => rw [int_wrd hi he] at h; cases h
  unfold rkind
  rw [h1, h, h2]
  simp
/-- The size of the part that the reference takes. -/
def rsize : List UInt8 → Nat
  | [] => 0
  | c :: r => if inn c then wsize (c :: r) else if c = 45 ∧ r.head? = some 62 then 2 else 1
theorem wsize_cons {c : UInt8} {r : List UInt8} (h : inn c = true) : wsize (c :: r) = wsize r + 1 := by unfold wsize; rw [List.takeWhile_cons, if_pos h]; rfl
theorem wsize_none {c : UInt8} {r : List UInt8} (h : inn c = false) : wsize (c :: r) = 0 := by unfold wsize; rw [List.takeWhile_cons, if_neg (by simp [h])]; rfl
theorem take_wsize (l : List UInt8) : l.take (wsize l) = l.takeWhile inn := by
  unfold wsize
  exact (List.prefix_iff_eq_take.1 (List.takeWhile_prefix _)).symm
theorem all_takeWhile (l : List UInt8) : (l.takeWhile inn).all inn = true := by
  induction l with
  | nil => rfl
  | cons c r ih =>
    rw [List.takeWhile_cons]
    split
    · rename_i h; simp [h, ih]
    · rfl
theorem wrd_take {c : UInt8} {r : List UInt8} (h : inn c = true) : wrd ((c :: r).take (wsize (c :: r))) = true := by
  rw [take_wsize]
  unfold wrd
  rw [all_takeWhile, List.takeWhile_cons, if_pos h]
  rfl
theorem inn_not {c : UInt8} (h : inn c = true) : c ≠ 35 ∧ wht c = false ∧ c ≠ 45 ∧ ¬ c ∈ mks := by
  refine ⟨fun e => ?_, ?_, fun e => ?_, fun e => ?_⟩
  · subst e; exact absurd h (by decide)
  · cases hw : wht c with
    | false => rfl
    | true =>
      unfold wht at hw
      simp only [decide_eq_true_eq, List.mem_cons, List.not_mem_nil, or_false] at hw
      rcases hw with e | e | e | e <;> subst e <;> exact absurd h (by decide)
  · subst e; exact absurd h (by decide)
  · unfold mks at e
    simp only [List.mem_cons, List.not_mem_nil, or_false] at e
    rcases e with e | e | e | e | e | e | e | e | e | e | e <;> subst e <;> exact absurd h (by decide)
/-- A word at the head of a text. -/
theorem stp_word {c : UInt8} {r : List UInt8} (h : inn c = true) : stp (c :: r) = (rkind ((c :: r).take (wsize (c :: r))), wsize (c :: r)) := by
  obtain ⟨h1, h2, h3, h4⟩ := inn_not h
  unfold stp
  dsimp only
  rw [if_neg h1, if_neg (by simp [h2]), if_neg h3, if_neg h4, wkind_eq (wrd_take h)]
/-- THE STEP: where no white space and no comment begins, the two agree. -/
theorem stp_ref {c : UInt8} {r : List UInt8} (h1 : c ≠ 35) (h2 : wht c = false) :
    (stp (c :: r)).1 = rkind ((c :: r).take (rsize (c :: r))) ∧ (rkind ((c :: r).take (rsize (c :: r))) ≠ 0 → (stp (c :: r)).2 = rsize (c :: r)) := by
  cases hi : inn c with
  | true =>
    have hr : rsize (c :: r) = wsize (c :: r) := by unfold rsize; dsimp only; rw [if_pos hi]
    rw [stp_word hi, hr]; exact ⟨rfl, fun _ => rfl⟩
  | false =>
    have hnw : ∀ t, wrd (c :: t) = false := fun t => by unfold wrd; simp [hi]
    unfold stp rsize
    dsimp only
    rw [if_neg h1, if_neg (show ¬ wht c = true by simp [h2]), if_neg (show ¬ inn c = true by simp [hi])]
    by_cases h3 : c = 45
    · subst h3
      rw [if_pos rfl]
      by_cases h4 : r.head? = some 62
      · rw [if_pos h4, if_pos ⟨rfl, h4⟩]
        cases r with
        | nil => simp at h4
        | cons d r => simp at h4; subst h4; exact ⟨rfl, fun _ => rfl⟩
      · rw [if_neg h4, if_neg (fun h => h4 h.2)]
        simp; decide
    · rw [if_neg h3, if_neg (show ¬ (c = 45 ∧ r.head? = some 62) from fun h => h3 h.1)]
      have ht : (c :: r).take 1 = [c] := by simp
      rw [ht, rkind_no (hnw [])]
      by_cases h5 : c ∈ mks
      · rw [if_pos h5]
        have hm : mk [c] = true := by unfold mk; simp [h5]
        rw [hm]; exact ⟨rfl, fun _ => rfl⟩
      · rw [if_neg h5]
        have hm : mk [c] = false := by unfold mk; simp [h5]
        rw [hm, wsize_none hi]
        exact ⟨by simp [wkind], fun h => absurd rfl h⟩

theorem rkind_cases (l : List UInt8) : rkind l = 0 ∨ rkind l = 1 ∨ rkind l = 2 ∨ rkind l = 3 ∨ rkind l = 4 ∨ rkind l = 5 := by
  unfold rkind
  repeat' split
  all_goals simp
/-- White space ahead of each token. -/
def before (l : List (List UInt8 × List UInt8)) : List UInt8 := l.flatMap fun x => x.1 ++ x.2
/-- How far a list's bytes meet p. -/
def tw (p : UInt8 → Bool) (l : List UInt8) : Nat := (l.takeWhile p).length
theorem tw_le (p : UInt8 → Bool) (l : List UInt8) : tw p l ≤ l.length := (List.takeWhile_sublist _).length_le
theorem tw_step (p : UInt8 → Bool) : ∀ (l : List UInt8) (k : Nat) (h : k < l.length), k ≤ tw p l → (p l[k] = true → k + 1 ≤ tw p l) ∧ (p l[k] = false → k = tw p l) := by
  intro l
  induction l with
  | nil => intro k h; simp at h
  | cons c r ih =>
    intro k h hk
    unfold tw at hk ⊢
    rw [List.takeWhile_cons] at hk ⊢
    cases hp : p c with
    | false =>
      rw [hp] at hk
      simp at hk
      subst hk
      simp [hp]
    | true =>
      rw [hp] at hk
      simp at hk
      cases k with
      | zero => simp [hp]
      | succ k =>
        have := ih k (by simpa using h) (by unfold tw; omega)
        unfold tw at this
        simp only [List.getElem_cons_succ, if_true, List.length_cons]
        refine ⟨fun h => by have := this.1 h; omega, fun h => by have := this.2 h; omega⟩
theorem all_tw (p : UInt8 → Bool) : ∀ l : List UInt8, l.all p = decide (tw p l = l.length) := by
  intro l
  induction l with
  | nil => rfl
  | cons c r ih =>
    unfold tw at ih ⊢
    rw [List.takeWhile_cons, List.all_cons]
    cases hp : p c with
    | false => simp
    | true => simp [ih]
/-- A string's bytes. -/
def bl (s : ByteArray) : List UInt8 := s.data.toList
theorem bl_len (s : ByteArray) : (bl s).length = s.size := by unfold bl; simp
theorem bl_get (s : ByteArray) (k : Nat) (h : k < s.size) : (bl s)[k]'(by rw [bl_len]; exact h) = s[k] := rfl
theorem bl_eq {s t : ByteArray} : s = t ↔ bl s = bl t := ⟨fun h => by rw [h], fun h => by apply ByteArray.ext; apply Array.ext'; exact h⟩
theorem bl_mk (l : List UInt8) : bl ⟨l.toArray⟩ = l := by unfold bl; simp
theorem bl_extract (s : ByteArray) (a b : Nat) : bl (s.extract a b) = ((bl s).drop a).take (b - a) := by
  unfold bl; simp
end Mth
end Go.Proofs.Ytljgpgmaceackaa

/- How far a scan has come: the tokens so far and what is left. -/
namespace Go.Proofs.Ytljgpgmaceackaa
namespace Mth
/-- The tokens of a text, its error and the error's place. -/
def ferr (l : List UInt8) : Int := if 4000 < l.length then 1 else match (sc l 0).2 with | none => 0 | some _ => 2
def fpos (l : List UInt8) : Int := if 4000 < l.length then 0 else match (sc l 0).2 with | none => 0 | some p => p
def ftoks (l : List UInt8) : List Tok := if 4000 < l.length then [] else match (sc l 0).2 with | none => (sc l 0).1 | some _ => []
/-- A scan of l that stands at k and has the tokens acc. -/
def Inv (l : List UInt8) (k : Nat) (acc : List Tok) : Prop := acc.length ≤ k ∧ sc l 0 = (acc ++ (sc (l.drop k) k).1, (sc (l.drop k) k).2)
theorem inv_start (l : List UInt8) : Inv l 0 [] := ⟨Nat.le_refl _, by simp⟩
theorem inv_blank {l : List UInt8} {k n : Nat} {acc : List Tok} (h : Inv l k acc) (hs : stp (l.drop k) = (-1, n)) : Inv l (k + n) acc := by
  have he := sc_blank (l := l.drop k) k (by rw [hs])
  rw [hs, List.drop_drop] at he
  refine ⟨Nat.le_trans h.1 (by omega), ?_⟩
  rw [h.2, he]
theorem inv_tok {l : List UInt8} {k n : Nat} {K : Int} {acc : List Tok} (h : Inv l k acc) (hs : stp (l.drop k) = (K, n)) (h0 : K ≠ 0) (h1 : K ≠ -1) : Inv l (k + n) (acc ++ [⟨K, (l.drop k).take n, k⟩]) := by
  have he := sc_tok (l := l.drop k) k (by rw [hs]; exact h0) (by rw [hs]; exact h1)
  have hn := stp_le (l.drop k) (by rw [hs]; exact h0)
  rw [hs, List.drop_drop] at he
  rw [hs] at hn
  refine ⟨by have := h.1; have := hn.1; simp only [List.length_append, List.length_singleton]; dsimp only at *; omega, ?_⟩
  rw [h.2, he]
  simp
theorem inv_err {l : List UInt8} {k n : Nat} {acc : List Tok} (h : Inv l k acc) (hs : stp (l.drop k) = (0, n)) (hk : k < l.length) (hl : ¬ 4000 < l.length) : ferr l = 2 ∧ fpos l = k ∧ ftoks l = [] := by
  have hne : l.drop k ≠ [] := fun e => by have := List.length_drop (l := l) (i := k); rw [e] at this; simp at this; omega
  have he := sc_err (l := l.drop k) k hne (by rw [hs])
  have h2 := h.2
  rw [he] at h2
  unfold ferr fpos ftoks
  rw [h2, if_neg hl, if_neg hl, if_neg hl]
  exact ⟨rfl, rfl, rfl⟩
theorem inv_end {l : List UInt8} {k : Nat} {acc : List Tok} (h : Inv l k acc) (hk : k = l.length) (hl : ¬ 4000 < l.length) : ferr l = 0 ∧ fpos l = 0 ∧ ftoks l = acc := by
  have h2 := h.2
  rw [hk, List.drop_length, sc_nil] at h2
  unfold ferr fpos ftoks
  rw [h2, if_neg hl, if_neg hl, if_neg hl]
  exact ⟨rfl, rfl, by simp⟩
theorem inv_big {l : List UInt8} (hl : 4000 < l.length) : ferr l = 1 ∧ fpos l = 0 ∧ ftoks l = [] := by
  unfold ferr fpos ftoks
  exact ⟨if_pos hl, if_pos hl, if_pos hl⟩
end Mth
end Go.Proofs.Ytljgpgmaceackaa
