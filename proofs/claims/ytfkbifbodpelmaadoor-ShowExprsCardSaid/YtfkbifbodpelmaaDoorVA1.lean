import Derived.IntWalk
import Derived.Lib.Strings
import Derived.Lib.Bytealg
import Derived.Test.YtfkbifbodpelmaaDoorRows
import Derived.WalkKit
import Derived.WalkSpells
import Derived.WalkLawsBesides
import Derived.WalkSmall
import Derived.Lib.Hide
import Derived.Handy
import Derived.Below
import Derived.OwnWalk
import Derived.Laws.AppendOwn
import Derived.Deep.RegionHeld3
import Derived.Deep.QuietTactic
import Derived.BigQuiet
import Derived.Maps.AppendAt
import Derived.LoopTactic
import Derived.Deep.AppendLies
import Derived.Maps.OwnOps
import Derived.Maps.Views
/- Plain facts on lists of bytes: words, kinds, one step of a scan, the scan, as the walks use them. -/
namespace Go.Proofs.YtfkbifbodpelmaaDoor
namespace Mth

def low (c : UInt8) : Bool := decide (97 ≤ c.toNat) && decide (c.toNat ≤ 122)
def upp (c : UInt8) : Bool := decide (65 ≤ c.toNat) && decide (c.toNat ≤ 90)
def dig (c : UInt8) : Bool := decide (48 ≤ c.toNat) && decide (c.toNat ≤ 57)
def inn (c : UInt8) : Bool := low c || upp c || dig c || decide (c.toNat = 95)
def kws : List (List UInt8) := [[100, 97, 116, 97], [108, 101, 116], [114, 101, 99], [105, 110], [99, 97, 115, 101], [111, 102], [101, 110, 100]]
def kw (l : List UInt8) : Bool := decide (l ∈ kws)
def mks : List UInt8 := [92, 46, 61, 59, 58, 124, 40, 41, 123, 125, 63]
def mk (l : List UInt8) : Bool := decide (l = [45, 62]) || decide (∃ c ∈ mks, l = [c])
/-- Is the list a word? -/
def wrd (l : List UInt8) : Bool := l.all inn && !l.isEmpty
/-- Of a list that is not empty: is it an integer? -/
def isInt (l : List UInt8) : Bool := decide (l.length ≤ 9) && !(decide (l.head? = some 48) && decide (1 < l.length)) && l.all dig
def hd (p : UInt8 → Bool) (l : List UInt8) : Bool := match l with | [] => false | c :: _ => p c
/-- The kind of a word. -/
def wkind (l : List UInt8) : Int :=
  if l = [] then 0 else if kw l then 4 else if hd low l && decide (l.length ≤ 12) then 1 else if hd upp l && decide (l.length ≤ 12) then 2 else if isInt l then 3 else 0
/-- The kind of a word or a mark, as the reference has it. -/
def rkind (l : List UInt8) : Int :=
  if kw l then 4 else if wrd l && hd low l && decide (l.length ≤ 12) then 1 else if wrd l && hd upp l && decide (l.length ≤ 12) then 2 else if !l.isEmpty && isInt l then 3 else if mk l then 5 else 0
def wsize (l : List UInt8) : Nat := (l.takeWhile inn).length
def csize (l : List UInt8) : Nat := (l.takeWhile (fun c => !decide (c = 10))).length
def wht (c : UInt8) : Bool := decide (c ∈ ([32, 9, 13, 10] : List UInt8))

/-- The first part of a text that is not empty: its kind and its size. -/
def stp : List UInt8 → Int × Nat
  | [] => (0, 0)
  | c :: r =>
    if c = 35 then (-1, csize (c :: r))
    else if wht c then (-1, 1)
    else if c = 45 then (if r.head? = some 62 then (5, 2) else (0, 1))
    else if c ∈ mks then (5, 1)
    else (wkind ((c :: r).take (wsize (c :: r))), wsize (c :: r))

theorem wsize_le (l : List UInt8) : wsize l ≤ l.length := by
  unfold wsize; exact (List.takeWhile_sublist _).length_le
theorem csize_le (l : List UInt8) : csize l ≤ l.length := by
  unfold csize; exact (List.takeWhile_sublist _).length_le
theorem stp_le (l : List UInt8) (h : (stp l).1 ≠ 0) : 1 ≤ (stp l).2 ∧ (stp l).2 ≤ l.length := by
  cases l with
  | nil => simp [stp] at h
  | cons c r =>
    unfold stp at h ⊢
    dsimp only at h ⊢
    split at h <;> rename_i h1
    · rw [if_pos h1]
      refine ⟨?_, csize_le _⟩
      subst h1; simp [csize]
    · rw [if_neg h1]
      split at h <;> rename_i h2
      · rw [if_pos h2]; simp
      · rw [if_neg h2]
        split at h <;> rename_i h3
        · rw [if_pos h3]
          split at h <;> rename_i h4
          · rw [if_pos h4]
            cases r with
            | nil => simp at h4
            | cons => simp
          · simp at h
        · rw [if_neg h3]
          split at h <;> rename_i h4
          · rw [if_pos h4]; simp
          · rw [if_neg h4]
            refine ⟨?_, wsize_le _⟩
            by_cases hz : wsize (c :: r) = 0
            · rw [hz] at h; simp [wkind] at h
            · dsimp only; omega

structure Tok where
  kind : Int
  text : List UInt8
  pos : Nat

/-- The tokens of a text, or where none begins; p is the offset of its first byte. -/
def scanF : Nat → List UInt8 → Nat → List Tok × Option Nat
  | 0, _, _ => ([], none)
  | f + 1, l, p =>
    if l = [] then ([], none)
    else if (stp l).1 = 0 then ([], some p)
    else if (stp l).1 = -1 then scanF f (l.drop (stp l).2) (p + (stp l).2)
    else (⟨(stp l).1, l.take (stp l).2, p⟩ :: (scanF f (l.drop (stp l).2) (p + (stp l).2)).1, (scanF f (l.drop (stp l).2) (p + (stp l).2)).2)
theorem scanF_more : ∀ (f : Nat) (l : List UInt8) (p : Nat), l.length ≤ f → scanF f l p = scanF l.length l p := by
  intro f
  induction f using Nat.strongRecOn with
  | ind f ih =>
    intro l p hl
    cases f with
    | zero => have : l = [] := List.eq_nil_of_length_eq_zero (by omega); subst this; rfl
    | succ f =>
      cases l with
      | nil => simp [scanF]
      | cons c r =>
        simp only [List.length_cons] at hl ⊢
        unfold scanF
        by_cases h0 : (stp (c :: r)).1 = 0
        · rw [if_neg (by simp), if_pos h0, if_neg (by simp), if_pos h0]
        · have hb := stp_le (c :: r) h0
          have hlen : ((c :: r).drop (stp (c :: r)).2).length ≤ r.length := by simp only [List.length_drop, List.length_cons]; omega
          have e1 := ih f (by omega) ((c :: r).drop (stp (c :: r)).2) (p + (stp (c :: r)).2) (by omega)
          have e2 : scanF r.length ((c :: r).drop (stp (c :: r)).2) (p + (stp (c :: r)).2) = scanF ((c :: r).drop (stp (c :: r)).2).length ((c :: r).drop (stp (c :: r)).2) (p + (stp (c :: r)).2) :=
            ih r.length (by omega) _ _ hlen
          rw [e1, e2]
def sc (l : List UInt8) (p : Nat) : List Tok × Option Nat := scanF l.length l p
theorem sc_nil (p : Nat) : sc [] p = ([], none) := rfl
theorem sc_err {l : List UInt8} (p : Nat) (hl : l ≠ []) (h : (stp l).1 = 0) : sc l p = ([], some p) := by
  cases l with
  | nil => exact absurd rfl hl
  | cons c r => unfold sc; simp only [List.length_cons]; unfold scanF; rw [if_neg hl, if_pos h]
theorem sc_rest {l : List UInt8} (p : Nat) (h : (stp l).1 ≠ 0) (f : Nat) (hr : l.length = f + 1) : scanF f (l.drop (stp l).2) (p + (stp l).2) = sc (l.drop (stp l).2) (p + (stp l).2) := by
  have hb := stp_le l h
  exact scanF_more _ _ _ (by simp only [List.length_drop]; omega)
theorem sc_blank {l : List UInt8} (p : Nat) (h : (stp l).1 = -1) : sc l p = sc (l.drop (stp l).2) (p + (stp l).2) := by
  have h0 : (stp l).1 ≠ 0 := by rw [h]; decide
  cases l with
  | nil => simp [stp] at h
  | cons c r =>
    rw [← sc_rest p h0 r.length rfl]
    unfold sc; simp only [List.length_cons]
    rw [scanF, if_neg (by simp), if_neg h0, if_pos h]
theorem sc_tok {l : List UInt8} (p : Nat) (h0 : (stp l).1 ≠ 0) (h : (stp l).1 ≠ -1) :
    sc l p = (⟨(stp l).1, l.take (stp l).2, p⟩ :: (sc (l.drop (stp l).2) (p + (stp l).2)).1, (sc (l.drop (stp l).2) (p + (stp l).2)).2) := by
  cases l with
  | nil => simp [stp] at h0
  | cons c r =>
    rw [← sc_rest p h0 r.length rfl]
    conv => lhs; unfold sc; simp only [List.length_cons]
    rw [scanF, if_neg (by simp), if_neg h0, if_neg h]
end Mth
end Go.Proofs.YtfkbifbodpelmaaDoor

/- The reference's step and the program's agree; what a separated token gives. -/
namespace Go.Proofs.YtfkbifbodpelmaaDoor
namespace Mth

theorem kw_inn {l : List UInt8} (h : kw l = true) : wrd l = true := by
  unfold kw kws at h
  simp only [decide_eq_true_eq, List.mem_cons, List.not_mem_nil, or_false] at h
  rcases h with h | h | h | h | h | h | h <;> subst h <;> decide
theorem dig_inn {c : UInt8} (h : dig c = true) : inn c = true := by unfold inn; simp [h]
theorem int_wrd {l : List UInt8} (h : isInt l = true) (hl : l.isEmpty = false) : wrd l = true := by
  unfold isInt at h
  simp only [Bool.and_eq_true] at h
  unfold wrd
  rw [hl]
  simp only [Bool.not_false, Bool.and_true, List.all_eq_true]
  intro c hc
  exact dig_inn (List.all_eq_true.1 h.2 c hc)
/-- A word's kind is its kind by the reference. -/
theorem wkind_eq {l : List UInt8} (h : wrd l = true) : wkind l = rkind l := by
  have hne : l.isEmpty = false := by unfold wrd at h; simp at h; simpa using h.2
  have hnil : ¬ l = [] := by intro e; subst e; simp at hne
  have hmk : mk l = false := by
    unfold mk
    simp only [Bool.or_eq_false_iff, decide_eq_false_iff_not]
    refine ⟨fun e => ?_, fun ⟨c, hc, e⟩ => ?_⟩
    · subst e; exact absurd h (by decide)
    · subst e
      unfold mks at hc
      simp only [List.mem_cons, List.not_mem_nil, or_false] at hc
      rcases hc with hc | hc | hc | hc | hc | hc | hc | hc | hc | hc | hc <;> subst hc <;> exact absurd h (by decide)
  unfold wkind rkind
  rw [if_neg hnil, h, hne, hmk]
  simp
/-- What is no word: only a mark has a kind. -/
theorem rkind_no {l : List UInt8} (h : wrd l = false) : rkind l = if mk l then 5 else 0 := by
  have h1 : kw l = false := by cases hk : kw l with | false => rfl | true => rw [kw_inn hk] at h; cases h
  have h2 : (!l.isEmpty && isInt l) = false := by
    cases he : l.isEmpty with
    | true => rfl
    | false =>
      cases hi : isInt l with
      | false => rfl
      | true => rw [int_wrd hi he] at h; cases h
  unfold rkind
  rw [h1, h, h2]
  simp
/-- The size of the part that the reference takes. -/
def rsize : List UInt8 → Nat
  | [] => 0
  | c :: r => if inn c then wsize (c :: r) else if c = 45 ∧ r.head? = some 62 then 2 else 1
theorem wsize_cons {c : UInt8} {r : List UInt8} (h : inn c = true) : wsize (c :: r) = wsize r + 1 := by unfold wsize; rw [List.takeWhile_cons, if_pos h]; rfl
theorem wsize_none {c : UInt8} {r : List UInt8} (h : inn c = false) : wsize (c :: r) = 0 := by unfold wsize; rw [List.takeWhile_cons, if_neg (by simp [h])]; rfl
theorem take_wsize (l : List UInt8) : l.take (wsize l) = l.takeWhile inn := by
  unfold wsize
  exact (List.prefix_iff_eq_take.1 (List.takeWhile_prefix _)).symm
theorem all_takeWhile (l : List UInt8) : (l.takeWhile inn).all inn = true := by
  induction l with
  | nil => rfl
  | cons c r ih =>
    rw [List.takeWhile_cons]
    split
    · rename_i h; simp [h, ih]
    · rfl
theorem wrd_take {c : UInt8} {r : List UInt8} (h : inn c = true) : wrd ((c :: r).take (wsize (c :: r))) = true := by
  rw [take_wsize]
  unfold wrd
  rw [all_takeWhile, List.takeWhile_cons, if_pos h]
  rfl
theorem inn_not {c : UInt8} (h : inn c = true) : c ≠ 35 ∧ wht c = false ∧ c ≠ 45 ∧ ¬ c ∈ mks := by
  refine ⟨fun e => ?_, ?_, fun e => ?_, fun e => ?_⟩
  · subst e; exact absurd h (by decide)
  · cases hw : wht c with
    | false => rfl
    | true =>
      unfold wht at hw
      simp only [decide_eq_true_eq, List.mem_cons, List.not_mem_nil, or_false] at hw
      rcases hw with e | e | e | e <;> subst e <;> exact absurd h (by decide)
  · subst e; exact absurd h (by decide)
  · unfold mks at e
    simp only [List.mem_cons, List.not_mem_nil, or_false] at e
    rcases e with e | e | e | e | e | e | e | e | e | e | e <;> subst e <;> exact absurd h (by decide)
/-- A word at the head of a text. -/
theorem stp_word {c : UInt8} {r : List UInt8} (h : inn c = true) : stp (c :: r) = (rkind ((c :: r).take (wsize (c :: r))), wsize (c :: r)) := by
  obtain ⟨h1, h2, h3, h4⟩ := inn_not h
  unfold stp
  dsimp only
  rw [if_neg h1, if_neg (by simp [h2]), if_neg h3, if_neg h4, wkind_eq (wrd_take h)]
/-- THE STEP: where no white space and no comment begins, the two agree. -/
theorem stp_ref {c : UInt8} {r : List UInt8} (h1 : c ≠ 35) (h2 : wht c = false) :
    (stp (c :: r)).1 = rkind ((c :: r).take (rsize (c :: r))) ∧ (rkind ((c :: r).take (rsize (c :: r))) ≠ 0 → (stp (c :: r)).2 = rsize (c :: r)) := by
  cases hi : inn c with
  | true =>
    have hr : rsize (c :: r) = wsize (c :: r) := by unfold rsize; dsimp only; rw [if_pos hi]
    rw [stp_word hi, hr]; exact ⟨rfl, fun _ => rfl⟩
  | false =>
    have hnw : ∀ t, wrd (c :: t) = false := fun t => by unfold wrd; simp [hi]
    unfold stp rsize
    dsimp only
    rw [if_neg h1, if_neg (show ¬ wht c = true by simp [h2]), if_neg (show ¬ inn c = true by simp [hi])]
    by_cases h3 : c = 45
    · subst h3
      rw [if_pos rfl]
      by_cases h4 : r.head? = some 62
      · rw [if_pos h4, if_pos ⟨rfl, h4⟩]
        cases r with
        | nil => simp at h4
        | cons d r => simp at h4; subst h4; exact ⟨rfl, fun _ => rfl⟩
      · rw [if_neg h4, if_neg (fun h => h4 h.2)]
        simp; decide
    · rw [if_neg h3, if_neg (show ¬ (c = 45 ∧ r.head? = some 62) from fun h => h3 h.1)]
      have ht : (c :: r).take 1 = [c] := by simp
      rw [ht, rkind_no (hnw [])]
      by_cases h5 : c ∈ mks
      · rw [if_pos h5]
        have hm : mk [c] = true := by unfold mk; simp [h5]
        rw [hm]; exact ⟨rfl, fun _ => rfl⟩
      · rw [if_neg h5]
        have hm : mk [c] = false := by unfold mk; simp [h5]
        rw [hm, wsize_none hi]
        exact ⟨by simp [wkind], fun h => absurd rfl h⟩

theorem rkind_cases (l : List UInt8) : rkind l = 0 ∨ rkind l = 1 ∨ rkind l = 2 ∨ rkind l = 3 ∨ rkind l = 4 ∨ rkind l = 5 := by
  unfold rkind
  repeat' split
  all_goals simp
/-- Kinds and texts, without the places. -/
def kt (l : List Tok) : List (Int × List UInt8) := l.map fun t => (t.kind, t.text)
/-- White space ahead of each token. -/
def before (l : List (List UInt8 × List UInt8)) : List UInt8 := l.flatMap fun x => x.1 ++ x.2
/-- How far a list's bytes meet p. -/
def tw (p : UInt8 → Bool) (l : List UInt8) : Nat := (l.takeWhile p).length
theorem tw_le (p : UInt8 → Bool) (l : List UInt8) : tw p l ≤ l.length := (List.takeWhile_sublist _).length_le
theorem tw_step (p : UInt8 → Bool) : ∀ (l : List UInt8) (k : Nat) (h : k < l.length), k ≤ tw p l → (p l[k] = true → k + 1 ≤ tw p l) ∧ (p l[k] = false → k = tw p l) := by
  intro l
  induction l with
  | nil => intro k h; simp at h
  | cons c r ih =>
    intro k h hk
    unfold tw at hk ⊢
    rw [List.takeWhile_cons] at hk ⊢
    cases hp : p c with
    | false =>
      rw [hp] at hk
      simp at hk
      subst hk
      simp [hp]
    | true =>
      rw [hp] at hk
      simp at hk
      cases k with
      | zero => simp [hp]
      | succ k =>
        have := ih k (by simpa using h) (by unfold tw; omega)
        unfold tw at this
        simp only [List.getElem_cons_succ, if_true, List.length_cons]
        refine ⟨fun h => by have := this.1 h; omega, fun h => by have := this.2 h; omega⟩
theorem all_tw (p : UInt8 → Bool) : ∀ l : List UInt8, l.all p = decide (tw p l = l.length) := by
  intro l
  induction l with
  | nil => rfl
  | cons c r ih =>
    unfold tw at ih ⊢
    rw [List.takeWhile_cons, List.all_cons]
    cases hp : p c with
    | false => simp
    | true => simp [ih]
/-- A string's bytes. -/
def bl (s : ByteArray) : List UInt8 := s.data.toList
theorem bl_len (s : ByteArray) : (bl s).length = s.size := by unfold bl; simp
theorem bl_get (s : ByteArray) (k : Nat) (h : k < s.size) : (bl s)[k]'(by rw [bl_len]; exact h) = s[k] := rfl
theorem bl_eq {s t : ByteArray} : s = t ↔ bl s = bl t := ⟨fun h => by rw [h], fun h => by apply ByteArray.ext; apply Array.ext'; exact h⟩
theorem bl_mk (l : List UInt8) : bl ⟨l.toArray⟩ = l := by unfold bl; simp
theorem bl_extract (s : ByteArray) (a b : Nat) : bl (s.extract a b) = ((bl s).drop a).take (b - a) := by
  unfold bl; simp
end Mth
end Go.Proofs.YtfkbifbodpelmaaDoor

/- How far a scan has come: the tokens so far and what is left. -/
namespace Go.Proofs.YtfkbifbodpelmaaDoor
namespace Mth
/-- The tokens of a text, its error and the error's place. -/
def ferr (l : List UInt8) : Int := if 4000 < l.length then 1 else match (sc l 0).2 with | none => 0 | some _ => 2
def fpos (l : List UInt8) : Int := if 4000 < l.length then 0 else match (sc l 0).2 with | none => 0 | some p => p
def ftoks (l : List UInt8) : List Tok := if 4000 < l.length then [] else match (sc l 0).2 with | none => (sc l 0).1 | some _ => []
/-- A scan of l that stands at k and has the tokens acc. -/
def Inv (l : List UInt8) (k : Nat) (acc : List Tok) : Prop := acc.length ≤ k ∧ sc l 0 = (acc ++ (sc (l.drop k) k).1, (sc (l.drop k) k).2)
theorem inv_start (l : List UInt8) : Inv l 0 [] := ⟨Nat.le_refl _, by simp⟩
theorem inv_blank {l : List UInt8} {k n : Nat} {acc : List Tok} (h : Inv l k acc) (hs : stp (l.drop k) = (-1, n)) : Inv l (k + n) acc := by
  have he := sc_blank (l := l.drop k) k (by rw [hs])
  rw [hs, List.drop_drop] at he
  refine ⟨Nat.le_trans h.1 (by omega), ?_⟩
  rw [h.2, he]
theorem inv_tok {l : List UInt8} {k n : Nat} {K : Int} {acc : List Tok} (h : Inv l k acc) (hs : stp (l.drop k) = (K, n)) (h0 : K ≠ 0) (h1 : K ≠ -1) : Inv l (k + n) (acc ++ [⟨K, (l.drop k).take n, k⟩]) := by
  have he := sc_tok (l := l.drop k) k (by rw [hs]; exact h0) (by rw [hs]; exact h1)
  have hn := stp_le (l.drop k) (by rw [hs]; exact h0)
  rw [hs, List.drop_drop] at he
  rw [hs] at hn
  refine ⟨by have := h.1; have := hn.1; simp only [List.length_append, List.length_singleton]; dsimp only at *; omega, ?_⟩
  rw [h.2, he]
  simp
theorem inv_err {l : List UInt8} {k n : Nat} {acc : List Tok} (h : Inv l k acc) (hs : stp (l.drop k) = (0, n)) (hk : k < l.length) (hl : ¬ 4000 < l.length) : ferr l = 2 ∧ fpos l = k ∧ ftoks l = [] := by
  have hne : l.drop k ≠ [] := fun e => by have := List.length_drop (l := l) (i := k); rw [e] at this; simp at this; omega
  have he := sc_err (l := l.drop k) k hne (by rw [hs])
  have h2 := h.2
  rw [he] at h2
  unfold ferr fpos ftoks
  rw [h2, if_neg hl, if_neg hl, if_neg hl]
  exact ⟨rfl, rfl, rfl⟩
theorem inv_end {l : List UInt8} {k : Nat} {acc : List Tok} (h : Inv l k acc) (hk : k = l.length) (hl : ¬ 4000 < l.length) : ferr l = 0 ∧ fpos l = 0 ∧ ftoks l = acc := by
  have h2 := h.2
  rw [hk, List.drop_length, sc_nil] at h2
  unfold ferr fpos ftoks
  rw [h2, if_neg hl, if_neg hl, if_neg hl]
  exact ⟨rfl, rfl, by simp⟩
theorem inv_big {l : List UInt8} (hl : 4000 < l.length) : ferr l = 1 ∧ fpos l = 0 ∧ ftoks l = [] := by
  unfold ferr fpos ftoks
  exact ⟨if_pos hl, if_pos hl, if_pos hl⟩
end Mth
end Go.Proofs.YtfkbifbodpelmaaDoor

/- The contracts of the reference's functions on bytes; facts on words. -/
namespace Go.Proofs.YtfkbifbodpelmaaDoor
open Go.RowKit Mth

theorem ret_int {k : IntKind} {a b : Int} (h : a = b) : Ending.returned (.int k a) = .returned (.int k b) := by rw [h]
theorem ret_bool {a b : Bool} (h : a = b) : Ending.returned (.bool a) = .returned (.bool b) := by rw [h]
theorem low_any (c : UInt8) (w : World) : Calls Tryd.prog 85 #[.int .u8 c.toNat] w fun e w' => e = .returned (.bool (low c)) ∧ w = w' := by
  unfold low
  by_cases h1 : 97 ≤ c.toNat
  all_goals
    go_enter Tryd.func85, Tryd.ntmps85
    go_wp2
    go_ret
    exact ⟨ret_bool (by simp [h1] <;> omega), rfl⟩
theorem upp_any (c : UInt8) (w : World) : Calls Tryd.prog 86 #[.int .u8 c.toNat] w fun e w' => e = .returned (.bool (upp c)) ∧ w = w' := by
  unfold upp
  by_cases h1 : 65 ≤ c.toNat
  all_goals
    go_enter Tryd.func86, Tryd.ntmps86
    go_wp2
    go_ret
    exact ⟨ret_bool (by simp [h1] <;> omega), rfl⟩
theorem dig_any (c : UInt8) (w : World) : Calls Tryd.prog 87 #[.int .u8 c.toNat] w fun e w' => e = .returned (.bool (dig c)) ∧ w = w' := by
  unfold dig
  by_cases h1 : 48 ≤ c.toNat
  all_goals
    go_enter Tryd.func87, Tryd.ntmps87
    go_wp2
    go_ret
    exact ⟨ret_bool (by simp [h1] <;> omega), rfl⟩
theorem inn_any (c : UInt8) (w : World) : Calls Tryd.prog 61 #[.int .u8 c.toNat] w fun e w' => e = .returned (.bool (inn c)) ∧ w = w' := by
  unfold inn
  cases h1 : low c <;> cases h2 : upp c <;> cases h3 : dig c
  all_goals
    go_enter Tryd.func61, Tryd.ntmps61
    go_wp2_with (first
      | (go_at_call 85; refine (low_any c _).mono ?_; rintro e w' ⟨rfl, rfl⟩)
      | (go_at_call 86; refine (upp_any c _).mono ?_; rintro e w' ⟨rfl, rfl⟩)
      | (go_at_call 87; refine (dig_any c _).mono ?_; rintro e w' ⟨rfl, rfl⟩))
    go_ret
    exact ⟨ret_bool (by first | (simp; done) | (rw [Bool.eq_iff_iff]; simp; omega)), rfl⟩
theorem kw_no {s : ByteArray} (h : kw (bl s) = false) : ∀ a : List UInt8, a ∈ kws → (s.toList == a) = false := by
  intro a ha
  rw [Lib.toList_data]
  cases hb : s.data.toList == a with
  | false => rfl
  | true =>
    rw [beq_iff_eq] at hb
    unfold kw bl at h
    rw [hb] at h
    simp at h
    exact absurd ha h
theorem kw_yes {s : ByteArray} (h : kw (bl s) = true) : s = ⟨#[100, 97, 116, 97]⟩ ∨ s = ⟨#[108, 101, 116]⟩ ∨ s = ⟨#[114, 101, 99]⟩ ∨ s = ⟨#[105, 110]⟩ ∨ s = ⟨#[99, 97, 115, 101]⟩ ∨ s = ⟨#[111, 102]⟩ ∨ s = ⟨#[101, 110, 100]⟩ := by
  unfold kw kws at h
  simp only [decide_eq_true_eq, List.mem_cons, List.not_mem_nil, or_false] at h
  simpa [bl_eq, bl] using h
/-- A string's first byte. -/
theorem head_get {s : ByteArray} (h : 0 < s.size) : (bl s).head? = some s[0] := by
  rw [List.head?_eq_getElem?, List.getElem?_eq_getElem (by rw [bl_len]; exact h)]
  rfl
theorem hd_head {p : UInt8 → Bool} {l : List UInt8} {c : UInt8} (h : l.head? = some c) : hd p l = p c := by
  cases l with
  | nil => simp at h
  | cons d r => simp at h; subst h; rfl
theorem hd_get {s : ByteArray} (p : UInt8 → Bool) (h : 0 < s.size) : hd p (bl s) = p s[0] := hd_head (head_get h)
theorem nil_size {s : ByteArray} (h : 0 < s.size) : (s.toList == []) = false := by
  rw [Lib.toList_data]
  have := bl_len s
  unfold bl at this
  cases hb : s.data.toList == [] with
  | false => rfl
  | true => rw [beq_iff_eq] at hb; rw [hb] at this; simp at this; omega
theorem empty_size {s : ByteArray} (h : 0 < s.size) : (bl s).isEmpty = false := by
  have := bl_len s
  cases hb : (bl s).isEmpty with
  | false => rfl
  | true => rw [List.isEmpty_iff] at hb; rw [hb] at this; simp at this; omega
theorem isInt_eq {s : ByteArray} (h : 0 < s.size) : isInt (bl s) = (decide (s.size ≤ 9) && !(decide (s[0].toNat = 48) && decide (1 < s.size)) && decide (tw dig (bl s) = s.size)) := by
  unfold isInt
  rw [head_get h, all_tw, bl_len]
  have : (some s[0] = some 48) ↔ s[0].toNat = 48 := by
    rw [Option.some.injEq]; exact ⟨fun e => by rw [e]; rfl, fun e => UInt8.toNat_inj.1 e⟩
  simp only [this]
end Go.Proofs.YtfkbifbodpelmaaDoor

/- The contracts of the reference's mark, Keyword, word. -/
namespace Go.Proofs.YtfkbifbodpelmaaDoor
open Go.RowKit Mth

theorem ext_mk (k : Nat) (h : k < 11) : ((⟨#[92, 46, 61, 59, 58, 124, 40, 41, 123, 125, 63]⟩ : ByteArray).extract k (k + 1)).toList = [mks[k]'h] := by
  have all : ∀ d : Fin 11, bl ((⟨#[92, 46, 61, 59, 58, 124, 40, 41, 123, 125, 63]⟩ : ByteArray).extract d.val (d.val + 1)) = [mks[d.val]'d.isLt] := by decide +kernel
  rw [Lib.toList_data]
  exact all ⟨k, h⟩
/-- Of the marks of one byte, those behind the first k. -/
def mkFrom (k : Nat) (l : List UInt8) : Bool := decide (∃ c ∈ mks.drop k, l = [c])
theorem mkFrom_end (l : List UInt8) : mkFrom 11 l = false := by unfold mkFrom mks; simp
theorem mkFrom_hit {k : Nat} (h : k < 11) {l : List UInt8} (e : l = [mks[k]'h]) : mkFrom k l = true := by
  unfold mkFrom
  rw [decide_eq_true_eq]
  refine ⟨mks[k]'h, ?_, e⟩
  rw [List.mem_iff_getElem?]
  exact ⟨0, by rw [List.getElem?_drop, Nat.add_zero]; exact List.getElem?_eq_getElem h⟩
theorem mkFrom_miss {k : Nat} (h : k < 11) {l : List UInt8} (e : ¬ l = [mks[k]'h]) : mkFrom k l = mkFrom (k + 1) l := by
  unfold mkFrom
  rw [Bool.eq_iff_iff, decide_eq_true_eq, decide_eq_true_eq]
  have hd := List.drop_eq_getElem_cons (show k < mks.length from h)
  constructor
  · rintro ⟨c, hc, hl⟩
    rw [hd] at hc
    rcases List.mem_cons.1 hc with rfl | hc
    · exact absurd hl e
    · exact ⟨c, hc, hl⟩
  · rintro ⟨c, hc, hl⟩
    exact ⟨c, by rw [hd]; exact List.mem_cons_of_mem _ hc, hl⟩
theorem str_eq {s : ByteArray} {l : List UInt8} (h : (s.toList == l) = true) : bl s = l := by
  rw [Lib.toList_data, beq_iff_eq] at h; exact h
theorem str_ne {s : ByteArray} {l : List UInt8} (h : (s.toList == l) = false) : ¬ bl s = l := by
  rw [Lib.toList_data, beq_eq_false_iff_ne] at h; exact h
theorem mk_any (s : ByteArray) (w : World) : Calls Tryd.prog 92 #[.string s] w fun e w' => e = .returned (.bool (mk (bl s))) ∧ w = w' := by
  cases h1 : (s.toList == [45, 62]) with
  | true =>
    have HE : Hid (mk (bl s) = true) := by show _ = _; rw [str_eq h1]; rfl
    go_enter Tryd.func92, Tryd.ntmps92
    go_wp2
    go_ret
    exact ⟨ret_bool HE.out.symm, rfl⟩
  | false =>
    have HE : Hid (mk (bl s) = mkFrom 0 (bl s)) := by
      show _ = _
      unfold mk mkFrom
      simp [str_ne h1]
    go_enter Tryd.func92, Tryd.ntmps92
    go_wp2
    go_loop [3] (fun i => ∃ k : Nat, k ≤ 11 ∧ i = .int .i64 k ∧ Hid (mk (bl s) = mkFrom k (bl s))) (fun i => 11 - (intOf i).toNat)
    case atStart => exact ⟨0, Nat.zero_le _, rfl, HE⟩
    case round =>
      obtain ⟨k, hk, rfl, HK⟩ := hrel
      by_cases hlt : k < 11
      · have hx := ext_mk k hlt
        cases hb : (s.toList == ((⟨#[92, 46, 61, 59, 58, 124, 40, 41, 123, 125, 63]⟩ : ByteArray).extract k (k + 1)).toList) with
        | true =>
          have HR : Hid (mk (bl s) = true) := by
            rw [hx] at hb
            exact HK.out.trans (mkFrom_hit hlt (str_eq hb))
          clear hx
          go_wp2
          go_ret
          exact ⟨ret_bool HR.out.symm, rfl⟩
        | false =>
          have HR : Hid (mk (bl s) = mkFrom (k + 1) (bl s)) := by
            rw [hx] at hb
            exact HK.out.trans (mkFrom_miss hlt (str_ne hb))
          clear hx
          go_wp2
          go_round
          case rel => exact ⟨k + 1, hlt, by go_num, HR⟩
          case measure => simp [intOf]; omega
      · obtain rfl : k = 11 := by omega
        go_wp2
        go_ret
        exact ⟨ret_bool (HK.out.trans (mkFrom_end _)).symm, rfl⟩
theorem kw_no' {s : ByteArray} (h : kw (bl s) = false) (a : List UInt8) (ha : a ∈ kws) : (a == s.toList) = false := by
  have := kw_no h a ha
  rw [beq_eq_false_iff_ne] at this ⊢
  exact fun e => this e.symm
set_option maxHeartbeats 800000 in
theorem keyword_any (s : ByteArray) (w : World) : Calls Tryd.prog 88 #[.string s] w fun e w' => e = .returned (.bool (kw (bl s))) ∧ Below w.heap.size w w' := by
  cases hk : kw (bl s) with
  | true =>
    rcases kw_yes hk with h | h | h | h | h | h | h
    all_goals
      subst h
      clear hk
      go_enter Tryd.func88, Tryd.ntmps88
      go_wp2
      go_rounds 8
      go_ret
      exact ⟨rfl, (Below.refl _ _).alloc (Nat.le_refl _) _⟩
  | false =>
    have h1 := kw_no' hk [100, 97, 116, 97] (by decide)
    have h2 := kw_no' hk [108, 101, 116] (by decide)
    have h3 := kw_no' hk [114, 101, 99] (by decide)
    have h4 := kw_no' hk [105, 110] (by decide)
    have h5 := kw_no' hk [99, 97, 115, 101] (by decide)
    have h6 := kw_no' hk [111, 102] (by decide)
    have h7 := kw_no' hk [101, 110, 100] (by decide)
    clear hk
    go_enter Tryd.func88, Tryd.ntmps88
    go_wp2
    go_rounds 8
    go_ret
    exact ⟨rfl, (Below.refl _ _).alloc (Nat.le_refl _) _⟩
theorem wrd_eq (s : ByteArray) : wrd (bl s) = (decide (tw inn (bl s) = s.size) && !decide (s.size = 0)) := by
  unfold wrd
  rw [all_tw, bl_len]
  congr 2
  rw [Bool.eq_iff_iff, List.isEmpty_iff_length_eq_zero, bl_len]; simp
theorem nil_decide (s : ByteArray) : (s.toList == []) = decide (s.size = 0) := by
  rw [Lib.toList_data, ← bl_len]
  change (bl s == []) = _
  cases bl s <;> rfl
theorem wrd_any (s : ByteArray) (w : World) (hs : s.size ≤ 9223372036854775807) : Calls Tryd.prog 102 #[.string s] w fun e w' => e = .returned (.bool (wrd (bl s))) ∧ w = w' := by
  have HE := Lib.hid (wrd_eq s)
  have HN := Lib.hid (nil_decide s)
  have hle := tw_le inn (bl s)
  rw [bl_len] at hle
  go_enter Tryd.func102, Tryd.ntmps102
  go_wp2
  go_loop [3] (fun i => ∃ k : Nat, k ≤ tw inn (bl s) ∧ i = .int .i64 k) (fun i => s.size - (intOf i).toNat)
  case atStart => exact ⟨0, Nat.zero_le _, rfl⟩
  case round =>
    obtain ⟨k, hk, rfl⟩ := hrel
    by_cases hlt : k < s.size
    · have hst := tw_step inn (bl s) k (by rw [bl_len]; exact hlt) hk
      rw [bl_get s k hlt] at hst
      have HS := Lib.hid hst
      clear hst
      cases h3 : inn s[k] with
      | true =>
        have h6 := Lib.hid (HS.out.1 h3)
        go_wp2_with (go_at_call 61; refine (inn_any _ _).mono ?_; rintro e w' ⟨rfl, rfl⟩)
        go_round
        case rel => exact ⟨k + 1, h6.out, by go_num⟩
        case measure => simp [intOf]; omega
      | false =>
        have h6 := Lib.hid (HS.out.2 h3)
        go_wp2_with (go_at_call 61; refine (inn_any _ _).mono ?_; rintro e w' ⟨rfl, rfl⟩)
        go_ret
        exact ⟨ret_bool (by have := h6.out; rw [HE.out]; symm; simp; omega), rfl⟩
    · have HT : Hid (tw inn (bl s) = s.size) := by show _ = _; omega
      clear hle
      by_cases hz : s.size = 0
      · have hb : (s.toList == []) = true := by rw [HN.out]; simp [hz]
        go_wp2
        go_ret
        exact ⟨ret_bool (by rw [HE.out, HT.out]; simp [hz]), rfl⟩
      · have hb : (s.toList == []) = false := by rw [HN.out]; simp [hz]
        go_wp2
        go_ret
        exact ⟨ret_bool (by rw [HE.out, HT.out]; simp [hz]), rfl⟩
end Go.Proofs.YtfkbifbodpelmaaDoor

/- The contracts of the reference's Lower, Upper, Integer and Kind. -/
namespace Go.Proofs.YtfkbifbodpelmaaDoor
open Go.RowKit Mth

theorem wrd_pos {s : ByteArray} (h : wrd (bl s) = true) : 0 < s.size := by
  by_cases hz : s.size = 0
  · rw [wrd_eq, hz] at h; simp at h
  · omega
def isUp (l : List UInt8) : Bool := wrd l && hd upp l && decide (l.length ≤ 12)
def isLo (l : List UInt8) : Bool := wrd l && hd low l && decide (l.length ≤ 12) && !kw l
theorem upper_any (s : ByteArray) (w : World) (hs : s.size ≤ 9223372036854775807) : Calls Tryd.prog 90 #[.string s] w fun e w' => e = .returned (.bool (isUp (bl s))) ∧ w = w' := by
  cases h1 : wrd (bl s) with
  | false =>
    have HE : Hid (isUp (bl s) = false) := by show _ = _; unfold isUp; rw [h1]; rfl
    go_enter Tryd.func90, Tryd.ntmps90
    go_wp2_with (go_at_call 102; refine (wrd_any _ _ hs).mono ?_; rintro e w' ⟨rfl, rfl⟩)
    go_ret
    exact ⟨ret_bool HE.out.symm, rfl⟩
  | true =>
    have h0 := wrd_pos h1
    have HE : Hid (isUp (bl s) = (upp s[0] && decide (s.size ≤ 12))) := by show _ = _; unfold isUp; rw [h1, hd_get upp h0, bl_len]; rfl
    cases h2 : upp s[0]
    all_goals
      go_enter Tryd.func90, Tryd.ntmps90
      go_wp2_with (first
        | (go_at_call 102; refine (wrd_any _ _ hs).mono ?_; rintro e w' ⟨rfl, rfl⟩)
        | (go_at_call 86; refine (upp_any _ _).mono ?_; rintro e w' ⟨rfl, rfl⟩))
      go_ret
      exact ⟨ret_bool (by rw [HE.out, h2]; simp <;> omega), rfl⟩
theorem lower_any (s : ByteArray) (w : World) (hs : s.size ≤ 9223372036854775807) : Calls Tryd.prog 89 #[.string s] w fun e w' => e = .returned (.bool (isLo (bl s))) ∧ Below w.heap.size w w' := by
  cases h1 : wrd (bl s) with
  | false =>
    have HE : Hid (isLo (bl s) = false) := by show _ = _; unfold isLo; rw [h1]; rfl
    go_enter Tryd.func89, Tryd.ntmps89
    go_wp2_with (go_at_call 102; refine (wrd_any _ _ hs).mono ?_; rintro e w' ⟨rfl, rfl⟩)
    go_ret
    exact ⟨ret_bool HE.out.symm, Below.refl _ _⟩
  | true =>
    have h0 := wrd_pos h1
    have HE : Hid (isLo (bl s) = (low s[0] && decide (s.size ≤ 12) && !kw (bl s))) := by show _ = _; unfold isLo; rw [h1, hd_get low h0, bl_len]; rfl
    cases h2 : low s[0] with
    | false =>
      go_enter Tryd.func89, Tryd.ntmps89
      go_wp2_with (first
        | (go_at_call 102; refine (wrd_any _ _ hs).mono ?_; rintro e w' ⟨rfl, rfl⟩)
        | (go_at_call 85; refine (low_any _ _).mono ?_; rintro e w' ⟨rfl, rfl⟩))
      go_ret
      exact ⟨ret_bool (by rw [HE.out, h2]; rfl), Below.refl _ _⟩
    | true =>
      by_cases h3 : s.size ≤ 12
      · cases h4 : kw (bl s)
        all_goals
          go_enter Tryd.func89, Tryd.ntmps89
          go_wp2_with (first
            | (go_at_call 102; refine (wrd_any _ _ hs).mono ?_; rintro e w' ⟨rfl, rfl⟩)
            | (go_at_call 85; refine (low_any _ _).mono ?_; rintro e w' ⟨rfl, rfl⟩)
            | (go_at_call 88; refine (keyword_any _ _).mono ?_; rintro e w1 ⟨rfl, hb1⟩))
          go_ret
          exact ⟨ret_bool (by rw [HE.out, h2, h4]; simp [h3]), hb1⟩
      · go_enter Tryd.func89, Tryd.ntmps89
        go_wp2_with (first
          | (go_at_call 102; refine (wrd_any _ _ hs).mono ?_; rintro e w' ⟨rfl, rfl⟩)
          | (go_at_call 85; refine (low_any _ _).mono ?_; rintro e w' ⟨rfl, rfl⟩))
        go_ret
        exact ⟨ret_bool (by rw [HE.out, h2]; simp [h3]), Below.refl _ _⟩
/-- Is the list an integer? -/
def isNum (l : List UInt8) : Bool := !l.isEmpty && isInt l
set_option maxHeartbeats 800000 in
theorem integer_any (s : ByteArray) (w : World) (hs : s.size ≤ 9223372036854775807) : Calls Tryd.prog 91 #[.string s] w fun e w' => e = .returned (.bool (isNum (bl s))) ∧ w = w' := by
  by_cases hz : s.size = 0
  · have he : s = ⟨#[]⟩ := bl_eq.2 (List.eq_nil_of_length_eq_zero (by rw [bl_len]; exact hz))
    subst he
    clear hz hs
    go_enter Tryd.func91, Tryd.ntmps91
    go_wp2
    go_ret
    exact ⟨rfl, rfl⟩
  have h0 : 0 < s.size := by omega
  have hn := nil_size h0
  have HE : Hid (isNum (bl s) = (decide (s.size ≤ 9) && !(decide (s[0].toNat = 48) && decide (1 < s.size)) && decide (tw dig (bl s) = s.size))) := by
    show _ = _
    unfold isNum
    rw [empty_size h0, isInt_eq h0]; rfl
  have hle := tw_le dig (bl s)
  rw [bl_len] at hle
  by_cases h9 : s.size ≤ 9
  · have loop : ∀ (h48 : (!(decide (s[0].toNat = 48) && decide (1 < s.size))) = true), Calls Tryd.prog 91 #[.string s] w fun e w' => e = .returned (.bool (isNum (bl s))) ∧ w = w' := by
      intro h48
      have HR : Hid (isNum (bl s) = decide (tw dig (bl s) = s.size)) := by
        show _ = _
        rw [HE.out, h48]; simp [h9]
      have hq : ((s[0].toNat : Int) == 48) = false ∨ (((s[0].toNat : Int) == 48) = true ∧ ¬ 1 < s.size) := by
        cases hb : ((s[0].toNat : Int) == 48) with
        | false => exact .inl rfl
        | true =>
          right
          rw [beq_iff_eq] at hb
          have hb' : s[0].toNat = 48 := by omega
          refine ⟨rfl, ?_⟩
          simp [hb'] at h48
          omega
      clear h48 HE
      rcases hq with hq | ⟨hq, hy⟩
      all_goals
        go_enter Tryd.func91, Tryd.ntmps91
        go_wp2
        clear hq
        try clear hy
        go_loop [3] (fun i => ∃ k : Nat, k ≤ tw dig (bl s) ∧ i = .int .i64 k) (fun i => s.size - (intOf i).toNat)
        case atStart => exact ⟨0, Nat.zero_le _, rfl⟩
        case round =>
          obtain ⟨k, hk, rfl⟩ := hrel
          by_cases hlt : k < s.size
          · have hst := tw_step dig (bl s) k (by rw [bl_len]; exact hlt) hk
            rw [bl_get s k hlt] at hst
            have HS := Lib.hid hst
            clear hst
            cases h3 : dig s[k] with
            | true =>
              have h6 := Lib.hid (HS.out.1 h3)
              go_wp2_with (go_at_call 87; refine (dig_any _ _).mono ?_; rintro e w' ⟨rfl, rfl⟩)
              go_round
              case rel => exact ⟨k + 1, h6.out, by go_num⟩
              case measure => simp [intOf]; omega
            | false =>
              have h6 := Lib.hid (HS.out.2 h3)
              go_wp2_with (go_at_call 87; refine (dig_any _ _).mono ?_; rintro e w' ⟨rfl, rfl⟩)
              go_ret
              exact ⟨ret_bool (by have := h6.out; rw [HR.out]; symm; simp; omega), rfl⟩
          · have : k = tw dig (bl s) := by omega
            go_wp2
            go_ret
            exact ⟨ret_bool (by rw [HR.out]; symm; simp; omega), rfl⟩
    cases h48 : (!(decide (s[0].toNat = 48) && decide (1 < s.size))) with
    | true => exact loop h48
    | false =>
      clear loop
      have HR : Hid (isNum (bl s) = false) := by
        show _ = _
        rw [HE.out, h48]; simp
      have hq : s[0].toNat = 48 ∧ 1 < s.size := by simpa using h48
      have h1 : ((s[0].toNat : Int) == 48) = true := by rw [beq_iff_eq]; omega
      have h2 := hq.2
      clear hq h48 HE hle
      go_enter Tryd.func91, Tryd.ntmps91
      go_wp2
      go_ret
      exact ⟨ret_bool (by rw [HR.out]), rfl⟩
  · have HR : Hid (isNum (bl s) = false) := by
      show _ = _
      rw [HE.out]; simp; omega
    clear HE hle
    go_enter Tryd.func91, Tryd.ntmps91
    go_wp2
    go_ret
    exact ⟨ret_bool (by rw [HR.out]), rfl⟩
theorem rkind_eq (l : List UInt8) : rkind l = if kw l then (4 : Int) else if isLo l then 1 else if isUp l then 2 else if isNum l then 3 else if mk l then 5 else 0 := by
  unfold rkind isLo isUp isNum
  cases kw l <;> simp
set_option maxHeartbeats 800000 in
theorem kind_any (s : ByteArray) (w : World) (hs : s.size ≤ 9223372036854775807) : Calls Tryd.prog 62 #[.string s] w fun e w' => e = .returned (.int .i64 (rkind (bl s))) ∧ Below w.heap.size w w' := by
  have HE := Lib.hid (rkind_eq (bl s))
  cases h1 : kw (bl s) with
  | true =>
    go_enter Tryd.func62, Tryd.ntmps62
    go_wp2_with (go_at_call 88; refine (keyword_any _ _).mono ?_; rintro e w1 ⟨rfl, hb1⟩)
    go_ret
    exact ⟨ret_int (by rw [HE.out, h1]; rfl), hb1⟩
  | false =>
    cases h2 : isLo (bl s) <;> cases h3 : isUp (bl s) <;> cases h4 : isNum (bl s) <;> cases h5 : mk (bl s)
    all_goals
      go_enter Tryd.func62, Tryd.ntmps62
      go_wp2_with (first
        | (go_at_call 88; refine (keyword_any _ _).mono ?_; rintro e w1 ⟨rfl, hb1⟩)
        | (go_at_call 89; refine (lower_any _ _ hs).mono ?_; rintro e w2 ⟨rfl, hb2⟩)
        | (go_at_call 90; refine (upper_any _ _ hs).mono ?_; rintro e w' ⟨rfl, rfl⟩)
        | (go_at_call 91; refine (integer_any _ _ hs).mono ?_; rintro e w' ⟨rfl, rfl⟩)
        | (go_at_call 92; refine (mk_any _ _).mono ?_; rintro e w' ⟨rfl, rfl⟩))
      go_ret
      exact ⟨ret_int (by rw [HE.out, h1, h2, h3, h4, h5]; rfl), hb1.trans (hb2.mono hb1.size)⟩
end Go.Proofs.YtfkbifbodpelmaaDoor

/- Rows of tokens. -/
namespace Go.Proofs.YtfkbifbodpelmaaDoor
open Go.RowKit Mth

/-- A token's cells. -/
def cells3 (t : Tok) : List Value := [.int .i64 t.kind, .string ⟨t.text.toArray⟩, .int .i64 t.pos]
def row3 (l : List Tok) : List Value := l.flatMap cells3
theorem row3_snoc (l : List Tok) (t : Tok) : row3 (l ++ [t]) = row3 l ++ cells3 t := by simp [row3]
theorem Tryd.info115 : (Tryd.prog.info? 115).map (fun i => (i.zero, i.size, i.bytes)) = some (some (.agg #[.int .i64 0, .string ByteArray.empty, .int .i64 0]), 3, 32) := by kernel_rfl
/-- What Scan hands back. -/
def ScanOut (l : List UInt8) (w : World) (e : Ending) (w' : World) : Prop :=
  ∃ v, e = .returned (.tuple #[v, .agg #[.int .i64 (ferr l), .int .i64 (fpos l)]]) ∧ w'.ownsRow (w.heap.size + 1) 115 3 v (ftoks l).length (row3 (ftoks l)) ∧ Below w.heap.size w w'
/-- The cells of the result's fault, while the loop runs. -/
theorem fault_cells {w wr : World} (h : Below (w.heap.size + 1) (w.alloc (.cells #[.int .i64 0, .int .i64 0] 45)) wr) :
    wr.cell? ⟨w.heap.size, 0, none⟩ = some (.int .i64 0) ∧ wr.cell? ⟨w.heap.size, 1, none⟩ = some (.int .i64 0) ∧
      wr.frozen? ⟨w.heap.size, 0, none⟩ = false ∧ wr.frozen? ⟨w.heap.size, 1, none⟩ = false := by
  refine ⟨?_, ?_, ?_, ?_⟩
  · rw [h.cell (p := ⟨w.heap.size, 0, none⟩) (by simp)]; simp
  · rw [h.cell (p := ⟨w.heap.size, 1, none⟩) (by simp)]; simp
  · rw [h.frozen (p := ⟨w.heap.size, 0, none⟩) (by simp)]; simp
  · rw [h.frozen (p := ⟨w.heap.size, 1, none⟩) (by simp)]; simp
theorem fault_read0 {b : Nat} {w : World} {x : Value} (h : w.cell? ⟨b, 0, none⟩ = some x) (u : Value) : (w.setCell ⟨b, 0, none⟩ u).cell? ⟨b, 0, none⟩ = some u := World.cell?_setCell_same _ _ _ h
theorem fault_read1 {b : Nat} {w : World} {x : Value} (h : w.cell? ⟨b, 1, none⟩ = some x) (u v : Value) : ((w.setCell ⟨b, 0, none⟩ u).setCell ⟨b, 1, none⟩ v).cell? ⟨b, 1, none⟩ = some v :=
  World.cell?_setCell_same _ _ _ (u := x) ((World.cell?_setCell_other _ _ _ _ (by simp)).trans h)
theorem fault_below {w wr : World} (h : Below (w.heap.size + 1) (w.alloc (.cells #[.int .i64 0, .int .i64 0] 45)) wr) : Below w.heap.size w wr :=
  ((Below.refl _ _).alloc (Nat.le_refl _) _).trans (h.mono (by omega))
theorem three_new {w : World} {a b c : Value} {t : TypeId} : ∀ (j : Nat) (u : Value), [a, b, c][j]? = some u → (w.alloc (.cells #[a, b, c] t)).cell? ((⟨w.heap.size, 0, none⟩ : Addr).add j) = some u := by
  intro j u hj
  rcases j with _ | _ | _ | j
  · simp at hj; subst hj; simp [Addr.add]
  · simp at hj; subst hj; simp [Addr.add]
  · simp at hj; subst hj; simp [Addr.add]
  · simp at hj
theorem three_one {k p : Int} {t : ByteArray} : ∀ u ∈ [Value.int .i64 k, .string t, .int .i64 p], u.oneCell' = true := by
  intro u hu
  simp at hu
  rcases hu with h | h | h <;> subst h <;> rfl
/-- A token's cells, as the walk makes them. -/
theorem cells3_ext (s : ByteArray) (k n : Nat) (K : Int) : cells3 ⟨K, ((bl s).drop k).take n, k⟩ = [.int .i64 K, .string (s.extract k (k + n)), .int .i64 k] := by
  have h : s.extract k (k + n) = ⟨(((bl s).drop k).take n).toArray⟩ := bl_eq.2 ((bl_extract _ _ _).trans ((congrArg (fun m => ((bl s).drop k).take m) (Nat.add_sub_cancel_left k n)).trans (bl_mk _).symm))
  unfold cells3
  rw [h]
end Go.Proofs.YtfkbifbodpelmaaDoor

/- Types as trees, and what it means that a value stands for a tree. -/
namespace Go.Proofs.YtfkbifbodpelmaaDoor
open Go.RowKit Mth

/-- A type: its kind, its name, its id, its home, its arguments. -/
inductive Ty where
  | mk (k : Int) (n : ByteArray) (i h : Int) (ts : List Ty)
instance : Inhabited Ty := ⟨.mk 0 ⟨#[]⟩ 0 0 []⟩
def Ty.k : Ty → Int | .mk k _ _ _ _ => k
def Ty.n : Ty → ByteArray | .mk _ n _ _ _ => n
def Ty.i : Ty → Int | .mk _ _ i _ _ => i
def Ty.h : Ty → Int | .mk _ _ _ h _ => h
def Ty.ts : Ty → List Ty | .mk _ _ _ _ ts => ts

mutual
def nodes : Ty → Nat
  | .mk _ _ _ _ ts => nodesL ts + 1
def nodesL : List Ty → Nat
  | [] => 0
  | t :: ts => nodes t + nodesL ts
end
theorem nodes_pos (t : Ty) : 1 ≤ nodes t := by cases t; simp [nodes]
theorem nodesL_mem : ∀ {l : List Ty} {t : Ty}, t ∈ l → nodes t ≤ nodesL l := by
  intro l
  induction l with
  | nil => intro t h; simp at h
  | cons x l ih =>
    intro t h
    rcases List.mem_cons.1 h with rfl | h
    · simp [nodesL]
    · have := ih h
      simp [nodesL]; omega

/-- Five cells that hold a struct. -/
def Five (w : World) (a : Addr) (j : Nat) (v : Value) : Prop :=
  ∃ c0 c1 c2 c3 c4, v = .agg #[c0, c1, c2, c3, c4] ∧ w.cell? (a.add (j * 5)) = some c0 ∧ w.cell? ⟨(a.add (j * 5)).block, (a.add (j * 5)).off + 1, none⟩ = some c1 ∧ w.cell? ⟨(a.add (j * 5)).block, (a.add (j * 5)).off + 2, none⟩ = some c2 ∧
    w.cell? ⟨(a.add (j * 5)).block, (a.add (j * 5)).off + 3, none⟩ = some c3 ∧ w.cell? ⟨(a.add (j * 5)).block, (a.add (j * 5)).off + 4, none⟩ = some c4
theorem add_block (a : Addr) (n : Nat) : (a.add n).block = a.block := by unfold Addr.add; split <;> rfl
theorem Five.kept {w w' : World} {a : Addr} {j : Nat} {v : Value} (h : Five w a j v) (hb : w'.heap[a.block]? = w.heap[a.block]?) : Five w' a j v := by
  obtain ⟨c0, c1, c2, c3, c4, hv, h0, h1, h2, h3, h4⟩ := h
  have e : w'.cell? (a.add (j * 5)) = w.cell? (a.add (j * 5)) := World.cell?_of_block (by rw [add_block]; exact hb)
  have e' : ∀ n, w'.cell? ⟨(a.add (j * 5)).block, n, none⟩ = w.cell? ⟨(a.add (j * 5)).block, n, none⟩ := fun n => World.cell?_of_block (by show w'.heap[(a.add (j * 5)).block]? = _; rw [add_block]; exact hb)
  exact ⟨c0, c1, c2, c3, c4, hv, by rw [e, h0], by rw [e', h1], by rw [e', h2], by rw [e', h3], by rw [e', h4]⟩
theorem Five.lt {w : World} {a : Addr} {j : Nat} {v : Value} (h : Five w a j v) : a.block < w.heap.size := by
  obtain ⟨c0, c1, c2, c3, c4, _, h0, _⟩ := h
  have := World.block_lt_of_cell? _ _ h0
  rwa [add_block] at this

/-- The value stands for the type; all blocks that it leads to are of S. -/
inductive Rep (w : World) (S : Nat → Prop) : Ty → Value → Prop
  | mk (k : Int) (n : ByteArray) (i h : Int) (ts : List Ty) (a : Option Addr) (cap : Nat) (f : Nat → Value) (hn : n.size ≤ maxLen) (hcap : ts.length ≤ cap ∧ cap ≤ maxLen)
      (hc : ∀ j T, ts[j]? = some T → ∃ ad, a = some ad ∧ S ad.block ∧ Five w ad j (f j)) (hr : ∀ j T, ts[j]? = some T → Rep w S T (f j)) :
      Rep w S (.mk k n i h ts) (.agg #[.int .i64 k, .string n, .int .i64 i, .int .i64 h, .slice a ts.length cap])
/-- The slice stands for the list of types. -/
def RepL (w : World) (S : Nat → Prop) (ts : List Ty) (v : Value) : Prop :=
  ∃ a cap, v = .slice a ts.length cap ∧ (ts.length ≤ cap ∧ cap ≤ maxLen) ∧ ∀ j T, ts[j]? = some T → ∃ ad x, a = some ad ∧ S ad.block ∧ Five w ad j x ∧ Rep w S T x
theorem repL_nil (w : World) (S : Nat → Prop) : RepL w S [] (.slice none 0 0) := ⟨none, 0, rfl, ⟨Nat.le_refl _, by simp⟩, fun j T h => by simp at h⟩
theorem Rep.open {w : World} {S : Nat → Prop} {T : Ty} {v : Value} (h : Rep w S T v) :
    ∃ k n i h s, T = .mk k n i h T.ts ∧ v = .agg #[.int .i64 k, .string n, .int .i64 i, .int .i64 h, s] ∧ n.size ≤ maxLen ∧ RepL w S T.ts s := by
  cases h with
  | mk k n i h ts a cap f hn hcap hc hr =>
    refine ⟨k, n, i, h, _, rfl, rfl, hn, a, cap, rfl, hcap, fun j T hj => ?_⟩
    obtain ⟨ad, ha, hs, h5⟩ := hc j T hj
    exact ⟨ad, f j, ha, hs, h5, hr j T hj⟩
theorem Rep.close {w : World} {S : Nat → Prop} {k : Int} {n : ByteArray} {i h : Int} {ts : List Ty} {s : Value} (hn : n.size ≤ maxLen) (hl : RepL w S ts s) :
    Rep w S (.mk k n i h ts) (.agg #[.int .i64 k, .string n, .int .i64 i, .int .i64 h, s]) := by
  obtain ⟨a, cap, rfl, hcap, hj⟩ := hl
  have hx : ∀ j, ∃ x, ∀ T, ts[j]? = some T → ∃ ad, a = some ad ∧ S ad.block ∧ Five w ad j x ∧ Rep w S T x := by
    intro j
    cases hT : ts[j]? with
    | none => exact ⟨.slice none 0 0, fun T h => by cases h⟩
    | some T0 =>
      obtain ⟨ad, x, h1, h2, h3, h4⟩ := hj j T0 hT
      exact ⟨x, fun T h => by cases h; exact ⟨ad, h1, h2, h3, h4⟩⟩
  let f : Nat → Value := fun j => Classical.choose (hx j)
  have hf : ∀ j T, ts[j]? = some T → ∃ ad, a = some ad ∧ S ad.block ∧ Five w ad j (f j) ∧ Rep w S T (f j) := fun j => Classical.choose_spec (hx j)
  exact .mk k n i h ts a cap f hn hcap (fun j T hT => by obtain ⟨ad, h1, h2, h3, _⟩ := hf j T hT; exact ⟨ad, h1, h2, h3⟩) (fun j T hT => by obtain ⟨_, _, _, _, h4⟩ := hf j T hT; exact h4)

/-- What stays where the blocks of S stay. -/
theorem Rep.kept {w w' : World} {S S' : Nat → Prop} (hS : ∀ b, S b → S' b) (hw : ∀ b, S b → b < w.heap.size → w'.heap[b]? = w.heap[b]?) {T : Ty} {v : Value} (h : Rep w S T v) : Rep w' S' T v := by
  induction h with
  | mk k n i h ts a cap f hn hcap hc _ ih =>
    refine .mk k n i h ts a cap f hn hcap (fun j T hj => ?_) ih
    obtain ⟨ad, ha, hs, h5⟩ := hc j T hj
    exact ⟨ad, ha, hS _ hs, h5.kept (hw _ hs h5.lt)⟩
theorem RepL.kept {w w' : World} {S S' : Nat → Prop} (hS : ∀ b, S b → S' b) (hw : ∀ b, S b → b < w.heap.size → w'.heap[b]? = w.heap[b]?) {ts : List Ty} {v : Value} (h : RepL w S ts v) : RepL w' S' ts v := by
  obtain ⟨a, cap, hv, hcap, hj⟩ := h
  refine ⟨a, cap, hv, hcap, fun j T hT => ?_⟩
  obtain ⟨ad, x, h1, h2, h3, h4⟩ := hj j T hT
  exact ⟨ad, x, h1, hS _ h2, h3.kept (hw _ h2 h3.lt), h4.kept hS hw⟩
theorem Rep.lift {w w' : World} {S : Nat → Prop} {T : Ty} {v : Value} (h : Rep w S T v) (hb : Below w.heap.size w w') : Rep w' S T v := h.kept (fun _ h => h) (fun b _ hl => hb.block b hl)
theorem RepL.lift {w w' : World} {S : Nat → Prop} {ts : List Ty} {v : Value} (h : RepL w S ts v) (hb : Below w.heap.size w w') : RepL w' S ts v := h.kept (fun _ h => h) (fun b _ hl => hb.block b hl)
theorem Rep.imp {w : World} {S S' : Nat → Prop} (hS : ∀ b, S b → S' b) {T : Ty} {v : Value} (h : Rep w S T v) : Rep w S' T v := h.kept hS fun _ _ _ => rfl
theorem RepL.imp {w : World} {S S' : Nat → Prop} (hS : ∀ b, S b → S' b) {T : List Ty} {v : Value} (h : RepL w S T v) : RepL w S' T v := h.kept hS fun _ _ _ => rfl
/-- The five cells of an element, ts a walk meets them. -/
theorem five_at {w : World} {ad : Addr} {j : Nat} {k : Int} {n : ByteArray} {i h : Int} {s : Value} (h5 : Five w ad j (.agg #[.int .i64 k, .string n, .int .i64 i, .int .i64 h, s])) :
    w.cell? (ad.add (j * 5)) = some (.int .i64 k) ∧ w.cell? ⟨(ad.add (j * 5)).block, (ad.add (j * 5)).off + 1, none⟩ = some (.string n) ∧ w.cell? ⟨(ad.add (j * 5)).block, (ad.add (j * 5)).off + 2, none⟩ = some (.int .i64 i) ∧ w.cell? ⟨(ad.add (j * 5)).block, (ad.add (j * 5)).off + 3, none⟩ = some (.int .i64 h) ∧ w.cell? ⟨(ad.add (j * 5)).block, (ad.add (j * 5)).off + 4, none⟩ = some s := by
  obtain ⟨c0, c1, c2, c3, c4, hv, h⟩ := h5
  simp at hv
  obtain ⟨rfl, rfl, rfl, rfl, rfl⟩ := hv
  exact h
end Go.Proofs.YtfkbifbodpelmaaDoor

/- Rows of types that a call owns. -/
namespace Go.Proofs.YtfkbifbodpelmaaDoor
open Go.RowKit Mth

theorem Tryd.info35 : (Tryd.prog.info? 35).map (fun i => (i.zero, i.size, i.bytes)) = some (some (.agg #[.int .i64 0, .string ByteArray.empty, .int .i64 0, .int .i64 0, .slice none 0 0]), 5, 64) := by kernel_rfl

theorem Rep.bound {w : World} {S : Nat → Prop} {T : Ty} {v : Value} (h : Rep w S T v) : Rep w (fun b => S b ∧ b < w.heap.size) T v := by
  induction h with
  | mk k n i h ts a cap f hn hcap hc _ ih =>
    refine .mk k n i h ts a cap f hn hcap (fun j T hj => ?_) ih
    obtain ⟨ad, ha, hs, h5⟩ := hc j T hj
    exact ⟨ad, ha, ⟨hs, h5.lt⟩, h5⟩
/-- The five cells of a value that stands for a type. -/
theorem Rep.cells {w : World} {S : Nat → Prop} {T : Ty} {c : List Value} (h : Rep w S T (.agg c.toArray)) : c.length = 5 ∧ ∀ u ∈ c, u.oneCell' = true := by
  obtain ⟨k, n, i, hm, s, _, hv, _, a, cap, hs, _⟩ := h.open
  subst hs
  have : c = [.int .i64 k, .string n, .int .i64 i, .int .i64 hm, .slice a T.ts.length cap] := by simpa using hv
  subst this
  refine ⟨rfl, fun u hu => ?_⟩
  simp at hu
  rcases hu with h | h | h | h | h <;> subst h <;> rfl
theorem flatten_get : ∀ (L : List (List Value)), (∀ c ∈ L, c.length = 5) → ∀ (j m : Nat) (c : List Value) (u : Value), L[j]? = some c → c[m]? = some u → L.flatten[j * 5 + m]? = some u := by
  intro L
  induction L with
  | nil => intro _ j m c u h; simp at h
  | cons x L ih =>
    intro hL j m c u hc hu
    have hx : x.length = 5 := hL x (by simp)
    rw [List.flatten_cons]
    cases j with
    | zero =>
      simp at hc; subst hc
      have hm := (List.getElem?_eq_some_iff.1 hu).1
      rw [List.getElem?_append_left (by omega)]
      simpa using hu
    | succ j =>
      rw [List.getElem?_append_right (by omega), hx, show (j + 1) * 5 + m - 5 = j * 5 + m by omega]
      exact ih (fun c h => hL c (by simp [h])) j m c u (by simpa using hc) hu
theorem add_zero (b o n : Nat) : (⟨b, o, none⟩ : Addr).add n = ⟨b, o + n, none⟩ := by unfold Addr.add; split <;> simp_all
theorem add_add' (a : Addr) (i j : Nat) (hj : j ≠ 0) : (⟨(a.add i).block, (a.add i).off + j, none⟩ : Addr) = a.add (i + j) := by
  unfold Addr.add
  by_cases h : i = 0
  · subst h; simp [hj]
  · simp [h]; omega

/-- The call owns the row, and it holds these types. -/
def RowT (w : World) (base : Nat) (S : Nat → Prop) (v : Value) (ts : List Ty) : Prop :=
  ∃ L : List (List Value), w.ownsRow base 35 5 v ts.length L.flatten ∧ L.length = ts.length ∧ ∀ (j : Nat) (T : Ty), ts[j]? = some T → ∃ c : List Value, L[j]? = some c ∧ Rep w (fun b => S b ∧ some b ≠ v.ownBlock) T (.agg c.toArray)
theorem rowT_nil (w : World) (base : Nat) (S : Nat → Prop) : RowT w base S (.slice none 0 0) [] := ⟨[], World.ownsRow_nil _ _ _ _, rfl, fun j T h => by simp at h⟩
theorem rowT_five {w : World} {L : List (List Value)} {ts : List Ty} {S : Nat → Prop} (hl : L.length = ts.length) (h : ∀ (j : Nat) (T : Ty), ts[j]? = some T → ∃ c : List Value, L[j]? = some c ∧ Rep w S T (.agg c.toArray)) : ∀ c ∈ L, c.length = 5 ∧ ∀ u ∈ c, u.oneCell' = true := by
  intro c hc
  obtain ⟨j, hj, e⟩ := List.getElem_of_mem hc
  obtain ⟨c', hc', hr⟩ := h j (ts[j]'(by omega)) (List.getElem?_eq_getElem (by omega))
  rw [List.getElem?_eq_getElem hj, e] at hc'
  cases hc'
  exact hr.cells
theorem five_of {w : World} {ad : Addr} {j : Nat} {L : List (List Value)} (h5 : ∀ c ∈ L, c.length = 5) (hc : ∀ i u, L.flatten[i]? = some u → w.cell? (ad.add i) = some u) {c : List Value} (h : L[j]? = some c) : Five w ad j (.agg c.toArray) := by
  have hl := h5 c (List.mem_of_getElem? h)
  match c, hl with
  | [c0, c1, c2, c3, c4], _ =>
    refine ⟨c0, c1, c2, c3, c4, rfl, ?_, ?_, ?_, ?_, ?_⟩
    · exact hc _ _ (flatten_get L h5 j 0 _ _ h rfl)
    · rw [add_add' _ _ _ (by omega)]; exact hc _ _ (flatten_get L h5 j 1 _ _ h rfl)
    · rw [add_add' _ _ _ (by omega)]; exact hc _ _ (flatten_get L h5 j 2 _ _ h rfl)
    · rw [add_add' _ _ _ (by omega)]; exact hc _ _ (flatten_get L h5 j 3 _ _ h rfl)
    · rw [add_add' _ _ _ (by omega)]; exact hc _ _ (flatten_get L h5 j 4 _ _ h rfl)
theorem RowT.repL {w : World} {base : Nat} {S S' : Nat → Prop} {v : Value} {ts : List Ty} (h : RowT w base S v ts) (h1 : ∀ b, S b → S' b) (h2 : ∀ b, base ≤ b → S' b) : RepL w S' ts v := by
  obtain ⟨L, hown, hl, hr⟩ := h
  have h5 := rowT_five hl hr
  rcases hown.2 with ⟨rfl, h0⟩ | ⟨g, cap, cur, rfl, hg, hc, hn, hm, _⟩
  · have : ts = [] := List.eq_nil_of_length_eq_zero h0
    subst this
    exact repL_nil _ _
  · refine ⟨some ⟨g, 0, none⟩, cap, rfl, ⟨hn, hm⟩, fun j T hj => ?_⟩
    obtain ⟨c, hc', hrep⟩ := hr j T hj
    exact ⟨⟨g, 0, none⟩, _, rfl, h2 _ hg, five_of (fun c h => (h5 c h).1) (hown.cells (g := g) rfl) hc', hrep.imp fun b hb => h1 b hb.1⟩
theorem RowT.kept {w w' : World} {base : Nat} {S : Nat → Prop} {v : Value} {ts : List Ty} {row : Option Nat} (h : RowT w base S v ts) (hg : w.grownBy w' row) (hv : v.ownBlock = none ∨ v.ownBlock ≠ row) (hS : ∀ b, S b → some b ≠ row) : RowT w' base S v ts := by
  obtain ⟨L, hown, hl, hr⟩ := h
  refine ⟨L, hown.kept hg hv, hl, fun j T hj => ?_⟩
  obtain ⟨c, hc', hrep⟩ := hr j T hj
  exact ⟨c, hc', hrep.kept (fun _ h => h) fun b hb hlt => hg.block b hlt (hS b hb.1)⟩
theorem grown_of_below {w w' : World} (hb : Below w.heap.size w w') (row : Option Nat) : w.grownBy w' row := ⟨hb.os, hb.tape, hb.output, hb.size, fun k hk _ => hb.block k hk⟩
theorem RowT.lift {w w' : World} {base : Nat} {S : Nat → Prop} {v : Value} {ts : List Ty} (h : RowT w base S v ts) (hb : Below w.heap.size w w') : RowT w' base S v ts :=
  h.kept (grown_of_below hb none) (by cases v.ownBlock <;> simp) (fun _ _ => by simp)
theorem RowT.imp {w : World} {base base' : Nat} {S S' : Nat → Prop} {v : Value} {ts : List Ty} (h : RowT w base S v ts) (hS : ∀ b, S b → S' b) (hb : base' ≤ base) : RowT w base' S' v ts := by
  obtain ⟨L, hown, hl, hr⟩ := h
  refine ⟨L, ⟨hown.1, ?_⟩, hl, fun j T hj => ?_⟩
  · rcases hown.2 with h | ⟨g, cap, cur, hv, hg, rest⟩
    · exact .inl h
    · exact .inr ⟨g, cap, cur, hv, Nat.le_trans hb hg, rest⟩
  · obtain ⟨c, hc', hrep⟩ := hr j T hj
    exact ⟨c, hc', hrep.imp fun b hb => ⟨hS b hb.1, hb.2⟩⟩
theorem RowT.lt {w : World} {base : Nat} {S : Nat → Prop} {v : Value} {ts : List Ty} (h : RowT w base S v ts) : ∀ k, v.ownBlock = some k → base ≤ k ∧ k < w.heap.size := by
  obtain ⟨L, hown, _⟩ := h
  exact hown.lt
theorem RowT.off {w : World} {base : Nat} {S : Nat → Prop} {v : Value} {ts : List Ty} (h : RowT w base S v ts) {k : Nat} (hk : k < base) : v.ownBlock = none ∨ v.ownBlock ≠ some k := by
  cases hv : v.ownBlock with
  | none => exact .inl rfl
  | some b => have := (h.lt b hv).1; exact .inr (by intro e; cases e; omega)
theorem RowT.slice {w : World} {base : Nat} {S : Nat → Prop} {v : Value} {ts : List Ty} (h : RowT w base S v ts) : ∃ a cap, v = .slice a ts.length cap ∧ ts.length ≤ cap ∧ cap ≤ maxLen := by
  obtain ⟨L, hown, _⟩ := h
  rcases hown.2 with ⟨rfl, h0⟩ | ⟨g, cap, cur, rfl, _, _, hn, hm, _⟩
  · exact ⟨none, 0, by rw [h0], by omega, by simp⟩
  · exact ⟨_, cap, rfl, hn, hm⟩

/-- The cells of a list of types, one behind the other. -/
theorem cells_of {w : World} {S : Nat → Prop} {ts : List Ty} {ad : Addr} (h : ∀ j T, ts[j]? = some T → ∃ x, Five w ad j x ∧ Rep w S T x) :
    ∃ L : List (List Value), L.length = ts.length ∧ (∀ (j : Nat) (T : Ty), ts[j]? = some T → ∃ c : List Value, L[j]? = some c ∧ Rep w S T (.agg c.toArray)) ∧ ∀ i u, L.flatten[i]? = some u → w.cell? (ad.add i) = some u := by
  have hx : ∀ j, ∃ c : List Value, ∀ T, ts[j]? = some T → Five w ad j (.agg c.toArray) ∧ Rep w S T (.agg c.toArray) := by
    intro j
    cases hT : ts[j]? with
    | none => exact ⟨[], fun T h => by cases h⟩
    | some T0 =>
      obtain ⟨x, ⟨c0, c1, c2, c3, c4, rfl, h5⟩, hr⟩ := h j T0 hT
      exact ⟨[c0, c1, c2, c3, c4], fun T h => by cases h; exact ⟨⟨c0, c1, c2, c3, c4, rfl, h5⟩, hr⟩⟩
  let f : Nat → List Value := fun j => Classical.choose (hx j)
  have hf : ∀ j T, ts[j]? = some T → Five w ad j (.agg (f j).toArray) ∧ Rep w S T (.agg (f j).toArray) := fun j => Classical.choose_spec (hx j)
  have hget : ∀ j T, ts[j]? = some T → ((List.range ts.length).map f)[j]? = some (f j) := fun j T hj => by
    have := (List.getElem?_eq_some_iff.1 hj).1
    rw [List.getElem?_map, List.getElem?_range this]; rfl
  have h5 : ∀ j, j < ts.length → (f j).length = 5 := fun j hj => ((hf j ts[j] (List.getElem?_eq_getElem hj)).2).cells.1
  refine ⟨(List.range ts.length).map f, by simp, fun j T hj => ⟨f j, hget j T hj, (hf j T hj).2⟩, ?_⟩
  have hL5 : ∀ c ∈ (List.range ts.length).map f, c.length = 5 := by
    intro c hc
    simp at hc
    obtain ⟨j, hj, rfl⟩ := hc
    exact h5 j hj
  have hflat : ∀ (n : Nat), n ≤ ts.length → ((List.range n).map f).flatten.length = n * 5 := by
    intro n
    induction n with
    | zero => intro _; simp
    | succ n ih =>
      intro hn
      rw [List.range_succ, List.map_append, List.flatten_append, List.length_append, ih (by omega)]
      simp [h5 n (by omega)]; omega
  intro i u hu
  have hi := (List.getElem?_eq_some_iff.1 hu).1
  rw [hflat _ (Nat.le_refl _)] at hi
  have hj : i / 5 < ts.length := by omega
  have hm : i % 5 < (f (i / 5)).length := by rw [h5 _ hj]; omega
  have h1 := flatten_get _ hL5 (i / 5) (i % 5) _ _ (hget (i / 5) _ (List.getElem?_eq_getElem hj)) (List.getElem?_eq_getElem hm)
  have e : i / 5 * 5 + i % 5 = i := by omega
  rw [e, hu] at h1
  obtain ⟨d0, d1, d2, d3, d4, hv, g0, g1, g2, g3, g4⟩ := (hf (i / 5) _ (List.getElem?_eq_getElem hj)).1
  have hfl : f (i / 5) = [d0, d1, d2, d3, d4] := by simpa using hv
  rw [add_add' _ _ _ (by omega)] at g1 g2 g3 g4
  have h1' := Option.some.inj h1
  have hq : i % 5 = 0 ∨ i % 5 = 1 ∨ i % 5 = 2 ∨ i % 5 = 3 ∨ i % 5 = 4 := by omega
  rcases hq with q | q | q | q | q
  all_goals
    rw [q] at e
    simp only [q, hfl] at h1'
    subst h1'
    rw [← e]
    first | exact g0 | exact g1 | exact g2 | exact g3 | exact g4

/-- One append, or one of several, to a row that the call owns. -/
theorem wpList_pushT {w : World} {ops : Array Oper} {rest : List Oper} {o : Oper} {a : Act} {Q : Exit → Act → World → Prop} (hgd : o.guard = none) (s x : Operand)
    (ho : o.op = .call { callee := .builtin .append, args := #[s, x], argTypes := #[33, 33] })
    (base : Nat) (S : Nat → Prop) (v : Value) (ts : List Ty) (hs : a.eval s = v) (hrow : RowT w base S v ts)
    (ad : Addr) (m c : Nat) (hx : a.eval x = .slice (some ad) m c) (news : List Ty) (hm : news.length = m) (hc : ∀ j T, news[j]? = some T → ∃ y, Five w ad j y ∧ Rep w (fun b => S b ∧ some b ≠ v.ownBlock) T y)
    (N : Nat) (hN : N = ts.length + m) (hb : N ≤ 1000000) (hbase : base ≤ w.heap.size)
    (h : ∀ (a' : Option Addr) (c' : Nat) (w' : World), RowT w' base S (.slice a' N c') (ts ++ news) → w.grownBy w' v.ownBlock → ((Value.slice a' N c').ownBlock = v.ownBlock ∨ (Value.slice a' N c').ownBlock = some w.heap.size) → wpList Tryd.prog ops Q rest (a.put o.dst (.slice a' N c')) w') :
    wpList Tryd.prog ops Q (o :: rest) a w := by
  obtain ⟨i, hi, hz0, hz1, hz2⟩ := info_parts Tryd.info35
  obtain ⟨L, hown, hl, hr⟩ := hrow
  obtain ⟨M, hml, hmr, hmc⟩ := cells_of hc
  have hM5 := rowT_five hml hmr
  have hflat : M.flatten.length = m * 5 := by
    have : ∀ (L : List (List Value)), (∀ c ∈ L, c.length = 5) → L.flatten.length = L.length * 5 := by
      intro L
      induction L with
      | nil => intro _; rfl
      | cons x L ih => intro h; rw [List.flatten_cons, List.length_append, h x (by simp), ih fun c hc => h c (by simp [hc])]; simp; omega
    rw [this M fun c h => (hM5 c h).1, hml, hm]
  refine wpList_append_own_at w hgd s x 33 ho base 35 i _ 5 64 Tryd.underlying33 hi hz0 hz1 hz2 rfl (by decide) v ts.length L.flatten hs hown ad m c M.flatten hx hflat hmc ?_ (by unfold maxLen; omega) (by omega) hbase ?_
  · intro u hu
    obtain ⟨c', hc', hu'⟩ := List.mem_flatten.1 hu
    exact (hM5 c' hc').2 u hu'
  intro v' w' hown' hg _ hloc
  have hrow : RowT w' base S v' (ts ++ news) := by
    refine ⟨L ++ M, ?_, by simp [hl, hml], fun j T hj => ?_⟩
    · rw [List.flatten_append, List.length_append, hm]; exact hown'
    · have key : ∀ c, Rep w (fun b => S b ∧ some b ≠ v.ownBlock) T (.agg (List.toArray c)) → Rep w' (fun b => S b ∧ some b ≠ v'.ownBlock) T (.agg (List.toArray c)) := fun c hrep =>
        hrep.bound.kept (fun b hb => ⟨hb.1.1, by
          rcases hloc with e | e
          · rw [e]; exact hb.1.2
          · rw [e]; intro e'; cases e'; exact absurd hb.2 (Nat.lt_irrefl _)⟩) fun b hb hlt => hg.block b hlt hb.1.2
      by_cases hj' : j < ts.length
      · rw [List.getElem?_append_left hj'] at hj
        obtain ⟨c', hc', hrep⟩ := hr j T hj
        exact ⟨c', by rw [List.getElem?_append_left (by omega)]; exact hc', key _ hrep⟩
      · rw [List.getElem?_append_right (by omega)] at hj
        obtain ⟨c', hc', hrep⟩ := hmr _ T hj
        exact ⟨c', by rw [List.getElem?_append_right (by omega), hl]; exact hc', key _ hrep⟩
  obtain ⟨a', c', rfl, _⟩ := hrow.slice
  have e : (ts ++ news).length = N := by rw [List.length_append, hm, hN]
  rw [e] at hrow hloc ⊢
  exact h a' c' w' hrow hg hloc
end Go.Proofs.YtfkbifbodpelmaaDoor

/- A struct of five cells in a block of its own: what is stored there. -/
namespace Go.Proofs.YtfkbifbodpelmaaDoor
open Go.RowKit Mth

/-- Block B is a struct with these cells. -/
def Box (w : World) (B : Nat) (c0 c1 c2 c3 c4 : Value) : Prop := w.heap[B]? = some (.cells #[c0, c1, c2, c3, c4] 35 (0, 0))
theorem Box.cells {w : World} {B : Nat} {c0 c1 c2 c3 c4 : Value} (h : Box w B c0 c1 c2 c3 c4) :
    (w.cell? ⟨B, 0, none⟩ = some c0 ∧ w.cell? ⟨B, 1, none⟩ = some c1 ∧ w.cell? ⟨B, 2, none⟩ = some c2 ∧ w.cell? ⟨B, 3, none⟩ = some c3 ∧ w.cell? ⟨B, 4, none⟩ = some c4) := by
  unfold Box at h
  simp [World.cell?, h]
theorem Box.frozen {w : World} {B : Nat} {c0 c1 c2 c3 c4 : Value} (h : Box w B c0 c1 c2 c3 c4) :
    (w.frozen? ⟨B, 0, none⟩ = false ∧ w.frozen? ⟨B, 1, none⟩ = false ∧ w.frozen? ⟨B, 2, none⟩ = false ∧ w.frozen? ⟨B, 3, none⟩ = false ∧ w.frozen? ⟨B, 4, none⟩ = false) := by
  unfold Box at h
  simp [World.frozen?, h]
theorem Box.made (w : World) (c0 c1 c2 c3 c4 : Value) : Box (w.alloc (.cells #[c0, c1, c2, c3, c4] 35)) w.heap.size c0 c1 c2 c3 c4 := heap_alloc_new w _
/-- Block B is a struct of zeros. -/
def Zero (w : World) (B : Nat) : Prop := Box w B (.int .i64 0) (.string ⟨#[]⟩) (.int .i64 0) (.int .i64 0) (.slice none 0 0)
theorem heap_at (w : World) (o : Obj) (k : Nat) : (w.alloc o).heap[k]? = if k = w.heap.size then some o else w.heap[k]? := by
  show (w.heap.push o)[k]? = _
  rw [Array.getElem?_push]
theorem Box.kept {w w' : World} {B : Nat} {c0 c1 c2 c3 c4 : Value} (h : Box w B c0 c1 c2 c3 c4) (hb : w'.heap[B]? = w.heap[B]?) : Box w' B c0 c1 c2 c3 c4 := by unfold Box at *; rw [hb, h]
theorem Box.lt {w : World} {B : Nat} {c0 c1 c2 c3 c4 : Value} (h : Box w B c0 c1 c2 c3 c4) : B < w.heap.size := (Array.getElem?_eq_some_iff.1 h).1
theorem Box.lift {w w' : World} {B : Nat} {c0 c1 c2 c3 c4 : Value} (h : Box w B c0 c1 c2 c3 c4) (hb : Below w.heap.size w w') : Box w' B c0 c1 c2 c3 c4 := h.kept (hb.block _ h.lt)

theorem set1 {w : World} {B : Nat} {cs : Array Value} {t : TypeId} (h : w.heap[B]? = some (.cells cs t (0, 0))) (m : Nat) (v : Value) :
    (w.setCell ⟨B, m, none⟩ v).heap[B]? = some (.cells (cs.setIfInBounds m v) t (0, 0)) ∧ w.grownBy (w.setCell ⟨B, m, none⟩ v) (some B) ∧ (w.setCell ⟨B, m, none⟩ v).heap.size = w.heap.size := by
  refine ⟨?_, ⟨rfl, rfl, rfl, by simp [World.setCell], fun k _ hk => Below.heap_setCell _ _ _ _ (fun e => hk (by rw [e]))⟩, by simp [World.setCell]⟩
  simp [World.setCell, Array.getElem?_modify, h]
theorem grown_trans {a b c : World} {r : Option Nat} (h : a.grownBy b r) (k : b.grownBy c r) : a.grownBy c r :=
  ⟨k.os.trans h.os, k.tape.trans h.tape, k.output.trans h.output, Nat.le_trans h.size k.size, fun i hi hr => (k.block i (Nat.lt_of_lt_of_le hi h.size) hr).trans (h.block i hi hr)⟩
theorem set5 {w : World} {B : Nat} {c0 c1 c2 c3 c4 : Value} (h : Box w B c0 c1 c2 c3 c4) (v0 v1 v2 v3 v4 : Value) :
    Box (((((w.setCell ⟨B, 0, none⟩ v0).setCell ⟨B, 1, none⟩ v1).setCell ⟨B, 2, none⟩ v2).setCell ⟨B, 3, none⟩ v3).setCell ⟨B, 4, none⟩ v4) B v0 v1 v2 v3 v4 ∧
    w.grownBy (((((w.setCell ⟨B, 0, none⟩ v0).setCell ⟨B, 1, none⟩ v1).setCell ⟨B, 2, none⟩ v2).setCell ⟨B, 3, none⟩ v3).setCell ⟨B, 4, none⟩ v4) (some B) ∧
    (((((w.setCell ⟨B, 0, none⟩ v0).setCell ⟨B, 1, none⟩ v1).setCell ⟨B, 2, none⟩ v2).setCell ⟨B, 3, none⟩ v3).setCell ⟨B, 4, none⟩ v4).heap.size = w.heap.size := by
  obtain ⟨a0, g0, s0⟩ := set1 h 0 v0
  obtain ⟨a1, g1, s1⟩ := set1 a0 1 v1
  obtain ⟨a2, g2, s2⟩ := set1 a1 2 v2
  obtain ⟨a3, g3, s3⟩ := set1 a2 3 v3
  obtain ⟨a4, g4, s4⟩ := set1 a3 4 v4
  refine ⟨?_, grown_trans (grown_trans (grown_trans (grown_trans g0 g1) g2) g3) g4, by rw [s4, s3, s2, s1, s0]⟩
  unfold Box
  rw [a4]
  simp

theorem wpList_store5 {w : World} {ops : Array Oper} {rest : List Oper} {o : Oper} {a : Act} {Q : Exit → Act → World → Prop} (hgd : o.guard = none) (p x : Operand) (ho : o.op = Op.store 35 p x)
    (B : Nat) (c0 c1 c2 c3 c4 : Value) (hB : Box w B c0 c1 c2 c3 c4) (hp : a.eval p = .pointer (some ⟨B, 0, none⟩)) (k : Int) (n : ByteArray) (i h : Int) (sa : Option Addr) (sn sc : Nat)
    (hx : a.eval x = .agg #[.int .i64 k, .string n, .int .i64 i, .int .i64 h, .slice sa sn sc])
    (hK : ∀ w', Box w' B (.int .i64 k) (.string n) (.int .i64 i) (.int .i64 h) (.slice sa sn sc) → w.grownBy w' (some B) → w'.heap.size = w.heap.size → wpList Tryd.prog ops Q rest (a.put o.dst undef) w') :
    wpList Tryd.prog ops Q (o :: rest) a w := by
  obtain ⟨h0, h1, h2, h3, h4⟩ := hB.cells
  obtain ⟨f0, f1, f2, f3, f4⟩ := hB.frozen
  refine wpList_plain hgd fun K hK' => ?_
  unfold Oper.wp
  simp only [execOp, ho, hp, hx]
  simp [go_sem, h0, h1, h2, h3, h4, f0, f1, f2, f3, f4]
  exact hK' _ _ (hK _ (set5 hB _ _ _ _ _).1 (set5 hB _ _ _ _ _).2.1 (set5 hB _ _ _ _ _).2.2)
end Go.Proofs.YtfkbifbodpelmaaDoor

/- Rows of structs of any size that a call owns. -/
namespace Go.Proofs.YtfkbifbodpelmaaDoor
open Go.RowKit Mth

/-- What stands for an element: its cells, what they say, what they need. -/
structure El (α : Type) where
  k : Nat
  by_ : Nat
  e : TypeId
  t : TypeId
  rep : World → (Nat → Prop) → α → List Value → Prop
  hk : 0 < k
  und : Tryd.prog.underlying t = some (.slice e)
  info : ∃ i z, Tryd.prog.info? e = some i ∧ i.zero = some z ∧ i.size = k ∧ i.bytes = by_ ∧ z.cells.size = k
  hby : by_ ≤ 1000
  len : ∀ {w : World} {S : Nat → Prop} {x : α} {c : List Value}, rep w S x c → c.length = k ∧ ∀ u ∈ c, u.oneCell' = true
  kept : ∀ {w w' : World} {S S' : Nat → Prop} {x : α} {c : List Value}, (∀ b, S b → S' b) → (∀ b, S b → b < w.heap.size → w'.heap[b]? = w.heap[b]?) → rep w S x c → rep w' S' x c
  bound : ∀ {w : World} {S : Nat → Prop} {x : α} {c : List Value}, rep w S x c → rep w (fun b => S b ∧ b < w.heap.size) x c

variable {α : Type} {E : El α}

theorem flat_get (k : Nat) : ∀ (L : List (List Value)), (∀ c ∈ L, c.length = k) → ∀ (j m : Nat) (c : List Value) (u : Value), L[j]? = some c → c[m]? = some u → L.flatten[j * k + m]? = some u := by
  intro L
  induction L with
  | nil => intro _ j m c u h; simp at h
  | cons x L ih =>
    intro hL j m c u hc hu
    have hx : x.length = k := hL x (by simp)
    rw [List.flatten_cons]
    cases j with
    | zero =>
      simp at hc; subst hc
      have hm := (List.getElem?_eq_some_iff.1 hu).1
      rw [List.getElem?_append_left (by omega)]
      simpa using hu
    | succ j =>
      have e : (j + 1) * k + m - k = j * k + m := by rw [Nat.add_mul]; omega
      rw [List.getElem?_append_right (by rw [Nat.add_mul]; omega), hx, e]
      exact ih (fun c h => hL c (by simp [h])) j m c u (by simpa using hc) hu
/-- The slice stands for the list. -/
def SlG (E : El α) (w : World) (S : Nat → Prop) (xs : List α) (v : Value) : Prop :=
  ∃ a cap, v = .slice a xs.length cap ∧ (xs.length ≤ cap ∧ cap ≤ maxLen) ∧ ∀ (j : Nat) (x : α), xs[j]? = some x → ∃ ad c, a = some ad ∧ S ad.block ∧ (∀ (m : Nat) (u : Value), c[m]? = some u → w.cell? (ad.add (j * E.k + m)) = some u) ∧ E.rep w S x c
theorem slG_nil (E : El α) (w : World) (S : Nat → Prop) : SlG E w S [] (.slice none 0 0) := ⟨none, 0, rfl, ⟨Nat.le_refl _, by simp⟩, fun j T h => by simp at h⟩
theorem SlG.kept {w w' : World} {S S' : Nat → Prop} (hS : ∀ b, S b → S' b) (hw : ∀ b, S b → b < w.heap.size → w'.heap[b]? = w.heap[b]?) {xs : List α} {v : Value} (h : SlG E w S xs v) : SlG E w' S' xs v := by
  obtain ⟨a, cap, hv, hcap, hj⟩ := h
  refine ⟨a, cap, hv, hcap, fun j x hx => ?_⟩
  obtain ⟨ad, c, h1, h2, h3, h4⟩ := hj j x hx
  refine ⟨ad, c, h1, hS _ h2, fun m u hu => ?_, E.kept hS hw h4⟩
  have hlt := World.block_lt_of_cell? _ _ (h3 m u hu)
  rw [add_block] at hlt
  rw [World.cell?_of_block (w := w) (by rw [add_block]; exact hw _ h2 hlt)]
  exact h3 m u hu
theorem SlG.bound {w : World} {S : Nat → Prop} {xs : List α} {v : Value} (h : SlG E w S xs v) : SlG E w (fun b => S b ∧ b < w.heap.size) xs v := by
  obtain ⟨a, cap, hv, hcap, hj⟩ := h
  refine ⟨a, cap, hv, hcap, fun j x hx => ?_⟩
  obtain ⟨ad, c, h1, h2, h3, h4⟩ := hj j x hx
  have hl := (E.len h4).1
  have hlt := World.block_lt_of_cell? _ _ (h3 0 (c[0]'(by have := E.hk; omega)) (List.getElem?_eq_getElem _))
  rw [add_block] at hlt
  exact ⟨ad, c, h1, ⟨h2, hlt⟩, h3, E.bound h4⟩
theorem SlG.slice {w : World} {S : Nat → Prop} {xs : List α} {v : Value} (h : SlG E w S xs v) : ∃ a cap, v = .slice a xs.length cap ∧ cap ≤ maxLen := by
  obtain ⟨a, cap, hv, hc, _⟩ := h
  exact ⟨a, cap, hv, hc.2⟩

/-- The call owns the row, and it holds these. -/
def RowG (E : El α) (w : World) (base : Nat) (S : Nat → Prop) (v : Value) (xs : List α) : Prop :=
  ∃ L : List (List Value), w.ownsRow base E.e E.k v xs.length L.flatten ∧ L.length = xs.length ∧ ∀ (j : Nat) (x : α), xs[j]? = some x → ∃ c : List Value, L[j]? = some c ∧ E.rep w (fun b => S b ∧ some b ≠ v.ownBlock) x c
theorem rowG_nil (E : El α) (w : World) (base : Nat) (S : Nat → Prop) : RowG E w base S (.slice none 0 0) [] := ⟨[], World.ownsRow_nil _ _ _ _, rfl, fun j T h => by simp at h⟩
theorem rowG_len {w : World} {L : List (List Value)} {xs : List α} {S : Nat → Prop} (hl : L.length = xs.length) (h : ∀ (j : Nat) (x : α), xs[j]? = some x → ∃ c : List Value, L[j]? = some c ∧ E.rep w S x c) : ∀ c ∈ L, c.length = E.k ∧ ∀ u ∈ c, u.oneCell' = true := by
  intro c hc
  obtain ⟨j, hj, e⟩ := List.getElem_of_mem hc
  obtain ⟨c', hc', hr⟩ := h j (xs[j]'(by omega)) (List.getElem?_eq_getElem (by omega))
  rw [List.getElem?_eq_getElem hj, e] at hc'
  cases hc'
  exact E.len hr
theorem RowG.slG {w : World} {base : Nat} {S S' : Nat → Prop} {v : Value} {xs : List α} (h : RowG E w base S v xs) (h1 : ∀ b, S b → S' b) (h2 : ∀ b, base ≤ b → S' b) : SlG E w S' xs v := by
  obtain ⟨L, hown, hl, hr⟩ := h
  have h5 := rowG_len hl hr
  rcases hown.2 with ⟨rfl, h0⟩ | ⟨g, cap, cur, rfl, hg, hc, hn, hm, _⟩
  · have : xs = [] := List.eq_nil_of_length_eq_zero h0
    subst this
    exact slG_nil _ _ _
  · refine ⟨some ⟨g, 0, none⟩, cap, rfl, ⟨hn, hm⟩, fun j x hj => ?_⟩
    obtain ⟨c, hc', hrep⟩ := hr j x hj
    exact ⟨⟨g, 0, none⟩, c, rfl, h2 _ hg, fun m u hu => hown.cells (g := g) rfl _ _ (flat_get E.k L (fun c h => (h5 c h).1) j m c u hc' hu), E.kept (fun b hb => h1 b hb.1) (fun _ _ _ => rfl) hrep⟩
theorem RowG.kept {w w' : World} {base : Nat} {S : Nat → Prop} {v : Value} {xs : List α} {row : Option Nat} (h : RowG E w base S v xs) (hg : w.grownBy w' row) (hv : v.ownBlock = none ∨ v.ownBlock ≠ row) (hS : ∀ b, S b → some b ≠ row) : RowG E w' base S v xs := by
  obtain ⟨L, hown, hl, hr⟩ := h
  refine ⟨L, hown.kept hg hv, hl, fun j T hj => ?_⟩
  obtain ⟨c, hc', hrep⟩ := hr j T hj
  exact ⟨c, hc', E.kept (fun _ h => h) (fun b hb hlt => hg.block b hlt (hS b hb.1)) hrep⟩
theorem RowG.lift {w w' : World} {base : Nat} {S : Nat → Prop} {v : Value} {xs : List α} (h : RowG E w base S v xs) (hb : Below w.heap.size w w') : RowG E w' base S v xs :=
  h.kept (grown_of_below hb none) (by cases v.ownBlock <;> simp) (fun _ _ => by simp)
theorem RowG.lt {w : World} {base : Nat} {S : Nat → Prop} {v : Value} {xs : List α} (h : RowG E w base S v xs) : ∀ k, v.ownBlock = some k → base ≤ k ∧ k < w.heap.size := by
  obtain ⟨L, hown, _⟩ := h
  exact hown.lt
theorem RowG.off {w : World} {base : Nat} {S : Nat → Prop} {v : Value} {xs : List α} (h : RowG E w base S v xs) {k : Nat} (hk : k < base) : v.ownBlock = none ∨ v.ownBlock ≠ some k := by
  cases hv : v.ownBlock with
  | none => exact .inl rfl
  | some b => have := (h.lt b hv).1; exact .inr (by intro e; cases e; omega)
theorem RowG.slice {w : World} {base : Nat} {S : Nat → Prop} {v : Value} {xs : List α} (h : RowG E w base S v xs) : ∃ a cap, v = .slice a xs.length cap ∧ xs.length ≤ cap ∧ cap ≤ maxLen := by
  obtain ⟨L, hown, _⟩ := h
  rcases hown.2 with ⟨rfl, h0⟩ | ⟨g, cap, cur, rfl, _, _, hn, hm, _⟩
  · exact ⟨none, 0, by rw [h0], by omega, by simp⟩
  · exact ⟨_, cap, rfl, hn, hm⟩

/-- What an append of one element that lies in a block of its own leaves. -/
theorem push_after {w w' : World} {base : Nat} {S : Nat → Prop} {v v' : Value} {xs : List α} {x : α} {c : List Value} {L : List (List Value)} (hl : L.length = xs.length)
    (hr : ∀ (j : Nat) (x : α), xs[j]? = some x → ∃ c : List Value, L[j]? = some c ∧ E.rep w (fun b => S b ∧ some b ≠ v.ownBlock) x c) (hx : E.rep w (fun b => S b ∧ some b ≠ v.ownBlock) x c)
    (hown : w'.ownsRow base E.e E.k v' (xs.length + 1) (L.flatten ++ c)) (hg : w.grownBy w' v.ownBlock) (hloc : v'.ownBlock = v.ownBlock ∨ v'.ownBlock = some w.heap.size) : RowG E w' base S v' (xs ++ [x]) := by
  refine ⟨L ++ [c], ?_, by simp [hl], fun j y hj => ?_⟩
  · rw [List.flatten_append, List.length_append]
    simpa using hown
  · have key : ∀ (y : α) (d : List Value), E.rep w (fun b => S b ∧ some b ≠ v.ownBlock) y d → E.rep w' (fun b => S b ∧ some b ≠ v'.ownBlock) y d := fun y d hrep =>
      E.kept (fun b hb => ⟨hb.1.1, by
        rcases hloc with e | e
        · rw [e]; exact hb.1.2
        · rw [e]; intro e'; cases e'; exact absurd hb.2 (Nat.lt_irrefl _)⟩) (fun b hb hlt => hg.block b hlt hb.1.2) (E.bound hrep)
    by_cases hj' : j < xs.length
    · rw [List.getElem?_append_left hj'] at hj
      obtain ⟨c', hc', hrep⟩ := hr j y hj
      exact ⟨c', by rw [List.getElem?_append_left (by omega)]; exact hc', key _ _ hrep⟩
    · rw [List.getElem?_append_right (by omega)] at hj
      have hz := (List.getElem?_eq_some_iff.1 hj).1
      simp at hz
      have e0 : j - xs.length = 0 := by omega
      rw [e0] at hj
      simp at hj; subst hj
      exact ⟨c, by rw [List.getElem?_append_right (by omega), hl, e0]; rfl, key _ _ hx⟩

/-- One append at a step of a region that draws its order. -/
theorem step_pushG {w : World} {ops : Array Oper} {o : Oper} {a : Act} {K : Act → World → Prop} {Q : Exit → Act → World → Prop} {E' : Prop} (E : El α) (hgd : o.guard = none) (s x : Operand)
    (ho : o.op = .call { callee := .builtin .append, args := #[s, x], argTypes := #[E.t, E.t] })
    (base : Nat) (S : Nat → Prop) (v : Value) (xs : List α) (hs : a.eval s = v) (hrow : RowG E w base S v xs)
    (B : Nat) (Z : TypeId) (c : List Value) (hB : w.heap[B]? = some (.cells c.toArray Z (0, 0))) (hx : a.eval x = .slice (some ⟨B, 0, none⟩) 1 1) (y : α) (hy : E.rep w (fun b => S b ∧ some b ≠ v.ownBlock) y c)
    (N : Nat) (hN : N = xs.length + 1) (hb : N ≤ 1000000) (hbase : base ≤ w.heap.size)
    (hK : ∀ (a' : Option Addr) (c' : Nat) (w' : World), RowG E w' base S (.slice a' N c') (xs ++ [y]) → w.grownBy w' v.ownBlock → K (a.put o.dst (.slice a' N c')) w') :
    if Region.wanted o (yielded ops a.tmps) = true then Oper.wp Tryd.prog o a w K Q else E' := by
  obtain ⟨i, z, hi, hz, hk, hby, hzs⟩ := E.info
  obtain ⟨L, hown, hl, hr⟩ := hrow
  have hc := E.len hy
  have hE := E.hby
  refine step_append_lies w hgd s x E.t ho base E.e i z E.k E.by_ E.und hi hz hk hby hzs E.hk v xs.length L.flatten hs hown ⟨B, 0, none⟩ 1 1 c hx (by omega) (World.news_of_block hB) hc.2 (by omega) (by unfold maxLen; omega) ?_ hbase w.heap.size rfl ?_
  · have := Nat.mul_le_mul (show xs.length + 1 ≤ 1000000 by omega) hE
    omega
  intro g cap w' hown' hg hloc _
  have hrow' : RowG E w' base S (.slice (some ⟨g, 0, none⟩) (xs.length + 1) cap) (xs ++ [y]) := push_after hl hr hy hown' hg (by
    rcases hloc with e | e
    · exact .inl (by rw [e]; rfl)
    · subst e; exact .inr rfl)
  subst hN
  exact hK _ _ _ hrow' hg

/-- The same in a plain region. -/
theorem wpList_pushG {w : World} {ops : Array Oper} {rest : List Oper} {o : Oper} {a : Act} {Q : Exit → Act → World → Prop} (E : El α) (hgd : o.guard = none) (s x : Operand)
    (ho : o.op = .call { callee := .builtin .append, args := #[s, x], argTypes := #[E.t, E.t] })
    (base : Nat) (S : Nat → Prop) (v : Value) (xs : List α) (hs : a.eval s = v) (hrow : RowG E w base S v xs)
    (B : Nat) (Z : TypeId) (c : List Value) (hB : w.heap[B]? = some (.cells c.toArray Z (0, 0))) (hx : a.eval x = .slice (some ⟨B, 0, none⟩) 1 1) (y : α) (hy : E.rep w (fun b => S b ∧ some b ≠ v.ownBlock) y c)
    (N : Nat) (hN : N = xs.length + 1) (hb : N ≤ 1000000) (hbase : base ≤ w.heap.size)
    (hK : ∀ (a' : Option Addr) (c' : Nat) (w' : World), RowG E w' base S (.slice a' N c') (xs ++ [y]) → w.grownBy w' v.ownBlock → wpList Tryd.prog ops Q rest (a.put o.dst (.slice a' N c')) w') :
    wpList Tryd.prog ops Q (o :: rest) a w := by
  obtain ⟨i, z, hi, hz, hk, hby, hzs⟩ := E.info
  obtain ⟨L, hown, hl, hr⟩ := hrow
  have hc := E.len hy
  have hE := E.hby
  refine wpList_append_own_at w hgd s x E.t ho base E.e i z E.k E.by_ E.und hi hz hk hby hzs E.hk v xs.length L.flatten hs hown ⟨B, 0, none⟩ 1 1 c hx (by omega) (World.news_of_block hB) hc.2 (by unfold maxLen; omega) ?_ hbase ?_
  · have := Nat.mul_le_mul (show xs.length + 1 ≤ 1000000 by omega) hE
    omega
  intro v' w' hown' hg _ hloc
  have hrow' : RowG E w' base S v' (xs ++ [y]) := push_after hl hr hy hown' hg hloc
  obtain ⟨a', c', rfl, _⟩ := hrow'.slice
  have e : (xs ++ [y]).length = N := by rw [List.length_append, hN]; rfl
  rw [e] at hrow' ⊢
  exact hK a' c' w' hrow' hg

/-- Types as elements. -/
def TyE : El Ty where
  k := 5
  by_ := 64
  e := 35
  t := 33
  rep w S T c := Rep w S T (.agg c.toArray)
  hk := by decide
  und := Tryd.underlying33
  info := by obtain ⟨i, h0, h1, h2, h3⟩ := info_parts Tryd.info35; exact ⟨i, _, h0, h1, h2, h3, rfl⟩
  hby := by decide
  len h := h.cells
  kept h1 h2 h := h.kept h1 h2
  bound h := h.bound
theorem slG_repL {w : World} {S : Nat → Prop} {ts : List Ty} {v : Value} (h : SlG TyE w S ts v) : RepL w S ts v := by
  obtain ⟨a, cap, hv, hc, hj⟩ := h
  refine ⟨a, cap, hv, hc, fun j T hT => ?_⟩
  obtain ⟨ad, c, h1, h2, h3, h4⟩ := hj j T hT
  refine ⟨ad, _, h1, h2, ?_, h4⟩
  have hl := (Rep.cells h4).1
  match c, hl with
  | [c0, c1, c2, c3, c4], _ =>
    refine ⟨c0, c1, c2, c3, c4, rfl, h3 0 _ rfl, ?_, ?_, ?_, ?_⟩
    · rw [add_add' _ _ _ (by omega)]; exact h3 1 _ rfl
    · rw [add_add' _ _ _ (by omega)]; exact h3 2 _ rfl
    · rw [add_add' _ _ _ (by omega)]; exact h3 3 _ rfl
    · rw [add_add' _ _ _ (by omega)]; exact h3 4 _ rfl
end Go.Proofs.YtfkbifbodpelmaaDoor

/- Strings, constructors and declarations as elements of rows. -/
namespace Go.Proofs.YtfkbifbodpelmaaDoor
open Go.RowKit Mth

theorem elInfo_str : (Tryd.prog.info? 9).map (fun i => (i.zero, i.size, i.bytes)) = some (some (.string ByteArray.empty), 1, 16) := by kernel_rfl
theorem elInfo_ctor : (Tryd.prog.info? 66).map (fun i => (i.zero, i.size, i.bytes)) = some (some (.agg #[.int .i64 0, .string ByteArray.empty, .slice none 0 0]), 3, 48) := by kernel_rfl
theorem elInfo_dat : (Tryd.prog.info? 64).map (fun i => (i.zero, i.size, i.bytes)) = some (some (.agg #[.int .i64 0, .string ByteArray.empty, .slice none 0 0, .slice none 0 0]), 4, 72) := by kernel_rfl
def StrE : El ByteArray where
  k := 1
  by_ := 16
  e := 9
  t := 61
  rep _ _ x c := c = [.string x]
  hk := by decide
  und := Tryd.underlying61
  info := by obtain ⟨i, h0, h1, h2, h3⟩ := info_parts elInfo_str; exact ⟨i, _, h0, h1, h2, h3, rfl⟩
  hby := by decide
  len h := by subst h; exact ⟨rfl, by intro u hu; simp at hu; subst hu; rfl⟩
  kept _ _ h := h
  bound h := h
/-- A constructor's declaration. -/
structure Ctor where
  pos : Int
  name : ByteArray
  fields : List Ty
/-- A data declaration. -/
structure Dat where
  pos : Int
  name : ByteArray
  params : List ByteArray
  ctors : List Ctor
def CtorE : El Ctor where
  k := 3
  by_ := 48
  e := 66
  t := 62
  rep w S x c := ∃ fv, c = [.int .i64 x.pos, .string x.name, fv] ∧ SlG TyE w S x.fields fv
  hk := by decide
  und := Tryd.underlying62
  info := by obtain ⟨i, h0, h1, h2, h3⟩ := info_parts elInfo_ctor; exact ⟨i, _, h0, h1, h2, h3, rfl⟩
  hby := by decide
  len h := by
    obtain ⟨fv, rfl, hf⟩ := h
    obtain ⟨a, c, rfl, -⟩ := hf.slice
    exact ⟨rfl, by intro u hu; simp at hu; rcases hu with rfl | rfl | rfl <;> rfl⟩
  kept h1 h2 h := by
    obtain ⟨fv, e, hf⟩ := h
    exact ⟨fv, e, hf.kept h1 h2⟩
  bound h := by
    obtain ⟨fv, e, hf⟩ := h
    exact ⟨fv, e, hf.bound⟩
def DatE : El Dat where
  k := 4
  by_ := 72
  e := 64
  t := 39
  rep w S x c := ∃ pv cv, c = [.int .i64 x.pos, .string x.name, pv, cv] ∧ SlG StrE w S x.params pv ∧ SlG CtorE w S x.ctors cv
  hk := by decide
  und := Tryd.underlying39
  info := by obtain ⟨i, h0, h1, h2, h3⟩ := info_parts elInfo_dat; exact ⟨i, _, h0, h1, h2, h3, rfl⟩
  hby := by decide
  len h := by
    obtain ⟨pv, cv, rfl, hp, hc⟩ := h
    obtain ⟨a, c, rfl, -⟩ := hp.slice
    obtain ⟨a', c', rfl, -⟩ := hc.slice
    exact ⟨rfl, by intro u hu; simp at hu; rcases hu with rfl | rfl | rfl | rfl <;> rfl⟩
  kept h1 h2 h := by
    obtain ⟨pv, cv, e, hp, hc⟩ := h
    exact ⟨pv, cv, e, hp.kept h1 h2, hc.kept h1 h2⟩
  bound h := by
    obtain ⟨pv, cv, e, hp, hc⟩ := h
    exact ⟨pv, cv, e, hp.bound, hc.bound⟩
end Go.Proofs.YtfkbifbodpelmaaDoor

/- Rows of numbers that a call owns; maps from numbers to true that it makes. -/
namespace Go.Proofs.YtfkbifbodpelmaaDoor
open Go.RowKit Go.Maps Mth

/-- A slice of numbers, cell by cell. -/
def Ints (w : World) (v : Value) (zs : List Int) : Prop := ∃ a cap, v = .slice a zs.length cap ∧ zs.length ≤ cap ∧ cap ≤ maxLen ∧ ∀ (i : Nat) (x : Int), zs[i]? = some x → ∃ ad, a = some ad ∧ w.cell? (ad.add i) = some (.int .i64 x)
theorem Ints.lift {w w' : World} {v : Value} {zs : List Int} (h : Ints w v zs) (hb : Below w.heap.size w w') : Ints w' v zs := by
  obtain ⟨a, cap, hv, h1, h2, hc⟩ := h
  refine ⟨a, cap, hv, h1, h2, fun i x hx => ?_⟩
  obtain ⟨ad, ha, hcell⟩ := hc i x hx
  exact ⟨ad, ha, (hb.cell (World.block_lt_of_cell? _ _ hcell)).trans hcell⟩
end Go.Proofs.YtfkbifbodpelmaaDoor

/- The contract of the maker's Mod. -/
namespace Go.Proofs.YtfkbifbodpelmaaDoor
open Go.RowKit Go.Maps Mth

theorem mod_any (a n : Int) (w : World) (h1 : 1 ≤ n) (h2 : n ≤ 1000001) :
    Calls Tryd.prog 9 #[.int .i64 a, .int .i64 n] w fun e w' => e = .returned (.int .i64 (a % n)) ∧ w = w' := by
  have e1 := Int.emod_nonneg a (b := n) (by omega)
  have e2 := Int.emod_lt_of_pos a (b := n) (by omega)
  have HT : Hid ((a.tmod n = a % n) ∨ (a.tmod n = a % n - n ∧ a % n ≠ 0)) := by
    show _ ∨ _
    rw [Int.tmod_eq_emod]
    by_cases hc : 0 ≤ a ∨ n ∣ a
    · left; simp only [hc, if_true]; omega
    · right
      simp only [hc, if_false]
      refine ⟨by omega, fun h => hc (.inr (Int.dvd_of_emod_eq_zero h))⟩
  have hb : -n < a.tmod n ∧ a.tmod n < n := by rcases HT.out with h | ⟨h, h'⟩ <;> omega
  have HE : Hid (a % n = if a.tmod n < 0 then a.tmod n + n else a.tmod n) := by
    show a % n = _
    rcases HT.out with h | ⟨h, h'⟩
    · rw [if_neg (by omega)]; omega
    · rw [if_pos (by omega)]; omega
  clear HT e1 e2
  obtain ⟨hb1, hb2⟩ := hb
  go_enter Tryd.func9, Tryd.ntmps9
  go_wp2
  all_goals
    go_ret
    refine ⟨ret_int ?_, rfl⟩
    rw [HE.out]
  · rw [if_pos (by assumption)]
  · rw [if_neg (by omega)]
end Go.Proofs.YtfkbifbodpelmaaDoor

/- The contracts of the reference's makers of types. -/
namespace Go.Proofs.YtfkbifbodpelmaaDoor
open Go.RowKit Mth

/-- A value without arguments. -/
def leafV (k : Int) (n : ByteArray) (i h : Int) : Value := .agg #[.int .i64 k, .string n, .int .i64 i, .int .i64 h, .slice none 0 0]
theorem rep_leaf (w : World) (S : Nat → Prop) (k : Int) (n : ByteArray) (i h : Int) (hn : n.size ≤ maxLen) : Rep w S (.mk k n i h []) (leafV k n i h) := Rep.close hn (repL_nil w S)
theorem refNamed_any (n : ByteArray) (w : World) : Calls Tryd.prog 44 #[.string n] w fun e w' => e = .returned (leafV 5 n 0 0) ∧ Below w.heap.size w w' := by
  go_enter Tryd.func44, Tryd.ntmps44
  go_wp2
  go_returns
  exact ⟨rfl, (Below.refl _ w).alloc (Nat.le_refl _) _⟩

/-- A constructor. -/
def con (n : ByteArray) (ts : List Ty) : Ty := .mk 4 n 0 0 ts
def arrN : ByteArray := ⟨#[45, 62]⟩
def intN : ByteArray := ⟨#[73, 110, 116]⟩
theorem refCon_nil (n : ByteArray) (w : World) : Calls Tryd.prog 43 #[.string n, .slice none 0 0] w fun e w' => e = .returned (leafV 4 n 0 0) ∧ Below w.heap.size w w' := by
  go_enter Tryd.func43, Tryd.ntmps43
  go_wp2
  go_returns
  exact ⟨rfl, (Below.refl _ w).alloc (Nat.le_refl _) _⟩
set_option maxHeartbeats 800000 in
theorem refInt_any (w : World) : Calls Tryd.prog 42 #[] w fun e w' => e = .returned (leafV 4 intN 0 0) ∧ Below w.heap.size w w' := by
  have hb0 : ∀ X Z, Below w.heap.size w (w.alloc (.cells X Z)) := fun X Z => (Below.refl _ w).alloc (Nat.le_refl _) _
  go_enter Tryd.func42, Tryd.ntmps42
  go_wp2_with fail
  go_at_call 43
  refine (refCon_nil _ _).mono ?_
  rintro e w1 ⟨rfl, hb1⟩
  have HB := Lib.hid ((Box.made w _ _ _ _ _).lift hb1)
  have hbx := (hb0 _ _).trans (hb1.mono (hb0 _ _).size)
  clear hb1
  unfold leafV
  go_wp2_with (refine wpList_store5 rfl _ _ rfl _ _ _ _ _ _ HB.out rfl _ _ _ _ _ _ _ rfl ?_; intro w2 hB2 hg2 hs2)
  obtain ⟨c0, c1, c2, c3, c4⟩ := hB2.cells
  refine bodyPost_ret (by simp [results, Tryd.results42, go_sem, c0, c1, c2, c3, c4]; try rfl) rfl ?_
  exact ⟨rfl, Below.grown hbx hg2 hbx.size (fun j hj => by cases hj; exact Nat.le_refl _)⟩
set_option maxHeartbeats 800000 in
theorem refCon_any (n : ByteArray) (ts : List Ty) (hl : ts.length ≤ 1000000) (ad : Addr) (cap : Nat) (S : Nat → Prop) (w : World) (hS : ∀ b, w.heap.size ≤ b → S b) (h : RepL w S ts (.slice (some ad) ts.length cap)) :
    Calls Tryd.prog 43 #[.string n, .slice (some ad) ts.length cap] w fun e w' => ∃ a c, e = .returned (.agg #[.int .i64 4, .string n, .int .i64 0, .int .i64 0, .slice a ts.length c]) ∧ RepL w' S ts (.slice a ts.length c) ∧ Below w.heap.size w w' := by
  have HR := Lib.hid h
  clear h
  have hb0 : ∀ X Z, Below w.heap.size w (w.alloc (.cells X Z)) := fun X Z => (Below.refl _ w).alloc (Nat.le_refl _) _
  obtain ⟨m, hm⟩ : ∃ m, m = ts.length := ⟨_, rfl⟩
  rw [← hm] at hl ⊢
  have HM := Lib.hid hm
  clear hm
  have hnews : ∀ X Z, ∀ j T, ts[j]? = some T → ∃ y, Five (w.alloc (.cells X Z)) ad j y ∧ Rep (w.alloc (.cells X Z)) (fun b => (b < w.heap.size ∧ S b) ∧ some b ≠ (Value.slice none 0 0).ownBlock) T y := by
    intro X Z j T hj
    obtain ⟨a, c, hv, _, hr⟩ := HR.out.lift (hb0 X Z)
    have := HR.out
    obtain ⟨a', c', hv', _, hr'⟩ := this
    simp at hv'
    obtain ⟨rfl, rfl⟩ := hv'
    obtain ⟨ad', y, e, _, h5, hrep⟩ := hr' j T hj
    cases e
    exact ⟨y, h5.kept ((hb0 X Z).block _ h5.lt), (hrep.bound.lift (hb0 X Z)).imp fun b hb => ⟨⟨hb.2, hb.1⟩, by simp [Value.ownBlock]⟩⟩
  have HN := Lib.hid hnews
  clear hnews
  go_enter Tryd.func43, Tryd.ntmps43
  go_wp2_with (first
    | (at_builtin; refine wpList_pushT rfl _ _ rfl (w.heap.size + 1) (fun b => b < w.heap.size ∧ S b) (.slice none 0 0) [] rfl (rowT_nil _ _ _) _ _ _ rfl ts HM.out.symm (HN.out _ _) m (by simp) hl (by simp) ?_; intro a1 c1 w1 hrow hg hloc; have HB := Lib.hid ((Box.made w _ _ _ _ _).kept (hg.block _ (by simp) (by simp [Value.ownBlock]))))
    | (refine wpList_store5 rfl _ _ rfl _ _ _ _ _ _ HB.out rfl _ _ _ _ _ _ _ rfl ?_; intro w2 hB2 hg2 hs2))
  obtain ⟨c0, c1, c2, c3, c4⟩ := hB2.cells
  have hbw : Below w.heap.size w w1 := Below.grown (hb0 _ _) hg (by simp) (fun j hj => by simp [Value.ownBlock] at hj)
  have hrow2 := hrow.kept hg2 (hrow.off (Nat.lt_succ_self _)) (fun b hb => by intro e; cases e; exact absurd hb.1 (Nat.lt_irrefl _))
  refine bodyPost_ret (by simp [results, Tryd.results43, go_sem, c0, c1, c2, c3, c4]; try rfl) rfl ?_
  exact ⟨a1, _, rfl, hrow2.repL (fun b hb => hb.2) (fun b hb => hS b (by omega)), Below.grown hbw hg2 hbw.size (fun j hj => by cases hj; exact Nat.le_refl _)⟩

/-- A row of two that was just made. -/
theorem two_new {w w0 : World} {S : Nat → Prop} {T U : Ty} {a0 a1 a2 a3 a4 b0 b1 b2 b3 b4 : Value} (hb : Below w0.heap.size w0 w) (h : Rep w0 S T (.agg #[a0, a1, a2, a3, a4])) (k : Rep w0 S U (.agg #[b0, b1, b2, b3, b4])) (Z : TypeId) (n : Nat) (hn : n = w.heap.size) (hS : S n) :
    RepL (w.alloc (.cells #[a0, a1, a2, a3, a4, b0, b1, b2, b3, b4] Z)) S [T, U] (.slice (some ⟨n, 0, none⟩) 2 2) := by
  subst hn
  have hb' : Below w0.heap.size w0 (w.alloc (.cells #[a0, a1, a2, a3, a4, b0, b1, b2, b3, b4] Z)) := hb.alloc hb.size _
  refine ⟨_, 2, rfl, ⟨Nat.le_refl _, by simp [maxLen]⟩, fun j X hj => ?_⟩
  rcases j with _ | _ | j
  · simp at hj; subst hj
    exact ⟨_, _, rfl, hS, ⟨a0, a1, a2, a3, a4, rfl, by simp [Addr.add], by simp [Addr.add], by simp [Addr.add], by simp [Addr.add], by simp [Addr.add]⟩, h.lift hb'⟩
  · simp at hj; subst hj
    exact ⟨_, _, rfl, hS, ⟨b0, b1, b2, b3, b4, rfl, by simp [Addr.add], by simp [Addr.add], by simp [Addr.add], by simp [Addr.add], by simp [Addr.add]⟩, k.lift hb'⟩
  · simp at hj
set_option maxHeartbeats 1600000 in
theorem refArrow_any (T U : Ty) (v u : Value) (S : Nat → Prop) (w : World) (hS : ∀ b, w.heap.size ≤ b → S b) (h : Rep w S T v) (h' : Rep w S U u) :
    Calls Tryd.prog 23 #[v, u] w fun e w' => ∃ a c, e = .returned (.agg #[.int .i64 4, .string arrN, .int .i64 0, .int .i64 0, .slice a 2 c]) ∧ RepL w' S [T, U] (.slice a 2 c) ∧ Below w.heap.size w w' := by
  obtain ⟨k, n, i, hm, s, eT, rfl, hn, hs⟩ := h.open
  obtain ⟨k', n', i', hm', s', eU, rfl, hn', hs'⟩ := h'.open
  obtain ⟨sa, sc, rfl, -⟩ := hs
  obtain ⟨sa', sc', rfl, -⟩ := hs'
  have HR := Lib.hid h
  have HR' := Lib.hid h'
  clear h h' eT eU hn hn'
  generalize T.ts.length = sn at *
  generalize U.ts.length = sn' at *
  go_enter Tryd.func23, Tryd.ntmps23
  go_wp2_with fail
  go_at_call 43
  have hb3 : ∀ A B C, Below w.heap.size w (((w.alloc (.cells A 35)).alloc (.cells B 35)).alloc (.cells C 35)) := fun A B C => (((Below.refl _ w).alloc (Nat.le_refl _) _).alloc (by simp) _).alloc (by simp; omega) _
  refine (refCon_any arrN [T, U] (by simp) ⟨w.heap.size + 1 + 1 + 1, 0, none⟩ 2 (fun b => S b ∧ b ≠ w.heap.size + 1 + 1) _ (fun b hb => ⟨hS b (by simp at hb; omega), by simp at hb; omega⟩)
    (two_new (hb3 _ _ _) (HR.out.bound.imp fun b hb => ⟨hb.1, by omega⟩) (HR'.out.bound.imp fun b hb => ⟨hb.1, by omega⟩) _ _ (by simp) ⟨hS _ (by omega), by omega⟩)).mono ?_
  rintro e w1 ⟨a, c, rfl, hrep, hb1⟩
  have hbw := (((hb3 _ _ _).alloc (hb3 _ _ _).size _)).trans (hb1.mono (by simp; omega))
  have HB : Hid (Zero w1 (w.heap.size + 1 + 1)) := Box.lift (by unfold Box; rw [heap_at, if_neg (by simp), heap_at, if_pos (by simp)]) hb1
  have hsz := hb1.size
  clear hb1
  go_wp2_with (refine wpList_store5 rfl _ _ rfl _ _ _ _ _ _ HB.out rfl _ _ _ _ _ _ _ rfl ?_; intro w2 hB2 hg2 hs2)
  obtain ⟨c0, c1, c2, c3, c4⟩ := hB2.cells
  refine bodyPost_ret (by simp [results, Tryd.results23, go_sem, c0, c1, c2, c3, c4]; try rfl) rfl ?_
  exact ⟨a, c, rfl, hrep.kept (fun b hb => hb.1) (fun b hb hlt => hg2.block b hlt (by intro e; cases e; exact hb.2 rfl)), Below.grown hbw hg2 hbw.size (fun j hj => by cases hj; omega)⟩
end Go.Proofs.YtfkbifbodpelmaaDoor
