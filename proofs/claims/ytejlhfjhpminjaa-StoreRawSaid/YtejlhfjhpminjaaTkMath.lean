/- Plain facts on lists of bytes: words, kinds, one step of a scan, the scan, as the walks use them. -/
import Derived.IntWalk
import Derived.Lib.Strings
namespace Go.Proofs.Ytejlhfjhpminjaa
namespace Mth

def low (c : UInt8) : Bool := decide (97 ≤ c.toNat) && decide (c.toNat ≤ 122)
def upp (c : UInt8) : Bool := decide (65 ≤ c.toNat) && decide (c.toNat ≤ 90)
def dig (c : UInt8) : Bool := decide (48 ≤ c.toNat) && decide (c.toNat ≤ 57)
def inn (c : UInt8) : Bool := low c || upp c || dig c || decide (c.toNat = 95)
def kws : List (List UInt8) := [[100, 97, 116, 97], [108, 101, 116], [114, 101, 99], [105, 110], [99, 97, 115, 101], [111, 102], [101, 110, 100]]
def kw (l : List UInt8) : Bool := decide (l ∈ kws)
def mks : List UInt8 := [92, 46, 61, 59, 58, 124, 40, 41, 123, 125, 63]
def mk (l : List UInt8) : Bool := decide (l = [45, 62]) || decide (∃ c ∈ mks, l = [c])
/-- Is the list a word? -/
def wrd (l : List UInt8) : Bool := l.all inn && !l.isEmpty
/-- Of a list that is not empty: is it an integer? -/
def isInt (l : List UInt8) : Bool := decide (l.length ≤ 9) && !(decide (l.head? = some 48) && decide (1 < l.length)) && l.all dig
def hd (p : UInt8 → Bool) (l : List UInt8) : Bool := match l with | [] => false | c :: _ => p c
/-- The kind of a word. -/
def wkind (l : List UInt8) : Int :=
  if l = [] then 0 else if kw l then 4 else if hd low l && decide (l.length ≤ 12) then 1 else if hd upp l && decide (l.length ≤ 12) then 2 else if isInt l then 3 else 0
/-- The kind of a word or a mark, as the reference has it. -/
def rkind (l : List UInt8) : Int :=
  if kw l then 4 else if wrd l && hd low l && decide (l.length ≤ 12) then 1 else if wrd l && hd upp l && decide (l.length ≤ 12) then 2 else if !l.isEmpty && isInt l then 3 else if mk l then 5 else 0
def wsize (l : List UInt8) : Nat := (l.takeWhile inn).length
def csize (l : List UInt8) : Nat := (l.takeWhile (fun c => !decide (c = 10))).length
def wht (c : UInt8) : Bool := decide (c ∈ ([32, 9, 13, 10] : List UInt8))

/-- The first part of a text that is not empty: its kind and its size. -/
def stp : List UInt8 → Int × Nat
  | [] => (0, 0)
  | c :: r =>
    if c = 35 then (-1, csize (c :: r))
    else if wht c then (-1, 1)
    else if c = 45 then (if r.head? = some 62 then (5, 2) else (0, 1))
    else if c ∈ mks then (5, 1)
    else (wkind ((c :: r).take (wsize (c :: r))), wsize (c :: r))

theorem wsize_le (l : List UInt8) : wsize l ≤ l.length := by
  unfold wsize; exact (List.takeWhile_sublist _).length_le
theorem csize_le (l : List UInt8) : csize l ≤ l.length := by
  unfold csize; exact (List.takeWhile_sublist _).length_le
theorem stp_le (l : List UInt8) (h : (stp l).1 ≠ 0) : 1 ≤ (stp l).2 ∧ (stp l).2 ≤ l.length := by
  cases l with
  | nil => simp [stp] at h
  | cons c r =>
    unfold stp at h ⊢
    dsimp only at h ⊢
    split at h <;> rename_i h1
    · rw [if_pos h1]
      refine ⟨?_, csize_le _⟩
      subst h1; simp [csize]
    · rw [if_neg h1]
      split at h <;> rename_i h2
      · rw [if_pos h2]; simp
      · rw [if_neg h2]
        split at h <;> rename_i h3
        · rw [if_pos h3]
          split at h <;> rename_i h4
          · rw [if_pos h4]
            cases r with
            | nil => simp at h4
            | cons => simp
          · simp at h
        · rw [if_neg h3]
          split at h <;> rename_i h4
          · rw [if_pos h4]; simp
          · rw [if_neg h4]
            refine ⟨?_, wsize_le _⟩
            by_cases hz : wsize (c :: r) = 0
            · rw [hz] at h; simp [wkind] at h
            · dsimp only; omega

structure Tok where
  kind : Int
  text : List UInt8
  pos : Nat

/-- The tokens of a text, or where none begins; p is the offset of its first byte. -/
def scanF : Nat → List UInt8 → Nat → List Tok × Option Nat
  | 0, _, _ => ([], none)
  | f + 1, l, p =>
    if l = [] then ([], none)
    else if (stp l).1 = 0 then ([], some p)
    else if (stp l).1 = -1 then scanF f (l.drop (stp l).2) (p + (stp l).2)
    else (⟨(stp l).1, l.take (stp l).2, p⟩ :: (scanF f (l.drop (stp l).2) (p + (stp l).2)).1, (scanF f (l.drop (stp l).2) (p + (stp l).2)).2)
theorem scanF_more : ∀ (f : Nat) (l : List UInt8) (p : Nat), l.length ≤ f → scanF f l p = scanF l.length l p := by
  intro f
  induction f using Nat.strongRecOn with
  | ind f ih =>
    intro l p hl
    cases f with
    | zero => have : l = [] := List.eq_nil_of_length_eq_zero (by omega); subst this; rfl
    | succ f =>
      cases l with
      | nil => simp [scanF]
      | cons c r =>
        simp only [List.length_cons] at hl ⊢
        unfold scanF
        by_cases h0 : (stp (c :: r)).1 = 0
        · rw [if_neg (by simp), if_pos h0, if_neg (by simp), if_pos h0]
        · have hb := stp_le (c :: r) h0
          have hlen : ((c :: r).drop (stp (c :: r)).2).length ≤ r.length := by simp only [List.length_drop, List.length_cons]; omega
          have e1 := ih f (by omega) ((c :: r).drop (stp (c :: r)).2) (p + (stp (c :: r)).2) (by omega)
          have e2 : scanF r.length ((c :: r).drop (stp (c :: r)).2) (p + (stp (c :: r)).2) = scanF ((c :: r).drop (stp (c :: r)).2).length ((c :: r).drop (stp (c :: r)).2) (p + (stp (c :: r)).2) :=
            ih r.length (by omega) _ _ hlen
          rw [e1, e2]
def sc (l : List UInt8) (p : Nat) : List Tok × Option Nat := scanF l.length l p
theorem sc_nil (p : Nat) : sc [] p = ([], none) := rfl
theorem sc_err {l : List UInt8} (p : Nat) (hl : l ≠ []) (h : (stp l).1 = 0) : sc l p = ([], some p) := by
  cases l with
  | nil => exact absurd rfl hl
  | cons c r => unfold sc; simp only [List.length_cons]; unfold scanF; rw [if_neg hl, if_pos h]
theorem sc_rest {l : List UInt8} (p : Nat) (h : (stp l).1 ≠ 0) (f : Nat) (hr : l.length = f + 1) : scanF f (l.drop (stp l).2) (p + (stp l).2) = sc (l.drop (stp l).2) (p + (stp l).2) := by
  have hb := stp_le l h
  exact scanF_more _ _ _ (by simp only [List.length_drop]; omega)
theorem sc_blank {l : List UInt8} (p : Nat) (h : (stp l).1 = -1) : sc l p = sc (l.drop (stp l).2) (p + (stp l).2) := by
  have h0 : (stp l).1 ≠ 0 := by rw [h]; decide
  cases l with
  | nil => simp [stp] at h
  | cons c r =>
    rw [← sc_rest p h0 r.length rfl]
    unfold sc; simp only [List.length_cons]
    rw [scanF, if_neg (by simp), if_neg h0, if_pos h]
theorem sc_tok {l : List UInt8} (p : Nat) (h0 : (stp l).1 ≠ 0) (h : (stp l).1 ≠ -1) :
    sc l p = (⟨(stp l).1, l.take (stp l).2, p⟩ :: (sc (l.drop (stp l).2) (p + (stp l).2)).1, (sc (l.drop (stp l).2) (p + (stp l).2)).2) := by
  cases l with
  | nil => simp [stp] at h0
  | cons c r =>
    rw [← sc_rest p h0 r.length rfl]
    conv => lhs; unfold sc; simp only [List.length_cons]
    rw [scanF, if_neg (by simp), if_neg h0, if_neg h]
end Mth
end Go.Proofs.Ytejlhfjhpminjaa
