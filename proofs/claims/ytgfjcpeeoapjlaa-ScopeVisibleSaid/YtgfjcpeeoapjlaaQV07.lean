import Derived.Test.YtgfjcpeeoapjlaaQV05
import Derived.Deep.LoopGhost
import Derived.Test.YtgfjcpeeoapjlaaQV04
import Derived.Test.YtgfjcpeeoapjlaaQV01
import Derived.Shelf.Abstract
import Derived.Test.YtgfjcpeeoapjlaaQV28
import Derived.Test.YtgfjcpeeoapjlaaQV02
import Derived.Test.YtgfjcpeeoapjlaaQV06
/- The package's reading of types: what it is to find, by the fuel; enclosed and atom. -/
namespace Go.Proofs.Ytgfjcpeeoapjlaa
open Go.RowKit Go.Maps Mth

/-- What a reading finds: a type and the index behind it, or the index of the unexpected token. -/
inductive PR where
  | ok (T : Ty) (j : Nat)
  | bad (p : Nat)
inductive PL where
  | ok (l : List Ty) (j : Nat)
  | bad (p : Nat)
def qEncl (ts : List Tok) : Option PR → Option PR
  | none => none
  | some (.bad p) => some (.bad p)
  | some (.ok T j) => if rMark ts j ⟨#[41]⟩ then some (.ok T (j + 1)) else some (.bad j)
mutual
def qAtom : Nat → List Tok → Nat → Option PR
  | 0, _, _ => none
  | f + 1, ts, i =>
    if tkK ts i == 1 then some (.ok (.mk 5 (txt ts i) 0 0 []) (i + 1))
    else if tkK ts i == 2 then some (.ok (.mk 4 (txt ts i) 0 0 []) (i + 1))
    else if rMark ts i ⟨#[40]⟩ then qEncl ts (qType f ts (i + 1))
    else some (.bad i)
def qType : Nat → List Tok → Nat → Option PR
  | 0, _, _ => none
  | f + 1, ts, i =>
    if tkK ts i == 2 then
      match qArgs f ts (i + 1) [] with
      | none => none
      | some (.bad p) => some (.bad p)
      | some (.ok l j) => qArrow f ts j (.mk 4 (txt ts i) 0 0 l)
    else
      match qAtom f ts i with
      | none => none
      | some (.bad p) => some (.bad p)
      | some (.ok T j) => qArrow f ts j T
def qArrow : Nat → List Tok → Nat → Ty → Option PR
  | 0, _, _, _ => none
  | f + 1, ts, i, a =>
    if rMark ts i ⟨#[45, 62]⟩ then
      match qType f ts (i + 1) with
      | none => none
      | some (.bad p) => some (.bad p)
      | some (.ok T j) => some (.ok (con arrN [a, T]) j)
    else some (.ok a i)
def qArgs : Nat → List Tok → Nat → List Ty → Option PL
  | 0, _, _, _ => none
  | f + 1, ts, i, acc =>
    if rStart ts i then
      match qAtom f ts i with
      | none => none
      | some (.bad p) => some (.bad p)
      | some (.ok T j) => qArgs f ts j (acc ++ [T])
    else some (.ok acc i)
end
def qApp (f : Nat) (ts : List Tok) (i : Nat) : Option PR :=
  if tkK ts i == 2 then
    match qArgs f ts (i + 1) [] with
    | none => none
    | some (.bad p) => some (.bad p)
    | some (.ok l j) => some (.ok (.mk 4 (txt ts i) 0 0 l) j)
  else qAtom f ts i

theorem zero_ok : (⟨#[]⟩ : ByteArray).size ≤ maxLen := Nat.zero_le _

end Go.Proofs.Ytgfjcpeeoapjlaa

/- The package's reading of types: atom. -/
namespace Go.Proofs.Ytgfjcpeeoapjlaa
open Go.RowKit Go.Maps Mth

theorem tkK_lt {ts : List Tok} {i : Nat} (h : ¬ tkK ts i = 0) : i < ts.length := by
  rcases Nat.lt_or_ge i ts.length with h' | h'
  · exact h'
  · exact absurd (by unfold tkK; rw [List.getElem?_eq_none h']) h
theorem rMark_K {ts : List Tok} {i : Nat} {s : ByteArray} (h : rMark ts i s = true) : tkK ts i = 5 := by
  unfold rMark at h
  simp at h
  exact h.1
theorem rMark_lt {ts : List Tok} {i : Nat} {s : ByteArray} (h : rMark ts i s = true) : i < ts.length := tkK_lt (by rw [rMark_K h]; decide)
theorem rStart_lt {ts : List Tok} {i : Nat} (h : rStart ts i = true) : i < ts.length := by
  apply tkK_lt
  intro h0
  unfold rStart rMark at h
  rw [h0] at h
  simp at h
end Go.Proofs.Ytgfjcpeeoapjlaa

/- The package's reading of types: applied. -/
namespace Go.Proofs.Ytgfjcpeeoapjlaa
open Go.RowKit Go.Maps Mth

theorem qargs_cases {g : Nat} {ts : List Tok} {p : Nat} {acc : List Ty} {L : PL} (h : qArgs g ts p acc = some L) :
    (rStart ts p = false ∧ L = .ok acc p) ∨ (rStart ts p = true ∧ ∃ g', g = g' + 1 ∧ ((∃ pb, qAtom g' ts p = some (.bad pb) ∧ L = .bad pb) ∨ (∃ V q, qAtom g' ts p = some (.ok V q) ∧ qArgs g' ts q (acc ++ [V]) = some L))) := by
  cases g with
  | zero => simp [qArgs] at h
  | succ g =>
    unfold qArgs at h
    cases h1 : rStart ts p with
    | false =>
      rw [h1] at h
      simp only [Bool.false_eq_true, if_false, Option.some.injEq] at h
      exact .inl ⟨rfl, h.symm⟩
    | true =>
      rw [h1] at h
      simp only [if_true] at h
      cases h2 : qAtom g ts p with
      | none => rw [h2] at h; simp at h
      | some r =>
        rw [h2] at h
        cases r with
        | bad pb =>
          simp only [Option.some.injEq] at h
          exact .inr ⟨rfl, g, rfl, .inl ⟨pb, h2, h.symm⟩⟩
        | ok V q => exact .inr ⟨rfl, g, rfl, .inr ⟨V, q, h2, h⟩⟩
def RofL (x : ByteArray) : PL → PR
  | .ok l j => .ok (.mk 4 x 0 0 l) j
  | .bad p => .bad p
theorem qapp_cases {f : Nat} {ts : List Tok} {i : Nat} {R : PR} (h : qApp f ts i = some R) :
    ((tkK ts i == 2) = true ∧ ∃ L, qArgs f ts (i + 1) [] = some L ∧ R = RofL (txt ts i) L) ∨ ((tkK ts i == 2) = false ∧ qAtom f ts i = some R) := by
  unfold qApp at h
  cases h1 : (tkK ts i == 2) with
  | true =>
    rw [h1] at h
    simp only [if_true] at h
    cases h2 : qArgs f ts (i + 1) [] with
    | none => rw [h2] at h; simp at h
    | some L =>
      rw [h2] at h
      cases L with
      | bad p => simp only [Option.some.injEq] at h; exact .inl ⟨rfl, _, rfl, h.symm⟩
      | ok l j => simp only [Option.some.injEq] at h; exact .inl ⟨rfl, _, rfl, h.symm⟩
  | false =>
    rw [h1] at h
    simp only [Bool.false_eq_true, if_false] at h
    exact .inr ⟨rfl, h⟩

end Go.Proofs.Ytgfjcpeeoapjlaa

/- The package's reading of types: anyType; all by the fuel. -/
namespace Go.Proofs.Ytgfjcpeeoapjlaa
open Go.RowKit Go.Maps Mth

theorem qtype_app (f : Nat) (ts : List Tok) (i : Nat) : qType (f + 1) ts i = match qApp f ts i with
    | none => none
    | some (.bad p) => some (.bad p)
    | some (.ok T j) => qArrow f ts j T := by
  rw [qType]
  unfold qApp
  cases h1 : (tkK ts i == 2) with
  | true =>
    simp only [if_true]
    cases h2 : qArgs f ts (i + 1) [] with
    | none => rfl
    | some L => cases L <;> rfl
  | false => rfl
theorem qarrow_cases {g : Nat} {ts : List Tok} {j : Nat} {T : Ty} {R : PR} (h : qArrow g ts j T = some R) :
    (rMark ts j ⟨#[45, 62]⟩ = false ∧ R = .ok T j) ∨ (rMark ts j ⟨#[45, 62]⟩ = true ∧ ∃ g', g = g' + 1 ∧ ((∃ p, qType g' ts (j + 1) = some (.bad p) ∧ R = .bad p) ∨ (∃ U k, qType g' ts (j + 1) = some (.ok U k) ∧ R = .ok (con arrN [T, U]) k))) := by
  cases g with
  | zero => simp [qArrow] at h
  | succ g =>
    unfold qArrow at h
    cases h1 : rMark ts j ⟨#[45, 62]⟩ with
    | false =>
      rw [h1] at h
      simp only [Bool.false_eq_true, if_false, Option.some.injEq] at h
      exact .inl ⟨rfl, h.symm⟩
    | true =>
      rw [h1] at h
      simp only [if_true] at h
      cases h2 : qType g ts (j + 1) with
      | none => rw [h2] at h; simp at h
      | some r =>
        rw [h2] at h
        cases r with
        | bad p => simp only [Option.some.injEq] at h; exact .inr ⟨rfl, g, rfl, .inl ⟨p, h2, h.symm⟩⟩
        | ok U k => simp only [Option.some.injEq] at h; exact .inr ⟨rfl, g, rfl, .inr ⟨U, k, h2, h.symm⟩⟩
theorem arrN_ok' : arrN.size ≤ maxLen := by unfold maxLen; decide +kernel

end Go.Proofs.Ytgfjcpeeoapjlaa

/- Plain facts: the two readings find the same; each ends; the tokens of a text are valid. -/
namespace Go.Proofs.Ytgfjcpeeoapjlaa
open Go.RowKit Go.Maps Mth

/-- The tokens are valid: each has the kind of its text. -/
def TkVal (ts : List Tok) : Prop := ∀ t ∈ ts, rkind t.text = t.kind
theorem rIs_mark {ts : List Tok} (hv : TkVal ts) (i : Nat) {s : ByteArray} (hs : rkind (bl s) = 5) : rIs ts i s = rMark ts i s := by
  unfold rIs rMark tkK txt
  cases ht : ts[i]? with
  | none => rfl
  | some t =>
    simp only
    have hk := hv t (List.mem_of_getElem? ht)
    cases hq : ((⟨t.text.toArray⟩ : ByteArray).toList == s.toList) with
    | false => simp
    | true =>
      have e : bl (⟨t.text.toArray⟩ : ByteArray) = bl s := by
        have := eq_of_beq hq
        rw [Lib.toList_data, Lib.toList_data] at this
        exact this
      rw [bl_mk] at e
      rw [e, hs] at hk
      rw [← hk]
      rfl
theorem rKind_K {ts : List Tok} (i : Nat) {k : Int} (hk : k ≠ 0) : rKind ts i k = (tkK ts i == k) := by
  unfold rKind tkK
  cases ts[i]? with
  | none => simp [Ne.symm hk]
  | some t => rfl
theorem m40 : rkind (bl ⟨#[40]⟩) = 5 := by decide +kernel
theorem m41 : rkind (bl ⟨#[41]⟩) = 5 := by decide +kernel
theorem mAr : rkind (bl ⟨#[45, 62]⟩) = 5 := by decide +kernel

def RX (ts : List Tok) : PR → Ty × St → Prop
  | .ok T j, x => x = (T, ⟨j, false, 0⟩)
  | .bad p, x => x.2.bad = true ∧ x.2.p = posAt ts p
def RXL (ts : List Tok) : PL → List Ty × St → Prop
  | .ok l j, x => x = (l, ⟨j, false, 0⟩)
  | .bad p, x => x.2.bad = true ∧ x.2.p = posAt ts p
theorem xarrow_bad (f : Nat) (ts : List Tok) (s : St) (a : Ty) (h : s.bad = true) : xArrow (f + 1) ts s a = some (a, s) := by
  unfold xArrow xI; simp [h]
theorem xargs_bad (f : Nat) (ts : List Tok) (s : St) (acc : List Ty) (h : s.bad = true) : xArgs (f + 1) ts s acc = some (acc, s) := by
  unfold xArgs xI xK; simp [h]
theorem xneed_bad (ts : List Tok) (s : St) (t : ByteArray) (h : s.bad = true) : xNeed ts s t = s := by
  unfold xNeed xI xFail; simp [h]

theorem same_all (ts : List Tok) (hv : TkVal ts) : ∀ f,
    (∀ i R, qAtom f ts i = some R → ∃ x, xAtom f ts ⟨i, false, 0⟩ = some x ∧ RX ts R x) ∧
    (∀ i R, qType f ts i = some R → ∃ x, xType f ts ⟨i, false, 0⟩ = some x ∧ RX ts R x) ∧
    (∀ i a R, qArrow f ts i a = some R → ∃ x, xArrow f ts ⟨i, false, 0⟩ a = some x ∧ RX ts R x) ∧
    (∀ i acc L, qArgs f ts i acc = some L → ∃ x, xArgs f ts ⟨i, false, 0⟩ acc = some x ∧ RXL ts L x) := by
  intro f
  induction f with
  | zero => exact ⟨fun i R h => by simp [qAtom] at h, fun i R h => by simp [qType] at h, fun i a R h => by simp [qArrow] at h, fun i acc L h => by simp [qArgs] at h⟩
  | succ f ih =>
    obtain ⟨hA, hT, hW, hG⟩ := ih
    have k1 : ∀ i, xK ts ⟨i, false, 0⟩ 1 = (tkK ts i == 1) := fun i => by unfold xK; simp [rKind_K i (k := 1) (by decide)]
    have k2 : ∀ i, xK ts ⟨i, false, 0⟩ 2 = (tkK ts i == 2) := fun i => by unfold xK; simp [rKind_K i (k := 2) (by decide)]
    have i40 : ∀ i, xI ts ⟨i, false, 0⟩ ⟨#[40]⟩ = rMark ts i ⟨#[40]⟩ := fun i => by unfold xI; simp [rIs_mark hv i m40]
    have i41 : ∀ i, xI ts ⟨i, false, 0⟩ ⟨#[41]⟩ = rMark ts i ⟨#[41]⟩ := fun i => by unfold xI; simp [rIs_mark hv i m41]
    have iAr : ∀ i, xI ts ⟨i, false, 0⟩ ⟨#[45, 62]⟩ = rMark ts i ⟨#[45, 62]⟩ := fun i => by unfold xI; simp [rIs_mark hv i mAr]
    have hpos : ∀ g, qAtom g ts = qAtom g ts := fun _ => rfl
    refine ⟨fun i R h => ?_, fun i R h => ?_, fun i a R h => ?_, fun i acc L h => ?_⟩
    · unfold qAtom at h
      unfold xAtom
      rw [k1, k2]
      cases h1 : (tkK ts i == 1) with
      | true =>
        rw [h1] at h
        simp only [if_true, Option.some.injEq] at h
        subst h
        exact ⟨_, rfl, rfl⟩
      | false =>
        rw [h1] at h
        simp only [Bool.false_eq_true, if_false] at h ⊢
        cases h2 : (tkK ts i == 2) with
        | true =>
          rw [h2] at h
          simp only [if_true, Option.some.injEq] at h
          subst h
          exact ⟨_, rfl, rfl⟩
        | false =>
          rw [h2] at h
          simp only [Bool.false_eq_true, if_false] at h ⊢
          cases h3 : rMark ts i ⟨#[40]⟩ with
          | false =>
            rw [h3] at h
            simp only [Bool.false_eq_true, if_false, Option.some.injEq] at h
            subst h
            have e : xNeed ts ⟨i, false, 0⟩ ⟨#[40]⟩ = ⟨i, true, posAt ts i⟩ := by unfold xNeed xFail; rw [i40, h3]; rfl
            rw [e]
            exact ⟨_, rfl, rfl, rfl⟩
          | true =>
            rw [h3] at h
            simp only [if_true] at h
            have e : xNeed ts ⟨i, false, 0⟩ ⟨#[40]⟩ = ⟨i + 1, false, 0⟩ := by unfold xNeed xStep; rw [i40, h3]; rfl
            rw [e]
            cases h4 : qType f ts (i + 1) with
            | none => rw [h4] at h; simp [qEncl] at h
            | some r =>
              rw [h4] at h
              obtain ⟨x, hx, hr⟩ := hT (i + 1) r h4
              obtain ⟨xt, xs⟩ := x
              rw [hx]
              cases r with
              | bad p =>
                simp only [qEncl, Option.some.injEq] at h
                subst h
                obtain ⟨hb, hp⟩ := hr
                refine ⟨_, rfl, ?_⟩
                dsimp only at hb hp
                rw [xneed_bad _ _ _ hb]
                exact ⟨hb, hp⟩
              | ok T j =>
                obtain ⟨rfl, rfl⟩ : xt = T ∧ xs = ⟨j, false, 0⟩ := by have : (xt, xs) = (T, (⟨j, false, 0⟩ : St)) := hr; simpa using this
                simp only [qEncl] at h
                cases h5 : rMark ts j ⟨#[41]⟩ with
                | true =>
                  rw [h5] at h
                  simp only [if_true, Option.some.injEq] at h
                  subst h
                  refine ⟨_, rfl, ?_⟩
                  show (_, xNeed ts ⟨j, false, 0⟩ ⟨#[41]⟩) = _
                  unfold xNeed xStep; rw [i41, h5]; rfl
                | false =>
                  rw [h5] at h
                  simp only [Bool.false_eq_true, if_false, Option.some.injEq] at h
                  subst h
                  refine ⟨_, rfl, ?_⟩
                  have e : xNeed ts ⟨j, false, 0⟩ ⟨#[41]⟩ = ⟨j, true, posAt ts j⟩ := by unfold xNeed xFail; rw [i41, h5]; rfl
                  show (xNeed ts ⟨j, false, 0⟩ ⟨#[41]⟩).bad = true ∧ (xNeed ts ⟨j, false, 0⟩ ⟨#[41]⟩).p = posAt ts j
                  rw [e]
                  exact ⟨rfl, rfl⟩
    · unfold qType at h
      unfold xType
      rw [k2]
      cases h2 : (tkK ts i == 2) with
      | true =>
        rw [h2] at h
        simp only [if_true] at h ⊢
        cases h3 : qArgs f ts (i + 1) [] with
        | none => rw [h3] at h; simp at h
        | some L =>
          rw [h3] at h
          obtain ⟨x, hx, hr⟩ := hG (i + 1) [] L h3
          obtain ⟨xl, xs⟩ := x
          have e : xStep ⟨i, false, 0⟩ = ⟨i + 1, false, 0⟩ := rfl
          rw [e, hx]
          cases L with
          | bad p =>
            simp only [Option.some.injEq] at h
            subst h
            obtain ⟨hb, hp⟩ := hr
            dsimp only at hb hp ⊢
            cases f with
            | zero => simp [qArgs] at h3
            | succ f => rw [xarrow_bad _ _ _ _ hb]; exact ⟨_, rfl, hb, hp⟩
          | ok l j =>
            obtain ⟨rfl, rfl⟩ : xl = l ∧ xs = ⟨j, false, 0⟩ := by have : (xl, xs) = (l, (⟨j, false, 0⟩ : St)) := hr; simpa using this
            exact hW j _ R h
      | false =>
        rw [h2] at h
        simp only [Bool.false_eq_true, if_false] at h ⊢
        cases h3 : qAtom f ts i with
        | none => rw [h3] at h; simp at h
        | some r =>
          rw [h3] at h
          obtain ⟨x, hx, hr⟩ := hA i r h3
          obtain ⟨xt, xs⟩ := x
          rw [hx]
          cases r with
          | bad p =>
            simp only [Option.some.injEq] at h
            subst h
            obtain ⟨hb, hp⟩ := hr
            dsimp only at hb hp ⊢
            cases f with
            | zero => simp [qAtom] at h3
            | succ f => rw [xarrow_bad _ _ _ _ hb]; exact ⟨_, rfl, hb, hp⟩
          | ok T j =>
            obtain ⟨rfl, rfl⟩ : xt = T ∧ xs = ⟨j, false, 0⟩ := by have : (xt, xs) = (T, (⟨j, false, 0⟩ : St)) := hr; simpa using this
            exact hW j _ R h
    · unfold qArrow at h
      unfold xArrow
      rw [iAr]
      cases h1 : rMark ts i ⟨#[45, 62]⟩ with
      | false =>
        rw [h1] at h
        simp only [Bool.false_eq_true, if_false, Option.some.injEq] at h ⊢
        subst h
        exact ⟨_, rfl, rfl⟩
      | true =>
        rw [h1] at h
        simp only [if_true] at h ⊢
        have e : xSkip ts ⟨i, false, 0⟩ ⟨#[45, 62]⟩ = ⟨i + 1, false, 0⟩ := by unfold xSkip xStep; rw [iAr, h1]; rfl
        rw [e]
        cases h3 : qType f ts (i + 1) with
        | none => rw [h3] at h; simp at h
        | some r =>
          rw [h3] at h
          obtain ⟨x, hx, hr⟩ := hT (i + 1) r h3
          obtain ⟨xt, xs⟩ := x
          rw [hx]
          cases r with
          | bad p =>
            simp only [Option.some.injEq] at h
            subst h
            obtain ⟨hb, hp⟩ := hr
            exact ⟨_, rfl, hb, hp⟩
          | ok T j =>
            obtain ⟨rfl, rfl⟩ : xt = T ∧ xs = ⟨j, false, 0⟩ := by have : (xt, xs) = (T, (⟨j, false, 0⟩ : St)) := hr; simpa using this
            simp only [Option.some.injEq] at h
            subst h
            exact ⟨_, rfl, rfl⟩
    · unfold qArgs at h
      unfold xArgs
      have e : (xK ts ⟨i, false, 0⟩ 1 || xK ts ⟨i, false, 0⟩ 2 || xI ts ⟨i, false, 0⟩ ⟨#[40]⟩) = rStart ts i := by rw [k1, k2, i40]; rfl
      rw [e]
      cases h1 : rStart ts i with
      | false =>
        rw [h1] at h
        simp only [Bool.false_eq_true, if_false, Option.some.injEq] at h ⊢
        subst h
        exact ⟨_, rfl, rfl⟩
      | true =>
        rw [h1] at h
        simp only [if_true] at h ⊢
        cases h3 : qAtom f ts i with
        | none => rw [h3] at h; simp at h
        | some r =>
          rw [h3] at h
          obtain ⟨x, hx, hr⟩ := hA i r h3
          obtain ⟨xt, xs⟩ := x
          rw [hx]
          cases r with
          | bad p =>
            simp only [Option.some.injEq] at h
            subst h
            obtain ⟨hb, hp⟩ := hr
            dsimp only at hb hp ⊢
            cases f with
            | zero => simp [qAtom] at h3
            | succ f => rw [xargs_bad _ _ _ _ hb]; exact ⟨_, rfl, hb, hp⟩
          | ok T j =>
            obtain ⟨rfl, rfl⟩ : xt = T ∧ xs = ⟨j, false, 0⟩ := by have : (xt, xs) = (T, (⟨j, false, 0⟩ : St)) := hr; simpa using this
            exact hG j _ L h

theorem goes_all (ts : List Tok) : ∀ f,
    (∀ i T j, qAtom f ts i = some (.ok T j) → i < j ∧ j ≤ ts.length) ∧
    (∀ i T j, qType f ts i = some (.ok T j) → i < j ∧ j ≤ ts.length) ∧
    (∀ i a T j, i ≤ ts.length → qArrow f ts i a = some (.ok T j) → i ≤ j ∧ j ≤ ts.length) ∧
    (∀ i acc l j, i ≤ ts.length → qArgs f ts i acc = some (.ok l j) → i ≤ j ∧ j ≤ ts.length) := by
  intro f
  induction f with
  | zero => exact ⟨fun i T j h => by simp [qAtom] at h, fun i T j h => by simp [qType] at h, fun i a T j _ h => by simp [qArrow] at h, fun i acc l j _ h => by simp [qArgs] at h⟩
  | succ f ih =>
    obtain ⟨hA, hT, hW, hG⟩ := ih
    refine ⟨fun i T j h => ?_, fun i T j h => ?_, fun i a T j hi h => ?_, fun i acc l j hi h => ?_⟩
    · unfold qAtom at h
      by_cases h1 : (tkK ts i == 1) = true
      · rw [if_pos h1] at h
        have := tkK_lt (ts := ts) (i := i) (by simp at h1; omega)
        simp at h; omega
      · rw [if_neg h1] at h
        by_cases h2 : (tkK ts i == 2) = true
        · rw [if_pos h2] at h
          have := tkK_lt (ts := ts) (i := i) (by simp at h2; omega)
          simp at h; omega
        · rw [if_neg h2] at h
          by_cases h3 : rMark ts i ⟨#[40]⟩ = true
          · rw [if_pos h3] at h
            cases h4 : qType f ts (i + 1) with
            | none => rw [h4] at h; simp [qEncl] at h
            | some r =>
              rw [h4] at h
              cases r with
              | bad p => simp [qEncl] at h
              | ok U k =>
                obtain ⟨g1, g2⟩ := hT (i + 1) U k h4
                simp only [qEncl] at h
                by_cases h5 : rMark ts k ⟨#[41]⟩ = true
                · rw [if_pos h5] at h
                  have := rMark_lt h5
                  simp at h; omega
                · rw [if_neg h5] at h; simp at h
          · rw [if_neg h3] at h; simp at h
    · rw [qtype_app] at h
      cases ha : qApp f ts i with
      | none => rw [ha] at h; simp at h
      | some r =>
        rw [ha] at h
        cases r with
        | bad p => simp at h
        | ok U k =>
          have hk : i < k ∧ k ≤ ts.length := by
            rcases qapp_cases ha with ⟨h2, L, hL, hR⟩ | ⟨h2, hq⟩
            · have := tkK_lt (ts := ts) (i := i) (by simp at h2; omega)
              cases L with
              | bad p => cases hR
              | ok l m => cases hR; have := hG (i + 1) [] l k (by omega) hL; omega
            · exact hA i U k hq
          have := hW k U T j hk.2 h
          omega
    · rcases qarrow_cases h with ⟨_, hR⟩ | ⟨hm, g', hg, hc⟩
      · cases hR; omega
      · rcases hc with ⟨p, _, hR⟩ | ⟨U, k, hU, hR⟩
        · cases hR
        · cases hR
          obtain rfl : f = g' := by omega
          have := hT (i + 1) U j hU
          omega
    · rcases qargs_cases h with ⟨_, hR⟩ | ⟨hm, g', hg, hc⟩
      · cases hR; omega
      · rcases hc with ⟨p, _, hR⟩ | ⟨V, q, hV, hrest⟩
        · cases hR
        · obtain rfl : f = g' := by omega
          have h1 := hA i V q hV
          have h2 := hG q _ l j h1.2 hrest
          omega
theorem ends_all (ts : List Tok) : ∀ f,
    (∀ i, i ≤ ts.length → 3 * (ts.length - i) + 1 ≤ f → ∃ R, qAtom f ts i = some R) ∧
    (∀ i, i ≤ ts.length → 3 * (ts.length - i) + 3 ≤ f → ∃ R, qType f ts i = some R) ∧
    (∀ i a, i ≤ ts.length → 3 * (ts.length - i) + 1 ≤ f → ∃ R, qArrow f ts i a = some R) ∧
    (∀ i acc, i ≤ ts.length → 3 * (ts.length - i) + 2 ≤ f → ∃ L, qArgs f ts i acc = some L) := by
  intro f
  induction f with
  | zero => exact ⟨fun i _ h => by omega, fun i _ h => by omega, fun i a _ h => by omega, fun i acc _ h => by omega⟩
  | succ f ih =>
    obtain ⟨hA, hT, hW, hG⟩ := ih
    obtain ⟨gA, gT, gW, gG⟩ := goes_all ts f
    refine ⟨fun i hi h => ?_, fun i hi h => ?_, fun i a hi h => ?_, fun i acc hi h => ?_⟩
    · unfold qAtom
      by_cases h1 : (tkK ts i == 1) = true
      · rw [if_pos h1]; exact ⟨_, rfl⟩
      · rw [if_neg h1]
        by_cases h2 : (tkK ts i == 2) = true
        · rw [if_pos h2]; exact ⟨_, rfl⟩
        · rw [if_neg h2]
          by_cases h3 : rMark ts i ⟨#[40]⟩ = true
          · rw [if_pos h3]
            have hlt := rMark_lt h3
            obtain ⟨R, hR⟩ := hT (i + 1) (by omega) (by omega)
            rw [hR]
            cases R with
            | bad p => exact ⟨_, rfl⟩
            | ok T j =>
              simp only [qEncl]
              by_cases h5 : rMark ts j ⟨#[41]⟩ = true
              · rw [if_pos h5]; exact ⟨_, rfl⟩
              · rw [if_neg h5]; exact ⟨_, rfl⟩
          · rw [if_neg h3]; exact ⟨_, rfl⟩
    · unfold qType
      by_cases h2 : (tkK ts i == 2) = true
      · rw [if_pos h2]
        have hlt := tkK_lt (ts := ts) (i := i) (by simp at h2; omega)
        obtain ⟨L, hL⟩ := hG (i + 1) [] (by omega) (by omega)
        rw [hL]
        cases L with
        | bad p => exact ⟨_, rfl⟩
        | ok l j =>
          have := gG (i + 1) [] l j (by omega) hL
          exact hW j _ this.2 (by omega)
      · rw [if_neg h2]
        obtain ⟨R, hR⟩ := hA i hi (by omega)
        rw [hR]
        cases R with
        | bad p => exact ⟨_, rfl⟩
        | ok T j =>
          have := gA i T j hR
          exact hW j _ this.2 (by omega)
    · unfold qArrow
      by_cases h2 : rMark ts i ⟨#[45, 62]⟩ = true
      · rw [if_pos h2]
        have hlt := rMark_lt h2
        obtain ⟨R, hR⟩ := hT (i + 1) (by omega) (by omega)
        rw [hR]
        cases R with
        | bad p => exact ⟨_, rfl⟩
        | ok T j => exact ⟨_, rfl⟩
      · rw [if_neg h2]; exact ⟨_, rfl⟩
    · unfold qArgs
      by_cases h2 : rStart ts i = true
      · rw [if_pos h2]
        obtain ⟨R, hR⟩ := hA i hi (by omega)
        rw [hR]
        cases R with
        | bad p => exact ⟨_, rfl⟩
        | ok T j =>
          have := gA i T j hR
          exact hG j _ this.2 (by omega)
      · rw [if_neg h2]; exact ⟨_, rfl⟩

theorem stp_kind (l : List UInt8) (h0 : (stp l).1 ≠ 0) (h1 : (stp l).1 ≠ -1) : rkind (l.take (stp l).2) = (stp l).1 := by
  cases l with
  | nil => exact absurd rfl h0
  | cons c r =>
    by_cases hc : c = 35
    · exfalso; apply h1; simp [stp, hc]
    · by_cases hw : wht c = true
      · exfalso; apply h1; simp [stp, hc, hw]
      · obtain ⟨e1, e2⟩ := stp_ref (r := r) hc (by simpa using hw)
        rw [e1] at h0
        rw [e2 h0]; exact e1.symm
theorem sc_val : ∀ (n : Nat) (l : List UInt8) (p : Nat), l.length ≤ n → ∀ t ∈ (sc l p).1, rkind t.text = t.kind ∧ t.text.length ≤ l.length ∧ t.pos ≤ p + l.length := by
  intro n
  induction n with
  | zero =>
    intro l p hl t ht
    have : l = [] := List.eq_nil_of_length_eq_zero (by omega)
    subst this
    simp [sc_nil] at ht
  | succ n ih =>
    intro l p hl t ht
    by_cases hn : l = []
    · subst hn; simp [sc_nil] at ht
    · by_cases h0 : (stp l).1 = 0
      · rw [sc_err p hn h0] at ht; simp at ht
      · obtain ⟨s1, s2⟩ := stp_le l h0
        have hd : (l.drop (stp l).2).length ≤ n := by rw [List.length_drop]; omega
        by_cases h1 : (stp l).1 = -1
        · rw [sc_blank p h1] at ht
          obtain ⟨a, b, c⟩ := ih _ _ hd t ht
          rw [List.length_drop] at b c
          exact ⟨a, by omega, by omega⟩
        · rw [sc_tok p h0 h1] at ht
          simp only [List.mem_cons] at ht
          rcases ht with rfl | ht
          · refine ⟨stp_kind l h0 h1, ?_, ?_⟩
            · simp; omega
            · dsimp only; omega
          · obtain ⟨a, b, c⟩ := ih _ _ hd t ht
            rw [List.length_drop] at b c
            exact ⟨a, by omega, by omega⟩
theorem sc_len : ∀ (n : Nat) (l : List UInt8) (p : Nat), l.length ≤ n → (sc l p).1.length ≤ l.length := by
  intro n
  induction n with
  | zero =>
    intro l p hl
    have : l = [] := List.eq_nil_of_length_eq_zero (by omega)
    subst this
    simp [sc_nil]
  | succ n ih =>
    intro l p hl
    by_cases hn : l = []
    · subst hn; simp [sc_nil]
    · by_cases h0 : (stp l).1 = 0
      · rw [sc_err p hn h0]; simp
      · obtain ⟨s1, s2⟩ := stp_le l h0
        have hd : (l.drop (stp l).2).length ≤ n := by rw [List.length_drop]; omega
        by_cases h1 : (stp l).1 = -1
        · rw [sc_blank p h1]
          have := ih _ (p + (stp l).2) hd
          rw [List.length_drop] at this
          omega
        · rw [sc_tok p h0 h1]
          have := ih _ (p + (stp l).2) hd
          rw [List.length_drop] at this
          simp; omega
theorem ftoks_ok (l : List UInt8) : TkOk (ftoks l) ∧ TkVal (ftoks l) := by
  unfold ftoks
  split
  · exact ⟨⟨by simp, fun t h => by simp at h⟩, fun t h => by simp at h⟩
  · rename_i hl
    split
    · refine ⟨⟨?_, fun t h => ?_⟩, fun t h => ?_⟩
      · have := sc_len _ l 0 (Nat.le_refl _); omega
      · have := sc_val _ l 0 (Nat.le_refl _) t h; omega
      · exact (sc_val _ l 0 (Nat.le_refl _) t h).1
    · exact ⟨⟨by simp, fun t h => by simp at h⟩, fun t h => by simp at h⟩
end Go.Proofs.Ytgfjcpeeoapjlaa

/- The package's Type and Atom: what they return. -/
namespace Go.Proofs.Ytgfjcpeeoapjlaa
open Go.RowKit Go.Maps Go.Shelf Mth

def resQ (ts : List Tok) : PR → Res
  | .ok T j => ⟨T, j, 0, 0⟩
  | .bad p => ⟨zeroT, 0, 3, posAt ts p⟩
end Go.Proofs.Ytgfjcpeeoapjlaa

/- The package's and the reference's Type and Atom: what they return, by one function. -/
namespace Go.Proofs.Ytgfjcpeeoapjlaa
open Go.RowKit Go.Maps Mth

def rdOf (ts : List Tok) : Option PR → Res
  | some R => resQ ts R
  | none => ⟨zeroT, 0, 0, 0⟩
def rdT (ts : List Tok) (k : Int) : Res := rdOf ts (qType (3 * ts.length + 3) ts (startAt ts k))
def rdA (ts : List Tok) (k : Int) : Res := rdOf ts (qAtom (3 * ts.length + 3) ts (startAt ts k))
theorem res_same (ts : List Tok) {R : PR} {T : Ty} {s : St} (h : RX ts R (T, s)) : resOf T s = resQ ts R := by
  cases R with
  | ok U j => cases h; rfl
  | bad p =>
    obtain ⟨h1, h2⟩ := h
    dsimp only at h1 h2
    unfold resOf resQ
    rw [if_pos h1, h2]
end Go.Proofs.Ytgfjcpeeoapjlaa

/- Plain facts: the tokens of the canonical text of a written type are read as this type. -/
namespace Go.Proofs.Ytgfjcpeeoapjlaa
open Go.RowKit Go.Maps Mth

/-! Reading. -/
theorem at_tok {ts : List Tok} {i : Nat} {k : Int} {x : List UInt8} {rest : List (Int × List UInt8)} (h : (kt ts).drop i = (k, x) :: rest) :
    tkK ts i = k ∧ txt ts i = ⟨x.toArray⟩ ∧ (kt ts).drop (i + 1) = rest ∧ i < ts.length := by
  have hg : (kt ts)[i]? = some (k, x) := by
    have : ((kt ts).drop i)[0]? = some (k, x) := by rw [h]; rfl
    rwa [List.getElem?_drop, Nat.add_zero] at this
  have hd1 : (kt ts).drop (i + 1) = rest := by rw [← List.drop_drop, h]; rfl
  unfold kt at hg
  rw [List.getElem?_map] at hg
  obtain ⟨t, ht, he⟩ := Option.map_eq_some_iff.1 hg
  simp only [Prod.mk.injEq] at he
  refine ⟨?_, ?_, hd1, (List.getElem?_eq_some_iff.1 ht).1⟩
  · unfold tkK; rw [ht]; exact he.1
  · rw [txt_some ht, he.2]
theorem at_len {ts : List Tok} {i : Nat} {L : List (Int × List UInt8)} (h : (kt ts).drop i = L) : ts.length - i = L.length := by
  rw [← h, List.length_drop]; simp [kt]
theorem at_end {ts : List Tok} {i : Nat} (h : (kt ts).drop i = []) : tkK ts i = 0 := by
  have h2 : ts.length ≤ i := by
    have := at_len h
    simp at this; omega
  unfold tkK; rw [List.getElem?_eq_none h2]
theorem rMark_at {ts : List Tok} {i : Nat} {k : Int} {x : List UInt8} {rest : List (Int × List UInt8)} (h : (kt ts).drop i = (k, x) :: rest) (s : ByteArray) : rMark ts i s = (k == 5 && x == bl s) := by
  obtain ⟨h1, h2, -⟩ := at_tok h
  unfold rMark
  rw [h1, h2, Lib.toList_data, Lib.toList_data]
  rfl
theorem rMark_end {ts : List Tok} {i : Nat} (h : (kt ts).drop i = []) (s : ByteArray) : rMark ts i s = false := by
  unfold rMark; rw [at_end h]; rfl
/-- No argument, or no arrow, follows. -/
def NoArg (r : List (Int × List UInt8)) : Prop := ∀ k x q, r = (k, x) :: q → k ≠ 1 ∧ k ≠ 2 ∧ ¬ (k = 5 ∧ x = [40])
def NoArr (r : List (Int × List UInt8)) : Prop := ∀ k x q, r = (k, x) :: q → ¬ (k = 5 ∧ x = [45, 62])
theorem noArg_mark {x : List UInt8} {q : List (Int × List UInt8)} (h : x ≠ [40]) : NoArg ((5, x) :: q) := fun k y r e => by
  cases e; exact ⟨by decide, by decide, fun e => h e.2⟩
theorem noArr_mark {x : List UInt8} {q : List (Int × List UInt8)} (h : x ≠ [45, 62]) : NoArr ((5, x) :: q) := fun k y r e => by
  cases e; exact fun e => h e.2
theorem noArg_nil : NoArg [] := fun k x q e => by cases e
theorem noArr_nil : NoArr [] := fun k x q e => by cases e
theorem start_no {ts : List Tok} {i : Nat} {r : List (Int × List UInt8)} (h : (kt ts).drop i = r) (hn : NoArg r) : rStart ts i = false := by
  cases r with
  | nil => unfold rStart; rw [at_end h, rMark_end h]; rfl
  | cons a q =>
    obtain ⟨k, x⟩ := a
    obtain ⟨h1, h2, h3⟩ := hn k x q rfl
    unfold rStart
    rw [(at_tok h).1, rMark_at h]
    have e1 : (k == 1) = false := by simpa using h1
    have e2 : (k == 2) = false := by simpa using h2
    rw [e1, e2]
    cases hk : (k == 5) with
    | false => rfl
    | true =>
      have hx : ¬ x = [40] := fun e => h3 ⟨by simpa using hk, e⟩
      have : (x == bl ⟨#[40]⟩) = false := by rw [beq_eq_false_iff_ne]; exact hx
      rw [this]; rfl
theorem arrow_no {ts : List Tok} {i : Nat} {r : List (Int × List UInt8)} (h : (kt ts).drop i = r) (hn : NoArr r) : rMark ts i ⟨#[45, 62]⟩ = false := by
  cases r with
  | nil => exact rMark_end h _
  | cons a q =>
    obtain ⟨k, x⟩ := a
    have h3 := hn k x q rfl
    rw [rMark_at h]
    cases hk : (k == 5) with
    | false => rfl
    | true =>
      have hx : ¬ x = [45, 62] := fun e => h3 ⟨by simpa using hk, e⟩
      have : (x == bl ⟨#[45, 62]⟩) = false := by rw [beq_eq_false_iff_ne]; exact hx
      rw [this]; rfl
theorem atom_starts {f : Nat} {ts : List Tok} {i : Nat} {T : Ty} {j : Nat} (h : qAtom f ts i = some (.ok T j)) : rStart ts i = true := by
  cases f with
  | zero => simp [qAtom] at h
  | succ f =>
    unfold qAtom at h
    unfold rStart
    cases h1 : tkK ts i == 1 with
    | true => rfl
    | false =>
      cases h2 : tkK ts i == 2 with
      | true => rfl
      | false =>
        cases h3 : rMark ts i ⟨#[40]⟩ with
        | true => rfl
        | false => rw [h1, h2, h3] at h; simp at h
def AtomOk (T : Ty) : Prop := ∀ f ts i rest, (kt ts).drop i = wk (brkW (conArgs T) (tkT T)) ++ rest → 3 * (ts.length - i) + 1 ≤ f → qAtom f ts i = some (.ok T (i + (brkW (conArgs T) (tkT T)).length))
def HeadOk (T : Ty) : Prop := ∀ f ts i rest, (kt ts).drop i = wk (brkW (isArr T) (tkT T)) ++ rest → NoArg rest → 3 * (ts.length - i) + 2 ≤ f → qType (f + 1) ts i = qArrow f ts (i + (brkW (isArr T) (tkT T)).length) T
def TypeOk (T : Ty) : Prop := ∀ f ts i rest, (kt ts).drop i = wk (tkT T) ++ rest → NoArg rest → NoArr rest → 3 * (ts.length - i) + 3 ≤ f → qType f ts i = some (.ok T (i + (tkT T).length))
theorem drop_add {α : Type} {l : List α} {i : Nat} {a r : List α} (h : l.drop i = a ++ r) : l.drop (i + a.length) = r := by
  rw [← List.drop_drop, h, List.drop_left]
theorem wk_len (l : List (List UInt8)) : (wk l).length = l.length := by simp [wk]
theorem args_ok : ∀ l : List Ty, (∀ U ∈ l, AtomOk U) → ∀ f ts i acc rest, (kt ts).drop i = wk (tkA l) ++ rest → NoArg rest → 3 * (ts.length - i) + 2 ≤ f → qArgs f ts i acc = some (.ok (acc ++ l) (i + (tkA l).length)) := by
  intro l
  induction l with
  | nil =>
    intro _ f ts i acc rest h hn hf
    obtain ⟨f, rfl⟩ : ∃ g, f = g + 1 := ⟨f - 1, by omega⟩
    unfold qArgs
    rw [start_no (by simpa [tkA, wk] using h) hn]
    simp [tkA]
  | cons t l ih =>
    intro hA f ts i acc rest h hn hf
    obtain ⟨f, rfl⟩ : ∃ g, f = g + 1 := ⟨f - 1, by omega⟩
    simp only [tkA] at h ⊢
    rw [wk_app, List.append_assoc] at h
    have ha := hA t (by simp) f ts i _ h (by omega)
    unfold qArgs
    rw [atom_starts ha, ha]
    simp only [if_true]
    have hlt := rStart_lt (atom_starts ha)
    have hd := drop_add h
    rw [wk_len] at hd
    have hpos : 1 ≤ (brkW (conArgs t) (tkT t)).length := by
      cases hz : (brkW (conArgs t) (tkT t)).length with
      | zero =>
        rw [hz] at ha
        have := (goes_all ts f).1 i t (i + 0) ha
        omega
      | succ n => omega
    rw [ih (fun U hU => hA U (by simp [hU])) f ts _ (acc ++ [t]) rest hd hn (by omega), List.append_assoc, List.length_append, Nat.add_assoc]
    rfl
theorem wk_cons (x : List UInt8) (l : List (List UInt8)) : wk (x :: l) = (rkind x, x) :: wk l := rfl
theorem r40 : rkind [40] = 5 := by decide
theorem r41 : rkind [41] = 5 := by decide
theorem rAr : rkind [45, 62] = 5 := by decide
theorem enc_at {T : Ty} {f : Nat} {ts : List Tok} {i : Nat} {rest : List (Int × List UInt8)} (hT : TypeOk T) (h : (kt ts).drop i = wk ([40] :: (tkT T ++ [[41]])) ++ rest) (hf : 3 * (ts.length - i) + 1 ≤ f) :
    qAtom f ts i = some (.ok T (i + ([40] :: (tkT T ++ [[41]])).length)) := by
  obtain ⟨f, rfl⟩ : ∃ g, f = g + 1 := ⟨f - 1, by omega⟩
  rw [wk_cons, wk_app, r40] at h
  have h0 : (kt ts).drop i = (5, [40]) :: (wk (tkT T) ++ ((5, [41]) :: rest)) := by rw [h]; simp [wk, r41]
  obtain ⟨k1, -, d1, hlt⟩ := at_tok h0
  unfold qAtom
  rw [k1, rMark_at h0]
  have hq := hT f ts (i + 1) _ d1 (noArg_mark (by decide)) (noArr_mark (by decide)) (by omega)
  rw [if_neg (by decide), if_neg (by decide), if_pos (by decide), hq]
  have d2 := drop_add d1
  rw [wk_len] at d2
  simp only [qEncl]
  rw [rMark_at d2, if_pos (by decide)]
  simp only [List.length_cons, List.length_append, List.length_nil]
  congr 2
  omega
theorem ty_ok : ∀ T, src T = true → AtomOk T ∧ HeadOk T ∧ TypeOk T := by
  refine tyInd fun T ih hs => ?_
  cases T with
  | mk k n i h ts =>
    simp only [src, Bool.and_eq_true] at hs
    obtain ⟨⟨⟨hi0, hh0⟩, hk⟩, hl⟩ := hs
    rw [beq_iff_eq] at hi0 hh0
    subst hi0
    subst hh0
    have ih' : ∀ U ∈ ts, AtomOk U ∧ HeadOk U ∧ TypeOk U := fun U hU => ih U hU (srcL_mem hl hU)
    cases h5 : k == 5 with
    | true =>
      rw [h5] at hk
      have hk5 : k = 5 := by simpa using h5
      subst hk5
      simp only [if_true, Bool.and_eq_true, beq_iff_eq] at hk
      obtain ⟨hlo, hts⟩ := hk
      obtain rfl : ts = [] := List.eq_nil_of_length_eq_zero (by simpa using hts)
      have e1 : tkT (.mk 5 n 0 0 []) = [bl n] := by simp [tkT]
      have eC : conArgs (.mk 5 n 0 0 []) = false := rfl
      have eA : isArr (.mk 5 n 0 0 []) = false := rfl
      have hatom : ∀ f ts i rest, (kt ts).drop i = wk [bl n] ++ rest → qAtom (f + 1) ts i = some (.ok (.mk 5 n 0 0 []) (i + 1)) := by
        intro f ts i rest h
        obtain ⟨k1, t1, d1, hlt⟩ := at_tok (k := rkind (bl n)) (x := bl n) (rest := rest) (by rw [h]; rfl)
        rw [rkind_lo hlo] at k1
        unfold qAtom
        rw [k1, t1, if_pos (by decide), ← mk_bl n]
      have hhead : HeadOk (.mk 5 n 0 0 []) := by
        intro f ts i rest h hn hf
        rw [eA, e1] at *
        simp only [brkW, Bool.false_eq_true, if_false] at h ⊢
        obtain ⟨f, rfl⟩ : ∃ g, f = g + 1 := ⟨f - 1, by omega⟩
        obtain ⟨k1, -, d1, hlt⟩ := at_tok (k := rkind (bl n)) (x := bl n) (rest := rest) (by rw [h]; rfl)
        rw [rkind_lo hlo] at k1
        unfold qType
        rw [k1, if_neg (by decide), hatom f ts i rest h]
        rfl
      refine ⟨?_, hhead, ?_⟩
      · intro f ts i rest h hf
        rw [eC, e1] at *
        simp only [brkW, Bool.false_eq_true, if_false] at h ⊢
        obtain ⟨f, rfl⟩ : ∃ g, f = g + 1 := ⟨f - 1, by omega⟩
        exact hatom f ts i rest h
      · intro f ts i rest h hn hr hf
        obtain ⟨f, rfl⟩ : ∃ g, f = g + 2 := ⟨f - 2, by omega⟩
        have h' : (kt ts).drop i = wk (brkW (isArr (.mk 5 n 0 0 [])) (tkT (.mk 5 n 0 0 []))) ++ rest := by rw [eA]; exact h
        rw [hhead (f + 1) ts i rest h' hn (by omega)]
        have hd := drop_add h
        rw [wk_len] at hd
        unfold qArrow
        rw [eA]
        simp only [brkW, Bool.false_eq_true, if_false]
        rw [arrow_no hd hr]
        rfl
    | false =>
      rw [h5] at hk
      simp only [Bool.false_eq_true, if_false, Bool.and_eq_true] at hk
      obtain ⟨hk4, hk⟩ := hk
      rw [beq_iff_eq] at hk4
      subst hk4
      cases ha : n.toList == [45, 62] with
      | true =>
        rw [ha] at hk
        simp only [if_true, beq_iff_eq] at hk
        have hn : n = arrN := by
          rw [bl_eq]
          have := eq_of_beq ha
          rw [Lib.toList_data] at this
          exact this
        match ts, hk with
        | [a, c], _ =>
          obtain ⟨-, Ha, Fa⟩ := ih' a (by simp)
          obtain ⟨-, -, Fc⟩ := ih' c (by simp)
          have e1 : tkT (.mk 4 n 0 0 [a, c]) = brkW (isArr a) (tkT a) ++ [45, 62] :: tkT c := by simp [tkT, ha, tkH, tkB]
          have eA : isArr (.mk 4 n 0 0 [a, c]) = true := by simp [isArr, Ty.k, Ty.n, ha]
          have eC : conArgs (.mk 4 n 0 0 [a, c]) = true := rfl
          have F : TypeOk (.mk 4 n 0 0 [a, c]) := by
            intro f ts i rest h hnA hnR hf
            obtain ⟨f, rfl⟩ : ∃ g, f = g + 2 := ⟨f - 2, by omega⟩
            rw [e1] at h ⊢
            have h0 : (kt ts).drop i = wk (brkW (isArr a) (tkT a)) ++ ((5, [45, 62]) :: (wk (tkT c) ++ rest)) := by rw [h]; simp [wk, rAr]
            have hlen := at_len h0
            rw [Ha (f + 1) ts i _ h0 (noArg_mark (by decide)) (by omega)]
            have d1 := drop_add h0
            rw [wk_len] at d1
            obtain ⟨-, -, d2, hlt⟩ := at_tok d1
            unfold qArrow
            rw [rMark_at d1, if_pos (by decide)]
            simp only [List.length_append, List.length_cons, wk_len] at hlen
            rw [Fc f ts _ rest d2 hnA hnR (by omega), hn]
            simp only [List.length_append, List.length_cons]
            congr 2
            omega
          refine ⟨?_, ?_, F⟩
          · intro f ts i rest h hf
            rw [eC] at h ⊢
            exact enc_at F h hf
          · intro f ts i rest h hnA hf
            rw [eA] at h ⊢
            have ha := enc_at (f := f) F h (by omega)
            have h0 : (kt ts).drop i = (5, [40]) :: (wk (tkT (.mk 4 n 0 0 [a, c]) ++ [[41]]) ++ rest) := by rw [h]; simp [brkW, wk, r40]
            unfold qType
            rw [(at_tok h0).1, if_neg (by decide), ha]
            rfl
      | false =>
        rw [ha] at hk
        simp only [Bool.false_eq_true, if_false] at hk
        have e1 : tkT (.mk 4 n 0 0 ts) = bl n :: tkA ts := by simp [tkT, ha]
        have eA : isArr (.mk 4 n 0 0 ts) = false := by simp [isArr, Ty.k, Ty.n, ha]
        have H : HeadOk (.mk 4 n 0 0 ts) := by
          intro f us i rest h hnA hf
          rw [eA, e1] at *
          simp only [brkW, Bool.false_eq_true, if_false] at h ⊢
          obtain ⟨k1, t1, d1, hlt⟩ := at_tok (k := rkind (bl n)) (x := bl n) (rest := wk (tkA ts) ++ rest) (by rw [h]; rfl)
          rw [rkind_up hk] at k1
          unfold qType
          rw [k1, t1, if_pos (by decide), args_ok ts (fun U hU => (ih' U hU).1) f us (i + 1) [] rest d1 hnA (by omega), ← mk_bl n]
          simp only [List.nil_append, List.length_cons]
          congr 1
          omega
        have F : TypeOk (.mk 4 n 0 0 ts) := by
          intro f us i rest h hnA hnR hf
          obtain ⟨f, rfl⟩ : ∃ g, f = g + 2 := ⟨f - 2, by omega⟩
          have h' : (kt us).drop i = wk (brkW (isArr (.mk 4 n 0 0 ts)) (tkT (.mk 4 n 0 0 ts))) ++ rest := by rw [eA]; exact h
          rw [H (f + 1) us i rest h' hnA (by omega)]
          have hd := drop_add h
          rw [wk_len] at hd
          unfold qArrow
          rw [eA]
          simp only [brkW, Bool.false_eq_true, if_false]
          rw [arrow_no hd hnR]
          rfl
        refine ⟨?_, H, F⟩
        intro f us i rest h hf
        cases hc : conArgs (.mk 4 n 0 0 ts) with
        | true =>
          rw [hc] at h
          exact enc_at F h hf
        | false =>
          rw [hc] at h
          simp only [brkW, Bool.false_eq_true, if_false] at h ⊢
          obtain rfl : ts = [] := by
            cases ts with
            | nil => rfl
            | cons t l => simp [conArgs, Ty.k, Ty.ts] at hc
          have e2 : tkT (.mk 4 n 0 0 []) = [bl n] := by rw [e1]; rfl
          rw [e2] at h ⊢
          obtain ⟨f, rfl⟩ : ∃ g, f = g + 1 := ⟨f - 1, by omega⟩
          obtain ⟨k1, t1, d1, hlt⟩ := at_tok (k := rkind (bl n)) (x := bl n) (rest := rest) (by rw [h]; rfl)
          rw [rkind_up hk] at k1
          unfold qAtom
          rw [k1, t1, if_neg (by decide), if_pos (by decide), ← mk_bl n]
          rfl
/-! Superfluous parentheses; lengths. -/
/-- These tokens are read as this type. -/
def ReadsT (ws : List (List UInt8)) (T : Ty) : Prop := ∀ f ts i rest, (kt ts).drop i = wk ws ++ rest → NoArg rest → NoArr rest → 3 * (ts.length - i) + 3 ≤ f → qType f ts i = some (.ok T (i + ws.length))
theorem encW {ws : List (List UInt8)} {T : Ty} (hT : ReadsT ws T) {f : Nat} {ts : List Tok} {i : Nat} {rest : List (Int × List UInt8)} (h : (kt ts).drop i = wk ([40] :: (ws ++ [[41]])) ++ rest) (hf : 3 * (ts.length - i) + 1 ≤ f) :
    qAtom f ts i = some (.ok T (i + ([40] :: (ws ++ [[41]])).length)) := by
  obtain ⟨f, rfl⟩ : ∃ g, f = g + 1 := ⟨f - 1, by omega⟩
  rw [wk_cons, wk_app, r40] at h
  have h0 : (kt ts).drop i = (5, [40]) :: (wk ws ++ ((5, [41]) :: rest)) := by rw [h]; simp [wk, r41]
  obtain ⟨k1, -, d1, hlt⟩ := at_tok h0
  unfold qAtom
  rw [k1, rMark_at h0]
  have hq := hT f ts (i + 1) _ d1 (noArg_mark (by decide)) (noArr_mark (by decide)) (by omega)
  rw [if_neg (by decide), if_neg (by decide), if_pos (by decide), hq]
  have d2 := drop_add d1
  rw [wk_len] at d2
  simp only [qEncl]
  rw [rMark_at d2, if_pos (by decide)]
  simp only [List.length_cons, List.length_append, List.length_nil]
  congr 2
  omega
theorem parW {ws : List (List UInt8)} {T : Ty} (hT : ReadsT ws T) : ReadsT ([40] :: (ws ++ [[41]])) T := by
  intro f ts i rest h hA hR hf
  obtain ⟨f, rfl⟩ : ∃ g, f = g + 2 := ⟨f - 2, by omega⟩
  have ha := encW (f := f + 1) hT h (by omega)
  have h0 : (kt ts).drop i = (5, [40]) :: (wk (ws ++ [[41]]) ++ rest) := by rw [h]; simp [wk, r40]
  have hd := drop_add h
  rw [wk_len] at hd
  unfold qType
  rw [(at_tok h0).1, if_neg (by decide), ha]
  dsimp only
  unfold qArrow
  rw [arrow_no hd hR]
  rfl
/-- The text in so many parentheses, and its tokens. -/
def parT : Nat → List UInt8 → List UInt8
  | 0, l => l
  | n + 1, l => 40 :: (parT n l ++ [41])
def parTk : Nat → List (List UInt8) → List (List UInt8)
  | 0, l => l
  | n + 1, l => [40] :: (parTk n l ++ [[41]])
theorem par_reads {T : Ty} {ws : List (List UInt8)} (h : ReadsT ws T) : ∀ n, ReadsT (parTk n ws) T
  | 0 => h
  | n + 1 => parW (par_reads h n)
theorem par_sc {l : List UInt8} {a : List (List UInt8)} (h : Sc l a) : ∀ n, Sc (parT n l) (parTk n a)
  | 0 => h
  | n + 1 => (Sc.par (par_sc h n)).sc
theorem parT_len (l : List UInt8) : ∀ n, (parT n l).length = l.length + 2 * n
  | 0 => rfl
  | n + 1 => by simp only [parT, List.length_cons, List.length_append, List.length_nil, parT_len l n]; omega
end Go.Proofs.Ytgfjcpeeoapjlaa

/- Plain facts: the maker's types are written types, how long their texts are, and what the package's reader returns at the tokens of these. -/
namespace Go.Proofs.Ytgfjcpeeoapjlaa
open Go.RowKit Go.Maps Mth

theorem src_of_valid : ∀ T : Ty, S3.valid T = true → wr T = true → src T = true := by
  refine tyInd fun T ih hv hw => ?_
  cases T with
  | mk k n i h ts =>
    simp only [wr, Bool.and_eq_true] at hw
    obtain ⟨⟨hk, -⟩, hl⟩ := hw
    have hsL : S3.validL ts = true → srcL ts = true := fun hvl => by
      have h1 : ∀ U ∈ ts, src U = true := fun U hU => ih U hU (S3.validL_mem hvl hU) (wrL_mem hl hU)
      clear ih hv hl hvl hk
      induction ts with
      | nil => rfl
      | cons t l ihl => simp only [srcL, Bool.and_eq_true]; exact ⟨h1 t (by simp), ihl fun U hU => h1 U (by simp [hU])⟩
    by_cases h5 : k = 5
    · subst h5
      simp only [S3.valid] at hv
      rw [if_neg (by decide), if_neg (by decide), if_neg (by decide), if_pos trivial] at hv
      simp only [Bool.and_eq_true, decide_eq_true_eq, beq_iff_eq] at hv
      obtain ⟨⟨⟨h1, rfl⟩, rfl⟩, h4⟩ := hv
      obtain rfl : ts = [] := List.eq_nil_of_length_eq_zero h4
      simp [src, srcL, h1]
    · have h4 : k = 4 := by
        simp only [Bool.or_eq_true, beq_iff_eq] at hk
        rcases hk with h | h
        · exact h
        · exact absurd h h5
      subst h4
      simp only [S3.valid] at hv
      rw [if_neg (by decide), if_neg (by decide), if_pos trivial] at hv
      simp only [Bool.and_eq_true, beq_iff_eq] at hv
      obtain ⟨⟨⟨rfl, rfl⟩, hc⟩, hvl⟩ := hv
      have hs := hsL hvl
      have e5 : ((4 : Int) == 5) = false := rfl
      have e4 : ((4 : Int) == 4) = true := rfl
      have e0 : ((0 : Int) == 0) = true := rfl
      simp only [src, hs, e5, e4, e0, Bool.true_and, Bool.and_true, Bool.false_eq_true, if_false]
      unfold S3.conOk at hc
      cases ha : n.toList == [45, 62] with
      | true => rw [ha] at hc; simpa using hc
      | false =>
        rw [ha] at hc
        simp only [Bool.false_eq_true, if_false] at hc ⊢
        cases hI : n.toList == [73, 110, 116] with
        | true =>
          have : bl n = [73, 110, 116] := by
            have := eq_of_beq hI
            rw [Lib.toList_data] at this
            exact this
          rw [this]
          decide
        | false =>
          rw [hI] at hc
          simp only [Bool.false_eq_true, if_false, Bool.and_eq_true] at hc
          exact hc.1
theorem shT_len6 : ∀ T, src T = true → wr T = true → (shT T).length ≤ 9 * nodes T := by
  have key : ∀ T, src T = true → wr T = true → (shT T).length + 3 ≤ 9 * nodes T := by
    refine tyInd fun T ih hs hw => ?_
    cases T with
    | mk k n i h ts =>
      simp only [src, Bool.and_eq_true] at hs
      simp only [wr, Bool.and_eq_true, decide_eq_true_eq] at hw
      obtain ⟨⟨-, hk⟩, hl⟩ := hs
      have ih' : ∀ U ∈ ts, (shT U).length + 3 ≤ 9 * nodes U := fun U hU => ih U hU (srcL_mem hl hU) (wrL_mem hw.2 hU)
      have hn : (bl n).length ≤ 6 := by rw [bl_len]; exact hw.1.2
      simp only [shT, nodes]
      cases h5 : k == 5 with
      | true => simp only [if_true]; omega
      | false =>
        rw [h5] at hk
        simp only [Bool.false_eq_true, if_false, Bool.and_eq_true] at hk ⊢
        cases ha : n.toList == [45, 62] with
        | true =>
          rw [ha] at hk
          simp only [if_true, beq_iff_eq] at hk ⊢
          match ts, hk.2 with
          | [a, c], _ =>
            have h1 := ih' a (by simp)
            have h2 := ih' c (by simp)
            have h3 := brk_len (isArr a) (shT a)
            simp only [shH, shB, nodesL, List.length_append, List.length_cons, List.length_nil]
            omega
        | false =>
          simp only [Bool.false_eq_true, if_false]
          have hA : ∀ l : List Ty, (∀ U ∈ l, (shT U).length + 3 ≤ 9 * nodes U) → (shA l).length ≤ 9 * nodesL l := by
            intro l
            induction l with
            | nil => intro _; simp [shA]
            | cons t l ihl =>
              intro hh
              have h1 := hh t (by simp)
              have h2 := ihl fun U hU => hh U (by simp [hU])
              have h3 := brk_len (conArgs t) (shT t)
              simp only [shA, nodesL, List.length_cons, List.length_append]
              omega
          have h2 := hA ts ih'
          rw [List.length_append]
          omega
  intro T h1 h2
  have := key T h1 h2
  omega
/-- The tokens of the canonical text, in so many parentheses. -/
theorem toks_of {T : Ty} (hs : src T = true) (hn : nodes T ≤ 31) {s : ByteArray} {m : Nat} (hm : m ≤ 5) (hb : bl s = parT m (shT T)) : kt (ftoks (bl s)) = wk (parTk m (tkT T)) := by
  have h1 := (par_sc (sc_T T hs) m).alone 0
  have h2 := shT_len2 T hs
  have h3 := parT_len (shT T) m
  unfold ftoks
  rw [hb, if_neg (by omega), h1.2]
  exact h1.1
theorem kt_len (l : List Tok) : (kt l).length = l.length := by simp [kt]
theorem start_zero (ts : List Tok) : startAt ts 0 = 0 := by unfold startAt; rw [if_neg (by omega)]; rfl
theorem kt_drop0 {ts : List Tok} {L : List (Int × List UInt8)} (h : kt ts = L) : (kt ts).drop 0 = L := h
theorem rdT_of {ts : List Tok} {T : Ty} {n : Nat} (h : qType (3 * ts.length + 3) ts 0 = some (.ok T n)) : rdT ts 0 = ⟨T, n, 0, 0⟩ := by
  unfold rdT; rw [start_zero, h]; rfl
theorem rdA_of {ts : List Tok} {T : Ty} {n : Nat} (h : qAtom (3 * ts.length + 3) ts 0 = some (.ok T n)) : rdA ts 0 = ⟨T, n, 0, 0⟩ := by
  unfold rdA; rw [start_zero, h]; rfl
/-- The whole text of a type. -/
theorem rdT_text {T : Ty} (hs : src T = true) {ts : List Tok} (h : kt ts = wk (tkT T)) : rdT ts 0 = ⟨T, ts.length, 0, 0⟩ := by
  have hl : ts.length = (tkT T).length := by rw [← kt_len ts, h, wk_len]
  have := (ty_ok T hs).2.2 (3 * ts.length + 3) ts 0 [] (by rw [List.append_nil]; exact h) noArg_nil noArr_nil (by omega)
  rw [rdT_of this, hl]
  simp
/-- With a semicolon behind it. -/
theorem rdT_behind {T : Ty} (hs : src T = true) {ts : List Tok} {rest : List (Int × List UInt8)} (h : kt ts = wk (tkT T) ++ ((5, [59]) :: rest)) : rdT ts 0 = ⟨T, (tkT T).length, 0, 0⟩ := by
  have := (ty_ok T hs).2.2 (3 * ts.length + 3) ts 0 _ (kt_drop0 h) (noArg_mark (by decide)) (noArr_mark (by decide)) (by omega)
  rw [rdT_of this]
  simp
theorem rdA_par {T : Ty} (hs : src T = true) {m : Nat} {ts : List Tok} (h : kt ts = wk (parTk (m + 1) (tkT T))) : rdA ts 0 = ⟨T, ts.length, 0, 0⟩ := by
  have hl : ts.length = (parTk (m + 1) (tkT T)).length := by rw [← kt_len ts, h, wk_len]
  have hr := par_reads (T := T) (ws := tkT T) (ty_ok T hs).2.2 m
  have := encW (f := 3 * ts.length + 3) (ts := ts) (i := 0) (rest := []) hr (by rw [List.append_nil]; exact h) (by omega)
  rw [rdA_of this, hl]
  simp [parTk]
end Go.Proofs.Ytgfjcpeeoapjlaa
