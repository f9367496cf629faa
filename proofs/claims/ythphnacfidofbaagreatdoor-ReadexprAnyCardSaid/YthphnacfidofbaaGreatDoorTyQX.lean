/- Plain facts: the two readings find the same; each ends; the tokens of a text are valid. -/
import Derived.Test.YthphnacfidofbaaGreatDoorTyPkMb
import Derived.Test.YthphnacfidofbaaGreatDoorTyXAtom
import Derived.Test.YthphnacfidofbaaGreatDoorTyEqMa
namespace Go.Proofs.YthphnacfidofbaaGreatDoor
open Go.RowKit Go.Maps Mth

/-- The tokens are valid: each has the kind of its text. -/
def TkVal (ts : List Tok) : Prop := ∀ t ∈ ts, rkind t.text = t.kind
theorem rIs_mark {ts : List Tok} (hv : TkVal ts) (i : Nat) {s : ByteArray} (hs : rkind (bl s) = 5) : rIs ts i s = rMark ts i s := by
  unfold rIs rMark tkK txt
  cases ht : ts[i]? with
  | none => rfl
  | some t =>
    simp only
    have hk := hv t (List.mem_of_getElem? ht)
    cases hq : ((⟨t.text.toArray⟩ : ByteArray).toList == s.toList) with
    | false => simp
    | true =>
      have e : bl (⟨t.text.toArray⟩ : ByteArray) = bl s := by
        have := eq_of_beq hq
        rw [Lib.toList_data, Lib.toList_data] at this
        exact this
      rw [bl_mk] at e
      rw [e, hs] at hk
      rw [← hk]
      rfl
theorem rKind_K {ts : List Tok} (i : Nat) {k : Int} (hk : k ≠ 0) : rKind ts i k = (tkK ts i == k) := by
  unfold rKind tkK
  cases ts[i]? with
  | none => simp [Ne.symm hk]
  | some t => rfl
theorem m40 : rkind (bl ⟨#[40]⟩) = 5 := by decide +kernel
theorem m41 : rkind (bl ⟨#[41]⟩) = 5 := by decide +kernel
theorem mAr : rkind (bl ⟨#[45, 62]⟩) = 5 := by decide +kernel

def RX (ts : List Tok) : PR → Ty × St → Prop
  | .ok T j, x => x = (T, ⟨j, false, 0⟩)
  | .bad p, x => x.2.bad = true ∧ x.2.p = posAt ts p
def RXL (ts : List Tok) : PL → List Ty × St → Prop
  | .ok l j, x => x = (l, ⟨j, false, 0⟩)
  | .bad p, x => x.2.bad = true ∧ x.2.p = posAt ts p
theorem xarrow_bad (f : Nat) (ts : List Tok) (s : St) (a : Ty) (h : s.bad = true) : xArrow (f + 1) ts s a = some (a, s) := by
  unfold xArrow xI; simp [h]
theorem xargs_bad (f : Nat) (ts : List Tok) (s : St) (acc : List Ty) (h : s.bad = true) : xArgs (f + 1) ts s acc = some (acc, s) := by
  unfold xArgs xI xK; simp [h]
theorem xneed_bad (ts : List Tok) (s : St) (t : ByteArray) (h : s.bad = true) : xNeed ts s t = s := by
  unfold xNeed xI xFail; simp [h]

theorem same_all (ts : List Tok) (hv : TkVal ts) : ∀ f,
    (∀ i R, qAtom f ts i = some R → ∃ x, xAtom f ts ⟨i, false, 0⟩ = some x ∧ RX ts R x) ∧
    (∀ i R, qType f ts i = some R → ∃ x, xType f ts ⟨i, false, 0⟩ = some x ∧ RX ts R x) ∧
    (∀ i a R, qArrow f ts i a = some R → ∃ x, xArrow f ts ⟨i, false, 0⟩ a = some x ∧ RX ts R x) ∧
    (∀ i acc L, qArgs f ts i acc = some L → ∃ x, xArgs f ts ⟨i, false, 0⟩ acc = some x ∧ RXL ts L x) := by
  intro f
  induction f with
  | zero => exact ⟨fun i R h => by simp [qAtom] at h, fun i R h => by simp [qType] at h, fun i a R h => by simp [qArrow] at h, fun i acc L h => by simp [qArgs] at h⟩
  | succ f ih =>
    obtain ⟨hA, hT, hW, hG⟩ := ih
    have k1 : ∀ i, xK ts ⟨i, false, 0⟩ 1 = (tkK ts i == 1) := fun i => by unfold xK; simp [rKind_K i (k := 1) (by decide)]
    have k2 : ∀ i, xK ts ⟨i, false, 0⟩ 2 = (tkK ts i == 2) := fun i => by unfold xK; simp [rKind_K i (k := 2) (by decide)]
    have i40 : ∀ i, xI ts ⟨i, false, 0⟩ ⟨#[40]⟩ = rMark ts i ⟨#[40]⟩ := fun i => by unfold xI; simp [rIs_mark hv i m40]
    have i41 : ∀ i, xI ts ⟨i, false, 0⟩ ⟨#[41]⟩ = rMark ts i ⟨#[41]⟩ := fun i => by unfold xI; simp [rIs_mark hv i m41]
    have iAr : ∀ i, xI ts ⟨i, false, 0⟩ ⟨#[45, 62]⟩ = rMark ts i ⟨#[45, 62]⟩ := fun i => by unfold xI; simp [rIs_mark hv i mAr]
    have hpos : ∀ g, qAtom g ts = qAtom g ts := fun _ => rfl
    refine ⟨fun i R h => ?_, fun i R h => ?_, fun i a R h => ?_, fun i acc L h => ?_⟩
    · unfold qAtom at h
      unfold xAtom
      rw [k1, k2]
      cases h1 : (tkK ts i == 1) with
      | true =>
        rw [h1] at h
        simp only [if_true, Option.some.injEq] at h
        subst h
        exact ⟨_, rfl, rfl⟩
      | false =>
        rw [h1] at h
        simp only [Bool.false_eq_true, if_false] at h ⊢
        cases h2 : (tkK ts i == 2) with
        | true =>
          rw [h2] at h
          simp only [if_true, Option.some.injEq] at h
          subst h
          exact ⟨_, rfl, rfl⟩
        | false =>
          rw [h2] at h
          simp only [Bool.false_eq_true, if_false] at h ⊢
          cases h3 : rMark ts i ⟨#[40]⟩ with
          | false =>
            rw [h3] at h
            simp only [Bool.false_eq_true, if_false, Option.some.injEq] at h
            subst h
            have e : xNeed ts ⟨i, false, 0⟩ ⟨#[40]⟩ = ⟨i, true, posAt ts i⟩ := by unfold xNeed xFail; rw [i40, h3]; rfl
            rw [e]
            exact ⟨_, rfl, rfl, rfl⟩
          | true =>
            rw [h3] at h
            simp only [if_true] at h
            have e : xNeed ts ⟨i, false, 0⟩ ⟨#[40]⟩ = ⟨i + 1, false, 0⟩ := by unfold xNeed xStep; rw [i40, h3]; rfl
            rw [e]
            cases h4 : qType f ts (i + 1) with
            | none => rw [h4] at h; simp [qEncl] at h
            | some r =>
              rw [h4] at h
              obtain ⟨x, hx, hr⟩ := hT (i + 1) r h4
              obtain ⟨xt, xs⟩ := x
              rw [hx]
              cases r with
              | bad p =>
                simp only [qEncl, Option.some.injEq] at h
                subst h
                obtain ⟨hb, hp⟩ := hr
                refine ⟨_, rfl, ?_⟩
                dsimp only at hb hp
                rw [xneed_bad _ _ _ hb]
                exact ⟨hb, hp⟩
              | ok T j =>
                obtain ⟨rfl, rfl⟩ : xt = T ∧ xs = ⟨j, false, 0⟩ := by have : (xt, xs) = (T, (⟨j, false, 0⟩ : St)) := hr; simpa using this
                simp only [qEncl] at h
                cases h5 : rMark ts j ⟨#[41]⟩ with
                | true =>
                  rw [h5] at h
                  simp only [if_true, Option.some.injEq] at h
                  subst h
                  refine ⟨_, rfl, ?_⟩
                  show (_, xNeed ts ⟨j, false, 0⟩ ⟨#[41]⟩) = _
                  unfold xNeed xStep; rw [i41, h5]; rfl
                | false =>
                  rw [h5] at h
                  simp only [Bool.false_eq_true, if_false, Option.some.injEq] at h
                  subst h
                  refine ⟨_, rfl, ?_⟩
                  have e : xNeed ts ⟨j, false, 0⟩ ⟨#[41]⟩ = ⟨j, true, posAt ts j⟩ := by unfold xNeed xFail; rw [i41, h5]; rfl
                  show (xNeed ts ⟨j, false, 0⟩ ⟨#[41]⟩).bad = true ∧ (xNeed ts ⟨j, false, 0⟩ ⟨#[41]⟩).p = posAt ts j
                  rw [e]
                  exact ⟨rfl, rfl⟩
    · unfold qType at h
      unfold xType
      rw [k2]
      cases h2 : (tkK ts i == 2) with
      | true =>
        rw [h2] at h
        simp only [if_true] at h ⊢
        cases h3 : qArgs f ts (i + 1) [] with
        | none => rw [h3] at h; simp at h
        | some L =>
          rw [h3] at h
          obtain ⟨x, hx, hr⟩ := hG (i + 1) [] L h3
          obtain ⟨xl, xs⟩ := x
          have e : xStep ⟨i, false, 0⟩ = ⟨i + 1, false, 0⟩ := rfl
          rw [e, hx]
          cases L with
          | bad p =>
            simp only [Option.some.injEq] at h
            subst h
            obtain ⟨hb, hp⟩ := hr
            dsimp only at hb hp ⊢
            cases f with
            | zero => simp [qArgs] at h3
            | succ f => rw [xarrow_bad _ _ _ _ hb]; exact ⟨_, rfl, hb, hp⟩
          | ok l j =>
            obtain ⟨rfl, rfl⟩ : xl = l ∧ xs = ⟨j, false, 0⟩ := by have : (xl, xs) = (l, (⟨j, false, 0⟩ : St)) := hr; simpa using this
            exact hW j _ R h
      | false =>
        rw [h2] at h
        simp only [Bool.false_eq_true, if_false] at h ⊢
        cases h3 : qAtom f ts i with
        | none => rw [h3] at h; simp at h
        | some r =>
          rw [h3] at h
          obtain ⟨x, hx, hr⟩ := hA i r h3
          obtain ⟨xt, xs⟩ := x
          rw [hx]
          cases r with
          | bad p =>
            simp only [Option.some.injEq] at h
            subst h
            obtain ⟨hb, hp⟩ := hr
            dsimp only at hb hp ⊢
            cases f with
            | zero => simp [qAtom] at h3
            | succ f => rw [xarrow_bad _ _ _ _ hb]; exact ⟨_, rfl, hb, hp⟩
          | ok T j =>
            obtain ⟨rfl, rfl⟩ : xt = T ∧ xs = ⟨j, false, 0⟩ := by have : (xt, xs) = (T, (⟨j, false, 0⟩ : St)) := hr; simpa using this
            exact hW j _ R h
    · unfold qArrow at h
      unfold xArrow
      rw [iAr]
      cases h1 : rMark ts i ⟨#[45, 62]⟩ with
      | false =>
        rw [h1] at h
        simp only [Bool.false_eq_true, if_false, Option.some.injEq] at h ⊢
        subst h
        exact ⟨_, rfl, rfl⟩
      | true =>
        rw [h1] at h
        simp only [if_true] at h ⊢
        have e : xSkip ts ⟨i, false, 0⟩ ⟨#[45, 62]⟩ = ⟨i + 1, false, 0⟩ := by unfold xSkip xStep; rw [iAr, h1]; rfl
        rw [e]
        cases h3 : qType f ts (i + 1) with
        | none => rw [h3] at h; simp at h
        | some r =>
          rw [h3] at h
          obtain ⟨x, hx, hr⟩ := hT (i + 1) r h3
          obtain ⟨xt, xs⟩ := x
          rw [hx]
          cases r with
          | bad p =>
            simp only [Option.some.injEq] at h
            subst h
            obtain ⟨hb, hp⟩ := hr
            exact ⟨_, rfl, hb, hp⟩
          | ok T j =>
            obtain ⟨rfl, rfl⟩ : xt = T ∧ xs = ⟨j, false, 0⟩ := by have : (xt, xs) = (T, (⟨j, false, 0⟩ : St)) := hr; simpa using this
            simp only [Option.some.injEq] at h
            subst h
            exact ⟨_, rfl, rfl⟩
    · unfold qArgs at h
      unfold xArgs
      have e : (xK ts ⟨i, false, 0⟩ 1 || xK ts ⟨i, false, 0⟩ 2 || xI ts ⟨i, false, 0⟩ ⟨#[40]⟩) = rStart ts i := by rw [k1, k2, i40]; rfl
      rw [e]
      cases h1 : rStart ts i with
      | false =>
        rw [h1] at h
        simp only [Bool.false_eq_true, if_false, Option.some.injEq] at h ⊢
        subst h
        exact ⟨_, rfl, rfl⟩
      | true =>
        rw [h1] at h
        simp only [if_true] at h ⊢
        cases h3 : qAtom f ts i with
        | none => rw [h3] at h; simp at h
        | some r =>
          rw [h3] at h
          obtain ⟨x, hx, hr⟩ := hA i r h3
          obtain ⟨xt, xs⟩ := x
          rw [hx]
          cases r with
          | bad p =>
            simp only [Option.some.injEq] at h
            subst h
            obtain ⟨hb, hp⟩ := hr
            dsimp only at hb hp ⊢
            cases f with
            | zero => simp [qAtom] at h3
            | succ f => rw [xargs_bad _ _ _ _ hb]; exact ⟨_, rfl, hb, hp⟩
          | ok T j =>
            obtain ⟨rfl, rfl⟩ : xt = T ∧ xs = ⟨j, false, 0⟩ := by have : (xt, xs) = (T, (⟨j, false, 0⟩ : St)) := hr; simpa using this
            exact hG j _ L h

theorem goes_all (ts : List Tok) : ∀ f,
    (∀ i T j, qAtom f ts i = some (.ok T j) → i < j ∧ j ≤ ts.length) ∧
    (∀ i T j, qType f ts i = some (.ok T j) → i < j ∧ j ≤ ts.length) ∧
    (∀ i a T j, i ≤ ts.length → qArrow f ts i a = some (.ok T j) → i ≤ j ∧ j ≤ ts.length) ∧
    (∀ i acc l j, i ≤ ts.length → qArgs f ts i acc = some (.ok l j) → i ≤ j ∧ j ≤ ts.length) := by
  intro f
  induction f with
  | zero => exact ⟨fun i T j h => by simp [qAtom] at h, fun i T j h => by simp [qType] at h, fun i a T j _ h => by simp [qArrow] at h, fun i acc l j _ h => by simp [qArgs] at h⟩
  | succ f ih =>
    obtain ⟨hA, hT, hW, hG⟩ := ih
    refine ⟨fun i T j h => ?_, fun i T j h => ?_, fun i a T j hi h => ?_, fun i acc l j hi h => ?_⟩
    · unfold qAtom at h
      by_cases h1 : (tkK ts i == 1) = true
      · rw [if_pos h1] at h
        have := tkK_lt (ts := ts) (i := i) (by simp at h1; omega)
        simp at h; omega
      · rw [if_neg h1] at h
        by_cases h2 : (tkK ts i == 2) = true
        · rw [if_pos h2] at h
          have := tkK_lt (ts := ts) (i := i) (by simp at h2; omega)
          simp at h; omega
        · rw [if_neg h2] at h
          by_cases h3 : rMark ts i ⟨#[40]⟩ = true
          · rw [if_pos h3] at h
            cases h4 : qType f ts (i + 1) with
            | none => rw [h4] at h; simp [qEncl] at h
            | some r =>
              rw [h4] at h
              cases r with
              | bad p => simp [qEncl] at h
              | ok U k =>
                obtain ⟨g1, g2⟩ := hT (i + 1) U k h4
                simp only [qEncl] at h
                by_cases h5 : rMark ts k ⟨#[41]⟩ = true
                · rw [if_pos h5] at h
                  have := rMark_lt h5
                  simp at h; omega
                · rw [if_neg h5] at h; simp at h
          · rw [if_neg h3] at h; simp at h
    · rw [qtype_app] at h
      cases ha : qApp f ts i with
      | none => rw [ha] at h; simp at h
      | some r =>
        rw [ha] at h
        cases r with
        | bad p => simp at h
        | ok U k =>
          have hk : i < k ∧ k ≤ ts.length := by
            rcases qapp_cases ha with ⟨h2, L, hL, hR⟩ | ⟨h2, hq⟩
            · have := tkK_lt (ts := ts) (i := i) (by simp at h2; omega)
              cases L with
              | bad p => cases hR
              | ok l m => cases hR; have := hG (i + 1) [] l k (by omega) hL; omega
            · exact hA i U k hq
          have := hW k U T j hk.2 h
          omega
    · rcases qarrow_cases h with ⟨_, hR⟩ | ⟨hm, g', hg, hc⟩
      · cases hR; omega
      · rcases hc with ⟨p, _, hR⟩ | ⟨U, k, hU, hR⟩
        · cases hR
        · cases hR
          obtain rfl : f = g' := by omega
          have := hT (i + 1) U j hU
          omega
    · rcases qargs_cases h with ⟨_, hR⟩ | ⟨hm, g', hg, hc⟩
      · cases hR; omega
      · rcases hc with ⟨p, _, hR⟩ | ⟨V, q, hV, hrest⟩
        · cases hR
        · obtain rfl : f = g' := by omega
          have h1 := hA i V q hV
          have h2 := hG q _ l j h1.2 hrest
          omega
theorem ends_all (ts : List Tok) : ∀ f,
    (∀ i, i ≤ ts.length → 3 * (ts.length - i) + 1 ≤ f → ∃ R, qAtom f ts i = some R) ∧
    (∀ i, i ≤ ts.length → 3 * (ts.length - i) + 3 ≤ f → ∃ R, qType f ts i = some R) ∧
    (∀ i a, i ≤ ts.length → 3 * (ts.length - i) + 1 ≤ f → ∃ R, qArrow f ts i a = some R) ∧
    (∀ i acc, i ≤ ts.length → 3 * (ts.length - i) + 2 ≤ f → ∃ L, qArgs f ts i acc = some L) := by
  intro f
  induction f with
  | zero => exact ⟨fun i _ h => by omega, fun i _ h => by omega, fun i a _ h => by omega, fun i acc _ h => by omega⟩
  | succ f ih =>
    obtain ⟨hA, hT, hW, hG⟩ := ih
    obtain ⟨gA, gT, gW, gG⟩ := goes_all ts f
    refine ⟨fun i hi h => ?_, fun i hi h => ?_, fun i a hi h => ?_, fun i acc hi h => ?_⟩
    · unfold qAtom
      by_cases h1 : (tkK ts i == 1) = true
      · rw [if_pos h1]; exact ⟨_, rfl⟩
      · rw [if_neg h1]
        by_cases h2 : (tkK ts i == 2) = true
        · rw [if_pos h2]; exact ⟨_, rfl⟩
        · rw [if_neg h2]
          by_cases h3 : rMark ts i ⟨#[40]⟩ = true
          · rw [if_pos h3]
            have hlt := rMark_lt h3
            obtain ⟨R, hR⟩ := hT (i + 1) (by omega) (by omega)
            rw [hR]
            cases R with
            | bad p => exact ⟨_, rfl⟩
            | ok T j =>
              simp only [qEncl]
              by_cases h5 : rMark ts j ⟨#[41]⟩ = true
              · rw [if_pos h5]; exact ⟨_, rfl⟩
              · rw [if_neg h5]; exact ⟨_, rfl⟩
          · rw [if_neg h3]; exact ⟨_, rfl⟩
    · unfold qType
      by_cases h2 : (tkK ts i == 2) = true
      · rw [if_pos h2]
        have hlt := tkK_lt (ts := ts) (i := i) (by simp at h2; omega)
        obtain ⟨L, hL⟩ := hG (i + 1) [] (by omega) (by omega)
        rw [hL]
        cases L with
        | bad p => exact ⟨_, rfl⟩
        | ok l j =>
          have := gG (i + 1) [] l j (by omega) hL
          exact hW j _ this.2 (by omega)
      · rw [if_neg h2]
        obtain ⟨R, hR⟩ := hA i hi (by omega)
        rw [hR]
        cases R with
        | bad p => exact ⟨_, rfl⟩
        | ok T j =>
          have := gA i T j hR
          exact hW j _ this.2 (by omega)
    · unfold qArrow
      by_cases h2 : rMark ts i ⟨#[45, 62]⟩ = true
      · rw [if_pos h2]
        have hlt := rMark_lt h2
        obtain ⟨R, hR⟩ := hT (i + 1) (by omega) (by omega)
        rw [hR]
        cases R with
        | bad p => exact ⟨_, rfl⟩
        | ok T j => exact ⟨_, rfl⟩
      · rw [if_neg h2]; exact ⟨_, rfl⟩
    · unfold qArgs
      by_cases h2 : rStart ts i = true
      · rw [if_pos h2]
        obtain ⟨R, hR⟩ := hA i hi (by omega)
        rw [hR]
        cases R with
        | bad p => exact ⟨_, rfl⟩
        | ok T j =>
          have := gA i T j hR
          exact hG j _ this.2 (by omega)
      · rw [if_neg h2]; exact ⟨_, rfl⟩

theorem stp_kind (l : List UInt8) (h0 : (stp l).1 ≠ 0) (h1 : (stp l).1 ≠ -1) : rkind (l.take (stp l).2) = (stp l).1 := by
  cases l with
  | nil => exact absurd rfl h0
  | cons c r =>
    by_cases hc : c = 35
    · exfalso; apply h1; simp [stp, hc]
    · by_cases hw : wht c = true
      · exfalso; apply h1; simp [stp, hc, hw]
      · obtain ⟨e1, e2⟩ := stp_ref (r := r) hc (by simpa using hw)
        rw [e1] at h0
        rw [e2 h0]; exact e1.symm
theorem sc_val : ∀ (n : Nat) (l : List UInt8) (p : Nat), l.length ≤ n → ∀ t ∈ (sc l p).1, rkind t.text = t.kind ∧ t.text.length ≤ l.length ∧ t.pos ≤ p + l.length := by
  intro n
  induction n with
  | zero =>
    intro l p hl t ht
    have : l = [] := List.eq_nil_of_length_eq_zero (by omega)
    subst this
    simp [sc_nil] at ht
  | succ n ih =>
    intro l p hl t ht
    by_cases hn : l = []
    · subst hn; simp [sc_nil] at ht
    · by_cases h0 : (stp l).1 = 0
      · rw [sc_err p hn h0] at ht; simp at ht
      · obtain ⟨s1, s2⟩ := stp_le l h0
        have hd : (l.drop (stp l).2).length ≤ n := by rw [List.length_drop]; omega
        by_cases h1 : (stp l).1 = -1
        · rw [sc_blank p h1] at ht
          obtain ⟨a, b, c⟩ := ih _ _ hd t ht
          rw [List.length_drop] at b c
          exact ⟨a, by omega, by omega⟩
        · rw [sc_tok p h0 h1] at ht
          simp only [List.mem_cons] at ht
          rcases ht with rfl | ht
          · refine ⟨stp_kind l h0 h1, ?_, ?_⟩
            · simp; omega
            · dsimp only; omega
          · obtain ⟨a, b, c⟩ := ih _ _ hd t ht
            rw [List.length_drop] at b c
            exact ⟨a, by omega, by omega⟩
theorem sc_len : ∀ (n : Nat) (l : List UInt8) (p : Nat), l.length ≤ n → (sc l p).1.length ≤ l.length := by
  intro n
  induction n with
  | zero =>
    intro l p hl
    have : l = [] := List.eq_nil_of_length_eq_zero (by omega)
    subst this
    simp [sc_nil]
  | succ n ih =>
    intro l p hl
    by_cases hn : l = []
    · subst hn; simp [sc_nil]
    · by_cases h0 : (stp l).1 = 0
      · rw [sc_err p hn h0]; simp
      · obtain ⟨s1, s2⟩ := stp_le l h0
        have hd : (l.drop (stp l).2).length ≤ n := by rw [List.length_drop]; omega
        by_cases h1 : (stp l).1 = -1
        · rw [sc_blank p h1]
          have := ih _ (p + (stp l).2) hd
          rw [List.length_drop] at this
          omega
        · rw [sc_tok p h0 h1]
          have := ih _ (p + (stp l).2) hd
          rw [List.length_drop] at this
          simp; omega
theorem ftoks_ok (l : List UInt8) : TkOk (ftoks l) ∧ TkVal (ftoks l) := by
  unfold ftoks
  split
  · exact ⟨⟨by simp, fun t h => by simp at h⟩, fun t h => by simp at h⟩
  · rename_i hl
    split
    · refine ⟨⟨?_, fun t h => ?_⟩, fun t h => ?_⟩
      · have := sc_len _ l 0 (Nat.le_refl _); omega
      · have := sc_val _ l 0 (Nat.le_refl _) t h; omega
      · exact (sc_val _ l 0 (Nat.le_refl _) t h).1
    · exact ⟨⟨by simp, fun t h => by simp at h⟩, fun t h => by simp at h⟩
end Go.Proofs.YthphnacfidofbaaGreatDoor
