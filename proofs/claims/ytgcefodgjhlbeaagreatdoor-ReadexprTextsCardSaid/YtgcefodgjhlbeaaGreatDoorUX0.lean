import Derived.Test.YtgcefodgjhlbeaaGreatDoorUB5
namespace Go.Proofs.YtgcefodgjhlbeaaGreatDoor
open Go.RowKit Go.Maps Mth

def zW (ts : List Tok) (s : St) (k : Int) : ByteArray := if xK ts s k then txt ts s.i else ⟨#[]⟩
def zWs (ts : List Tok) (s : St) (k : Int) : St := if xK ts s k then xStep s else xFail ts s
mutual
def zRead : Nat → List Tok → St → Option (Ex × St)
 | 0, _, _ => none
 | f + 1, ts, s =>
  if xI ts s ⟨#[92]⟩ then zFun f ts s
  else if xI ts s ⟨#[108, 101, 116]⟩ then zLoc f ts s
  else if xI ts s ⟨#[99, 97, 115, 101]⟩ then zCas f ts (xStep s) (tkP ts s.i)
  else zApp f ts s
def zFun : Nat → List Tok → St → Option (Ex × St)
 | 0, _, _ => none
 | f + 1, ts, s =>
  if (xNeed ts (zWs ts (xStep s) 1) ⟨#[46]⟩).bad then some (zEx, xNeed ts (zWs ts (xStep s) 1) ⟨#[46]⟩)
  else
   match zRead f ts (xNeed ts (zWs ts (xStep s) 1) ⟨#[46]⟩) with
   | some (a, s') => some (.mk 4 (tkP ts s.i) (zW ts (xStep s) 1) 0 zTy [a] [], s')
   | none => none
def zLoc : Nat → List Tok → St → Option (Ex × St)
 | 0, _, _ => none
 | f + 1, ts, s =>
  zLoc2 f ts (if xI ts (xStep s) ⟨#[114, 101, 99]⟩ then 7 else 6) (tkP ts s.i) (xSkip ts (xStep s) ⟨#[114, 101, 99]⟩)
def zLoc2 : Nat → List Tok → Int → Int → St → Option (Ex × St)
 | 0, _, _, _, _ => none
 | f + 1, ts, k, p, s =>
  if (xNeed ts (zWs ts s 1) ⟨#[61]⟩).bad then some (zEx, xNeed ts (zWs ts s 1) ⟨#[61]⟩)
  else
   match zRead f ts (xNeed ts (zWs ts s 1) ⟨#[61]⟩) with
   | some (a, s1) =>
    if (xNeed ts s1 ⟨#[105, 110]⟩).bad then some (zEx, xNeed ts s1 ⟨#[105, 110]⟩)
    else
     match zRead f ts (xNeed ts s1 ⟨#[105, 110]⟩) with
     | some (c, s2) => some (.mk k p (zW ts s 1) 0 zTy [a, c] [], s2)
     | none => none
   | none => none
def zCas : Nat → List Tok → St → Int → Option (Ex × St)
 | 0, _, _, _ => none
 | f + 1, ts, s, p =>
  match zRead f ts s with
  | some (a, s1) =>
   match zArm f ts (xNeed ts s1 ⟨#[111, 102]⟩) with
   | some (some A, s2) => zArms f ts s2 p a [A]
   | some (none, s2) => some (zEx, s2)
   | none => none
  | none => none
def zArms : Nat → List Tok → St → Int → Ex → List (AH × Ex) → Option (Ex × St)
 | 0, _, _, _, _, _ => none
 | f + 1, ts, s, p, a, acc =>
  if xI ts s ⟨#[124]⟩ then
   match zArm f ts (xStep s) with
   | some (some A, s2) => zArms f ts s2 p a (acc ++ [A])
   | some (none, s2) => some (zEx, s2)
   | none => none
  else some (.mk 8 p ⟨#[]⟩ 0 zTy [a] acc, xNeed ts s ⟨#[101, 110, 100]⟩)
def zArm : Nat → List Tok → St → Option (Option (AH × Ex) × St)
 | 0, _, _ => none
 | f + 1, ts, s =>
  match yVars f ts (zWs ts s 2) [] with
  | some (vs, s1) =>
   if (xNeed ts s1 ⟨#[46]⟩).bad then some (none, xNeed ts s1 ⟨#[46]⟩)
   else
    match zRead f ts (xNeed ts s1 ⟨#[46]⟩) with
    | some (c, s2) => some (some (⟨tkP ts s.i, zW ts s 2, vs⟩, c), s2)
    | none => none
  | none => none
def zApp : Nat → List Tok → St → Option (Ex × St)
 | 0, _, _ => none
 | f + 1, ts, s =>
  match zAtom f ts s with
  | some (e, s') => zApps f ts s' e
  | none => none
def zApps : Nat → List Tok → St → Ex → Option (Ex × St)
 | 0, _, _, _ => none
 | f + 1, ts, s, e =>
  if stB (yK ts s) (yT ts s) then
   match zAtom f ts s with
   | some (a, s') => zApps f ts s' (.mk 5 e.p ⟨#[]⟩ 0 zTy [e, a] [])
   | none => none
  else some (e, s)
def zAtom : Nat → List Tok → St → Option (Ex × St)
 | 0, _, _ => none
 | f + 1, ts, s =>
  if xK ts s 1 then some (.mk 1 (tkP ts s.i) (txt ts s.i) 0 zTy [] [], xStep s)
  else if xK ts s 2 then some (.mk 2 (tkP ts s.i) (txt ts s.i) 0 zTy [] [], xStep s)
  else if xK ts s 3 then some (.mk 3 (tkP ts s.i) ⟨#[]⟩ (numB (txt ts s.i)) zTy [] [], xStep s)
  else if xI ts s ⟨#[63]⟩ then some (.mk 10 (tkP ts s.i) ⟨#[]⟩ 0 zTy [] [], xStep s)
  else if xI ts s ⟨#[123]⟩ then zHeld f ts (xStep s) (tkP ts s.i)
  else if (xNeed ts s ⟨#[40]⟩).bad then some (zEx, xNeed ts s ⟨#[40]⟩)
  else zEnc f ts (xNeed ts s ⟨#[40]⟩) (tkP ts s.i)
def zEnc : Nat → List Tok → St → Int → Option (Ex × St)
 | 0, _, _, _ => none
 | f + 1, ts, s, p =>
  match zRead f ts s with
  | some (e, s1) =>
   if xI ts s1 ⟨#[58]⟩ then
    match xType (3 * ts.length + 3) ts (xStep s1) with
    | some (t, s2) => some (.mk 9 p ⟨#[]⟩ 0 t [e] [], xNeed ts s2 ⟨#[41]⟩)
    | none => none
   else some (e, xNeed ts s1 ⟨#[41]⟩)
  | none => none
def zHeld : Nat → List Tok → St → Int → Option (Ex × St)
 | 0, _, _, _ => none
 | f + 1, ts, s, p =>
  match zRead f ts s with
  | some (e, s1) => some (.mk 11 p ⟨#[]⟩ 0 zTy [e] [], xNeed ts s1 ⟨#[125]⟩)
  | none => none
end
theorem yK_eq (ts : List Tok) (s : St) {k : Int} (hk : k ≠ 0) : (yK ts s == k) = xK ts s k := by
 obtain ⟨i, q, p⟩ := s
 unfold yK xK
 cases q
 ·simp [rKind_K i hk]
 ·simp [Ne.symm hk]
theorem yM_eq {ts : List Tok} (hv : TkVal ts) (s : St) {t : ByteArray} (ht : rkind (bl t) = 5) : yM ts s t = xI ts s t := by
 obtain ⟨i, q, p⟩ := s
 unfold yM xI yK yT
 cases q
 ·simp only [Bool.false_eq_true, if_false, Bool.not_false, Bool.true_and]
  rw [rIs_mark hv i ht]; rfl
 ·simp
theorem rIs_word {ts : List Tok} (hv : TkVal ts) (i : Nat) {s : ByteArray} (hs : rkind (bl s) = 4) : rIs ts i s = (tkK ts i == 4 && (txt ts i).toList == s.toList) := by
 unfold rIs tkK txt
 cases ht : ts[i]? with
 | none => rfl
 | some t =>
  simp only
  have hk := hv t (List.mem_of_getElem? ht)
  cases hq : ((⟨t.text.toArray⟩ : ByteArray).toList == s.toList) with
  | false => simp
  | true =>
   have e : bl (⟨t.text.toArray⟩ : ByteArray) = bl s := by
    have := eq_of_beq hq
    rw [Lib.toList_data, Lib.toList_data] at this
    exact this
   rw [bl_mk] at e
   rw [e, hs] at hk
   rw [← hk]
   rfl
theorem yW_eq {ts : List Tok} (hv : TkVal ts) (s : St) {t : ByteArray} (ht : rkind (bl t) = 4) : yW ts s t = xI ts s t := by
 obtain ⟨i, q, p⟩ := s
 unfold yW xI yK yT
 cases q
 ·simp only [Bool.false_eq_true, if_false, Bool.not_false, Bool.true_and]
  rw [rIs_word hv i ht]
 ·simp
theorem k46 : rkind (bl ⟨#[46]⟩) = 5 := by decide +kernel
theorem k61 : rkind (bl ⟨#[61]⟩) = 5 := by decide +kernel
theorem k92 : rkind (bl ⟨#[92]⟩) = 5 := by decide +kernel
theorem k58 : rkind (bl ⟨#[58]⟩) = 5 := by decide +kernel
theorem k63 : rkind (bl ⟨#[63]⟩) = 5 := by decide +kernel
theorem k123 : rkind (bl ⟨#[123]⟩) = 5 := by decide +kernel
theorem k125 : rkind (bl ⟨#[125]⟩) = 5 := by decide +kernel
theorem k124 : rkind (bl ⟨#[124]⟩) = 5 := by decide +kernel
theorem kLet : rkind (bl ⟨#[108, 101, 116]⟩) = 4 := by decide +kernel
theorem kRec : rkind (bl ⟨#[114, 101, 99]⟩) = 4 := by decide +kernel
theorem kIn : rkind (bl ⟨#[105, 110]⟩) = 4 := by decide +kernel
theorem kCase : rkind (bl ⟨#[99, 97, 115, 101]⟩) = 4 := by decide +kernel
theorem kOf : rkind (bl ⟨#[111, 102]⟩) = 4 := by decide +kernel
theorem kEnd : rkind (bl ⟨#[101, 110, 100]⟩) = 4 := by decide +kernel
theorem yExp_need (ts : List Tok) (s : St) (t : ByteArray) : yExp ts s (xI ts s t) = xNeed ts s t := rfl
theorem yExp_word (ts : List Tok) (s : St) (k : Int) : yExp ts s (xK ts s k) = zWs ts s k := rfl
theorem xK_bad {ts : List Tok} {s : St} (h : s.bad = true) (k : Int) : xK ts s k = false := by unfold xK; simp [h]
theorem xI_bad {ts : List Tok} {s : St} (h : s.bad = true) (t : ByteArray) : xI ts s t = false := by unfold xI; simp [h]
theorem xFail_bad {ts : List Tok} {s : St} (h : s.bad = true) : xFail ts s = s := by unfold xFail; simp [h]
theorem zWs_bad {ts : List Tok} {s : St} (h : s.bad = true) (k : Int) : zWs ts s k = s := by unfold zWs; rw [xK_bad h, xFail_bad h]; rfl
theorem stB_bad {ts : List Tok} {s : St} (h : s.bad = true) : stB (yK ts s) (yT ts s) = false := by
 have : yK ts s = 0 := by unfold yK; simp [h]
 unfold stB; rw [this]; simp
theorem yVars_bad {ts : List Tok} {s : St} (h : s.bad = true) (f : Nat) (acc : List ByteArray) : yVars (f + 1) ts s acc = some (acc, s) := by
 unfold yVars
 rw [yK_eq ts s (by decide), xK_bad h]; rfl
theorem need_word {ts : List Tok} {s : St} {k : Int} {t : ByteArray} (h : (xNeed ts (zWs ts s k) t).bad = false) : xK ts s k = true := by
 cases hk : xK ts s k with
 | true => rfl
 | false =>
  exfalso
  have hb : (zWs ts s k).bad = true := by
   unfold zWs; rw [hk]
   unfold xFail
   cases hq : s.bad <;> simp [hq]
  rw [xneed_bad _ _ _ hb, hb] at h
  cases h
theorem need_good {ts : List Tok} {s : St} {t : ByteArray} (h : (xNeed ts s t).bad = false) : s.bad = false := by
 cases hb : s.bad with
 | false => rfl
 | true => rw [xneed_bad _ _ _ hb, hb] at h; cases h
def Ok0 (s : St) : Prop := s.bad = false → s.p = 0
theorem Ok0.step {s : St} (h : Ok0 s) : Ok0 (xStep s) := h
theorem Ok0.fail {ts : List Tok} {s : St} (_ : Ok0 s) : Ok0 (xFail ts s) := by
 unfold xFail
 cases hb : s.bad with
 | false => intro e; cases e
 | true => intro e; simp [hb] at e
theorem Ok0.need {ts : List Tok} {s : St} {t : ByteArray} (h : Ok0 s) : Ok0 (xNeed ts s t) := by
 unfold xNeed
 split
 ·exact h.step
 ·exact h.fail
theorem Ok0.word {ts : List Tok} {s : St} {k : Int} (h : Ok0 s) : Ok0 (zWs ts s k) := by
 unfold zWs
 split
 ·exact h.step
 ·exact h.fail
theorem yVars_ok {ts : List Tok} : ∀ (f : Nat) (s : St) (acc l : List ByteArray) (s' : St), Ok0 s → yVars f ts s acc = some (l, s') → Ok0 s' := by
 intro f
 induction f with
 | zero => intro s acc l s' _ h; simp [yVars] at h
 | succ f ih =>
  intro s acc l s' h0 h
  unfold yVars at h
  split at h
  ·exact ih _ _ _ _ h0.step h
  ·simp only [Option.some.injEq, Prod.mk.injEq] at h
   rw [← h.2]; exact h0
structure EqS (T : Ex) (s : St) (T' : Ex) (s' : St) : Prop where
 bad : s'.bad = s.bad
 good : s.bad = false → T' = T ∧ s' = s
 p : s.bad = true → s'.p = s.p
 ok : Ok0 s
theorem EqS.both {T T' : Ex} {s s' : St} (h1 : s.bad = true) (h2 : s'.bad = true) (h3 : s'.p = s.p) : EqS T s T' s' :=
 ⟨by rw [h1, h2], fun h => (by rw [h1] at h; cases h), fun _ => h3, fun h => (by rw [h1] at h; cases h)⟩
theorem EqS.same {T : Ex} {s : St} (h : Ok0 s) : EqS T s T s := ⟨rfl, fun _ => ⟨rfl, rfl⟩, fun _ => rfl, h⟩
theorem EqS.cases {T T' : Ex} {s s' : St} (h : EqS T s T' s') : (s.bad = true ∧ s'.bad = true ∧ s'.p = s.p) ∨ (s.bad = false ∧ T' = T ∧ s' = s ∧ Ok0 s) := by
 cases hb : s.bad with
 | true => exact .inl ⟨rfl, by rw [h.bad, hb], h.p hb⟩
 | false => exact .inr ⟨rfl, (h.good hb).1, (h.good hb).2, h.ok⟩
theorem expr_bad {ts : List Tok} {f : Nat} {s s' : St} {T : Ex} {s1 : St} (hs : s.bad = true) (hs' : s'.bad = true) (hv : TkVal ts) (h : yExpr f ts s = some (T, s1)) : s1 = s ∧ zRead f ts s' = some (zEx, s') := by
 cases f with
 | zero => simp [yExpr] at h
 | succ f =>
 unfold yExpr at h
 rw [yM_eq hv s k92, yW_eq hv s kLet, yW_eq hv s kCase, xI_bad hs, xI_bad hs, xI_bad hs] at h
 simp only [Bool.false_eq_true, if_false] at h
 unfold zRead
 rw [xI_bad hs', xI_bad hs', xI_bad hs']
 simp only [Bool.false_eq_true, if_false]
 cases f with
 | zero => simp [yApp] at h
 | succ f =>
 unfold yApp at h
 unfold zApp
 cases f with
 | zero => simp [yAtom] at h
 | succ f =>
 unfold yAtom at h
 unfold zAtom
 rw [stB_bad hs] at h
 rw [xK_bad hs', xK_bad hs', xK_bad hs', xI_bad hs', xI_bad hs', xneed_bad _ _ _ hs', hs']
 simp only [Bool.false_eq_true, if_false, if_true] at h ⊢
 rw [xFail_bad hs] at h
 unfold yApps at h
 unfold zApps
 rw [stB_bad hs] at h
 rw [stB_bad hs']
 simp only [Bool.false_eq_true, if_false, Option.some.injEq, Prod.mk.injEq] at h ⊢
 exact ⟨h.2.symm, trivial⟩
theorem arm_bad {ts : List Tok} {f : Nat} {s s' : St} {A : AH × Ex} {s1 : St} (hs : s.bad = true) (hs' : s'.bad = true) (hv : TkVal ts) (h : yArm f ts s = some (A, s1)) : s1 = s ∧ zArm f ts s' = some (none, s') := by
 cases f with
 | zero => simp [yArm] at h
 | succ f =>
 unfold yArm at h
 unfold zArm
 rw [yK_eq ts s (by decide), yExp_word, zWs_bad hs] at h
 rw [zWs_bad hs']
 cases f with
 | zero => simp [yVars] at h
 | succ f =>
 rw [yVars_bad hs] at h
 rw [yVars_bad hs']
 dsimp only at h ⊢
 rw [yM_eq hv s k46, yExp_need, xneed_bad _ _ _ hs] at h
 rw [xneed_bad _ _ _ hs', hs']
 simp only [if_true]
 cases he : yExpr (f + 1) ts s with
 | none => rw [he] at h; simp at h
 | some q =>
  obtain ⟨c, s2⟩ := q
  rw [he] at h
  simp only [Option.some.injEq, Prod.mk.injEq] at h
  exact ⟨h.2.symm.trans (expr_bad hs hs hv he).1, trivial⟩
theorem arms_bad {ts : List Tok} {f : Nat} {s s' : St} {l acc : List (AH × Ex)} {s1 : St} (hs : s.bad = true) (hs' : s'.bad = true) (hv : TkVal ts) (h : yArms f ts s acc = some (l, s1)) (p : Int) (a : Ex) (acc' : List (AH × Ex)) :
  s1 = s ∧ zArms f ts s' p a acc' = some (.mk 8 p ⟨#[]⟩ 0 zTy [a] acc', s') := by
 cases f with
 | zero => simp [yArms] at h
 | succ f =>
 unfold yArms at h
 unfold zArms
 rw [yM_eq hv s k124, xI_bad hs] at h
 rw [xI_bad hs', xneed_bad _ _ _ hs']
 simp only [Bool.false_eq_true, if_false, Option.some.injEq, Prod.mk.injEq] at h ⊢
 exact ⟨h.2.symm, trivial⟩
theorem typ_same {ts : List Tok} (hv : TkVal ts) {s : St} (hs : s.bad = false) (h0 : Ok0 s) (hi : s.i ≤ ts.length) :
  ∃ t s2, xType (3 * ts.length + 3) ts s = some (t, s2) ∧ s2.bad = (yTyR ts s).2.bad ∧ ((yTyR ts s).2.bad = false → t = (yTyR ts s).1 ∧ s2 = (yTyR ts s).2) ∧ ((yTyR ts s).2.bad = true → s2.p = (yTyR ts s).2.p) ∧ Ok0 (yTyR ts s).2 := by
 obtain ⟨i, q, p⟩ := s
 dsimp only at hs hi
 subst hs
 have hp : p = 0 := h0 rfl
 subst hp
 have hsa : startAt ts (i : Int) = i := by unfold startAt; split <;> omega
 obtain ⟨R, hR⟩ := (ends_all ts (3 * ts.length + 3)).2.1 i hi (by omega)
 obtain ⟨⟨t, s2⟩, hx, hr⟩ := (same_all ts hv (3 * ts.length + 3)).2.1 i R hR
 have hrd : rdT ts (i : Int) = resQ ts R := by unfold rdT; rw [hsa, hR]; rfl
 refine ⟨t, s2, hx, ?_⟩
 unfold yTyR
 dsimp only
 rw [hrd]
 cases R with
 | ok U j =>
  have e : (t, s2) = (U, (⟨j, false, 0⟩ : St)) := hr
  simp only [Prod.mk.injEq] at e
  obtain ⟨rfl, rfl⟩ := e
  simp [resQ, Ok0]
 | bad p =>
  obtain ⟨h1, h2⟩ := hr
  dsimp only at h1 h2
  simp [resQ, yFl, h1, h2, Ok0]
end Go.Proofs.YtgcefodgjhlbeaaGreatDoor

namespace Go.Proofs.YtgcefodgjhlbeaaGreatDoor
open Go.RowKit Go.Maps Mth

theorem stB_eq {ts : List Tok} (hv : TkVal ts) (s : St) : stB (yK ts s) (yT ts s) = (xK ts s 1 || xK ts s 2 || xK ts s 3 || xI ts s ⟨#[63]⟩ || xI ts s ⟨#[40]⟩ || xI ts s ⟨#[123]⟩) := by
 rw [← yK_eq ts s (k := 1) (by decide), ← yK_eq ts s (k := 2) (by decide), ← yK_eq ts s (k := 3) (by decide), ← yM_eq hv s k63, ← yM_eq hv s m40, ← yM_eq hv s k123]
 rfl
theorem xI_kinds {ts : List Tok} (hv : TkVal ts) {s : St} {t : ByteArray} (ht : rkind (bl t) = 5) (h : xI ts s t = true) : yK ts s = 5 ∧ (yT ts s).toList = t.toList := by
 rw [← yM_eq hv s ht] at h
 unfold yM at h
 simpa using h
theorem yT_good {ts : List Tok} {s : St} (h : s.bad = false) : yT ts s = txt ts s.i := by unfold yT; rw [h]; rfl
theorem yP_good {ts : List Tok} {s : St} (h : s.bad = false) : yP ts s = tkP ts s.i := by unfold yP; rw [h]; rfl
theorem zW_yes {ts : List Tok} {s : St} {k : Int} (h : xK ts s k = true) : zW ts s k = yT ts s := by
 rw [yT_good (xK_good h).1]; unfold zW; rw [h]; rfl
structure Sm (ts : List Tok) (f : Nat) : Prop where
 expr : ∀ s T s1, Ok0 s → yExpr f ts s = some (T, s1) → ∃ T' s1', zRead f ts s = some (T', s1') ∧ EqS T s1 T' s1'
 fn : ∀ s T s1, Ok0 s → s.bad = false → yFun f ts s = some (T, s1) → ∃ T' s1', zFun f ts s = some (T', s1') ∧ EqS T s1 T' s1'
 loc : ∀ s T s1, Ok0 s → yLoc f ts s = some (T, s1) → ∃ T' s1', zLoc f ts s = some (T', s1') ∧ EqS T s1 T' s1'
 loc2 : ∀ k p s T s1, Ok0 s → yLoc2 f ts k p s = some (T, s1) → ∃ T' s1', zLoc2 f ts k p s = some (T', s1') ∧ EqS T s1 T' s1'
 cas : ∀ s T s1, Ok0 s → yCas f ts s = some (T, s1) → ∃ T' s1', zCas f ts (xStep s) (tkP ts s.i) = some (T', s1') ∧ EqS T s1 T' s1'
 arms : ∀ s p a acc l s1, Ok0 s → yArms f ts s acc = some (l, s1) → ∃ T' s1', zArms f ts s p a acc = some (T', s1') ∧ EqS (.mk 8 p ⟨#[]⟩ 0 zTy [a] l) (xNeed ts s1 ⟨#[101, 110, 100]⟩) T' s1'
 arm : ∀ s A s1, Ok0 s → yArm f ts s = some (A, s1) → ∃ A' s1', zArm f ts s = some (A', s1') ∧ ((s1.bad = true ∧ s1'.bad = true ∧ s1'.p = s1.p) ∨ (s1.bad = false ∧ A' = some A ∧ s1' = s1 ∧ Ok0 s1))
 app : ∀ s T s1, Ok0 s → yApp f ts s = some (T, s1) → ∃ T' s1', zApp f ts s = some (T', s1') ∧ EqS T s1 T' s1'
 apps : ∀ s e T s1, Ok0 s → yApps f ts s e = some (T, s1) → ∃ T' s1', zApps f ts s e = some (T', s1') ∧ EqS T s1 T' s1'
 atom : ∀ s T s1, Ok0 s → yAtom f ts s = some (T, s1) → ∃ T' s1', zAtom f ts s = some (T', s1') ∧ EqS T s1 T' s1'
 enc : ∀ s p T s1, Ok0 s → yEnc f ts s p = some (T, s1) → ∃ T' s1', zEnc f ts s p = some (T', s1') ∧ EqS T s1 T' s1'
 held : ∀ s p T s1, Ok0 s → yHeld f ts s p = some (T, s1) → ∃ T' s1', zHeld f ts s p = some (T', s1') ∧ EqS T s1 T' s1'
theorem apps_bad {ts : List Tok} {f : Nat} {s s' : St} {e e' T : Ex} {s1 : St} (hs : s.bad = true) (hs' : s'.bad = true) (h : yApps f ts s e = some (T, s1)) : s1 = s ∧ zApps f ts s' e' = some (e', s') := by
 cases f with
 | zero => simp [yApps] at h
 | succ f =>
 unfold yApps at h
 unfold zApps
 rw [stB_bad hs] at h
 rw [stB_bad hs']
 simp only [Bool.false_eq_true, if_false, Option.some.injEq, Prod.mk.injEq] at h ⊢
 exact ⟨h.2.symm, trivial⟩
theorem EqS.need {T T' U U' : Ex} {s s' : St} {ts : List Tok} {t : ByteArray} (h : EqS T s T' s') (hU : s.bad = false → T' = T → U' = U) : EqS U (xNeed ts s t) U' (xNeed ts s' t) := by
 rcases h.cases with ⟨h1, h2, h3⟩ | ⟨h1, h2, h3, h4⟩
 ·rw [xneed_bad _ _ _ h1, xneed_bad _ _ _ h2]; exact .both h1 h2 h3
 ·subst h3; rw [hU h1 h2]; exact .same h4.need
theorem EqS.map {T T' U U' : Ex} {s s' : St} (h : EqS T s T' s') (hU : s.bad = false → T' = T → U' = U) : EqS U s U' s' := by
 rcases h.cases with ⟨h1, h2, h3⟩ | ⟨h1, h2, h3, h4⟩
 ·exact .both h1 h2 h3
 ·subst h3; rw [hU h1 h2]; exact .same h4
set_option maxHeartbeats 1600000 in
theorem same_ex (ts : List Tok) (hv : TkVal ts) : ∀ f, Sm ts f := by
 intro f
 induction f with
 | zero => constructor <;> intros <;> simp_all [yExpr, yFun, yLoc, yLoc2, yCas, yArms, yArm, yApp, yApps, yAtom, yEnc, yHeld]
 | succ f ih =>
  refine ⟨?_, ?_, ?_, ?_, ?_, ?_, ?_, ?_, ?_, ?_, ?_, ?_⟩
  ·intro s T s1 h0 h
   unfold yExpr at h
   unfold zRead
   rw [yM_eq hv s k92, yW_eq hv s kLet, yW_eq hv s kCase] at h
   cases h1 : xI ts s ⟨#[92]⟩ with
   | true =>
    rw [h1] at h
    simp only [if_true] at h ⊢
    exact ih.fn s T s1 h0 (xI_good h1).1 h
   | false =>
    rw [h1] at h
    simp only [Bool.false_eq_true, if_false] at h ⊢
    cases h2 : xI ts s ⟨#[108, 101, 116]⟩ with
    | true =>
     rw [h2] at h
     simp only [if_true] at h ⊢
     exact ih.loc s T s1 h0 h
    | false =>
     rw [h2] at h
     simp only [Bool.false_eq_true, if_false] at h ⊢
     cases h3 : xI ts s ⟨#[99, 97, 115, 101]⟩ with
     | true =>
      rw [h3] at h
      simp only [if_true] at h ⊢
      exact ih.cas s T s1 h0 h
     | false =>
      rw [h3] at h
      simp only [Bool.false_eq_true, if_false] at h ⊢
      exact ih.app s T s1 h0 h
  ·intro s T s1 h0 hg h
   unfold yFun at h
   unfold zFun
   rw [yK_eq ts (xStep s) (by decide), yExp_word, yM_eq hv _ k46, yExp_need] at h
   cases he : yExpr f ts (xNeed ts (zWs ts (xStep s) 1) ⟨#[46]⟩) with
   | none => rw [he] at h; simp at h
   | some q =>
    obtain ⟨a, s2⟩ := q
    rw [he] at h
    simp only [Option.some.injEq, Prod.mk.injEq] at h
    obtain ⟨rfl, rfl⟩ := h
    cases hb : (xNeed ts (zWs ts (xStep s) 1) ⟨#[46]⟩).bad with
    | true =>
     simp only [if_true]
     have := (expr_bad hb hb hv he).1
     subst this
     exact ⟨_, _, rfl, .both hb hb rfl⟩
    | false =>
     simp only [Bool.false_eq_true, if_false]
     obtain ⟨a', s2', hz, hE⟩ := ih.expr _ a s2 h0.step.word.need he
     rw [hz]
     exact ⟨_, _, rfl, hE.map fun _ e => by rw [e, zW_yes (need_word hb)]⟩
  ·intro s T s1 h0 h
   unfold yLoc at h
   unfold zLoc xSkip
   rw [yW_eq hv _ kRec] at h
   exact ih.loc2 _ _ _ T s1 (by split <;> exact h0) h
  ·intro k p s T s1 h0 h
   unfold yLoc2 at h
   unfold zLoc2
   rw [yK_eq ts s (by decide), yExp_word, yM_eq hv _ k61, yExp_need] at h
   cases he : yExpr f ts (xNeed ts (zWs ts s 1) ⟨#[61]⟩) with
   | none => rw [he] at h; simp at h
   | some q =>
    obtain ⟨a, s2⟩ := q
    rw [he] at h
    dsimp only at h
    rw [yW_eq hv _ kIn, yExp_need] at h
    cases hc : yExpr f ts (xNeed ts s2 ⟨#[105, 110]⟩) with
    | none => rw [hc] at h; simp at h
    | some q2 =>
     obtain ⟨c, s3⟩ := q2
     rw [hc] at h
     simp only [Option.some.injEq, Prod.mk.injEq] at h
     obtain ⟨rfl, rfl⟩ := h
     cases hb : (xNeed ts (zWs ts s 1) ⟨#[61]⟩).bad with
     | true =>
      simp only [if_true]
      have e1 := (expr_bad hb hb hv he).1
      subst e1
      have hn := xneed_bad ts _ ⟨#[105, 110]⟩ hb
      rw [hn] at hc
      have e2 := (expr_bad hb hb hv hc).1
      subst e2
      exact ⟨_, _, rfl, .both hb hb rfl⟩
     | false =>
      simp only [Bool.false_eq_true, if_false]
      obtain ⟨a', s2', hz, hE⟩ := ih.expr _ a s2 h0.word.need he
      rw [hz]
      dsimp only
      rcases hE.cases with ⟨h1, h2, h3⟩ | ⟨h1, rfl, rfl, h4⟩
      ·rw [xneed_bad _ _ _ h1] at hc
       have e2 := (expr_bad h1 h1 hv hc).1
       subst e2
       rw [xneed_bad _ _ _ h2, h2]
       simp only [if_true]
       exact ⟨_, _, rfl, .both h1 h2 h3⟩
      ·cases hb2 : (xNeed ts s2' ⟨#[105, 110]⟩).bad with
       | true =>
        simp only [if_true]
        have e2 := (expr_bad hb2 hb2 hv hc).1
        subst e2
        exact ⟨_, _, rfl, .both hb2 hb2 rfl⟩
       | false =>
        simp only [Bool.false_eq_true, if_false]
        obtain ⟨c', s3', hz2, hE2⟩ := ih.expr _ c s3 h4.need hc
        rw [hz2]
        exact ⟨_, _, rfl, hE2.map fun _ e => by rw [e, zW_yes (need_word hb)]⟩
  ·intro s T s1 h0 h
   unfold yCas at h
   unfold zCas
   cases he : yExpr f ts (xStep s) with
   | none => rw [he] at h; simp at h
   | some q =>
    obtain ⟨a, s2⟩ := q
    rw [he] at h
    dsimp only at h
    rw [yW_eq hv _ kOf, yExp_need] at h
    cases hA : yArm f ts (xNeed ts s2 ⟨#[111, 102]⟩) with
    | none => rw [hA] at h; simp at h
    | some q2 =>
     obtain ⟨A, s3⟩ := q2
     rw [hA] at h
     dsimp only at h
     cases hl : yArms f ts s3 [A] with
     | none => rw [hl] at h; simp at h
     | some q3 =>
      obtain ⟨l, s4⟩ := q3
      rw [hl] at h
      dsimp only at h
      rw [yW_eq hv _ kEnd, yExp_need] at h
      simp only [Option.some.injEq, Prod.mk.injEq] at h
      obtain ⟨rfl, rfl⟩ := h
      obtain ⟨a', s2', hz, hE⟩ := ih.expr _ a s2 h0.step he
      rw [hz]
      dsimp only
      rcases hE.cases with ⟨h1, h2, h3⟩ | ⟨h1, rfl, rfl, h4⟩
      ·rw [xneed_bad _ _ _ h1] at hA
       obtain ⟨e2, hzA⟩ := arm_bad h1 h2 hv hA
       subst e2
       have e3 := (arms_bad h1 h1 hv hl 0 zEx []).1
       subst e3
       rw [xneed_bad _ _ _ h2, hzA, xneed_bad _ _ _ h1]
       exact ⟨_, _, rfl, .both h1 h2 h3⟩
      ·obtain ⟨A', s3', hzA, hc⟩ := ih.arm _ A s3 h4.need hA
       rw [hzA]
       rcases hc with ⟨h1, h2, h3⟩ | ⟨h1, rfl, rfl, h5⟩
       ·obtain ⟨e3, hz3⟩ := arms_bad h1 h2 hv hl (tkP ts s.i) a' [A'.getD (⟨0, ⟨#[]⟩, []⟩, zEx)]
        subst e3
        rw [xneed_bad _ _ _ h1]
        cases A' with
        | none => exact ⟨_, _, rfl, .both h1 h2 h3⟩
        | some A' => exact ⟨_, _, hz3, .both h1 h2 h3⟩
       ·exact ih.arms _ _ _ _ l s4 h5 hl
  ·intro s p a acc l s1 h0 h
   unfold yArms at h
   unfold zArms
   rw [yM_eq hv s k124] at h
   cases h1 : xI ts s ⟨#[124]⟩ with
   | false =>
    rw [h1] at h
    simp only [Bool.false_eq_true, if_false, Option.some.injEq, Prod.mk.injEq] at h ⊢
    obtain ⟨rfl, rfl⟩ := h
    exact ⟨_, _, ⟨rfl, rfl⟩, .same h0.need⟩
   | true =>
    rw [h1] at h
    simp only [if_true] at h ⊢
    cases hA : yArm f ts (xStep s) with
    | none => rw [hA] at h; simp at h
    | some q2 =>
     obtain ⟨A, s3⟩ := q2
     rw [hA] at h
     dsimp only at h
     obtain ⟨A', s3', hzA, hc⟩ := ih.arm _ A s3 h0.step hA
     rw [hzA]
     rcases hc with ⟨h1, h2, h3⟩ | ⟨h1, rfl, rfl, h5⟩
     ·obtain ⟨e3, hz3⟩ := arms_bad h1 h2 hv h p a (acc ++ [A'.getD (⟨0, ⟨#[]⟩, []⟩, zEx)])
      subst e3
      rw [xneed_bad _ _ _ h1]
      cases A' with
      | none => exact ⟨_, _, rfl, .both h1 h2 h3⟩
      | some A' => exact ⟨_, _, hz3, .both h1 h2 h3⟩
     ·exact ih.arms _ _ _ _ l s1 h5 h
  ·intro s A s1 h0 h
   unfold yArm at h
   unfold zArm
   rw [yK_eq ts s (by decide), yExp_word] at h
   cases hvs : yVars f ts (zWs ts s 2) [] with
   | none => rw [hvs] at h; simp at h
   | some q =>
    obtain ⟨vs, s2⟩ := q
    rw [hvs] at h
    dsimp only at h ⊢
    rw [yM_eq hv _ k46, yExp_need] at h
    cases hc : yExpr f ts (xNeed ts s2 ⟨#[46]⟩) with
    | none => rw [hc] at h; simp at h
    | some q2 =>
     obtain ⟨c, s3⟩ := q2
     rw [hc] at h
     simp only [Option.some.injEq, Prod.mk.injEq] at h
     obtain ⟨rfl, rfl⟩ := h
     cases hb : (xNeed ts s2 ⟨#[46]⟩).bad with
     | true =>
      have e2 := (expr_bad hb hb hv hc).1
      subst e2
      simp only [if_true]
      exact ⟨_, _, rfl, .inl ⟨hb, hb, rfl⟩⟩
     | false =>
      simp only [Bool.false_eq_true, if_false]
      obtain ⟨c', s3', hz, hE⟩ := ih.expr _ c s3 (yVars_ok _ _ _ _ _ h0.word hvs).need hc
      rw [hz]
      refine ⟨_, _, rfl, ?_⟩
      have hk : xK ts s 2 = true := by
       cases hk : xK ts s 2 with
       | true => rfl
       | false =>
        exfalso
        have hbw : (zWs ts s 2).bad = true := by
         unfold zWs; rw [hk]
         unfold xFail
         cases hq : s.bad <;> simp [hq]
        cases f with
        | zero => simp [yVars] at hvs
        | succ f =>
         rw [yVars_bad hbw] at hvs
         simp only [Option.some.injEq, Prod.mk.injEq] at hvs
         obtain ⟨-, rfl⟩ := hvs
         rw [need_good hb] at hbw
         cases hbw
      rcases hE.cases with ⟨h1, h2, h3⟩ | ⟨h1, rfl, rfl, h4⟩
      ·exact .inl ⟨h1, h2, h3⟩
      ·exact .inr ⟨h1, by rw [zW_yes hk, yP_good (xK_good hk).1], rfl, h4⟩
  ·intro s T s1 h0 h
   unfold yApp at h
   unfold zApp
   cases he : yAtom f ts s with
   | none => rw [he] at h; simp at h
   | some q =>
    obtain ⟨e, s2⟩ := q
    rw [he] at h
    dsimp only at h
    obtain ⟨e', s2', hz, hE⟩ := ih.atom s e s2 h0 he
    rw [hz]
    rcases hE.cases with ⟨h1, h2, h3⟩ | ⟨h1, rfl, rfl, h4⟩
    ·obtain ⟨e3, hz3⟩ := apps_bad (e' := e') h1 h2 h
     subst e3
     exact ⟨_, _, hz3, .both h1 h2 h3⟩
    ·exact ih.apps _ _ T s1 h4 h
  ·intro s e T s1 h0 h
   unfold yApps at h
   unfold zApps
   cases hq : stB (yK ts s) (yT ts s) with
   | false =>
    rw [hq] at h
    simp only [Bool.false_eq_true, if_false, Option.some.injEq, Prod.mk.injEq] at h ⊢
    obtain ⟨rfl, rfl⟩ := h
    exact ⟨_, _, ⟨rfl, rfl⟩, .same h0⟩
   | true =>
    rw [hq] at h
    simp only [if_true] at h ⊢
    cases he : yAtom f ts s with
    | none => rw [he] at h; simp at h
    | some q =>
     obtain ⟨u, s2⟩ := q
     rw [he] at h
     dsimp only at h
     obtain ⟨u', s2', hz, hE⟩ := ih.atom s u s2 h0 he
     rw [hz]
     rcases hE.cases with ⟨h1, h2, h3⟩ | ⟨h1, rfl, rfl, h4⟩
     ·obtain ⟨e3, hz3⟩ := apps_bad (e' := .mk 5 e.p ⟨#[]⟩ 0 zTy [e, u'] []) h1 h2 h
      subst e3
      exact ⟨_, _, hz3, .both h1 h2 h3⟩
     ·exact ih.apps _ _ T s1 h4 h
  ·intro s T s1 h0 h
   unfold yAtom at h
   unfold zAtom
   rw [stB_eq hv, yK_eq ts s (k := 1) (by decide), yK_eq ts s (k := 2) (by decide), yK_eq ts s (k := 3) (by decide)] at h
   cases h1 : xK ts s 1 with
   | true =>
    rw [h1] at h
    simp only [Bool.true_or, if_true, Option.some.injEq, Prod.mk.injEq] at h ⊢
    obtain ⟨rfl, rfl⟩ := h
    rw [yT_good (xK_good h1).1, yP_good (xK_good h1).1]
    exact ⟨_, _, ⟨rfl, rfl⟩, .same h0.step⟩
   | false =>
    rw [h1] at h
    cases h2 : xK ts s 2 with
    | true =>
     rw [h2] at h
     simp only [Bool.false_or, Bool.true_or, if_true, Bool.false_eq_true, if_false, Option.some.injEq, Prod.mk.injEq] at h ⊢
     obtain ⟨rfl, rfl⟩ := h
     rw [yT_good (xK_good h2).1, yP_good (xK_good h2).1]
     exact ⟨_, _, ⟨rfl, rfl⟩, .same h0.step⟩
    | false =>
     rw [h2] at h
     cases h3 : xK ts s 3 with
     | true =>
      rw [h3] at h
      simp only [Bool.false_or, Bool.true_or, if_true, Bool.false_eq_true, if_false, Option.some.injEq, Prod.mk.injEq] at h ⊢
      obtain ⟨rfl, rfl⟩ := h
      rw [yT_good (xK_good h3).1, yP_good (xK_good h3).1]
      exact ⟨_, _, ⟨rfl, rfl⟩, .same h0.step⟩
     | false =>
      rw [h3] at h
      cases h4 : xI ts s ⟨#[63]⟩ with
      | true =>
       rw [h4] at h
       have ht := (xI_kinds hv k63 h4).2
       have e1 : ((yT ts s).toList == (⟨#[40]⟩ : ByteArray).toList) = false := by rw [ht]; decide +kernel
       have e2 : ((yT ts s).toList == (⟨#[123]⟩ : ByteArray).toList) = false := by rw [ht]; decide +kernel
       rw [e1, e2] at h
       simp only [Bool.false_or, Bool.true_or, if_true, Bool.false_eq_true, if_false, Option.some.injEq, Prod.mk.injEq] at h ⊢
       obtain ⟨rfl, rfl⟩ := h
       rw [yP_good (xI_good h4).1]
       exact ⟨_, _, ⟨rfl, rfl⟩, .same h0.step⟩
      | false =>
       rw [h4] at h
       cases h5 : xI ts s ⟨#[123]⟩ with
       | true =>
        rw [h5] at h
        have ht := (xI_kinds hv k123 h5).2
        have e1 : ((yT ts s).toList == (⟨#[40]⟩ : ByteArray).toList) = false := by rw [ht]; decide +kernel
        have e2 : ((yT ts s).toList == (⟨#[123]⟩ : ByteArray).toList) = true := by rw [ht]; decide +kernel
        rw [e1, e2] at h
        simp only [Bool.or_true, if_true, Bool.false_eq_true, if_false] at h ⊢
        rw [yP_good (xI_good h5).1] at h
        exact ih.held _ _ T s1 h0.step h
       | false =>
        rw [h5] at h
        cases h6 : xI ts s ⟨#[40]⟩ with
        | true =>
         rw [h6] at h
         have ht := (xI_kinds hv m40 h6).2
         have e1 : ((yT ts s).toList == (⟨#[40]⟩ : ByteArray).toList) = true := by rw [ht]; decide +kernel
         rw [e1] at h
         have e3 : xNeed ts s ⟨#[40]⟩ = xStep s := by unfold xNeed; rw [h6]; rfl
         have e4 : (xStep s).bad = false := (xI_good h6).1
         simp only [Bool.or_true, Bool.or_false, if_true, Bool.false_eq_true, if_false] at h ⊢
         rw [e3, e4]
         simp only [Bool.false_eq_true, if_false]
         rw [yP_good (xI_good h6).1] at h
         exact ih.enc _ _ T s1 h0.step h
        | false =>
         rw [h6] at h
         have e3 : xNeed ts s ⟨#[40]⟩ = xFail ts s := by unfold xNeed; rw [h6]; rfl
         have e4 : (xFail ts s).bad = true := by
          unfold xFail
          cases hq : s.bad <;> simp [hq]
         simp only [Bool.or_false, Bool.false_eq_true, if_false, Option.some.injEq, Prod.mk.injEq] at h ⊢
         obtain ⟨rfl, rfl⟩ := h
         rw [e3, e4]
         simp only [if_true]
         exact ⟨_, _, rfl, .same h0.fail⟩
  ·intro s p T s1 h0 h
   unfold yEnc at h
   unfold zEnc
   cases he : yExpr f ts s with
   | none => rw [he] at h; simp at h
   | some q =>
    obtain ⟨e, s2⟩ := q
    rw [he] at h
    dsimp only at h
    obtain ⟨e', s2', hz, hE⟩ := ih.expr s e s2 h0 he
    rw [hz]
    dsimp only
    rw [yM_eq hv _ k58, yM_eq hv _ m41, yM_eq hv _ m41, yExp_need, yExp_need] at h
    rcases hE.cases with ⟨h1, h2, h3⟩ | ⟨h1, rfl, rfl, h4⟩
    ·rw [xI_bad h1] at h
     rw [xI_bad h2]
     simp only [Bool.false_eq_true, if_false, Option.some.injEq, Prod.mk.injEq] at h ⊢
     obtain ⟨rfl, rfl⟩ := h
     rw [xneed_bad _ _ _ h1]
     exact ⟨_, _, ⟨rfl, rfl⟩, by rw [xneed_bad _ _ _ h2]; exact .both h1 h2 h3⟩
    ·cases hq : xI ts s2' ⟨#[58]⟩ with
     | false =>
      rw [hq] at h
      simp only [Bool.false_eq_true, if_false, Option.some.injEq, Prod.mk.injEq] at h ⊢
      obtain ⟨rfl, rfl⟩ := h
      exact ⟨_, _, ⟨rfl, rfl⟩, .same h4.need⟩
     | true =>
      rw [hq] at h
      simp only [if_true, Option.some.injEq, Prod.mk.injEq] at h ⊢
      obtain ⟨rfl, rfl⟩ := h
      obtain ⟨t, s3, hx, g1, g2, g3, g4⟩ := typ_same hv (s := xStep s2') (xI_good hq).1 h4.step (xI_good hq).2.1
      rw [hx]
      refine ⟨_, _, rfl, ?_⟩
      cases hb : (yTyR ts (xStep s2')).2.bad with
      | true =>
       rw [hb] at g1
       rw [xneed_bad _ _ _ hb, xneed_bad _ _ _ g1]
       exact .both hb g1 (g3 hb)
      | false =>
       obtain ⟨rfl, rfl⟩ := g2 hb
       exact .same g4.need
  ·intro s p T s1 h0 h
   unfold yHeld at h
   unfold zHeld
   cases he : yExpr f ts s with
   | none => rw [he] at h; simp at h
   | some q =>
    obtain ⟨e, s2⟩ := q
    rw [he] at h
    dsimp only at h
    rw [yM_eq hv _ k125, yExp_need] at h
    simp only [Option.some.injEq, Prod.mk.injEq] at h
    obtain ⟨rfl, rfl⟩ := h
    obtain ⟨e', s2', hz, hE⟩ := ih.expr s e s2 h0 he
    rw [hz]
    exact ⟨_, _, rfl, hE.need fun _ e => by rw [e]⟩
end Go.Proofs.YtgcefodgjhlbeaaGreatDoor
