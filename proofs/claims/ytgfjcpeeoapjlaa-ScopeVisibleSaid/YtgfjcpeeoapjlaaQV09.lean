import Derived.Test.YtgfjcpeeoapjlaaQV08
/- The reference's reader of expressions: what it reads by its own rules, and that this is what the package's reads. -/
namespace Go.Proofs.Ytgfjcpeeoapjlaa
open Go.RowKit Go.Maps Mth

def zW (ts : List Tok) (s : St) (k : Int) : ByteArray := if xK ts s k then txt ts s.i else ⟨#[]⟩
def zWs (ts : List Tok) (s : St) (k : Int) : St := if xK ts s k then xStep s else xFail ts s
mutual
def zRead : Nat → List Tok → St → Option (Ex × St)
  | 0, _, _ => none
  | f + 1, ts, s =>
    if xI ts s ⟨#[92]⟩ then zFun f ts s
    else if xI ts s ⟨#[108, 101, 116]⟩ then zLoc f ts s
    else if xI ts s ⟨#[99, 97, 115, 101]⟩ then zCas f ts (xStep s) (tkP ts s.i)
    else zApp f ts s
def zFun : Nat → List Tok → St → Option (Ex × St)
  | 0, _, _ => none
  | f + 1, ts, s =>
    if (xNeed ts (zWs ts (xStep s) 1) ⟨#[46]⟩).bad then some (zEx, xNeed ts (zWs ts (xStep s) 1) ⟨#[46]⟩)
    else
      match zRead f ts (xNeed ts (zWs ts (xStep s) 1) ⟨#[46]⟩) with
      | some (a, s') => some (.mk 4 (tkP ts s.i) (zW ts (xStep s) 1) 0 zTy [a] [], s')
      | none => none
def zLoc : Nat → List Tok → St → Option (Ex × St)
  | 0, _, _ => none
  | f + 1, ts, s =>
    zLoc2 f ts (if xI ts (xStep s) ⟨#[114, 101, 99]⟩ then 7 else 6) (tkP ts s.i) (xSkip ts (xStep s) ⟨#[114, 101, 99]⟩)
def zLoc2 : Nat → List Tok → Int → Int → St → Option (Ex × St)
  | 0, _, _, _, _ => none
  | f + 1, ts, k, p, s =>
    if (xNeed ts (zWs ts s 1) ⟨#[61]⟩).bad then some (zEx, xNeed ts (zWs ts s 1) ⟨#[61]⟩)
    else
      match zRead f ts (xNeed ts (zWs ts s 1) ⟨#[61]⟩) with
      | some (a, s1) =>
        if (xNeed ts s1 ⟨#[105, 110]⟩).bad then some (zEx, xNeed ts s1 ⟨#[105, 110]⟩)
        else
          match zRead f ts (xNeed ts s1 ⟨#[105, 110]⟩) with
          | some (c, s2) => some (.mk k p (zW ts s 1) 0 zTy [a, c] [], s2)
          | none => none
      | none => none
def zCas : Nat → List Tok → St → Int → Option (Ex × St)
  | 0, _, _, _ => none
  | f + 1, ts, s, p =>
    match zRead f ts s with
    | some (a, s1) =>
      match zArm f ts (xNeed ts s1 ⟨#[111, 102]⟩) with
      | some (some A, s2) => zArms f ts s2 p a [A]
      | some (none, s2) => some (zEx, s2)
      | none => none
    | none => none
def zArms : Nat → List Tok → St → Int → Ex → List (AH × Ex) → Option (Ex × St)
  | 0, _, _, _, _, _ => none
  | f + 1, ts, s, p, a, acc =>
    if xI ts s ⟨#[124]⟩ then
      match zArm f ts (xStep s) with
      | some (some A, s2) => zArms f ts s2 p a (acc ++ [A])
      | some (none, s2) => some (zEx, s2)
      | none => none
    else some (.mk 8 p ⟨#[]⟩ 0 zTy [a] acc, xNeed ts s ⟨#[101, 110, 100]⟩)
def zArm : Nat → List Tok → St → Option (Option (AH × Ex) × St)
  | 0, _, _ => none
  | f + 1, ts, s =>
    match yVars f ts (zWs ts s 2) [] with
    | some (vs, s1) =>
      if (xNeed ts s1 ⟨#[46]⟩).bad then some (none, xNeed ts s1 ⟨#[46]⟩)
      else
        match zRead f ts (xNeed ts s1 ⟨#[46]⟩) with
        | some (c, s2) => some (some (⟨tkP ts s.i, zW ts s 2, vs⟩, c), s2)
        | none => none
    | none => none
def zApp : Nat → List Tok → St → Option (Ex × St)
  | 0, _, _ => none
  | f + 1, ts, s =>
    match zAtom f ts s with
    | some (e, s') => zApps f ts s' e
    | none => none
def zApps : Nat → List Tok → St → Ex → Option (Ex × St)
  | 0, _, _, _ => none
  | f + 1, ts, s, e =>
    if stB (yK ts s) (yT ts s) then
      match zAtom f ts s with
      | some (a, s') => zApps f ts s' (.mk 5 e.p ⟨#[]⟩ 0 zTy [e, a] [])
      | none => none
    else some (e, s)
def zAtom : Nat → List Tok → St → Option (Ex × St)
  | 0, _, _ => none
  | f + 1, ts, s =>
    if xK ts s 1 then some (.mk 1 (tkP ts s.i) (txt ts s.i) 0 zTy [] [], xStep s)
    else if xK ts s 2 then some (.mk 2 (tkP ts s.i) (txt ts s.i) 0 zTy [] [], xStep s)
    else if xK ts s 3 then some (.mk 3 (tkP ts s.i) ⟨#[]⟩ (numB (txt ts s.i)) zTy [] [], xStep s)
    else if xI ts s ⟨#[63]⟩ then some (.mk 10 (tkP ts s.i) ⟨#[]⟩ 0 zTy [] [], xStep s)
    else if xI ts s ⟨#[123]⟩ then zHeld f ts (xStep s) (tkP ts s.i)
    else if (xNeed ts s ⟨#[40]⟩).bad then some (zEx, xNeed ts s ⟨#[40]⟩)
    else zEnc f ts (xNeed ts s ⟨#[40]⟩) (tkP ts s.i)
def zEnc : Nat → List Tok → St → Int → Option (Ex × St)
  | 0, _, _, _ => none
  | f + 1, ts, s, p =>
    match zRead f ts s with
    | some (e, s1) =>
      if xI ts s1 ⟨#[58]⟩ then
        match xType (3 * ts.length + 3) ts (xStep s1) with
        | some (t, s2) => some (.mk 9 p ⟨#[]⟩ 0 t [e] [], xNeed ts s2 ⟨#[41]⟩)
        | none => none
      else some (e, xNeed ts s1 ⟨#[41]⟩)
    | none => none
def zHeld : Nat → List Tok → St → Int → Option (Ex × St)
  | 0, _, _, _ => none
  | f + 1, ts, s, p =>
    match zRead f ts s with
    | some (e, s1) => some (.mk 11 p ⟨#[]⟩ 0 zTy [e] [], xNeed ts s1 ⟨#[125]⟩)
    | none => none
end

/-! The small tests agree, in every state. -/
theorem yK_eq (ts : List Tok) (s : St) {k : Int} (hk : k ≠ 0) : (yK ts s == k) = xK ts s k := by
  obtain ⟨i, q, p⟩ := s
  unfold yK xK
  cases q
  · simp [rKind_K i hk]
  · simp [Ne.symm hk]
theorem yM_eq {ts : List Tok} (hv : TkVal ts) (s : St) {t : ByteArray} (ht : rkind (bl t) = 5) : yM ts s t = xI ts s t := by
  obtain ⟨i, q, p⟩ := s
  unfold yM xI yK yT
  cases q
  · simp only [Bool.false_eq_true, if_false, Bool.not_false, Bool.true_and]
    rw [rIs_mark hv i ht]; rfl
  · simp
theorem rIs_word {ts : List Tok} (hv : TkVal ts) (i : Nat) {s : ByteArray} (hs : rkind (bl s) = 4) : rIs ts i s = (tkK ts i == 4 && (txt ts i).toList == s.toList) := by
  unfold rIs tkK txt
  cases ht : ts[i]? with
  | none => rfl
  | some t =>
    simp only
    have hk := hv t (List.mem_of_getElem? ht)
    cases hq : ((⟨t.text.toArray⟩ : ByteArray).toList == s.toList) with
    | false => simp
    | true =>
      have e : bl (⟨t.text.toArray⟩ : ByteArray) = bl s := by
        have := eq_of_beq hq
        rw [Lib.toList_data, Lib.toList_data] at this
        exact this
      rw [bl_mk] at e
      rw [e, hs] at hk
      rw [← hk]
      rfl
theorem yW_eq {ts : List Tok} (hv : TkVal ts) (s : St) {t : ByteArray} (ht : rkind (bl t) = 4) : yW ts s t = xI ts s t := by
  obtain ⟨i, q, p⟩ := s
  unfold yW xI yK yT
  cases q
  · simp only [Bool.false_eq_true, if_false, Bool.not_false, Bool.true_and]
    rw [rIs_word hv i ht]
  · simp
theorem k46 : rkind (bl ⟨#[46]⟩) = 5 := by decide +kernel
theorem k61 : rkind (bl ⟨#[61]⟩) = 5 := by decide +kernel
theorem k92 : rkind (bl ⟨#[92]⟩) = 5 := by decide +kernel
theorem k58 : rkind (bl ⟨#[58]⟩) = 5 := by decide +kernel
theorem k63 : rkind (bl ⟨#[63]⟩) = 5 := by decide +kernel
theorem k123 : rkind (bl ⟨#[123]⟩) = 5 := by decide +kernel
theorem k125 : rkind (bl ⟨#[125]⟩) = 5 := by decide +kernel
theorem k124 : rkind (bl ⟨#[124]⟩) = 5 := by decide +kernel
theorem kLet : rkind (bl ⟨#[108, 101, 116]⟩) = 4 := by decide +kernel
theorem kRec : rkind (bl ⟨#[114, 101, 99]⟩) = 4 := by decide +kernel
theorem kIn : rkind (bl ⟨#[105, 110]⟩) = 4 := by decide +kernel
theorem kCase : rkind (bl ⟨#[99, 97, 115, 101]⟩) = 4 := by decide +kernel
theorem kOf : rkind (bl ⟨#[111, 102]⟩) = 4 := by decide +kernel
theorem kEnd : rkind (bl ⟨#[101, 110, 100]⟩) = 4 := by decide +kernel
theorem yExp_need (ts : List Tok) (s : St) (t : ByteArray) : yExp ts s (xI ts s t) = xNeed ts s t := rfl
theorem yExp_word (ts : List Tok) (s : St) (k : Int) : yExp ts s (xK ts s k) = zWs ts s k := rfl
theorem xK_bad {ts : List Tok} {s : St} (h : s.bad = true) (k : Int) : xK ts s k = false := by unfold xK; simp [h]
theorem xI_bad {ts : List Tok} {s : St} (h : s.bad = true) (t : ByteArray) : xI ts s t = false := by unfold xI; simp [h]
theorem xFail_bad {ts : List Tok} {s : St} (h : s.bad = true) : xFail ts s = s := by unfold xFail; simp [h]
theorem zWs_bad {ts : List Tok} {s : St} (h : s.bad = true) (k : Int) : zWs ts s k = s := by unfold zWs; rw [xK_bad h, xFail_bad h]; rfl
theorem stB_bad {ts : List Tok} {s : St} (h : s.bad = true) : stB (yK ts s) (yT ts s) = false := by
  have : yK ts s = 0 := by unfold yK; simp [h]
  unfold stB; rw [this]; simp
theorem yVars_bad {ts : List Tok} {s : St} (h : s.bad = true) (f : Nat) (acc : List ByteArray) : yVars (f + 1) ts s acc = some (acc, s) := by
  unfold yVars
  rw [yK_eq ts s (by decide), xK_bad h]; rfl
theorem need_word {ts : List Tok} {s : St} {k : Int} {t : ByteArray} (h : (xNeed ts (zWs ts s k) t).bad = false) : xK ts s k = true := by
  cases hk : xK ts s k with
  | true => rfl
  | false =>
    exfalso
    have hb : (zWs ts s k).bad = true := by
      unfold zWs; rw [hk]
      unfold xFail
      cases hq : s.bad <;> simp [hq]
    rw [xneed_bad _ _ _ hb, hb] at h
    cases h
theorem need_good {ts : List Tok} {s : St} {t : ByteArray} (h : (xNeed ts s t).bad = false) : s.bad = false := by
  cases hb : s.bad with
  | false => rfl
  | true => rw [xneed_bad _ _ _ hb, hb] at h; cases h
def Ok0 (s : St) : Prop := s.bad = false → s.p = 0
theorem Ok0.step {s : St} (h : Ok0 s) : Ok0 (xStep s) := h
theorem Ok0.fail {ts : List Tok} {s : St} (_ : Ok0 s) : Ok0 (xFail ts s) := by
  unfold xFail
  cases hb : s.bad with
  | false => intro e; cases e
  | true => intro e; simp [hb] at e
theorem Ok0.need {ts : List Tok} {s : St} {t : ByteArray} (h : Ok0 s) : Ok0 (xNeed ts s t) := by
  unfold xNeed
  split
  · exact h.step
  · exact h.fail
theorem Ok0.word {ts : List Tok} {s : St} {k : Int} (h : Ok0 s) : Ok0 (zWs ts s k) := by
  unfold zWs
  split
  · exact h.step
  · exact h.fail
theorem yVars_ok {ts : List Tok} : ∀ (f : Nat) (s : St) (acc l : List ByteArray) (s' : St), Ok0 s → yVars f ts s acc = some (l, s') → Ok0 s' := by
  intro f
  induction f with
  | zero => intro s acc l s' _ h; simp [yVars] at h
  | succ f ih =>
    intro s acc l s' h0 h
    unfold yVars at h
    split at h
    · exact ih _ _ _ _ h0.step h
    · simp only [Option.some.injEq, Prod.mk.injEq] at h
      rw [← h.2]; exact h0
/-- Two results say the same. -/
structure EqS (T : Ex) (s : St) (T' : Ex) (s' : St) : Prop where
  bad : s'.bad = s.bad
  good : s.bad = false → T' = T ∧ s' = s
  p : s.bad = true → s'.p = s.p
  ok : Ok0 s
theorem EqS.both {T T' : Ex} {s s' : St} (h1 : s.bad = true) (h2 : s'.bad = true) (h3 : s'.p = s.p) : EqS T s T' s' :=
  ⟨by rw [h1, h2], fun h => (by rw [h1] at h; cases h), fun _ => h3, fun h => (by rw [h1] at h; cases h)⟩
theorem EqS.same {T : Ex} {s : St} (h : Ok0 s) : EqS T s T s := ⟨rfl, fun _ => ⟨rfl, rfl⟩, fun _ => rfl, h⟩
theorem EqS.cases {T T' : Ex} {s s' : St} (h : EqS T s T' s') : (s.bad = true ∧ s'.bad = true ∧ s'.p = s.p) ∨ (s.bad = false ∧ T' = T ∧ s' = s ∧ Ok0 s) := by
  cases hb : s.bad with
  | true => exact .inl ⟨rfl, by rw [h.bad, hb], h.p hb⟩
  | false => exact .inr ⟨rfl, (h.good hb).1, (h.good hb).2, h.ok⟩

theorem expr_bad {ts : List Tok} {f : Nat} {s s' : St} {T : Ex} {s1 : St} (hs : s.bad = true) (hs' : s'.bad = true) (hv : TkVal ts) (h : yExpr f ts s = some (T, s1)) : s1 = s ∧ zRead f ts s' = some (zEx, s') := by
  cases f with
  | zero => simp [yExpr] at h
  | succ f =>
  unfold yExpr at h
  rw [yM_eq hv s k92, yW_eq hv s kLet, yW_eq hv s kCase, xI_bad hs, xI_bad hs, xI_bad hs] at h
  simp only [Bool.false_eq_true, if_false] at h
  unfold zRead
  rw [xI_bad hs', xI_bad hs', xI_bad hs']
  simp only [Bool.false_eq_true, if_false]
  cases f with
  | zero => simp [yApp] at h
  | succ f =>
  unfold yApp at h
  unfold zApp
  cases f with
  | zero => simp [yAtom] at h
  | succ f =>
  unfold yAtom at h
  unfold zAtom
  rw [stB_bad hs] at h
  rw [xK_bad hs', xK_bad hs', xK_bad hs', xI_bad hs', xI_bad hs', xneed_bad _ _ _ hs', hs']
  simp only [Bool.false_eq_true, if_false, if_true] at h ⊢
  rw [xFail_bad hs] at h
  unfold yApps at h
  unfold zApps
  rw [stB_bad hs] at h
  rw [stB_bad hs']
  simp only [Bool.false_eq_true, if_false, Option.some.injEq, Prod.mk.injEq] at h ⊢
  exact ⟨h.2.symm, trivial⟩
theorem arm_bad {ts : List Tok} {f : Nat} {s s' : St} {A : AH × Ex} {s1 : St} (hs : s.bad = true) (hs' : s'.bad = true) (hv : TkVal ts) (h : yArm f ts s = some (A, s1)) : s1 = s ∧ zArm f ts s' = some (none, s') := by
  cases f with
  | zero => simp [yArm] at h
  | succ f =>
  unfold yArm at h
  unfold zArm
  rw [yK_eq ts s (by decide), yExp_word, zWs_bad hs] at h
  rw [zWs_bad hs']
  cases f with
  | zero => simp [yVars] at h
  | succ f =>
  rw [yVars_bad hs] at h
  rw [yVars_bad hs']
  dsimp only at h ⊢
  rw [yM_eq hv s k46, yExp_need, xneed_bad _ _ _ hs] at h
  rw [xneed_bad _ _ _ hs', hs']
  simp only [if_true]
  cases he : yExpr (f + 1) ts s with
  | none => rw [he] at h; simp at h
  | some q =>
    obtain ⟨c, s2⟩ := q
    rw [he] at h
    simp only [Option.some.injEq, Prod.mk.injEq] at h
    exact ⟨h.2.symm.trans (expr_bad hs hs hv he).1, trivial⟩
theorem arms_bad {ts : List Tok} {f : Nat} {s s' : St} {l acc : List (AH × Ex)} {s1 : St} (hs : s.bad = true) (hs' : s'.bad = true) (hv : TkVal ts) (h : yArms f ts s acc = some (l, s1)) (p : Int) (a : Ex) (acc' : List (AH × Ex)) :
    s1 = s ∧ zArms f ts s' p a acc' = some (.mk 8 p ⟨#[]⟩ 0 zTy [a] acc', s') := by
  cases f with
  | zero => simp [yArms] at h
  | succ f =>
  unfold yArms at h
  unfold zArms
  rw [yM_eq hv s k124, xI_bad hs] at h
  rw [xI_bad hs', xneed_bad _ _ _ hs']
  simp only [Bool.false_eq_true, if_false, Option.some.injEq, Prod.mk.injEq] at h ⊢
  exact ⟨h.2.symm, trivial⟩
/-- A type behind a colon. -/
theorem typ_same {ts : List Tok} (hv : TkVal ts) {s : St} (hs : s.bad = false) (h0 : Ok0 s) (hi : s.i ≤ ts.length) :
    ∃ t s2, xType (3 * ts.length + 3) ts s = some (t, s2) ∧ s2.bad = (yTyR ts s).2.bad ∧ ((yTyR ts s).2.bad = false → t = (yTyR ts s).1 ∧ s2 = (yTyR ts s).2) ∧ ((yTyR ts s).2.bad = true → s2.p = (yTyR ts s).2.p) ∧ Ok0 (yTyR ts s).2 := by
  obtain ⟨i, q, p⟩ := s
  dsimp only at hs hi
  subst hs
  have hp : p = 0 := h0 rfl
  subst hp
  have hsa : startAt ts (i : Int) = i := by unfold startAt; split <;> omega
  obtain ⟨R, hR⟩ := (ends_all ts (3 * ts.length + 3)).2.1 i hi (by omega)
  obtain ⟨⟨t, s2⟩, hx, hr⟩ := (same_all ts hv (3 * ts.length + 3)).2.1 i R hR
  have hrd : rdT ts (i : Int) = resQ ts R := by unfold rdT; rw [hsa, hR]; rfl
  refine ⟨t, s2, hx, ?_⟩
  unfold yTyR
  dsimp only
  rw [hrd]
  cases R with
  | ok U j =>
    have e : (t, s2) = (U, (⟨j, false, 0⟩ : St)) := hr
    simp only [Prod.mk.injEq] at e
    obtain ⟨rfl, rfl⟩ := e
    simp [resQ, Ok0]
  | bad p =>
    obtain ⟨h1, h2⟩ := hr
    dsimp only at h1 h2
    simp [resQ, yFl, h1, h2, Ok0]
end Go.Proofs.Ytgfjcpeeoapjlaa

/- The two readings of an expression find the same. -/
namespace Go.Proofs.Ytgfjcpeeoapjlaa
open Go.RowKit Go.Maps Mth

theorem stB_eq {ts : List Tok} (hv : TkVal ts) (s : St) : stB (yK ts s) (yT ts s) = (xK ts s 1 || xK ts s 2 || xK ts s 3 || xI ts s ⟨#[63]⟩ || xI ts s ⟨#[40]⟩ || xI ts s ⟨#[123]⟩) := by
  rw [← yK_eq ts s (k := 1) (by decide), ← yK_eq ts s (k := 2) (by decide), ← yK_eq ts s (k := 3) (by decide), ← yM_eq hv s k63, ← yM_eq hv s m40, ← yM_eq hv s k123]
  rfl
theorem xI_kinds {ts : List Tok} (hv : TkVal ts) {s : St} {t : ByteArray} (ht : rkind (bl t) = 5) (h : xI ts s t = true) : yK ts s = 5 ∧ (yT ts s).toList = t.toList := by
  rw [← yM_eq hv s ht] at h
  unfold yM at h
  simpa using h
theorem xK_kind {ts : List Tok} {s : St} {k : Int} (hk : k ≠ 0) (h : xK ts s k = true) : yK ts s = k := by
  rw [← yK_eq ts s hk] at h
  simpa using h
theorem yT_good {ts : List Tok} {s : St} (h : s.bad = false) : yT ts s = txt ts s.i := by unfold yT; rw [h]; rfl
theorem yP_good {ts : List Tok} {s : St} (h : s.bad = false) : yP ts s = tkP ts s.i := by unfold yP; rw [h]; rfl
theorem zW_yes {ts : List Tok} {s : St} {k : Int} (h : xK ts s k = true) : zW ts s k = yT ts s := by
  rw [yT_good (xK_good h).1]; unfold zW; rw [h]; rfl
structure Sm (ts : List Tok) (f : Nat) : Prop where
  expr : ∀ s T s1, Ok0 s → yExpr f ts s = some (T, s1) → ∃ T' s1', zRead f ts s = some (T', s1') ∧ EqS T s1 T' s1'
  fn : ∀ s T s1, Ok0 s → s.bad = false → yFun f ts s = some (T, s1) → ∃ T' s1', zFun f ts s = some (T', s1') ∧ EqS T s1 T' s1'
  loc : ∀ s T s1, Ok0 s → yLoc f ts s = some (T, s1) → ∃ T' s1', zLoc f ts s = some (T', s1') ∧ EqS T s1 T' s1'
  loc2 : ∀ k p s T s1, Ok0 s → yLoc2 f ts k p s = some (T, s1) → ∃ T' s1', zLoc2 f ts k p s = some (T', s1') ∧ EqS T s1 T' s1'
  cas : ∀ s T s1, Ok0 s → yCas f ts s = some (T, s1) → ∃ T' s1', zCas f ts (xStep s) (tkP ts s.i) = some (T', s1') ∧ EqS T s1 T' s1'
  arms : ∀ s p a acc l s1, Ok0 s → yArms f ts s acc = some (l, s1) → ∃ T' s1', zArms f ts s p a acc = some (T', s1') ∧ EqS (.mk 8 p ⟨#[]⟩ 0 zTy [a] l) (xNeed ts s1 ⟨#[101, 110, 100]⟩) T' s1'
  arm : ∀ s A s1, Ok0 s → yArm f ts s = some (A, s1) → ∃ A' s1', zArm f ts s = some (A', s1') ∧ ((s1.bad = true ∧ s1'.bad = true ∧ s1'.p = s1.p) ∨ (s1.bad = false ∧ A' = some A ∧ s1' = s1 ∧ Ok0 s1))
  app : ∀ s T s1, Ok0 s → yApp f ts s = some (T, s1) → ∃ T' s1', zApp f ts s = some (T', s1') ∧ EqS T s1 T' s1'
  apps : ∀ s e T s1, Ok0 s → yApps f ts s e = some (T, s1) → ∃ T' s1', zApps f ts s e = some (T', s1') ∧ EqS T s1 T' s1'
  atom : ∀ s T s1, Ok0 s → yAtom f ts s = some (T, s1) → ∃ T' s1', zAtom f ts s = some (T', s1') ∧ EqS T s1 T' s1'
  enc : ∀ s p T s1, Ok0 s → yEnc f ts s p = some (T, s1) → ∃ T' s1', zEnc f ts s p = some (T', s1') ∧ EqS T s1 T' s1'
  held : ∀ s p T s1, Ok0 s → yHeld f ts s p = some (T, s1) → ∃ T' s1', zHeld f ts s p = some (T', s1') ∧ EqS T s1 T' s1'
theorem apps_bad {ts : List Tok} {f : Nat} {s s' : St} {e e' T : Ex} {s1 : St} (hs : s.bad = true) (hs' : s'.bad = true) (h : yApps f ts s e = some (T, s1)) : s1 = s ∧ zApps f ts s' e' = some (e', s') := by
  cases f with
  | zero => simp [yApps] at h
  | succ f =>
  unfold yApps at h
  unfold zApps
  rw [stB_bad hs] at h
  rw [stB_bad hs']
  simp only [Bool.false_eq_true, if_false, Option.some.injEq, Prod.mk.injEq] at h ⊢
  exact ⟨h.2.symm, trivial⟩
theorem EqS.need {T T' U U' : Ex} {s s' : St} {ts : List Tok} {t : ByteArray} (h : EqS T s T' s') (hU : s.bad = false → T' = T → U' = U) : EqS U (xNeed ts s t) U' (xNeed ts s' t) := by
  rcases h.cases with ⟨h1, h2, h3⟩ | ⟨h1, h2, h3, h4⟩
  · rw [xneed_bad _ _ _ h1, xneed_bad _ _ _ h2]; exact .both h1 h2 h3
  · subst h3; rw [hU h1 h2]; exact .same h4.need
theorem EqS.map {T T' U U' : Ex} {s s' : St} (h : EqS T s T' s') (hU : s.bad = false → T' = T → U' = U) : EqS U s U' s' := by
  rcases h.cases with ⟨h1, h2, h3⟩ | ⟨h1, h2, h3, h4⟩
  · exact .both h1 h2 h3
  · subst h3; rw [hU h1 h2]; exact .same h4
set_option maxHeartbeats 1600000 in
theorem same_ex (ts : List Tok) (hv : TkVal ts) : ∀ f, Sm ts f := by
  intro f
  induction f with
  | zero => constructor <;> intros <;> simp_all [yExpr, yFun, yLoc, yLoc2, yCas, yArms, yArm, yApp, yApps, yAtom, yEnc, yHeld]
  | succ f ih =>
    refine ⟨?_, ?_, ?_, ?_, ?_, ?_, ?_, ?_, ?_, ?_, ?_, ?_⟩
    · intro s T s1 h0 h
      unfold yExpr at h
      unfold zRead
      rw [yM_eq hv s k92, yW_eq hv s kLet, yW_eq hv s kCase] at h
      cases h1 : xI ts s ⟨#[92]⟩ with
      | true =>
        rw [h1] at h
        simp only [if_true] at h ⊢
        exact ih.fn s T s1 h0 (xI_good h1).1 h
      | false =>
        rw [h1] at h
        simp only [Bool.false_eq_true, if_false] at h ⊢
        cases h2 : xI ts s ⟨#[108, 101, 116]⟩ with
        | true =>
          rw [h2] at h
          simp only [if_true] at h ⊢
          exact ih.loc s T s1 h0 h
        | false =>
          rw [h2] at h
          simp only [Bool.false_eq_true, if_false] at h ⊢
          cases h3 : xI ts s ⟨#[99, 97, 115, 101]⟩ with
          | true =>
            rw [h3] at h
            simp only [if_true] at h ⊢
            exact ih.cas s T s1 h0 h
          | false =>
            rw [h3] at h
            simp only [Bool.false_eq_true, if_false] at h ⊢
            exact ih.app s T s1 h0 h
    · intro s T s1 h0 hg h
      unfold yFun at h
      unfold zFun
      rw [yK_eq ts (xStep s) (by decide), yExp_word, yM_eq hv _ k46, yExp_need] at h
      cases he : yExpr f ts (xNeed ts (zWs ts (xStep s) 1) ⟨#[46]⟩) with
      | none => rw [he] at h; simp at h
      | some q =>
        obtain ⟨a, s2⟩ := q
        rw [he] at h
        simp only [Option.some.injEq, Prod.mk.injEq] at h
        obtain ⟨rfl, rfl⟩ := h
        cases hb : (xNeed ts (zWs ts (xStep s) 1) ⟨#[46]⟩).bad with
        | true =>
          simp only [if_true]
          have := (expr_bad hb hb hv he).1
          subst this
          exact ⟨_, _, rfl, .both hb hb rfl⟩
        | false =>
          simp only [Bool.false_eq_true, if_false]
          obtain ⟨a', s2', hz, hE⟩ := ih.expr _ a s2 h0.step.word.need he
          rw [hz]
          exact ⟨_, _, rfl, hE.map fun _ e => by rw [e, zW_yes (need_word hb)]⟩
    · intro s T s1 h0 h
      unfold yLoc at h
      unfold zLoc xSkip
      rw [yW_eq hv _ kRec] at h
      exact ih.loc2 _ _ _ T s1 (by split <;> exact h0) h
    · intro k p s T s1 h0 h
      unfold yLoc2 at h
      unfold zLoc2
      rw [yK_eq ts s (by decide), yExp_word, yM_eq hv _ k61, yExp_need] at h
      cases he : yExpr f ts (xNeed ts (zWs ts s 1) ⟨#[61]⟩) with
      | none => rw [he] at h; simp at h
      | some q =>
        obtain ⟨a, s2⟩ := q
        rw [he] at h
        dsimp only at h
        rw [yW_eq hv _ kIn, yExp_need] at h
        cases hc : yExpr f ts (xNeed ts s2 ⟨#[105, 110]⟩) with
        | none => rw [hc] at h; simp at h
        | some q2 =>
          obtain ⟨c, s3⟩ := q2
          rw [hc] at h
          simp only [Option.some.injEq, Prod.mk.injEq] at h
          obtain ⟨rfl, rfl⟩ := h
          cases hb : (xNeed ts (zWs ts s 1) ⟨#[61]⟩).bad with
          | true =>
            simp only [if_true]
            have e1 := (expr_bad hb hb hv he).1
            subst e1
            have hn := xneed_bad ts _ ⟨#[105, 110]⟩ hb
            rw [hn] at hc
            have e2 := (expr_bad hb hb hv hc).1
            subst e2
            exact ⟨_, _, rfl, .both hb hb rfl⟩
          | false =>
            simp only [Bool.false_eq_true, if_false]
            obtain ⟨a', s2', hz, hE⟩ := ih.expr _ a s2 h0.word.need he
            rw [hz]
            dsimp only
            rcases hE.cases with ⟨h1, h2, h3⟩ | ⟨h1, rfl, rfl, h4⟩
            · rw [xneed_bad _ _ _ h1] at hc
              have e2 := (expr_bad h1 h1 hv hc).1
              subst e2
              rw [xneed_bad _ _ _ h2, h2]
              simp only [if_true]
              exact ⟨_, _, rfl, .both h1 h2 h3⟩
            · cases hb2 : (xNeed ts s2' ⟨#[105, 110]⟩).bad with
              | true =>
                simp only [if_true]
                have e2 := (expr_bad hb2 hb2 hv hc).1
                subst e2
                exact ⟨_, _, rfl, .both hb2 hb2 rfl⟩
              | false =>
                simp only [Bool.false_eq_true, if_false]
                obtain ⟨c', s3', hz2, hE2⟩ := ih.expr _ c s3 h4.need hc
                rw [hz2]
                exact ⟨_, _, rfl, hE2.map fun _ e => by rw [e, zW_yes (need_word hb)]⟩
    · intro s T s1 h0 h
      unfold yCas at h
      unfold zCas
      cases he : yExpr f ts (xStep s) with
      | none => rw [he] at h; simp at h
      | some q =>
        obtain ⟨a, s2⟩ := q
        rw [he] at h
        dsimp only at h
        rw [yW_eq hv _ kOf, yExp_need] at h
        cases hA : yArm f ts (xNeed ts s2 ⟨#[111, 102]⟩) with
        | none => rw [hA] at h; simp at h
        | some q2 =>
          obtain ⟨A, s3⟩ := q2
          rw [hA] at h
          dsimp only at h
          cases hl : yArms f ts s3 [A] with
          | none => rw [hl] at h; simp at h
          | some q3 =>
            obtain ⟨l, s4⟩ := q3
            rw [hl] at h
            dsimp only at h
            rw [yW_eq hv _ kEnd, yExp_need] at h
            simp only [Option.some.injEq, Prod.mk.injEq] at h
            obtain ⟨rfl, rfl⟩ := h
            obtain ⟨a', s2', hz, hE⟩ := ih.expr _ a s2 h0.step he
            rw [hz]
            dsimp only
            rcases hE.cases with ⟨h1, h2, h3⟩ | ⟨h1, rfl, rfl, h4⟩
            · rw [xneed_bad _ _ _ h1] at hA
              obtain ⟨e2, hzA⟩ := arm_bad h1 h2 hv hA
              subst e2
              have e3 := (arms_bad h1 h1 hv hl 0 zEx []).1
              subst e3
              rw [xneed_bad _ _ _ h2, hzA, xneed_bad _ _ _ h1]
              exact ⟨_, _, rfl, .both h1 h2 h3⟩
            · obtain ⟨A', s3', hzA, hc⟩ := ih.arm _ A s3 h4.need hA
              rw [hzA]
              rcases hc with ⟨h1, h2, h3⟩ | ⟨h1, rfl, rfl, h5⟩
              · obtain ⟨e3, hz3⟩ := arms_bad h1 h2 hv hl (tkP ts s.i) a' [A'.getD (⟨0, ⟨#[]⟩, []⟩, zEx)]
                subst e3
                rw [xneed_bad _ _ _ h1]
                cases A' with
                | none => exact ⟨_, _, rfl, .both h1 h2 h3⟩
                | some A' => exact ⟨_, _, hz3, .both h1 h2 h3⟩
              · exact ih.arms _ _ _ _ l s4 h5 hl
    · intro s p a acc l s1 h0 h
      unfold yArms at h
      unfold zArms
      rw [yM_eq hv s k124] at h
      cases h1 : xI ts s ⟨#[124]⟩ with
      | false =>
        rw [h1] at h
        simp only [Bool.false_eq_true, if_false, Option.some.injEq, Prod.mk.injEq] at h ⊢
        obtain ⟨rfl, rfl⟩ := h
        exact ⟨_, _, ⟨rfl, rfl⟩, .same h0.need⟩
      | true =>
        rw [h1] at h
        simp only [if_true] at h ⊢
        cases hA : yArm f ts (xStep s) with
        | none => rw [hA] at h; simp at h
        | some q2 =>
          obtain ⟨A, s3⟩ := q2
          rw [hA] at h
          dsimp only at h
          obtain ⟨A', s3', hzA, hc⟩ := ih.arm _ A s3 h0.step hA
          rw [hzA]
          rcases hc with ⟨h1, h2, h3⟩ | ⟨h1, rfl, rfl, h5⟩
          · obtain ⟨e3, hz3⟩ := arms_bad h1 h2 hv h p a (acc ++ [A'.getD (⟨0, ⟨#[]⟩, []⟩, zEx)])
            subst e3
            rw [xneed_bad _ _ _ h1]
            cases A' with
            | none => exact ⟨_, _, rfl, .both h1 h2 h3⟩
            | some A' => exact ⟨_, _, hz3, .both h1 h2 h3⟩
          · exact ih.arms _ _ _ _ l s1 h5 h
    · intro s A s1 h0 h
      unfold yArm at h
      unfold zArm
      rw [yK_eq ts s (by decide), yExp_word] at h
      cases hvs : yVars f ts (zWs ts s 2) [] with
      | none => rw [hvs] at h; simp at h
      | some q =>
        obtain ⟨vs, s2⟩ := q
        rw [hvs] at h
        dsimp only at h ⊢
        rw [yM_eq hv _ k46, yExp_need] at h
        cases hc : yExpr f ts (xNeed ts s2 ⟨#[46]⟩) with
        | none => rw [hc] at h; simp at h
        | some q2 =>
          obtain ⟨c, s3⟩ := q2
          rw [hc] at h
          simp only [Option.some.injEq, Prod.mk.injEq] at h
          obtain ⟨rfl, rfl⟩ := h
          cases hb : (xNeed ts s2 ⟨#[46]⟩).bad with
          | true =>
            have e2 := (expr_bad hb hb hv hc).1
            subst e2
            simp only [if_true]
            exact ⟨_, _, rfl, .inl ⟨hb, hb, rfl⟩⟩
          | false =>
            simp only [Bool.false_eq_true, if_false]
            obtain ⟨c', s3', hz, hE⟩ := ih.expr _ c s3 (yVars_ok _ _ _ _ _ h0.word hvs).need hc
            rw [hz]
            refine ⟨_, _, rfl, ?_⟩
            have hk : xK ts s 2 = true := by
              cases hk : xK ts s 2 with
              | true => rfl
              | false =>
                exfalso
                have hbw : (zWs ts s 2).bad = true := by
                  unfold zWs; rw [hk]
                  unfold xFail
                  cases hq : s.bad <;> simp [hq]
                cases f with
                | zero => simp [yVars] at hvs
                | succ f =>
                  rw [yVars_bad hbw] at hvs
                  simp only [Option.some.injEq, Prod.mk.injEq] at hvs
                  obtain ⟨-, rfl⟩ := hvs
                  rw [need_good hb] at hbw
                  cases hbw
            rcases hE.cases with ⟨h1, h2, h3⟩ | ⟨h1, rfl, rfl, h4⟩
            · exact .inl ⟨h1, h2, h3⟩
            · exact .inr ⟨h1, by rw [zW_yes hk, yP_good (xK_good hk).1], rfl, h4⟩
    · intro s T s1 h0 h
      unfold yApp at h
      unfold zApp
      cases he : yAtom f ts s with
      | none => rw [he] at h; simp at h
      | some q =>
        obtain ⟨e, s2⟩ := q
        rw [he] at h
        dsimp only at h
        obtain ⟨e', s2', hz, hE⟩ := ih.atom s e s2 h0 he
        rw [hz]
        rcases hE.cases with ⟨h1, h2, h3⟩ | ⟨h1, rfl, rfl, h4⟩
        · obtain ⟨e3, hz3⟩ := apps_bad (e' := e') h1 h2 h
          subst e3
          exact ⟨_, _, hz3, .both h1 h2 h3⟩
        · exact ih.apps _ _ T s1 h4 h
    · intro s e T s1 h0 h
      unfold yApps at h
      unfold zApps
      cases hq : stB (yK ts s) (yT ts s) with
      | false =>
        rw [hq] at h
        simp only [Bool.false_eq_true, if_false, Option.some.injEq, Prod.mk.injEq] at h ⊢
        obtain ⟨rfl, rfl⟩ := h
        exact ⟨_, _, ⟨rfl, rfl⟩, .same h0⟩
      | true =>
        rw [hq] at h
        simp only [if_true] at h ⊢
        cases he : yAtom f ts s with
        | none => rw [he] at h; simp at h
        | some q =>
          obtain ⟨u, s2⟩ := q
          rw [he] at h
          dsimp only at h
          obtain ⟨u', s2', hz, hE⟩ := ih.atom s u s2 h0 he
          rw [hz]
          rcases hE.cases with ⟨h1, h2, h3⟩ | ⟨h1, rfl, rfl, h4⟩
          · obtain ⟨e3, hz3⟩ := apps_bad (e' := .mk 5 e.p ⟨#[]⟩ 0 zTy [e, u'] []) h1 h2 h
            subst e3
            exact ⟨_, _, hz3, .both h1 h2 h3⟩
          · exact ih.apps _ _ T s1 h4 h
    · intro s T s1 h0 h
      unfold yAtom at h
      unfold zAtom
      rw [stB_eq hv, yK_eq ts s (k := 1) (by decide), yK_eq ts s (k := 2) (by decide), yK_eq ts s (k := 3) (by decide)] at h
      cases h1 : xK ts s 1 with
      | true =>
        rw [h1] at h
        simp only [Bool.true_or, if_true, Option.some.injEq, Prod.mk.injEq] at h ⊢
        obtain ⟨rfl, rfl⟩ := h
        rw [yT_good (xK_good h1).1, yP_good (xK_good h1).1]
        exact ⟨_, _, ⟨rfl, rfl⟩, .same h0.step⟩
      | false =>
        rw [h1] at h
        cases h2 : xK ts s 2 with
        | true =>
          rw [h2] at h
          simp only [Bool.false_or, Bool.true_or, if_true, Bool.false_eq_true, if_false, Option.some.injEq, Prod.mk.injEq] at h ⊢
          obtain ⟨rfl, rfl⟩ := h
          rw [yT_good (xK_good h2).1, yP_good (xK_good h2).1]
          exact ⟨_, _, ⟨rfl, rfl⟩, .same h0.step⟩
        | false =>
          rw [h2] at h
          cases h3 : xK ts s 3 with
          | true =>
            rw [h3] at h
            simp only [Bool.false_or, Bool.true_or, if_true, Bool.false_eq_true, if_false, Option.some.injEq, Prod.mk.injEq] at h ⊢
            obtain ⟨rfl, rfl⟩ := h
            rw [yT_good (xK_good h3).1, yP_good (xK_good h3).1]
            exact ⟨_, _, ⟨rfl, rfl⟩, .same h0.step⟩
          | false =>
            rw [h3] at h
            cases h4 : xI ts s ⟨#[63]⟩ with
            | true =>
              rw [h4] at h
              have ht := (xI_kinds hv k63 h4).2
              have e1 : ((yT ts s).toList == (⟨#[40]⟩ : ByteArray).toList) = false := by rw [ht]; decide +kernel
              have e2 : ((yT ts s).toList == (⟨#[123]⟩ : ByteArray).toList) = false := by rw [ht]; decide +kernel
              rw [e1, e2] at h
              simp only [Bool.false_or, Bool.true_or, if_true, Bool.false_eq_true, if_false, Option.some.injEq, Prod.mk.injEq] at h ⊢
              obtain ⟨rfl, rfl⟩ := h
              rw [yP_good (xI_good h4).1]
              exact ⟨_, _, ⟨rfl, rfl⟩, .same h0.step⟩
            | false =>
              rw [h4] at h
              cases h5 : xI ts s ⟨#[123]⟩ with
              | true =>
                rw [h5] at h
                have ht := (xI_kinds hv k123 h5).2
                have e1 : ((yT ts s).toList == (⟨#[40]⟩ : ByteArray).toList) = false := by rw [ht]; decide +kernel
                have e2 : ((yT ts s).toList == (⟨#[123]⟩ : ByteArray).toList) = true := by rw [ht]; decide +kernel
                rw [e1, e2] at h
                simp only [Bool.or_true, if_true, Bool.false_eq_true, if_false] at h ⊢
                rw [yP_good (xI_good h5).1] at h
                exact ih.held _ _ T s1 h0.step h
              | false =>
                rw [h5] at h
                cases h6 : xI ts s ⟨#[40]⟩ with
                | true =>
                  rw [h6] at h
                  have ht := (xI_kinds hv m40 h6).2
                  have e1 : ((yT ts s).toList == (⟨#[40]⟩ : ByteArray).toList) = true := by rw [ht]; decide +kernel
                  rw [e1] at h
                  have e3 : xNeed ts s ⟨#[40]⟩ = xStep s := by unfold xNeed; rw [h6]; rfl
                  have e4 : (xStep s).bad = false := (xI_good h6).1
                  simp only [Bool.or_true, Bool.or_false, if_true, Bool.false_eq_true, if_false] at h ⊢
                  rw [e3, e4]
                  simp only [Bool.false_eq_true, if_false]
                  rw [yP_good (xI_good h6).1] at h
                  exact ih.enc _ _ T s1 h0.step h
                | false =>
                  rw [h6] at h
                  have e3 : xNeed ts s ⟨#[40]⟩ = xFail ts s := by unfold xNeed; rw [h6]; rfl
                  have e4 : (xFail ts s).bad = true := by
                    unfold xFail
                    cases hq : s.bad <;> simp [hq]
                  simp only [Bool.or_false, Bool.false_eq_true, if_false, Option.some.injEq, Prod.mk.injEq] at h ⊢
                  obtain ⟨rfl, rfl⟩ := h
                  rw [e3, e4]
                  simp only [if_true]
                  exact ⟨_, _, rfl, .same h0.fail⟩
    · intro s p T s1 h0 h
      unfold yEnc at h
      unfold zEnc
      cases he : yExpr f ts s with
      | none => rw [he] at h; simp at h
      | some q =>
        obtain ⟨e, s2⟩ := q
        rw [he] at h
        dsimp only at h
        obtain ⟨e', s2', hz, hE⟩ := ih.expr s e s2 h0 he
        rw [hz]
        dsimp only
        rw [yM_eq hv _ k58, yM_eq hv _ m41, yM_eq hv _ m41, yExp_need, yExp_need] at h
        rcases hE.cases with ⟨h1, h2, h3⟩ | ⟨h1, rfl, rfl, h4⟩
        · rw [xI_bad h1] at h
          rw [xI_bad h2]
          simp only [Bool.false_eq_true, if_false, Option.some.injEq, Prod.mk.injEq] at h ⊢
          obtain ⟨rfl, rfl⟩ := h
          rw [xneed_bad _ _ _ h1]
          exact ⟨_, _, ⟨rfl, rfl⟩, by rw [xneed_bad _ _ _ h2]; exact .both h1 h2 h3⟩
        · cases hq : xI ts s2' ⟨#[58]⟩ with
          | false =>
            rw [hq] at h
            simp only [Bool.false_eq_true, if_false, Option.some.injEq, Prod.mk.injEq] at h ⊢
            obtain ⟨rfl, rfl⟩ := h
            exact ⟨_, _, ⟨rfl, rfl⟩, .same h4.need⟩
          | true =>
            rw [hq] at h
            simp only [if_true, Option.some.injEq, Prod.mk.injEq] at h ⊢
            obtain ⟨rfl, rfl⟩ := h
            obtain ⟨t, s3, hx, g1, g2, g3, g4⟩ := typ_same hv (s := xStep s2') (xI_good hq).1 h4.step (xI_good hq).2.1
            rw [hx]
            refine ⟨_, _, rfl, ?_⟩
            cases hb : (yTyR ts (xStep s2')).2.bad with
            | true =>
              rw [hb] at g1
              rw [xneed_bad _ _ _ hb, xneed_bad _ _ _ g1]
              exact .both hb g1 (g3 hb)
            | false =>
              obtain ⟨rfl, rfl⟩ := g2 hb
              exact .same g4.need
    · intro s p T s1 h0 h
      unfold yHeld at h
      unfold zHeld
      cases he : yExpr f ts s with
      | none => rw [he] at h; simp at h
      | some q =>
        obtain ⟨e, s2⟩ := q
        rw [he] at h
        dsimp only at h
        rw [yM_eq hv _ k125, yExp_need] at h
        simp only [Option.some.injEq, Prod.mk.injEq] at h
        obtain ⟨rfl, rfl⟩ := h
        obtain ⟨e', s2', hz, hE⟩ := ih.expr s e s2 h0 he
        rw [hz]
        exact ⟨_, _, rfl, hE.need fun _ e => by rw [e]⟩
end Go.Proofs.Ytgfjcpeeoapjlaa

/- The reference's reader of expressions: its memory while it reads. -/
namespace Go.Proofs.Ytgfjcpeeoapjlaa
open Go.RowKit Go.Maps Mth

/-- What holds while a method reads: its result's variable, and a variable of its own. -/
structure EX (w v : World) (b R0 R1 : Nat) (ts : List Tok) (s : St) (c : List Value) : Prop where
  rd : RdX v b ts s
  res : BoxC 36 v R0 zExC
  box : BoxC 36 v R1 c
  grown : w.grownBy v (some b)
  h0 : w.heap.size ≤ R0
  h1 : R0 < R1
  hb : b < w.heap.size
theorem EX.lt {w v : World} {b R0 R1 : Nat} {ts : List Tok} {s : St} {c : List Value} (h : EX w v b R0 R1 ts s c) : R1 < v.heap.size := h.box.lt
theorem EX.call {w v v' : World} {b R0 R1 : Nat} {ts : List Tok} {s s' : St} {c : List Value} (h : EX w v b R0 R1 ts s c) (hr : RdX v' b ts s') (hg : v.grownBy v' (some b)) : EX w v' b R0 R1 ts s' c :=
  ⟨hr, h.res.grown hg (by have := h.hb; have := h.h0; intro e; have := Option.some.inj e; omega), h.box.grown hg (by have := h.hb; have := h.h0; have := h.h1; intro e; have := Option.some.inj e; omega), grown_trans h.grown hg, h.h0, h.h1, h.hb⟩
theorem EX.lift {w v v' : World} {b R0 R1 : Nat} {ts : List Tok} {s : St} {c : List Value} (h : EX w v b R0 R1 ts s c) (hb : Below v.heap.size v v') : EX w v' b R0 R1 ts s c :=
  h.call (h.rd.lift hb) (below_grown_some hb b)
theorem EX.set {w v : World} {b R0 R1 : Nat} {ts : List Tok} {s : St} {c : List Value} (h : EX w v b R0 R1 ts s c) (m : Nat) (u : Value) : EX w (v.setCell ⟨R1, m, none⟩ u) b R0 R1 ts s (c.set m u) := by
  obtain ⟨h1, h2, -⟩ := h.box.set m u
  have := h.hb; have := h.h0; have h01 := h.h1
  exact ⟨h.rd.other (by omega) h2, h.res.grown h2 (by intro e; have := Option.some.inj e; omega), h1, grown_fresh h.grown h2 (fun k e => by have := Option.some.inj e; omega), h.h0, h01, h.hb⟩
theorem EX.row {w v v' : World} {b R0 R1 : Nat} {ts : List Tok} {s : St} {c c' : List Value} (h : EX w v b R0 R1 ts s c) (h1 : BoxC 36 v' R1 c') (h2 : v.grownBy v' (some R1)) : EX w v' b R0 R1 ts s c' := by
  have := h.hb; have := h.h0; have h01 := h.h1
  exact ⟨h.rd.other (by omega) h2, h.res.grown h2 (by intro e; have := Option.some.inj e; omega), h1, grown_fresh h.grown h2 (fun k e => by have := Option.some.inj e; omega), h.h0, h01, h.hb⟩
/-- The end: the result is stored. -/
theorem EX.fin {w v v' : World} {b R0 R1 : Nat} {ts : List Tok} {s : St} {c : List Value} (h : EX w v b R0 R1 ts s c) (hg : v.grownBy v' (some R0)) : RdX v' b ts s ∧ w.grownBy v' (some b) := by
  have := h.hb; have := h.h0; have h01 := h.h1
  exact ⟨h.rd.other (by omega) hg, grown_fresh h.grown hg (fun k e => by have := Option.some.inj e; omega)⟩
/-- What holds before the method's own variable is made. -/
structure PX (w v : World) (b R0 : Nat) (ts : List Tok) (s : St) : Prop where
  rd : RdX v b ts s
  res : BoxC 36 v R0 zExC
  grown : w.grownBy v (some b)
  h0 : w.heap.size ≤ R0
  hb : b < w.heap.size
theorem PX.start {w : World} {b : Nat} {ts : List Tok} {s : St} (h : RdX w b ts s) : PX w (w.alloc (.cells #[.int .i64 0, .int .i64 0, .string ⟨#[]⟩, .int .i64 0, .slice none 0 0, .slice none 0 0, .int .i64 0, .string ⟨#[]⟩, .int .i64 0, .int .i64 0, .slice none 0 0] 36)) b w.heap.size ts s := by
  have hb : Below w.heap.size w (w.alloc (.cells #[.int .i64 0, .int .i64 0, .string ⟨#[]⟩, .int .i64 0, .slice none 0 0, .slice none 0 0, .int .i64 0, .string ⟨#[]⟩, .int .i64 0, .int .i64 0, .slice none 0 0] 36)) := (Below.refl _ w).alloc (Nat.le_refl _) _
  exact ⟨h.lift hb, BoxC.made _ w zExC, below_grown_some hb b, Nat.le_refl _, h.lt⟩
theorem PX.call {w v v' : World} {b R0 : Nat} {ts : List Tok} {s s' : St} (h : PX w v b R0 ts s) (hr : RdX v' b ts s') (hg : v.grownBy v' (some b)) : PX w v' b R0 ts s' :=
  ⟨hr, h.res.grown hg (by have := h.hb; have := h.h0; intro e; have := Option.some.inj e; omega), grown_trans h.grown hg, h.h0, h.hb⟩
theorem PX.lift {w v v' : World} {b R0 : Nat} {ts : List Tok} {s : St} (h : PX w v b R0 ts s) (hb : Below v.heap.size v v') : PX w v' b R0 ts s := h.call (h.rd.lift hb) (below_grown_some hb b)
theorem PX.mk' {w v : World} {b R0 : Nat} {ts : List Tok} {s : St} (h : PX w v b R0 ts s) (c : List Value) : EX w (v.alloc (.cells c.toArray 36)) b R0 v.heap.size ts s c := by
  have h1 := h.lift ((Below.refl _ v).alloc (Nat.le_refl _) (.cells c.toArray 36))
  exact ⟨h1.rd, h1.res, BoxC.made _ v c, h1.grown, h.h0, h.res.lt, h.hb⟩
theorem PX.fin {w v v' : World} {b R0 : Nat} {ts : List Tok} {s : St} (h : PX w v b R0 ts s) (hg : v.grownBy v' (some R0)) : RdX v' b ts s ∧ w.grownBy v' (some b) := by
  have := h.hb; have := h.h0
  exact ⟨h.rd.other (by omega) hg, grown_fresh h.grown hg (fun k e => by have := Option.some.inj e; omega)⟩
theorem EX.pb {w v : World} {b R0 R1 : Nat} {ts : List Tok} {s : St} {c : List Value} (h : EX w v b R0 R1 ts s c) : PX w v b R0 ts s := ⟨h.rd, h.res, h.grown, h.h0, h.hb⟩
/-- What a method returns: its own variable, stored into the result. -/
theorem EX.ret {w v v' : World} {b R0 R1 base : Nat} {ts : List Tok} {s : St} {c c' : List Value} {T : Ex} (h : EX w v b R0 R1 ts s c) (hr : RepE v (fun g => R1 < g) T c') (hbase : base ≤ w.heap.size) (hg : v.grownBy v' (some R0)) :
    RepE v' (fun g => base ≤ g) T c' ∧ RdX v' b ts s ∧ w.grownBy v' (some b) := by
  have h0 := h.h0
  have h1 := h.h1
  exact ⟨repE_far hr (by omega) fun g h2 h3 => hg.block g h3 (by intro e; have := Option.some.inj e; omega), h.fin hg⟩
theorem PX.ret {w v v' : World} {b R0 base : Nat} {ts : List Tok} {s : St} {c' : List Value} {T : Ex} (h : PX w v b R0 ts s) (hr : RepE v (fun g => R0 < g) T c') (hbase : base ≤ w.heap.size) (hg : v.grownBy v' (some R0)) :
    RepE v' (fun g => base ≤ g) T c' ∧ RdX v' b ts s ∧ w.grownBy v' (some b) := by
  have h0 := h.h0
  exact ⟨repE_far hr (by omega) fun g h2 h3 => hg.block g h3 (by intro e; have := Option.some.inj e; omega), h.fin hg⟩
theorem PX.far {w v v' : World} {b R0 : Nat} {ts : List Tok} {s : St} {c : List Value} {T : Ex} (h : PX w v b R0 ts s) (hr : RepE v (fun g => R0 < g) T c) (hg : v.grownBy v' (some b)) : RepE v' (fun g => R0 < g) T c := by
  have h0 := h.h0
  have hb := h.hb
  exact hr.kept (fun _ h => h) fun g h1 h2 => hg.block g h2 (by intro e; have := Option.some.inj e; omega)

/-- What holds between two atoms. -/
structure AX (w v : World) (b R0 R1 : Nat) (ts : List Tok) (s : St) (c : List Value) (e : Ex) : Prop where
  eb : EX w v b R0 R1 ts s c
  rep : RepE v (fun g => R0 < g ∧ g ≠ R1) e c
theorem AX.call {w v v' : World} {b R0 R1 : Nat} {ts : List Tok} {s s' : St} {c : List Value} {e : Ex} (h : AX w v b R0 R1 ts s c e) (hr : RdX v' b ts s') (hg : v.grownBy v' (some b)) : AX w v' b R0 R1 ts s' c e := by
  have h0 := h.eb.h0
  have hb := h.eb.hb
  exact ⟨h.eb.call hr hg, h.rep.kept (fun _ h => h) (fun g h1 hl => hg.block g hl (by intro e; have := Option.some.inj e; have := h1.1; omega))⟩
theorem AX.lift {w v v' : World} {b R0 R1 : Nat} {ts : List Tok} {s : St} {c : List Value} {e : Ex} (h : AX w v b R0 R1 ts s c e) (hb : Below v.heap.size v v') : AX w v' b R0 R1 ts s c e := h.call (h.eb.rd.lift hb) (below_grown_some hb b)
theorem AX.mk' {w v : World} {b R0 : Nat} {ts : List Tok} {s : St} (h : PX w v b R0 ts s) {e : Ex} {c : List Value} (hr : RepE v (fun g => R0 < g) e c) : AX w (v.alloc (.cells c.toArray 36)) b R0 v.heap.size ts s c e :=
  ⟨h.mk' c, (hr.bound.lift ((Below.refl _ v).alloc (Nat.le_refl _) _)).imp fun _ hg => ⟨hg.1, Nat.ne_of_lt hg.2⟩⟩
theorem AX.ret {w v v' : World} {b R0 R1 base : Nat} {ts : List Tok} {s : St} {c : List Value} {e : Ex} (h : AX w v b R0 R1 ts s c e) (hbase : base ≤ w.heap.size) (hg : v.grownBy v' (some R0)) :
    RepE v' (fun g => base ≤ g) e c ∧ RdX v' b ts s ∧ w.grownBy v' (some b) := h.eb.pb.ret (h.rep.imp fun _ h => h.1) hbase hg
/-- An atom more. -/
theorem AX.next {w v : World} {b R0 R1 : Nat} {ts : List Tok} {s : St} {c0 c1 c2 c3 c4 c5 c6 c7 c8 c9 c10 : Value} {e : Ex} (h : AX w v b R0 R1 ts s [c0, c1, c2, c3, c4, c5, c6, c7, c8, c9, c10] e) {u : Ex} {k : List Value} (hu : RepE v (fun g => R0 < g ∧ g ≠ R1) u k) (p : Int) :
    AX w ((((((((((((v.setCell ⟨R1, 0, none⟩ (.int .i64 5)).setCell ⟨R1, 1, none⟩ (.int .i64 p)).setCell ⟨R1, 2, none⟩ (.string ⟨#[]⟩)).setCell ⟨R1, 3, none⟩ (.int .i64 0)).setCell ⟨R1, 4, none⟩ (.slice (some ⟨v.heap.size, 0, none⟩) 2 2)).setCell ⟨R1, 5, none⟩ (.slice none 0 0)).setCell ⟨R1, 6, none⟩ (.int .i64 0)).setCell ⟨R1, 7, none⟩ (.string ⟨#[]⟩)).setCell ⟨R1, 8, none⟩ (.int .i64 0)).setCell ⟨R1, 9, none⟩ (.int .i64 0)).setCell ⟨R1, 10, none⟩ (.slice none 0 0)).alloc (.cells ([c0, c1, c2, c3, c4, c5, c6, c7, c8, c9, c10] ++ k).toArray 36)) b R0 R1 ts s [.int .i64 5, .int .i64 p, .string ⟨#[]⟩, .int .i64 0, .slice (some ⟨v.heap.size, 0, none⟩) 2 2, .slice none 0 0, .int .i64 0, .string ⟨#[]⟩, .int .i64 0, .int .i64 0, .slice none 0 0] (.mk 5 p ⟨#[]⟩ 0 zTy [e, u] []) := by
  obtain ⟨h1, h2, h3⟩ := h.eb.box.set11s (.int .i64 5) (.int .i64 p) (.string ⟨#[]⟩) (.int .i64 0) (.slice (some ⟨v.heap.size, 0, none⟩) 2 2) (.slice none 0 0) (.int .i64 0) (.string ⟨#[]⟩) (.int .i64 0) (.int .i64 0) (.slice none 0 0)
  have hlt := h.eb.lt
  have hr0 := h.eb.h1
  have hrep := h.rep.kept (S' := fun g => R0 < g ∧ g ≠ R1) (fun _ h => h) (fun g hg hl => h2.block g hl (by intro e; exact hg.2 (Option.some.inj e)))
  have hu' := hu.kept (S' := fun g => R0 < g ∧ g ≠ R1) (fun _ h => h) (fun g hg hl => h2.block g hl (by intro e; exact hg.2 (Option.some.inj e)))
  have heb := h.eb.row h1 h2
  generalize hV : (((((((((((v.setCell ⟨R1, 0, none⟩ (.int .i64 5)).setCell ⟨R1, 1, none⟩ (.int .i64 p)).setCell ⟨R1, 2, none⟩ (.string ⟨#[]⟩)).setCell ⟨R1, 3, none⟩ (.int .i64 0)).setCell ⟨R1, 4, none⟩ (.slice (some ⟨v.heap.size, 0, none⟩) 2 2)).setCell ⟨R1, 5, none⟩ (.slice none 0 0)).setCell ⟨R1, 6, none⟩ (.int .i64 0)).setCell ⟨R1, 7, none⟩ (.string ⟨#[]⟩)).setCell ⟨R1, 8, none⟩ (.int .i64 0)).setCell ⟨R1, 9, none⟩ (.int .i64 0)).setCell ⟨R1, 10, none⟩ (.slice none 0 0)) = V at *
  exact ⟨heb.lift ((Below.refl _ V).alloc (Nat.le_refl _) _), repE_kids 5 p ⟨#[]⟩ 0 (Nat.zero_le _) (two_newE hrep hu' 36 v.heap.size h3.symm (fun _ h => h) ⟨by omega, by omega⟩)⟩
/-- What holds while the second expression is read. -/
structure VX (w v : World) (b R0 R1 R2 : Nat) (ts : List Tok) (s : St) (c : List Value) (a : Ex) (d : List Value) : Prop where
  eb : EX w v b R0 R1 ts s c
  val : BoxC 36 v R2 d
  rep : RepE v (fun g => R1 < g) a d
  h2 : R1 < R2
theorem VX.call {w v v' : World} {b R0 R1 R2 : Nat} {ts : List Tok} {s s' : St} {c : List Value} {a : Ex} {d : List Value} (h : VX w v b R0 R1 R2 ts s c a d) (hr : RdX v' b ts s') (hg : v.grownBy v' (some b)) : VX w v' b R0 R1 R2 ts s' c a d := by
  have h0 := h.eb.h0
  have h1 := h.eb.h1
  have hb := h.eb.hb
  have h2 := h.h2
  exact ⟨h.eb.call hr hg, h.val.grown hg (by intro e; have := Option.some.inj e; omega), h.rep.kept (fun _ h => h) (fun g hg' hl => hg.block g hl (by intro e; have := Option.some.inj e; omega)), h2⟩
theorem VX.mk' {w v : World} {b R0 R1 : Nat} {ts : List Tok} {s : St} {c : List Value} {a : Ex} {d : List Value} (h : EX w v b R0 R1 ts s c) (hr : RepE v (fun g => R1 < g) a d) : VX w (v.alloc (.cells d.toArray 36)) b R0 R1 v.heap.size ts s c a d := by
  have hb : Below v.heap.size v (v.alloc (.cells d.toArray 36)) := (Below.refl _ v).alloc (Nat.le_refl _) _
  exact ⟨h.lift hb, BoxC.made _ v d, hr.lift hb, h.lt⟩
/-- The kids are stored. -/
theorem VX.two {w v : World} {b R0 R1 R2 : Nat} {ts : List Tok} {s : St} {c : List Value} {a : Ex} {d : List Value} (h : VX w v b R0 R1 R2 ts s c a d) {u : Ex} {k : List Value} (hu : RepE v (fun g => R1 < g) u k) (Z : TypeId) :
    EX w ((v.setCell ⟨R1, 4, none⟩ (.slice (some ⟨v.heap.size, 0, none⟩) 2 2)).alloc (.cells (d ++ k).toArray Z)) b R0 R1 ts s (c.set 4 (.slice (some ⟨v.heap.size, 0, none⟩) 2 2)) ∧
    SlG ExE ((v.setCell ⟨R1, 4, none⟩ (.slice (some ⟨v.heap.size, 0, none⟩) 2 2)).alloc (.cells (d ++ k).toArray Z)) (fun g => R1 < g) [a, u] (.slice (some ⟨v.heap.size, 0, none⟩) 2 2) := by
  obtain ⟨-, hg, hs⟩ := h.eb.box.set 4 (.slice (some ⟨v.heap.size, 0, none⟩) 2 2)
  have hlt := h.eb.lt
  refine ⟨(h.eb.set 4 _).lift ((Below.refl _ _).alloc (Nat.le_refl _) _), two_newE (S := fun g => R1 < g) ?_ ?_ Z _ hs.symm (fun _ h => h) hlt⟩
  · exact h.rep.kept (fun _ h => h) (fun g h1 h2 => hg.block g h2 (by intro e; have := Option.some.inj e; omega))
  · exact hu.kept (fun _ h => h) (fun g h1 h2 => hg.block g h2 (by intro e; have := Option.some.inj e; omega))
/-- What holds while the arms are read. -/
structure CX (w v : World) (b R0 R1 B2 : Nat) (ts : List Tok) (s : St) (c : List Value) (a : Ex) (kv sv : Value) (l : List (AH × Ex)) : Prop where
  eb : EX w v b R0 R1 ts s c
  kid : SlG ExE v (fun g => R1 < g ∧ g < B2) [a] kv
  row : RowG AmE v B2 (fun g => B2 ≤ g) sv l
  h2 : R1 < B2
  h3 : B2 ≤ v.heap.size
theorem CX.call {w v v' : World} {b R0 R1 B2 : Nat} {ts : List Tok} {s s' : St} {c : List Value} {a : Ex} {kv sv : Value} {l : List (AH × Ex)} (h : CX w v b R0 R1 B2 ts s c a kv sv l) (hr : RdX v' b ts s') (hg : v.grownBy v' (some b)) : CX w v' b R0 R1 B2 ts s' c a kv sv l := by
  have h0 := h.eb.h0; have hb := h.eb.hb; have h1 := h.eb.h1; have h2 := h.h2
  exact ⟨h.eb.call hr hg, h.kid.kept (fun _ h => h) (fun g h3 h4 => hg.block g h4 (by intro e; have := Option.some.inj e; have := h3.1; omega)), h.row.kept hg (h.row.off (by omega)) (fun g h3 e => by have := Option.some.inj e; omega), h2, Nat.le_trans h.h3 hg.size⟩
theorem CX.lift {w v v' : World} {b R0 R1 B2 : Nat} {ts : List Tok} {s : St} {c : List Value} {a : Ex} {kv sv : Value} {l : List (AH × Ex)} (h : CX w v b R0 R1 B2 ts s c a kv sv l) (hb : Below v.heap.size v v') : CX w v' b R0 R1 B2 ts s c a kv sv l := h.call (h.eb.rd.lift hb) (below_grown_some hb b)
theorem CX.push {w v v' : World} {b R0 R1 B2 : Nat} {ts : List Tok} {s : St} {c : List Value} {a : Ex} {kv sv sv' : Value} {l l' : List (AH × Ex)} (h : CX w v b R0 R1 B2 ts s c a kv sv l) (hrow : RowG AmE v' B2 (fun g => B2 ≤ g) sv' l') (hg : v.grownBy v' sv.ownBlock) : CX w v' b R0 R1 B2 ts s c a kv sv' l' := by
  have h0 := h.eb.h0; have hb := h.eb.hb; have h1 := h.eb.h1; have h2 := h.h2
  cases hv : sv.ownBlock with
  | none =>
    rw [hv] at hg
    have hbl : Below v.heap.size v v' := ⟨hg.os, hg.tape, hg.output, hg.size, fun i hi => hg.block i hi (by simp)⟩
    have := h.lift hbl
    exact ⟨this.eb, this.kid, hrow, h2, this.h3⟩
  | some k =>
    rw [hv] at hg
    have hk := (h.row.lt k hv).1
    exact ⟨⟨h.eb.rd.other (by omega) hg, h.eb.res.grown hg (by intro e; have := Option.some.inj e; omega), h.eb.box.grown hg (by intro e; have := Option.some.inj e; omega), grown_fresh h.eb.grown hg (fun i e => by have := Option.some.inj e; omega), h0, h1, hb⟩,
      h.kid.kept (fun _ h => h) (fun g h3 h4 => hg.block g h4 (by intro e; have := Option.some.inj e; have := h3.2; omega)), hrow, h2, Nat.le_trans h.h3 hg.size⟩
theorem CX.set {w v : World} {b R0 R1 B2 : Nat} {ts : List Tok} {s : St} {c : List Value} {a : Ex} {kv sv : Value} {l : List (AH × Ex)} (h : CX w v b R0 R1 B2 ts s c a kv sv l) (m : Nat) (u : Value) : CX w (v.setCell ⟨R1, m, none⟩ u) b R0 R1 B2 ts s (c.set m u) a kv sv l := by
  obtain ⟨-, h2, h3⟩ := h.eb.box.set m u
  have h1 := h.eb.h1; have h12 := h.h2
  exact ⟨h.eb.set m u, h.kid.kept (fun _ h => h) (fun g h3 h4 => h2.block g h4 (by intro e; have := Option.some.inj e; have := h3.1; omega)), h.row.kept h2 (h.row.off (by omega)) (fun g h3 e => by have := Option.some.inj e; omega), h12, by rw [h3]; exact h.h3⟩
theorem CX.first {w v : World} {b R0 R1 B2 : Nat} {ts : List Tok} {s : St} {c : List Value} {a : Ex} {kv : Value} (heb : EX w v b R0 R1 ts s c) (hkid : SlG ExE v (fun g => R1 < g ∧ g < B2) [a] kv) (h2 : R1 < B2) (h3 : B2 ≤ v.heap.size) {A : AH × Ex} {d : List Value} (hA : AmE.rep v (fun g => B2 ≤ g) A d) :
    CX w ((v.setCell ⟨R1, 5, none⟩ (.slice (some ⟨v.heap.size, 0, none⟩) 1 1)).alloc (.cells d.toArray 56)) b R0 R1 B2 ts s (c.set 5 (.slice (some ⟨v.heap.size, 0, none⟩) 1 1)) a kv (.slice (some ⟨v.heap.size, 0, none⟩) 1 1) [A] := by
  obtain ⟨-, hg, hs⟩ := heb.box.set 5 (.slice (some ⟨v.heap.size, 0, none⟩) 1 1)
  have hA' := AmE.kept (w' := v.setCell ⟨R1, 5, none⟩ (.slice (some ⟨v.heap.size, 0, none⟩) 1 1)) (fun _ h => h) (fun g h4 h5 => hg.block g h5 (by intro e; have := Option.some.inj e; omega)) hA
  have hb : Below (v.setCell ⟨R1, 5, none⟩ (.slice (some ⟨v.heap.size, 0, none⟩) 1 1)).heap.size (v.setCell ⟨R1, 5, none⟩ (.slice (some ⟨v.heap.size, 0, none⟩) 1 1)) ((v.setCell ⟨R1, 5, none⟩ (.slice (some ⟨v.heap.size, 0, none⟩) 1 1)).alloc (.cells d.toArray 56)) := (Below.refl _ _).alloc (Nat.le_refl _) _
  exact ⟨(heb.set 5 _).lift hb, (hkid.kept (fun _ h => h) (fun g h4 h5 => hg.block g h5 (by intro e; have := Option.some.inj e; have := h4.1; omega))).kept (fun _ h => h) (fun g _ h5 => hb.block g h5), row_one hA' _ B2 hs.symm (by omega) _ (fun _ h => h), h2, Nat.le_trans (by rw [hs]; exact h3) hb.size⟩
end Go.Proofs.Ytgfjcpeeoapjlaa

/- The package's Expr and Atom: what they return. -/
namespace Go.Proofs.Ytgfjcpeeoapjlaa
open Go.RowKit Go.Maps Mth

/-- The results of a reading: the expression, the index behind it, the error and its offset. -/
structure ResE where
  T : Ex
  n : Int
  e : Int
  p : Int
def ResEAt (w : World) (S : Nat → Prop) (r : ResE) (v : Value) : Prop := ∃ c, v = .tuple #[.agg (List.toArray c), .int .i64 r.n, .agg #[.int .i64 r.e, .int .i64 r.p]] ∧ RepE w S r.T c
def resY (T : Ex) (s : St) : ResE := if s.bad then ⟨zEx, 0, 3, s.p⟩ else ⟨T, s.i, 0, 0⟩
/-- The two variables of the results: an expression, an error. -/
structure OutE (w : World) (V : World) : Prop where
  typ : BoxC 36 V w.heap.size zExC
  flt : BoxC 45 V (w.heap.size + 1) [.int .i64 0, .int .i64 0]
  low : Below w.heap.size w V
  size : w.heap.size + 2 ≤ V.heap.size
theorem outE_new (w : World) : OutE w ((w.alloc (.cells #[.int .i64 0, .int .i64 0, .string ⟨#[]⟩, .int .i64 0, .slice none 0 0, .slice none 0 0, .int .i64 0, .string ⟨#[]⟩, .int .i64 0, .int .i64 0, .slice none 0 0] 36)).alloc (.cells #[.int .i64 0, .int .i64 0] 45)) := by
  refine ⟨?_, ?_, ((Below.refl _ w).alloc (Nat.le_refl _) _).alloc (by simp) _, by simp⟩
  · show (_ : Array _)[_]? = _
    rw [heap_at, if_neg (by simp), heap_at, if_pos rfl]; rfl
  · show (_ : Array _)[_]? = _
    rw [heap_at, if_pos (by simp)]
theorem OutE.lift {w V V' : World} (h : OutE w V) (hb : Below V.heap.size V V') : OutE w V' :=
  ⟨h.typ.lift hb, h.flt.lift hb, h.low.trans (hb.mono h.low.size), Nat.le_trans h.size hb.size⟩
theorem OutE.grown {w V V' : World} {b : Nat} (h : OutE w V) (hb : w.heap.size + 2 ≤ b) (hg : V.grownBy V' (some b)) : OutE w V' :=
  ⟨h.typ.grown hg (by intro e; have := Option.some.inj e; omega), h.flt.grown hg (by intro e; have := Option.some.inj e; omega), Below.grown h.low hg h.low.size (fun k hk => by have := Option.some.inj hk; omega), Nat.le_trans h.size hg.size⟩
/-- The results, stored. -/
theorem OutE.fin {w V : World} (h : OutE w V) (v0 v1 v2 v3 v4 v5 v6 v7 v8 v9 v10 e0 e1 : Value) :
    BoxC 36 (((((((((((((V.setCell ⟨w.heap.size, 0, none⟩ v0).setCell ⟨w.heap.size, 1, none⟩ v1).setCell ⟨w.heap.size, 2, none⟩ v2).setCell ⟨w.heap.size, 3, none⟩ v3).setCell ⟨w.heap.size, 4, none⟩ v4).setCell ⟨w.heap.size, 5, none⟩ v5).setCell ⟨w.heap.size, 6, none⟩ v6).setCell ⟨w.heap.size, 7, none⟩ v7).setCell ⟨w.heap.size, 8, none⟩ v8).setCell ⟨w.heap.size, 9, none⟩ v9).setCell ⟨w.heap.size, 10, none⟩ v10).setCell ⟨w.heap.size + 1, 0, none⟩ e0).setCell ⟨w.heap.size + 1, 1, none⟩ e1) w.heap.size [v0, v1, v2, v3, v4, v5, v6, v7, v8, v9, v10] ∧
    BoxC 45 (((((((((((((V.setCell ⟨w.heap.size, 0, none⟩ v0).setCell ⟨w.heap.size, 1, none⟩ v1).setCell ⟨w.heap.size, 2, none⟩ v2).setCell ⟨w.heap.size, 3, none⟩ v3).setCell ⟨w.heap.size, 4, none⟩ v4).setCell ⟨w.heap.size, 5, none⟩ v5).setCell ⟨w.heap.size, 6, none⟩ v6).setCell ⟨w.heap.size, 7, none⟩ v7).setCell ⟨w.heap.size, 8, none⟩ v8).setCell ⟨w.heap.size, 9, none⟩ v9).setCell ⟨w.heap.size, 10, none⟩ v10).setCell ⟨w.heap.size + 1, 0, none⟩ e0).setCell ⟨w.heap.size + 1, 1, none⟩ e1) (w.heap.size + 1) [e0, e1] ∧
    Below w.heap.size w (((((((((((((V.setCell ⟨w.heap.size, 0, none⟩ v0).setCell ⟨w.heap.size, 1, none⟩ v1).setCell ⟨w.heap.size, 2, none⟩ v2).setCell ⟨w.heap.size, 3, none⟩ v3).setCell ⟨w.heap.size, 4, none⟩ v4).setCell ⟨w.heap.size, 5, none⟩ v5).setCell ⟨w.heap.size, 6, none⟩ v6).setCell ⟨w.heap.size, 7, none⟩ v7).setCell ⟨w.heap.size, 8, none⟩ v8).setCell ⟨w.heap.size, 9, none⟩ v9).setCell ⟨w.heap.size, 10, none⟩ v10).setCell ⟨w.heap.size + 1, 0, none⟩ e0).setCell ⟨w.heap.size + 1, 1, none⟩ e1) ∧
    ∀ c, w.heap.size + 2 ≤ c → c < V.heap.size → (((((((((((((V.setCell ⟨w.heap.size, 0, none⟩ v0).setCell ⟨w.heap.size, 1, none⟩ v1).setCell ⟨w.heap.size, 2, none⟩ v2).setCell ⟨w.heap.size, 3, none⟩ v3).setCell ⟨w.heap.size, 4, none⟩ v4).setCell ⟨w.heap.size, 5, none⟩ v5).setCell ⟨w.heap.size, 6, none⟩ v6).setCell ⟨w.heap.size, 7, none⟩ v7).setCell ⟨w.heap.size, 8, none⟩ v8).setCell ⟨w.heap.size, 9, none⟩ v9).setCell ⟨w.heap.size, 10, none⟩ v10).setCell ⟨w.heap.size + 1, 0, none⟩ e0).setCell ⟨w.heap.size + 1, 1, none⟩ e1).heap[c]? = V.heap[c]? := by
  obtain ⟨hB, hG⟩ := h.typ.set11 v0 v1 v2 v3 v4 v5 v6 v7 v8 v9 v10
  have hF := h.flt.grown hG (by intro e; have := Option.some.inj e; omega)
  have hL := Below.grown h.low hG h.low.size (fun k hk => by have := Option.some.inj hk; omega)
  generalize (((((((((((V.setCell ⟨w.heap.size, 0, none⟩ v0).setCell ⟨w.heap.size, 1, none⟩ v1).setCell ⟨w.heap.size, 2, none⟩ v2).setCell ⟨w.heap.size, 3, none⟩ v3).setCell ⟨w.heap.size, 4, none⟩ v4).setCell ⟨w.heap.size, 5, none⟩ v5).setCell ⟨w.heap.size, 6, none⟩ v6).setCell ⟨w.heap.size, 7, none⟩ v7).setCell ⟨w.heap.size, 8, none⟩ v8).setCell ⟨w.heap.size, 9, none⟩ v9).setCell ⟨w.heap.size, 10, none⟩ v10) = V1 at *
  obtain ⟨a0, g0, -⟩ := hF.set 0 e0
  obtain ⟨a1, g1, -⟩ := a0.set 1 e1
  have g01 := grown_trans g0 g1
  refine ⟨hB.grown g01 (by intro e; have := Option.some.inj e; omega), a1, Below.grown hL g01 hL.size (fun k hk => by have := Option.some.inj hk; omega), fun c hc hlt => ?_⟩
  rw [g01.block c (Nat.lt_of_lt_of_le hlt hG.size) (by intro e; have := Option.some.inj e; omega), hG.block c hlt (by intro e; have := Option.some.inj e; omega)]
theorem BoxC.all2 {t : TypeId} {w : World} {B : Nat} {c0 c1 : Value} (h : BoxC t w B [c0, c1]) : (w.cell? ⟨B, 0, none⟩ = some c0 ∧ w.cell? ⟨B, 1, none⟩ = some c1) ∧ w.frozen? ⟨B, 0, none⟩ = false ∧ w.frozen? ⟨B, 1, none⟩ = false :=
  ⟨⟨h.cell 0 _ rfl, h.cell 1 _ rfl⟩, h.free 0, h.free 1⟩
end Go.Proofs.Ytgfjcpeeoapjlaa
