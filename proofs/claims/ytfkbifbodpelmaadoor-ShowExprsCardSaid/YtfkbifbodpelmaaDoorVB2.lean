import Derived.Shelf.Strconv.Itoa0
import Derived.Shelf.Strconv.Itoa1
import Derived.Shelf.LaysM
import Derived.Shelf.Strconv.Itoa2
import Derived.Shelf.Strconv.Itoa3
import Derived.Test.YtfkbifbodpelmaaDoorProg
import Derived.Below
import Derived.Lib.ConvBytes
import Derived.Lib.Atoi
import Derived.Lib.AtoiBound
import Derived.Test.YtfkbifbodpelmaaDoorVB1
import Derived.Test.YtfkbifbodpelmaaDoorVA2
/- The library's contracts at this dump, off the shelf. -/
namespace Go.Proofs
open Go.Shelf
def Tryd.laysM171_ren : Go.Shelf.Ren := ⟨fun | 171 => 26 | 243 => 52 | 246 => 76 | 283 => 97 | 284 => 98 | 285 => 99 | 286 => 100 | 129 => 104 | 317 => 103 | 318 => 105 | 319 => 106 | 320 => 107 | 337 => 108 | 338 => 109 | n => n, fun | 3 => 3 | 9 => 9 | 2 => 2 | 4 => 4 | 171 => 132 | 0 => 0 | 53 => 133 | 37 => 72 | 5 => 5 | 173 => 136 | 212 => 141 | 51 => 142 | 20 => 20 | 213 => 143 | 46 => 70 | 232 => 146 | 233 => 147 | n => n, fun | 17 => 1 | 18 => 2 | 19 => 3 | n => n⟩
theorem Tryd.laysM171 : Go.Proofs.LaysM.n171 Tryd.prog Tryd.laysM171_ren := {
  mixed := by kernel_rfl
  f129 := Tryd.func104.trans (congrArg some (by kernel_rfl))
  f171 := Tryd.func26.trans (congrArg some (by kernel_rfl))
  f243 := Tryd.func52.trans (congrArg some (by kernel_rfl))
  f246 := Tryd.func76.trans (congrArg some (by kernel_rfl))
  f283 := Tryd.func97.trans (congrArg some (by kernel_rfl))
  f284 := Tryd.func98.trans (congrArg some (by kernel_rfl))
  f285 := Tryd.func99.trans (congrArg some (by kernel_rfl))
  f286 := Tryd.func100.trans (congrArg some (by kernel_rfl))
  f317 := Tryd.func103.trans (congrArg some (by kernel_rfl))
  f318 := Tryd.func105.trans (congrArg some (by kernel_rfl))
  f319 := Tryd.func106.trans (congrArg some (by kernel_rfl))
  f320 := Tryd.func107.trans (congrArg some (by kernel_rfl))
  f337 := Tryd.func108.trans (congrArg some (by kernel_rfl))
  f338 := Tryd.func109.trans (congrArg some (by kernel_rfl))
  t0 := Tryd.underlying0
  a0 := Tryd.isAgg0
  z0 := Tryd.sizeOf0
  v0 := Tryd.zeroValue0
  t2 := Tryd.underlying2
  a2 := Tryd.isAgg2
  z2 := Tryd.sizeOf2
  v2 := Tryd.zeroValue2
  t3 := Tryd.underlying3
  a3 := Tryd.isAgg3
  z3 := Tryd.sizeOf3
  v3 := Tryd.zeroValue3
  t4 := Tryd.underlying4
  a4 := Tryd.isAgg4
  z4 := Tryd.sizeOf4
  v4 := Tryd.zeroValue4
  t5 := Tryd.underlying5
  a5 := Tryd.isAgg5
  z5 := Tryd.sizeOf5
  v5 := Tryd.zeroValue5
  t9 := Tryd.underlying9
  a9 := Tryd.isAgg9
  z9 := Tryd.sizeOf9
  v9 := Tryd.zeroValue9
  t20 := Tryd.underlying20
  a20 := Tryd.isAgg20
  z20 := Tryd.sizeOf20
  v20 := Tryd.zeroValue20
  t37 := Tryd.underlying72
  a37 := Tryd.isAgg72
  z37 := Tryd.sizeOf72
  v37 := Tryd.zeroValue72
  t46 := Tryd.underlying70
  a46 := Tryd.isAgg70
  z46 := Tryd.sizeOf70
  v46 := Tryd.zeroValue70
  t51 := Tryd.underlying142
  a51 := Tryd.isAgg142
  z51 := Tryd.sizeOf142
  v51 := Tryd.zeroValue142
  t53 := Tryd.underlying133
  a53 := Tryd.isAgg133
  z53 := Tryd.sizeOf133
  v53 := Tryd.zeroValue133
  t171 := Tryd.underlying132
  a171 := Tryd.isAgg132
  z171 := Tryd.sizeOf132
  v171 := Tryd.zeroValue132
  t173 := Tryd.underlying136
  a173 := Tryd.isAgg136
  z173 := Tryd.sizeOf136
  v173 := Tryd.zeroValue136
  t212 := Tryd.underlying141
  a212 := Tryd.isAgg141
  z212 := Tryd.sizeOf141
  v212 := Tryd.zeroValue141
  t213 := Tryd.underlying143
  a213 := Tryd.isAgg143
  z213 := Tryd.sizeOf143
  t232 := Tryd.underlying146
  a232 := Tryd.isAgg146
  z232 := Tryd.sizeOf146
  v232 := Tryd.zeroValue146
  t233 := Tryd.underlying147
  a233 := Tryd.isAgg147
  z233 := Tryd.sizeOf147
  v233 := Tryd.zeroValue147
  g17 := by kernel_rfl
  g18 := by kernel_rfl
  g19 := by kernel_rfl
  i0 := by kernel_rfl
  i2 := by kernel_rfl
  i3 := by kernel_rfl
  i4 := by kernel_rfl
  i5 := by kernel_rfl
  i9 := by kernel_rfl
  i20 := by kernel_rfl
  i37 := by kernel_rfl
  i46 := by kernel_rfl
  i51 := by kernel_rfl
  i53 := by kernel_rfl
  i171 := by kernel_rfl
  i173 := by kernel_rfl
  i212 := by kernel_rfl
  i232 := by kernel_rfl
  i233 := by kernel_rfl
  m17 := by kernel_rfl
  m18 := by kernel_rfl
  m19 := by kernel_rfl }
open Go.RowKit Go.Sort Go.Lib in
theorem Tryd.strconv_Itoa (n : Int) (h0 : -9223372036854775808 ≤ n) (h1 : n ≤ 9223372036854775807) (w : World) (htab : Lib.TabIs Tryd.prog w "internal/strconv.uint64pow10" .u64 Lib.pow10Tab) :
    Calls Tryd.prog 26 #[.int .i64 n] w fun e w' => e = .returned (.string ⟨(Lib.itoa n).toArray⟩) ∧ ∃ k os, w' = grow (w.drewN k) os := Any.strconv_Itoa Tryd.laysM171 n h0 h1 w htab
end Go.Proofs

/- strconv.Atoi, as the reader calls it. -/
namespace Go.Proofs.YtfkbifbodpelmaaDoor
open Go.RowKit

end Go.Proofs.YtfkbifbodpelmaaDoor

/- The package's reader of expressions: expect, name, mark, word, number. -/
namespace Go.Proofs.YtfkbifbodpelmaaDoor
open Go.RowKit Go.Maps Mth

/-- The number that an integer's text stands for. -/
def numB (x : ByteArray) : Int := match Lib.atoi x.data.toList with | some n => n | none => 0
end Go.Proofs.YtfkbifbodpelmaaDoor

/- The package's reader of expressions: what it reads, and what holds while it reads. -/
namespace Go.Proofs.YtfkbifbodpelmaaDoor
open Go.RowKit Go.Maps Mth

/-- A type behind a colon. -/
def yTyR (ts : List Tok) (s : St) : Ty × St :=
  if (rdT ts s.i).e == 0 then ((rdT ts s.i).T, ⟨(rdT ts s.i).n.toNat, s.bad, s.p⟩) else (zeroT, yFl s (rdT ts s.i).p)
def yVars : Nat → List Tok → St → List ByteArray → Option (List ByteArray × St)
  | 0, _, _, _ => none
  | f + 1, ts, s, acc => if yK ts s == 1 then yVars f ts (xStep s) (acc ++ [yT ts s]) else some (acc, s)
mutual
def yExpr : Nat → List Tok → St → Option (Ex × St)
  | 0, _, _ => none
  | f + 1, ts, s =>
    if yM ts s ⟨#[92]⟩ then yFun f ts s
    else if yW ts s ⟨#[108, 101, 116]⟩ then yLoc f ts s
    else if yW ts s ⟨#[99, 97, 115, 101]⟩ then yCas f ts s
    else yApp f ts s
def yFun : Nat → List Tok → St → Option (Ex × St)
  | 0, _, _ => none
  | f + 1, ts, s =>
    match yExpr f ts (yExp ts (yExp ts (xStep s) (yK ts (xStep s) == 1)) (yM ts (yExp ts (xStep s) (yK ts (xStep s) == 1)) ⟨#[46]⟩)) with
    | some (a, s') => some (.mk 4 (tkP ts s.i) (yT ts (xStep s)) 0 zTy [a] [], s')
    | none => none
def yLoc : Nat → List Tok → St → Option (Ex × St)
  | 0, _, _ => none
  | f + 1, ts, s =>
    yLoc2 f ts (if yW ts (xStep s) ⟨#[114, 101, 99]⟩ then 7 else 6) (tkP ts s.i) (if yW ts (xStep s) ⟨#[114, 101, 99]⟩ then xStep (xStep s) else xStep s)
def yLoc2 : Nat → List Tok → Int → Int → St → Option (Ex × St)
  | 0, _, _, _, _ => none
  | f + 1, ts, k, p, s =>
    match yExpr f ts (yExp ts (yExp ts s (yK ts s == 1)) (yM ts (yExp ts s (yK ts s == 1)) ⟨#[61]⟩)) with
    | some (a, s1) =>
      match yExpr f ts (yExp ts s1 (yW ts s1 ⟨#[105, 110]⟩)) with
      | some (c, s2) => some (.mk k p (yT ts s) 0 zTy [a, c] [], s2)
      | none => none
    | none => none
def yCas : Nat → List Tok → St → Option (Ex × St)
  | 0, _, _ => none
  | f + 1, ts, s =>
    match yExpr f ts (xStep s) with
    | some (a, s1) =>
      match yArm f ts (yExp ts s1 (yW ts s1 ⟨#[111, 102]⟩)) with
      | some (A, s2) =>
        match yArms f ts s2 [A] with
        | some (l, s3) => some (.mk 8 (tkP ts s.i) ⟨#[]⟩ 0 zTy [a] l, yExp ts s3 (yW ts s3 ⟨#[101, 110, 100]⟩))
        | none => none
      | none => none
    | none => none
def yArms : Nat → List Tok → St → List (AH × Ex) → Option (List (AH × Ex) × St)
  | 0, _, _, _ => none
  | f + 1, ts, s, acc =>
    if yM ts s ⟨#[124]⟩ then
      match yArm f ts (xStep s) with
      | some (A, s') => yArms f ts s' (acc ++ [A])
      | none => none
    else some (acc, s)
def yArm : Nat → List Tok → St → Option ((AH × Ex) × St)
  | 0, _, _ => none
  | f + 1, ts, s =>
    match yVars f ts (yExp ts s (yK ts s == 2)) [] with
    | some (vs, s1) =>
      match yExpr f ts (yExp ts s1 (yM ts s1 ⟨#[46]⟩)) with
      | some (c, s2) => some ((⟨yP ts s, yT ts s, vs⟩, c), s2)
      | none => none
    | none => none
def yApp : Nat → List Tok → St → Option (Ex × St)
  | 0, _, _ => none
  | f + 1, ts, s =>
    match yAtom f ts s with
    | some (e, s') => yApps f ts s' e
    | none => none
def yApps : Nat → List Tok → St → Ex → Option (Ex × St)
  | 0, _, _, _ => none
  | f + 1, ts, s, e =>
    if stB (yK ts s) (yT ts s) then
      match yAtom f ts s with
      | some (a, s') => yApps f ts s' (.mk 5 e.p ⟨#[]⟩ 0 zTy [e, a] [])
      | none => none
    else some (e, s)
def yAtom : Nat → List Tok → St → Option (Ex × St)
  | 0, _, _ => none
  | f + 1, ts, s =>
    if stB (yK ts s) (yT ts s) then
      if yK ts s == 1 then some (.mk 1 (yP ts s) (yT ts s) 0 zTy [] [], xStep s)
      else if yK ts s == 2 then some (.mk 2 (yP ts s) (yT ts s) 0 zTy [] [], xStep s)
      else if yK ts s == 3 then some (.mk 3 (yP ts s) ⟨#[]⟩ (numB (yT ts s)) zTy [] [], xStep s)
      else if (yT ts s).toList == (⟨#[40]⟩ : ByteArray).toList then yEnc f ts (xStep s) (yP ts s)
      else if (yT ts s).toList == (⟨#[123]⟩ : ByteArray).toList then yHeld f ts (xStep s) (yP ts s)
      else some (.mk 10 (yP ts s) ⟨#[]⟩ 0 zTy [] [], xStep s)
    else some (zEx, xFail ts s)
def yEnc : Nat → List Tok → St → Int → Option (Ex × St)
  | 0, _, _, _ => none
  | f + 1, ts, s, p =>
    match yExpr f ts s with
    | some (e, s1) =>
      if yM ts s1 ⟨#[58]⟩ then some (.mk 9 p ⟨#[]⟩ 0 (yTyR ts (xStep s1)).1 [e] [], yExp ts (yTyR ts (xStep s1)).2 (yM ts (yTyR ts (xStep s1)).2 ⟨#[41]⟩))
      else some (e, yExp ts s1 (yM ts s1 ⟨#[41]⟩))
    | none => none
def yHeld : Nat → List Tok → St → Int → Option (Ex × St)
  | 0, _, _, _ => none
  | f + 1, ts, s, p =>
    match yExpr f ts s with
    | some (e, s1) => some (.mk 11 p ⟨#[]⟩ 0 zTy [e] [], yExp ts s1 (yM ts s1 ⟨#[125]⟩))
    | none => none
end
/-- The eleven cells of a struct, ts a walk meets them. -/
theorem BoxC.all11 {t : TypeId} {w : World} {B : Nat} {c0 c1 c2 c3 c4 c5 c6 c7 c8 c9 c10 : Value} (h : BoxC t w B [c0, c1, c2, c3, c4, c5, c6, c7, c8, c9, c10]) :
    w.cell? ⟨B, 0, none⟩ = some c0 ∧ w.cell? ⟨B, 1, none⟩ = some c1 ∧ w.cell? ⟨B, 2, none⟩ = some c2 ∧ w.cell? ⟨B, 3, none⟩ = some c3 ∧ w.cell? ⟨B, 4, none⟩ = some c4 ∧ w.cell? ⟨B, 5, none⟩ = some c5 ∧ w.cell? ⟨B, 6, none⟩ = some c6 ∧ w.cell? ⟨B, 7, none⟩ = some c7 ∧ w.cell? ⟨B, 8, none⟩ = some c8 ∧ w.cell? ⟨B, 9, none⟩ = some c9 ∧ w.cell? ⟨B, 10, none⟩ = some c10 :=
  ⟨h.cell 0 _ rfl, h.cell 1 _ rfl, h.cell 2 _ rfl, h.cell 3 _ rfl, h.cell 4 _ rfl, h.cell 5 _ rfl, h.cell 6 _ rfl, h.cell 7 _ rfl, h.cell 8 _ rfl, h.cell 9 _ rfl, h.cell 10 _ rfl⟩
/-- One expression, laid in a row of its own. -/
theorem one_newE {w : World} {S S' : Nat → Prop} {T : Ex} {c : List Value} (h : RepE w S T c) (Z : TypeId) (n : Nat) (hn : n = w.heap.size) (hS : ∀ g, S g → S' g) (hn' : S' n) : SlG ExE (w.alloc (.cells c.toArray Z)) S' [T] (.slice (some ⟨n, 0, none⟩) 1 1) := by
  subst hn
  refine ⟨_, 1, rfl, ⟨Nat.le_refl _, by simp [maxLen]⟩, fun j x hx => ?_⟩
  cases j with
  | zero =>
    simp at hx; subst hx
    refine ⟨_, c, rfl, hn', fun m u hu => ?_, (h.lift ((Below.refl _ w).alloc (Nat.le_refl _) _)).imp hS⟩
    rw [add_zero]
    refine (World.cell?_alloc_at _ _ _ _ rfl).trans ?_
    show c.toArray[0 + (0 * 11 + m)]? = some u
    simpa using hu
  | succ j => simp at hx
/-- Two expressions, laid in a row of their own. -/
theorem two_newE {w : World} {S S' : Nat → Prop} {T U : Ex} {c d : List Value} (h : RepE w S T c) (k : RepE w S U d) (Z : TypeId) (n : Nat) (hn : n = w.heap.size) (hS : ∀ g, S g → S' g) (hn' : S' n) : SlG ExE (w.alloc (.cells (c ++ d).toArray Z)) S' [T, U] (.slice (some ⟨n, 0, none⟩) 2 2) := by
  subst hn
  have hc := h.len.1
  refine ⟨_, 2, rfl, ⟨Nat.le_refl _, by simp [maxLen]⟩, fun j x hx => ?_⟩
  rcases j with _ | _ | j
  · simp at hx; subst hx
    refine ⟨_, c, rfl, hn', fun m u hu => ?_, (h.lift ((Below.refl _ w).alloc (Nat.le_refl _) _)).imp hS⟩
    rw [add_zero]
    refine (World.cell?_alloc_at _ _ _ _ rfl).trans ?_
    have := (List.getElem?_eq_some_iff.1 hu).1
    show (c ++ d).toArray[0 + (0 * 11 + m)]? = some u
    simp only [Nat.zero_mul, Nat.zero_add, List.getElem?_toArray]
    rw [List.getElem?_append_left this]; exact hu
  · simp at hx; subst hx
    refine ⟨_, d, rfl, hn', fun m u hu => ?_, (k.lift ((Below.refl _ w).alloc (Nat.le_refl _) _)).imp hS⟩
    rw [add_zero]
    refine (World.cell?_alloc_at _ _ _ _ rfl).trans ?_
    show (c ++ d).toArray[0 + ((0 + 1) * 11 + m)]? = some u
    have e : 0 + ((0 + 1) * 11 + m) = c.length + m := by rw [hc]; omega
    rw [e, List.getElem?_toArray, List.getElem?_append_right (by omega), Nat.add_sub_cancel_left]; exact hu
  · simp at hx
/-- An expression whose kids are given, its type none. -/
theorem repE_kids {w : World} {S : Nat → Prop} (k p : Int) (n : ByteArray) (m : Int) {kids : List Ex} {kv : Value} (hn : n.size ≤ maxLen) (h : SlG ExE w S kids kv) :
    RepE w S (.mk k p n m zTy kids []) [.int .i64 k, .int .i64 p, .string n, .int .i64 m, kv, .slice none 0 0, .int .i64 0, .string ⟨#[]⟩, .int .i64 0, .int .i64 0, .slice none 0 0] :=
  RepE.close hn h (slG_nil AmE w S) (rep_zTy w S)
theorem repE_far {w w' : World} {base R : Nat} {T : Ex} {c : List Value} (h : RepE w (fun g => R < g) T c) (hb : base ≤ R) (hw : ∀ g, R < g → g < w.heap.size → w'.heap[g]? = w.heap[g]?) : RepE w' (fun g => base ≤ g) T c :=
  h.kept (fun _ hg => Nat.le_of_lt (Nat.lt_of_le_of_lt hb hg)) hw
theorem RepE.len0 {w : World} {S : Nat → Prop} {T : Ex} {c : List Value} (h : RepE w S T c) : zExC.length = c.length := h.len.1.symm
theorem RepE.size {w : World} {S : Nat → Prop} {T : Ex} {c : List Value} (h : RepE w S T c) : (Tryd.prog.info? 37).map (·.size) = some c.length := by rw [h.len.1]; exact sizeEx
end Go.Proofs.YtfkbifbodpelmaaDoor
