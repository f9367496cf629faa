import Derived.Test.YtgfjcpeeoapjlaaQV05
import Derived.Test.YtgfjcpeeoapjlaaQV00
import Derived.Test.YtgfjcpeeoapjlaaQV07
import Derived.Deep.RegionHeld3
import Derived.Deep.RegionLaw
import Derived.Deep.LoopGhost
import Derived.Deep.MidRow
import Derived.Deep.DeepCutAuto
/- The package's reader of expressions: expect, name, mark, word, number. -/
namespace Go.Proofs.Ytgfjcpeeoapjlaa
open Go.RowKit Go.Maps Mth

/-- The number that an integer's text stands for. -/
def numB (x : ByteArray) : Int := match Lib.atoi x.data.toList with | some n => n | none => 0
theorem dec_some : ∀ (l : List UInt8) (acc : Nat), l.all dig = true → ∃ n, Lib.decFrom acc l = some n := by
  intro l
  induction l with
  | nil => intro acc _; exact ⟨acc, rfl⟩
  | cons c l ih =>
    intro acc h
    simp only [List.all_cons, Bool.and_eq_true] at h
    obtain ⟨n, hn⟩ := ih (acc * 10 + (c.toNat - 48)) h.2
    refine ⟨n, ?_⟩
    have hd := h.1
    unfold dig at hd
    have : Lib.digitVal c = some (c.toNat - 48) := by
      unfold Lib.digitVal
      rw [if_pos]
      simp at hd
      omega
    unfold Lib.decFrom
    rw [this]
    exact hn
theorem rkind_int {l : List UInt8} (h : rkind l = 3) : l ≠ [] ∧ l.length ≤ 9 ∧ l.all dig = true := by
  unfold rkind at h
  split at h
  · cases h
  split at h
  · cases h
  split at h
  · cases h
  split at h
  · rename_i h3
    unfold isInt at h3
    simp at h3
    exact ⟨by simpa using h3.1, by omega, by simpa using h3.2.2⟩
  · split at h <;> cases h
theorem atoi_some {x : ByteArray} (h : rkind (bl x) = 3) : x.size ≤ 18 ∧ ∃ n : Nat, Lib.atoi x.data.toList = some (n : Int) := by
  obtain ⟨h1, h2, h3⟩ := rkind_int h
  refine ⟨by rw [← bl_len]; omega, ?_⟩
  show ∃ n : Nat, Lib.atoi (bl x) = some (n : Int)
  generalize bl x = l at *
  obtain ⟨n, hn⟩ := dec_some l 0 h3
  cases l with
  | nil => exact absurd rfl h1
  | cons c l =>
    have hc : dig c = true := by simp at h3; exact h3.1
    have hn' : Lib.decNat (c :: l) = some n := by unfold Lib.decNat; simpa using hn
    refine ⟨n, ?_⟩
    have n1 : (c == 45) = false := by
      rw [beq_eq_false_iff_ne]
      rintro rfl
      revert hc; decide
    have n2 : (c == 43) = false := by
      rw [beq_eq_false_iff_ne]
      rintro rfl
      revert hc; decide
    simp only [Lib.atoi, n1, n2, hn', Bool.false_eq_true, if_false]
    rfl
end Go.Proofs.Ytgfjcpeeoapjlaa

/- The package's reader of expressions: what it reads, and what holds while it reads. -/
namespace Go.Proofs.Ytgfjcpeeoapjlaa
open Go.RowKit Go.Maps Mth

/-- A type behind a colon. -/
def yTyR (ts : List Tok) (s : St) : Ty × St :=
  if (rdT ts s.i).e == 0 then ((rdT ts s.i).T, ⟨(rdT ts s.i).n.toNat, s.bad, s.p⟩) else (zeroT, yFl s (rdT ts s.i).p)
def yVars : Nat → List Tok → St → List ByteArray → Option (List ByteArray × St)
  | 0, _, _, _ => none
  | f + 1, ts, s, acc => if yK ts s == 1 then yVars f ts (xStep s) (acc ++ [yT ts s]) else some (acc, s)
mutual
def yExpr : Nat → List Tok → St → Option (Ex × St)
  | 0, _, _ => none
  | f + 1, ts, s =>
    if yM ts s ⟨#[92]⟩ then yFun f ts s
    else if yW ts s ⟨#[108, 101, 116]⟩ then yLoc f ts s
    else if yW ts s ⟨#[99, 97, 115, 101]⟩ then yCas f ts s
    else yApp f ts s
def yFun : Nat → List Tok → St → Option (Ex × St)
  | 0, _, _ => none
  | f + 1, ts, s =>
    match yExpr f ts (yExp ts (yExp ts (xStep s) (yK ts (xStep s) == 1)) (yM ts (yExp ts (xStep s) (yK ts (xStep s) == 1)) ⟨#[46]⟩)) with
    | some (a, s') => some (.mk 4 (tkP ts s.i) (yT ts (xStep s)) 0 zTy [a] [], s')
    | none => none
def yLoc : Nat → List Tok → St → Option (Ex × St)
  | 0, _, _ => none
  | f + 1, ts, s =>
    yLoc2 f ts (if yW ts (xStep s) ⟨#[114, 101, 99]⟩ then 7 else 6) (tkP ts s.i) (if yW ts (xStep s) ⟨#[114, 101, 99]⟩ then xStep (xStep s) else xStep s)
def yLoc2 : Nat → List Tok → Int → Int → St → Option (Ex × St)
  | 0, _, _, _, _ => none
  | f + 1, ts, k, p, s =>
    match yExpr f ts (yExp ts (yExp ts s (yK ts s == 1)) (yM ts (yExp ts s (yK ts s == 1)) ⟨#[61]⟩)) with
    | some (a, s1) =>
      match yExpr f ts (yExp ts s1 (yW ts s1 ⟨#[105, 110]⟩)) with
      | some (c, s2) => some (.mk k p (yT ts s) 0 zTy [a, c] [], s2)
      | none => none
    | none => none
def yCas : Nat → List Tok → St → Option (Ex × St)
  | 0, _, _ => none
  | f + 1, ts, s =>
    match yExpr f ts (xStep s) with
    | some (a, s1) =>
      match yArm f ts (yExp ts s1 (yW ts s1 ⟨#[111, 102]⟩)) with
      | some (A, s2) =>
        match yArms f ts s2 [A] with
        | some (l, s3) => some (.mk 8 (tkP ts s.i) ⟨#[]⟩ 0 zTy [a] l, yExp ts s3 (yW ts s3 ⟨#[101, 110, 100]⟩))
        | none => none
      | none => none
    | none => none
def yArms : Nat → List Tok → St → List (AH × Ex) → Option (List (AH × Ex) × St)
  | 0, _, _, _ => none
  | f + 1, ts, s, acc =>
    if yM ts s ⟨#[124]⟩ then
      match yArm f ts (xStep s) with
      | some (A, s') => yArms f ts s' (acc ++ [A])
      | none => none
    else some (acc, s)
def yArm : Nat → List Tok → St → Option ((AH × Ex) × St)
  | 0, _, _ => none
  | f + 1, ts, s =>
    match yVars f ts (yExp ts s (yK ts s == 2)) [] with
    | some (vs, s1) =>
      match yExpr f ts (yExp ts s1 (yM ts s1 ⟨#[46]⟩)) with
      | some (c, s2) => some ((⟨yP ts s, yT ts s, vs⟩, c), s2)
      | none => none
    | none => none
def yApp : Nat → List Tok → St → Option (Ex × St)
  | 0, _, _ => none
  | f + 1, ts, s =>
    match yAtom f ts s with
    | some (e, s') => yApps f ts s' e
    | none => none
def yApps : Nat → List Tok → St → Ex → Option (Ex × St)
  | 0, _, _, _ => none
  | f + 1, ts, s, e =>
    if stB (yK ts s) (yT ts s) then
      match yAtom f ts s with
      | some (a, s') => yApps f ts s' (.mk 5 e.p ⟨#[]⟩ 0 zTy [e, a] [])
      | none => none
    else some (e, s)
def yAtom : Nat → List Tok → St → Option (Ex × St)
  | 0, _, _ => none
  | f + 1, ts, s =>
    if stB (yK ts s) (yT ts s) then
      if yK ts s == 1 then some (.mk 1 (yP ts s) (yT ts s) 0 zTy [] [], xStep s)
      else if yK ts s == 2 then some (.mk 2 (yP ts s) (yT ts s) 0 zTy [] [], xStep s)
      else if yK ts s == 3 then some (.mk 3 (yP ts s) ⟨#[]⟩ (numB (yT ts s)) zTy [] [], xStep s)
      else if (yT ts s).toList == (⟨#[40]⟩ : ByteArray).toList then yEnc f ts (xStep s) (yP ts s)
      else if (yT ts s).toList == (⟨#[123]⟩ : ByteArray).toList then yHeld f ts (xStep s) (yP ts s)
      else some (.mk 10 (yP ts s) ⟨#[]⟩ 0 zTy [] [], xStep s)
    else some (zEx, xFail ts s)
def yEnc : Nat → List Tok → St → Int → Option (Ex × St)
  | 0, _, _, _ => none
  | f + 1, ts, s, p =>
    match yExpr f ts s with
    | some (e, s1) =>
      if yM ts s1 ⟨#[58]⟩ then some (.mk 9 p ⟨#[]⟩ 0 (yTyR ts (xStep s1)).1 [e] [], yExp ts (yTyR ts (xStep s1)).2 (yM ts (yTyR ts (xStep s1)).2 ⟨#[41]⟩))
      else some (e, yExp ts s1 (yM ts s1 ⟨#[41]⟩))
    | none => none
def yHeld : Nat → List Tok → St → Int → Option (Ex × St)
  | 0, _, _, _ => none
  | f + 1, ts, s, p =>
    match yExpr f ts s with
    | some (e, s1) => some (.mk 11 p ⟨#[]⟩ 0 zTy [e] [], yExp ts s1 (yM ts s1 ⟨#[125]⟩))
    | none => none
end
/-- The eleven cells of a struct, ts a walk meets them. -/
theorem BoxC.all11 {t : TypeId} {w : World} {B : Nat} {c0 c1 c2 c3 c4 c5 c6 c7 c8 c9 c10 : Value} (h : BoxC t w B [c0, c1, c2, c3, c4, c5, c6, c7, c8, c9, c10]) :
    w.cell? ⟨B, 0, none⟩ = some c0 ∧ w.cell? ⟨B, 1, none⟩ = some c1 ∧ w.cell? ⟨B, 2, none⟩ = some c2 ∧ w.cell? ⟨B, 3, none⟩ = some c3 ∧ w.cell? ⟨B, 4, none⟩ = some c4 ∧ w.cell? ⟨B, 5, none⟩ = some c5 ∧ w.cell? ⟨B, 6, none⟩ = some c6 ∧ w.cell? ⟨B, 7, none⟩ = some c7 ∧ w.cell? ⟨B, 8, none⟩ = some c8 ∧ w.cell? ⟨B, 9, none⟩ = some c9 ∧ w.cell? ⟨B, 10, none⟩ = some c10 :=
  ⟨h.cell 0 _ rfl, h.cell 1 _ rfl, h.cell 2 _ rfl, h.cell 3 _ rfl, h.cell 4 _ rfl, h.cell 5 _ rfl, h.cell 6 _ rfl, h.cell 7 _ rfl, h.cell 8 _ rfl, h.cell 9 _ rfl, h.cell 10 _ rfl⟩
/-- One expression, laid in a row of its own. -/
theorem one_newE {w : World} {S S' : Nat → Prop} {T : Ex} {c : List Value} (h : RepE w S T c) (Z : TypeId) (n : Nat) (hn : n = w.heap.size) (hS : ∀ g, S g → S' g) (hn' : S' n) : SlG ExE (w.alloc (.cells c.toArray Z)) S' [T] (.slice (some ⟨n, 0, none⟩) 1 1) := by
  subst hn
  refine ⟨_, 1, rfl, ⟨Nat.le_refl _, by simp [maxLen]⟩, fun j x hx => ?_⟩
  cases j with
  | zero =>
    simp at hx; subst hx
    refine ⟨_, c, rfl, hn', fun m u hu => ?_, (h.lift ((Below.refl _ w).alloc (Nat.le_refl _) _)).imp hS⟩
    rw [add_zero]
    refine (World.cell?_alloc_at _ _ _ _ rfl).trans ?_
    show c.toArray[0 + (0 * 11 + m)]? = some u
    simpa using hu
  | succ j => simp at hx
/-- Two expressions, laid in a row of their own. -/
theorem two_newE {w : World} {S S' : Nat → Prop} {T U : Ex} {c d : List Value} (h : RepE w S T c) (k : RepE w S U d) (Z : TypeId) (n : Nat) (hn : n = w.heap.size) (hS : ∀ g, S g → S' g) (hn' : S' n) : SlG ExE (w.alloc (.cells (c ++ d).toArray Z)) S' [T, U] (.slice (some ⟨n, 0, none⟩) 2 2) := by
  subst hn
  have hc := h.len.1
  refine ⟨_, 2, rfl, ⟨Nat.le_refl _, by simp [maxLen]⟩, fun j x hx => ?_⟩
  rcases j with _ | _ | j
  · simp at hx; subst hx
    refine ⟨_, c, rfl, hn', fun m u hu => ?_, (h.lift ((Below.refl _ w).alloc (Nat.le_refl _) _)).imp hS⟩
    rw [add_zero]
    refine (World.cell?_alloc_at _ _ _ _ rfl).trans ?_
    have := (List.getElem?_eq_some_iff.1 hu).1
    show (c ++ d).toArray[0 + (0 * 11 + m)]? = some u
    simp only [Nat.zero_mul, Nat.zero_add, List.getElem?_toArray]
    rw [List.getElem?_append_left this]; exact hu
  · simp at hx; subst hx
    refine ⟨_, d, rfl, hn', fun m u hu => ?_, (k.lift ((Below.refl _ w).alloc (Nat.le_refl _) _)).imp hS⟩
    rw [add_zero]
    refine (World.cell?_alloc_at _ _ _ _ rfl).trans ?_
    show (c ++ d).toArray[0 + ((0 + 1) * 11 + m)]? = some u
    have e : 0 + ((0 + 1) * 11 + m) = c.length + m := by rw [hc]; omega
    rw [e, List.getElem?_toArray, List.getElem?_append_right (by omega), Nat.add_sub_cancel_left]; exact hu
  · simp at hx
/-- An expression whose kids are given, its type none. -/
theorem repE_kids {w : World} {S : Nat → Prop} (k p : Int) (n : ByteArray) (m : Int) {kids : List Ex} {kv : Value} (hn : n.size ≤ maxLen) (h : SlG ExE w S kids kv) :
    RepE w S (.mk k p n m zTy kids []) [.int .i64 k, .int .i64 p, .string n, .int .i64 m, kv, .slice none 0 0, .int .i64 0, .string ⟨#[]⟩, .int .i64 0, .int .i64 0, .slice none 0 0] :=
  RepE.close hn h (slG_nil AmE w S) (rep_zTy w S)
theorem yT_size {ts : List Tok} (hok : TkOk ts) (s : St) : (yT ts s).size ≤ maxLen := by
  unfold yT
  split
  · exact Nat.zero_le _
  · exact txt_size hok _
theorem zExC_len : zExC.length = 11 := rfl
theorem slG_far {w w' : World} {base R : Nat} {α : Type} {E : El α} {xs : List α} {v : Value} (h : SlG E w (fun g => R < g) xs v) (hb : base ≤ R) (hw : ∀ g, R < g → g < w.heap.size → w'.heap[g]? = w.heap[g]?) : SlG E w' (fun g => base ≤ g) xs v :=
  h.kept (fun _ hg => Nat.le_of_lt (Nat.lt_of_le_of_lt hb hg)) hw
theorem repE_far {w w' : World} {base R : Nat} {T : Ex} {c : List Value} (h : RepE w (fun g => R < g) T c) (hb : base ≤ R) (hw : ∀ g, R < g → g < w.heap.size → w'.heap[g]? = w.heap[g]?) : RepE w' (fun g => base ≤ g) T c :=
  h.kept (fun _ hg => Nat.le_of_lt (Nat.lt_of_le_of_lt hb hg)) hw
theorem RepE.len0 {w : World} {S : Nat → Prop} {T : Ex} {c : List Value} (h : RepE w S T c) : zExC.length = c.length := h.len.1.symm
theorem RepE.size {w : World} {S : Nat → Prop} {T : Ex} {c : List Value} (h : RepE w S T c) : (Try.prog.info? 36).map (·.size) = some c.length := by rw [h.len.1]; exact sizeEx
end Go.Proofs.Ytgfjcpeeoapjlaa

/- The package's reader of expressions: a function, a held expression. -/
namespace Go.Proofs.Ytgfjcpeeoapjlaa
open Go.RowKit Go.Maps Mth

end Go.Proofs.Ytgfjcpeeoapjlaa

/- The package's reader of expressions: a held expression, the choice among the forms. -/
namespace Go.Proofs.Ytgfjcpeeoapjlaa
open Go.RowKit Go.Maps Mth

theorem RepE.imp_lt {w : World} {n R : Nat} {T : Ex} {c : List Value} (h : RepE w (fun g => n ≤ g) T c) (hn : R < n) : RepE w (fun g => R < g) T c := h.imp fun _ hg => Nat.lt_of_lt_of_le hn hg

end Go.Proofs.Ytgfjcpeeoapjlaa

/- The package's reader of expressions: an atom. -/
namespace Go.Proofs.Ytgfjcpeeoapjlaa
open Go.RowKit Go.Maps Mth

/-- Eleven cells that are stored one by one. -/
theorem BoxC.set11 {t : TypeId} {w : World} {B : Nat} {c0 c1 c2 c3 c4 c5 c6 c7 c8 c9 c10 : Value} (h : BoxC t w B [c0, c1, c2, c3, c4, c5, c6, c7, c8, c9, c10]) (v0 v1 v2 v3 v4 v5 v6 v7 v8 v9 v10 : Value) :
    BoxC t (((((((((((w.setCell ⟨B, 0, none⟩ v0).setCell ⟨B, 1, none⟩ v1).setCell ⟨B, 2, none⟩ v2).setCell ⟨B, 3, none⟩ v3).setCell ⟨B, 4, none⟩ v4).setCell ⟨B, 5, none⟩ v5).setCell ⟨B, 6, none⟩ v6).setCell ⟨B, 7, none⟩ v7).setCell ⟨B, 8, none⟩ v8).setCell ⟨B, 9, none⟩ v9).setCell ⟨B, 10, none⟩ v10) B [v0, v1, v2, v3, v4, v5, v6, v7, v8, v9, v10] ∧ w.grownBy (((((((((((w.setCell ⟨B, 0, none⟩ v0).setCell ⟨B, 1, none⟩ v1).setCell ⟨B, 2, none⟩ v2).setCell ⟨B, 3, none⟩ v3).setCell ⟨B, 4, none⟩ v4).setCell ⟨B, 5, none⟩ v5).setCell ⟨B, 6, none⟩ v6).setCell ⟨B, 7, none⟩ v7).setCell ⟨B, 8, none⟩ v8).setCell ⟨B, 9, none⟩ v9).setCell ⟨B, 10, none⟩ v10) (some B) := by
  obtain ⟨a0, g0, -⟩ := h.set 0 v0
  obtain ⟨a1, g1, -⟩ := a0.set 1 v1
  obtain ⟨a2, g2, -⟩ := a1.set 2 v2
  obtain ⟨a3, g3, -⟩ := a2.set 3 v3
  obtain ⟨a4, g4, -⟩ := a3.set 4 v4
  obtain ⟨a5, g5, -⟩ := a4.set 5 v5
  obtain ⟨a6, g6, -⟩ := a5.set 6 v6
  obtain ⟨a7, g7, -⟩ := a6.set 7 v7
  obtain ⟨a8, g8, -⟩ := a7.set 8 v8
  obtain ⟨a9, g9, -⟩ := a8.set 9 v9
  obtain ⟨a10, g10, -⟩ := a9.set 10 v10
  exact ⟨a10, grown_trans (grown_trans (grown_trans (grown_trans (grown_trans (grown_trans (grown_trans (grown_trans (grown_trans (grown_trans g0 g1) g2) g3) g4) g5) g6) g7) g8) g9) g10⟩
/-- A whole struct is stored, at a step of a region that draws its order. -/
theorem step_storeC {t : TypeId} {w : World} {ops : Array Oper} {o : Oper} {a : Act} {K : Act → World → Prop} {Q : Exit → Act → World → Prop} {E' : Prop} (hgd : o.guard = none) (p x : Operand) (ho : o.op = Op.store t p x)
    (B : Nat) (c c' : List Value) (hB : BoxC t w B c) (hp : a.eval p = .pointer (some ⟨B, 0, none⟩)) (hx : a.eval x = .agg c'.toArray) (hi : (Try.prog.info? t).map (·.size) = some c'.length) (hl : c.length = c'.length) (h1 : ∀ u ∈ c', u.oneCell' = true)
    (hK : ∀ w', BoxC t w' B c' → w.grownBy w' (some B) → K (a.put o.dst undef) w') : if Region.wanted o (yielded ops a.tmps) = true then Oper.wp Try.prog o a w K Q else E' := by
  rw [if_pos (by simp [Region.wanted, hgd])]
  refine wp_store_row t p x ho B c'.toArray hp hx t c.toArray hB (by simpa using hi) (by simpa using hl) (Array.all_eq_true_iff_forall_mem.2 fun v hv => h1 v (by simpa using hv)) ?_
  obtain ⟨h1, h2, -⟩ := hB.row c'
  exact hK _ h1 h2
theorem BoxC.free11 {t : TypeId} {w : World} {B : Nat} {c : List Value} (h : BoxC t w B c) : w.frozen? ⟨B, 0, none⟩ = false ∧ w.frozen? ⟨B, 1, none⟩ = false ∧ w.frozen? ⟨B, 2, none⟩ = false ∧ w.frozen? ⟨B, 3, none⟩ = false ∧ w.frozen? ⟨B, 4, none⟩ = false ∧ w.frozen? ⟨B, 5, none⟩ = false ∧ w.frozen? ⟨B, 6, none⟩ = false ∧ w.frozen? ⟨B, 7, none⟩ = false ∧ w.frozen? ⟨B, 8, none⟩ = false ∧ w.frozen? ⟨B, 9, none⟩ = false ∧ w.frozen? ⟨B, 10, none⟩ = false :=
  ⟨h.free 0, h.free 1, h.free 2, h.free 3, h.free 4, h.free 5, h.free 6, h.free 7, h.free 8, h.free 9, h.free 10⟩
theorem yK3 {ts : List Tok} (hv : TkVal ts) {s : St} (h : yK ts s = 3) : rkind (bl (yT ts s)) = 3 := by
  obtain ⟨hq, hlt⟩ := yK_lt (ts := ts) (s := s) (by rw [h]; decide)
  obtain ⟨i, q, p⟩ := s
  dsimp only at hq hlt
  subst hq
  obtain ⟨t, ht⟩ : ∃ x, ts[i]? = some x := ⟨_, List.getElem?_eq_getElem hlt⟩
  unfold yK tkK at h
  unfold yT txt
  simp only [ht, Bool.false_eq_true, if_false] at h ⊢
  rw [bl_mk, hv t (List.mem_of_getElem? ht), h]
theorem yP_at {ts : List Tok} {s : St} (h : s.bad = false) : yP ts s = tkP ts s.i := by unfold yP; rw [h]; rfl

end Go.Proofs.Ytgfjcpeeoapjlaa

/- The package's reader of expressions: a let. -/
namespace Go.Proofs.Ytgfjcpeeoapjlaa
open Go.RowKit Go.Maps Mth

end Go.Proofs.Ytgfjcpeeoapjlaa

/- The package's reader of expressions: an applied expression. -/
namespace Go.Proofs.Ytgfjcpeeoapjlaa
open Go.RowKit Go.Maps Mth

theorem apps_cases {g : Nat} {ts : List Tok} {s : St} {e T : Ex} {j : St} (h : yApps g ts s e = some (T, j)) :
    (stB (yK ts s) (yT ts s) = false ∧ T = e ∧ j = s) ∨ (stB (yK ts s) (yT ts s) = true ∧ ∃ g' u m, g = g' + 1 ∧ yAtom g' ts s = some (u, m) ∧ yApps g' ts m (.mk 5 e.p ⟨#[]⟩ 0 zTy [e, u] []) = some (T, j)) := by
  cases g with
  | zero => simp [yApps] at h
  | succ g =>
    unfold yApps at h
    cases h1 : stB (yK ts s) (yT ts s) with
    | false =>
      rw [h1] at h
      simp only [Bool.false_eq_true, if_false, Option.some.injEq, Prod.mk.injEq] at h
      exact .inl ⟨rfl, h.1.symm, h.2.symm⟩
    | true =>
      rw [h1] at h
      simp only [if_true] at h
      cases h2 : yAtom g ts s with
      | none => rw [h2] at h; simp at h
      | some p =>
        obtain ⟨u, m⟩ := p
        rw [h2] at h
        exact .inr ⟨rfl, g, u, m, rfl, h2, h⟩
theorem BoxC.set11s {t : TypeId} {w : World} {B : Nat} {c0 c1 c2 c3 c4 c5 c6 c7 c8 c9 c10 : Value} (h : BoxC t w B [c0, c1, c2, c3, c4, c5, c6, c7, c8, c9, c10]) (v0 v1 v2 v3 v4 v5 v6 v7 v8 v9 v10 : Value) :
    BoxC t (((((((((((w.setCell ⟨B, 0, none⟩ v0).setCell ⟨B, 1, none⟩ v1).setCell ⟨B, 2, none⟩ v2).setCell ⟨B, 3, none⟩ v3).setCell ⟨B, 4, none⟩ v4).setCell ⟨B, 5, none⟩ v5).setCell ⟨B, 6, none⟩ v6).setCell ⟨B, 7, none⟩ v7).setCell ⟨B, 8, none⟩ v8).setCell ⟨B, 9, none⟩ v9).setCell ⟨B, 10, none⟩ v10) B [v0, v1, v2, v3, v4, v5, v6, v7, v8, v9, v10] ∧ w.grownBy (((((((((((w.setCell ⟨B, 0, none⟩ v0).setCell ⟨B, 1, none⟩ v1).setCell ⟨B, 2, none⟩ v2).setCell ⟨B, 3, none⟩ v3).setCell ⟨B, 4, none⟩ v4).setCell ⟨B, 5, none⟩ v5).setCell ⟨B, 6, none⟩ v6).setCell ⟨B, 7, none⟩ v7).setCell ⟨B, 8, none⟩ v8).setCell ⟨B, 9, none⟩ v9).setCell ⟨B, 10, none⟩ v10) (some B) ∧ (((((((((((w.setCell ⟨B, 0, none⟩ v0).setCell ⟨B, 1, none⟩ v1).setCell ⟨B, 2, none⟩ v2).setCell ⟨B, 3, none⟩ v3).setCell ⟨B, 4, none⟩ v4).setCell ⟨B, 5, none⟩ v5).setCell ⟨B, 6, none⟩ v6).setCell ⟨B, 7, none⟩ v7).setCell ⟨B, 8, none⟩ v8).setCell ⟨B, 9, none⟩ v9).setCell ⟨B, 10, none⟩ v10).heap.size = w.heap.size := by
  obtain ⟨h1, h2⟩ := h.set11 v0 v1 v2 v3 v4 v5 v6 v7 v8 v9 v10
  exact ⟨h1, h2, by simp [World.setCell]⟩
end Go.Proofs.Ytgfjcpeeoapjlaa

/- The package's reader of expressions: an arm. -/
namespace Go.Proofs.Ytgfjcpeeoapjlaa
open Go.RowKit Go.Maps Mth

theorem vars_cases {g : Nat} {ts : List Tok} {s j : St} {acc l : List ByteArray} (h : yVars g ts s acc = some (l, j)) :
    ((yK ts s == 1) = false ∧ l = acc ∧ j = s) ∨ ((yK ts s == 1) = true ∧ ∃ g', g = g' + 1 ∧ yVars g' ts (xStep s) (acc ++ [yT ts s]) = some (l, j)) := by
  cases g with
  | zero => simp [yVars] at h
  | succ g =>
    unfold yVars at h
    cases h1 : (yK ts s == 1) with
    | false =>
      rw [h1] at h
      simp only [Bool.false_eq_true, if_false, Option.some.injEq, Prod.mk.injEq] at h
      exact .inl ⟨rfl, h.1.symm, h.2.symm⟩
    | true =>
      rw [h1] at h
      simp only [if_true] at h
      exact .inr ⟨rfl, g, rfl, h⟩
/-- Cells stored one behind the other. -/
theorem BoxC.mid {t : TypeId} {B : Nat} : ∀ (d : List Value) (o : Nat) (w : World) (c : List Value), BoxC t w B c → o + d.length ≤ c.length →
    BoxC t (w.setCells B o d) B (c.take o ++ d ++ c.drop (o + d.length)) ∧ w.grownBy (w.setCells B o d) (some B) := by
  intro d
  induction d with
  | nil =>
    intro o w c h _
    refine ⟨?_, below_grown_some (Below.refl _ w) B⟩
    simpa [World.setCells] using h
  | cons v d ih =>
    intro o w c h hl
    simp only [List.length_cons] at hl
    obtain ⟨h1, h2, -⟩ := h.set o v
    obtain ⟨h3, h4⟩ := ih (o + 1) _ _ h1 (by simp; omega)
    refine ⟨?_, grown_trans h2 h4⟩
    have e : (c.set o v).take (o + 1) ++ d ++ (c.set o v).drop (o + 1 + d.length) = c.take o ++ (v :: d) ++ c.drop (o + (d.length + 1)) := by
      have e1 : (c.set o v).take (o + 1) = c.take o ++ [v] := by
        rw [List.set_eq_take_append_cons_drop, if_pos (by omega)]
        have ht : (c.take o).length = o := by rw [List.length_take]; omega
        rw [List.take_append, ht, List.take_of_length_le (by omega)]
        simp
      have e2 : (c.set o v).drop (o + 1 + d.length) = c.drop (o + (d.length + 1)) := by
        rw [List.drop_set_of_lt (by omega)]
        congr 1; omega
      rw [e1, e2]; simp
    rw [e] at h3
    exact h3
theorem wpList_storeM {t ty : TypeId} {w : World} {ops : Array Oper} {rest : List Oper} {o : Oper} {a : Act} {Q : Exit → Act → World → Prop} (hgd : o.guard = none) (p x : Operand) (ho : o.op = Op.store ty p x)
    (B off : Nat) (c d : List Value) (hB : BoxC t w B c) (hp : a.eval p = .pointer (some ⟨B, off, none⟩)) (hx : a.eval x = .agg d.toArray) (hi : (Try.prog.info? ty).map (·.size) = some d.length) (hl : off + d.length ≤ c.length) (h1 : ∀ u ∈ d, u.oneCell' = true)
    (hK : ∀ w', BoxC t w' B (c.take off ++ d ++ c.drop (off + d.length)) → w.grownBy w' (some B) → wpList Try.prog ops Q rest (a.put o.dst undef) w') :
    wpList Try.prog ops Q (o :: rest) a w := by
  refine wpList_store_mid hgd ty p x ho B off d.toArray hp hx (fun j hj => ?_) (by simpa using hi) (Array.all_eq_true_iff_forall_mem.2 fun v hv => h1 v (by simpa using hv)) ?_
  · have hj' : j < d.length := by simpa using hj
    exact ⟨by rw [hB.cell (off + j) _ (List.getElem?_eq_getElem (by omega))]; rfl, hB.free _⟩
  · obtain ⟨h2, h3⟩ := BoxC.mid d off w c hB hl
    have := hK _ h2 h3
    simpa using this

def zAmC : List Value := [.int .i64 0, .string ⟨#[]⟩, .slice none 0 0, .int .i64 0, .int .i64 0, .string ⟨#[]⟩, .int .i64 0, .slice none 0 0, .slice none 0 0, .int .i64 0, .string ⟨#[]⟩, .int .i64 0, .int .i64 0, .slice none 0 0]
theorem strE_any {w w' : World} {S S' : Nat → Prop} {x : ByteArray} {c : List Value} (h : StrE.rep w S x c) : StrE.rep w' S' x c := h
theorem row_str {w w' : World} {base : Nat} {S : Nat → Prop} {v : Value} {xs : List ByteArray} {row : Option Nat} (h : RowG StrE w base S v xs) (hg : w.grownBy w' row) (hv : v.ownBlock = none ∨ v.ownBlock ≠ row) : RowG StrE w' base S v xs := by
  obtain ⟨L, hown, hl, hr⟩ := h
  exact ⟨L, hown.kept hg hv, hl, hr⟩
theorem step_push_str {w : World} {ops : Array Oper} {o : Oper} {a : Act} {K : Act → World → Prop} {Q : Exit → Act → World → Prop} {E' : Prop} (tx : ByteArray) {base : Nat} {sa : Option Addr} {n sc : Nat} {acc : List ByteArray} (hrow : RowG StrE w base (fun _ => False) (.slice sa n sc) acc)
    (hgd : o.guard = none) (s x : Operand) (ho : o.op = .call { callee := .builtin .append, args := #[s, x], argTypes := #[25, 25] }) (hs : a.eval s = .slice sa n sc) (nn : Nat) (hnn : nn = w.heap.size) (hx : a.eval x = .slice (some ⟨nn, 0, none⟩) 1 1)
    (N : Nat) (hN : N = acc.length + 1) (hb : N ≤ 1000000) (hbase : base ≤ w.heap.size)
    (hK : ∀ (a' : Option Addr) (c' : Nat) (w' : World), RowG StrE w' base (fun _ => False) (.slice a' N c') (acc ++ [tx]) → w.grownBy w' (Value.slice sa n sc).ownBlock → K (a.put o.dst (.slice a' N c')) w') :
    if Region.wanted o (yielded ops a.tmps) = true then Oper.wp Try.prog o a (w.alloc (.cells #[.string tx] 9)) K Q else E' := by
  subst hnn
  have hba : Below w.heap.size w (w.alloc (.cells #[.string tx] 9)) := (Below.refl _ w).alloc (Nat.le_refl _) _
  have hlt := fun k e => RowG.lt hrow k e
  exact step_pushG StrE hgd s x ho base (fun _ => False) (.slice sa n sc) acc hs (hrow.lift hba) w.heap.size 9 [.string tx] (heap_alloc_new w _) hx tx rfl N hN hb (Nat.le_trans hbase hba.size) fun a' c' w' h1 h2 => hK a' c' w' h1 (grown_trans (World.grownBy_alloc w _ _) h2)
theorem am_size {w : World} {S : Nat → Prop} {A : AH × Ex} {c : List Value} (h : AmE.rep w S A c) : (Try.prog.info? 56).map (·.size) = some c.length := by rw [(AmE.len h).1]; exact sizeAm
theorem am_len0 {w : World} {S : Nat → Prop} {A : AH × Ex} {c : List Value} (h : AmE.rep w S A c) : zAmC.length = c.length := (AmE.len h).1.symm
theorem BoxC.all14 {t : TypeId} {w : World} {B : Nat} {c0 c1 c2 c3 c4 c5 c6 c7 c8 c9 c10 c11 c12 c13 : Value} (h : BoxC t w B [c0, c1, c2, c3, c4, c5, c6, c7, c8, c9, c10, c11, c12, c13]) :
    w.cell? ⟨B, 0, none⟩ = some c0 ∧ w.cell? ⟨B, 1, none⟩ = some c1 ∧ w.cell? ⟨B, 2, none⟩ = some c2 ∧ w.cell? ⟨B, 3, none⟩ = some c3 ∧ w.cell? ⟨B, 4, none⟩ = some c4 ∧ w.cell? ⟨B, 5, none⟩ = some c5 ∧ w.cell? ⟨B, 6, none⟩ = some c6 ∧ w.cell? ⟨B, 7, none⟩ = some c7 ∧ w.cell? ⟨B, 8, none⟩ = some c8 ∧ w.cell? ⟨B, 9, none⟩ = some c9 ∧ w.cell? ⟨B, 10, none⟩ = some c10 ∧ w.cell? ⟨B, 11, none⟩ = some c11 ∧ w.cell? ⟨B, 12, none⟩ = some c12 ∧ w.cell? ⟨B, 13, none⟩ = some c13 :=
  ⟨h.cell 0 _ rfl, h.cell 1 _ rfl, h.cell 2 _ rfl, h.cell 3 _ rfl, h.cell 4 _ rfl, h.cell 5 _ rfl, h.cell 6 _ rfl, h.cell 7 _ rfl, h.cell 8 _ rfl, h.cell 9 _ rfl, h.cell 10 _ rfl, h.cell 11 _ rfl, h.cell 12 _ rfl, h.cell 13 _ rfl⟩
theorem Try.tokPos (k p : Int) (x : ByteArray) (w : World) : (Instr.field 117 (.agg #[.int .i64 k, .string x, .int .i64 p]) 2).run Try.prog w = .ok (.int .i64 p) w := by kernel_rfl
theorem Try.tokKind (k p : Int) (x : ByteArray) (w : World) : (Instr.field 117 (.agg #[.int .i64 k, .string x, .int .i64 p]) 0).run Try.prog w = .ok (.int .i64 k) w := by kernel_rfl
end Go.Proofs.Ytgfjcpeeoapjlaa

/- The package's reader of expressions: a case. -/
namespace Go.Proofs.Ytgfjcpeeoapjlaa
open Go.RowKit Go.Maps Mth

theorem arms_cases {g : Nat} {ts : List Tok} {s j : St} {acc l : List (AH × Ex)} (h : yArms g ts s acc = some (l, j)) :
    (yM ts s ⟨#[124]⟩ = false ∧ l = acc ∧ j = s) ∨ (yM ts s ⟨#[124]⟩ = true ∧ ∃ g' A m, g = g' + 1 ∧ yArm g' ts (xStep s) = some (A, m) ∧ yArms g' ts m (acc ++ [A]) = some (l, j)) := by
  cases g with
  | zero => simp [yArms] at h
  | succ g =>
    unfold yArms at h
    cases h1 : yM ts s ⟨#[124]⟩ with
    | false =>
      rw [h1] at h
      simp only [Bool.false_eq_true, if_false, Option.some.injEq, Prod.mk.injEq] at h
      exact .inl ⟨rfl, h.1.symm, h.2.symm⟩
    | true =>
      rw [h1] at h
      simp only [if_true] at h
      cases h2 : yArm g ts (xStep s) with
      | none => rw [h2] at h; simp at h
      | some p =>
        obtain ⟨A, m⟩ := p
        rw [h2] at h
        exact .inr ⟨rfl, g, A, m, rfl, h2, h⟩
theorem am_form {w : World} {S : Nat → Prop} {A : AH × Ex} {c : List Value} (h : AmE.rep w S A c) :
    ∃ va vl vc ka kc aa ac tk tn ti th ta tl tcap, c = [.int .i64 A.1.pos, .string A.1.con, .slice va vl vc, .int .i64 A.2.k, .int .i64 A.2.p, .string A.2.n, .int .i64 A.2.m, .slice ka A.2.kids.length kc, .slice aa A.2.arms.length ac, .int .i64 tk, .string tn, .int .i64 ti, .int .i64 th, .slice ta tl tcap] := by
  obtain ⟨vv, cb, rfl, h1, h2⟩ := h
  obtain ⟨va, vc, rfl, -⟩ := h1.slice
  obtain ⟨ka, kc, aa, ac, tk, tn, ti, th, ta, tl, tcap, rfl⟩ := h2.form
  exact ⟨_, _, _, _, _, _, _, _, _, _, _, _, _, _, rfl⟩
/-- The first arm, in a row of its own. -/
theorem row_one {w : World} {S : Nat → Prop} {A : AH × Ex} {c : List Value} (h : AmE.rep w S A c) (n base : Nat) (hn : n = w.heap.size) (hb : base ≤ n) (S' : Nat → Prop) (hS : ∀ g, S g → S' g) : RowG AmE (w.alloc (.cells c.toArray 56)) base S' (.slice (some ⟨n, 0, none⟩) 1 1) [A] := by
  subst hn
  have hl := (AmE.len h).1
  refine ⟨[c], ⟨by simp; exact hl, .inr ⟨w.heap.size, 1, c.toArray, rfl, hb, heap_alloc_new w _, Nat.le_refl _, by simp [maxLen], by simp; exact hl, by simp; rw [List.take_of_length_le (by rw [hl]; exact Nat.le_refl _)]⟩⟩, rfl, fun j x hx => ?_⟩
  cases j with
  | zero =>
    simp at hx; subst hx
    refine ⟨c, rfl, AmE.kept (fun g hg => ⟨hS g hg.1, ?_⟩) (fun g hg hl => ((Below.refl _ w).alloc (Nat.le_refl _) _).block g hl) (AmE.bound h)⟩
    intro e
    have := Option.some.inj e
    have := hg.2
    simp at *
    omega
  | succ j => simp at hx
theorem step_push_am {w : World} {ops : Array Oper} {o : Oper} {a : Act} {K : Act → World → Prop} {Q : Exit → Act → World → Prop} {E' : Prop} {base : Nat} {sa : Option Addr} {n sc : Nat} {acc : List (AH × Ex)} {A : AH × Ex} {c : List Value} (hA : AmE.rep w (fun g => base ≤ g ∧ some g ≠ (Value.slice sa n sc).ownBlock) A c) (hrow : RowG AmE w base (fun g => base ≤ g) (.slice sa n sc) acc)
    (hgd : o.guard = none) (s x : Operand) (ho : o.op = .call { callee := .builtin .append, args := #[s, x], argTypes := #[31, 31] }) (hs : a.eval s = .slice sa n sc) (nn : Nat) (hnn : nn = w.heap.size) (hx : a.eval x = .slice (some ⟨nn, 0, none⟩) 1 1)
    (N : Nat) (hN : N = acc.length + 1) (hb : N ≤ 1000000) (hbase : base ≤ w.heap.size)
    (hK : ∀ (a' : Option Addr) (c' : Nat) (w' : World), RowG AmE w' base (fun g => base ≤ g) (.slice a' N c') (acc ++ [A]) → w.grownBy w' (Value.slice sa n sc).ownBlock → K (a.put o.dst (.slice a' N c')) w') :
    if Region.wanted o (yielded ops a.tmps) = true then Oper.wp Try.prog o a (w.alloc (.cells c.toArray 56)) K Q else E' := by
  subst hnn
  have hba : Below w.heap.size w (w.alloc (.cells c.toArray 56)) := (Below.refl _ w).alloc (Nat.le_refl _) _
  exact step_pushG AmE hgd s x ho base (fun g => base ≤ g) (.slice sa n sc) acc hs (hrow.lift hba) w.heap.size 56 c (heap_alloc_new w _) hx A (AmE.kept (fun _ h => h) (fun g _ hl => hba.block g hl) hA) N hN hb (Nat.le_trans hbase hba.size) fun a' c' w' h1 h2 => hK a' c' w' h1 (grown_trans (World.grownBy_alloc w _ _) h2)
end Go.Proofs.Ytgfjcpeeoapjlaa

/- The package's reader of expressions: what stands in parentheses. -/
namespace Go.Proofs.Ytgfjcpeeoapjlaa
open Go.RowKit Go.Maps Mth

theorem repE_ann {w : World} {S : Nat → Prop} (p : Int) {T : Ty} {tc : List Value} {kids : List Ex} {kv : Value} (h : SlG ExE w S kids kv) (ht : Rep w S T (.agg tc.toArray)) :
    RepE w S (.mk 9 p ⟨#[]⟩ 0 T kids []) (.int .i64 9 :: .int .i64 p :: .string ⟨#[]⟩ :: .int .i64 0 :: kv :: .slice none 0 0 :: tc) := RepE.close (Nat.zero_le _) h (slG_nil AmE w S) ht
theorem rep_form {w : World} {S : Nat → Prop} {T : Ty} {c : List Value} (h : Rep w S T (.agg c.toArray)) : ∃ k n i hh a m cp, c = [.int .i64 k, .string n, .int .i64 i, .int .i64 hh, .slice a m cp] := by
  obtain ⟨k, n, i, hh, a, m, cp, hv⟩ := h.form
  exact ⟨k, n, i, hh, a, m, cp, by simpa using hv⟩
theorem chain_alloc (w : World) (o : Obj) (R : Nat) (h : R < w.heap.size) (v0 v1 v2 v3 v4 v5 v6 v7 v8 v9 v10 : Value) : ((((((((((((w.alloc o).setCell ⟨R, 0, none⟩ v0).setCell ⟨R, 1, none⟩ v1).setCell ⟨R, 2, none⟩ v2).setCell ⟨R, 3, none⟩ v3).setCell ⟨R, 4, none⟩ v4).setCell ⟨R, 5, none⟩ v5).setCell ⟨R, 6, none⟩ v6).setCell ⟨R, 7, none⟩ v7).setCell ⟨R, 8, none⟩ v8).setCell ⟨R, 9, none⟩ v9).setCell ⟨R, 10, none⟩ v10) = (((((((((((w.setCell ⟨R, 0, none⟩ v0).setCell ⟨R, 1, none⟩ v1).setCell ⟨R, 2, none⟩ v2).setCell ⟨R, 3, none⟩ v3).setCell ⟨R, 4, none⟩ v4).setCell ⟨R, 5, none⟩ v5).setCell ⟨R, 6, none⟩ v6).setCell ⟨R, 7, none⟩ v7).setCell ⟨R, 8, none⟩ v8).setCell ⟨R, 9, none⟩ v9).setCell ⟨R, 10, none⟩ v10).alloc o := by
  have hs : ∀ (x : World) a v, (x.setCell a v).heap.size = x.heap.size := fun x a v => by simp [World.setCell]
  simp only [World.setCell_alloc_past, hs, h]
end Go.Proofs.Ytgfjcpeeoapjlaa

/- The package's reader of expressions: a type behind a colon. -/
namespace Go.Proofs.Ytgfjcpeeoapjlaa
open Go.RowKit Go.Maps Mth

/-- What readtype.Type returns, its type taken apart. -/
def TyAfter (n e p : Int) (T : Ty) (V : World) (u : Value) (w' : World) : Prop :=
  ∃ uk un ui uh ua um uc, u = .tuple #[.agg #[.int .i64 uk, .string un, .int .i64 ui, .int .i64 uh, .slice ua um uc], .int .i64 n, .agg #[.int .i64 e, .int .i64 p]] ∧ Rep w' (fun g => V.heap.size ≤ g) T (.agg #[.int .i64 uk, .string un, .int .i64 ui, .int .i64 uh, .slice ua um uc]) ∧ Below V.heap.size V w'
/-- The fault's variable in its block. -/
def Flt (w : World) (R : Nat) (e p : Int) : Prop := w.heap[R]? = some (.cells #[.int .i64 e, .int .i64 p] 45 (0, 0))
theorem Flt.cells {w : World} {R : Nat} {e p : Int} (h : Flt w R e p) : w.cell? ⟨R, 0, none⟩ = some (.int .i64 e) ∧ w.cell? ⟨R, 1, none⟩ = some (.int .i64 p) := by
  unfold Flt at h; simp [World.cell?, h]
theorem Flt.free {w : World} {R : Nat} {e p : Int} (h : Flt w R e p) : w.frozen? ⟨R, 0, none⟩ = false ∧ w.frozen? ⟨R, 1, none⟩ = false := by
  unfold Flt at h; simp [World.frozen?, h]
theorem Flt.lift {w w' : World} {R : Nat} {e p : Int} (h : Flt w R e p) (hb : Below w.heap.size w w') : Flt w' R e p := by
  unfold Flt at *; rw [hb.block _ (Array.getElem?_eq_some_iff.1 h).1]; exact h
/-- What lies behind the region. -/
structure TSt (W : World) (S : Nat → Prop) (R3 R5 : Nat) (c0 c1 c2 c3 c4 : Value) (e p : Int) (T : Ty) (V : World) : Prop where
  box : Box V R3 c0 c1 c2 c3 c4
  flt : Flt V R5 e p
  rep : Rep V S T (.agg #[c0, c1, c2, c3, c4])
  low : Below W.heap.size W V
  hi3 : W.heap.size ≤ R3
  hi5 : W.heap.size ≤ R5

theorem setF {w : World} {R : Nat} {e p : Int} (h : Flt w R e p) (e' p' : Int) : Flt ((w.setCell ⟨R, 0, none⟩ (.int .i64 e')).setCell ⟨R, 1, none⟩ (.int .i64 p')) R e' p' ∧ w.grownBy ((w.setCell ⟨R, 0, none⟩ (.int .i64 e')).setCell ⟨R, 1, none⟩ (.int .i64 p')) (some R) ∧ ((w.setCell ⟨R, 0, none⟩ (.int .i64 e')).setCell ⟨R, 1, none⟩ (.int .i64 p')).heap.size = w.heap.size := by
  obtain ⟨a1, g1, s1⟩ := set1 h 0 (.int .i64 e')
  obtain ⟨a2, g2, s2⟩ := set1 a1 1 (.int .i64 p')
  refine ⟨?_, grown_trans g1 g2, by rw [s2, s1]⟩
  unfold Flt
  rw [a2]
  simp
theorem Flt.grown {w w' : World} {R : Nat} {e p : Int} {row : Option Nat} (h : Flt w R e p) (hg : w.grownBy w' row) (hne : some R ≠ row) : Flt w' R e p := by
  unfold Flt at *; rw [hg.block _ (Array.getElem?_eq_some_iff.1 h).1 hne]; exact h
theorem below_fresh {W w2 X : World} {R : Nat} (hb : Below W.heap.size W w2) (hR : W.heap.size ≤ R) (hg : w2.grownBy X (some R)) : Below W.heap.size W X :=
  Below.grown hb hg hb.size (fun k hk => by cases hk; exact hR)
theorem rep_other {w X : World} {S : Nat → Prop} {R : Nat} {T : Ty} {v : Value} (h : Rep w S T v) (hS : ¬ S R) (hg : w.grownBy X (some R)) : Rep X S T v :=
  h.kept (fun _ h => h) fun g hg' hl => hg.block g hl (by intro e; exact hS (by rw [← Option.some.inj e]; exact hg'))
section
variable {W w2 : World} {S : Nat → Prop} {c0 c1 c2 c3 c4 : Value} {e p : Int} {T : Ty} (hb : Below W.heap.size W w2) (hrep : Rep w2 S T (.agg #[c0, c1, c2, c3, c4]))
include hb hrep
theorem tst1 : TSt W S w2.heap.size (w2.heap.size + 1) c0 c1 c2 c3 c4 e p T ((w2.alloc (.cells #[c0, c1, c2, c3, c4] 34)).alloc (.cells #[.int .i64 e, .int .i64 p] 45)) := by
  have hba : Below w2.heap.size w2 ((w2.alloc (.cells #[c0, c1, c2, c3, c4] 34)).alloc (.cells #[.int .i64 e, .int .i64 p] 45)) := ((Below.refl _ w2).alloc (Nat.le_refl _) _).alloc (by simp) _
  have hs := hb.size
  refine ⟨?_, ?_, hrep.lift hba, hb.trans (hba.mono hb.size), hs, by omega⟩
  · unfold Box; rw [heap_at, if_neg (by simp), heap_at, if_pos rfl]
  · unfold Flt; rw [heap_at, if_pos (by simp)]
theorem tst2 : TSt W S (w2.heap.size + 1) w2.heap.size c0 c1 c2 c3 c4 e p T ((w2.alloc (.cells #[.int .i64 e, .int .i64 p] 45)).alloc (.cells #[c0, c1, c2, c3, c4] 34)) := by
  have hba : Below w2.heap.size w2 ((w2.alloc (.cells #[.int .i64 e, .int .i64 p] 45)).alloc (.cells #[c0, c1, c2, c3, c4] 34)) := ((Below.refl _ w2).alloc (Nat.le_refl _) _).alloc (by simp) _
  have hs := hb.size
  refine ⟨?_, ?_, hrep.lift hba, hb.trans (hba.mono hb.size), by omega, hs⟩
  · unfold Box; rw [heap_at, if_pos (by simp)]
  · unfold Flt; rw [heap_at, if_neg (by simp), heap_at, if_pos rfl]
theorem tst3 {R3 R5 : Nat} {z0 z1 z2 z3 z4 : Value} (hz : Box w2 R3 z0 z1 z2 z3 z4) (hR : W.heap.size ≤ R3) (hS : ¬ S R3) (h5 : R5 = w2.heap.size) : TSt W S R3 R5 c0 c1 c2 c3 c4 e p T ((((((w2.setCell ⟨R3, 0, none⟩ c0).setCell ⟨R3, 1, none⟩ c1).setCell ⟨R3, 2, none⟩ c2).setCell ⟨R3, 3, none⟩ c3).setCell ⟨R3, 4, none⟩ c4).alloc (.cells #[.int .i64 e, .int .i64 p] 45)) := by
  subst h5
  obtain ⟨hB, hg, hs⟩ := set5 hz c0 c1 c2 c3 c4
  have hr := rep_other hrep hS hg
  have hw := below_fresh hb hR hg
  generalize (((((w2.setCell ⟨R3, 0, none⟩ c0).setCell ⟨R3, 1, none⟩ c1).setCell ⟨R3, 2, none⟩ c2).setCell ⟨R3, 3, none⟩ c3).setCell ⟨R3, 4, none⟩ c4) = Y at *
  have hba : Below Y.heap.size Y (Y.alloc (.cells #[.int .i64 e, .int .i64 p] 45)) := (Below.refl _ Y).alloc (Nat.le_refl _) _
  exact ⟨hB.lift hba, by unfold Flt; rw [heap_at, if_pos hs.symm], hr.lift hba, hw.trans (hba.mono hw.size), hR, hb.size⟩
theorem tst4 {R3 R5 : Nat} {e0 p0 : Int} (hz : Flt w2 R5 e0 p0) (hR : W.heap.size ≤ R5) (hS : ¬ S R5) (h3 : R3 = w2.heap.size) : TSt W S R3 R5 c0 c1 c2 c3 c4 e p T (((w2.setCell ⟨R5, 0, none⟩ (.int .i64 e)).setCell ⟨R5, 1, none⟩ (.int .i64 p)).alloc (.cells #[c0, c1, c2, c3, c4] 34)) := by
  subst h3
  obtain ⟨hB, hg, hs⟩ := setF hz e p
  have hr := rep_other hrep hS hg
  have hw := below_fresh hb hR hg
  generalize ((w2.setCell ⟨R5, 0, none⟩ (.int .i64 e)).setCell ⟨R5, 1, none⟩ (.int .i64 p)) = Y at *
  have hba : Below Y.heap.size Y (Y.alloc (.cells #[c0, c1, c2, c3, c4] 34)) := (Below.refl _ Y).alloc (Nat.le_refl _) _
  exact ⟨by unfold Box; rw [heap_at, if_pos hs.symm], hB.lift hba, hr.lift hba, hw.trans (hba.mono hw.size), hb.size, hR⟩
theorem tst5 {R3 R5 : Nat} {z0 z1 z2 z3 z4 : Value} {e0 p0 : Int} (hz : Box w2 R3 z0 z1 z2 z3 z4) (hR : W.heap.size ≤ R3) (hS : ¬ S R3) (hz5 : Flt w2 R5 e0 p0) (hR5 : W.heap.size ≤ R5) (hS5 : ¬ S R5) (hne : R3 ≠ R5) : TSt W S R3 R5 c0 c1 c2 c3 c4 e p T (((((((w2.setCell ⟨R3, 0, none⟩ c0).setCell ⟨R3, 1, none⟩ c1).setCell ⟨R3, 2, none⟩ c2).setCell ⟨R3, 3, none⟩ c3).setCell ⟨R3, 4, none⟩ c4).setCell ⟨R5, 0, none⟩ (.int .i64 e)).setCell ⟨R5, 1, none⟩ (.int .i64 p)) := by
  obtain ⟨hB, hg, hs⟩ := set5 hz c0 c1 c2 c3 c4
  have hr := rep_other hrep hS hg
  have hw := below_fresh hb hR hg
  have hf := hz5.grown hg (by intro x; exact hne (Option.some.inj x).symm)
  generalize (((((w2.setCell ⟨R3, 0, none⟩ c0).setCell ⟨R3, 1, none⟩ c1).setCell ⟨R3, 2, none⟩ c2).setCell ⟨R3, 3, none⟩ c3).setCell ⟨R3, 4, none⟩ c4) = Y at *
  obtain ⟨hF, hg2, hs2⟩ := setF hf e p
  exact ⟨hB.grown hg2 (by intro x; exact hne (Option.some.inj x)), hF, rep_other hr hS5 hg2, below_fresh hw hR5 hg2, hR, hR5⟩
theorem tst6 {R3 R5 : Nat} {z0 z1 z2 z3 z4 : Value} {e0 p0 : Int} (hz : Box w2 R3 z0 z1 z2 z3 z4) (hR : W.heap.size ≤ R3) (hS : ¬ S R3) (hz5 : Flt w2 R5 e0 p0) (hR5 : W.heap.size ≤ R5) (hS5 : ¬ S R5) (hne : R3 ≠ R5) : TSt W S R3 R5 c0 c1 c2 c3 c4 e p T (((((((w2.setCell ⟨R5, 0, none⟩ (.int .i64 e)).setCell ⟨R5, 1, none⟩ (.int .i64 p)).setCell ⟨R3, 0, none⟩ c0).setCell ⟨R3, 1, none⟩ c1).setCell ⟨R3, 2, none⟩ c2).setCell ⟨R3, 3, none⟩ c3).setCell ⟨R3, 4, none⟩ c4) := by
  obtain ⟨hF, hg, hs⟩ := setF hz5 e p
  have hr := rep_other hrep hS5 hg
  have hw := below_fresh hb hR5 hg
  have hx := hz.grown hg (by intro x; exact hne (Option.some.inj x))
  generalize ((w2.setCell ⟨R5, 0, none⟩ (.int .i64 e)).setCell ⟨R5, 1, none⟩ (.int .i64 p)) = Y at *
  obtain ⟨hB, hg2, hs2⟩ := set5 hx c0 c1 c2 c3 c4
  exact ⟨hB, hF.grown hg2 (by intro x; exact hne (Option.some.inj x).symm), rep_other hr hS hg2, below_fresh hw hR hg2, hR, hR5⟩
end
section
variable {x w2 : World}
theorem preA (hb : Below (x.alloc (.cells #[.int .i64 0, .string ⟨#[]⟩, .int .i64 0, .int .i64 0, .slice none 0 0] 34)).heap.size (x.alloc (.cells #[.int .i64 0, .string ⟨#[]⟩, .int .i64 0, .int .i64 0, .slice none 0 0] 34)) w2) : Zero w2 x.heap.size := Box.lift (Box.made _ _ _ _ _ _) hb
theorem preB (hb : Below (x.alloc (.cells #[.int .i64 0, .int .i64 0] 45)).heap.size (x.alloc (.cells #[.int .i64 0, .int .i64 0] 45)) w2) : Flt w2 x.heap.size 0 0 := Flt.lift (heap_alloc_new x _) hb
theorem preAB (hb : Below ((x.alloc (.cells #[.int .i64 0, .string ⟨#[]⟩, .int .i64 0, .int .i64 0, .slice none 0 0] 34)).alloc (.cells #[.int .i64 0, .int .i64 0] 45)).heap.size ((x.alloc (.cells #[.int .i64 0, .string ⟨#[]⟩, .int .i64 0, .int .i64 0, .slice none 0 0] 34)).alloc (.cells #[.int .i64 0, .int .i64 0] 45)) w2) : Zero w2 x.heap.size ∧ Flt w2 (x.heap.size + 1) 0 0 :=
  ⟨Box.lift (show Box _ _ _ _ _ _ _ by unfold Box; rw [heap_at, if_neg (by simp), heap_at, if_pos rfl]) hb, Flt.lift (show Flt _ _ _ _ by unfold Flt; rw [heap_at, if_pos (by simp)]) hb⟩
theorem preBA (hb : Below ((x.alloc (.cells #[.int .i64 0, .int .i64 0] 45)).alloc (.cells #[.int .i64 0, .string ⟨#[]⟩, .int .i64 0, .int .i64 0, .slice none 0 0] 34)).heap.size ((x.alloc (.cells #[.int .i64 0, .int .i64 0] 45)).alloc (.cells #[.int .i64 0, .string ⟨#[]⟩, .int .i64 0, .int .i64 0, .slice none 0 0] 34)) w2) : Flt w2 x.heap.size 0 0 ∧ Zero w2 (x.heap.size + 1) :=
  ⟨Flt.lift (show Flt _ _ _ _ by unfold Flt; rw [heap_at, if_neg (by simp), heap_at, if_pos rfl]) hb, Box.lift (show Box _ _ _ _ _ _ _ by unfold Box; rw [heap_at, if_pos (by simp)]) hb⟩
end

theorem TSt.imp {W V : World} {S S' : Nat → Prop} {R3 R5 : Nat} {c0 c1 c2 c3 c4 : Value} {e p : Int} {T : Ty} (h : TSt W S R3 R5 c0 c1 c2 c3 c4 e p T V) (hS : ∀ g, S g → S' g) : TSt W S' R3 R5 c0 c1 c2 c3 c4 e p T V := ⟨h.box, h.flt, h.rep.imp hS, h.low, h.hi3, h.hi5⟩
theorem tAl {W a : World} {b : Nat} (o : Obj) (hsz : b ≤ a.heap.size) (h1 : Below b W a) : Below b W (a.alloc o) := h1.alloc hsz o
theorem tDr {W a : World} {b : Nat} (h1 : Below b W a) : Below b W a.drew := h1.drew
theorem noDrew {x w2 : World} (hb : Below x.drew.heap.size x.drew w2) : Below x.heap.size x w2 := (Below.refl _ x).drew.trans hb
theorem tCall {W a c : World} (h1 : Below W.heap.size W a) (h2 : Below a.heap.size a c) : Below W.heap.size W c := h1.trans (h2.mono h1.size)
theorem hz1 (x : World) (o : Obj) : x.heap.size < (x.alloc o).drew.heap.size := by show _ < (x.alloc o).heap.size; simp
theorem hz2 (x : World) (o o' : Obj) : x.heap.size + 1 < ((x.alloc o).alloc o').drew.heap.size := by show _ < ((x.alloc o).alloc o').heap.size; simp
theorem rdT_cases (ts : List Tok) (k : Int) : (∃ T, ∃ j : Nat, rdT ts k = ⟨T, j, 0, 0⟩ ∧ j ≤ ts.length ∧ startAt ts k < j) ∨ (∃ p, rdT ts k = ⟨zeroT, 0, 3, p⟩) := by
  obtain ⟨R, hR⟩ := (ends_all ts (3 * ts.length + 3)).2.1 (startAt ts k) (startAt_le ts k) (by omega)
  have hrd : rdT ts k = resQ ts R := by unfold rdT; rw [hR]; rfl
  rw [hrd]
  cases R with
  | ok U j =>
    have hj := (goes_all ts _).2.1 _ _ _ hR
    exact .inl ⟨U, j, rfl, hj.2, hj.1⟩
  | bad p => exact .inr ⟨_, rfl⟩

end Go.Proofs.Ytgfjcpeeoapjlaa

/- The package's reader of expressions ends: fuel that is enough. -/
namespace Go.Proofs.Ytgfjcpeeoapjlaa
open Go.RowKit Mth

/-- How many tokens are left to a state. -/
def mu (ts : List Tok) (s : St) : Nat := if s.bad then 0 else ts.length - s.i
theorem mu_pos {ts : List Tok} {s : St} (h : s.bad = false ∧ s.i < ts.length) : 1 ≤ mu ts s := by
  unfold mu; rw [h.1]; simp only [Bool.false_eq_true, if_false]; omega
theorem mu_step {ts : List Tok} {s : St} (h : 1 ≤ mu ts s) : mu ts (xStep s) + 1 = mu ts s := by
  obtain ⟨i, q, p⟩ := s
  cases q
  · unfold mu xStep at *; simp only [Bool.false_eq_true, if_false] at *; omega
  · unfold mu at h; simp at h
theorem mu_step_le (ts : List Tok) (s : St) : mu ts (xStep s) ≤ mu ts s := by
  obtain ⟨i, q, p⟩ := s
  cases q
  · unfold mu xStep; simp only [Bool.false_eq_true, if_false]; omega
  · unfold mu xStep; simp
theorem mu_fail (ts : List Tok) (s : St) : mu ts (xFail ts s) = 0 := by
  obtain ⟨i, q, p⟩ := s
  cases q <;> simp [mu, xFail]
theorem mu_exp (ts : List Tok) (s : St) (b : Bool) : mu ts (yExp ts s b) ≤ mu ts s := by
  unfold yExp
  cases b
  · simp only [Bool.false_eq_true, if_false]; rw [mu_fail]; omega
  · simp only [if_true]; exact mu_step_le ts s
theorem mu_tyR (ts : List Tok) (s : St) : mu ts (yTyR ts s).2 ≤ mu ts s := by
  obtain ⟨i, q, p0⟩ := s
  rcases rdT_cases ts i with ⟨T, j, he, hj, hs⟩ | ⟨p, he⟩
  · unfold yTyR
    dsimp only
    rw [he]
    cases q
    · unfold startAt at hs
      simp [mu]
      split at hs <;> omega
    · simp [mu]
  · unfold yTyR
    dsimp only
    rw [he]
    cases q <;> simp [mu, yFl]
theorem vars_end (ts : List Tok) : ∀ f s acc, mu ts s + 1 ≤ f → ∃ l s', yVars f ts s acc = some (l, s') ∧ mu ts s' ≤ mu ts s := by
  intro f
  induction f with
  | zero => intro s acc h; omega
  | succ f ih =>
    intro s acc h
    unfold yVars
    cases hk : yK ts s == 1 with
    | false => exact ⟨acc, s, by simp, Nat.le_refl _⟩
    | true =>
      have hp := mu_step (mu_pos (yK_lt (ts := ts) (s := s) (by rw [beq_iff_eq] at hk; rw [hk]; decide)))
      obtain ⟨l, s', hl, hm⟩ := ih (xStep s) (acc ++ [yT ts s]) (by omega)
      exact ⟨l, s', by simpa using hl, by omega⟩
structure YEnds (ts : List Tok) (f : Nat) : Prop where
  expr : ∀ s, 6 * mu ts s + 6 ≤ f → ∃ e s', yExpr f ts s = some (e, s') ∧ mu ts s' ≤ mu ts s
  fn : ∀ s, 1 ≤ mu ts s → 6 * mu ts s + 5 ≤ f → ∃ e s', yFun f ts s = some (e, s') ∧ mu ts s' ≤ mu ts s
  loc : ∀ s, 1 ≤ mu ts s → 6 * mu ts s + 5 ≤ f → ∃ e s', yLoc f ts s = some (e, s') ∧ mu ts s' ≤ mu ts s
  loc2 : ∀ k p s, 6 * mu ts s + 7 ≤ f → ∃ e s', yLoc2 f ts k p s = some (e, s') ∧ mu ts s' ≤ mu ts s
  cas : ∀ s, 1 ≤ mu ts s → 6 * mu ts s + 5 ≤ f → ∃ e s', yCas f ts s = some (e, s') ∧ mu ts s' ≤ mu ts s
  arms : ∀ s acc, 6 * mu ts s + 2 ≤ f → ∃ l s', yArms f ts s acc = some (l, s') ∧ mu ts s' ≤ mu ts s
  arm : ∀ s, 6 * mu ts s + 7 ≤ f → ∃ A s', yArm f ts s = some (A, s') ∧ mu ts s' ≤ mu ts s
  app : ∀ s, 6 * mu ts s + 5 ≤ f → ∃ e s', yApp f ts s = some (e, s') ∧ mu ts s' ≤ mu ts s
  apps : ∀ s e, 6 * mu ts s + 4 ≤ f → ∃ e' s', yApps f ts s e = some (e', s') ∧ mu ts s' ≤ mu ts s
  atom : ∀ s, 6 * mu ts s + 3 ≤ f → ∃ e s', yAtom f ts s = some (e, s') ∧ mu ts s' ≤ mu ts s ∧ (stB (yK ts s) (yT ts s) = true → mu ts s' < mu ts s)
  enc : ∀ s p, 6 * mu ts s + 7 ≤ f → ∃ e s', yEnc f ts s p = some (e, s') ∧ mu ts s' ≤ mu ts s
  held : ∀ s p, 6 * mu ts s + 7 ≤ f → ∃ e s', yHeld f ts s p = some (e, s') ∧ mu ts s' ≤ mu ts s
set_option maxHeartbeats 1600000 in
theorem yends (ts : List Tok) : ∀ f, YEnds ts f := by
  intro f
  induction f with
  | zero => constructor <;> intros <;> omega
  | succ f ih =>
    refine ⟨?_, ?_, ?_, ?_, ?_, ?_, ?_, ?_, ?_, ?_, ?_, ?_⟩
    · intro s h
      unfold yExpr
      cases h1 : yM ts s ⟨#[92]⟩ with
      | true =>
        simp only [if_true]
        exact ih.fn s (mu_pos (yM_lt h1)) (by omega)
      | false =>
        simp only [Bool.false_eq_true, if_false]
        cases h2 : yW ts s ⟨#[108, 101, 116]⟩ with
        | true =>
          simp only [if_true]
          exact ih.loc s (mu_pos (yW_lt h2)) (by omega)
        | false =>
          simp only [Bool.false_eq_true, if_false]
          cases h3 : yW ts s ⟨#[99, 97, 115, 101]⟩ with
          | true =>
            simp only [if_true]
            exact ih.cas s (mu_pos (yW_lt h3)) (by omega)
          | false =>
            simp only [Bool.false_eq_true, if_false]
            exact ih.app s (by omega)
    · intro s hp h
      unfold yFun
      have m1 := mu_step hp
      have m2 := mu_exp ts (xStep s) (yK ts (xStep s) == 1)
      have m3 := mu_exp ts (yExp ts (xStep s) (yK ts (xStep s) == 1)) (yM ts (yExp ts (xStep s) (yK ts (xStep s) == 1)) ⟨#[46]⟩)
      obtain ⟨a, s', ha, hm⟩ := ih.expr (yExp ts (yExp ts (xStep s) (yK ts (xStep s) == 1)) (yM ts (yExp ts (xStep s) (yK ts (xStep s) == 1)) ⟨#[46]⟩)) (by omega)
      rw [ha]
      exact ⟨_, _, rfl, by omega⟩
    · intro s hp h
      unfold yLoc
      have m1 := mu_step hp
      have m2 := mu_step_le ts (xStep s)
      cases hr : yW ts (xStep s) ⟨#[114, 101, 99]⟩ with
      | true =>
        obtain ⟨e, s', he, hm⟩ := ih.loc2 7 (tkP ts s.i) (xStep (xStep s)) (by omega)
        exact ⟨e, s', by simpa using he, by omega⟩
      | false =>
        obtain ⟨e, s', he, hm⟩ := ih.loc2 6 (tkP ts s.i) (xStep s) (by omega)
        exact ⟨e, s', by simpa using he, by omega⟩
    · intro k p s h
      unfold yLoc2
      have m2 := mu_exp ts s (yK ts s == 1)
      have m3 := mu_exp ts (yExp ts s (yK ts s == 1)) (yM ts (yExp ts s (yK ts s == 1)) ⟨#[61]⟩)
      obtain ⟨a, s1, ha, hm1⟩ := ih.expr (yExp ts (yExp ts s (yK ts s == 1)) (yM ts (yExp ts s (yK ts s == 1)) ⟨#[61]⟩)) (by omega)
      rw [ha]
      have m4 := mu_exp ts s1 (yW ts s1 ⟨#[105, 110]⟩)
      obtain ⟨c, s2, hc, hm2⟩ := ih.expr (yExp ts s1 (yW ts s1 ⟨#[105, 110]⟩)) (by omega)
      dsimp only
      rw [hc]
      exact ⟨_, _, rfl, by omega⟩
    · intro s hp h
      unfold yCas
      have m1 := mu_step hp
      obtain ⟨a, s1, ha, hm1⟩ := ih.expr (xStep s) (by omega)
      rw [ha]
      have m4 := mu_exp ts s1 (yW ts s1 ⟨#[111, 102]⟩)
      obtain ⟨A, s2, hA, hm2⟩ := ih.arm (yExp ts s1 (yW ts s1 ⟨#[111, 102]⟩)) (by omega)
      dsimp only
      rw [hA]
      obtain ⟨l, s3, hl, hm3⟩ := ih.arms s2 [A] (by omega)
      dsimp only
      rw [hl]
      have m5 := mu_exp ts s3 (yW ts s3 ⟨#[101, 110, 100]⟩)
      exact ⟨_, _, rfl, by omega⟩
    · intro s acc h
      unfold yArms
      cases h1 : yM ts s ⟨#[124]⟩ with
      | false => exact ⟨acc, s, by simp, Nat.le_refl _⟩
      | true =>
        simp only [if_true]
        have m1 := mu_step (mu_pos (yM_lt h1))
        obtain ⟨A, s2, hA, hm2⟩ := ih.arm (xStep s) (by omega)
        rw [hA]
        obtain ⟨l, s3, hl, hm3⟩ := ih.arms s2 (acc ++ [A]) (by omega)
        exact ⟨l, s3, hl, by omega⟩
    · intro s h
      unfold yArm
      have m1 := mu_exp ts s (yK ts s == 2)
      obtain ⟨vs, s1, hv, hm1⟩ := vars_end ts f (yExp ts s (yK ts s == 2)) [] (by omega)
      rw [hv]
      have m2 := mu_exp ts s1 (yM ts s1 ⟨#[46]⟩)
      obtain ⟨c, s2, hc, hm2⟩ := ih.expr (yExp ts s1 (yM ts s1 ⟨#[46]⟩)) (by omega)
      dsimp only
      rw [hc]
      exact ⟨_, _, rfl, by omega⟩
    · intro s h
      unfold yApp
      obtain ⟨e, s1, he, hm, -⟩ := ih.atom s (by omega)
      rw [he]
      obtain ⟨e', s2, he', hm2⟩ := ih.apps s1 e (by omega)
      exact ⟨e', s2, he', by omega⟩
    · intro s e h
      unfold yApps
      cases h1 : stB (yK ts s) (yT ts s) with
      | false => exact ⟨e, s, by simp, Nat.le_refl _⟩
      | true =>
        simp only [if_true]
        obtain ⟨a, s1, ha, hm, hlt⟩ := ih.atom s (by omega)
        have hlt := hlt h1
        rw [ha]
        obtain ⟨e', s2, he', hm2⟩ := ih.apps s1 (.mk 5 e.p ⟨#[]⟩ 0 zTy [e, a] []) (by omega)
        exact ⟨e', s2, he', by omega⟩
    · intro s h
      unfold yAtom
      cases h1 : stB (yK ts s) (yT ts s) with
      | false => exact ⟨zEx, xFail ts s, by simp, by rw [mu_fail]; omega, fun h => by simp at h⟩
      | true =>
        have m1 := mu_step (mu_pos (stB_lt h1))
        simp only [if_true]
        split
        · exact ⟨_, _, rfl, by omega, fun _ => by omega⟩
        split
        · exact ⟨_, _, rfl, by omega, fun _ => by omega⟩
        split
        · exact ⟨_, _, rfl, by omega, fun _ => by omega⟩
        split
        · obtain ⟨e, s1, he, hm⟩ := ih.enc (xStep s) (yP ts s) (by omega)
          exact ⟨e, s1, he, by omega, fun _ => by omega⟩
        split
        · obtain ⟨e, s1, he, hm⟩ := ih.held (xStep s) (yP ts s) (by omega)
          exact ⟨e, s1, he, by omega, fun _ => by omega⟩
        · exact ⟨_, _, rfl, by omega, fun _ => by omega⟩
    · intro s p h
      unfold yEnc
      obtain ⟨e, s1, he, hm⟩ := ih.expr s (by omega)
      rw [he]
      dsimp only
      split
      · have m2 := mu_step_le ts s1
        have m3 := mu_tyR ts (xStep s1)
        have m4 := mu_exp ts (yTyR ts (xStep s1)).2 (yM ts (yTyR ts (xStep s1)).2 ⟨#[41]⟩)
        exact ⟨_, _, rfl, by omega⟩
      · have m2 := mu_exp ts s1 (yM ts s1 ⟨#[41]⟩)
        exact ⟨_, _, rfl, by omega⟩
    · intro s p h
      unfold yHeld
      obtain ⟨e, s1, he, hm⟩ := ih.expr s (by omega)
      rw [he]
      have m2 := mu_exp ts s1 (yM ts s1 ⟨#[125]⟩)
      exact ⟨_, _, rfl, by omega⟩
end Go.Proofs.Ytgfjcpeeoapjlaa

/- The package's reader of expressions, whole: by the fuel, from any state. -/
namespace Go.Proofs.Ytgfjcpeeoapjlaa
open Go.RowKit Go.Maps Mth

end Go.Proofs.Ytgfjcpeeoapjlaa
