import Derived.Test.YtljgpgmaceackaaQX29
import Derived.Test.YtljgpgmaceackaaQX27
import Derived.Lib.ItoaNum
import Derived.Lib.ItoaLen
import Derived.Test.YtljgpgmaceackaaQX02
import Derived.Test.YtljgpgmaceackaaQX01
import Derived.Deep.LoopGhost
/- Plain facts: the canonical text of an expression: its tokens. -/
namespace Go.Proofs.Ytljgpgmaceackaa
open Go.RowKit Go.Maps Mth

def varsOk (l : List ByteArray) : Bool := l.all fun v => isLo (bl v)
def zTyB (t : Ty) : Bool := t.k == 0 && t.n.toList == [] && t.i == 0 && t.h == 0 && t.ts.length == 0
/-! What an expression without places is made of. -/
mutual
def srcE : Ex → Bool
  | .mk k p n m t kids arms =>
    p == 0 && (k == 9 || zTyB t) && (k == 8 || arms.length == 0) && (k == 3 || m == 0) && srcK kids && srcA arms &&
    (if k == 1 then isLo (bl n) && kids.length == 0
     else if k == 2 then isUp (bl n) && kids.length == 0
     else if k == 3 then n.toList == [] && decide (0 ≤ m) && decide (m ≤ 9) && kids.length == 0
     else if k == 4 then isLo (bl n) && kids.length == 1
     else if k == 5 then n.toList == [] && kids.length == 2
     else if k == 6 || k == 7 then isLo (bl n) && kids.length == 2
     else if k == 8 then n.toList == [] && kids.length == 1 && arms.length != 0
     else if k == 9 then n.toList == [] && kids.length == 1 && src t
     else if k == 10 then n.toList == [] && kids.length == 0
     else k == 11 && n.toList == [] && kids.length == 1)
def srcK : List Ex → Bool
  | [] => true
  | e :: l => srcE e && srcK l
def srcA : List (AH × Ex) → Bool
  | [] => true
  | (h, e) :: l => h.pos == 0 && isUp (bl h.con) && varsOk h.vars && srcE e && srcA l
end
theorem srcK_mem : ∀ {l : List Ex}, srcK l = true → ∀ {T : Ex}, T ∈ l → srcE T = true := by
  intro l
  induction l with
  | nil => intro _ T h; simp at h
  | cons t l ih =>
    intro h T hT
    simp only [srcK, Bool.and_eq_true] at h
    rcases List.mem_cons.1 hT with rfl | hT
    · exact h.1
    · exact ih h.2 hT
theorem srcA_mem : ∀ {l : List (AH × Ex)}, srcA l = true → ∀ {A : AH × Ex}, A ∈ l → A.1.pos = 0 ∧ isUp (bl A.1.con) = true ∧ varsOk A.1.vars = true ∧ srcE A.2 = true := by
  intro l
  induction l with
  | nil => intro _ T h; simp at h
  | cons a l ih =>
    obtain ⟨h, e⟩ := a
    intro hs A hA
    simp only [srcA, Bool.and_eq_true, beq_iff_eq] at hs
    rcases List.mem_cons.1 hA with rfl | hA
    · exact ⟨hs.1.1.1.1, hs.1.1.1.2, hs.1.1.2, hs.1.2⟩
    · exact ih hs.2 hA
def atomE (e : Ex) : Bool := e.k == 1 || e.k == 2 || e.k == 3 || e.k == 10 || e.k == 9 || e.k == 11
def armText (h : AH) : List UInt8 := bl h.con ++ (h.vars.flatMap fun v => 32 :: bl v) ++ [46, 32]
/-! The canonical text. -/
mutual
def shE : Ex → List UInt8
  | .mk k _ n m t kids arms =>
    if k == 1 || k == 2 then bl n
    else if k == 3 then Lib.itoa m
    else if k == 10 then [63]
    else if k == 4 then 92 :: (bl n ++ 46 :: 32 :: shK kids)
    else if k == 5 then shF kids
    else if k == 6 then [108, 101, 116] ++ 32 :: (bl n ++ 32 :: 61 :: 32 :: shLt kids)
    else if k == 7 then [108, 101, 116] ++ 32 :: ([114, 101, 99] ++ 32 :: (bl n ++ 32 :: 61 :: 32 :: shLt kids))
    else if k == 9 then 40 :: (shK kids ++ 32 :: 58 :: 32 :: (shT t ++ [41]))
    else if k == 11 then 123 :: (shK kids ++ [125])
    else [99, 97, 115, 101] ++ 32 :: (shK kids ++ 32 :: ([111, 102] ++ 32 :: (shA0 arms ++ 32 :: [101, 110, 100])))
def shK : List Ex → List UInt8
  | [] => []
  | e :: _ => shE e
def shF : List Ex → List UInt8
  | [] => []
  | e :: l => brk (!(atomE e || e.k == 5)) (shE e) ++ shG l
def shG : List Ex → List UInt8
  | [] => []
  | e :: _ => 32 :: brk (!atomE e) (shE e)
def shLt : List Ex → List UInt8
  | [] => []
  | e :: l => shE e ++ 32 :: ([105, 110] ++ 32 :: shK l)
def shA0 : List (AH × Ex) → List UInt8
  | [] => []
  | (h, e) :: l => armText h ++ (shE e ++ shAr l)
def shAr : List (AH × Ex) → List UInt8
  | [] => []
  | (h, e) :: l => 32 :: 124 :: 32 :: (armText h ++ (shE e ++ shAr l))
end
/-! Its tokens. -/
end Go.Proofs.Ytljgpgmaceackaa

/- Plain facts: what the maker's types and expressions are, and how long their texts are. -/
namespace Go.Proofs.Ytljgpgmaceackaa
open Go.RowKit Go.Maps Mth

def capE : Nat → Nat
  | 0 => 5
  | d + 1 => 3 * capE d + 60
theorem capE_pos : ∀ d, 5 ≤ capE d
  | 0 => Nat.le_refl _
  | d + 1 => by have := capE_pos d; simp only [capE]; omega
/-- What the maker's expressions of a depth are. -/
def OkE (d : Nat) (T : Ex) : Prop := srcE T = true ∧ (shE T).length ≤ capE d
def nmOk (n : ByteArray) : Bool := isLo (bl n) && decide (n.size ≤ 2)
def cnOk (n : ByteArray) : Bool := isUp (bl n) && decide (n.size ≤ 5)
theorem nmOk_iff {n : ByteArray} (h : nmOk n = true) : isLo (bl n) = true ∧ (bl n).length ≤ 2 := by
  simp only [nmOk, Bool.and_eq_true, decide_eq_true_eq] at h
  exact ⟨h.1, by rw [bl_len]; exact h.2⟩
theorem cnOk_iff {n : ByteArray} (h : cnOk n = true) : isUp (bl n) = true ∧ (bl n).length ≤ 5 := by
  simp only [cnOk, Bool.and_eq_true, decide_eq_true_eq] at h
  exact ⟨h.1, by rw [bl_len]; exact h.2⟩
theorem zTyB_z : zTyB zTy = true := by decide +kernel
theorem okE_mono {d : Nat} {T : Ex} (h : OkE d T) : OkE (d + 1) T := ⟨h.1, by have := h.2; simp only [capE]; omega⟩
theorem okE_var (d : Nat) {n : ByteArray} (h : nmOk n = true) : OkE d (.mk 1 0 n 0 zTy [] []) := by
  obtain ⟨h1, h2⟩ := nmOk_iff h
  have := capE_pos d
  exact ⟨by simp [srcE, srcK, srcA, zTyB_z, h1], by simp [shE]; omega⟩
theorem okE_con (d : Nat) {n : ByteArray} (h : cnOk n = true) : OkE d (.mk 2 0 n 0 zTy [] []) := by
  obtain ⟨h1, h2⟩ := cnOk_iff h
  have := capE_pos d
  exact ⟨by simp [srcE, srcK, srcA, zTyB_z, h1], by simp [shE]; omega⟩
theorem okE_hole (d : Nat) : OkE d (.mk 10 0 ⟨#[]⟩ 0 zTy [] []) := by
  have := capE_pos d
  exact ⟨by decide +kernel, by simp [shE]; omega⟩
theorem okE_int (d : Nat) {m : Int} (h0 : 0 ≤ m) (h1 : m ≤ 3) : OkE d (.mk 3 0 ⟨#[]⟩ m zTy [] []) := by
  have hp := capE_pos d
  have : m = 0 ∨ m = 1 ∨ m = 2 ∨ m = 3 := by omega
  rcases this with rfl | rfl | rfl | rfl
  all_goals
    refine ⟨by decide +kernel, Nat.le_trans ?_ hp⟩
    decide +kernel
theorem okE_lam {d : Nat} {n : ByteArray} {a : Ex} (h : nmOk n = true) (ha : OkE d a) : OkE (d + 1) (.mk 4 0 n 0 zTy [a] []) := by
  obtain ⟨h1, h2⟩ := nmOk_iff h
  obtain ⟨g1, g2⟩ := ha
  refine ⟨by simp [srcE, srcK, srcA, zTyB_z, h1, g1], ?_⟩
  simp [shE, shK, capE]
  omega
theorem okE_app {d : Nat} {f a : Ex} (hf : OkE d f) (ha : OkE d a) : OkE (d + 1) (.mk 5 0 ⟨#[]⟩ 0 zTy [f, a] []) := by
  obtain ⟨f1, f2⟩ := hf
  obtain ⟨g1, g2⟩ := ha
  have e1 := brk_len (!(atomE f || f.k == 5)) (shE f)
  have e2 := brk_len (!atomE a) (shE a)
  refine ⟨?_, ?_⟩
  · simp [srcE, srcK, srcA, zTyB_z, f1, g1]
  · simp only [shE, shF, shG, capE]
    simp only [show ((5 : Int) == 1 || (5 : Int) == 2) = false from rfl, show ((5 : Int) == 3) = false from rfl, show ((5 : Int) == 10) = false from rfl, show ((5 : Int) == 4) = false from rfl, show ((5 : Int) == 5) = true from rfl, Bool.false_eq_true, if_false, if_true, List.length_append, List.length_cons]
    omega
theorem okE_let {d : Nat} {k : Int} (hk : k = 6 ∨ k = 7) {n : ByteArray} {a b : Ex} (h : nmOk n = true) (ha : OkE d a) (hb : OkE d b) : OkE (d + 1) (.mk k 0 n 0 zTy [a, b] []) := by
  obtain ⟨h1, h2⟩ := nmOk_iff h
  obtain ⟨f1, f2⟩ := ha
  obtain ⟨g1, g2⟩ := hb
  rcases hk with rfl | rfl
  all_goals
    refine ⟨by simp [srcE, srcK, srcA, zTyB_z, h1, f1, g1], ?_⟩
    simp [shE, shLt, shK, capE]
    omega
theorem okE_held {d : Nat} {a : Ex} (ha : OkE d a) : OkE (d + 1) (.mk 11 0 ⟨#[]⟩ 0 zTy [a] []) := by
  obtain ⟨g1, g2⟩ := ha
  refine ⟨?_, ?_⟩
  · simp [srcE, srcK, srcA, zTyB_z, g1]
  · simp [shE, shK, capE]
    omega
theorem okE_ann {d : Nat} {a : Ex} {t : Ty} (ha : OkE d a) (ht : src t = true) (hl : (shT t).length ≤ 63) : OkE (d + 1) (.mk 9 0 ⟨#[]⟩ 0 t [a] []) := by
  obtain ⟨g1, g2⟩ := ha
  have hp := capE_pos d
  refine ⟨?_, ?_⟩
  · simp [srcE, srcK, srcA, g1, ht]
  · simp [shE, shK, capE]
    omega
/-- An arm that the maker makes. -/
def OkA (d : Nat) (A : AH × Ex) : Prop := A.1.pos = 0 ∧ cnOk A.1.con = true ∧ A.1.vars.length ≤ 2 ∧ (∀ v ∈ A.1.vars, nmOk v = true) ∧ OkE d A.2
theorem vars_len : ∀ vs : List ByteArray, (∀ v ∈ vs, nmOk v = true) → varsOk vs = true ∧ (vs.flatMap fun v => 32 :: bl v).length ≤ 3 * vs.length := by
  intro vs
  induction vs with
  | nil => intro _; exact ⟨rfl, Nat.le_refl _⟩
  | cons v vs ih =>
    intro h
    obtain ⟨i1, i2⟩ := ih fun v hv => h v (by simp [hv])
    obtain ⟨h1, h2⟩ := nmOk_iff (h v (by simp))
    refine ⟨by simp only [varsOk, List.all_cons, Bool.and_eq_true]; exact ⟨h1, by simpa [varsOk] using i1⟩, ?_⟩
    simp only [List.flatMap_cons, List.length_append, List.length_cons]
    omega
theorem okA_parts {d : Nat} {A : AH × Ex} (h : OkA d A) : (armText A.1).length ≤ 13 ∧ (shE A.2).length ≤ capE d ∧ (A.1.pos == 0) = true ∧ isUp (bl A.1.con) = true ∧ varsOk A.1.vars = true ∧ srcE A.2 = true := by
  obtain ⟨h1, h2, h3, h4, h5, h6⟩ := h
  obtain ⟨c1, c2⟩ := cnOk_iff h2
  obtain ⟨v1, v2⟩ := vars_len _ h4
  refine ⟨?_, h6, by simpa using h1, c1, v1, h5⟩
  unfold armText
  simp only [List.length_append, List.length_cons, List.length_nil]
  omega
theorem okE_case {d : Nat} {a : Ex} {arms : List (AH × Ex)} (ha : OkE d a) (h1 : arms ≠ []) (h2 : arms.length ≤ 2) (hA : ∀ A ∈ arms, OkA d A) : OkE (d + 1) (.mk 8 0 ⟨#[]⟩ 0 zTy [a] arms) := by
  obtain ⟨g1, g2⟩ := ha
  have e0 : (⟨#[]⟩ : ByteArray).toList = [] := by decide +kernel
  match arms, h1, h2 with
  | [A], _, _ =>
    obtain ⟨ah, ae⟩ := A
    obtain ⟨a1, a2, a3, a4, a5, a6⟩ := okA_parts (hA (ah, ae) (by simp))
    dsimp only at a1 a2 a3 a4 a5 a6
    refine ⟨?_, ?_⟩
    · simp [srcE, srcK, srcA, zTyB_z, g1, a4, a5, a6, e0]
      simpa using a3
    · simp [shE, shK, shA0, shAr, capE]
      omega
  | [A, B], _, _ =>
    obtain ⟨ah, ae⟩ := A
    obtain ⟨bh, be⟩ := B
    obtain ⟨a1, a2, a3, a4, a5, a6⟩ := okA_parts (hA (ah, ae) (by simp))
    obtain ⟨b1, b2, b3, b4, b5, b6⟩ := okA_parts (hA (bh, be) (by simp))
    dsimp only at a1 a2 a3 a4 a5 a6 b1 b2 b3 b4 b5 b6
    refine ⟨?_, ?_⟩
    · simp [srcE, srcK, srcA, zTyB_z, g1, a4, a5, a6, b4, b5, b6, e0]
      exact ⟨by simpa using a3, by simpa using b3⟩
    · simp [shE, shK, shA0, shAr, capE]
      omega
end Go.Proofs.Ytljgpgmaceackaa

/- The reference's reader of expressions: what it reads by its own rules, and that this is what the package's reads. -/
namespace Go.Proofs.Ytljgpgmaceackaa
open Go.RowKit Go.Maps Mth

def zW (ts : List Tok) (s : St) (k : Int) : ByteArray := if xK ts s k then txt ts s.i else ⟨#[]⟩
def zWs (ts : List Tok) (s : St) (k : Int) : St := if xK ts s k then xStep s else xFail ts s
mutual
def zRead : Nat → List Tok → St → Option (Ex × St)
  | 0, _, _ => none
  | f + 1, ts, s =>
    if xI ts s ⟨#[92]⟩ then zFun f ts s
    else if xI ts s ⟨#[108, 101, 116]⟩ then zLoc f ts s
    else if xI ts s ⟨#[99, 97, 115, 101]⟩ then zCas f ts (xStep s) (tkP ts s.i)
    else zApp f ts s
def zFun : Nat → List Tok → St → Option (Ex × St)
  | 0, _, _ => none
  | f + 1, ts, s =>
    if (xNeed ts (zWs ts (xStep s) 1) ⟨#[46]⟩).bad then some (zEx, xNeed ts (zWs ts (xStep s) 1) ⟨#[46]⟩)
    else
      match zRead f ts (xNeed ts (zWs ts (xStep s) 1) ⟨#[46]⟩) with
      | some (a, s') => some (.mk 4 (tkP ts s.i) (zW ts (xStep s) 1) 0 zTy [a] [], s')
      | none => none
def zLoc : Nat → List Tok → St → Option (Ex × St)
  | 0, _, _ => none
  | f + 1, ts, s =>
    zLoc2 f ts (if xI ts (xStep s) ⟨#[114, 101, 99]⟩ then 7 else 6) (tkP ts s.i) (xSkip ts (xStep s) ⟨#[114, 101, 99]⟩)
def zLoc2 : Nat → List Tok → Int → Int → St → Option (Ex × St)
  | 0, _, _, _, _ => none
  | f + 1, ts, k, p, s =>
    if (xNeed ts (zWs ts s 1) ⟨#[61]⟩).bad then some (zEx, xNeed ts (zWs ts s 1) ⟨#[61]⟩)
    else
      match zRead f ts (xNeed ts (zWs ts s 1) ⟨#[61]⟩) with
      | some (a, s1) =>
        if (xNeed ts s1 ⟨#[105, 110]⟩).bad then some (zEx, xNeed ts s1 ⟨#[105, 110]⟩)
        else
          match zRead f ts (xNeed ts s1 ⟨#[105, 110]⟩) with
          | some (c, s2) => some (.mk k p (zW ts s 1) 0 zTy [a, c] [], s2)
          | none => none
      | none => none
def zCas : Nat → List Tok → St → Int → Option (Ex × St)
  | 0, _, _, _ => none
  | f + 1, ts, s, p =>
    match zRead f ts s with
    | some (a, s1) =>
      match zArm f ts (xNeed ts s1 ⟨#[111, 102]⟩) with
      | some (some A, s2) => zArms f ts s2 p a [A]
      | some (none, s2) => some (zEx, s2)
      | none => none
    | none => none
def zArms : Nat → List Tok → St → Int → Ex → List (AH × Ex) → Option (Ex × St)
  | 0, _, _, _, _, _ => none
  | f + 1, ts, s, p, a, acc =>
    if xI ts s ⟨#[124]⟩ then
      match zArm f ts (xStep s) with
      | some (some A, s2) => zArms f ts s2 p a (acc ++ [A])
      | some (none, s2) => some (zEx, s2)
      | none => none
    else some (.mk 8 p ⟨#[]⟩ 0 zTy [a] acc, xNeed ts s ⟨#[101, 110, 100]⟩)
def zArm : Nat → List Tok → St → Option (Option (AH × Ex) × St)
  | 0, _, _ => none
  | f + 1, ts, s =>
    match yVars f ts (zWs ts s 2) [] with
    | some (vs, s1) =>
      if (xNeed ts s1 ⟨#[46]⟩).bad then some (none, xNeed ts s1 ⟨#[46]⟩)
      else
        match zRead f ts (xNeed ts s1 ⟨#[46]⟩) with
        | some (c, s2) => some (some (⟨tkP ts s.i, zW ts s 2, vs⟩, c), s2)
        | none => none
    | none => none
def zApp : Nat → List Tok → St → Option (Ex × St)
  | 0, _, _ => none
  | f + 1, ts, s =>
    match zAtom f ts s with
    | some (e, s') => zApps f ts s' e
    | none => none
def zApps : Nat → List Tok → St → Ex → Option (Ex × St)
  | 0, _, _, _ => none
  | f + 1, ts, s, e =>
    if stB (yK ts s) (yT ts s) then
      match zAtom f ts s with
      | some (a, s') => zApps f ts s' (.mk 5 e.p ⟨#[]⟩ 0 zTy [e, a] [])
      | none => none
    else some (e, s)
def zAtom : Nat → List Tok → St → Option (Ex × St)
  | 0, _, _ => none
  | f + 1, ts, s =>
    if xK ts s 1 then some (.mk 1 (tkP ts s.i) (txt ts s.i) 0 zTy [] [], xStep s)
    else if xK ts s 2 then some (.mk 2 (tkP ts s.i) (txt ts s.i) 0 zTy [] [], xStep s)
    else if xK ts s 3 then some (.mk 3 (tkP ts s.i) ⟨#[]⟩ (numB (txt ts s.i)) zTy [] [], xStep s)
    else if xI ts s ⟨#[63]⟩ then some (.mk 10 (tkP ts s.i) ⟨#[]⟩ 0 zTy [] [], xStep s)
    else if xI ts s ⟨#[123]⟩ then zHeld f ts (xStep s) (tkP ts s.i)
    else if (xNeed ts s ⟨#[40]⟩).bad then some (zEx, xNeed ts s ⟨#[40]⟩)
    else zEnc f ts (xNeed ts s ⟨#[40]⟩) (tkP ts s.i)
def zEnc : Nat → List Tok → St → Int → Option (Ex × St)
  | 0, _, _, _ => none
  | f + 1, ts, s, p =>
    match zRead f ts s with
    | some (e, s1) =>
      if xI ts s1 ⟨#[58]⟩ then
        match xType (3 * ts.length + 3) ts (xStep s1) with
        | some (t, s2) => some (.mk 9 p ⟨#[]⟩ 0 t [e] [], xNeed ts s2 ⟨#[41]⟩)
        | none => none
      else some (e, xNeed ts s1 ⟨#[41]⟩)
    | none => none
def zHeld : Nat → List Tok → St → Int → Option (Ex × St)
  | 0, _, _, _ => none
  | f + 1, ts, s, p =>
    match zRead f ts s with
    | some (e, s1) => some (.mk 11 p ⟨#[]⟩ 0 zTy [e] [], xNeed ts s1 ⟨#[125]⟩)
    | none => none
end

/-! The small tests agree, in every state. -/
theorem yK_eq (ts : List Tok) (s : St) {k : Int} (hk : k ≠ 0) : (yK ts s == k) = xK ts s k := by
  obtain ⟨i, q, p⟩ := s
  unfold yK xK
  cases q
  · simp [rKind_K i hk]
  · simp [Ne.symm hk]
theorem stB_bad {ts : List Tok} {s : St} (h : s.bad = true) : stB (yK ts s) (yT ts s) = false := by
  have : yK ts s = 0 := by unfold yK; simp [h]
  unfold stB; rw [this]; simp
end Go.Proofs.Ytljgpgmaceackaa
