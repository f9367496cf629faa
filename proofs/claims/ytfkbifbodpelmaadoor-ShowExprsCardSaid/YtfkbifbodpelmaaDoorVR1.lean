import Derived.Test.YtfkbifbodpelmaaDoorVR0
import Derived.Test.YtfkbifbodpelmaaDoorVA2
import Derived.Test.YtfkbifbodpelmaaDoorVA1
import Derived.Test.YtfkbifbodpelmaaDoorVB3
import Derived.Lib.ItoaNum
import Derived.Lib.ItoaLen
/- Valid types: what is of no function. -/
namespace Go.Proofs.YtfkbifbodpelmaaDoor.S3
open Go.RowKit Go.Maps Mth

def conOk (n : ByteArray) (c : Nat) : Bool := if n.toList == [45, 62] then c == 2 else if n.toList == [73, 110, 116] then c == 0 else isUp (bl n) && decide (c ≤ 4)
def idOk (i : Int) : Bool := decide (0 ≤ i) && decide (i ≤ 1000000)
def homeOk (i : Int) : Bool := decide (-1 ≤ i) && decide (i ≤ 1000000)
mutual
def valid : Ty → Bool
  | .mk k n i h ts =>
    if k = 1 ∨ k = 2 then idOk i && n.toList == [] && h == 0 && decide (ts.length = 0)
    else if k = 3 then idOk i && homeOk h && n.toList == [] && decide (ts.length = 0)
    else if k = 4 then i == 0 && h == 0 && conOk n ts.length && validL ts
    else if k = 5 then isLo (bl n) && i == 0 && h == 0 && decide (ts.length = 0)
    else false
def validL : List Ty → Bool
  | [] => true
  | t :: l => valid t && validL l
end
theorem validL_any : ∀ l : List Ty, validL l = !l.any fun T => !valid T := by
  intro l
  induction l with
  | nil => rfl
  | cons t l ih => simp [validL, ih]
theorem validL_mem {l : List Ty} (h : validL l = true) {T : Ty} (hT : T ∈ l) : valid T = true := by
  rw [validL_any] at h
  simp at h
  exact h T hT
theorem Ty.induct {p : Ty → Prop} (h : ∀ T, (∀ U ∈ T.ts, p U) → p T) : ∀ T, p T := by
  have : ∀ (m : Nat) (T : Ty), nodes T ≤ m → p T := by
    intro m
    induction m with
    | zero => intro T h; have := nodes_pos T; omega
    | succ m ih =>
      intro T hm
      refine h T fun U hU => ih U ?_
      have := nodesL_mem hU
      cases T
      simp only [nodes, Ty.ts] at *
      omega
  exact fun T => this _ T (Nat.le_refl _)

theorem box_cell {w wr : World} {X : Array Value} {Z : TypeId} (hb : Below (w.heap.size + 1) (w.alloc (.cells X Z)) wr) (m : Nat) (v : Value) (h : (w.alloc (.cells X Z)).cell? ⟨w.heap.size, m, none⟩ = some v) : wr.cell? ⟨w.heap.size, m, none⟩ = some v :=
  (hb.cell (p := ⟨w.heap.size, m, none⟩) (Nat.lt_succ_self _)).trans h
theorem box_below {w wr : World} {X : Array Value} {Z : TypeId} (hb : Below (w.heap.size + 1) (w.alloc (.cells X Z)) wr) : Below w.heap.size w wr :=
  ((Below.refl _ w).alloc (Nat.le_refl _) _).trans (hb.mono (Nat.le_succ _))

end Go.Proofs.YtfkbifbodpelmaaDoor.S3

/- Plain facts: types that can be written, with short names. -/
namespace Go.Proofs.YtfkbifbodpelmaaDoor
open Go.RowKit Mth

/-! Every part is a constructor or a name, and every name is short. -/
mutual
def wr : Ty → Bool
  | .mk k n _ _ ts => (k == 4 || k == 5) && decide (n.size ≤ 6) && wrL ts
def wrL : List Ty → Bool
  | [] => true
  | t :: l => wr t && wrL l
end
theorem wrL_of : ∀ {l : List Ty}, (∀ T ∈ l, wr T = true) → wrL l = true := by
  intro l
  induction l with
  | nil => intro _; rfl
  | cons t l ih => intro h; simp [wrL, h t (by simp), ih fun T hT => h T (by simp [hT])]
theorem wrL_mem : ∀ {l : List Ty}, wrL l = true → ∀ {T : Ty}, T ∈ l → wr T = true := by
  intro l
  induction l with
  | nil => intro _ T h; simp at h
  | cons t l ih =>
    intro h T hT
    simp only [wrL, Bool.and_eq_true] at h
    rcases List.mem_cons.1 hT with rfl | hT
    · exact h.1
    · exact ih h.2 hT
theorem wr_con {n : ByteArray} {ts : List Ty} (hn : n.size ≤ 6) (h : ∀ T ∈ ts, wr T = true) : wr (con n ts) = true := by
  unfold con
  simp [wr, wrL_of h, hn]
end Go.Proofs.YtfkbifbodpelmaaDoor

/- Plain facts: the maker's types are written types, how long their texts are, and what the package's reader returns at the tokens of these. -/
namespace Go.Proofs.YtfkbifbodpelmaaDoor
open Go.RowKit Go.Maps Mth

theorem src_of_valid : ∀ T : Ty, S3.valid T = true → wr T = true → src T = true := by
  refine tyInd fun T ih hv hw => ?_
  cases T with
  | mk k n i h ts =>
    simp only [wr, Bool.and_eq_true] at hw
    obtain ⟨⟨hk, -⟩, hl⟩ := hw
    have hsL : S3.validL ts = true → srcL ts = true := fun hvl => by
      have h1 : ∀ U ∈ ts, src U = true := fun U hU => ih U hU (S3.validL_mem hvl hU) (wrL_mem hl hU)
      clear ih hv hl hvl hk
      induction ts with
      | nil => rfl
      | cons t l ihl => simp only [srcL, Bool.and_eq_true]; exact ⟨h1 t (by simp), ihl fun U hU => h1 U (by simp [hU])⟩
    by_cases h5 : k = 5
    · subst h5
      simp only [S3.valid] at hv
      rw [if_neg (by decide), if_neg (by decide), if_neg (by decide), if_pos trivial] at hv
      simp only [Bool.and_eq_true, decide_eq_true_eq, beq_iff_eq] at hv
      obtain ⟨⟨⟨h1, rfl⟩, rfl⟩, h4⟩ := hv
      obtain rfl : ts = [] := List.eq_nil_of_length_eq_zero h4
      simp [src, srcL, h1]
    · have h4 : k = 4 := by
        simp only [Bool.or_eq_true, beq_iff_eq] at hk
        rcases hk with h | h
        · exact h
        · exact absurd h h5
      subst h4
      simp only [S3.valid] at hv
      rw [if_neg (by decide), if_neg (by decide), if_pos trivial] at hv
      simp only [Bool.and_eq_true, beq_iff_eq] at hv
      obtain ⟨⟨⟨rfl, rfl⟩, hc⟩, hvl⟩ := hv
      have hs := hsL hvl
      have e5 : ((4 : Int) == 5) = false := rfl
      have e4 : ((4 : Int) == 4) = true := rfl
      have e0 : ((0 : Int) == 0) = true := rfl
      simp only [src, hs, e5, e4, e0, Bool.true_and, Bool.and_true, Bool.false_eq_true, if_false]
      unfold S3.conOk at hc
      cases ha : n.toList == [45, 62] with
      | true => rw [ha] at hc; simpa using hc
      | false =>
        rw [ha] at hc
        simp only [Bool.false_eq_true, if_false] at hc ⊢
        cases hI : n.toList == [73, 110, 116] with
        | true =>
          have : bl n = [73, 110, 116] := by
            have := eq_of_beq hI
            rw [Lib.toList_data] at this
            exact this
          rw [this]
          decide
        | false =>
          rw [hI] at hc
          simp only [Bool.false_eq_true, if_false, Bool.and_eq_true] at hc
          exact hc.1
theorem shT_len6 : ∀ T, src T = true → wr T = true → (shT T).length ≤ 9 * nodes T := by
  have key : ∀ T, src T = true → wr T = true → (shT T).length + 3 ≤ 9 * nodes T := by
    refine tyInd fun T ih hs hw => ?_
    cases T with
    | mk k n i h ts =>
      simp only [src, Bool.and_eq_true] at hs
      simp only [wr, Bool.and_eq_true, decide_eq_true_eq] at hw
      obtain ⟨⟨-, hk⟩, hl⟩ := hs
      have ih' : ∀ U ∈ ts, (shT U).length + 3 ≤ 9 * nodes U := fun U hU => ih U hU (srcL_mem hl hU) (wrL_mem hw.2 hU)
      have hn : (bl n).length ≤ 6 := by rw [bl_len]; exact hw.1.2
      simp only [shT, nodes]
      cases h5 : k == 5 with
      | true => simp only [if_true]; omega
      | false =>
        rw [h5] at hk
        simp only [Bool.false_eq_true, if_false, Bool.and_eq_true] at hk ⊢
        cases ha : n.toList == [45, 62] with
        | true =>
          rw [ha] at hk
          simp only [if_true, beq_iff_eq] at hk ⊢
          match ts, hk.2 with
          | [a, c], _ =>
            have h1 := ih' a (by simp)
            have h2 := ih' c (by simp)
            have h3 := brk_len (isArr a) (shT a)
            simp only [shH, shB, nodesL, List.length_append, List.length_cons, List.length_nil]
            omega
        | false =>
          simp only [Bool.false_eq_true, if_false]
          have hA : ∀ l : List Ty, (∀ U ∈ l, (shT U).length + 3 ≤ 9 * nodes U) → (shA l).length ≤ 9 * nodesL l := by
            intro l
            induction l with
            | nil => intro _; simp [shA]
            | cons t l ihl =>
              intro hh
              have h1 := hh t (by simp)
              have h2 := ihl fun U hU => hh U (by simp [hU])
              have h3 := brk_len (conArgs t) (shT t)
              simp only [shA, nodesL, List.length_cons, List.length_append]
              omega
          have h2 := hA ts ih'
          rw [List.length_append]
          omega
  intro T h1 h2
  have := key T h1 h2
  omega
end Go.Proofs.YtfkbifbodpelmaaDoor

/- Plain facts: the canonical text of an expression: its tokens. -/
namespace Go.Proofs.YtfkbifbodpelmaaDoor
open Go.RowKit Go.Maps Mth

def varsOk (l : List ByteArray) : Bool := l.all fun v => isLo (bl v)
def zTyB (t : Ty) : Bool := t.k == 0 && t.n.toList == [] && t.i == 0 && t.h == 0 && t.ts.length == 0
/-! What an expression without places is made of. -/
mutual
def srcE : Ex → Bool
  | .mk k p n m t kids arms =>
    p == 0 && (k == 9 || zTyB t) && (k == 8 || arms.length == 0) && (k == 3 || m == 0) && srcK kids && srcA arms &&
    (if k == 1 then isLo (bl n) && kids.length == 0
     else if k == 2 then isUp (bl n) && kids.length == 0
     else if k == 3 then n.toList == [] && decide (0 ≤ m) && decide (m ≤ 9) && kids.length == 0
     else if k == 4 then isLo (bl n) && kids.length == 1
     else if k == 5 then n.toList == [] && kids.length == 2
     else if k == 6 || k == 7 then isLo (bl n) && kids.length == 2
     else if k == 8 then n.toList == [] && kids.length == 1 && arms.length != 0
     else if k == 9 then n.toList == [] && kids.length == 1 && src t
     else if k == 10 then n.toList == [] && kids.length == 0
     else k == 11 && n.toList == [] && kids.length == 1)
def srcK : List Ex → Bool
  | [] => true
  | e :: l => srcE e && srcK l
def srcA : List (AH × Ex) → Bool
  | [] => true
  | (h, e) :: l => h.pos == 0 && isUp (bl h.con) && varsOk h.vars && srcE e && srcA l
end
theorem srcK_mem : ∀ {l : List Ex}, srcK l = true → ∀ {T : Ex}, T ∈ l → srcE T = true := by
  intro l
  induction l with
  | nil => intro _ T h; simp at h
  | cons t l ih =>
    intro h T hT
    simp only [srcK, Bool.and_eq_true] at h
    rcases List.mem_cons.1 hT with rfl | hT
    · exact h.1
    · exact ih h.2 hT
theorem srcA_mem : ∀ {l : List (AH × Ex)}, srcA l = true → ∀ {A : AH × Ex}, A ∈ l → A.1.pos = 0 ∧ isUp (bl A.1.con) = true ∧ varsOk A.1.vars = true ∧ srcE A.2 = true := by
  intro l
  induction l with
  | nil => intro _ T h; simp at h
  | cons a l ih =>
    obtain ⟨h, e⟩ := a
    intro hs A hA
    simp only [srcA, Bool.and_eq_true, beq_iff_eq] at hs
    rcases List.mem_cons.1 hA with rfl | hA
    · exact ⟨hs.1.1.1.1, hs.1.1.1.2, hs.1.1.2, hs.1.2⟩
    · exact ih hs.2 hA
def atomE (e : Ex) : Bool := e.k == 1 || e.k == 2 || e.k == 3 || e.k == 10 || e.k == 9 || e.k == 11
def armText (h : AH) : List UInt8 := bl h.con ++ (h.vars.flatMap fun v => 32 :: bl v) ++ [46, 32]
def armTk (h : AH) : List (List UInt8) := bl h.con :: (h.vars.map bl ++ [[46]])
/-! The canonical text. -/
mutual
def shE : Ex → List UInt8
  | .mk k _ n m t kids arms =>
    if k == 1 || k == 2 then bl n
    else if k == 3 then Lib.itoa m
    else if k == 10 then [63]
    else if k == 4 then 92 :: (bl n ++ 46 :: 32 :: shK kids)
    else if k == 5 then shF kids
    else if k == 6 then [108, 101, 116] ++ 32 :: (bl n ++ 32 :: 61 :: 32 :: shLt kids)
    else if k == 7 then [108, 101, 116] ++ 32 :: ([114, 101, 99] ++ 32 :: (bl n ++ 32 :: 61 :: 32 :: shLt kids))
    else if k == 9 then 40 :: (shK kids ++ 32 :: 58 :: 32 :: (shT t ++ [41]))
    else if k == 11 then 123 :: (shK kids ++ [125])
    else [99, 97, 115, 101] ++ 32 :: (shK kids ++ 32 :: ([111, 102] ++ 32 :: (shA0 arms ++ 32 :: [101, 110, 100])))
def shK : List Ex → List UInt8
  | [] => []
  | e :: _ => shE e
def shF : List Ex → List UInt8
  | [] => []
  | e :: l => brk (!(atomE e || e.k == 5)) (shE e) ++ shG l
def shG : List Ex → List UInt8
  | [] => []
  | e :: _ => 32 :: brk (!atomE e) (shE e)
def shLt : List Ex → List UInt8
  | [] => []
  | e :: l => shE e ++ 32 :: ([105, 110] ++ 32 :: shK l)
def shA0 : List (AH × Ex) → List UInt8
  | [] => []
  | (h, e) :: l => armText h ++ (shE e ++ shAr l)
def shAr : List (AH × Ex) → List UInt8
  | [] => []
  | (h, e) :: l => 32 :: 124 :: 32 :: (armText h ++ (shE e ++ shAr l))
end
/-! Its tokens. -/
mutual
def tkE : Ex → List (List UInt8)
  | .mk k _ n m t kids arms =>
    if k == 1 || k == 2 then [bl n]
    else if k == 3 then [Lib.itoa m]
    else if k == 10 then [[63]]
    else if k == 4 then [92] :: bl n :: [46] :: tkK' kids
    else if k == 5 then tkF kids
    else if k == 6 then [108, 101, 116] :: bl n :: [61] :: tkLt kids
    else if k == 7 then [108, 101, 116] :: [114, 101, 99] :: bl n :: [61] :: tkLt kids
    else if k == 9 then [40] :: (tkK' kids ++ [58] :: (tkT t ++ [[41]]))
    else if k == 11 then [123] :: (tkK' kids ++ [[125]])
    else [99, 97, 115, 101] :: (tkK' kids ++ [111, 102] :: (tkA0 arms ++ [[101, 110, 100]]))
def tkK' : List Ex → List (List UInt8)
  | [] => []
  | e :: _ => tkE e
def tkF : List Ex → List (List UInt8)
  | [] => []
  | e :: l => brkW (!(atomE e || e.k == 5)) (tkE e) ++ tkG l
def tkG : List Ex → List (List UInt8)
  | [] => []
  | e :: _ => brkW (!atomE e) (tkE e)
def tkLt : List Ex → List (List UInt8)
  | [] => []
  | e :: l => tkE e ++ [105, 110] :: tkK' l
def tkA0 : List (AH × Ex) → List (List UInt8)
  | [] => []
  | (h, e) :: l => armTk h ++ (tkE e ++ tkAr l)
def tkAr : List (AH × Ex) → List (List UInt8)
  | [] => []
  | (h, e) :: l => [124] :: (armTk h ++ (tkE e ++ tkAr l))
end
end Go.Proofs.YtfkbifbodpelmaaDoor

/- Plain facts: the tokens of an expression's canonical text are read as this expression. -/
namespace Go.Proofs.YtfkbifbodpelmaaDoor
open Go.RowKit Go.Maps Mth

def HOk (T : Ex) : Prop := ∀ f ts i rest, (kt ts).drop i = wk (brkW (!(atomE T || T.k == 5)) (tkE T)) ++ rest → 6 * (ts.length - i) + 5 ≤ f →
  ∃ g T', yApp f ts ⟨i, false, 0⟩ = yApps g ts ⟨i + (brkW (!(atomE T || T.k == 5)) (tkE T)).length, false, 0⟩ T' ∧ strip T' = T ∧ 6 * (ts.length - (i + (brkW (!(atomE T || T.k == 5)) (tkE T)).length)) + 4 ≤ g ∧ stB (yK ts ⟨i, false, 0⟩) (yT ts ⟨i, false, 0⟩) = true
end Go.Proofs.YtfkbifbodpelmaaDoor

/- Plain facts: every expression's canonical text is read as this expression, up to places. -/
namespace Go.Proofs.YtfkbifbodpelmaaDoor
open Go.RowKit Go.Maps Mth

end Go.Proofs.YtfkbifbodpelmaaDoor

/- Plain facts: what the maker's types and expressions are, and how long their texts are. -/
namespace Go.Proofs.YtfkbifbodpelmaaDoor
open Go.RowKit Go.Maps Mth

def capE : Nat → Nat
  | 0 => 5
  | d + 1 => 3 * capE d + 60
theorem capE_pos : ∀ d, 5 ≤ capE d
  | 0 => Nat.le_refl _
  | d + 1 => by have := capE_pos d; simp only [capE]; omega
/-- What the maker's expressions of a depth are. -/
def OkE (d : Nat) (T : Ex) : Prop := srcE T = true ∧ (shE T).length ≤ capE d
def nmOk (n : ByteArray) : Bool := isLo (bl n) && decide (n.size ≤ 2)
def cnOk (n : ByteArray) : Bool := isUp (bl n) && decide (n.size ≤ 5)
theorem nmOk_iff {n : ByteArray} (h : nmOk n = true) : isLo (bl n) = true ∧ (bl n).length ≤ 2 := by
  simp only [nmOk, Bool.and_eq_true, decide_eq_true_eq] at h
  exact ⟨h.1, by rw [bl_len]; exact h.2⟩
theorem cnOk_iff {n : ByteArray} (h : cnOk n = true) : isUp (bl n) = true ∧ (bl n).length ≤ 5 := by
  simp only [cnOk, Bool.and_eq_true, decide_eq_true_eq] at h
  exact ⟨h.1, by rw [bl_len]; exact h.2⟩
theorem zTyB_z : zTyB zTy = true := by decide +kernel
theorem okE_mono {d : Nat} {T : Ex} (h : OkE d T) : OkE (d + 1) T := ⟨h.1, by have := h.2; simp only [capE]; omega⟩
theorem okE_var (d : Nat) {n : ByteArray} (h : nmOk n = true) : OkE d (.mk 1 0 n 0 zTy [] []) := by
  obtain ⟨h1, h2⟩ := nmOk_iff h
  have := capE_pos d
  exact ⟨by simp [srcE, srcK, srcA, zTyB_z, h1], by simp [shE]; omega⟩
theorem okE_con (d : Nat) {n : ByteArray} (h : cnOk n = true) : OkE d (.mk 2 0 n 0 zTy [] []) := by
  obtain ⟨h1, h2⟩ := cnOk_iff h
  have := capE_pos d
  exact ⟨by simp [srcE, srcK, srcA, zTyB_z, h1], by simp [shE]; omega⟩
theorem okE_hole (d : Nat) : OkE d (.mk 10 0 ⟨#[]⟩ 0 zTy [] []) := by
  have := capE_pos d
  exact ⟨by decide +kernel, by simp [shE]; omega⟩
theorem okE_int (d : Nat) {m : Int} (h0 : 0 ≤ m) (h1 : m ≤ 3) : OkE d (.mk 3 0 ⟨#[]⟩ m zTy [] []) := by
  have hp := capE_pos d
  have : m = 0 ∨ m = 1 ∨ m = 2 ∨ m = 3 := by omega
  rcases this with rfl | rfl | rfl | rfl
  all_goals
    refine ⟨by decide +kernel, Nat.le_trans ?_ hp⟩
    decide +kernel
theorem okE_lam {d : Nat} {n : ByteArray} {a : Ex} (h : nmOk n = true) (ha : OkE d a) : OkE (d + 1) (.mk 4 0 n 0 zTy [a] []) := by
  obtain ⟨h1, h2⟩ := nmOk_iff h
  obtain ⟨g1, g2⟩ := ha
  refine ⟨by simp [srcE, srcK, srcA, zTyB_z, h1, g1], ?_⟩
  simp [shE, shK, capE]
  omega
theorem okE_app {d : Nat} {f a : Ex} (hf : OkE d f) (ha : OkE d a) : OkE (d + 1) (.mk 5 0 ⟨#[]⟩ 0 zTy [f, a] []) := by
  obtain ⟨f1, f2⟩ := hf
  obtain ⟨g1, g2⟩ := ha
  have e1 := brk_len (!(atomE f || f.k == 5)) (shE f)
  have e2 := brk_len (!atomE a) (shE a)
  refine ⟨?_, ?_⟩
  · simp [srcE, srcK, srcA, zTyB_z, f1, g1]
  · simp only [shE, shF, shG, capE]
    simp only [show ((5 : Int) == 1 || (5 : Int) == 2) = false from rfl, show ((5 : Int) == 3) = false from rfl, show ((5 : Int) == 10) = false from rfl, show ((5 : Int) == 4) = false from rfl, show ((5 : Int) == 5) = true from rfl, Bool.false_eq_true, if_false, if_true, List.length_append, List.length_cons]
    omega
theorem okE_let {d : Nat} {k : Int} (hk : k = 6 ∨ k = 7) {n : ByteArray} {a b : Ex} (h : nmOk n = true) (ha : OkE d a) (hb : OkE d b) : OkE (d + 1) (.mk k 0 n 0 zTy [a, b] []) := by
  obtain ⟨h1, h2⟩ := nmOk_iff h
  obtain ⟨f1, f2⟩ := ha
  obtain ⟨g1, g2⟩ := hb
  rcases hk with rfl | rfl
  all_goals
    refine ⟨by simp [srcE, srcK, srcA, zTyB_z, h1, f1, g1], ?_⟩
    simp [shE, shLt, shK, capE]
    omega
theorem okE_held {d : Nat} {a : Ex} (ha : OkE d a) : OkE (d + 1) (.mk 11 0 ⟨#[]⟩ 0 zTy [a] []) := by
  obtain ⟨g1, g2⟩ := ha
  refine ⟨?_, ?_⟩
  · simp [srcE, srcK, srcA, zTyB_z, g1]
  · simp [shE, shK, capE]
    omega
theorem okE_ann {d : Nat} {a : Ex} {t : Ty} (ha : OkE d a) (ht : src t = true) (hl : (shT t).length ≤ 63) : OkE (d + 1) (.mk 9 0 ⟨#[]⟩ 0 t [a] []) := by
  obtain ⟨g1, g2⟩ := ha
  have hp := capE_pos d
  refine ⟨?_, ?_⟩
  · simp [srcE, srcK, srcA, g1, ht]
  · simp [shE, shK, capE]
    omega
/-- An arm that the maker makes. -/
def OkA (d : Nat) (A : AH × Ex) : Prop := A.1.pos = 0 ∧ cnOk A.1.con = true ∧ A.1.vars.length ≤ 2 ∧ (∀ v ∈ A.1.vars, nmOk v = true) ∧ OkE d A.2
theorem vars_len : ∀ vs : List ByteArray, (∀ v ∈ vs, nmOk v = true) → varsOk vs = true ∧ (vs.flatMap fun v => 32 :: bl v).length ≤ 3 * vs.length := by
  intro vs
  induction vs with
  | nil => intro _; exact ⟨rfl, Nat.le_refl _⟩
  | cons v vs ih =>
    intro h
    obtain ⟨i1, i2⟩ := ih fun v hv => h v (by simp [hv])
    obtain ⟨h1, h2⟩ := nmOk_iff (h v (by simp))
    refine ⟨by simp only [varsOk, List.all_cons, Bool.and_eq_true]; exact ⟨h1, by simpa [varsOk] using i1⟩, ?_⟩
    simp only [List.flatMap_cons, List.length_append, List.length_cons]
    omega
theorem okA_parts {d : Nat} {A : AH × Ex} (h : OkA d A) : (armText A.1).length ≤ 13 ∧ (shE A.2).length ≤ capE d ∧ (A.1.pos == 0) = true ∧ isUp (bl A.1.con) = true ∧ varsOk A.1.vars = true ∧ srcE A.2 = true := by
  obtain ⟨h1, h2, h3, h4, h5, h6⟩ := h
  obtain ⟨c1, c2⟩ := cnOk_iff h2
  obtain ⟨v1, v2⟩ := vars_len _ h4
  refine ⟨?_, h6, by simpa using h1, c1, v1, h5⟩
  unfold armText
  simp only [List.length_append, List.length_cons, List.length_nil]
  omega
theorem okE_case {d : Nat} {a : Ex} {arms : List (AH × Ex)} (ha : OkE d a) (h1 : arms ≠ []) (h2 : arms.length ≤ 2) (hA : ∀ A ∈ arms, OkA d A) : OkE (d + 1) (.mk 8 0 ⟨#[]⟩ 0 zTy [a] arms) := by
  obtain ⟨g1, g2⟩ := ha
  have e0 : (⟨#[]⟩ : ByteArray).toList = [] := by decide +kernel
  match arms, h1, h2 with
  | [A], _, _ =>
    obtain ⟨ah, ae⟩ := A
    obtain ⟨a1, a2, a3, a4, a5, a6⟩ := okA_parts (hA (ah, ae) (by simp))
    dsimp only at a1 a2 a3 a4 a5 a6
    refine ⟨?_, ?_⟩
    · simp [srcE, srcK, srcA, zTyB_z, g1, a4, a5, a6, e0]
      simpa using a3
    · simp [shE, shK, shA0, shAr, capE]
      omega
  | [A, B], _, _ =>
    obtain ⟨ah, ae⟩ := A
    obtain ⟨bh, be⟩ := B
    obtain ⟨a1, a2, a3, a4, a5, a6⟩ := okA_parts (hA (ah, ae) (by simp))
    obtain ⟨b1, b2, b3, b4, b5, b6⟩ := okA_parts (hA (bh, be) (by simp))
    dsimp only at a1 a2 a3 a4 a5 a6 b1 b2 b3 b4 b5 b6
    refine ⟨?_, ?_⟩
    · simp [srcE, srcK, srcA, zTyB_z, g1, a4, a5, a6, b4, b5, b6, e0]
      exact ⟨by simpa using a3, by simpa using b3⟩
    · simp [shE, shK, shA0, shAr, capE]
      omega
end Go.Proofs.YtfkbifbodpelmaaDoor
