/- The contract of the package's Valid. -/
import Derived.Test.YtahiefgfhpkoeaaTyVal1
import Derived.Test.YtahiefgfhpkoeaaTyFind
namespace Go.Proofs.Ytahiefgfhpkoeaa
open Go.RowKit Go.Sort Go.Shelf Mth

def idOk (i : Int) : Bool := decide (0 ≤ i) && decide (i ≤ 1000000)
def homeOk (i : Int) : Bool := decide (-1 ≤ i) && decide (i ≤ 1000000)
mutual
def valid : Ty → Bool
  | .mk k n i h ts =>
    if k = 1 ∨ k = 2 then idOk i && n.toList == [] && h == 0 && decide (ts.length = 0)
    else if k = 3 then idOk i && homeOk h && n.toList == [] && decide (ts.length = 0)
    else if k = 4 then i == 0 && h == 0 && conOk n ts.length && validL ts
    else if k = 5 then isLo (bl n) && i == 0 && h == 0 && decide (ts.length = 0)
    else false
def validL : List Ty → Bool
  | [] => true
  | t :: l => valid t && validL l
end
theorem validL_any : ∀ l : List Ty, validL l = !l.any fun T => !valid T := by
  intro l
  induction l with
  | nil => rfl
  | cons t l ih => simp [validL, ih]
theorem validL_mem {l : List Ty} (h : validL l = true) {T : Ty} (hT : T ∈ l) : valid T = true := by
  rw [validL_any] at h
  simp at h
  exact h T hT
theorem Ty.induct {p : Ty → Prop} (h : ∀ T, (∀ U ∈ T.ts, p U) → p T) : ∀ T, p T := by
  have : ∀ (m : Nat) (T : Ty), nodes T ≤ m → p T := by
    intro m
    induction m with
    | zero => intro T h; have := nodes_pos T; omega
    | succ m ih =>
      intro T hm
      refine h T fun U hU => ih U ?_
      have := nodesL_mem hU
      cases T
      simp only [nodes, Ty.ts] at *
      omega
  exact fun T => this _ T (Nat.le_refl _)

/-- What the contract of a test says. -/
def TestAt (P : Program) (f : Nat) (p : Ty → Bool) (T : Ty) : Prop := ∀ (v : Value) (S : Nat → Prop) (w : World), Rep w S T v → Calls P f #[v] w fun e w' => e = .returned (.bool (p T)) ∧ Below w.heap.size w w'

theorem notValid_of (T : Ty) (H : TestAt Try.prog 48 valid T) (w : World) : PredOf Try.prog 82 #[] (fun T => !valid T) w T := by
  intro v S w' _ h
  obtain ⟨k, n, i, hm, s, eT, rfl, hn, hs⟩ := h.open
  have HR := Lib.hid h
  obtain ⟨sa, sc, rfl, -⟩ := hs
  have HH := Lib.hid H
  clear h eT hn H
  generalize T.ts.length = sn at *
  show Calls Try.prog 82 #[.agg #[.int .i64 k, .string n, .int .i64 i, .int .i64 hm, .slice sa sn sc]] w' _
  have hb0 : ∀ X Z, Below w'.heap.size w' (w'.alloc (.cells X Z)) := fun X Z => (Below.refl _ w').alloc (Nat.le_refl _) _
  have HC := Lib.hid (fun X Z => HH.out _ S (w'.alloc (.cells X Z)) (HR.out.lift (hb0 X Z)))
  go_enter Try.func82, Try.ntmps82
  go_wp2_with (go_at_call 48; refine (HC.out _ _).mono ?_; rintro e w1 ⟨rfl, hb1⟩)
  go_ret
  exact ⟨rfl, (hb0 _ _).trans (hb1.mono (by simp))⟩
theorem allValid_of (l : List Ty) (H : ∀ T ∈ l, TestAt Try.prog 48 valid T) (v : Value) (S : Nat → Prop) (w : World) (h : RepL w S l v) :
    Calls Try.prog 64 #[v] w fun e w' => e = .returned (.bool (validL l)) ∧ Below w.heap.size w w' := by
  have eg : ∀ args w, (callFunc 82 args).run Try.prog w = .ok (.enter 82 args) w := enters_of Try.func82 (by kernel_rfl) rfl
  have HC := Lib.hid (containsFunc_of 82 #[] eg (fun T => !valid T) l v S w (fun T hT => notValid_of T (H T hT) w) h)
  rw [validL_any]
  clear h H eg
  generalize (l.any fun T => !valid T) = q at *
  go_enter Try.func64, Try.ntmps64
  go_wp2_with (go_at_call 81; refine HC.out.mono ?_; rintro e w1 ⟨rfl, hb1⟩)
  go_ret
  exact ⟨rfl, hb1⟩

theorem len_zero (n : Nat) : ((n : Int) == 0) = decide (n = 0) := by rw [Bool.eq_iff_iff]; simp

set_option maxHeartbeats 3200000 in
theorem valid_of (T : Ty) (H : ∀ U ∈ T.ts, TestAt Try.prog 48 valid U) : TestAt Try.prog 48 valid T := by
  intro v S w h
  obtain ⟨k, n, i, hm, s, eT, rfl, hn, hs⟩ := h.open
  have hb0 : ∀ X Z, Below w.heap.size w (w.alloc (.cells X Z)) := fun X Z => (Below.refl _ w).alloc (Nat.le_refl _) _
  have HA : Hid (∀ w w', Below w.heap.size w w' → RepL w S T.ts s → Calls Try.prog 64 #[s] w' fun e w'' => e = .returned (.bool (validL T.ts)) ∧ Below w'.heap.size w' w'') :=
    fun w w' hb h => allValid_of T.ts H s S w' (h.lift hb)
  have HS := Lib.hid hs
  obtain ⟨sa, sc, rfl, -⟩ := hs
  have HE : Hid (valid T = if k = 1 ∨ k = 2 then idOk i && n.toList == [] && hm == 0 && decide (T.ts.length = 0)
    else if k = 3 then idOk i && homeOk hm && n.toList == [] && decide (T.ts.length = 0)
    else if k = 4 then i == 0 && hm == 0 && conOk n T.ts.length && validL T.ts
    else if k = 5 then isLo (bl n) && i == 0 && hm == 0 && decide (T.ts.length = 0)
    else false) := by
    show _ = _
    conv => lhs; rw [eT]
    rfl
  clear h eT hn H
  generalize T.ts.length = sn at *
  generalize validL T.ts = q at *
  go_enter Try.func48, Try.ntmps48
  go_wp2_with (first
    | (go_at_call 64; refine (HA.out w _ (hb0 _ _) HS.out).mono ?_; rintro e w1 ⟨rfl, hb1⟩)
    | (go_at_call 61; refine (tyId_any _ _).mono ?_; rintro e w1 ⟨rfl, rfl⟩)
    | (go_at_call 62; refine (tyHome_any _ _).mono ?_; rintro e w1 ⟨rfl, rfl⟩)
    | (go_at_call 63; refine (tyTake_any _ _ _).mono ?_; rintro e w1 ⟨rfl, rfl⟩)
    | (go_at_call 65; refine (tyLower_any _ _).mono ?_; rintro e w1 ⟨rfl, rfl⟩))
  all_goals
    go_ret
    refine ⟨ret_bool (by rw [HE.out]; simp_all [idOk, homeOk] <;> first | exact len_zero _ | (intros; omega)), ?_⟩
    first
      | exact hb0 _ _
      | exact (hb0 _ _).trans (hb1.mono (by simp))
theorem valid_any (T : Ty) : TestAt Try.prog 48 valid T := Ty.induct valid_of T
end Go.Proofs.Ytahiefgfhpkoeaa
