/- The contract of the law's first. -/
import Derived.Test.YtodbmgmjnenlpaaTyVars
import Derived.Test.YtodbmgmjnenlpaaTyVal3
import Derived.Deep.RegionHeld3
import Derived.Deep.DeepCutAuto
namespace Go.Proofs.Ytodbmgmjnenlpaa
open Go.RowKit Go.Sort Go.Shelf Go.Maps Mth

def tA : Ty := .mk 1 ⟨#[]⟩ 3 0 []
def tB : Ty := .mk 1 ⟨#[]⟩ 1 0 []
/-- Two boxes that stay. -/
theorem keepAB {W w1 w2 : World} {A B : Nat} {a0 a1 a2 a3 a4 b0 b1 b2 b3 b4 : Value} (h0 : w1.cell? ⟨A, 0, none⟩ = some a0) (h1 : w1.cell? ⟨A, 1, none⟩ = some a1) (h2 : w1.cell? ⟨A, 2, none⟩ = some a2) (h3 : w1.cell? ⟨A, 3, none⟩ = some a3) (h4 : w1.cell? ⟨A, 4, none⟩ = some a4)
    (k0 : w1.cell? ⟨B, 0, none⟩ = some b0) (k1 : w1.cell? ⟨B, 1, none⟩ = some b1) (k2 : w1.cell? ⟨B, 2, none⟩ = some b2) (k3 : w1.cell? ⟨B, 3, none⟩ = some b3) (k4 : w1.cell? ⟨B, 4, none⟩ = some b4) (hW : Below W.heap.size W w1) (hb : Below w1.heap.size w1 w2) :
    w2.cell? ⟨A, 0, none⟩ = some a0 ∧ w2.cell? ⟨A, 1, none⟩ = some a1 ∧ w2.cell? ⟨A, 2, none⟩ = some a2 ∧ w2.cell? ⟨A, 3, none⟩ = some a3 ∧ w2.cell? ⟨A, 4, none⟩ = some a4 ∧
    w2.cell? ⟨B, 0, none⟩ = some b0 ∧ w2.cell? ⟨B, 1, none⟩ = some b1 ∧ w2.cell? ⟨B, 2, none⟩ = some b2 ∧ w2.cell? ⟨B, 3, none⟩ = some b3 ∧ w2.cell? ⟨B, 4, none⟩ = some b4 ∧ Below W.heap.size W w2 := by
  have k : ∀ p v, w1.cell? p = some v → w2.cell? p = some v := fun p v h => (hb.cell (World.block_lt_of_cell? _ _ h)).trans h
  exact ⟨k _ _ h0, k _ _ h1, k _ _ h2, k _ _ h3, k _ _ h4, k _ _ k0, k _ _ k1, k _ _ k2, k _ _ k3, k _ _ k4, hW.trans (hb.mono hW.size)⟩

def tI : Ty := con intN []
/-- The list of assignments of the examples, as it was just laid. -/
def twelve : Array Value := #[.int .i64 0, .int .i64 1, .string ⟨#[]⟩, .int .i64 1, .int .i64 0, .slice none 0 0, .int .i64 1, .int .i64 4, .string intN, .int .i64 0, .int .i64 0, .slice none 0 0]
theorem twelve_new (w : World) (Z : TypeId) : AsL (w.alloc (.cells twelve Z)) (fun b => b < (w.alloc (.cells twelve Z)).heap.size) [(0, tB), (1, tI)] (.slice (some ⟨w.heap.size, 0, none⟩) 2 2) := by
  have hnil : (⟨#[]⟩ : ByteArray).size ≤ maxLen := Nat.zero_le _
  have hint : intN.size ≤ maxLen := by unfold maxLen; decide +kernel
  refine ⟨_, 2, rfl, ⟨Nat.le_refl _, by unfold maxLen; decide +kernel⟩, fun j p hj => ?_⟩
  unfold twelve
  rcases j with _ | _ | j
  · simp at hj; subst hj
    exact ⟨_, 1, ⟨#[]⟩, 1, 0, .slice none 0 0, rfl, by simp, ⟨by simp [Addr.add], by simp [Addr.add], by simp [Addr.add], by simp [Addr.add], by simp [Addr.add], by simp [Addr.add]⟩, rep_leaf _ _ _ _ _ _ hnil⟩
  · simp at hj; subst hj
    exact ⟨_, 4, intN, 0, 0, .slice none 0 0, rfl, by simp, ⟨by simp [Addr.add], by simp [Addr.add], by simp [Addr.add], by simp [Addr.add], by simp [Addr.add], by simp [Addr.add]⟩, rep_leaf _ _ _ _ _ _ hint⟩
  · simp at hj
theorem repl_twelve (w : World) (v : Value) (h : AsL w (fun b => b < w.heap.size) [(0, tB), (1, tI)] v) :
    Calls Try.prog 32 #[.agg #[.int .i64 1, .string ⟨#[]⟩, .int .i64 0, .int .i64 0, .slice none 0 0], v] w fun e w' => ∃ a c, e = .returned (.agg #[.int .i64 1, .string ⟨#[]⟩, .int .i64 1, .int .i64 0, .slice a 0 c]) ∧ c ≤ maxLen ∧ Below w.heap.size w w' := by
  refine (repl_any [(0, tB), (1, tI)] (.mk 1 ⟨#[]⟩ 0 0 []) _ v (fun _ => True) _ w (by decide) h (fun b hb => ⟨trivial, hb⟩) (fun _ _ => trivial) (rep_leaf _ _ _ _ _ _ (Nat.zero_le _))).mono ?_
  rintro e w' ⟨u, rfl, hr, hb⟩
  have hv : repl [(0, tB), (1, tI)] (.mk 1 ⟨#[]⟩ 0 0 []) = tB := by rfl
  rw [hv] at hr
  obtain ⟨k, n, i, hm, s, e, rfl, _, a, c, rfl, hc, _⟩ := hr.open
  cases e
  exact ⟨a, c, rfl, hc.2, hb⟩

theorem keepCall {W a b : World} (h1 : Below W.heap.size W a) (h2 : Below a.heap.size a b) : Below W.heap.size W b := h1.trans (h2.mono h1.size)
theorem keepAlloc {W a : World} (o : Obj) (h1 : Below W.heap.size W a) : Below W.heap.size W (a.alloc o) := h1.alloc h1.size o
theorem keepSet {W a : World} {C : Nat} (m : Nat) (v : Value) (h1 : Below W.heap.size W a) (h2 : W.heap.size ≤ C) : Below W.heap.size W (a.setCell ⟨C, m, none⟩ v) := h1.setCell h2 v
theorem zeroNew {x b : World} (h : Below (x.alloc (.cells #[.int .i64 0, .string ⟨#[]⟩, .int .i64 0, .int .i64 0, .slice none 0 0] 24)).heap.size (x.alloc (.cells #[.int .i64 0, .string ⟨#[]⟩, .int .i64 0, .int .i64 0, .slice none 0 0] 24)) b) : Zero b x.heap.size := Box.lift (Box.made _ _ _ _ _ _) h
theorem zeroNewD {x b : World} (h : Below (x.alloc (.cells #[.int .i64 0, .string ⟨#[]⟩, .int .i64 0, .int .i64 0, .slice none 0 0] 24)).drew.heap.size (x.alloc (.cells #[.int .i64 0, .string ⟨#[]⟩, .int .i64 0, .int .i64 0, .slice none 0 0] 24)).drew b) : Zero b x.heap.size := by
  have := h.block x.heap.size (by show _ < (x.alloc _).heap.size; simp)
  unfold Zero Box
  rw [this]
  exact heap_alloc_new x _
theorem zeroNew2 {x b : World} {o : Obj} (h : Below ((x.alloc (.cells #[.int .i64 0, .string ⟨#[]⟩, .int .i64 0, .int .i64 0, .slice none 0 0] 24)).alloc o).heap.size ((x.alloc (.cells #[.int .i64 0, .string ⟨#[]⟩, .int .i64 0, .int .i64 0, .slice none 0 0] 24)).alloc o) b) : Zero b x.heap.size :=
  Box.lift (Box.lift (Box.made _ _ _ _ _ _) ((Below.refl _ _).alloc (Nat.le_refl _) o)) h
set_option maxHeartbeats 8000000 in
set_option maxRecDepth 100000 in
theorem lawFirst_any (w : World) : Calls Try.prog 8 #[] w fun e w' => e = .returned (.bool true) ∧ Below w.heap.size w w' := by
  go_enter Try.func8, Try.ntmps8
  go_wp2_with fail
  go_at_call 39
  refine (refVar_any 3 _).mono ?_
  rintro e w1 ⟨rfl, hb1⟩
  go_wp2_with fail
  go_at_call 39
  refine (refVar_any 1 _).mono ?_
  rintro e w2 ⟨rfl, hb2⟩
  have hbw := hb1.trans (hb2.mono hb1.size)
  clear hb1 hb2
  unfold leafV
  go_wp2
  have hB1 : Hid (Box ((w2.alloc (.cells #[.int .i64 1, .string ⟨#[]⟩, .int .i64 3, .int .i64 0, .slice none 0 0] 24)).alloc (.cells #[.int .i64 1, .string ⟨#[]⟩, .int .i64 1, .int .i64 0, .slice none 0 0] 24)) w2.heap.size (.int .i64 1) (.string ⟨#[]⟩) (.int .i64 3) (.int .i64 0) (.slice none 0 0)) := by
    show Box _ _ _ _ _ _ _
    unfold Box; rw [heap_at, if_neg (by simp), heap_at, if_pos rfl]
  have hB2 : Hid (Box ((w2.alloc (.cells #[.int .i64 1, .string ⟨#[]⟩, .int .i64 3, .int .i64 0, .slice none 0 0] 24)).alloc (.cells #[.int .i64 1, .string ⟨#[]⟩, .int .i64 1, .int .i64 0, .slice none 0 0] 24)) (w2.heap.size + 1) (.int .i64 1) (.string ⟨#[]⟩) (.int .i64 1) (.int .i64 0) (.slice none 0 0)) := by
    show Box _ _ _ _ _ _ _
    unfold Box; rw [heap_at, if_pos (by simp)]
  have hbw2 : Below w.heap.size w ((w2.alloc (.cells #[.int .i64 1, .string ⟨#[]⟩, .int .i64 3, .int .i64 0, .slice none 0 0] 24)).alloc (.cells #[.int .i64 1, .string ⟨#[]⟩, .int .i64 1, .int .i64 0, .slice none 0 0] 24)) := (hbw.alloc hbw.size _).alloc (by have := hbw.size; simp; omega) _
  clear hbw
  generalize ((w2.alloc (.cells #[.int .i64 1, .string ⟨#[]⟩, .int .i64 3, .int .i64 0, .slice none 0 0] 24)).alloc (.cells #[.int .i64 1, .string ⟨#[]⟩, .int .i64 1, .int .i64 0, .slice none 0 0] 24)) = W at *
  generalize w2.heap.size = A at *
  obtain ⟨a0, a1, a2, a3, a4⟩ := hB1.out.cells
  obtain ⟨b0, b1, b2, b3, b4⟩ := hB2.out.cells
  have tok : True := trivial
  have hnil : (⟨#[]⟩ : ByteArray).size ≤ maxLen := Nat.zero_le _
  have HC1 : Hid (∀ w, Calls Try.prog 40 #[.agg #[.int .i64 1, .string ⟨#[]⟩, .int .i64 3, .int .i64 0, .slice none 0 0], .agg #[.int .i64 1, .string ⟨#[]⟩, .int .i64 1, .int .i64 0, .slice none 0 0]] w fun e w' => ∃ a c, e = .returned (.agg #[.int .i64 4, .string arrN, .int .i64 0, .int .i64 0, .slice a 2 c]) ∧ RepL w' (fun _ => True) [tA, tB] (.slice a 2 c) ∧ Below w.heap.size w w') :=
    fun w => arrow_any tA tB _ _ _ w (fun _ _ => trivial) (rep_leaf _ _ _ _ _ _ hnil) (rep_leaf _ _ _ _ _ _ hnil)
  have hsa : arrN.size ≤ maxLen := by unfold maxLen; decide +kernel
  have HC2 : Hid (∀ w s c, RepL w (fun _ => True) [tA, tB] (.slice s 2 c) → Calls Try.prog 40 #[.agg #[.int .i64 4, .string arrN, .int .i64 0, .int .i64 0, .slice s 2 c], .agg #[.int .i64 1, .string ⟨#[]⟩, .int .i64 3, .int .i64 0, .slice none 0 0]] w fun e w' => ∃ a c, e = .returned (.agg #[.int .i64 4, .string arrN, .int .i64 0, .int .i64 0, .slice a 2 c]) ∧ RepL w' (fun _ => True) [con arrN [tA, tB], tA] (.slice a 2 c) ∧ Below w.heap.size w w') :=
    fun w s c h => arrow_any (con arrN [tA, tB]) tA _ _ _ w (fun _ _ => trivial) (Rep.close hsa h) (rep_leaf _ _ _ _ _ _ hnil)
  have HC3 : Hid (∀ w s c0, RepL w (fun _ => True) [con arrN [tA, tB], tA] (.slice s 2 c0) → Calls Try.prog 27 #[.slice (some ⟨w.heap.size, 0, none⟩) 1 1] (w.alloc (.cells #[.int .i64 4, .string arrN, .int .i64 0, .int .i64 0, .slice s 2 c0] 24)) fun e w' => ∃ ad c, e = .returned (.slice (some ad) 2 c) ∧ w'.cell? ad = some (.int .i64 3) ∧ w'.cell? ⟨ad.block, ad.off + 1, none⟩ = some (.int .i64 1) ∧ 2 ≤ c ∧ Below (w.alloc (.cells #[.int .i64 4, .string arrN, .int .i64 0, .int .i64 0, .slice s 2 c0] 24)).heap.size (w.alloc (.cells #[.int .i64 4, .string arrN, .int .i64 0, .int .i64 0, .slice s 2 c0] 24)) w') := by
    intro w s c h
    have hbl : ∀ X Z, Below w.heap.size w (w.alloc (.cells X Z)) := fun X Z => (Below.refl _ w).alloc (Nat.le_refl _) _
    have hrep : ∀ Z, RepL (w.alloc (.cells #[.int .i64 4, .string arrN, .int .i64 0, .int .i64 0, .slice s 2 c] Z)) (fun _ => True) [con arrN [con arrN [tA, tB], tA]] (.slice (some ⟨w.heap.size, 0, none⟩) 1 1) := by
      intro Z
      refine ⟨_, 1, rfl, ⟨Nat.le_refl _, by unfold maxLen; decide⟩, fun j T hj => ?_⟩
      cases j with
      | zero => simp at hj; subst hj; exact ⟨_, _, rfl, trivial, one_new Z _ rfl, (Rep.close hsa h).lift (hbl _ _)⟩
      | succ j => simp at hj
    refine (vars_any [con arrN [con arrN [tA, tB], tA]] _ _ _ (by decide +kernel) (by decide +kernel) (hrep _)).mono ?_
    rintro e w' ⟨v, rfl, ⟨a, c', rfl, h1, _, hc⟩, hb⟩
    have hv : varsOf [con arrN [con arrN [tA, tB], tA]] = [3, 1] := by rfl
    rw [hv] at hc h1
    obtain ⟨ad, rfl, h0⟩ := hc 0 3 rfl
    obtain ⟨ad', e', h2⟩ := hc 1 1 rfl
    cases e'
    exact ⟨ad, c', by rw [hv]; rfl, by simpa [Addr.add] using h0, by simpa [Addr.add] using h2, h1, hb⟩
  clear hsa hnil
  go_region_held3 (fun w' => w'.cell? ⟨A, 0, none⟩ = some (.int .i64 1) ∧ w'.cell? ⟨A, 1, none⟩ = some (.string ⟨#[]⟩) ∧ w'.cell? ⟨A, 2, none⟩ = some (.int .i64 3) ∧ w'.cell? ⟨A, 3, none⟩ = some (.int .i64 0) ∧ w'.cell? ⟨A, 4, none⟩ = some (.slice none 0 0) ∧
      w'.cell? ⟨A + 1, 0, none⟩ = some (.int .i64 1) ∧ w'.cell? ⟨A + 1, 1, none⟩ = some (.string ⟨#[]⟩) ∧ w'.cell? ⟨A + 1, 2, none⟩ = some (.int .i64 1) ∧ w'.cell? ⟨A + 1, 3, none⟩ = some (.int .i64 0) ∧ w'.cell? ⟨A + 1, 4, none⟩ = some (.slice none 0 0) ∧ Below W.heap.size W w')
    (first
      | (go_split_ands; exact keepAB (by assumption) (by assumption) (by assumption) (by assumption) (by assumption) (by assumption) (by assumption) (by assumption) (by assumption) (by assumption) (by assumption) hb)
      | (go_split_ands; exact keepAB (by assumption) (by assumption) (by assumption) (by assumption) (by assumption) (by assumption) (by assumption) (by assumption) (by assumption) (by assumption) (by assumption) ((Below.refl _ _).alloc (Nat.le_refl _) _))
      | exact ⟨a0, a1, a2, a3, a4, b0, b1, b2, b3, b4, (Below.refl _ W).drew⟩)
    (first
      | (go_at_call 40; have _t := tok; refine (HC1.out _).mono ?_; rintro e w' ⟨s1, c1, rfl, hr1, hb⟩; clear tok)
      | (go_at_call 40; refine (HC2.out _ _ _ hr1).mono ?_; rintro e w' ⟨s2, c2, rfl, hr2, hb⟩)
      | (go_at_call 27; refine (HC3.out _ _ _ hr2).mono ?_; rintro e w' ⟨ad, c3, rfl, v0, v1, hc3, hb⟩))
  clear HC1 HC2 HC3 hr1 hr2 hB1 hB2 a0 a1 a2 a3 a4 b0 b1 b2 b3 b4
  go_split_ands
  have hbW : Below W.heap.size W w' := by assumption
  have hbw3 := hbw2.trans (hbW.mono hbw2.size)
  have a0 : w'.cell? ⟨A, 0, none⟩ = some (.int .i64 1) := by assumption
  have a1 : w'.cell? ⟨A, 1, none⟩ = some (.string ⟨#[]⟩) := by assumption
  have a2 : w'.cell? ⟨A, 2, none⟩ = some (.int .i64 3) := by assumption
  have a3 : w'.cell? ⟨A, 3, none⟩ = some (.int .i64 0) := by assumption
  have a4 : w'.cell? ⟨A, 4, none⟩ = some (.slice none 0 0) := by assumption
  have b0 : w'.cell? ⟨A + 1, 0, none⟩ = some (.int .i64 1) := by assumption
  have b1 : w'.cell? ⟨A + 1, 1, none⟩ = some (.string ⟨#[]⟩) := by assumption
  have b2 : w'.cell? ⟨A + 1, 2, none⟩ = some (.int .i64 1) := by assumption
  have b3 : w'.cell? ⟨A + 1, 3, none⟩ = some (.int .i64 0) := by assumption
  have b4 : w'.cell? ⟨A + 1, 4, none⟩ = some (.slice none 0 0) := by assumption
  have HK : Hid (∀ w2, Below w'.heap.size w' w2 → w2.cell? ⟨A, 0, none⟩ = some (.int .i64 1) ∧ w2.cell? ⟨A, 1, none⟩ = some (.string ⟨#[]⟩) ∧ w2.cell? ⟨A, 2, none⟩ = some (.int .i64 3) ∧ w2.cell? ⟨A, 3, none⟩ = some (.int .i64 0) ∧ w2.cell? ⟨A, 4, none⟩ = some (.slice none 0 0) ∧
      w2.cell? ⟨A + 1, 0, none⟩ = some (.int .i64 1) ∧ w2.cell? ⟨A + 1, 1, none⟩ = some (.string ⟨#[]⟩) ∧ w2.cell? ⟨A + 1, 2, none⟩ = some (.int .i64 1) ∧ w2.cell? ⟨A + 1, 3, none⟩ = some (.int .i64 0) ∧ w2.cell? ⟨A + 1, 4, none⟩ = some (.slice none 0 0) ∧ w2.cell? ad = some (.int .i64 3) ∧ w2.cell? ⟨ad.block, ad.off + 1, none⟩ = some (.int .i64 1) ∧ Below w'.heap.size w' w2) := by
    intro w2 hb2
    have k : ∀ p v, w'.cell? p = some v → w2.cell? p = some v := fun p v h => (hb2.cell (World.block_lt_of_cell? _ _ h)).trans h
    exact ⟨k _ _ a0, k _ _ a1, k _ _ a2, k _ _ a3, k _ _ a4, k _ _ b0, k _ _ b1, k _ _ b2, k _ _ b3, k _ _ b4, k _ _ v0, k _ _ v1, hb2⟩
  have HV : Hid (∀ w, Calls Try.prog 39 #[.int .i64 0] w fun e w' => e = .returned (.agg #[.int .i64 1, .string ⟨#[]⟩, .int .i64 0, .int .i64 0, .slice none 0 0]) ∧ Below w.heap.size w w') := fun w => refVar_any 0 w
  have HI : Hid (∀ w, Calls Try.prog 36 #[] w fun e w' => e = .returned (.agg #[.int .i64 4, .string intN, .int .i64 0, .int .i64 0, .slice none 0 0]) ∧ Below w.heap.size w w') := fun w => refInt_any w
  have HR1 : Hid (∀ w : World, Calls Try.prog 32 #[.agg #[.int .i64 1, .string ⟨#[]⟩, .int .i64 0, .int .i64 0, .slice none 0 0], .slice (some ⟨w.heap.size, 0, none⟩) 2 2] (w.alloc (.cells #[.int .i64 0, .int .i64 1, .string ⟨#[]⟩, .int .i64 1, .int .i64 0, .slice none 0 0, .int .i64 1, .int .i64 4, .string intN, .int .i64 0, .int .i64 0, .slice none 0 0] 49)) fun e w' => ∃ a c, e = .returned (.agg #[.int .i64 1, .string ⟨#[]⟩, .int .i64 1, .int .i64 0, .slice a 0 c]) ∧ c ≤ maxLen ∧ Below (w.alloc (.cells #[.int .i64 0, .int .i64 1, .string ⟨#[]⟩, .int .i64 1, .int .i64 0, .slice none 0 0, .int .i64 1, .int .i64 4, .string intN, .int .i64 0, .int .i64 0, .slice none 0 0] 49)).heap.size (w.alloc (.cells #[.int .i64 0, .int .i64 1, .string ⟨#[]⟩, .int .i64 1, .int .i64 0, .slice none 0 0, .int .i64 1, .int .i64 4, .string intN, .int .i64 0, .int .i64 0, .slice none 0 0] 49)) w') :=
    fun w => repl_twelve _ _ (twelve_new w _)
  have HR2 : Hid (∀ (w : World) (X : Obj), Calls Try.prog 32 #[.agg #[.int .i64 1, .string ⟨#[]⟩, .int .i64 0, .int .i64 0, .slice none 0 0], .slice (some ⟨w.heap.size, 0, none⟩) 2 2] ((w.alloc (.cells #[.int .i64 0, .int .i64 1, .string ⟨#[]⟩, .int .i64 1, .int .i64 0, .slice none 0 0, .int .i64 1, .int .i64 4, .string intN, .int .i64 0, .int .i64 0, .slice none 0 0] 49)).alloc X) fun e w' => ∃ a c, e = .returned (.agg #[.int .i64 1, .string ⟨#[]⟩, .int .i64 1, .int .i64 0, .slice a 0 c]) ∧ c ≤ maxLen ∧ Below ((w.alloc (.cells #[.int .i64 0, .int .i64 1, .string ⟨#[]⟩, .int .i64 1, .int .i64 0, .slice none 0 0, .int .i64 1, .int .i64 4, .string intN, .int .i64 0, .int .i64 0, .slice none 0 0] 49)).alloc X).heap.size ((w.alloc (.cells #[.int .i64 0, .int .i64 1, .string ⟨#[]⟩, .int .i64 1, .int .i64 0, .slice none 0 0, .int .i64 1, .int .i64 4, .string intN, .int .i64 0, .int .i64 0, .slice none 0 0] 49)).alloc X) w') :=
    fun w X => repl_twelve _ _ (((twelve_new w _).lift ((Below.refl _ _).alloc (Nat.le_refl _) X)).kept (fun b hb => Nat.lt_of_lt_of_le hb (by simp)) (fun _ _ _ => rfl))
  have HR3 : Hid (∀ (w : World) (X : Obj), Calls Try.prog 32 #[.agg #[.int .i64 1, .string ⟨#[]⟩, .int .i64 0, .int .i64 0, .slice none 0 0], .slice (some ⟨w.heap.size + 1, 0, none⟩) 2 2] ((w.alloc X).alloc (.cells #[.int .i64 0, .int .i64 1, .string ⟨#[]⟩, .int .i64 1, .int .i64 0, .slice none 0 0, .int .i64 1, .int .i64 4, .string intN, .int .i64 0, .int .i64 0, .slice none 0 0] 49)) fun e w' => ∃ a c, e = .returned (.agg #[.int .i64 1, .string ⟨#[]⟩, .int .i64 1, .int .i64 0, .slice a 0 c]) ∧ c ≤ maxLen ∧ Below ((w.alloc X).alloc (.cells #[.int .i64 0, .int .i64 1, .string ⟨#[]⟩, .int .i64 1, .int .i64 0, .slice none 0 0, .int .i64 1, .int .i64 4, .string intN, .int .i64 0, .int .i64 0, .slice none 0 0] 49)).heap.size ((w.alloc X).alloc (.cells #[.int .i64 0, .int .i64 1, .string ⟨#[]⟩, .int .i64 1, .int .i64 0, .slice none 0 0, .int .i64 1, .int .i64 4, .string intN, .int .i64 0, .int .i64 0, .slice none 0 0] 49)) w') := by
    intro w X
    have := HR1.out (w.alloc X)
    rw [World.size_alloc] at this
    exact this
  go_wp2
  clear a0 a1 a2 a3 a4 b0 b1 b2 b3 b4 v0 v1 hbw2 hbW
  have HE1 : Hid (∀ (w : World) (r : Option Addr) (cr : Nat), cr ≤ maxLen → Calls Try.prog 19 #[.agg #[.int .i64 1, .string ⟨#[]⟩, .int .i64 1, .int .i64 0, .slice r 0 cr], .agg #[.int .i64 1, .string ⟨#[]⟩, .int .i64 1, .int .i64 0, .slice none 0 0]] w fun e w' => e = .returned (.bool true) ∧ Below w.heap.size w w') := by
    intro w r cr h
    have h1 : Rep w (fun _ => True) tB (.agg #[.int .i64 1, .string ⟨#[]⟩, .int .i64 1, .int .i64 0, .slice r 0 cr]) := Rep.close (Nat.zero_le _) ⟨r, cr, rfl, ⟨Nat.zero_le _, h⟩, fun j T hj => by simp at hj⟩
    have := equal_any _ tB (Nat.le_refl _) tB _ _ _ _ w h1 (rep_leaf w (fun _ => True) 1 ⟨#[]⟩ 1 0 (Nat.zero_le _))
    rwa [show teq tB tB = true from by decide +kernel] at this
  have HE2 : Hid (∀ w : World, Calls Try.prog 19 #[.agg #[.int .i64 1, .string ⟨#[]⟩, .int .i64 3, .int .i64 0, .slice none 0 0], .agg #[.int .i64 1, .string ⟨#[]⟩, .int .i64 1, .int .i64 0, .slice none 0 0]] w fun e w' => e = .returned (.bool false) ∧ Below w.heap.size w w') :=
    fun w => by
      have := equal_any _ tA (Nat.le_refl _) tB _ _ _ _ w (rep_leaf w (fun _ => True) 1 ⟨#[]⟩ 3 0 (Nat.zero_le _)) (rep_leaf w (fun _ => True) 1 ⟨#[]⟩ 1 0 (Nat.zero_le _))
      rwa [show teq tA tB = false from by decide +kernel] at this
  have HE3 : Hid (∀ w : World, Calls Try.prog 15 #[.agg #[.int .i64 1, .string ⟨#[]⟩, .int .i64 3, .int .i64 0, .slice none 0 0]] w fun e w' => e = .returned (.bool true) ∧ Below w.heap.size w w') :=
    fun w => by
      have := valid_any tA _ (fun _ => True) w (rep_leaf _ _ 1 ⟨#[]⟩ 3 0 (Nat.zero_le _))
      rwa [show valid tA = true from by decide +kernel] at this
  have hdr : Below w'.heap.size w' w'.drew := (Below.refl _ w').drew
  have hrf : Below w'.heap.size w' w' := Below.refl _ w'
  go_region_held3 (fun w2 => w2.cell? ⟨A, 0, none⟩ = some (.int .i64 1) ∧ w2.cell? ⟨A, 1, none⟩ = some (.string ⟨#[]⟩) ∧ w2.cell? ⟨A, 2, none⟩ = some (.int .i64 3) ∧ w2.cell? ⟨A, 3, none⟩ = some (.int .i64 0) ∧ w2.cell? ⟨A, 4, none⟩ = some (.slice none 0 0) ∧
      w2.cell? ⟨A + 1, 0, none⟩ = some (.int .i64 1) ∧ w2.cell? ⟨A + 1, 1, none⟩ = some (.string ⟨#[]⟩) ∧ w2.cell? ⟨A + 1, 2, none⟩ = some (.int .i64 1) ∧ w2.cell? ⟨A + 1, 3, none⟩ = some (.int .i64 0) ∧ w2.cell? ⟨A + 1, 4, none⟩ = some (.slice none 0 0) ∧ w2.cell? ad = some (.int .i64 3) ∧ w2.cell? ⟨ad.block, ad.off + 1, none⟩ = some (.int .i64 1) ∧ Below w'.heap.size w' w2)
    (first
      | with_reducible exact HK.out _ hdr
      | with_reducible exact HK.out _ hw
      | with_reducible exact HK.out _ hw2
      | with_reducible exact HK.out _ hw3
      | with_reducible exact HK.out _ (keepAlloc _ hdr)
      | with_reducible exact HK.out _ (keepAlloc _ hrf)
      | with_reducible exact HK.out _ (keepAlloc _ hrf).drew
      | with_reducible exact HK.out _ (keepAlloc _ hw)
      | with_reducible exact HK.out _ (keepAlloc _ hw2)
      | with_reducible exact HK.out _ (keepAlloc _ hw3)
      | with_reducible exact HK.out _ (keepAlloc _ (keepAlloc _ hw2))
      | with_reducible exact HK.out _ (keepSet _ _ (keepSet _ _ (keepSet _ _ (keepSet _ _ (keepSet _ _ hw3 hCC) hCC) hCC) hCC) hCC)
      | fail)
    (first
      | (go_at_call 39; refine (HV.out _).mono ?_; rintro e w3 ⟨rfl, hb⟩; first
          | (with_reducible have hw : Below w'.heap.size w' w3 := keepCall hdr hb)
          | ((with_reducible have hw : Below w'.heap.size w' w3 := keepCall (keepAlloc _ hrf) hb); have HZ : Hid (Zero w3 w'.heap.size) := zeroNew hb; have HCC : Hid (w'.heap.size ≤ w'.heap.size) := Nat.le_refl _)
          | ((with_reducible have hw : Below w'.heap.size w' w3 := keepCall (keepAlloc _ hrf).drew hb); have HZ : Hid (Zero w3 w'.heap.size) := zeroNewD hb; have HCC : Hid (w'.heap.size ≤ w'.heap.size) := Nat.le_refl _)
          | ((with_reducible have hw : Below w'.heap.size w' w3 := keepCall (keepAlloc _ hdr) hb); have HZ : Hid (Zero w3 w'.heap.size) := zeroNew hb; have HCC : Hid (w'.heap.size ≤ w'.heap.size) := Nat.le_refl _))
      | (go_at_call 36; refine (HI.out _).mono ?_; rintro e w3 ⟨rfl, hb⟩; first
          | ((with_reducible have hw2 : Below w'.heap.size w' w3 := keepCall hw hb); try (have HZ2 := Lib.hid (Box.lift HZ.out hb); have HCC2 := HCC))
          | ((with_reducible have hw2 : Below w'.heap.size w' w3 := keepCall (keepAlloc _ hw) hb); have HZ2 := Lib.hid (zeroNew hb); have HCC2 := Lib.hid hw.size))
      | (go_at_call 32; (with_reducible refine (HR2.out _ _).mono ?_); rintro e w3 ⟨r, cr, rfl, hcr, hb⟩; (with_reducible have hw3 : Below w'.heap.size w' w3 := keepCall (keepAlloc _ (keepAlloc _ hw2)) hb); have hz := zeroNew hb; rw [World.size_alloc] at hz; have hzc := Box.cells hz; have hzf := Box.frozen hz; clear hz; have hCC := Nat.le_succ_of_le hw2.size; go_split_ands)
      | (go_at_call 32; (with_reducible refine (HR1.out _).mono ?_); rintro e w3 ⟨r, cr, rfl, hcr, hb⟩; first
          | ((with_reducible have hw3 : Below w'.heap.size w' w3 := keepCall (keepAlloc _ hw2) hb); try (have hz := Box.lift (Box.lift HZ2.out ((Below.refl _ _).alloc (Nat.le_refl _) _)) hb; have hzc := Box.cells hz; have hzf := Box.frozen hz; clear hz; have hCC := HCC2.out; go_split_ands)))
      | (go_at_call 32; (with_reducible refine (HR3.out _ _).mono ?_); rintro e w3 ⟨r, cr, rfl, hcr, hb⟩; (with_reducible have hw3 : Below w'.heap.size w' w3 := keepCall (keepAlloc _ (keepAlloc _ hw2)) hb); have hz := zeroNew2 hb; have hzc := Box.cells hz; have hzf := Box.frozen hz; clear hz; have hCC := hw2.size; go_split_ands))
  all_goals
    clear HV HI HR1 HR2 HR3 hdr hrf
    go_split_ands
    go_wp2_with (first
      | (go_at_call 19; (with_reducible refine (HE1.out _ _ _ hcr).mono ?_); rintro e w5 ⟨rfl, hb5⟩; have hk := HK.out _ (keepCall (by assumption) hb5); go_split_ands)
      | (go_at_call 19; (with_reducible refine (HE2.out _).mono ?_); rintro e w6 ⟨rfl, hb6⟩; have hk := HK.out _ (keepCall (by assumption) hb6); go_split_ands)
      | (go_at_call 15; (with_reducible refine (HE3.out _).mono ?_); rintro e w7 ⟨rfl, hb7⟩))
    go_ret
    exact ⟨rfl, hbw3.trans ((keepCall (by assumption) hb7).mono hbw3.size)⟩
end Go.Proofs.Ytodbmgmjnenlpaa
