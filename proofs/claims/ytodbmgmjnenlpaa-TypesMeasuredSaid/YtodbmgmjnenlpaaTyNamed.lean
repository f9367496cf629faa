/- The contract of the maker's Named. -/
import Derived.Test.YtodbmgmjnenlpaaTyVarsM
namespace Go.Proofs.Ytodbmgmjnenlpaa
open Go.RowKit Go.Sort Go.Shelf Go.Maps Mth

/-- A block that was laid with some elements. -/
theorem slG_block {α : Type} {E : El α} {w : World} {B : Nat} {L : List (List Value)} {xs : List α} {S : Nat → Prop} {Z : TypeId} (h : w.heap[B]? = some (.cells L.flatten.toArray Z (0, 0))) (hS : S B) (hr : ∀ (j : Nat) (x : α), xs[j]? = some x → ∃ c : List Value, L[j]? = some c ∧ E.rep w S x c) (hlen : ∀ c ∈ L, c.length = E.k) (hmax : xs.length ≤ maxLen) :
    SlG E w S xs (.slice (some ⟨B, 0, none⟩) xs.length xs.length) := by
  refine ⟨some ⟨B, 0, none⟩, xs.length, rfl, ⟨Nat.le_refl _, hmax⟩, fun j x hx => ?_⟩
  obtain ⟨c, hc, hrep⟩ := hr j x hx
  refine ⟨_, c, rfl, hS, fun m u hu => ?_, hrep⟩
  rw [add_zero, Nat.zero_add]
  exact (cell_of_block h (by simpa using flat_get E.k L hlen j m c u hc hu)).1
def namTy (c : UInt8) : Ty := .mk 5 ⟨#[c]⟩ 0 0 []
def namCells (c : UInt8) : List Value := [.int .i64 5, .string ⟨#[c]⟩, .int .i64 0, .int .i64 0, .slice none 0 0]
set_option maxHeartbeats 1600000 in
theorem mkNamed_any (w : World) : Calls Try.prog 42 #[] w fun e w' => ∃ v, e = .returned v ∧ SlG TyE w' (fun c => w.heap.size ≤ c) [namTy 97, namTy 98, namTy 99] v ∧ Below w.heap.size w w' := by
  have HNm := Lib.hid (fun c w => refNamed_any (⟨#[c]⟩ : ByteArray) w)
  go_enter Try.func42, Try.ntmps42
  go_wp2_with fail
  go_at_call 72
  refine (HNm.out 97 _).mono ?_
  rintro e w1 ⟨rfl, hb1⟩
  go_wp2_with fail
  go_at_call 72
  refine (HNm.out 98 _).mono ?_
  rintro e w2 ⟨rfl, hb2⟩
  go_wp2_with fail
  go_at_call 72
  refine (HNm.out 99 _).mono ?_
  rintro e w3 ⟨rfl, hb3⟩
  have HB := Lib.hid ((hb1.trans (hb2.mono hb1.size)).trans (hb3.mono (Nat.le_trans hb1.size hb2.size)))
  have HN : Hid (∀ X Z, (w3.alloc (.cells X Z)).heap[w3.heap.size]? = some (.cells X Z (0, 0))) := fun X Z => heap_alloc_new w3 _
  have HA : Hid (∀ X, Below w3.heap.size w3 (w3.alloc X)) := fun X => (Below.refl _ w3).alloc (Nat.le_refl _) X
  clear hb1 hb2 hb3 HNm
  unfold leafV
  go_wp2
  go_ret
  have hl : ∀ (W : World) (S : Nat → Prop) (c : UInt8), TyE.rep W S (namTy c) (namCells c) := fun W S c => rep_leaf W S 5 ⟨#[c]⟩ 0 0 (by unfold maxLen; show 1 ≤ _; decide)
  refine ⟨_, rfl, slG_block (L := [namCells 97, namCells 98, namCells 99]) (HN.out _ _) HB.out.size (fun j x hx => ?_) (by intro c hc; simp at hc; rcases hc with rfl | rfl | rfl <;> rfl) (by unfold maxLen; decide), HB.out.trans ((HA.out _).mono HB.out.size)⟩
  match j with
  | 0 => simp at hx; subst hx; exact ⟨_, rfl, hl _ _ _⟩
  | 1 => simp at hx; subst hx; exact ⟨_, rfl, hl _ _ _⟩
  | 2 => simp at hx; subst hx; exact ⟨_, rfl, hl _ _ _⟩
  | j + 3 => simp at hx
end Go.Proofs.Ytodbmgmjnenlpaa
