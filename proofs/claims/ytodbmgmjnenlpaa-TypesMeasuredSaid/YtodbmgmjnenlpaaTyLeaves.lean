/- The contract of the maker's Leaves. -/
import Derived.Test.YtodbmgmjnenlpaaTyNamed
namespace Go.Proofs.Ytodbmgmjnenlpaa
open Go.RowKit Go.Sort Go.Shelf Go.Maps Mth

theorem rowT_of {w : World} {base : Nat} {S : Nat → Prop} {v : Value} {ts : List Ty} (h : RowG TyE w base S v ts) : RowT w base S v ts := h
theorem rowG_of {w : World} {base : Nat} {S : Nat → Prop} {v : Value} {ts : List Ty} (h : RowT w base S v ts) : RowG TyE w base S v ts := h
theorem repL_at {w : World} {S : Nat → Prop} {ts : List Ty} {ad : Addr} {n c : Nat} (h : RepL w S ts (.slice (some ad) n c)) : ∀ j T, ts[j]? = some T → ∃ y, Five w ad j y ∧ Rep w S T y := by
  obtain ⟨a, cap, e, -, hj⟩ := h
  cases e
  intro j T hT
  obtain ⟨ad', x, e', -, h5, hx⟩ := hj j T hT
  cases e'
  exact ⟨x, h5, hx⟩
def leafTs : List Ty := [.mk 3 ⟨#[]⟩ 0 0 [], .mk 3 ⟨#[]⟩ 0 1 [], .mk 3 ⟨#[]⟩ 2 (-1) [], .mk 2 ⟨#[]⟩ 0 0 []]
def leafCells (k i h : Int) : List Value := [.int .i64 k, .string ⟨#[]⟩, .int .i64 i, .int .i64 h, .slice none 0 0]
set_option maxHeartbeats 1600000 in
theorem mkLeaves_any (w : World) : Calls Try.prog 14 #[] w fun e w' => ∃ v, e = .returned v ∧ RowG TyE w' w.heap.size (fun c => w.heap.size ≤ c) v ((List.range 4).map varTy ++ leafTs) ∧ Below w.heap.size w w' := by
  have HV := Lib.hid (fun w => mkVars_any 4 (by decide) w)
  have HRg := Lib.hid (fun h i w => refRigid_any h i w)
  have HBd := Lib.hid (fun i w => refBound_any i w)
  go_enter Try.func14, Try.ntmps14
  go_wp2_with fail
  go_at_call 46
  refine (HV.out _).mono ?_
  rintro e w1 ⟨v, rfl, hrow, hb1⟩
  have HRow := Lib.hid hrow
  clear hrow
  go_wp2_with fail
  go_at_call 47
  refine (HRg.out 0 0 _).mono ?_
  rintro e w2 ⟨rfl, hb2⟩
  go_wp2_with fail
  go_at_call 47
  refine (HRg.out 1 0 _).mono ?_
  rintro e w3 ⟨rfl, hb3⟩
  go_wp2_with fail
  go_at_call 47
  refine (HRg.out (-1) 2 _).mono ?_
  rintro e w4 ⟨rfl, hb4⟩
  go_wp2_with fail
  go_at_call 48
  refine (HBd.out 0 _).mono ?_
  rintro e w5 ⟨rfl, hb5⟩
  have HRow5 := Lib.hid ((((HRow.out.lift hb2).lift hb3).lift hb4).lift hb5)
  have hs1 := hb1.size
  have hs2 := hb2.size
  have hs3 := hb3.size
  have hs4 := hb4.size
  have hs5 := hb5.size
  have HB := Lib.hid ((((hb1.trans (hb2.mono (by omega))).trans (hb3.mono (by omega))).trans (hb4.mono (by omega))).trans (hb5.mono (by omega)))
  have HA : Hid (∀ X, Below w5.heap.size w5 (w5.alloc X)) := fun X => (Below.refl _ w5).alloc (Nat.le_refl _) X
  have HLow : Hid (∀ k, v.ownBlock = some k → w.heap.size ≤ k ∧ k < w5.heap.size) := fun k hk => HRow5.out.lt k hk
  have HF : Hid (∀ Z, SlG TyE (w5.alloc (.cells ([leafCells 3 0 0, leafCells 3 0 1, leafCells 3 2 (-1), leafCells 2 0 0] : List (List Value)).flatten.toArray Z)) (fun c => w.heap.size ≤ c ∧ some c ≠ v.ownBlock) leafTs (.slice (some ⟨w5.heap.size, 0, none⟩) 4 4)) := by
    intro Z
    have hl : ∀ (W : World) (S : Nat → Prop) (k i h : Int), TyE.rep W S (.mk k ⟨#[]⟩ i h []) (leafCells k i h) := fun W S k i h => rep_leaf W S k ⟨#[]⟩ i h (Nat.zero_le _)
    refine slG_block (L := [leafCells 3 0 0, leafCells 3 0 1, leafCells 3 2 (-1), leafCells 2 0 0]) (xs := leafTs) (heap_alloc_new w5 _) ⟨HB.out.size, fun e => by have := (HLow.out _ e.symm).2; omega⟩ (fun j x hx => ?_) (by intro c hc; simp at hc; rcases hc with rfl | rfl | rfl | rfl <;> rfl) (by unfold maxLen; decide)
    unfold leafTs at hx
    match j with
    | 0 => simp at hx; subst hx; exact ⟨_, rfl, hl _ _ _ _ _⟩
    | 1 => simp at hx; subst hx; exact ⟨_, rfl, hl _ _ _ _ _⟩
    | 2 => simp at hx; subst hx; exact ⟨_, rfl, hl _ _ _ _ _⟩
    | 3 => simp at hx; subst hx; exact ⟨_, rfl, hl _ _ _ _ _⟩
    | j + 4 => simp at hx
  clear hb1 hb2 hb3 hb4 hb5 HV HRg HBd hs1 hs2 hs3 hs4 hs5 HRow
  unfold leafV
  go_wp2_with (at_builtin; refine wpList_pushT rfl _ _ rfl w.heap.size (fun c => w.heap.size ≤ c) v ((List.range 4).map varTy) rfl (rowT_of (HRow5.out.lift (HA.out _))) ⟨w5.heap.size, 0, none⟩ 4 4 rfl leafTs rfl (repL_at (slG_repL (HF.out _))) 8 rfl (by decide) (Nat.le_trans HB.out.size (HA.out _).size) ?_; intro a3 c3 w6 hrow6 hg6 _; have HRow6 := Lib.hid hrow6; have hb6 := Below.grown (HB.out.trans ((HA.out _).mono HB.out.size)) hg6 (Nat.le_trans HB.out.size (HA.out _).size) (fun k hk => (HLow.out k hk).1); clear hrow6 hg6)
  go_ret
  exact ⟨_, rfl, rowG_of HRow6.out, hb6⟩
end Go.Proofs.Ytodbmgmjnenlpaa
