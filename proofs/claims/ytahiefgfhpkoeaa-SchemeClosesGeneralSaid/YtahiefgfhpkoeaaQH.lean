/- The maker's Subst. The maker's Subst: what holds of the leaves holds of what is made of them. Plain facts on the types that the maker makes: what a law on schemes wants of them. Schemes: what General answers is an order on what closing makes. Plain facts. Schemes: what closing makes is valid. Plain facts. Schemes: the law's made. Schemes: the substitution that SchemeCloses makes. Plain facts. Schemes: a scheme that came in. -/
import Derived.Test.YtahiefgfhpkoeaaQC
import Derived.Test.YtahiefgfhpkoeaaQB
import Derived.Test.YtahiefgfhpkoeaaQM
import Derived.Test.YtahiefgfhpkoeaaQG
import Derived.Test.YtahiefgfhpkoeaaQF
import Derived.Test.YtahiefgfhpkoeaaTyOpen
namespace Go.Proofs.Ytahiefgfhpkoeaa
open Go.RowKit Go.Sort Go.Shelf Go.Maps Mth

/-- What a made substitution is. -/
def OkS (n : Nat) (σ : List (Int × Ty)) : Prop := σ.length ≤ n ∧ ∀ p ∈ σ, 0 ≤ p.1 ∧ p.1 < (n : Int) ∧ Ok 1 p.2
/-- What the maker's loop holds. -/
structure SuSt (w : World) (b : Nat) (sv : Value) (xs : List (Int × Ty)) (v : World) : Prop where
  tp : Tq v b
  row : RowG AsE v w.heap.size (fun c => w.heap.size ≤ c) sv xs
  grown : w.grownBy v (some b)
theorem SuSt.call {w v v' : World} {b : Nat} {sv : Value} {xs : List (Int × Ty)} (hb : b < w.heap.size) (h : SuSt w b sv xs v) (ht : Tq v' b) (hg : v.grownBy v' (some b)) : SuSt w b sv xs v' :=
  ⟨ht, h.row.kept hg (h.row.off hb) (fun c hc e => by have := Option.some.inj e; omega), grown_trans h.grown hg⟩
theorem SuSt.lift {w v v' : World} {b : Nat} {sv : Value} {xs : List (Int × Ty)} (h : SuSt w b sv xs v) (hl : RowKit.Below v.heap.size v v') : SuSt w b sv xs v' :=
  ⟨h.tp.lift hl, h.row.lift hl, grown_trans h.grown (grown_of_below hl _)⟩
theorem SuSt.push {w v v' : World} {b : Nat} {sv sv' : Value} {xs xs' : List (Int × Ty)} (hb : b < w.heap.size) (h : SuSt w b sv xs v) (hr : RowG AsE v' w.heap.size (fun c => w.heap.size ≤ c) sv' xs') (hg : v.grownBy v' sv.ownBlock) : SuSt w b sv' xs' v' := by
  refine ⟨?_, hr, grown_fresh h.grown hg fun i hi => (h.row.lt i hi).1⟩
  cases ho : sv.ownBlock with
  | none => rw [ho] at hg; exact h.tp.lift ⟨hg.os, hg.tape, hg.output, hg.size, fun i hi => hg.block i hi (by simp)⟩
  | some R => rw [ho] at hg; exact h.tp.other (by have := (h.row.lt R ho).1; omega) hg
def rigT : Ty := .mk 3 ⟨#[]⟩ 0 (-1) []
set_option maxRecDepth 100000 in
set_option maxHeartbeats 6400000 in
theorem mkSubst_any (n : Nat) (hn : n ≤ 100) (hL : LeafL ((List.range (n + 1)).map varTy ++ [rigT])) (ds : List Dat) (dv : Value) (b : Nat) (w : World) (hds : Some_ ds) (hsd : SlG DatE w (fun c => c ≠ b) ds dv) (ht : Tq w b) :
    Calls Try.prog 31 #[.pointer (some ⟨b, 0, none⟩), dv, .int .i64 n] w fun e w' => ∃ u σ, e = .returned u ∧ SuSt w b u σ w' ∧ OkS n σ := by
  have hblt := ht.lt
  have HN := Lib.hid (fun v h => next_q 3 (by decide) (by decide) b v h)
  have HVs := Lib.hid (fun w => mkVars_any (n + 1) (by omega) w)
  have HRg := Lib.hid (fun w => refRigid_any (-1) 0 w)
  have HMk := Lib.hid (mkType_any 1)
  have HDS := Lib.hid hds
  have HL := Lib.hid hL
  obtain ⟨da, dc, rfl⟩ := slG_form hsd
  have HD : Hid (∀ v, w.grownBy v (some b) → SlG DatE v (fun c => c ≠ b) ds (.slice da ds.length dc)) := fun v hg => hsd.kept (fun _ h => h) (fun c hc hlt => hg.block c hlt (fun e => hc (Option.some.inj e)))
  have HAl : Hid (∀ (w : World) (o : Obj), RowKit.Below w.heap.size w (w.alloc o)) := fun w o => (Below.refl _ w).alloc (Nat.le_refl _) _
  have H0 : Hid (SuSt w b (.slice none 0 0) [] w ∧ ([] : List (Int × Ty)).length ≤ 0 ∧ ∀ p ∈ ([] : List (Int × Ty)), 0 ≤ p.1 ∧ p.1 < (n : Int) ∧ Ok 1 p.2) := ⟨⟨ht, rowG_nil _ _ _ _, grown_of_below (Below.refl _ _) _⟩, Nat.le_refl _, fun p hp => by cases hp⟩
  clear hds hsd ht hL
  generalize ds.length = dn at *
  go_enter Try.func31, Try.ntmps31
  go_wp2
  go_loopw [7, 8] (fun y x wr => ∃ (j : Nat) (xs : List (Int × Ty)) (sj : Value), j ≤ n ∧ x = .int .i64 j ∧ sj = y ∧ Hid (SuSt w b sj xs wr ∧ xs.length ≤ j ∧ ∀ p ∈ xs, 0 ≤ p.1 ∧ p.1 < (n : Int) ∧ Ok 1 p.2)) (fun _ x _ => n - (intOf x).toNat)
  case atStart => exact ⟨0, [], _, Nat.zero_le _, rfl, rfl, H0⟩
  case round =>
    clear H0
    obtain ⟨j, xs, sj, hj, rfl, rfl, HIn⟩ := hrel
    by_cases hlt : j < n
    · have hji : (j : Int) < (n : Int) := by omega
      obtain ⟨ja, jc, rfl, -, -⟩ := HIn.out.1.row.slice
      have HLn := Lib.hid HIn.out.2.1
      have HOk := Lib.hid HIn.out.2.2
      have HSt0 := Lib.hid HIn.out.1
      clear HIn
      go_wp2_with fail
      go_at_call 43
      refine (HN.out _ HSt0.out.tp).mono ?_
      rintro e w1 ⟨r, rfl, hr3, ht1, hg1⟩
      have HSt1 := Lib.hid (HSt0.out.call hblt ht1 hg1)
      clear ht1 hg1
      by_cases hr : r = 0
      · subst hr
        go_wp2
        go_roundw
        case rel => exact ⟨j + 1, xs, _, hlt, by go_num, rfl, HSt1.out, Nat.le_succ_of_le HLn.out, HOk.out⟩
        case measure => simp [intOf]; omega
      · have hr0 : (0 : Int) < (r : Int) := by omega
        have hn1 : ((n : Int) + 1) = ((n + 1 : Nat) : Int) := by omega
        have HVs1 := HVs.out w1
        rw [← hn1] at HVs1
        have HVs2 := Lib.hid HVs1
        clear HVs1 hn1
        go_wp2_with fail
        go_at_call 41
        refine HVs2.out.mono ?_
        rintro e w2 ⟨v2, rfl, hrow2, hb2⟩
        have HRw2 := Lib.hid hrow2
        have HSt2 := Lib.hid (HSt1.out.lift hb2)
        have HB2 := Lib.hid hb2
        clear hrow2 hb2 HVs2
        go_wp2_with fail
        go_at_call 42
        refine (HRg.out w2).mono ?_
        rintro e w3 ⟨rfl, hb3⟩
        have HRw3 := Lib.hid (HRw2.out.lift hb3)
        have HSt3 := Lib.hid (HSt2.out.lift hb3)
        have HB3 := Lib.hid (HB2.out.trans (hb3.mono HB2.out.size))
        clear hb3 HRw2 HB2
        have hs3 := HB3.out.size
        have HA3 : Hid (∀ X Z, RowKit.Below w3.heap.size w3 (w3.alloc (.cells X Z))) := fun X Z => HAl.out _ _
        have HE : Hid (∀ W S, TyE.rep W S rigT [.int .i64 3, .string ⟨#[]⟩, .int .i64 0, .int .i64 (-1), .slice none 0 0]) := fun W S => rep_leaf W S 3 ⟨#[]⟩ 0 (-1) (Nat.zero_le _)
        unfold leafV
        go_wp2_with (at_builtin; refine wpList_pushG TyE rfl _ _ rfl w1.heap.size (fun c => w1.heap.size ≤ c) v2 _ rfl (HRw3.out.lift (HA3.out _ _)) w3.heap.size _ [.int .i64 3, .string ⟨#[]⟩, .int .i64 0, .int .i64 (-1), .slice none 0 0] (heap_alloc_new w3 _) rfl rigT (HE.out _ _) (n + 2) (by simp) (by omega) (Nat.le_trans hs3 (HA3.out _ _).size) ?_; intro a4 c4 w4 hrow4 hg4; have HRw4 := Lib.hid hrow4; have HB4 : Hid (RowKit.Below w1.heap.size w1 w4) := Below.grown (HB3.out.trans ((HA3.out _ _).mono hs3)) hg4 (Nat.le_trans hs3 (HA3.out _ _).size) (fun k hk => (HRw3.out.lt k hk).1); clear hrow4 hg4)
        go_at_call 13
        have HSt4 := Lib.hid (HSt1.out.lift HB4.out)
        have hw1 : w.heap.size ≤ w1.heap.size := HSt1.out.grown.size
        refine (HMk.out 1 ds _ ((List.range (n + 1)).map varTy ++ [rigT]) _ (fun c => c ≠ b) b w4.heap.size w4 rfl (by decide) HDS.out HL.out (HD.out _ HSt4.out.grown) (HRw4.out.slG (fun c hc => by omega) (fun c hc => by omega)) (fun c hc => hc) HSt4.out.tp (Nat.le_refl _)).mono ?_
        rintro e w5 ⟨u, rfl, T, hrep, hok, htq, hg5⟩
        have HSt5 := Lib.hid (HSt4.out.call hblt htq hg5)
        have HTok := Lib.hid hok
        have HX5 : Hid (Rep w5 (fun c => w.heap.size ≤ c ∧ some c ≠ (Value.slice ja xs.length jc).ownBlock) T u) := hrep.imp fun c hc => ⟨Nat.le_trans HSt4.out.grown.size hc, fun e => by have := (HSt4.out.row.lt c e.symm).2; omega⟩
        obtain ⟨uk, un, ui, uh, ua, um, uc, rfl⟩ := hrep.form
        clear hrep hok htq hg5 HRw4 HB4 HRw3 HB3 hs3
        have hxb : xs.length + 1 ≤ 1000000 := by have := HLn.out; omega
        go_wp2_with (at_builtin; refine wpList_pushAs HSt5.out.row HX5.out rfl _ _ rfl rfl _ rfl rfl (xs.length + 1) rfl hxb HSt5.out.grown.size ?_; intro a6 c6 w6 hrow6 hg6; have HSt6 := Lib.hid (HSt5.out.push hblt hrow6 hg6); clear hrow6 hg6)
        go_roundw
        case rel =>
          refine ⟨j + 1, xs ++ [((j : Int), T)], _, hlt, by go_num, rfl, HSt6.out, by simp; exact HLn.out, fun p hp => ?_⟩
          rcases List.mem_append.1 hp with h | h
          · exact HOk.out p h
          · simp at h; subst h; exact ⟨by simp, hji, HTok.out⟩
        case measure => simp [intOf]; omega
    · obtain rfl : j = n := by omega
      have HIn' := Lib.hid HIn.out
      clear HIn
      go_wp2
      go_ret
      exact ⟨_, xs, rfl, HIn'.out.1, HIn'.out.2.1, HIn'.out.2.2⟩
end Go.Proofs.Ytahiefgfhpkoeaa

namespace Go.Proofs.Ytahiefgfhpkoeaa
open Go.RowKit Go.Sort Go.Shelf Go.Maps Mth

def OkSN (Q : Ty → Bool) (n : Nat) (σ : List (Int × Ty)) : Prop := σ.length ≤ n ∧ ∀ p ∈ σ, 0 ≤ p.1 ∧ p.1 < (n : Int) ∧ OkN Q 1 p.2
set_option maxRecDepth 100000 in
set_option maxHeartbeats 6400000 in
theorem mkSubstQ_any (Q : Ty → Bool) (n : Nat) (hn : n ≤ 100) (hL : LeafL ((List.range (n + 1)).map varTy ++ [rigT])) (hQ : ∀ T ∈ (List.range (n + 1)).map varTy ++ [rigT], allN Q T = true) (ds : List Dat) (dv : Value) (b : Nat) (w : World) (hds : Some_ ds) (hsd : SlG DatE w (fun c => c ≠ b) ds dv) (ht : Tq w b) :
    Calls Try.prog 31 #[.pointer (some ⟨b, 0, none⟩), dv, .int .i64 n] w fun e w' => ∃ u σ, e = .returned u ∧ SuSt w b u σ w' ∧ OkSN Q n σ := by
  have hblt := ht.lt
  have HN := Lib.hid (fun v h => next_q 3 (by decide) (by decide) b v h)
  have HVs := Lib.hid (fun w => mkVars_any (n + 1) (by omega) w)
  have HRg := Lib.hid (fun w => refRigid_any (-1) 0 w)
  have HMk := Lib.hid (mkTypeQ_any Q 1)
  have HDS := Lib.hid hds
  have HL := Lib.hid hL
  have HQ := Lib.hid hQ
  obtain ⟨da, dc, rfl⟩ := slG_form hsd
  have HD : Hid (∀ v, w.grownBy v (some b) → SlG DatE v (fun c => c ≠ b) ds (.slice da ds.length dc)) := fun v hg => hsd.kept (fun _ h => h) (fun c hc hlt => hg.block c hlt (fun e => hc (Option.some.inj e)))
  have HAl : Hid (∀ (w : World) (o : Obj), RowKit.Below w.heap.size w (w.alloc o)) := fun w o => (Below.refl _ w).alloc (Nat.le_refl _) _
  have H0 : Hid (SuSt w b (.slice none 0 0) [] w ∧ ([] : List (Int × Ty)).length ≤ 0 ∧ ∀ p ∈ ([] : List (Int × Ty)), 0 ≤ p.1 ∧ p.1 < (n : Int) ∧ OkN Q 1 p.2) := ⟨⟨ht, rowG_nil _ _ _ _, grown_of_below (Below.refl _ _) _⟩, Nat.le_refl _, fun p hp => by cases hp⟩
  clear hds hsd ht hL hQ
  generalize ds.length = dn at *
  go_enter Try.func31, Try.ntmps31
  go_wp2
  go_loopw [7, 8] (fun y x wr => ∃ (j : Nat) (xs : List (Int × Ty)) (sj : Value), j ≤ n ∧ x = .int .i64 j ∧ sj = y ∧ Hid (SuSt w b sj xs wr ∧ xs.length ≤ j ∧ ∀ p ∈ xs, 0 ≤ p.1 ∧ p.1 < (n : Int) ∧ OkN Q 1 p.2)) (fun _ x _ => n - (intOf x).toNat)
  case atStart => exact ⟨0, [], _, Nat.zero_le _, rfl, rfl, H0⟩
  case round =>
    clear H0
    obtain ⟨j, xs, sj, hj, rfl, rfl, HIn⟩ := hrel
    by_cases hlt : j < n
    · have hji : (j : Int) < (n : Int) := by omega
      obtain ⟨ja, jc, rfl, -, -⟩ := HIn.out.1.row.slice
      have HLn := Lib.hid HIn.out.2.1
      have HOk := Lib.hid HIn.out.2.2
      have HSt0 := Lib.hid HIn.out.1
      clear HIn
      go_wp2_with fail
      go_at_call 43
      refine (HN.out _ HSt0.out.tp).mono ?_
      rintro e w1 ⟨r, rfl, hr3, ht1, hg1⟩
      have HSt1 := Lib.hid (HSt0.out.call hblt ht1 hg1)
      clear ht1 hg1
      by_cases hr : r = 0
      · subst hr
        go_wp2
        go_roundw
        case rel => exact ⟨j + 1, xs, _, hlt, by go_num, rfl, HSt1.out, Nat.le_succ_of_le HLn.out, HOk.out⟩
        case measure => simp [intOf]; omega
      · have hr0 : (0 : Int) < (r : Int) := by omega
        have hn1 : ((n : Int) + 1) = ((n + 1 : Nat) : Int) := by omega
        have HVs1 := HVs.out w1
        rw [← hn1] at HVs1
        have HVs2 := Lib.hid HVs1
        clear HVs1 hn1
        go_wp2_with fail
        go_at_call 41
        refine HVs2.out.mono ?_
        rintro e w2 ⟨v2, rfl, hrow2, hb2⟩
        have HRw2 := Lib.hid hrow2
        have HSt2 := Lib.hid (HSt1.out.lift hb2)
        have HB2 := Lib.hid hb2
        clear hrow2 hb2 HVs2
        go_wp2_with fail
        go_at_call 42
        refine (HRg.out w2).mono ?_
        rintro e w3 ⟨rfl, hb3⟩
        have HRw3 := Lib.hid (HRw2.out.lift hb3)
        have HSt3 := Lib.hid (HSt2.out.lift hb3)
        have HB3 := Lib.hid (HB2.out.trans (hb3.mono HB2.out.size))
        clear hb3 HRw2 HB2
        have hs3 := HB3.out.size
        have HA3 : Hid (∀ X Z, RowKit.Below w3.heap.size w3 (w3.alloc (.cells X Z))) := fun X Z => HAl.out _ _
        have HE : Hid (∀ W S, TyE.rep W S rigT [.int .i64 3, .string ⟨#[]⟩, .int .i64 0, .int .i64 (-1), .slice none 0 0]) := fun W S => rep_leaf W S 3 ⟨#[]⟩ 0 (-1) (Nat.zero_le _)
        unfold leafV
        go_wp2_with (at_builtin; refine wpList_pushG TyE rfl _ _ rfl w1.heap.size (fun c => w1.heap.size ≤ c) v2 _ rfl (HRw3.out.lift (HA3.out _ _)) w3.heap.size _ [.int .i64 3, .string ⟨#[]⟩, .int .i64 0, .int .i64 (-1), .slice none 0 0] (heap_alloc_new w3 _) rfl rigT (HE.out _ _) (n + 2) (by simp) (by omega) (Nat.le_trans hs3 (HA3.out _ _).size) ?_; intro a4 c4 w4 hrow4 hg4; have HRw4 := Lib.hid hrow4; have HB4 : Hid (RowKit.Below w1.heap.size w1 w4) := Below.grown (HB3.out.trans ((HA3.out _ _).mono hs3)) hg4 (Nat.le_trans hs3 (HA3.out _ _).size) (fun k hk => (HRw3.out.lt k hk).1); clear hrow4 hg4)
        go_at_call 13
        have HSt4 := Lib.hid (HSt1.out.lift HB4.out)
        have hw1 : w.heap.size ≤ w1.heap.size := HSt1.out.grown.size
        refine (HMk.out 1 ds _ ((List.range (n + 1)).map varTy ++ [rigT]) _ (fun c => c ≠ b) b w4.heap.size w4 rfl (by decide) HDS.out HL.out HQ.out (HD.out _ HSt4.out.grown) (HRw4.out.slG (fun c hc => by omega) (fun c hc => by omega)) (fun c hc => hc) HSt4.out.tp (Nat.le_refl _)).mono ?_
        rintro e w5 ⟨u, rfl, T, hrep, hok, htq, hg5⟩
        have HSt5 := Lib.hid (HSt4.out.call hblt htq hg5)
        have HTok := Lib.hid hok
        have HX5 : Hid (Rep w5 (fun c => w.heap.size ≤ c ∧ some c ≠ (Value.slice ja xs.length jc).ownBlock) T u) := hrep.imp fun c hc => ⟨Nat.le_trans HSt4.out.grown.size hc, fun e => by have := (HSt4.out.row.lt c e.symm).2; omega⟩
        obtain ⟨uk, un, ui, uh, ua, um, uc, rfl⟩ := hrep.form
        clear hrep hok htq hg5 HRw4 HB4 HRw3 HB3 hs3
        have hxb : xs.length + 1 ≤ 1000000 := by have := HLn.out; omega
        go_wp2_with (at_builtin; refine wpList_pushAs HSt5.out.row HX5.out rfl _ _ rfl rfl _ rfl rfl (xs.length + 1) rfl hxb HSt5.out.grown.size ?_; intro a6 c6 w6 hrow6 hg6; have HSt6 := Lib.hid (HSt5.out.push hblt hrow6 hg6); clear hrow6 hg6)
        go_roundw
        case rel =>
          refine ⟨j + 1, xs ++ [((j : Int), T)], _, hlt, by go_num, rfl, HSt6.out, by simp; exact HLn.out, fun p hp => ?_⟩
          rcases List.mem_append.1 hp with h | h
          · exact HOk.out p h
          · simp at h; subst h; exact ⟨by simp, hji, HTok.out⟩
        case measure => simp [intOf]; omega
    · obtain rfl : j = n := by omega
      have HIn' := Lib.hid HIn.out
      clear HIn
      go_wp2
      go_ret
      exact ⟨_, xs, rfl, HIn'.out.1, HIn'.out.2.1, HIn'.out.2.2⟩
end Go.Proofs.Ytahiefgfhpkoeaa

namespace Go.Proofs.Ytahiefgfhpkoeaa
open Go.RowKit Go.Sort Go.Shelf Go.Maps Mth

theorem bytes_nil {n : ByteArray} (h : (n.toList == []) = true) : n = ⟨#[]⟩ := by
  have hn : n.toList = [] := by simpa using h
  obtain ⟨d⟩ := n
  have hd : d.toList = [] := by rw [← Lib.toList_data]; exact hn
  have : d = #[] := by simpa using hd
  rw [this]
theorem valid_var {n : ByteArray} {i h : Int} {ts : List Ty} (hv : valid (.mk 1 n i h ts) = true) : n = ⟨#[]⟩ ∧ h = 0 ∧ ts = [] := by
  simp only [valid, true_or, if_true, Bool.and_eq_true, decide_eq_true_eq] at hv
  obtain ⟨⟨⟨-, hn⟩, hh⟩, ht⟩ := hv
  exact ⟨bytes_nil hn, by simpa using hh, List.eq_nil_of_length_eq_zero ht⟩
theorem valid_kids {k : Int} {n : ByteArray} {i h : Int} {ts : List Ty} (hv : valid (.mk k n i h ts) = true) : ∀ U ∈ ts, valid U = true := by
  intro U hU
  rw [valid] at hv
  by_cases h1 : k = 1 ∨ k = 2
  · rw [if_pos h1] at hv
    simp only [Bool.and_eq_true, decide_eq_true_eq] at hv
    rw [List.eq_nil_of_length_eq_zero hv.2] at hU; cases hU
  · rw [if_neg h1] at hv
    by_cases h3 : k = 3
    · rw [if_pos h3] at hv
      simp only [Bool.and_eq_true, decide_eq_true_eq] at hv
      rw [List.eq_nil_of_length_eq_zero hv.2] at hU; cases hU
    · rw [if_neg h3] at hv
      by_cases h4 : k = 4
      · rw [if_pos h4] at hv
        simp only [Bool.and_eq_true] at hv
        exact validL_mem hv.2 hU
      · rw [if_neg h4] at hv
        by_cases h5 : k = 5
        · rw [if_pos h5] at hv
          simp only [Bool.and_eq_true, decide_eq_true_eq] at hv
          rw [List.eq_nil_of_length_eq_zero hv.2] at hU; cases hU
        · rw [if_neg h5] at hv; cases hv
theorem look_in {σ : List (Int × Ty)} {i : Int} {t : Ty} (h : look σ i = some t) : ∃ p ∈ σ, p.2 = t := ⟨_, look_mem h, rfl⟩
theorem nodesL_repl (σ : List (Int × Ty)) (m : Nat) : ∀ ts : List Ty, (∀ U ∈ ts, nodes (repl σ U) ≤ m * nodes U) → nodesL (ts.map (repl σ)) ≤ m * nodesL ts := by
  intro ts
  induction ts with
  | nil => intro _; simp [nodesL]
  | cons t ts ih =>
    intro h
    have h1 := h t (by simp)
    have h2 := ih fun U hU => h U (by simp [hU])
    simp only [List.map_cons, nodesL, Nat.mul_add]
    omega
theorem nodes_repl (σ : List (Int × Ty)) (m : Nat) (hm : 1 ≤ m) (hσ : ∀ p ∈ σ, nodes p.2 ≤ m) : ∀ T : Ty, nodes (repl σ T) ≤ m * nodes T := by
  refine Ty.induct fun T ih => ?_
  obtain ⟨k, n, i, h, ts⟩ := T
  by_cases hk : k = 1
  · subst hk
    rw [repl_one]
    cases e : look σ i with
    | some t =>
      obtain ⟨p, hp, rfl⟩ := look_in e
      have h1 := hσ p hp
      have h2 := Nat.mul_le_mul_left m (nodes_pos (Ty.mk 1 n i h ts))
      show nodes p.2 ≤ _
      omega
    | none =>
      show nodes (Ty.mk 1 n i h ts) ≤ _
      have := Nat.mul_le_mul_right (nodes (Ty.mk 1 n i h ts)) hm
      omega
  · rw [repl_not _ hk]
    have := nodesL_repl σ m ts ih
    simp only [nodes, Nat.mul_add]
    omega
theorem plain_of_valid : ∀ T : Ty, valid T = true → plainV T = true := by
  refine Ty.induct fun T ih hv => ?_
  obtain ⟨k, n, i, h, ts⟩ := T
  rw [plainV]
  by_cases hk : k = 1
  · subst hk
    obtain ⟨rfl, rfl, rfl⟩ := valid_var hv
    decide +kernel
  · rw [if_neg (by simpa using hk)]
    have key : ∀ l : List Ty, (∀ U ∈ l, plainV U = true) → plainVL l = true := by
      intro l
      induction l with
      | nil => intro _; rfl
      | cons t l ihl => intro hl; simp [plainVL, hl t (by simp), ihl fun U hU => hl U (by simp [hU])]
    exact key ts fun U hU => ih U hU (valid_kids hv U hU)
/-- A type variable with a small number, or a rigid one. -/
def QS (T : Ty) : Bool := (T.k == 1 && decide (0 ≤ T.i) && decide (T.i < 5)) || T.k == 3
theorem allN_step {Q : Ty → Bool} {k : Int} {n : ByteArray} {i h : Int} {ts : List Ty} : allN Q (.mk k n i h ts) = true ↔ (k = 4 ∨ Q (.mk k n i h ts) = true) ∧ ∀ U ∈ ts, allN Q U = true := by
  rw [allN, Bool.and_eq_true, Bool.or_eq_true]
  constructor
  · rintro ⟨h1, h2⟩
    exact ⟨h1.imp (fun e => by simpa using e) id, fun U hU => allNL_mem h2 hU⟩
  · rintro ⟨h1, h2⟩
    exact ⟨h1.imp (fun e => by simpa using e) id, allNL_of h2⟩
theorem qs_kind {k : Int} {n : ByteArray} {i h : Int} {ts : List Ty} (hq : QS (.mk k n i h ts) = true) : (k = 1 ∧ 0 ≤ i ∧ i < 5) ∨ k = 3 := by
  simp only [QS, Ty.k, Ty.i, Bool.or_eq_true, Bool.and_eq_true, beq_iff_eq] at hq
  rcases hq with h | h
  · exact .inl ⟨h.1.1, of_decide_eq_true h.1.2, of_decide_eq_true h.2⟩
  · exact .inr h
theorem qs_open : ∀ T : Ty, allN QS T = true → openT T = true := Ty.induct fun T ih h => by
  obtain ⟨k, n, i, hh, ts⟩ := T
  obtain ⟨h1, h2⟩ := allN_step.1 h
  have hk : k ≠ 2 ∧ k ≠ 5 := by
    rcases h1 with rfl | h1
    · decide
    · rcases qs_kind h1 with ⟨rfl, -⟩ | rfl <;> decide
  have e : openTL ts = true := allL_of (p := openT) rfl (fun _ _ => rfl) fun U hU => ih U hU (h2 U hU)
  rw [openT, e]
  simp [hk.1, hk.2]
theorem vidsL_mem {x : Int} : ∀ {l : List Ty}, x ∈ vidsL l → ∃ U ∈ l, x ∈ vids U := by
  intro l h
  rw [vidsL_flat] at h
  exact List.mem_flatMap.1 h
theorem qs_vids : ∀ T : Ty, allN QS T = true → ∀ v ∈ vids T, 0 ≤ v ∧ v < 5 := Ty.induct fun T ih h v hv => by
  obtain ⟨k, n, i, hh, ts⟩ := T
  obtain ⟨h1, h2⟩ := allN_step.1 h
  by_cases hk : k = 1
  · subst hk
    rw [vids, if_pos (by rfl)] at hv
    simp at hv
    subst hv
    rcases h1 with h1 | h1
    · cases h1
    · rcases qs_kind h1 with ⟨-, a, b⟩ | h1
      · exact ⟨a, b⟩
      · cases h1
  · rw [vids, if_neg (by simpa using hk)] at hv
    obtain ⟨U, hU, hv⟩ := vidsL_mem hv
    exact ih U hU (h2 U hU) v hv
theorem ded_sub : ∀ (l acc : List Int) (x : Int), x ∈ ded acc l → x ∈ acc ∨ x ∈ l := fun l acc x h => (ded_mem x l acc).1 h
theorem nodup_lt : ∀ (m : Nat) (l : List Nat), l.Nodup → (∀ v ∈ l, v < m) → l.length ≤ m := by
  intro m
  induction m with
  | zero =>
    intro l _ h
    cases l with
    | nil => exact Nat.le_refl _
    | cons a l => exact absurd (h a (by simp)) (Nat.not_lt_zero _)
  | succ m ih =>
    intro l hn h
    have h1 := ih (l.erase m) (hn.erase m) fun v hv => by
      obtain ⟨a, b⟩ := hn.mem_erase_iff.1 hv
      have := h v b
      omega
    rw [List.length_erase] at h1
    split at h1 <;> omega
theorem nodup_small {l : List Int} (hn : l.Nodup) (hb : ∀ v ∈ l, 0 ≤ v ∧ v < 5) : l.length ≤ 5 := by
  have h1 : (l.map Int.toNat).Nodup := List.pairwise_map.2 (hn.imp_of_mem fun hx hy hne e => hne (by
    have := hb _ hx
    have := hb _ hy
    omega))
  have := nodup_lt 5 (l.map Int.toNat) h1 fun v hv => by
    obtain ⟨x, hx, rfl⟩ := List.mem_map.1 hv
    have := hb x hx
    omega
  simpa using this
theorem clV_mem {ids : List Int} {T : Ty} {x : Int} (h : x ∈ clV ids T) : x ∈ vids T := by
  have := (List.mem_filter.1 h).1
  rcases ded_sub _ _ _ this with h | h
  · cases h
  · exact h
theorem clV_small {ids : List Int} {T : Ty} (h : allN QS T = true) : (clV ids T).length ≤ 5 := nodup_small (clV_nodup _ _) fun v hv => qs_vids T h v (clV_mem hv)
theorem qs_repl {σ : List (Int × Ty)} (hσ : ∀ p ∈ σ, allN QS p.2 = true) : ∀ T : Ty, allN QS T = true → allN QS (repl σ T) = true := Ty.induct fun T ih h => by
  obtain ⟨k, n, i, hh, ts⟩ := T
  obtain ⟨h1, h2⟩ := allN_step.1 h
  by_cases hk : k = 1
  · subst hk
    rw [repl_one]
    cases e : look σ i with
    | none => exact h
    | some t =>
      obtain ⟨p, hp, rfl⟩ := look_in e
      exact hσ p hp
  · rw [repl_not _ hk]
    refine allN_step.2 ⟨h1.imp id fun h => ?_, fun U hU => ?_⟩
    · rcases qs_kind h with ⟨rfl, -⟩ | rfl
      · exact absurd rfl hk
      · rfl
    · obtain ⟨V, hV, rfl⟩ := List.mem_map.1 hU
      exact ih V hV (h2 V hV)
theorem valid_repl {σ : List (Int × Ty)} (hσ : ∀ p ∈ σ, valid p.2 = true) : ∀ T : Ty, valid T = true → valid (repl σ T) = true := Ty.induct fun T ih h => by
  obtain ⟨k, n, i, hh, ts⟩ := T
  by_cases hk : k = 1
  · subst hk
    rw [repl_one]
    cases e : look σ i with
    | none => exact h
    | some t =>
      obtain ⟨p, hp, rfl⟩ := look_in e
      exact hσ p hp
  · rw [repl_not _ hk]
    have hkids := valid_kids h
    have hm : validL (ts.map (repl σ)) = true := by
      rw [validL_any]
      rw [Bool.not_eq_true', List.any_eq_false]
      intro U hU
      obtain ⟨V, hV, rfl⟩ := List.mem_map.1 hU
      rw [ih V hV (hkids V hV)]
      decide
    rw [valid] at h ⊢
    rw [List.length_map, hm]
    by_cases h1 : k = 1 ∨ k = 2
    · rwa [if_pos h1] at h ⊢
    · by_cases h3 : k = 3
      · rwa [if_neg h1, if_pos h3] at h ⊢
      · by_cases h4 : k = 4
        · rw [if_neg h1, if_neg h3, if_pos h4] at h ⊢
          rw [Bool.and_eq_true] at h ⊢
          exact ⟨h.1, rfl⟩
        · by_cases h5 : k = 5
          · rwa [if_neg h1, if_neg h3, if_neg h4, if_pos h5] at h ⊢
          · rw [if_neg h1, if_neg h3, if_neg h4, if_neg h5] at h
            cases h
theorem clF_mem : ∀ {L : List Int} {j : Int} {p : Int × Ty}, p ∈ clF L j → ∃ q : Nat, q < L.length ∧ p.2 = bd (j + q) := by
  intro L
  induction L with
  | nil => intro j p h; cases h
  | cons v L ih =>
    intro j p h
    rcases List.mem_cons.1 h with rfl | h
    · exact ⟨0, by simp, by simp⟩
    · obtain ⟨q, h1, h2⟩ := ih h
      exact ⟨q + 1, by simpa using h1, by rw [h2]; congr 1; push_cast; omega⟩
theorem clT_valid {ids : List Int} {T : Ty} (hv : valid T = true) (h : allN QS T = true) : valid (clT ids T) = true := by
  refine valid_repl (fun p hp => ?_) T hv
  obtain ⟨q, h1, h2⟩ := clF_mem hp
  have := clV_small (ids := ids) h
  rw [h2]
  simp [bd, valid, idOk]
  omega
theorem clT_nodes {ids : List Int} {T : Ty} : nodes (clT ids T) ≤ nodes T := by
  have := nodes_repl (clF (clV ids T) 0) 1 (Nat.le_refl _) (fun p hp => by
    obtain ⟨q, -, h2⟩ := clF_mem hp
    rw [h2]; simp [bd, nodes, nodesL]) T
  rwa [Nat.one_mul] at this
/-- What closing gives is in order. -/
theorem clT_sch {ids : List Int} {T : Ty} (hv : valid T = true) (h : allN QS T = true) : SchOk 26 (clV ids T).length (clT ids T) := clT_ok ids T (qs_open T h) (plain_of_valid T hv) (Nat.le_trans (clV_small h) (by decide))
end Go.Proofs.Ytahiefgfhpkoeaa

namespace Go.Proofs.Ytahiefgfhpkoeaa
open Go.RowKit Mth

/-- What General answers. -/
def gB (p q : Nat × Ty) : Bool := (instT p.2 (opn (frs nmG q.1) q.2) (List.replicate p.1 none)).isSome
theorem gB_iff {p q : Nat × Ty} (hb : bndIn p.1 p.2 = true) : gB p q = true ↔ GenS nmG p.1 p.2 q.1 q.2 := by
  unfold gB
  rw [Option.isSome_iff_exists]
  exact inst_iff hb
theorem gB_refl {p : Nat × Ty} (h : SchOk 26 p.1 p.2) : gB p p = true := (gB_iff h.bnd).2 (genS_refl _ _ _)
theorem gB_trans {p q r : Nat × Ty} (hp : SchOk 26 p.1 p.2) (hq : SchOk 26 q.1 q.2) (h1 : gB p q = true) (h2 : gB q r = true) : gB p r = true :=
  (gB_iff hp.bnd).2 (genS_trans nmG_inj hp hq ((gB_iff hp.bnd).1 h1) ((gB_iff hq.bnd).1 h2))
/-- Two schemes are equal exactly if each is at least as general as the other. -/
theorem gB_eq {p q : Nat × Ty} (hp : SchOk 26 p.1 p.2) (hq : SchOk 26 q.1 q.2) : eqC ((p.1 : Int), p.2) ((q.1 : Int), q.2) = (gB p q && gB q p) := by
  rw [Bool.eq_iff_iff, eqC_iff, Bool.and_eq_true]
  constructor
  · intro e
    obtain ⟨h0, h2⟩ := Prod.mk.inj e
    have h1 : p.1 = q.1 := Int.ofNat.inj h0
    have : p = q := Prod.ext h1 h2
    subst this
    exact ⟨gB_refl hp, gB_refl hp⟩
  · rintro ⟨h1, h2⟩
    obtain ⟨a, b⟩ := genS_anti nmG_inj hp hq ((gB_iff hp.bnd).1 h1) ((gB_iff hq.bnd).1 h2)
    rw [a, b]
theorem clV_nil (T : Ty) : clV [] T = [] := by
  unfold clV
  exact List.filter_eq_nil_iff.2 fun _ _ => by simp
theorem clT_nil (T : Ty) : clT [] T = T := by
  unfold clT
  rw [clV_nil]
  exact repl_nil T
/-- Closing a type wholly gives a scheme that is at least as general as what a substitution makes of the type, closed or as it is. -/
theorem gB_closes {s : List (Int × Ty)} {x : Ty} {ids idy : List Int} (hx : valid x = true) (qx : allN QS x = true) (hs : ∀ p ∈ s, valid p.2 = true) (qs : ∀ p ∈ s, allN QS p.2 = true) (hall : ∀ v ∈ vids x, ids.contains v = true) :
    gB ((clV ids x).length, clT ids x) ((clV idy (repl s x)).length, clT idy (repl s x)) = true ∧ gB ((clV ids x).length, clT ids x) (0, repl s x) = true := by
  have ok := clT_sch (ids := ids) hx qx
  have hy := valid_repl hs x hx
  have qy := qs_repl qs x qx
  have h1 := close_gen (nm := nmG) (s := s) (idy := idy) (qs_open x qx) (plain_of_valid x hx) (qs_open _ qy) (plain_of_valid _ hy) hall
  have h2 := close_gen (nm := nmG) (s := s) (idy := []) (qs_open x qx) (plain_of_valid x hx) (qs_open _ qy) (plain_of_valid _ hy) hall
  rw [clV_nil, clT_nil] at h2
  exact ⟨(gB_iff (p := ((clV ids x).length, clT ids x)) ok.bnd).2 h1, (gB_iff (p := ((clV ids x).length, clT ids x)) (q := (0, repl s x)) ok.bnd).2 h2⟩
end Go.Proofs.Ytahiefgfhpkoeaa

namespace Go.Proofs.Ytahiefgfhpkoeaa
open Go.RowKit Mth

theorem ded_app : ∀ (l A m : List Int), ded A (l ++ m) = ded (ded A l) m := by
  intro l
  induction l with
  | nil => intro A m; rw [List.nil_append, ded]
  | cons y l ih =>
    intro A m
    rw [List.cons_append, ded, ded]
    split <;> exact ih _ _
theorem bdn_bnds : ∀ T : Ty, valid T = true → ∀ A, bdn A T = ded A (bnds T) := Ty.induct fun T ih hv A => by
  obtain ⟨k, n, i, h, ts⟩ := T
  have hL : ∀ l : List Ty, (∀ U ∈ l, U ∈ ts) → ∀ A, bdnL A l = ded A (bndsL l) := by
    intro l
    induction l with
    | nil => intro _ A; rw [bdnL, bndsL, ded]
    | cons t l ihl =>
      intro hm A
      rw [bdnL, bndsL, ded_app, ih t (hm t (by simp)) (valid_kids hv t (hm t (by simp))), ihl (fun U hU => hm U (by simp [hU]))]
  by_cases hk : k = 2
  · subst hk
    have ht : ts = [] := by
      simp only [valid, or_true, if_true, Bool.and_eq_true, decide_eq_true_eq] at hv
      exact List.eq_nil_of_length_eq_zero hv.2
    subst ht
    have e1 : bnds (.mk 2 n i h []) = [i] := rfl
    have e2 : ∀ B, ded B [] = B := fun B => by rw [ded]
    rw [bdn, bdnL, e1, ded, e2, e2]
    cases A.contains i <;> rfl
  · have hk' : (k == 2) = false := by simpa using hk
    rw [bdn, bnds, hk', Bool.false_and, if_neg (by decide), if_neg (by decide)]
    exact hL ts (fun _ h => h) A
theorem hasK_noNm : ∀ T : Ty, noNm T = true → hasK 5 T = false := Ty.induct fun T ih h => by
  obtain ⟨k, n, i, hh, ts⟩ := T
  simp only [noNm, Bool.and_eq_true, bne_iff_ne] at h
  have hL : ∀ l : List Ty, (∀ U ∈ l, hasK 5 U = false) → hasKL 5 l = false := by
    intro l
    induction l with
    | nil => intro _; rfl
    | cons t l ihl => intro hm; rw [hasKL, hm t (by simp), ihl fun U hU => hm U (by simp [hU])]; rfl
  rw [hasK, hL ts fun U hU => ih U hU (noNmL_mem h.2 hU)]
  simpa using h.1
/-- A scheme in order is valid. -/
theorem schV_ok {c : Nat} {a : Ty} (hv : valid a = true) (h : SchOk 26 c a) : schV (c : Int) a = true := by
  have hl : ((List.range c).map Int.ofNat).length = c := by simp
  unfold schV
  rw [hv, hasK_noNm a h.no, bdn_bnds a hv, h.can, hl]
  simp
theorem schV_close {ids : List Int} {T : Ty} (hv : valid T = true) (h : allN QS T = true) : schV ((clV ids T).length : Int) (clT ids T) = true := schV_ok (clT_valid hv h) (clT_sch hv h)
theorem schV_mono {T : Ty} (hv : valid T = true) (h : allN QS T = true) : schV 0 T = true := by
  have := schV_close (ids := []) hv h
  rwa [clV_nil, clT_nil] at this
end Go.Proofs.Ytahiefgfhpkoeaa

namespace Go.Proofs.Ytahiefgfhpkoeaa
open Go.RowKit Go.Sort Go.Shelf Go.Maps Mth

/-- What the loop over the numbers holds. -/
structure MdLp (w : World) (b : Nat) (sv : Value) (ids : List Int) (v : World) : Prop where
  tp : Tq v b
  row : RowI v w.heap.size sv ids
  grown : w.grownBy v (some b)
theorem MdLp.call {w v v' : World} {b : Nat} {sv : Value} {ids : List Int} (hb : b < w.heap.size) (h : MdLp w b sv ids v) (ht : Tq v' b) (hg : v.grownBy v' (some b)) : MdLp w b sv ids v' :=
  ⟨ht, h.row.kept hg (h.row.off hb), grown_trans h.grown hg⟩
theorem MdLp.push {w v v' : World} {b : Nat} {sv sv' : Value} {ids ids' : List Int} (hb : b < w.heap.size) (h : MdLp w b sv ids v) (hr : RowI v' w.heap.size sv' ids') (hg : v.grownBy v' sv.ownBlock) : MdLp w b sv' ids' v' := by
  refine ⟨?_, hr, grown_fresh h.grown hg fun i hi => (World.ownsRow.lt h.row i hi).1⟩
  cases ho : sv.ownBlock with
  | none => rw [ho] at hg; exact h.tp.lift ⟨hg.os, hg.tape, hg.output, hg.size, fun i hi => hg.block i hi (by simp)⟩
  | some R => rw [ho] at hg; exact h.tp.other (by have := (World.ownsRow.lt h.row R ho).1; omega) hg
def rg0 : Ty := .mk 3 ⟨#[]⟩ 0 0 []
theorem leaf14 : LeafL ((List.range 4).map varTy ++ [rg0]) := leaf_all _ (by decide) (by decide +kernel)
theorem qs14 : ∀ T ∈ (List.range 4).map varTy ++ [rg0], allN QS T = true := by decide +kernel
set_option maxRecDepth 100000 in
set_option maxHeartbeats 6400000 in
theorem made14_any (bits : Int) (b : Nat) (w : World) (ht : Tq w b) :
    Calls Try.prog 12 #[.pointer (some ⟨b, 0, none⟩), .int .i64 bits] w fun e w' => ∃ (T : Ty) (ids : List Int) (u v : Value), e = .returned (.tuple #[u, v]) ∧ Rep w' (fun c => w.heap.size ≤ c) T u ∧ OkN QS 3 T ∧ RowI w' w.heap.size v ids ∧ ids.length ≤ 3 ∧ (∀ z ∈ ids, 0 ≤ z ∧ z < 5) ∧ Tq w' b ∧ w.grownBy w' (some b) := by
  have hblt := ht.lt
  have HD := Lib.hid (fun w => datas_any bits w)
  have HN4 := Lib.hid (fun v h => next_q 4 (by decide) (by decide) b v h)
  have HN5 := Lib.hid (fun v h => next_q 5 (by decide) (by decide) b v h)
  have HVs := Lib.hid (fun w => mkVars_any 4 (by omega) w)
  have HRg := Lib.hid (fun w => refRigid_any 0 0 w)
  have HMk := Lib.hid (mkTypeQ_any QS 3)
  have HAl : Hid (∀ (w : World) (o : Obj), RowKit.Below w.heap.size w (w.alloc o)) := fun w o => (Below.refl _ w).alloc (Nat.le_refl _) _
  obtain ⟨W, hW⟩ : ∃ W, W = w.alloc (.cells #[.int .i64 0, .string ⟨#[]⟩, .int .i64 0, .int .i64 0, .slice none 0 0] 25) := ⟨_, rfl⟩
  have HZ0 : Hid (Zero W w.heap.size) := by show Box _ _ _ _ _ _ _; rw [hW]; exact Box.made _ _ _ _ _ _
  have HWb : Hid (RowKit.Below w.heap.size w W) := by show RowKit.Below _ _ _; rw [hW]; exact (Below.refl _ w).alloc (Nat.le_refl _) _
  have HWs : Hid (W.heap.size = w.heap.size + 1) := by show _ = _; rw [hW]; simp
  have HT0 : Hid (Tq W b) := ht.lift HWb.out
  clear ht
  go_enter Try.func12, Try.ntmps12
  go_upto_region 1 with fail
  rw [← hW]
  clear hW
  go_wp2_with fail
  go_at_call 14
  refine (HD.out _).mono ?_
  rintro e w1 ⟨ds, dv, rfl, hds, hsd, hb1⟩
  have HDs := Lib.hid hds
  have HT1 : Hid (Tq w1 b) := HT0.out.lift hb1
  have HB1 := Lib.hid hb1
  have hWs := HWs.out
  have HSd : Hid (SlG DatE w1 (fun c => c ≠ b) ds dv) := hsd.kept (S' := fun c => c ≠ b) (fun c hc => by omega) (fun _ _ _ => rfl)
  obtain ⟨da, dc, rfl⟩ := slG_form hsd
  clear hds hsd hb1
  generalize ds.length = dn at *
  go_wp2_with fail
  go_at_call 41
  refine (HVs.out _).mono ?_
  rintro e w2 ⟨v2, rfl, hrow2, hb2⟩
  have HRw2 := Lib.hid hrow2
  have HB2 := Lib.hid hb2
  clear hrow2 hb2
  go_wp2_with fail
  go_at_call 42
  refine (HRg.out w2).mono ?_
  rintro e w3 ⟨rfl, hb3⟩
  have HRw3 := Lib.hid (HRw2.out.lift hb3)
  have HB3 := Lib.hid (HB2.out.trans (hb3.mono HB2.out.size))
  clear hb3 HRw2 HB2
  have hs3 := HB3.out.size
  have HA3 : Hid (∀ X Z, RowKit.Below w3.heap.size w3 (w3.alloc (.cells X Z))) := fun X Z => HAl.out _ _
  have HE : Hid (∀ W S, TyE.rep W S rg0 [.int .i64 3, .string ⟨#[]⟩, .int .i64 0, .int .i64 0, .slice none 0 0]) := fun W S => rep_leaf W S 3 ⟨#[]⟩ 0 0 (Nat.zero_le _)
  unfold leafV
  go_wp2_with (at_builtin; refine wpList_pushG TyE rfl _ _ rfl w1.heap.size (fun c => w1.heap.size ≤ c) v2 _ rfl (HRw3.out.lift (HA3.out _ _)) w3.heap.size _ [.int .i64 3, .string ⟨#[]⟩, .int .i64 0, .int .i64 0, .slice none 0 0] (heap_alloc_new w3 _) rfl rg0 (HE.out _ _) 5 (by simp) (by omega) (Nat.le_trans hs3 (HA3.out _ _).size) ?_; intro a4 c4 w4 hrow4 hg4; have HRw4 := Lib.hid hrow4; have HB4 : Hid (RowKit.Below w1.heap.size w1 w4) := Below.grown (HB3.out.trans ((HA3.out _ _).mono hs3)) hg4 (Nat.le_trans hs3 (HA3.out _ _).size) (fun k hk => (HRw3.out.lt k hk).1); clear hrow4 hg4)
  go_at_call 13
  have h01 : W.heap.size ≤ w1.heap.size := HB1.out.size
  have HT4 : Hid (Tq w4 b) := HT1.out.lift HB4.out
  have HW4 : Hid (RowKit.Below W.heap.size W w4) := HB1.out.trans (HB4.out.mono h01)
  have HSd4 : Hid (SlG DatE w4 (fun c => c ≠ b) ds (.slice da dn dc)) := SlG.kept (fun _ h => h) (fun c _ hl => HB4.out.block c hl) HSd.out
  refine (HMk.out 3 ds _ ((List.range 4).map varTy ++ [rg0]) _ (fun c => c ≠ b) b w4.heap.size w4 rfl (by decide) HDs.out leaf14 qs14 HSd4.out (HRw4.out.slG (fun c hc => by omega) (fun c hc => by omega)) (fun c hc => hc) HT4.out (Nat.le_refl _)).mono ?_
  rintro e w5 ⟨u, rfl, T, hrep, hok, htq, hg5⟩
  have hg45 : W.grownBy w5 (some b) := grown_trans (grown_of_below HW4.out _) hg5
  have HG5 := Lib.hid hg45
  have HZ5 : Hid (Zero w5 w.heap.size) := Box.grown HZ0.out hg45 (by intro e; have := Option.some.inj e; omega)
  have HTok := Lib.hid hok
  have HX5 : Hid (Rep w5 (fun c => W.heap.size ≤ c) T u) := hrep.imp fun c hc => Nat.le_trans HW4.out.size hc
  have HT5 := Lib.hid htq
  obtain ⟨uk, un, ui, uh, ua, um, uc, rfl⟩ := hrep.form
  have HZn : Hid (Zero (w5.alloc (.cells #[.int .i64 0, .string ⟨#[]⟩, .int .i64 0, .int .i64 0, .slice none 0 0] 25)) w5.heap.size) := Box.made _ _ _ _ _ _
  have h05 : W.heap.size ≤ w5.heap.size := hg45.size
  clear hrep hok htq hg5 hg45 HRw4 HRw3 HB3 hs3 HSd4 HSd HT4 HW4 HB4 HB1 HT1 HT0 HDs HMk HD HVs HRg
  go_wp2_with (refine wpList_store5 rfl _ _ rfl _ _ _ _ _ _ HZn.out rfl _ _ _ _ _ _ _ rfl ?_; intro w6 hB6 hg6 hs6)
  have HB6 := Lib.hid hB6
  have hbb : RowKit.Below w5.heap.size w5 w6 := Below.grown (HAl.out w5 _) hg6 (by simp) (fun k hk => by cases hk; exact Nat.le_refl _)
  have h56 : w5.heap.size < w6.heap.size := by rw [hs6]; simp
  have HT6 : Hid (Tq w6 b) := HT5.out.lift hbb
  have HX6 : Hid (Rep w6 (fun c => W.heap.size ≤ c ∧ c < w5.heap.size) T (.agg #[.int .i64 uk, .string un, .int .i64 ui, .int .i64 uh, .slice ua um uc])) := HX5.out.bound.lift hbb
  have HZ6 : Hid (Zero w6 w.heap.size) := Box.lift HZ5.out hbb
  have HG6 : Hid (W.grownBy w6 (some b)) := grown_trans HG5.out (grown_of_below hbb _)
  clear hB6 hg6 hs6 HZn HX5 HZ5 HG5 hbb
  go_at_call 43
  refine (HN4.out _ HT6.out).mono ?_
  rintro e w7 ⟨r, rfl, hr4, ht7, hg7⟩
  have HL0 : Hid (MdLp w6 b (.slice none 0 0) [] w7) := ⟨ht7, rowI_nil _ _, hg7⟩
  have hb6 : b < w6.heap.size := HT6.out.lt
  have hE0 : Hid (∀ z ∈ ([] : List Int), 0 ≤ z ∧ z < 5) := fun z hz => by cases hz
  clear ht7 hg7
  go_wp2
  go_loopw [7, 8] (fun y x wr => ∃ (j : Nat) (ids : List Int) (sj : Value), x = .int .i64 j ∧ j + ids.length ≤ 3 ∧ sj = y ∧ Hid (MdLp w6 b sj ids wr) ∧ Hid (∀ z ∈ ids, 0 ≤ z ∧ z < 5)) (fun _ x _ => (intOf x).toNat)
  case atStart => exact ⟨r, [], _, rfl, by simp; omega, rfl, HL0, hE0⟩
  case round =>
    clear HL0 hE0
    obtain ⟨j, ids, sj, rfl, hjl, rfl, HL, HI⟩ := hrel
    obtain ⟨ja, jc, rfl, -, -⟩ := HL.out.row.slice
    by_cases hj0 : j = 0
    · subst hj0
      have HBr : Hid (Box wr w5.heap.size (.int .i64 uk) (.string un) (.int .i64 ui) (.int .i64 uh) (.slice ua um uc)) := Box.grown HB6.out HL.out.grown (by intro e; have := Option.some.inj e; have := HT5.out.lt; omega)
      have HZr : Hid (Zero wr w.heap.size) := Box.grown HZ6.out HL.out.grown (by intro e; have := Option.some.inj e; omega)
      have HXr : Hid (Rep wr (fun c => W.heap.size ≤ c ∧ c < w5.heap.size) T (.agg #[.int .i64 uk, .string un, .int .i64 ui, .int .i64 uh, .slice ua um uc])) := HX6.out.kept (fun _ h => h) (fun c hc hl => HL.out.grown.block c hl (by intro e; have := Option.some.inj e; omega))
      obtain ⟨q0, q1, q2, q3, q4⟩ := HBr.out.cells
      have hz0 : ¬ ((0 : Nat) : Int) > 0 := by omega
      generalize hil : ids.length = il at *
      go_wp2_with (refine wpList_store5 rfl _ _ rfl _ _ _ _ _ _ HZr.out rfl _ _ _ _ _ _ _ rfl ?_; intro w9 hB9 hg9 hs9)
      obtain ⟨c0, c1, c2, c3, c4⟩ := hB9.cells
      refine bodyPost_ret (v := .tuple #[.agg #[.int .i64 uk, .string un, .int .i64 ui, .int .i64 uh, .slice ua um uc], .slice ja il jc]) (by simp [results, Try.results12, go_sem, c0, c1, c2, c3, c4]; try rfl) rfl ?_
      have hlo : w.heap.size + 1 ≤ w6.heap.size := by omega
      have hgw : W.grownBy wr (some b) := grown_trans HG6.out HL.out.grown
      have hwW : w.grownBy wr (some b) := grown_trans (grown_of_below HWb.out _) hgw
      have hfr : w.grownBy w9 (some b) := grown_fresh hwW hg9 (fun i hi => by cases hi; exact Nat.le_refl _)
      have hid9 : RowI w9 w6.heap.size (.slice ja il jc) ids := HL.out.row.kept hg9 (HL.out.row.off (by omega))
      refine ⟨T, ids, _, _, rfl, HXr.out.kept (fun c hc => by omega) (fun c hc hl => hg9.block c hl (by intro e; have := Option.some.inj e; omega)), HTok.out, ?_, by omega, HI.out, HL.out.tp.other (by omega) hg9, hfr⟩
      subst hil
      exact ⟨hid9.1, by
        rcases hid9.2 with h | ⟨g, cap, cur, h1, h2, h3⟩
        · exact .inl h
        · exact .inr ⟨g, cap, cur, h1, by omega, h3⟩⟩
    · obtain ⟨j', rfl⟩ : ∃ j', j = j' + 1 := ⟨j - 1, by omega⟩
      have hjp : (0 : Int) < ((j' + 1 : Nat) : Int) := by omega
      go_wp2_with fail
      go_at_call 43
      refine (HN5.out _ HL.out.tp).mono ?_
      rintro e w8 ⟨r', rfl, hr5, ht8, hg8⟩
      have HL1 := Lib.hid (HL.out.call hb6 ht8 hg8)
      have HI2 : Hid (∀ z ∈ ids ++ [(r' : Int)], 0 ≤ z ∧ z < 5) := fun z hz => by
        rcases List.mem_append.1 hz with h | h
        · exact HI.out z h
        · simp at h; subst h; exact ⟨by omega, hr5⟩
      have hil : ids.length + 1 ≤ 1000000 := by omega
      clear ht8 hg8
      go_wp2_with (at_builtin; refine wpList_pushI rfl _ _ rfl w6.heap.size (.slice ja ids.length jc) ids rfl HL1.out.row w8.heap.size rfl rfl (ids.length + 1) rfl hil HL1.out.grown.size ?_; intro a9 c9 w9 hrow hg; have HL2 := Lib.hid (HL1.out.push hb6 hrow hg); clear hrow hg)
      go_roundw
      case rel => exact ⟨j', ids ++ [(r' : Int)], _, by go_num, by simp; omega, rfl, HL2.out, HI2⟩
      case measure => simp [intOf]
end Go.Proofs.Ytahiefgfhpkoeaa

namespace Go.Proofs.Ytahiefgfhpkoeaa
open Go.RowKit Mth

/-- Where a number goes. -/
def mvR (ids : List Int) (K : Int) (v : Int) : Int := if ids.contains v then K - v else v
/-- The law's substitution, its first j assignments. -/
def mvS (ids : List Int) (K : Int) (j : Nat) : List (Int × Ty) := (List.range j).map fun (i : Nat) => ((i : Int), cv (mvR ids K (i : Int)))
/-- The numbers that have been moved. -/
def mvL (ids : List Int) (K : Int) (j : Nat) : List Int := ((List.range j).filter fun (i : Nat) => ids.contains (i : Int)).map fun (i : Nat) => K - (i : Int)
theorem mvS_snoc (ids : List Int) (K : Int) (j : Nat) : mvS ids K (j + 1) = mvS ids K j ++ [((j : Int), cv (mvR ids K j))] := by
  unfold mvS; rw [List.range_succ, List.map_append]; rfl
theorem mvL_yes {ids : List Int} {j : Nat} (K : Int) (h : ids.contains (j : Int) = true) : mvL ids K (j + 1) = mvL ids K j ++ [K - (j : Int)] := by
  unfold mvL
  rw [List.range_succ, List.filter_append, List.filter_cons, List.filter_nil, if_pos h, List.map_append]; rfl
theorem mvL_no {ids : List Int} {j : Nat} (K : Int) (h : ids.contains (j : Int) = false) : mvL ids K (j + 1) = mvL ids K j := by
  unfold mvL
  rw [List.range_succ, List.filter_append, List.filter_cons, List.filter_nil, if_neg (by rw [h]; decide), List.append_nil]
theorem mvS_look (ids : List Int) (K : Int) {v : Int} (h0 : 0 ≤ v) : ∀ j : Nat, v < (j : Int) → look (mvS ids K j) v = some (cv (mvR ids K v)) := by
  intro j
  induction j with
  | zero => intro h; omega
  | succ j ih =>
    intro h
    rw [mvS_snoc, look_append]
    by_cases e : v < (j : Int)
    · rw [ih e]
    · have : v = (j : Int) := by omega
      subst this
      have hn : look (mvS ids K j) (j : Int) = none := by
        unfold look mvS
        rw [Option.map_eq_none_iff, List.find?_eq_none]
        intro p hp
        obtain ⟨i, hi, rfl⟩ := List.mem_map.1 hp
        have := List.mem_range.1 hi
        simp
        omega
      rw [hn]
      show look [((j : Int), cv (mvR ids K j))] (j : Int) = _
      unfold look
      simp
theorem closes_same {ids : List Int} {K : Int} {x : Ty} (hK : 14 ≤ K) (hv : valid x = true) (hq : allN QS x = true) :
    ((clV (mvL ids K 5) (repl (mvS ids K 5) x)).length = (clV ids x).length) ∧ clT (mvL ids K 5) (repl (mvS ids K 5) x) = clT ids x := by
  have hb := qs_vids x hq
  have hr : ∀ v, 0 ≤ v → v < 5 → mvR ids K v = (if ids.contains v then K - v else v) := fun _ _ _ => rfl
  have hm : ∀ v : Int, 0 ≤ v → v < 5 → ((K - v) ∈ mvL ids K 5 ↔ ids.contains v = true) := fun v h0 h5 => by
    unfold mvL
    constructor
    · intro h
      obtain ⟨i, hi, e⟩ := List.mem_map.1 h
      have hi2 := (List.mem_filter.1 hi).2
      have : v = (i : Int) := by omega
      rw [this]; exact hi2
    · intro h
      exact List.mem_map.2 ⟨v.toNat, List.mem_filter.2 ⟨by simp; omega, by rw [show ((v.toNat : Nat) : Int) = v by omega]; exact h⟩, by omega⟩
  have hlow : ∀ v : Int, 0 ≤ v → v < 5 → v ∉ mvL ids K 5 := fun v h0 h5 h => by
    unfold mvL at h
    obtain ⟨i, hi, e⟩ := List.mem_map.1 h
    have := List.mem_range.1 (List.mem_filter.1 hi).1
    omega
  have h := close_rename (ρ := mvS ids K 5) (r := mvR ids K) (ids := ids) (moved := mvL ids K 5) (x := x) (plain_of_valid x hv)
    (fun v hv => mvS_look ids K (hb v hv).1 5 (hb v hv).2)
    (fun v hv w hw e => by
      have a := hb v hv
      have b := hb w hw
      unfold mvR at e
      split at e <;> split at e <;> omega)
    (fun v hv => by
      have a := hb v hv
      unfold mvR
      cases hc : ids.contains v with
      | true =>
        rw [if_pos rfl]
        simpa using (hm v a.1 a.2).2 hc
      | false =>
        rw [if_neg (by decide)]
        simpa using hlow v a.1 a.2)
    (fun v hv hc => by unfold mvR; rw [hc]; rfl)
  exact ⟨by rw [h.1, List.length_map], h.2⟩
end Go.Proofs.Ytahiefgfhpkoeaa

namespace Go.Proofs.Ytahiefgfhpkoeaa
open Go.ChangeShapes Go.WideShapes Go.ChangeAt Go.RowKit Go.Deep Mth

theorem Try.cells27 : Try.prog.cellsOf 27 = 6 := by kernel_rfl
theorem fieldsSc : (match Try.prog.underlying 27 with | some (.struct fs) => fs.map (fun f => (f.type, f.offset)) | _ => #[]) = #[(3, 0), (25, 1)] := by kernel_rfl
set_option maxRecDepth 100000 in
theorem sc_of_trod {H : Type} {enc : TypeId × Value → H} {w : World} {base : Nat} {spare : Nat → Bool} {held : Bool} {fuel : Nat} {cs : List Value} {x : DataW H × List MemPlace} (h : DataW.trod enc Try.prog w base spare held fuel 27 cs = some x) :
    ∃ (p : Int × Ty) (k : Int) (n : ByteArray) (i hm : Int) (s : Value), cs = [.int .i64 p.1, .int .i64 k, .string n, .int .i64 i, .int .i64 hm, s] ∧ Rep w (fun _ => True) p.2 (.agg #[.int .i64 k, .string n, .int .i64 i, .int .i64 hm, s]) ∧ -9223372036854775808 ≤ p.1 ∧ p.1 ≤ 9223372036854775807 := by
  have hF := fieldsSc
  have hU := Try.underlying27
  obtain ⟨xs, n, rfl, -, hl, hxl, hg⟩ := DataW.trod_struct hU h
  rw [Try.cells27] at hl
  match cs, hl with
  | [c0, c1, c2, c3, c4, c5], _ =>
  have h0 : DataW.trod enc Try.prog w base spare held n 3 (([c0, c1, c2, c3, c4, c5].drop 0).take (Try.prog.cellsOf 3)) = xs[0]? := hg 0 _ rfl
  have h1 : DataW.trod enc Try.prog w base spare held n 25 (([c0, c1, c2, c3, c4, c5].drop 1).take (Try.prog.cellsOf 25)) = xs[1]? := hg 1 _ rfl
  rw [Try.cells3] at h0
  rw [Try.cells25] at h1
  simp only [List.drop_zero, List.drop_succ_cons, List.take_succ_cons, List.take_zero] at h0 h1
  have hx : xs.length = 2 := hxl
  rw [List.getElem?_eq_getElem (by omega)] at h0 h1
  obtain ⟨z, e0, -, hz⟩ := DataW.trod_int Try.underlying3 h0
  obtain ⟨T, hT⟩ := type_of_trod n n (Nat.le_refl _) _ _ h1
  simp at e0
  subst e0
  obtain ⟨k, nm, i, hm, s, -, e, -, -⟩ := hT.open
  simp at e
  obtain ⟨rfl, rfl, rfl, rfl, rfl⟩ := e
  exact ⟨(z, T), k, nm, i, hm, _, rfl, hT, bounds_i64 hz⟩
set_option maxRecDepth 100000 in
/-- A scheme that came in. -/
theorem scheme_open {H : Type} {enc : TypeId × Value → H} {W : World} {base : Nat} {v : Value} {d : DataW H} {p : List MemPlace} (hval : Value.okWide Try.prog W .any base 27 v) (h : DataW.Trod enc Try.prog W 0 (fun _ => true) true 27 v d p) :
    ∃ c : Int × Ty, RepC W (fun b => b < W.heap.size) c v ∧ -9223372036854775808 ≤ c.1 ∧ c.1 ≤ 9223372036854775807 := by
  obtain ⟨cs, rfl, -⟩ := okWide_struct Try.underlying27 hval
  obtain ⟨fuel, hf⟩ := h
  obtain ⟨q, k, n, i, hm, s, e, hr, h1, h2⟩ := sc_of_trod hf
  simp only [Value.cells] at e
  have e2 : cs = #[.int .i64 q.1, .int .i64 k, .string n, .int .i64 i, .int .i64 hm, s] := by
    rw [← Array.toList_inj, e]
  subst e2
  exact ⟨q, ⟨k, n, i, hm, s, rfl, hr.bound.imp fun b hb => hb.2⟩, h1, h2⟩
end Go.Proofs.Ytahiefgfhpkoeaa
