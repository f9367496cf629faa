/- Valid of the package. Valid and Idempotent of the reference. When a substitution is idempotent: plain facts. Idempotent of the reference and of the package. The law's same. The maker's Subst. The law's made. The law's first. What the laws share. A list of assignments that came in. Several elements appended at once to a row that the call owns. Appending a list; small types; two elements of a list. -/
import Derived.Test.YtmjdddmfhakabaaQD
import Derived.Test.YtmjdddmfhakabaaTyVars
import Derived.Test.YtmjdddmfhakabaaTyVal3
import Derived.Lib.QuietBelow
import Derived.BigQuiet
import Derived.Test.YtmjdddmfhakabaaQB
import Derived.Test.YtmjdddmfhakabaaTyKit
import Derived.Test.YtmjdddmfhakabaaTySmall
import Derived.Test.YtmjdddmfhakabaaTyOpen
import Derived.Test.YtmjdddmfhakabaaTyEls
import Derived.Deep.AppendLies
import Derived.Laws.AppendOwnNone
namespace Go.Proofs.Ytmjdddmfhakabaa
open Go.RowKit Go.Sort Go.Shelf Go.Maps Mth

/-- Each variable once, and all are valid. -/
def vSg (seen : List (Int × Ty)) : List (Int × Ty) → Bool
  | [] => true
  | p :: l => !asgd seen p.1 && (idOk p.1 && valid p.2) && vSg (seen ++ [p]) l
def vS (σ : List (Int × Ty)) : Bool := vSg [] σ
theorem vSg_step {σ : List (Int × Ty)} {j : Nat} {p : Int × Ty} (h : σ[j]? = some p) : vSg (σ.take j) (σ.drop j) = (!asgd (σ.take j) p.1 && (idOk p.1 && valid p.2) && vSg (σ.take (j + 1)) (σ.drop (j + 1))) := by
  obtain ⟨hl, e⟩ := List.getElem?_eq_some_iff.1 h
  rw [List.drop_eq_getElem_cons hl, e, vSg, List.take_add_one, h]
  rfl
theorem asgd_contains (σ : List (Int × Ty)) (i : Int) : asgd σ i = (σ.map (·.1)).contains i := by
  induction σ with
  | nil => rfl
  | cons p σ ih =>
    rw [asgd_cons, List.map_cons, List.contains_cons, ih]
    congr 1
    exact Bool.beq_comm
theorem valid_cv (i : Int) : valid (cv i) = idOk i := by
  simp [valid, cv]
/-- The numbers fit a key. -/
def KeyOk (σ : List (Int × Ty)) : Prop := ∀ p ∈ σ, -9223372036854775808 ≤ p.1 ∧ p.1 ≤ 9223372036854775807
set_option maxRecDepth 100000 in
set_option maxHeartbeats 6400000 in
theorem validS_any (σ : List (Int × Ty)) (sv : Value) (w : World) (hl : σ.length ≤ 1000) (hk : KeyOk σ) (hs : AsL w (fun _ => True) σ sv) :
    Calls Try.prog 21 #[sv] w fun e w' => e = .returned (.bool (vS σ)) ∧ RowKit.Below w.heap.size w w' := by
  have hmm := @run_makeMap Try.prog
  have HK := Lib.hid hk
  obtain ⟨a, cap, rfl, ⟨hc1, hc2⟩, hj⟩ := hs.bound
  have HJ := Lib.hid hj
  unfold maxLen at hc2
  have HV : Hid (∀ x w, Calls Try.prog 43 #[.int .i64 x] w fun e w' => e = .returned (.agg #[.int .i64 1, .string ⟨#[]⟩, .int .i64 x, .int .i64 0, .slice none 0 0]) ∧ RowKit.Below w.heap.size w w') := fun x w => pkVar_any x w
  have HVc : Hid (∀ x w, Calls Try.prog 46 #[.agg #[.int .i64 1, .string ⟨#[]⟩, .int .i64 x, .int .i64 0, .slice none 0 0]] w fun e w' => e = .returned (.bool (idOk x)) ∧ RowKit.Below w.heap.size w w') := fun x w => by
    have := valid_any (cv x) _ _ w (rep_cv w (fun _ => True) x)
    rwa [valid_cv] at this
  have HAl : Hid (∀ (w : World) (o : Obj), RowKit.Below w.heap.size w (w.alloc o)) := fun w o => (Below.refl _ w).alloc (Nat.le_refl _) _
  obtain ⟨W, hW⟩ : ∃ W, W = w.alloc (.map #[] 0) := ⟨_, rfl⟩
  have hlW : RowKit.Below w.heap.size w W := by subst hW; exact HAl.out _ _
  have hsW : W.heap.size = w.heap.size + 1 := by subst hW; simp
  have hmap : W.ownsMap (H := Unit) Try.prog 3 (plainElem Try.prog 4) w.heap.size 0 (setM ((σ.take 0).map (·.1))) := by subst hW; exact World.ownsMap_made w Try.prog 3 _
  have HLW := Lib.hid hlW
  have HSW := Lib.hid hsW
  obtain ⟨m, hm⟩ : ∃ m, m = σ.length := ⟨_, rfl⟩
  rw [← hm] at hc1 hl ⊢
  have HM := Lib.hid hm
  have H0 : Hid (vS σ = vSg (σ.take 0) (σ.drop 0)) := by show _ = _; simp [vS]
  clear hj hm hs hlW hsW hk
  go_enter Try.func21, Try.ntmps21
  go_upto_region 2 with fail
  rw [← hW]
  clear hW hmm
  go_wp2
  go_loopw [9] (fun x wr => ∃ j : Nat, j ≤ m ∧ x = .int .i64 j ∧ Hid (vS σ = vSg (σ.take j) (σ.drop j)) ∧ wr.ownsMap (H := Unit) Try.prog 3 (plainElem Try.prog 4) w.heap.size j (setM ((σ.take j).map (·.1))) ∧ W.grownBy wr (some w.heap.size)) (fun x _ => m - (intOf x).toNat)
  case atStart => exact ⟨0, Nat.zero_le _, rfl, H0, hmap, grown_of_below (Below.refl _ _) _⟩
  case round =>
    clear H0 hmap
    obtain ⟨j, hj, rfl, HD, hown, hg⟩ := hrel
    have hlow : RowKit.Below w.heap.size w wr := Below.grown HLW.out hg HLW.out.size (fun k hk => by cases hk; exact Nat.le_refl _)
    by_cases hlt : j < m
    · obtain ⟨p, hp⟩ : ∃ x, σ[j]? = some x := ⟨_, List.getElem?_eq_getElem (by rw [← HM.out]; exact hlt)⟩
      obtain ⟨ad, k', n', i', h', s', rfl, hS, h6, hx⟩ := HJ.out j p hp
      have HSt := Lib.hid (vSg_step hp)
      have HMt := Lib.hid (mapTake (·.1) hp)
      have hkr := HK.out p (List.mem_of_getElem? hp)
      obtain ⟨q0, q1, q2, q3, q4, q5⟩ := h6.up _ hlow
      obtain ⟨_, _, _, _, _, -, hv, hn2, hs2⟩ := hx.open
      simp at hv
      obtain ⟨rfl, rfl, rfl, rfl, rfl⟩ := hv
      obtain ⟨sa', sc', rfl, -⟩ := hs2
      have HX := Lib.hid (hx.lift hlow)
      clear h6 hx hS hn2 hp
      have hji : (j : Int) < (m : Int) := by omega
      generalize p.2.ts.length = sn' at *
      go_upto_region 5 with fail
      have HB1 := Lib.hid (Box6.made wr (.int .i64 p.1) (.int .i64 k') (.string n') (.int .i64 i') (.int .i64 h') (.slice sa' sn' sc'))
      have HX1 := Lib.hid (HX.out.lift (HAl.out wr (.cells #[.int .i64 p.1, .int .i64 k', .string n', .int .i64 i', .int .i64 h', .slice sa' sn' sc'] 43)))
      have HO1 := Lib.hid (hown.alloc (.cells #[.int .i64 p.1, .int .i64 k', .string n', .int .i64 i', .int .i64 h', .slice sa' sn' sc'] 43))
      have HG1 := Lib.hid (grown_trans hg (grown_of_below (HAl.out wr (.cells #[.int .i64 p.1, .int .i64 k', .string n', .int .i64 i', .int .i64 h', .slice sa' sn' sc'] 43)) (some w.heap.size)))
      have hBne : wr.heap.size ≠ w.heap.size := by have h1 := hg.size; have h2 := HSW.out; omega
      have HBn := Lib.hid hBne
      clear q0 q1 q2 q3 q4 q5 HX hown hg hlow hBne
      generalize (wr.alloc (.cells #[.int .i64 p.1, .int .i64 k', .string n', .int .i64 i', .int .i64 h', .slice sa' sn' sc'] 43)) = W1 at *
      generalize wr.heap.size = B at *
      obtain ⟨q0, q1, q2, q3, q4, q5⟩ := HB1.out.cells
      have hkey : keyOf Try.prog 3 (.int .i64 p.1) = some (.int .i64 p.1) := keyOf_int_mk Try.underlying3 (WalkArith.wf_i64 (by omega))
      have hat := atKey_setM p.1 ((σ.take j).map (·.1))
      rw [← asgd_contains] at hat
      have HLow1 : Hid (RowKit.Below w.heap.size w W1) := Below.grown HLW.out HG1.out HLW.out.size (fun k hk => by cases hk; exact Nat.le_refl _)
      have HVt : Hid (∀ W', RowKit.Below W1.heap.size W1 W' → Calls Try.prog 46 #[.agg #[.int .i64 k', .string n', .int .i64 i', .int .i64 h', .slice sa' sn' sc']] W' fun e w' => e = .returned (.bool (valid p.2)) ∧ RowKit.Below W'.heap.size W' w') := fun W' hb => valid_any p.2 _ _ W' (HX1.out.lift hb)
      cases hq : asgd (σ.take j) p.1 with
      | true =>
        rw [hq] at hat
        have HF : Hid (vS σ = false) := by show _ = _; rw [HD.out, HSt.out, hq]; rfl
        clear hq
        go_wp2_with (at_lookup; refine wpList_lookup_bool _ rfl _ _ 73 rfl 3 4 Try.intKey Try.underlying73 Try.underlying4 (Try.zeroBool _) w.heap.size j _ rfl HO1.out _ _ rfl hkey true hat ?_)
        go_ret
        exact ⟨by rw [HF.out]; rfl, HLow1.out⟩
      | false =>
        rw [hq] at hat
        cases h1 : idOk p.1 with
        | false =>
          have HF : Hid (vS σ = false) := by show _ = _; rw [HD.out, HSt.out, hq, h1]; rfl
          have HV1 := HVc.out p.1
          rw [h1] at HV1
          have HVc1 := Lib.hid HV1
          clear hq HV1 h1
          go_wp2_with (first
            | (at_lookup; refine wpList_lookup_bool _ rfl _ _ 73 rfl 3 4 Try.intKey Try.underlying73 Try.underlying4 (Try.zeroBool _) w.heap.size j _ rfl HO1.out _ _ rfl hkey false hat ?_)
            | (go_at_call 43; refine (HV.out _ _).mono ?_; rintro e w2 ⟨rfl, hb2⟩)
            | (go_at_call 46; refine (HVc1.out _).mono ?_; rintro e w3 ⟨rfl, hb3⟩))
          go_ret
          exact ⟨by rw [HF.out]; rfl, (HLow1.out.trans (hb2.mono HLow1.out.size)).trans (hb3.mono (Nat.le_trans HLow1.out.size hb2.size))⟩
        | true =>
          have HV1 := HVc.out p.1
          rw [h1] at HV1
          have HVc1 := Lib.hid HV1
          cases h2 : valid p.2 with
          | false =>
            have HF : Hid (vS σ = false) := by show _ = _; rw [HD.out, HSt.out, hq, h1, h2]; rfl
            rw [h2] at HVt
            clear hq HV1 h1 h2
            go_wp2_with (first
              | (at_lookup; refine wpList_lookup_bool _ rfl _ _ 73 rfl 3 4 Try.intKey Try.underlying73 Try.underlying4 (Try.zeroBool _) w.heap.size j _ rfl HO1.out _ _ rfl hkey false hat ?_)
              | (go_at_call 43; refine (HV.out _ _).mono ?_; rintro e w2 ⟨rfl, hb2⟩)
              | (go_at_call 46; with_reducible refine (HVc1.out _).mono ?_; rintro e w3 ⟨rfl, hb3⟩; have hb13 := hb2.trans (hb3.mono hb2.size); obtain ⟨r0, r1, r2, r3, r4, r5⟩ := (HB1.out.lift hb13).cells)
              | (go_at_call 46; with_reducible refine (HVt.out _ hb13).mono ?_; rintro e w4 ⟨rfl, hb4⟩))
            go_ret
            exact ⟨by rw [HF.out]; rfl, (HLow1.out.trans (hb13.mono HLow1.out.size)).trans (hb4.mono (Nat.le_trans HLow1.out.size hb13.size))⟩
          | true =>
            have HD2 : Hid (vS σ = vSg (σ.take (j + 1)) (σ.drop (j + 1))) := by show _ = _; rw [HD.out, HSt.out, hq, h1, h2]; rfl
            rw [h2] at HVt
            clear hq HV1 h1 h2
            go_wp2_with (first
              | (at_lookup; refine wpList_lookup_bool _ rfl _ _ 73 rfl 3 4 Try.intKey Try.underlying73 Try.underlying4 (Try.zeroBool _) w.heap.size j _ rfl HO1.out _ _ rfl hkey false hat ?_)
              | (go_at_call 43; refine (HV.out _ _).mono ?_; rintro e w2 ⟨rfl, hb2⟩)
              | (go_at_call 46; with_reducible refine (HVc1.out _).mono ?_; rintro e w3 ⟨rfl, hb3⟩; have hb13 := hb2.trans (hb3.mono hb2.size); obtain ⟨r0, r1, r2, r3, r4, r5⟩ := (HB1.out.lift hb13).cells)
              | (go_at_call 46; with_reducible refine (HVt.out _ hb13).mono ?_; rintro e w4 ⟨rfl, hb4⟩; have hb14 := hb13.trans (hb4.mono hb13.size); obtain ⟨s0, s1, s2, s3, s4, s5⟩ := (HB1.out.lift hb14).cells; have HO4 := Lib.hid (HO1.out.kept (grown_of_below hb14 none) (by simp)))
              | (at_mapUpdate; (refine wpList_mapUpdate_own (H := Unit) _ rfl _ _ _ 73 rfl 3 4 Try.intKey Try.underlying73 (plainElem Try.prog 4) w.heap.size j (setM ((σ.take j).map (·.1))) rfl HO4.out (by unfold maxLen; omega) (.int .i64 p.1) (.bool true) (.int .i64 p.1) rfl rfl hkey (.lit (.bool true)) [] (plainElem_bool Try.underlying4 true) ?_; intro w5 hown5 hg5; have Hown5 := Lib.hid hown5; have HG5 := Lib.hid (grown_trans (grown_trans HG1.out (grown_of_below hb14 _)) hg5); clear hown5 hg5)))
            go_roundw
            case rel => exact ⟨j + 1, hlt, by go_num, HD2, by rw [HMt.out, setM_snoc]; exact Hown5.out, HG5.out⟩
            case measure => simp [intOf]; omega
    · have HF : Hid (vS σ = true) := by
        show _ = _
        rw [HD.out, List.drop_eq_nil_of_le (by rw [← HM.out]; omega)]; rfl
      go_wp2
      go_ret
      exact ⟨by rw [HF.out]; rfl, hlow⟩
end Go.Proofs.Ytmjdddmfhakabaa

namespace Go.Proofs.Ytmjdddmfhakabaa
open Go.RowKit Go.Sort Go.Shelf Go.Maps Mth

theorem keep6 {W w1 w2 : World} {p0 p1 p2 p3 p4 p5 : Addr} {a0 a1 a2 a3 a4 a5 : Value} (h0 : w1.cell? p0 = some a0) (h1 : w1.cell? p1 = some a1) (h2 : w1.cell? p2 = some a2) (h3 : w1.cell? p3 = some a3) (h4 : w1.cell? p4 = some a4) (h5 : w1.cell? p5 = some a5) (hW : RowKit.Below W.heap.size W w1) (hb : RowKit.Below w1.heap.size w1 w2) :
    w2.cell? p0 = some a0 ∧ w2.cell? p1 = some a1 ∧ w2.cell? p2 = some a2 ∧ w2.cell? p3 = some a3 ∧ w2.cell? p4 = some a4 ∧ w2.cell? p5 = some a5 ∧ RowKit.Below W.heap.size W w2 := by
  have k : ∀ p v, w1.cell? p = some v → w2.cell? p = some v := fun p v h => (hb.cell (World.block_lt_of_cell? _ _ h)).trans h
  exact ⟨k _ _ h0, k _ _ h1, k _ _ h2, k _ _ h3, k _ _ h4, k _ _ h5, hW.trans (hb.mono hW.size)⟩
theorem asL_take {w : World} {S : Nat → Prop} {σ : List (Int × Ty)} {a : Option Addr} {n c : Nat} (h : AsL w S σ (.slice a n c)) (j : Nat) (hj : j ≤ n) : AsL w S (σ.take j) (.slice a j c) := by
  obtain ⟨a', c', e, ⟨h1, h2⟩, hc⟩ := h
  cases e
  have hl : (σ.take j).length = j := by rw [List.length_take]; omega
  refine ⟨a, c, by rw [hl], ⟨by omega, h2⟩, fun i p hp => ?_⟩
  have hi : i < j := by have := (List.getElem?_eq_some_iff.1 hp).1; omega
  rw [List.getElem?_take_of_lt hi] at hp
  exact hc i p hp
set_option maxRecDepth 100000 in
set_option maxHeartbeats 6400000 in
theorem refValidS_any (σ : List (Int × Ty)) (sv : Value) (w : World) (hl : σ.length ≤ 1000) (hs : AsL w (fun _ => True) σ sv) :
    Calls Try.prog 22 #[sv] w fun e w' => e = .returned (.bool (vS σ)) ∧ RowKit.Below w.heap.size w w' := by
  have HSA := Lib.hid hs
  obtain ⟨a, cap, rfl, ⟨hc1, hc2⟩, hj⟩ := hs.bound
  have HJ := Lib.hid hj
  unfold maxLen at hc2
  have HV : Hid (∀ x w, Calls Try.prog 30 #[.int .i64 x] w fun e w' => e = .returned (.agg #[.int .i64 1, .string ⟨#[]⟩, .int .i64 x, .int .i64 0, .slice none 0 0]) ∧ RowKit.Below w.heap.size w w') := fun x w => refVar_any x w
  have HVc : Hid (∀ x w, Calls Try.prog 47 #[.agg #[.int .i64 1, .string ⟨#[]⟩, .int .i64 x, .int .i64 0, .slice none 0 0]] w fun e w' => e = .returned (.bool (idOk x)) ∧ RowKit.Below w.heap.size w w') := fun x w => by
    have := refValid_any (cv x) _ _ w (rep_cv w (fun _ => True) x)
    rwa [valid_cv] at this
  have HH : Hid (∀ j i W, j ≤ σ.length → RowKit.Below w.heap.size w W → Calls Try.prog 35 #[.slice a j cap, .int .i64 i] W fun e W' => e = .returned (.bool (asgd (σ.take j) i)) ∧ W' = W) := fun j i W hj hb => refHas_any (σ.take j) i _ _ W (asL_take (HSA.out.lift hb) j hj)
  obtain ⟨m, hm⟩ : ∃ m, m = σ.length := ⟨_, rfl⟩
  rw [← hm] at hc1 hl HH ⊢
  have HM := Lib.hid hm
  have H0 : Hid (vS σ = vSg (σ.take 0) (σ.drop 0)) := by show _ = _; simp [vS]
  clear hj hm hs HSA
  go_enter Try.func22, Try.ntmps22
  go_wp2
  go_loopw [3] (fun x wr => ∃ j : Nat, j ≤ m ∧ x = .int .i64 j ∧ Hid (vS σ = vSg (σ.take j) (σ.drop j)) ∧ RowKit.Below w.heap.size w wr) (fun x _ => m - (intOf x).toNat)
  case atStart => exact ⟨0, Nat.zero_le _, rfl, H0, Below.refl _ _⟩
  case round =>
    clear H0
    obtain ⟨j, hj, rfl, HD, hlow⟩ := hrel
    by_cases hlt : j < m
    · obtain ⟨p, hp⟩ : ∃ x, σ[j]? = some x := ⟨_, List.getElem?_eq_getElem (by rw [← HM.out]; exact hlt)⟩
      obtain ⟨ad, k', n', i', h', s', rfl, hS, h6, hx⟩ := HJ.out j p hp
      have HSt := Lib.hid (vSg_step hp)
      obtain ⟨q0, q1, q2, q3, q4, q5⟩ := h6.up _ hlow
      obtain ⟨_, _, _, _, _, -, hv, hn2, hs2⟩ := hx.open
      simp at hv
      obtain ⟨rfl, rfl, rfl, rfl, rfl⟩ := hv
      obtain ⟨sa', sc', rfl, -⟩ := hs2
      have HX := Lib.hid (hx.lift hlow)
      clear h6 hx hS hn2 hp
      have hji : (j : Int) < (m : Int) := by omega
      have hjc : (j : Int) ≤ (cap : Int) := by omega
      generalize p.2.ts.length = sn' at *
      have HVt : Hid (∀ W', RowKit.Below wr.heap.size wr W' → Calls Try.prog 47 #[.agg #[.int .i64 k', .string n', .int .i64 i', .int .i64 h', .slice sa' sn' sc']] W' fun e w' => e = .returned (.bool (valid p.2)) ∧ RowKit.Below W'.heap.size W' w') := fun W' hb => refValid_any p.2 _ _ W' (HX.out.lift hb)
      have HHs : Hid (∀ W', RowKit.Below wr.heap.size wr W' → Calls Try.prog 35 #[.slice (some ad) j cap, .int .i64 p.1] W' fun e w' => e = .returned (.bool (asgd (σ.take j) p.1)) ∧ RowKit.Below W'.heap.size W' w') := fun W' hb => (HH.out j p.1 W' hj (hlow.trans (hb.mono hlow.size))).mono fun e w' ⟨h1, h2⟩ => ⟨h1, h2 ▸ Below.refl _ _⟩
      have HVc1 := Lib.hid (HVc.out p.1)
      have HE0 : Hid _ := HD.out.trans HSt.out
      have G0 := cell_regrown q0
      have G1 := cell_regrown q1
      have G2 := cell_regrown q2
      have G3 := cell_regrown q3
      have G4 := cell_regrown q4
      have G5 := cell_regrown q5
      clear HH HVc HX
      cases hq : asgd (σ.take j) p.1 with
      | true =>
        have HE : Hid (vS σ = false) := by show _ = _; rw [HE0.out, hq]; rfl
        rw [hq] at HHs
        clear hq
        go_wp2_with fail
        refine wp_region_quiet_below (by kernel_rfl) (by kernel_rfl) ?_
        repeat (first | go_big_quiet_step (first | (go_at_call 35; with_reducible exact Calls.regrown_of (HHs.out _ (below_regrown _ _ _))) | (go_at_call 30; with_reducible exact Calls.regrown_of (HV.out _ _)) | (go_at_call 47; with_reducible exact Calls.regrown_of (HVc1.out _)) | (go_at_call 47; with_reducible exact Calls.regrown_of (HVt.out _ (below_regrown _ _ _)))) | quiet_step (first | (go_at_call 35; with_reducible exact Calls.regrown_of (HHs.out _ (below_regrown _ _ _))) | (go_at_call 30; with_reducible exact Calls.regrown_of (HV.out _ _)) | (go_at_call 47; with_reducible exact Calls.regrown_of (HVc1.out _)) | (go_at_call 47; with_reducible exact Calls.regrown_of (HVt.out _ (below_regrown _ _ _)))))
        refine wpQuiet_nil ?_
        intro _ hw'
        obtain ⟨⟨dq, osq⟩, hw''⟩ := hw'
        subst hw''
        have hlowF := hlow.trans ((below_regrown wr dq osq).mono hlow.size)
        clear q0 q1 q2 q3 q4 q5 G0 G1 G2 G3 G4 G5
        go_wp2
        go_ret
        exact ⟨by rw [HE.out]; rfl, hlowF⟩
      | false =>
        rw [hq] at HHs
        cases h1 : idOk p.1 with
        | false =>
          have HE : Hid (vS σ = false) := by show _ = _; rw [HE0.out, hq, h1]; rfl
          rw [h1] at HVc1
          clear hq h1
          go_wp2_with fail
          refine wp_region_quiet_below (by kernel_rfl) (by kernel_rfl) ?_
          repeat (first | go_big_quiet_step (first | (go_at_call 35; with_reducible exact Calls.regrown_of (HHs.out _ (below_regrown _ _ _))) | (go_at_call 30; with_reducible exact Calls.regrown_of (HV.out _ _)) | (go_at_call 47; with_reducible exact Calls.regrown_of (HVc1.out _)) | (go_at_call 47; with_reducible exact Calls.regrown_of (HVt.out _ (below_regrown _ _ _)))) | quiet_step (first | (go_at_call 35; with_reducible exact Calls.regrown_of (HHs.out _ (below_regrown _ _ _))) | (go_at_call 30; with_reducible exact Calls.regrown_of (HV.out _ _)) | (go_at_call 47; with_reducible exact Calls.regrown_of (HVc1.out _)) | (go_at_call 47; with_reducible exact Calls.regrown_of (HVt.out _ (below_regrown _ _ _)))))
          refine wpQuiet_nil ?_
          intro _ hw'
          obtain ⟨⟨dq, osq⟩, hw''⟩ := hw'
          subst hw''
          have hlowF := hlow.trans ((below_regrown wr dq osq).mono hlow.size)
          clear q0 q1 q2 q3 q4 q5 G0 G1 G2 G3 G4 G5
          go_wp2
          go_ret
          exact ⟨by rw [HE.out]; rfl, hlowF⟩
        | true =>
          rw [h1] at HVc1
          cases h2 : valid p.2 with
          | false =>
            have HE : Hid (vS σ = false) := by show _ = _; rw [HE0.out, hq, h1, h2]; rfl
            rw [h2] at HVt
            clear hq h1 h2
            go_wp2_with fail
            refine wp_region_quiet_below (by kernel_rfl) (by kernel_rfl) ?_
            repeat (first | go_big_quiet_step (first | (go_at_call 35; with_reducible exact Calls.regrown_of (HHs.out _ (below_regrown _ _ _))) | (go_at_call 30; with_reducible exact Calls.regrown_of (HV.out _ _)) | (go_at_call 47; with_reducible exact Calls.regrown_of (HVc1.out _)) | (go_at_call 47; with_reducible exact Calls.regrown_of (HVt.out _ (below_regrown _ _ _)))) | quiet_step (first | (go_at_call 35; with_reducible exact Calls.regrown_of (HHs.out _ (below_regrown _ _ _))) | (go_at_call 30; with_reducible exact Calls.regrown_of (HV.out _ _)) | (go_at_call 47; with_reducible exact Calls.regrown_of (HVc1.out _)) | (go_at_call 47; with_reducible exact Calls.regrown_of (HVt.out _ (below_regrown _ _ _)))))
            refine wpQuiet_nil ?_
            intro _ hw'
            obtain ⟨⟨dq, osq⟩, hw''⟩ := hw'
            subst hw''
            have hlowF := hlow.trans ((below_regrown wr dq osq).mono hlow.size)
            clear q0 q1 q2 q3 q4 q5 G0 G1 G2 G3 G4 G5
            go_wp2
            go_ret
            exact ⟨by rw [HE.out]; rfl, hlowF⟩
          | true =>
            have HE : Hid (vS σ = vSg (σ.take (j + 1)) (σ.drop (j + 1))) := by show _ = _; rw [HE0.out, hq, h1, h2]; rfl
            rw [h2] at HVt
            clear hq h1 h2
            go_wp2_with fail
            refine wp_region_quiet_below (by kernel_rfl) (by kernel_rfl) ?_
            repeat (first | go_big_quiet_step (first | (go_at_call 35; with_reducible exact Calls.regrown_of (HHs.out _ (below_regrown _ _ _))) | (go_at_call 30; with_reducible exact Calls.regrown_of (HV.out _ _)) | (go_at_call 47; with_reducible exact Calls.regrown_of (HVc1.out _)) | (go_at_call 47; with_reducible exact Calls.regrown_of (HVt.out _ (below_regrown _ _ _)))) | quiet_step (first | (go_at_call 35; with_reducible exact Calls.regrown_of (HHs.out _ (below_regrown _ _ _))) | (go_at_call 30; with_reducible exact Calls.regrown_of (HV.out _ _)) | (go_at_call 47; with_reducible exact Calls.regrown_of (HVc1.out _)) | (go_at_call 47; with_reducible exact Calls.regrown_of (HVt.out _ (below_regrown _ _ _)))))
            refine wpQuiet_nil ?_
            intro _ hw'
            obtain ⟨⟨dq, osq⟩, hw''⟩ := hw'
            subst hw''
            have hlowF := hlow.trans ((below_regrown wr dq osq).mono hlow.size)
            clear q0 q1 q2 q3 q4 q5 G0 G1 G2 G3 G4 G5
            go_wp2
            go_roundw
            case rel => exact ⟨j + 1, hlt, by go_num, HE, hlowF⟩
            case measure => simp [intOf]; omega
    · have HF : Hid (vS σ = true) := by
        show _ = _
        rw [HD.out, List.drop_eq_nil_of_le (by rw [← HM.out]; omega)]; rfl
      go_wp2
      go_ret
      exact ⟨by rw [HF.out]; rfl, hlow⟩
end Go.Proofs.Ytmjdddmfhakabaa

namespace Go.Proofs.Ytmjdddmfhakabaa
open Go.RowKit Go.Sort Go.Shelf Go.Maps Mth

theorem mem_ded : ∀ (l acc : List Int) (x : Int), x ∈ ded acc l ↔ x ∈ acc ∨ x ∈ l := by
  intro l
  induction l with
  | nil => intro acc x; simp [ded]
  | cons y l ih =>
    intro acc x
    simp only [ded]
    split
    · rename_i hc
      rw [ih]
      simp at hc
      constructor
      · rintro (h | h)
        · exact .inl h
        · exact .inr (by simp [h])
      · rintro (h | h)
        · exact .inl h
        · rcases List.mem_cons.1 h with rfl | h
          · exact .inl hc
          · exact .inr h
    · rw [ih]
      simp [or_assoc]
theorem vars_all (q : Int → Bool) (T : Ty) : (varsOf [T]).all q = (nk 1 T).all fun U => q U.i := by
  rw [Bool.eq_iff_iff, List.all_eq_true, List.all_eq_true]
  have hn : nkL 1 [T] = nk 1 T := by simp [nkL]
  constructor
  · intro h U hU
    refine h _ ((mem_ded _ _ _).2 (.inr ?_))
    rw [hn]
    exact List.mem_map.2 ⟨U, hU, rfl⟩
  · intro h x hx
    rcases (mem_ded _ _ _).1 hx with h' | h'
    · cases h'
    · rw [hn] at h'
      obtain ⟨U, hU, rfl⟩ := List.mem_map.1 h'
      exact h U hU
theorem bytes_nil {n : ByteArray} (h : (n.toList == []) = true) : n = ⟨#[]⟩ := by
  have hn : n.toList = [] := by simpa using h
  obtain ⟨d⟩ := n
  have hd : d.toList = [] := by rw [← Lib.toList_data]; exact hn
  have : d = #[] := by simpa using hd
  rw [this]
theorem valid_var {n : ByteArray} {i h : Int} {ts : List Ty} (hv : valid (.mk 1 n i h ts) = true) : n = ⟨#[]⟩ ∧ h = 0 ∧ ts = [] := by
  simp only [valid, true_or, if_true, Bool.and_eq_true, decide_eq_true_eq] at hv
  obtain ⟨⟨⟨-, hn⟩, hh⟩, ht⟩ := hv
  exact ⟨bytes_nil hn, by simpa using hh, List.eq_nil_of_length_eq_zero ht⟩
theorem valid_kids {k : Int} {n : ByteArray} {i h : Int} {ts : List Ty} (hv : valid (.mk k n i h ts) = true) : ∀ U ∈ ts, valid U = true := by
  intro U hU
  rw [valid] at hv
  by_cases h1 : k = 1 ∨ k = 2
  · rw [if_pos h1] at hv
    simp only [Bool.and_eq_true, decide_eq_true_eq] at hv
    rw [List.eq_nil_of_length_eq_zero hv.2] at hU; cases hU
  · rw [if_neg h1] at hv
    by_cases h3 : k = 3
    · rw [if_pos h3] at hv
      simp only [Bool.and_eq_true, decide_eq_true_eq] at hv
      rw [List.eq_nil_of_length_eq_zero hv.2] at hU; cases hU
    · rw [if_neg h3] at hv
      by_cases h4 : k = 4
      · rw [if_pos h4] at hv
        simp only [Bool.and_eq_true] at hv
        exact validL_mem hv.2 hU
      · rw [if_neg h4] at hv
        by_cases h5 : k = 5
        · rw [if_pos h5] at hv
          simp only [Bool.and_eq_true, decide_eq_true_eq] at hv
          rw [List.eq_nil_of_length_eq_zero hv.2] at hU; cases hU
        · rw [if_neg h5] at hv; cases hv
theorem fixL (σ : List (Int × Ty)) : ∀ ts : List Ty, (∀ U ∈ ts, teq (repl σ U) U = (nk 1 U).all fun V => teq (repl σ (cv V.i)) (cv V.i)) → teqL (ts.map (repl σ)) ts = (nkL 1 ts).all fun V => teq (repl σ (cv V.i)) (cv V.i) := by
  intro ts
  induction ts with
  | nil => intro _; rfl
  | cons t ts ih =>
    intro h
    rw [List.map_cons, teqL, nkL, List.all_append, h t (by simp), ih fun U hU => h U (by simp [hU])]
theorem fix_iff (σ : List (Int × Ty)) : ∀ T : Ty, valid T = true → teq (repl σ T) T = (nk 1 T).all fun V => teq (repl σ (cv V.i)) (cv V.i) := by
  refine Ty.induct fun T ih hv => ?_
  obtain ⟨k, n, i, h, ts⟩ := T
  by_cases hk : k = 1
  · subst hk
    obtain ⟨rfl, rfl, rfl⟩ := valid_var hv
    simp [nk, nkL, cv, Ty.i]
  · rw [repl_not _ hk, nk, if_neg hk]
    have := fixL σ ts fun U hU => ih U hU (valid_kids hv U hU)
    rw [List.nil_append, ← this]
    simp [teq]
/-- At each place of a valid substitution. -/
theorem vSg_at : ∀ (l seen : List (Int × Ty)), vSg seen l = true → ∀ (j : Nat) (p : Int × Ty), l[j]? = some p → asgd (seen ++ l.take j) p.1 = false ∧ idOk p.1 = true ∧ valid p.2 = true := by
  intro l
  induction l with
  | nil => intro _ _ j p h; simp at h
  | cons x l ih =>
    intro seen hv j p h
    simp only [vSg, Bool.and_eq_true, Bool.not_eq_true'] at hv
    cases j with
    | zero => simp at h; subst h; simpa using ⟨hv.1.1, hv.1.2.1, hv.1.2.2⟩
    | succ j =>
      have := ih _ hv.2 j p (by simpa using h)
      simpa using this
theorem vS_at {σ : List (Int × Ty)} (hv : vS σ = true) {j : Nat} {p : Int × Ty} (h : σ[j]? = some p) : asgd (σ.take j) p.1 = false ∧ idOk p.1 = true ∧ valid p.2 = true := by
  simpa using vSg_at σ [] hv j p h
theorem look_at {σ : List (Int × Ty)} {j : Nat} {p : Int × Ty} (h : σ[j]? = some p) (ha : asgd (σ.take j) p.1 = false) : look σ p.1 = some p.2 := by
  have e : σ = σ.take j ++ p :: σ.drop (j + 1) := by
    obtain ⟨hl, e⟩ := List.getElem?_eq_some_iff.1 h
    rw [← e, ← List.drop_eq_getElem_cons hl, List.take_append_drop]
  conv => lhs; rw [e]
  rw [look_append, look_none ha, look_cons]
  simp
/-- Is every type as it is under the substitution? -/
def idS (σ : List (Int × Ty)) : Bool := σ.all fun p => teq (repl σ p.2) p.2
/-- The same, by the variables of what the variables become. -/
def idP (σ : List (Int × Ty)) : Bool := σ.all fun p => (varsOf [repl σ (cv p.1)]).all fun i => teq (repl σ (cv i)) (cv i)
theorem repl_at {σ : List (Int × Ty)} (hv : vS σ = true) {j : Nat} {p : Int × Ty} (h : σ[j]? = some p) : repl σ (cv p.1) = p.2 := by
  unfold cv
  rw [repl_one, look_at h (vS_at hv h).1]; rfl
theorem idP_idS {σ : List (Int × Ty)} (hv : vS σ = true) : idP σ = idS σ := by
  unfold idP idS
  rw [Bool.eq_iff_iff, List.all_eq_true, List.all_eq_true]
  refine forall_congr' fun p => forall_congr' fun hp => ?_
  obtain ⟨j, hj⟩ := List.mem_iff_getElem?.1 hp
  rw [repl_at hv hj, vars_all, fix_iff σ p.2 (vS_at hv hj).2.2]
theorem nk_ids (T : Ty) : valid T = true → ∀ U ∈ nk 1 T, 0 ≤ U.i ∧ U.i ≤ 1000000 := by
  refine Ty.induct (p := fun T => valid T = true → ∀ U ∈ nk 1 T, 0 ≤ U.i ∧ U.i ≤ 1000000) (fun T ih hv U hU => ?_) T
  obtain ⟨k, n, i, h, ts⟩ := T
  rw [nk] at hU
  rcases List.mem_append.1 hU with hU | hU
  · by_cases hk : k = 1
    · rw [if_pos hk] at hU
      simp at hU
      subst hU
      simp only [valid, hk, true_or, if_true, Bool.and_eq_true, idOk, decide_eq_true_eq] at hv
      exact hv.1.1.1
    · rw [if_neg hk] at hU; cases hU
  · rw [nkL_flat] at hU
    obtain ⟨V, hV, hU⟩ := List.mem_flatMap.1 hU
    exact ih V hV (valid_kids hv V hV) U hU
end Go.Proofs.Ytmjdddmfhakabaa

namespace Go.Proofs.Ytmjdddmfhakabaa
open Go.RowKit Go.Sort Go.Shelf Go.Maps Mth

def IdemAt (P : Program) (f : Nat) : Prop := ∀ (σ : List (Int × Ty)) (sv : Value) (w : World), σ.length ≤ 1000 → (∀ p ∈ σ, nodes p.2 ≤ 1000) → vS σ = true → AsL w (fun _ => True) σ sv →
  Calls P f #[sv] w fun e w' => e = .returned (.bool (idS σ)) ∧ RowKit.Below w.heap.size w w'
theorem all_step {α : Type} (q : α → Bool) {l : List α} {j : Nat} {p : α} (h : l[j]? = some p) : (l.drop j).all q = (q p && (l.drop (j + 1)).all q) := by
  obtain ⟨hl, e⟩ := List.getElem?_eq_some_iff.1 h
  rw [List.drop_eq_getElem_cons hl, e]; rfl
set_option maxRecDepth 100000 in
set_option maxHeartbeats 6400000 in
theorem refIdem_any : IdemAt Try.prog 24 := by
  intro σ sv w hl hnd hvs hs
  have HSA := Lib.hid hs
  have HND := Lib.hid hnd
  have HVS := Lib.hid hvs
  obtain ⟨a, cap, rfl, ⟨hc1, hc2⟩, hj⟩ := hs.bound
  have HJ := Lib.hid hj
  unfold maxLen at hc2
  have HH : Hid (∀ j i W, j ≤ σ.length → RowKit.Below w.heap.size w W → Calls Try.prog 35 #[.slice a j cap, .int .i64 i] W fun e W' => e = .returned (.bool (asgd (σ.take j) i)) ∧ W' = W) := fun j i W hj hb => refHas_any (σ.take j) i _ _ W (asL_take (HSA.out.lift hb) j hj)
  obtain ⟨m, hm⟩ : ∃ m, m = σ.length := ⟨_, rfl⟩
  rw [← hm] at hc1 hl HH HSA ⊢
  have HM := Lib.hid hm
  obtain ⟨q, hq⟩ : ∃ q, q = fun p : Int × Ty => teq (repl σ p.2) p.2 := ⟨_, rfl⟩
  have HQ : Hid (∀ p, q p = teq (repl σ p.2) p.2) := fun p => by rw [hq]
  have H0 : Hid (idS σ = (σ.drop 0).all q) := by show _ = _; rw [hq]; rfl
  clear hj hm hs hnd hvs hq
  go_enter Try.func24, Try.ntmps24
  go_wp2
  go_loopw [3] (fun x wr => ∃ j : Nat, j ≤ m ∧ x = .int .i64 j ∧ Hid (idS σ = (σ.drop j).all q) ∧ RowKit.Below w.heap.size w wr) (fun x _ => m - (intOf x).toNat)
  case atStart => exact ⟨0, Nat.zero_le _, rfl, H0, Below.refl _ _⟩
  case round =>
    clear H0
    obtain ⟨j, hj, rfl, HD, hlow⟩ := hrel
    by_cases hlt : j < m
    · obtain ⟨p, hp⟩ : ∃ x, σ[j]? = some x := ⟨_, List.getElem?_eq_getElem (by rw [← HM.out]; exact hlt)⟩
      obtain ⟨ad, k', n', i', h', s', rfl, hS, h6, hx⟩ := HJ.out j p hp
      have HSt := Lib.hid (all_step q hp)
      have ha := (vS_at HVS.out hp).1
      have hnp := HND.out p (List.mem_of_getElem? hp)
      obtain ⟨q0, q1, q2, q3, q4, q5⟩ := h6.up _ hlow
      obtain ⟨_, _, _, _, _, -, hv, hn2, hs2⟩ := hx.open
      simp at hv
      obtain ⟨rfl, rfl, rfl, rfl, rfl⟩ := hv
      obtain ⟨sa', sc', rfl, -⟩ := hs2
      have HX := Lib.hid (hx.lift hlow)
      clear h6 hx hS hn2 hp
      have hji : (j : Int) < (m : Int) := by omega
      have hjc : (j : Int) ≤ (cap : Int) := by omega
      generalize p.2.ts.length = sn' at *
      have HHs : Hid (∀ W', RowKit.Below wr.heap.size wr W' → Calls Try.prog 35 #[.slice (some ad) j cap, .int .i64 p.1] W' fun e w' => e = .returned (.bool false) ∧ RowKit.Below W'.heap.size W' w') := fun W' hb => ha ▸ (HH.out j p.1 W' hj (hlow.trans (hb.mono hlow.size))).mono fun e w' ⟨h1, h2⟩ => ⟨h1, h2 ▸ Below.refl _ _⟩
      have HAp : Hid (∀ W', RowKit.Below wr.heap.size wr W' → Calls Try.prog 16 #[.slice (some ad) m cap, .agg #[.int .i64 k', .string n', .int .i64 i', .int .i64 h', .slice sa' sn' sc']] W' fun e w' => ∃ u, e = .returned u ∧ Rep w' (fun _ => True) (repl σ p.2) u ∧ RowKit.Below W'.heap.size W' w') := fun W' hb => by
        have hb' := hlow.trans (hb.mono hlow.size)
        exact refApply_any σ p.2 _ _ (fun _ => True) (fun b => True ∧ b < w.heap.size) W' (by omega) (HSA.out.bound.lift hb') (fun _ h => ⟨trivial, Nat.lt_of_lt_of_le h.2 hb'.size⟩) (fun _ _ => trivial) ((HX.out.lift hb).imp fun _ _ => trivial)
      have HEq : Hid (∀ u W', RowKit.Below wr.heap.size wr W' → Rep W' (fun _ => True) (repl σ p.2) u → Calls Try.prog 14 #[u, .agg #[.int .i64 k', .string n', .int .i64 i', .int .i64 h', .slice sa' sn' sc']] W' fun e w' => e = .returned (.bool (q p)) ∧ RowKit.Below W'.heap.size W' w') := fun u W' hb h => by
        rw [HQ.out]
        exact refEqual_any _ _ (Nat.le_refl _) p.2 u _ _ _ W' h (HX.out.lift hb)
      clear ha
      cases hq : q p
      all_goals
        rw [hq] at HEq
        go_wp2_with fail
        go_region_held3 (fun w' => w'.cell? (ad.add (j * 6)) = some (.int .i64 p.1) ∧ w'.cell? ⟨(ad.add (j * 6)).block, (ad.add (j * 6)).off + 1, none⟩ = some (.int .i64 k') ∧ w'.cell? ⟨(ad.add (j * 6)).block, (ad.add (j * 6)).off + 2, none⟩ = some (.string n') ∧ w'.cell? ⟨(ad.add (j * 6)).block, (ad.add (j * 6)).off + 3, none⟩ = some (.int .i64 i') ∧ w'.cell? ⟨(ad.add (j * 6)).block, (ad.add (j * 6)).off + 4, none⟩ = some (.int .i64 h') ∧ w'.cell? ⟨(ad.add (j * 6)).block, (ad.add (j * 6)).off + 5, none⟩ = some (.slice sa' sn' sc') ∧ RowKit.Below wr.heap.size wr w')
          (first
            | (go_split_ands; exact keep6 (by assumption) (by assumption) (by assumption) (by assumption) (by assumption) (by assumption) (by assumption) hb)
            | exact ⟨q0, q1, q2, q3, q4, q5, (Below.refl _ wr).drew⟩)
          (first
            | (go_at_call 35; (with_reducible refine (HHs.out _ ?_).mono ?_); (go_split_ands; assumption); rintro e w' ⟨rfl, hb⟩)
            | (go_at_call 16; (with_reducible refine (HAp.out _ ?_).mono ?_); (go_split_ands; assumption); rintro e w' ⟨u, rfl, hp, hb⟩; have HP := Lib.hid hp; clear hp)
            | (go_at_call 14; (with_reducible refine (HEq.out u _ ?_ HP.out).mono ?_); (go_split_ands; assumption); rintro e w' ⟨rfl, hb⟩))
      all_goals
        go_split_ands
        have hbF : RowKit.Below wr.heap.size wr w' := by assumption
        have hlowF := hlow.trans (hbF.mono hlow.size)
        clear q0 q1 q2 q3 q4 q5
      all_goals first
        | (go_wp2; go_ret; exact ⟨by rw [HD.out, HSt.out, hq]; rfl, hlowF⟩)
        | (go_wp2; go_roundw; (case rel => exact ⟨j + 1, hlt, by go_num, by show _ = _; rw [HD.out, HSt.out, hq]; rfl, hlowF⟩); (case measure => simp [intOf]; omega))
    · have HF : Hid (idS σ = true) := by
        show _ = _
        rw [HD.out, List.drop_eq_nil_of_le (by rw [← HM.out]; omega)]; rfl
      go_wp2
      go_ret
      exact ⟨by rw [HF.out]; rfl, hlow⟩
set_option maxRecDepth 100000 in
set_option maxHeartbeats 6400000 in
theorem idem_any : IdemAt Try.prog 23 := by
  intro σ sv w hl hnd hvs hs
  have HSA := Lib.hid hs
  have HND := Lib.hid hnd
  have HVS := Lib.hid hvs
  rw [← idP_idS hvs]
  obtain ⟨a, cap, rfl, ⟨hc1, hc2⟩, hj⟩ := hs.bound
  have HJ := Lib.hid hj
  unfold maxLen at hc2
  have HV : Hid (∀ x w, Calls Try.prog 43 #[.int .i64 x] w fun e w' => e = .returned (.agg #[.int .i64 1, .string ⟨#[]⟩, .int .i64 x, .int .i64 0, .slice none 0 0]) ∧ RowKit.Below w.heap.size w w') := fun x w => pkVar_any x w
  have HAl : Hid (∀ (w : World) (o : Obj), RowKit.Below w.heap.size w (w.alloc o)) := fun w o => (Below.refl _ w).alloc (Nat.le_refl _) _
  obtain ⟨m, hm⟩ : ∃ m, m = σ.length := ⟨_, rfl⟩
  rw [← hm] at hc1 hl HSA ⊢
  have HM := Lib.hid hm
  have HA1 : Hid (∀ x W, RowKit.Below w.heap.size w W → _) := fun x W hb => apl_cv apply_any σ _ w HSA.out x W hb
  have HFx : Hid (∀ x W, RowKit.Below w.heap.size w W → _) := fun x W hb => fixes_any σ _ x W (HSA.out.lift hb)
  obtain ⟨g, hg⟩ : ∃ g, g = fun i : Int => teq (repl σ (cv i)) (cv i) := ⟨_, rfl⟩
  have HG : Hid (∀ i, g i = teq (repl σ (cv i)) (cv i)) := fun i => by rw [hg]
  obtain ⟨q, hq⟩ : ∃ q, q = fun p : Int × Ty => (varsOf [repl σ (cv p.1)]).all g := ⟨_, rfl⟩
  have HQ : Hid (∀ p, q p = (varsOf [repl σ (cv p.1)]).all g) := fun p => by rw [hq]
  have H0 : Hid (idP σ = (σ.drop 0).all q) := by show _ = _; rw [hq, hg]; rfl
  clear hj hm hs hnd hvs hq hg
  go_enter Try.func23, Try.ntmps23
  go_wp2
  go_loopw [9] (fun x wr => ∃ j : Nat, j ≤ m ∧ x = .int .i64 j ∧ Hid (idP σ = (σ.drop j).all q) ∧ RowKit.Below w.heap.size w wr) (fun x _ => m - (intOf x).toNat)
  case atStart => exact ⟨0, Nat.zero_le _, rfl, H0, Below.refl _ _⟩
  case round =>
    clear H0
    obtain ⟨j, hj, rfl, HD, hlow⟩ := hrel
    by_cases hlt : j < m
    · obtain ⟨p, hp⟩ : ∃ x, σ[j]? = some x := ⟨_, List.getElem?_eq_getElem (by rw [← HM.out]; exact hlt)⟩
      obtain ⟨ad, k', n', i', h', s', rfl, hS, h6, hx⟩ := HJ.out j p hp
      have HSt := Lib.hid (all_step q hp)
      have HNp : Hid (nodes (repl σ (cv p.1)) ≤ 1000) := by show _ ≤ _; rw [repl_at HVS.out hp]; exact HND.out p (List.mem_of_getElem? hp)
      have HVp : Hid (valid (repl σ (cv p.1)) = true) := by show _ = _; rw [repl_at HVS.out hp]; exact (vS_at HVS.out hp).2.2
      obtain ⟨q0, q1, q2, q3, q4, q5⟩ := h6.up _ hlow
      obtain ⟨_, _, _, _, _, -, hv, hn2, hs2⟩ := hx.open
      simp at hv
      obtain ⟨rfl, rfl, rfl, rfl, rfl⟩ := hv
      obtain ⟨sa', sc', rfl, -⟩ := hs2
      clear h6 hx hS hn2 hp
      have hji : (j : Int) < (m : Int) := by omega
      generalize p.2.ts.length = sn' at *
      go_upto_region 4 with fail
      have hlow1 := hlow.trans ((HAl.out wr (.cells #[.int .i64 p.1, .int .i64 k', .string n', .int .i64 i', .int .i64 h', .slice sa' sn' sc'] 43)).mono hlow.size)
      obtain ⟨r0, r1, r2, r3, r4, r5⟩ := (Box6.made wr (.int .i64 p.1) (.int .i64 k') (.string n') (.int .i64 i') (.int .i64 h') (.slice sa' sn' sc')).cells
      clear q0 q1 q2 q3 q4 q5 hlow
      generalize (wr.alloc (.cells #[.int .i64 p.1, .int .i64 k', .string n', .int .i64 i', .int .i64 h', .slice sa' sn' sc'] 43)) = W1 at *
      generalize wr.heap.size = B at *
      obtain ⟨vl, hvl⟩ : ∃ l, l = varsOf [repl σ (cv p.1)] := ⟨_, rfl⟩
      have HVl := Lib.hid hvl
      have hlen : vl.length ≤ 1000 := by
        rw [hvl]
        have h1 := ded_len ((nkL 1 [repl σ (cv p.1)]).map Ty.i) []
        have h2 := nkL_len 1 [repl σ (cv p.1)]
        have h3 := HNp.out
        simp only [nodesL, List.length_map, List.length_nil] at h1 h2
        show (varsOf _).length ≤ _
        unfold varsOf
        omega
      have HVr : Hid (∀ u W' Z, Rep W' (fun _ => True) (repl σ (cv p.1)) u → ∀ c0 c1 c2 c3 c4, u = .agg #[c0, c1, c2, c3, c4] → Calls Try.prog 48 #[.slice (some ⟨W'.heap.size, 0, none⟩) 1 1] (W'.alloc (.cells #[c0, c1, c2, c3, c4] Z)) fun e w' => ∃ v, e = .returned v ∧ Ints w' v vl ∧ RowKit.Below W'.heap.size W' w') := by
        rintro u W' Z hr c0 c1 c2 c3 c4 rfl
        have hl1 := HAl.out W' (.cells #[c0, c1, c2, c3, c4] Z)
        refine (vars_any [repl σ (cv p.1)] _ (fun _ => True) _ (by have := HNp.out; simp [nodesL]; omega) (fun T hT => ?_) ?_).mono ?_
        · have hn : nkL 1 [repl σ (cv p.1)] = nk 1 (repl σ (cv p.1)) := by simp [nkL]
          rw [hn] at hT
          exact nk_ids _ HVp.out T hT
        · refine ⟨_, 1, rfl, ⟨Nat.le_refl _, by unfold maxLen; decide⟩, fun i T hT => ?_⟩
          cases i with
          | zero => simp at hT; subst hT; exact ⟨_, _, rfl, trivial, one_new Z _ rfl, hr.lift hl1⟩
          | succ i => simp at hT
        · rintro e w' ⟨v, rfl, h1, h2⟩
          rw [hvl]
          exact ⟨v, rfl, h1, hl1.trans (h2.mono hl1.size)⟩
      clear hvl
      go_upto_region 5 with (first
        | (go_at_call 43; refine (HV.out _ _).mono ?_; rintro e w2 ⟨rfl, hb2⟩; have hlow2 := hlow1.trans (hb2.mono hlow1.size); clear hb2)
        | (go_at_call 15; refine (HA1.out p.1 _ hlow2).mono ?_; rintro e w3 ⟨u, rfl, hu, hb3⟩; have hlow3 := hlow2.trans (hb3.mono hlow2.size); obtain ⟨uk, un, ui, uh, ua, um, uc, rfl⟩ := hu.form; have HU := Lib.hid hu; clear hu hb3)
        | (go_at_call 48; refine (HVr.out _ _ _ HU.out _ _ _ _ _ rfl).mono ?_; rintro e w4 ⟨v, rfl, hin, hb4⟩; have hlow4 := hlow3.trans (hb4.mono hlow3.size); obtain ⟨ia, ic, rfl, hic, hic2, hij⟩ := hin; have HIJ := Lib.hid hij; clear hij hb4))
      have HQp : Hid (q p = vl.all g) := by show _ = _; rw [HQ.out, ← HVl.out]
      obtain ⟨n, hn⟩ : ∃ n, n = vl.length := ⟨_, rfl⟩
      rw [← hn] at hlen hic ⊢
      have HN := Lib.hid hn
      have HI0 : Hid (q p = (vl.drop 0).all g) := HQp.out
      clear hn HVr HU hlow1 hlow2 hlow3 r0 r1 r2 r3 r4 r5
      unfold maxLen at hic2
      go_wp2
      go_loopw [21] (fun y wr2 => ∃ i : Nat, i ≤ n ∧ y = .int .i64 i ∧ Hid (q p = (vl.drop i).all g) ∧ RowKit.Below w4.heap.size w4 wr2) (fun y _ => n - (intOf y).toNat)
      case atStart => exact ⟨0, Nat.zero_le _, rfl, HI0, Below.refl _ _⟩
      case round =>
        clear HI0
        obtain ⟨i, hi, rfl, HI, hbi⟩ := hrel
        have hlowi := hlow4.trans (hbi.mono hlow4.size)
        by_cases hlt2 : i < n
        · obtain ⟨x, hx⟩ : ∃ x, vl[i]? = some x := ⟨_, List.getElem?_eq_getElem (by rw [← HN.out]; exact hlt2)⟩
          obtain ⟨iad, rfl, hcx⟩ := HIJ.out i x hx
          have HSi := Lib.hid (all_step g hx)
          have hcx := (hbi.cell (World.block_lt_of_cell? _ _ hcx)).trans hcx
          have hin : (i : Int) < (n : Int) := by omega
          have HFx1 := Lib.hid (HFx.out x _ hlowi)
          clear hx
          cases hgx : g x with
          | false =>
            have HE : Hid (idP σ = false) := by show _ = _; rw [HD.out, HSt.out, HI.out, HSi.out, hgx]; rfl
            rw [← HG.out, hgx] at HFx1
            clear hgx
            go_wp2_with (go_at_call 49; refine HFx1.out.mono ?_; rintro e w5 ⟨rfl, hb5⟩)
            go_ret
            exact ⟨by rw [HE.out]; rfl, hlowi.trans (hb5.mono hlowi.size)⟩
          | true =>
            have HI2 : Hid (q p = (vl.drop (i + 1)).all g) := by show _ = _; rw [HI.out, HSi.out, hgx]; rfl
            rw [← HG.out, hgx] at HFx1
            clear hgx
            go_wp2_with (go_at_call 49; refine HFx1.out.mono ?_; rintro e w5 ⟨rfl, hb5⟩)
            go_roundw
            case rel => exact ⟨i + 1, hlt2, by go_num, HI2, hbi.trans (hb5.mono hbi.size)⟩
            case measure => simp [intOf]; omega
        · have HF : Hid (q p = true) := by
            show _ = _
            rw [HI.out, List.drop_eq_nil_of_le (by rw [← HN.out]; omega)]; rfl
          have HD2 : Hid (idP σ = (σ.drop (j + 1)).all q) := by show _ = _; rw [HD.out, HSt.out, HF.out]; rfl
          go_wp2
          go_roundw
          case rel => exact ⟨j + 1, hlt, by go_num, HD2, hlowi⟩
          case measure => simp [intOf]; omega
    · have HF : Hid (idP σ = true) := by
        show _ = _
        rw [HD.out, List.drop_eq_nil_of_le (by rw [← HM.out]; omega)]; rfl
      go_wp2
      go_ret
      exact ⟨by rw [HF.out]; rfl, hlow⟩
end Go.Proofs.Ytmjdddmfhakabaa

namespace Go.Proofs.Ytmjdddmfhakabaa
open Go.RowKit Go.Sort Go.Shelf Go.Maps Mth

set_option maxRecDepth 100000 in
set_option maxHeartbeats 6400000 in
theorem same_any (σ : List (Int × Ty)) (sv tv : Value) (w : World) (hs : AsL w (fun _ => True) σ sv) (ht : AsL w (fun _ => True) σ tv) :
    Calls Try.prog 12 #[sv, tv] w fun e w' => e = .returned (.bool true) ∧ RowKit.Below w.heap.size w w' := by
  obtain ⟨a, cap, rfl, ⟨hc1, hc2⟩, hj⟩ := hs.bound
  obtain ⟨b, cap', rfl, ⟨hd1, hd2⟩, hj'⟩ := ht.bound
  have HJ := Lib.hid hj
  have HJ' := Lib.hid hj'
  unfold maxLen at hc2 hd2
  obtain ⟨m, hm⟩ : ∃ m, m = σ.length := ⟨_, rfl⟩
  rw [← hm] at hc1 hd1 ⊢
  have HM := Lib.hid hm
  clear hj hj' hm hs ht
  go_enter Try.func12, Try.ntmps12
  go_wp2
  go_loopw [5] (fun x wr => ∃ j : Nat, j ≤ m ∧ x = .int .i64 j ∧ RowKit.Below w.heap.size w wr) (fun x _ => m - (intOf x).toNat)
  case atStart => exact ⟨0, Nat.zero_le _, rfl, Below.refl _ _⟩
  case round =>
    obtain ⟨j, hj, rfl, hlow⟩ := hrel
    by_cases hlt : j < m
    · obtain ⟨p, hp⟩ : ∃ x, σ[j]? = some x := ⟨_, List.getElem?_eq_getElem (by rw [← HM.out]; exact hlt)⟩
      obtain ⟨ad, k', n', i', h', s', rfl, hS, h6, hx⟩ := HJ.out j p hp
      obtain ⟨bd, l', o', u', v', t', rfl, hS', g6, hy⟩ := HJ'.out j p hp
      obtain ⟨q0, q1, q2, q3, q4, q5⟩ := h6.up _ hlow
      obtain ⟨r0, r1, r2, r3, r4, r5⟩ := g6.up _ hlow
      obtain ⟨_, _, _, _, _, -, hv, hn2, hs2⟩ := hx.open
      simp at hv
      obtain ⟨rfl, rfl, rfl, rfl, rfl⟩ := hv
      obtain ⟨sa', sc', rfl, -⟩ := hs2
      obtain ⟨_, _, _, _, _, -, hv2, hn3, hs3⟩ := hy.open
      simp at hv2
      obtain ⟨rfl, rfl, rfl, rfl, rfl⟩ := hv2
      obtain ⟨ta', tc', rfl, -⟩ := hs3
      have HX := Lib.hid (hx.lift hlow)
      have HY := Lib.hid (hy.lift hlow)
      clear h6 g6 hx hy hS hS' hn2 hn3 hp
      have hji : (j : Int) < (m : Int) := by omega
      generalize p.2.ts.length = sn' at *
      have HEq : Hid (∀ W', RowKit.Below wr.heap.size wr W' → Calls Try.prog 14 #[.agg #[.int .i64 k', .string n', .int .i64 i', .int .i64 h', .slice sa' sn' sc'], .agg #[.int .i64 l', .string o', .int .i64 u', .int .i64 v', .slice ta' sn' tc']] W' fun e w' => e = .returned (.bool true) ∧ RowKit.Below W'.heap.size W' w') := fun W' hb => by
        have := refEqual_any _ p.2 (Nat.le_refl _) p.2 _ _ _ _ W' (HX.out.lift hb) (HY.out.lift hb)
        rwa [teq_id] at this
      have G0 := cell_regrown q0
      have G1 := cell_regrown q1
      have G2 := cell_regrown q2
      have G3 := cell_regrown q3
      have G4 := cell_regrown q4
      have G5 := cell_regrown q5
      have K0 := cell_regrown r0
      have K1 := cell_regrown r1
      have K2 := cell_regrown r2
      have K3 := cell_regrown r3
      have K4 := cell_regrown r4
      have K5 := cell_regrown r5
      go_wp2_with fail
      refine wp_region_quiet_below (by kernel_rfl) (by kernel_rfl) ?_
      repeat (first | go_big_quiet_step ((go_at_call 14; exact Calls.regrown_of (HEq.out _ (below_regrown _ _ _)))) | quiet_step ((go_at_call 14; exact Calls.regrown_of (HEq.out _ (below_regrown _ _ _)))))
      refine wpQuiet_nil ?_
      intro _ hw'
      obtain ⟨⟨dq, osq⟩, hw''⟩ := hw'
      subst hw''
      have hlowF := hlow.trans ((below_regrown wr dq osq).mono hlow.size)
      clear q0 q1 q2 q3 q4 q5 G0 G1 G2 G3 G4 G5 r0 r1 r2 r3 r4 r5 K0 K1 K2 K3 K4 K5
      go_wp2
      go_roundw
      case rel => exact ⟨j + 1, hlt, by go_num, hlowF⟩
      case measure => simp [intOf]; omega
    · go_wp2
      go_ret
      exact ⟨rfl, hlow⟩
end Go.Proofs.Ytmjdddmfhakabaa

namespace Go.Proofs.Ytmjdddmfhakabaa
open Go.RowKit Go.Sort Go.Shelf Go.Maps Mth

/-- What a made substitution is. -/
def OkS (n : Nat) (σ : List (Int × Ty)) : Prop := σ.length ≤ n ∧ ∀ p ∈ σ, 0 ≤ p.1 ∧ p.1 < (n : Int) ∧ Ok 1 p.2
/-- What the maker's loop holds. -/
structure SuSt (w : World) (b : Nat) (sv : Value) (xs : List (Int × Ty)) (v : World) : Prop where
  tp : Tq v b
  row : RowG AsE v w.heap.size (fun c => w.heap.size ≤ c) sv xs
  grown : w.grownBy v (some b)
theorem SuSt.call {w v v' : World} {b : Nat} {sv : Value} {xs : List (Int × Ty)} (hb : b < w.heap.size) (h : SuSt w b sv xs v) (ht : Tq v' b) (hg : v.grownBy v' (some b)) : SuSt w b sv xs v' :=
  ⟨ht, h.row.kept hg (h.row.off hb) (fun c hc e => by have := Option.some.inj e; omega), grown_trans h.grown hg⟩
theorem SuSt.lift {w v v' : World} {b : Nat} {sv : Value} {xs : List (Int × Ty)} (h : SuSt w b sv xs v) (hl : RowKit.Below v.heap.size v v') : SuSt w b sv xs v' :=
  ⟨h.tp.lift hl, h.row.lift hl, grown_trans h.grown (grown_of_below hl _)⟩
theorem SuSt.push {w v v' : World} {b : Nat} {sv sv' : Value} {xs xs' : List (Int × Ty)} (hb : b < w.heap.size) (h : SuSt w b sv xs v) (hr : RowG AsE v' w.heap.size (fun c => w.heap.size ≤ c) sv' xs') (hg : v.grownBy v' sv.ownBlock) : SuSt w b sv' xs' v' := by
  refine ⟨?_, hr, grown_fresh h.grown hg fun i hi => (h.row.lt i hi).1⟩
  cases ho : sv.ownBlock with
  | none => rw [ho] at hg; exact h.tp.lift ⟨hg.os, hg.tape, hg.output, hg.size, fun i hi => hg.block i hi (by simp)⟩
  | some R => rw [ho] at hg; exact h.tp.other (by have := (h.row.lt R ho).1; omega) hg
def rigT : Ty := .mk 3 ⟨#[]⟩ 0 (-1) []
set_option maxRecDepth 100000 in
set_option maxHeartbeats 6400000 in
theorem mkSubst_any (n : Nat) (hn : n ≤ 100) (hL : LeafL ((List.range (n + 1)).map varTy ++ [rigT])) (ds : List Dat) (dv : Value) (b : Nat) (w : World) (hds : Some_ ds) (hsd : SlG DatE w (fun c => c ≠ b) ds dv) (ht : Tq w b) :
    Calls Try.prog 17 #[.pointer (some ⟨b, 0, none⟩), dv, .int .i64 n] w fun e w' => ∃ u σ, e = .returned u ∧ SuSt w b u σ w' ∧ OkS n σ := by
  have hblt := ht.lt
  have HN := Lib.hid (fun v h => next_q 3 (by decide) (by decide) b v h)
  have HVs := Lib.hid (fun w => mkVars_any (n + 1) (by omega) w)
  have HRg := Lib.hid (fun w => refRigid_any (-1) 0 w)
  have HMk := Lib.hid (mkType_any 1)
  have HDS := Lib.hid hds
  have HL := Lib.hid hL
  obtain ⟨da, dc, rfl⟩ := slG_form hsd
  have HD : Hid (∀ v, w.grownBy v (some b) → SlG DatE v (fun c => c ≠ b) ds (.slice da ds.length dc)) := fun v hg => hsd.kept (fun _ h => h) (fun c hc hlt => hg.block c hlt (fun e => hc (Option.some.inj e)))
  have HAl : Hid (∀ (w : World) (o : Obj), RowKit.Below w.heap.size w (w.alloc o)) := fun w o => (Below.refl _ w).alloc (Nat.le_refl _) _
  have H0 : Hid (SuSt w b (.slice none 0 0) [] w ∧ ([] : List (Int × Ty)).length ≤ 0 ∧ ∀ p ∈ ([] : List (Int × Ty)), 0 ≤ p.1 ∧ p.1 < (n : Int) ∧ Ok 1 p.2) := ⟨⟨ht, rowG_nil _ _ _ _, grown_of_below (Below.refl _ _) _⟩, Nat.le_refl _, fun p hp => by cases hp⟩
  clear hds hsd ht hL
  generalize ds.length = dn at *
  go_enter Try.func17, Try.ntmps17
  go_wp2
  go_loopw [7, 8] (fun y x wr => ∃ (j : Nat) (xs : List (Int × Ty)) (sj : Value), j ≤ n ∧ x = .int .i64 j ∧ sj = y ∧ Hid (SuSt w b sj xs wr ∧ xs.length ≤ j ∧ ∀ p ∈ xs, 0 ≤ p.1 ∧ p.1 < (n : Int) ∧ Ok 1 p.2)) (fun _ x _ => n - (intOf x).toNat)
  case atStart => exact ⟨0, [], _, Nat.zero_le _, rfl, rfl, H0⟩
  case round =>
    clear H0
    obtain ⟨j, xs, sj, hj, rfl, rfl, HIn⟩ := hrel
    by_cases hlt : j < n
    · have hji : (j : Int) < (n : Int) := by omega
      obtain ⟨ja, jc, rfl, -, -⟩ := HIn.out.1.row.slice
      have HLn := Lib.hid HIn.out.2.1
      have HOk := Lib.hid HIn.out.2.2
      have HSt0 := Lib.hid HIn.out.1
      clear HIn
      go_wp2_with fail
      go_at_call 39
      refine (HN.out _ HSt0.out.tp).mono ?_
      rintro e w1 ⟨r, rfl, hr3, ht1, hg1⟩
      have HSt1 := Lib.hid (HSt0.out.call hblt ht1 hg1)
      clear ht1 hg1
      by_cases hr : r = 0
      · subst hr
        go_wp2
        go_roundw
        case rel => exact ⟨j + 1, xs, _, hlt, by go_num, rfl, HSt1.out, Nat.le_succ_of_le HLn.out, HOk.out⟩
        case measure => simp [intOf]; omega
      · have hr0 : (0 : Int) < (r : Int) := by omega
        have hn1 : ((n : Int) + 1) = ((n + 1 : Nat) : Int) := by omega
        have HVs1 := HVs.out w1
        rw [← hn1] at HVs1
        have HVs2 := Lib.hid HVs1
        clear HVs1 hn1
        go_wp2_with fail
        go_at_call 40
        refine HVs2.out.mono ?_
        rintro e w2 ⟨v2, rfl, hrow2, hb2⟩
        have HRw2 := Lib.hid hrow2
        have HSt2 := Lib.hid (HSt1.out.lift hb2)
        have HB2 := Lib.hid hb2
        clear hrow2 hb2 HVs2
        go_wp2_with fail
        go_at_call 41
        refine (HRg.out w2).mono ?_
        rintro e w3 ⟨rfl, hb3⟩
        have HRw3 := Lib.hid (HRw2.out.lift hb3)
        have HSt3 := Lib.hid (HSt2.out.lift hb3)
        have HB3 := Lib.hid (HB2.out.trans (hb3.mono HB2.out.size))
        clear hb3 HRw2 HB2
        have hs3 := HB3.out.size
        have HA3 : Hid (∀ X Z, RowKit.Below w3.heap.size w3 (w3.alloc (.cells X Z))) := fun X Z => HAl.out _ _
        have HE : Hid (∀ W S, TyE.rep W S rigT [.int .i64 3, .string ⟨#[]⟩, .int .i64 0, .int .i64 (-1), .slice none 0 0]) := fun W S => rep_leaf W S 3 ⟨#[]⟩ 0 (-1) (Nat.zero_le _)
        unfold leafV
        go_wp2_with (at_builtin; refine wpList_pushG TyE rfl _ _ rfl w1.heap.size (fun c => w1.heap.size ≤ c) v2 _ rfl (HRw3.out.lift (HA3.out _ _)) w3.heap.size _ [.int .i64 3, .string ⟨#[]⟩, .int .i64 0, .int .i64 (-1), .slice none 0 0] (heap_alloc_new w3 _) rfl rigT (HE.out _ _) (n + 2) (by simp) (by omega) (Nat.le_trans hs3 (HA3.out _ _).size) ?_; intro a4 c4 w4 hrow4 hg4; have HRw4 := Lib.hid hrow4; have HB4 : Hid (RowKit.Below w1.heap.size w1 w4) := Below.grown (HB3.out.trans ((HA3.out _ _).mono hs3)) hg4 (Nat.le_trans hs3 (HA3.out _ _).size) (fun k hk => (HRw3.out.lt k hk).1); clear hrow4 hg4)
        go_at_call 32
        have HSt4 := Lib.hid (HSt1.out.lift HB4.out)
        have hw1 : w.heap.size ≤ w1.heap.size := HSt1.out.grown.size
        refine (HMk.out 1 ds _ ((List.range (n + 1)).map varTy ++ [rigT]) _ (fun c => c ≠ b) b w4.heap.size w4 rfl (by decide) HDS.out HL.out (HD.out _ HSt4.out.grown) (HRw4.out.slG (fun c hc => by omega) (fun c hc => by omega)) (fun c hc => hc) HSt4.out.tp (Nat.le_refl _)).mono ?_
        rintro e w5 ⟨u, rfl, T, hrep, hok, htq, hg5⟩
        have HSt5 := Lib.hid (HSt4.out.call hblt htq hg5)
        have HTok := Lib.hid hok
        have HX5 : Hid (Rep w5 (fun c => w.heap.size ≤ c ∧ some c ≠ (Value.slice ja xs.length jc).ownBlock) T u) := hrep.imp fun c hc => ⟨Nat.le_trans HSt4.out.grown.size hc, fun e => by have := (HSt4.out.row.lt c e.symm).2; omega⟩
        obtain ⟨uk, un, ui, uh, ua, um, uc, rfl⟩ := hrep.form
        clear hrep hok htq hg5 HRw4 HB4 HRw3 HB3 hs3
        have hxb : xs.length + 1 ≤ 1000000 := by have := HLn.out; omega
        go_wp2_with (at_builtin; refine wpList_pushAs HSt5.out.row HX5.out rfl _ _ rfl rfl _ rfl rfl (xs.length + 1) rfl hxb HSt5.out.grown.size ?_; intro a6 c6 w6 hrow6 hg6; have HSt6 := Lib.hid (HSt5.out.push hblt hrow6 hg6); clear hrow6 hg6)
        go_roundw
        case rel =>
          refine ⟨j + 1, xs ++ [((j : Int), T)], _, hlt, by go_num, rfl, HSt6.out, by simp; exact HLn.out, fun p hp => ?_⟩
          rcases List.mem_append.1 hp with h | h
          · exact HOk.out p h
          · simp at h; subst h; exact ⟨by simp, hji, HTok.out⟩
        case measure => simp [intOf]; omega
    · obtain rfl : j = n := by omega
      have HIn' := Lib.hid HIn.out
      clear HIn
      go_wp2
      go_ret
      exact ⟨_, xs, rfl, HIn'.out.1, HIn'.out.2.1, HIn'.out.2.2⟩
end Go.Proofs.Ytmjdddmfhakabaa

namespace Go.Proofs.Ytmjdddmfhakabaa
open Go.RowKit Go.Sort Go.Shelf Go.Maps Mth

theorem leaf4 : LeafL ((List.range (4 + 1)).map varTy ++ [rigT]) := leaf_all _ (by decide) (by decide +kernel)
/-- A slice without address has no room. -/
def NilOk (v : Value) : Prop := ∀ n c, v = .slice none n c → c = 0
theorem nilOk {α : Type} {E : El α} {w : World} {base : Nat} {S : Nat → Prop} {v : Value} {xs : List α} (h : RowG E w base S v xs) : NilOk v := by
  intro n c e
  obtain ⟨L, hown, -⟩ := h
  rcases hown.2 with ⟨rfl, h0⟩ | ⟨g, cap, cur, rfl, _⟩
  · cases e; rfl
  · cases e
/-- A tape, and what was made so far. -/
structure MdSt (w : World) (b : Nat) (v : World) : Prop where
  tp : Tq v b
  zero : Zero v w.heap.size
  low : RowKit.Below w.heap.size w v
theorem MdSt.call {w v v' : World} {b : Nat} (hb : b = w.heap.size + 1) (h : MdSt w b v) (ht : Tq v' b) (hg : v.grownBy v' (some b)) : MdSt w b v' :=
  ⟨ht, Box.grown h.zero hg (by intro e; have := Option.some.inj e; omega), Below.grown h.low hg h.low.size (fun k hk => by cases hk; omega)⟩
theorem MdSt.lift {w v v' : World} {b : Nat} (h : MdSt w b v) (hl : RowKit.Below v.heap.size v v') : MdSt w b v' := ⟨h.tp.lift hl, Box.lift h.zero hl, h.low.trans (hl.mono h.low.size)⟩
set_option maxRecDepth 100000 in
set_option maxHeartbeats 6400000 in
theorem made13x_any (bits : Int) (cv : Value) (zs : List Int) (w : World) (hz : zs.length ≤ 1000) (h : Ints w cv zs) :
    Calls Try.prog 10 #[.int .i64 bits, cv] w fun e w' => ∃ (b : Nat) (σ τ : List (Int × Ty)) (T : Ty) (u1 u2 u3 : Value), e = .returned (.tuple #[u1, u2, u3, .pointer (some ⟨b, 0, none⟩)]) ∧ w.heap.size ≤ b ∧ SlG AsE w' (fun c => b < c) σ u1 ∧ SlG AsE w' (fun c => b < c) τ u2 ∧ Rep w' (fun c => b < c) T u3 ∧ OkS 4 σ ∧ OkS 4 τ ∧ Ok 3 T ∧ Tq w' b ∧ RowKit.Below w.heap.size w w' ∧ NilOk u1 ∧ NilOk u2 := by
  obtain ⟨ca, cc, rfl, hc1, hc2, hc⟩ := h
  have HC := Lib.hid hc
  have HD := Lib.hid (fun w => datas_any bits w)
  have HLv := Lib.hid (fun w => mkLeaves_any w)
  have HMk := Lib.hid (mkType_any 3)
  have HSb := Lib.hid (mkSubst_any 4 (by decide) leaf4)
  obtain ⟨W, hW⟩ : ∃ W, W = ((w.alloc (.cells #[.int .i64 0, .string ⟨#[]⟩, .int .i64 0, .int .i64 0, .slice none 0 0] 28)).alloc (.cells #[.slice ca zs.length cc, .int .i64 0] 55)) := ⟨_, rfl⟩
  obtain ⟨b, hb⟩ : ∃ b, b = w.heap.size + 1 := ⟨_, rfl⟩
  have HBe := Lib.hid hb
  have HM0 : Hid (MdSt w b W) := by
    have hb0 : RowKit.Below w.heap.size w W := by subst hW; exact ((Below.refl _ w).alloc (Nat.le_refl _) _).alloc (by simp) _
    refine ⟨?_, ?_, hb0⟩
    · refine ⟨zs, ca, cc, 0, ?_, Nat.zero_le _, hz, fun j x hx => ?_⟩
      · subst hW; unfold TapeAt; rw [heap_at, if_pos (by simp; exact hb)]; rfl
      · obtain ⟨ad, rfl, hcell⟩ := HC.out j x hx
        have hl := World.block_lt_of_cell? _ _ hcell
        refine ⟨ad, rfl, by rw [add_block] at hl; omega, ?_⟩
        rw [hb0.cell hl]; exact hcell
    · show Box _ _ _ _ _ _ _
      subst hW
      unfold Box; rw [heap_at, if_neg (by simp), heap_at, if_pos rfl]
  have hbW : b < W.heap.size := HM0.out.tp.lt
  clear hc HC
  generalize zs.length = zn at *
  go_enter Try.func10, Try.ntmps10
  go_upto_region 2 with fail
  rw [← hW, ← hb]
  clear hW hb
  go_wp2_with fail
  go_at_call 18
  refine (HD.out _).mono ?_
  rintro e w1 ⟨ds, dv, rfl, hds, hsd, hb1⟩
  have HM1 := Lib.hid (HM0.out.lift hb1)
  have HS1 := Lib.hid (HSb.out ds dv b w1 hds (hsd.kept (S' := fun c => c ≠ b) (fun c hc => by omega) (fun _ _ _ => rfl)) HM1.out.tp)
  obtain ⟨da, dc, rfl⟩ := slG_form hsd
  have h1 : b < w1.heap.size := HM1.out.tp.lt
  clear hds hsd hb1 HM0
  generalize ds.length = dn at *
  go_wp2_with fail
  go_at_call 17
  refine HS1.out.mono ?_
  rintro e w2 ⟨u1, σ, rfl, hsu, hok1⟩
  have HM2 := Lib.hid (HM1.out.call HBe.out hsu.tp hsu.grown)
  have HU1 : Hid (SlG AsE w2 (fun c => b < c) σ u1) := hsu.row.slG (fun c hc => by omega) (fun c hc => by omega)
  have HO1 := Lib.hid hok1
  have hnl := nilOk hsu.row
  obtain ⟨u1a, u1c, rfl, -, -⟩ := hsu.row.slice
  have HNl1 : Hid (u1a = none → u1c = 0) := fun e => by subst e; exact hnl _ _ rfl
  clear hnl
  clear hsu hok1 HS1 HM1
  go_wp2_with fail
  go_at_call 18
  refine (HD.out _).mono ?_
  rintro e w3 ⟨ds', dv', rfl, hds, hsd, hb3⟩
  have HM3 := Lib.hid (HM2.out.lift hb3)
  have HU13 : Hid (SlG AsE w3 (fun c => b < c) σ (.slice u1a σ.length u1c)) := SlG.kept (fun _ h => h) (fun c _ hl => hb3.block c hl) HU1.out
  have h2 : b < w2.heap.size := HM2.out.tp.lt
  have HS2 := Lib.hid (HSb.out ds' dv' b w3 hds (hsd.kept (S' := fun c => c ≠ b) (fun c hc => by omega) (fun _ _ _ => rfl)) HM3.out.tp)
  obtain ⟨da', dc', rfl⟩ := slG_form hsd
  have h3 : b < w3.heap.size := HM3.out.tp.lt
  clear hds hsd hb3 HM2 HU1
  generalize ds'.length = dn' at *
  go_wp2_with fail
  go_at_call 17
  refine HS2.out.mono ?_
  rintro e w4 ⟨u2, τ, rfl, hsu, hok2⟩
  have HM4 := Lib.hid (HM3.out.call HBe.out hsu.tp hsu.grown)
  have hg34 := (fun (c : Nat) (hc : b < c) (hl : c < w3.heap.size) => hsu.grown.block c hl (by intro e; have := Option.some.inj e; omega))
  have HU14 : Hid (SlG AsE w4 (fun c => b < c) σ (.slice u1a σ.length u1c)) := SlG.kept (fun _ h => h) hg34 HU13.out
  have HU2 : Hid (SlG AsE w4 (fun c => b < c) τ u2) := hsu.row.slG (fun c hc => by omega) (fun c hc => by omega)
  have HO2 := Lib.hid hok2
  have hnl := nilOk hsu.row
  obtain ⟨u2a, u2c, rfl, -, -⟩ := hsu.row.slice
  have HNl2 : Hid (u2a = none → u2c = 0) := fun e => by subst e; exact hnl _ _ rfl
  clear hnl
  clear hsu hok2 HS2 HM3 HU13 hg34
  go_wp2_with fail
  go_at_call 18
  refine (HD.out _).mono ?_
  rintro e w5 ⟨ds3, dv3, rfl, hds, hsd, hb5⟩
  have HM5 := Lib.hid (HM4.out.lift hb5)
  have HDs := Lib.hid hds
  have h4 : b < w4.heap.size := HM4.out.tp.lt
  have HSd : Hid (SlG DatE w5 (fun c => c ≠ b) ds3 dv3) := hsd.kept (S' := fun c => c ≠ b) (fun c hc => by omega) (fun _ _ _ => rfl)
  obtain ⟨da3, dc3, rfl⟩ := slG_form hsd
  have h5 : b < w5.heap.size := HM5.out.tp.lt
  have HB45 := Lib.hid hb5
  clear hds hsd hb5
  generalize ds3.length = dn3 at *
  go_wp2_with fail
  go_at_call 33
  refine (HLv.out _).mono ?_
  rintro e w6 ⟨lv, rfl, hrow, hb6⟩
  have HM6 := Lib.hid (HM5.out.lift hb6)
  have HSd6 : Hid (SlG DatE w6 (fun c => c ≠ b) ds3 (.slice da3 dn3 dc3)) := SlG.kept (fun _ h => h) (fun c _ hl => hb6.block c hl) HSd.out
  have HLs : Hid (SlG TyE w6 (fun c => c ≠ b) leavesL lv) := RowG.slG hrow (fun c hc => by omega) (fun c hc => by omega)
  have HB46 := Lib.hid (HB45.out.trans (hb6.mono HB45.out.size))
  obtain ⟨la, lc, rfl, -, -⟩ := hrow.slice
  clear hrow hb6 HSd HM5 HB45
  generalize leavesL.length = ln at *
  go_wp2_with fail
  go_at_call 32
  have h6 : b < w6.heap.size := HM6.out.tp.lt
  refine (HMk.out 3 ds3 _ leavesL _ (fun c => c ≠ b) b w6.heap.size w6 rfl (by decide) HDs.out leavesL_ok HSd6.out HLs.out (fun c hc => hc) HM6.out.tp (Nat.le_refl _)).mono ?_
  rintro e w7 ⟨u3, rfl, T, hrep, hok, htq, hg7⟩
  have HM7 := Lib.hid (HM6.out.call HBe.out htq hg7)
  have hg47 := (fun (c : Nat) (hc : b < c) (hl : c < w4.heap.size) => (hg7.block c (Nat.lt_of_lt_of_le hl HB46.out.size) (by intro e; have := Option.some.inj e; omega)).trans (HB46.out.block c hl))
  have HU17 : Hid (SlG AsE w7 (fun c => b < c) σ (.slice u1a σ.length u1c)) := SlG.kept (fun _ h => h) hg47 HU14.out
  have HU27 : Hid (SlG AsE w7 (fun c => b < c) τ (.slice u2a τ.length u2c)) := SlG.kept (fun _ h => h) hg47 HU2.out
  have HR7 : Hid (Rep w7 (fun c => b < c) T u3) := hrep.imp fun c hc => by omega
  have HO3 := Lib.hid hok
  obtain ⟨uk, un, ui, uh, ua, um, uc, rfl⟩ := hrep.form
  clear hrep hok htq hg7 hg47 HU14 HU2 HSd6 HLs HM6 HM4 HB46 HDs HMk HSb HLv HD
  have HO1l := Lib.hid (show OkS 4 σ from HO1.out)
  obtain ⟨n1, hn1⟩ : ∃ n, n = σ.length := ⟨_, rfl⟩
  obtain ⟨n2, hn2⟩ : ∃ n, n = τ.length := ⟨_, rfl⟩
  rw [← hn1] at HU17 ⊢
  rw [← hn2] at HU27 ⊢
  clear hn1 hn2
  go_wp2_with (refine wpList_store5 rfl _ _ rfl _ _ _ _ _ _ HM7.out.zero rfl _ _ _ _ _ _ _ rfl ?_; intro w8 hB8 hg8 hs8)
  obtain ⟨c0, c1, c2, c3, c4⟩ := hB8.cells
  have hgb := (fun (c : Nat) (hc : b < c) (hl : c < w7.heap.size) => hg8.block c hl (by intro e; have := Option.some.inj e; have := HBe.out; omega))
  refine bodyPost_ret (v := .tuple #[.slice u1a n1 u1c, .slice u2a n2 u2c, .agg #[.int .i64 uk, .string un, .int .i64 ui, .int .i64 uh, .slice ua um uc], .pointer (some ⟨b, 0, none⟩)]) (by simp [results, Try.results10, go_sem, c0, c1, c2, c3, c4]; try rfl) rfl ?_
  exact ⟨b, σ, τ, T, _, _, _, rfl, by have := HBe.out; omega, SlG.kept (fun _ h => h) hgb HU17.out, SlG.kept (fun _ h => h) hgb HU27.out, HR7.out.kept (fun _ h => h) hgb, HO1.out, HO2.out, HO3.out, HM7.out.tp.under HBe.out.symm hg8, Below.grown HM7.out.low hg8 HM7.out.low.size (fun k hk => by cases hk; exact Nat.le_refl _), fun n c e => by cases e; exact HNl1.out rfl, fun n c e => by cases e; exact HNl2.out rfl⟩
theorem made13_any (bits : Int) (cv : Value) (zs : List Int) (w : World) (hz : zs.length ≤ 1000) (h : Ints w cv zs) :
    Calls Try.prog 10 #[.int .i64 bits, cv] w fun e w' => ∃ (b : Nat) (σ τ : List (Int × Ty)) (T : Ty) (u1 u2 u3 : Value), e = .returned (.tuple #[u1, u2, u3, .pointer (some ⟨b, 0, none⟩)]) ∧ w.heap.size ≤ b ∧ SlG AsE w' (fun c => b < c) σ u1 ∧ SlG AsE w' (fun c => b < c) τ u2 ∧ Rep w' (fun c => b < c) T u3 ∧ OkS 4 σ ∧ OkS 4 τ ∧ Ok 3 T ∧ Tq w' b ∧ RowKit.Below w.heap.size w w' :=
  (made13x_any bits cv zs w hz h).mono fun _ _ ⟨b, σ, τ, T, u1, u2, u3, h1, h2, h3, h4, h5, h6, h7, h8, h9, h10, _, _⟩ => ⟨b, σ, τ, T, u1, u2, u3, h1, h2, h3, h4, h5, h6, h7, h8, h9, h10⟩
end Go.Proofs.Ytmjdddmfhakabaa

namespace Go.Proofs.Ytmjdddmfhakabaa
open Go.RowKit Go.Sort Go.Shelf Go.Maps Mth

def listN : ByteArray := ⟨#[76, 105, 115, 116]⟩
def sg0 : List (Int × Ty) := [(0, con listN [cv 1])]
def tu0 : List (Int × Ty) := [(1, con intN [])]
theorem listN_ok : listN.size ≤ maxLen := by unfold maxLen; decide +kernel
theorem cmp0 : cmpS sg0 tu0 = [(0, con listN [con intN []]), (1, con intN [])] := by rfl
/-- One type, just laid. -/
theorem one_list {w : World} {T : Ty} {c0 c1 c2 c3 c4 : Value} (Z : TypeId) (h : Rep w (fun _ => True) T (.agg #[c0, c1, c2, c3, c4])) : RepL (w.alloc (.cells #[c0, c1, c2, c3, c4] Z)) (fun _ => True) [T] (.slice (some ⟨w.heap.size, 0, none⟩) 1 1) := by
  refine ⟨_, 1, rfl, ⟨Nat.le_refl _, by unfold maxLen; decide⟩, fun i U hU => ?_⟩
  cases i with
  | zero => simp at hU; subst hU; exact ⟨_, _, rfl, trivial, one_new Z _ rfl, h.lift ((Below.refl _ w).alloc (Nat.le_refl _) _)⟩
  | succ i => simp at hU
/-- One assignment, just laid. -/
theorem one_as {w : World} {i : Int} {T : Ty} {k : Int} {n : ByteArray} {i' h : Int} {s : Value} (Z : TypeId) (hr : Rep w (fun _ => True) T (.agg #[.int .i64 k, .string n, .int .i64 i', .int .i64 h, s])) : AsL (w.alloc (.cells #[.int .i64 i, .int .i64 k, .string n, .int .i64 i', .int .i64 h, s] Z)) (fun _ => True) [(i, T)] (.slice (some ⟨w.heap.size, 0, none⟩) 1 1) := by
  refine ⟨_, 1, rfl, ⟨Nat.le_refl _, by unfold maxLen; decide⟩, fun j p hp => ?_⟩
  cases j with
  | zero =>
    simp at hp; subst hp
    refine ⟨_, k, n, i', h, s, rfl, trivial, ?_, hr.lift ((Below.refl _ w).alloc (Nat.le_refl _) _)⟩
    exact ⟨by simp [Addr.add], by simp [Addr.add], by simp [Addr.add], by simp [Addr.add], by simp [Addr.add], by simp [Addr.add]⟩
  | succ j => simp at hp
theorem keep7 {W w1 w2 : World} {p0 p1 p2 p3 p4 p5 p6 : Addr} {a0 a1 a2 a3 a4 a5 a6 : Value} (h0 : w1.cell? p0 = some a0) (h1 : w1.cell? p1 = some a1) (h2 : w1.cell? p2 = some a2) (h3 : w1.cell? p3 = some a3) (h4 : w1.cell? p4 = some a4) (h5 : w1.cell? p5 = some a5) (h6 : w1.cell? p6 = some a6) (hW : RowKit.Below W.heap.size W w1) (hb : RowKit.Below w1.heap.size w1 w2) :
    w2.cell? p0 = some a0 ∧ w2.cell? p1 = some a1 ∧ w2.cell? p2 = some a2 ∧ w2.cell? p3 = some a3 ∧ w2.cell? p4 = some a4 ∧ w2.cell? p5 = some a5 ∧ w2.cell? p6 = some a6 ∧ RowKit.Below W.heap.size W w2 := by
  have k : ∀ p v, w1.cell? p = some v → w2.cell? p = some v := fun p v h => (hb.cell (World.block_lt_of_cell? _ _ h)).trans h
  exact ⟨k _ _ h0, k _ _ h1, k _ _ h2, k _ _ h3, k _ _ h4, k _ _ h5, k _ _ h6, hW.trans (hb.mono hW.size)⟩
theorem add0 (a : Addr) : a.add 0 = a := by unfold Addr.add; split <;> simp_all
set_option maxRecDepth 100000 in
set_option maxHeartbeats 6400000 in
theorem first13_any (w : World) : Calls Try.prog 8 #[] w fun e w' => e = .returned (.bool true) ∧ RowKit.Below w.heap.size w w' := by
  have HAl : Hid (∀ (w : World) (o : Obj), RowKit.Below w.heap.size w (w.alloc o)) := fun w o => (Below.refl _ w).alloc (Nat.le_refl _) _
  have HV : Hid (∀ x w, Calls Try.prog 30 #[.int .i64 x] w fun e w' => e = .returned (.agg #[.int .i64 1, .string ⟨#[]⟩, .int .i64 x, .int .i64 0, .slice none 0 0]) ∧ RowKit.Below w.heap.size w w') := fun x w => refVar_any x w
  have HI : Hid (∀ w, Calls Try.prog 31 #[] w fun e w' => e = .returned (.agg #[.int .i64 4, .string intN, .int .i64 0, .int .i64 0, .slice none 0 0]) ∧ RowKit.Below w.heap.size w w') := fun w => refInt_any w
  have HCon : Hid (∀ T ad w, RepL w (fun _ => True) [T] (.slice (some ad) 1 1) → Calls Try.prog 29 #[.string listN, .slice (some ad) 1 1] w fun e w' => ∃ a c, e = .returned (.agg #[.int .i64 4, .string listN, .int .i64 0, .int .i64 0, .slice a 1 c]) ∧ Rep w' (fun _ => True) (con listN [T]) (.agg #[.int .i64 4, .string listN, .int .i64 0, .int .i64 0, .slice a 1 c]) ∧ RowKit.Below w.heap.size w w') := fun T ad w h => (refCon_any listN [T] (by simp) ad 1 (fun _ => True) w (fun _ _ => trivial) h).mono fun e w' ⟨a, c, h1, h2, h3⟩ => ⟨a, c, h1, Rep.close listN_ok h2, h3⟩
  have HIr : Hid (∀ w, Rep w (fun _ => True) (con intN []) (.agg #[.int .i64 4, .string intN, .int .i64 0, .int .i64 0, .slice none 0 0])) := fun w => rep_leaf w _ 4 intN 0 0 (by unfold maxLen; decide +kernel)
  go_enter Try.func8, Try.ntmps8
  go_wp2_with fail
  go_at_call 30
  refine (HV.out 1 _).mono ?_
  rintro e w1 ⟨rfl, hb1⟩
  have HL1 := Lib.hid (fun Z => one_list Z (rep_cv w1 (fun _ => True) 1))
  go_wp2_with fail
  go_at_call 29
  refine (HCon.out (cv 1) _ _ (HL1.out _)).mono ?_
  rintro e w2 ⟨a2, c2, rfl, hr2, hb2⟩
  have HB2 := Lib.hid (hb1.trans (((HAl.out w1 _).trans (hb2.mono (HAl.out w1 _).size)).mono hb1.size))
  have HA2 := Lib.hid (fun Z => one_as (i := 0) Z hr2)
  clear hr2 hb2 hb1 HL1
  go_upto_region 2 with fail
  have HB3 := Lib.hid (HB2.out.trans ((HAl.out w2 (.cells #[.int .i64 0, .int .i64 4, .string listN, .int .i64 0, .int .i64 0, .slice a2 1 c2] 43)).mono HB2.out.size))
  have HA3 := Lib.hid (HA2.out 43)
  clear HB2 HA2
  generalize (w2.alloc (.cells #[.int .i64 0, .int .i64 4, .string listN, .int .i64 0, .int .i64 0, .slice a2 1 c2] 43)) = w3 at *
  generalize w2.heap.size = B2 at *
  have HIr4 := HIr
  go_wp2_with fail
  go_at_call 31
  refine (HI.out _).mono ?_
  rintro e w4 ⟨rfl, hb4⟩
  have HB4 := Lib.hid (HB3.out.trans (hb4.mono HB3.out.size))
  have HA4 := Lib.hid (HA3.out.lift hb4)
  have HT4 := Lib.hid (fun Z => one_as (i := 1) Z (HIr.out w4))
  clear hb4 HB3 HA3
  go_upto_region 3 with fail
  have HB5 := Lib.hid (HB4.out.trans ((HAl.out w4 (.cells #[.int .i64 1, .int .i64 4, .string intN, .int .i64 0, .int .i64 0, .slice none 0 0] 43)).mono HB4.out.size))
  have HA5 := Lib.hid (HA4.out.lift (HAl.out w4 (.cells #[.int .i64 1, .int .i64 4, .string intN, .int .i64 0, .int .i64 0, .slice none 0 0] 43)))
  have HT5 := Lib.hid (HT4.out 43)
  clear HB4 HA4 HT4
  generalize (w4.alloc (.cells #[.int .i64 1, .int .i64 4, .string intN, .int .i64 0, .int .i64 0, .slice none 0 0] 43)) = w5 at *
  generalize w4.heap.size = B4 at *
  have HCm := Lib.hid (compose_any sg0 tu0 _ _ w5 (by decide) (by decide) (by decide +kernel) HA5.out HT5.out)
  rw [cmp0] at HCm
  clear HA5 HT5
  go_wp2_with fail
  go_at_call 11
  refine HCm.out.mono ?_
  rintro e w6 ⟨cv, rfl, hc, hb6⟩
  have HB6 := Lib.hid (HB5.out.trans (hb6.mono HB5.out.size))
  have HC6 := Lib.hid hc
  obtain ⟨ca, cc, rfl, -, hj⟩ := hc
  obtain ⟨ad, k0, n0, i0, h0, s0, rfl, -, g6, hr0⟩ := hj 0 _ rfl
  obtain ⟨ad', k1, n1, i1, h1, s1, e', -, g6', hr1⟩ := hj 1 _ rfl
  cases e'
  obtain ⟨_, _, _, _, _, eT, hv, -, hs0⟩ := hr0.open
  simp at hv
  obtain ⟨rfl, rfl, rfl, rfl, rfl⟩ := hv
  cases eT
  obtain ⟨sa, sc, rfl, -⟩ := hs0
  obtain ⟨q0, q1, q2, q3, q4, q5⟩ := g6
  obtain ⟨r0, -⟩ := g6'
  have HR0 := Lib.hid hr0
  clear hj hr0 hr1 hb6 HB5 HCm
  simp only [Nat.zero_mul, Nat.one_mul, add0] at q0 q1 q2 q3 q4 q5 r0
  have h66 : (⟨ad.block, ad.off + 6, none⟩ : Addr) = ad.add 6 := by
    have := add_add' ad 0 6 (by decide)
    rw [add0, Nat.zero_add] at this
    exact this
  rw [← h66] at r0
  clear h66
  have HC7 : Hid (∀ W', RowKit.Below w6.heap.size w6 W' → AsL W' (fun _ => True) [(0, con listN [con intN []]), (1, con intN [])] (.slice (some ad) 2 cc)) := fun W' hb => HC6.out.lift hb
  have HVl : Hid (∀ W', RowKit.Below w6.heap.size w6 W' → Calls Try.prog 21 #[.slice (some ad) 2 cc] W' fun e w' => e = .returned (.bool true) ∧ RowKit.Below W'.heap.size W' w') := fun W' hb => by
    have := validS_any [(0, con listN [con intN []]), (1, con intN [])] _ W' (by decide) (by intro p hp; simp at hp; rcases hp with rfl | rfl <;> decide) (HC7.out W' hb)
    rwa [show vS [(0, con listN [con intN []]), (1, con intN [])] = true from by decide +kernel] at this
  have HAp : Hid (∀ W', RowKit.Below w6.heap.size w6 W' → Calls Try.prog 15 #[.slice (some ad) 2 cc, .agg #[.int .i64 1, .string ⟨#[]⟩, .int .i64 1, .int .i64 0, .slice none 0 0]] W' fun e w' => ∃ u, e = .returned u ∧ Rep w' (fun _ => True) (con intN []) u ∧ RowKit.Below W'.heap.size W' w') := fun W' hb => by
    have := apl_cv apply_any _ _ W' (HC7.out W' hb) 1 W' (Below.refl _ _)
    rwa [show repl [(0, con listN [con intN []]), (1, con intN [])] (cv 1) = con intN [] from by rfl] at this
  have HEq1 : Hid (∀ u W', RowKit.Below w6.heap.size w6 W' → Rep W' (fun _ => True) (con listN [con intN []]) u → Calls Try.prog 14 #[.agg #[.int .i64 4, .string listN, .int .i64 0, .int .i64 0, .slice sa 1 sc], u] W' fun e w' => e = .returned (.bool true) ∧ RowKit.Below W'.heap.size W' w') := fun u W' hb h => by
    have := refEqual_any _ _ (Nat.le_refl _) (con listN [con intN []]) _ u _ _ W' (HR0.out.lift hb) h
    rwa [teq_id] at this
  have HEq2 : Hid (∀ u W', Rep W' (fun _ => True) (con intN []) u → Calls Try.prog 14 #[u, .agg #[.int .i64 4, .string intN, .int .i64 0, .int .i64 0, .slice none 0 0]] W' fun e w' => e = .returned (.bool true) ∧ RowKit.Below W'.heap.size W' w') := fun u W' h => by
    have := refEqual_any _ _ (Nat.le_refl _) (con intN []) u _ _ _ W' h (HIr.out W')
    rwa [teq_id] at this
  have HL1 : Hid (∀ (W' : World) Z, RepL (W'.alloc (.cells #[.int .i64 4, .string intN, .int .i64 0, .int .i64 0, .slice none 0 0] Z)) (fun _ => True) [con intN []] (.slice (some ⟨W'.heap.size, 0, none⟩) 1 1)) := fun W' Z => one_list Z (HIr.out W')
  have HC8 : Hid (∀ (W' : World) Z, Calls Try.prog 29 #[.string listN, .slice (some ⟨W'.heap.size, 0, none⟩) 1 1] (W'.alloc (.cells #[.int .i64 4, .string intN, .int .i64 0, .int .i64 0, .slice none 0 0] Z)) fun e w' => ∃ a c, e = .returned (.agg #[.int .i64 4, .string listN, .int .i64 0, .int .i64 0, .slice a 1 c]) ∧ Rep w' (fun _ => True) (con listN [con intN []]) (.agg #[.int .i64 4, .string listN, .int .i64 0, .int .i64 0, .slice a 1 c]) ∧ RowKit.Below (W'.alloc (.cells #[.int .i64 4, .string intN, .int .i64 0, .int .i64 0, .slice none 0 0] Z)).heap.size (W'.alloc (.cells #[.int .i64 4, .string intN, .int .i64 0, .int .i64 0, .slice none 0 0] Z)) w') := fun W' Z => HCon.out _ _ _ (HL1.out W' Z)
  go_wp2_with fail
  go_region_held3 (fun w' => w'.cell? ad = some (.int .i64 0) ∧ w'.cell? ⟨ad.block, ad.off + 1, none⟩ = some (.int .i64 4) ∧ w'.cell? ⟨ad.block, ad.off + 2, none⟩ = some (.string listN) ∧ w'.cell? ⟨ad.block, ad.off + 3, none⟩ = some (.int .i64 0) ∧ w'.cell? ⟨ad.block, ad.off + 4, none⟩ = some (.int .i64 0) ∧ w'.cell? ⟨ad.block, ad.off + 5, none⟩ = some (.slice sa 1 sc) ∧ w'.cell? ⟨ad.block, ad.off + 6, none⟩ = some (.int .i64 1) ∧ RowKit.Below w6.heap.size w6 w')
    (first
      | (go_split_ands; exact keep7 (by assumption) (by assumption) (by assumption) (by assumption) (by assumption) (by assumption) (by assumption) (by assumption) hb)
      | (go_split_ands; exact keep7 (by assumption) (by assumption) (by assumption) (by assumption) (by assumption) (by assumption) (by assumption) (by assumption) ((Below.refl _ _).alloc (Nat.le_refl _) _))
      | exact ⟨q0, q1, q2, q3, q4, q5, r0, (Below.refl _ w6).drew⟩)
    (first
      | (go_at_call 31; (with_reducible refine (HI.out _).mono ?_); rintro e w' ⟨rfl, hb⟩; (first | (have HP2 := Lib.hid (HP.out.lift hb)) | skip))
      | (go_at_call 29; (refine (HC8.out _ _).mono ?_); rintro e w' ⟨al, cl, rfl, hl, hb⟩; have HLs := Lib.hid hl; clear hl)
      | (go_at_call 14; (with_reducible refine (HEq1.out _ _ ?_ HLs.out).mono ?_); (go_split_ands; assumption); rintro e w' ⟨rfl, hb⟩)
      | (go_at_call 21; (with_reducible refine (HVl.out _ ?_).mono ?_); (go_split_ands; assumption); rintro e w' ⟨rfl, hb⟩)
      | (go_at_call 30; (with_reducible refine (HV.out _ _).mono ?_); rintro e w' ⟨rfl, hb⟩)
      | (go_at_call 15; (with_reducible refine (HAp.out _ ?_).mono ?_); (go_split_ands; assumption); rintro e w' ⟨p, rfl, hp, hb⟩; have HP := Lib.hid hp; clear hp)
      | (go_at_call 14; (with_reducible refine (HEq2.out p _ HP2.out).mono ?_); rintro e w' ⟨rfl, hb⟩))
  all_goals
    go_split_ands
    have hbF : RowKit.Below w6.heap.size w6 w' := by assumption
    clear q0 q1 q2 q3 q4 q5 r0
    go_wp2
    go_ret
    exact ⟨rfl, HB6.out.trans (hbF.mono HB6.out.size)⟩
end Go.Proofs.Ytmjdddmfhakabaa

namespace Go.Proofs.Ytmjdddmfhakabaa
open Go.RowKit Go.Sort Go.Shelf Go.Maps Mth

theorem look_mem {σ : List (Int × Ty)} {i : Int} {t : Ty} (h : look σ i = some t) : ∃ p ∈ σ, p.2 = t := by
  unfold look at h
  obtain ⟨p, hp, rfl⟩ := Option.map_eq_some_iff.1 h
  exact ⟨p, List.mem_of_find?_eq_some hp, rfl⟩
theorem nodesL_repl (σ : List (Int × Ty)) (m : Nat) : ∀ ts : List Ty, (∀ U ∈ ts, nodes (repl σ U) ≤ m * nodes U) → nodesL (ts.map (repl σ)) ≤ m * nodesL ts := by
  intro ts
  induction ts with
  | nil => intro _; simp [nodesL]
  | cons t ts ih =>
    intro h
    have h1 := h t (by simp)
    have h2 := ih fun U hU => h U (by simp [hU])
    simp only [List.map_cons, nodesL, Nat.mul_add]
    omega
theorem nodes_repl (σ : List (Int × Ty)) (m : Nat) (hm : 1 ≤ m) (hσ : ∀ p ∈ σ, nodes p.2 ≤ m) : ∀ T : Ty, nodes (repl σ T) ≤ m * nodes T := by
  refine Ty.induct fun T ih => ?_
  obtain ⟨k, n, i, h, ts⟩ := T
  by_cases hk : k = 1
  · subst hk
    rw [repl_one]
    cases e : look σ i with
    | some t =>
      obtain ⟨p, hp, rfl⟩ := look_mem e
      have h1 := hσ p hp
      have h2 := Nat.mul_le_mul_left m (nodes_pos (Ty.mk 1 n i h ts))
      show nodes p.2 ≤ _
      omega
    | none =>
      show nodes (Ty.mk 1 n i h ts) ≤ _
      have := Nat.mul_le_mul_right (nodes (Ty.mk 1 n i h ts)) hm
      omega
  · rw [repl_not _ hk]
    have := nodesL_repl σ m ts ih
    simp only [nodes, Nat.mul_add]
    omega
theorem OkS.nodes {n : Nat} {σ : List (Int × Ty)} (h : OkS n σ) : ∀ p ∈ σ, nodes p.2 ≤ 3 := fun p hp => by
  have := (h.2 p hp).2.2.2
  exact this
theorem OkS.len {σ : List (Int × Ty)} (h : OkS 4 σ) : σ.length ≤ 1000 := by have := h.1; omega
theorem ok3 {T : Ty} (h : Ok 3 T) : nodes T ≤ 15 := h.2
theorem asL_of {w w' : World} {b : Nat} {σ : List (Int × Ty)} {v : Value} (h : SlG AsE w (fun c => b < c) σ v) (hb : RowKit.Below w.heap.size w w') : AsL w' (fun _ => True) σ v := slG_asL (SlG.kept (fun _ _ => trivial) (fun c _ hl => hb.block c hl) h)
theorem cmpS_len (σ τ : List (Int × Ty)) : (cmpS σ τ).length ≤ σ.length + τ.length := by
  unfold cmpS
  rw [List.length_append, List.length_map]
  have := List.length_filter_le (fun p : Int × Ty => !asgd σ p.1) τ
  omega
theorem cmpS_nodes {σ τ : List (Int × Ty)} (a b : Nat) (hb : 1 ≤ b) (hσ : ∀ p ∈ σ, nodes p.2 ≤ a) (hτ : ∀ p ∈ τ, nodes p.2 ≤ b) (ha : 1 ≤ a) : ∀ p ∈ cmpS σ τ, nodes p.2 ≤ b * a := by
  intro p hp
  unfold cmpS at hp
  rcases List.mem_append.1 hp with h | h
  · obtain ⟨q, hq, rfl⟩ := List.mem_map.1 h
    exact Nat.le_trans (nodes_repl τ b hb hτ q.2) (Nat.mul_le_mul_left b (hσ q hq))
  · have h1 := hτ p (List.mem_filter.1 h).1
    have h2 := Nat.mul_le_mul_left b ha
    omega
theorem eqS_of {σ τ : List (Int × Ty)} (h : ∀ T, repl σ T = repl τ T) (ids : List Int) : eqS σ τ ids = true := by
  unfold eqS
  rw [List.all_eq_true]
  intro i _
  rw [h, teq_id]
theorem ints_new {w : World} (Z : TypeId) (l : List Int) (n : Nat) (hn : n = l.length) (hm : n ≤ maxLen) : Ints (w.alloc (.cells (l.map intV).toArray Z)) (.slice (some ⟨w.heap.size, 0, none⟩) n n) l := by
  subst hn
  refine ⟨_, _, rfl, Nat.le_refl _, hm, fun i x hx => ⟨_, rfl, ?_⟩⟩
  have hb := heap_alloc_new w (.cells (l.map intV).toArray Z)
  have hc : (l.map intV).toArray[i]? = some (.int .i64 x) := by simp [hx, intV]
  rw [add_zero, Nat.zero_add]
  exact (cell_of_block hb hc).1
theorem facT_len (σ τ : List (Int × Ty)) : ∀ (ids : List Int) (s s1 : List (Int × Ty)), facT σ τ ids s = some s1 → s1.length ≤ s.length + sumN σ ids := by
  intro ids
  induction ids with
  | nil => intro s s1 h; simp [facT] at h; subst h; simp
  | cons i ids ih =>
    intro s s1 h
    rw [facT] at h
    cases e : mtch (repl σ (cv i)) (repl τ (cv i)) s with
    | none => rw [e] at h; cases h
    | some s2 =>
      rw [e] at h
      have h1 := mtch_len _ _ _ _ e
      have h2 := ih s2 s1 h
      simp only [sumN]
      omega
theorem sumN_le {σ : List (Int × Ty)} (hσ : ∀ p ∈ σ, nodes p.2 ≤ 3) : ∀ ids : List Int, sumN σ ids ≤ 3 * ids.length := by
  intro ids
  induction ids with
  | nil => simp [sumN]
  | cons i ids ih =>
    have h1 := nodes_repl σ 3 (by decide) hσ (cv i)
    have h2 : nodes (cv i) = 1 := by simp [cv, nodes, nodesL]
    simp only [sumN, List.length_cons]
    omega
theorem plain_of_valid : ∀ T : Ty, valid T = true → plainV T = true := by
  refine Ty.induct fun T ih hv => ?_
  obtain ⟨k, n, i, h, ts⟩ := T
  rw [plainV]
  by_cases hk : k = 1
  · subst hk
    obtain ⟨rfl, rfl, rfl⟩ := valid_var hv
    decide +kernel
  · rw [if_neg (by simpa using hk)]
    have key : ∀ l : List Ty, (∀ U ∈ l, plainV U = true) → plainVL l = true := by
      intro l
      induction l with
      | nil => intro _; rfl
      | cons t l ihl => intro hl; simp [plainVL, hl t (by simp), ihl fun U hU => hl U (by simp [hU])]
    exact key ts fun U hU => ih U hU (valid_kids hv U hU)
theorem plain_at {n : Nat} {σ : List (Int × Ty)} (h : OkS n σ) (i : Int) : plainV (repl σ (cv i)) = true := by
  unfold cv
  rw [repl_one]
  cases e : look σ i with
  | none => show plainV (Ty.mk 1 ⟨#[]⟩ i 0 []) = true; rw [plainV]; decide +kernel
  | some t =>
    obtain ⟨p, hp, rfl⟩ := look_mem e
    exact plain_of_valid _ (h.2 p hp).2.2.1
theorem eqS_on {σ τ : List (Int × Ty)} (ids : List Int) (h : ∀ i ∈ ids, repl σ (cv i) = repl τ (cv i)) : eqS σ τ ids = true := by
  unfold eqS
  rw [List.all_eq_true]
  intro i hi
  rw [h i hi, teq_id]
theorem keepB {a b c : World} (h : RowKit.Below a.heap.size a b) (k : RowKit.Below b.heap.size b c) : RowKit.Below a.heap.size a c := h.trans (k.mono h.size)
end Go.Proofs.Ytmjdddmfhakabaa

namespace Go.Proofs.Ytmjdddmfhakabaa
open Go.ChangeShapes Go.WideShapes Go.ChangeAt Go.RowKit Go.Deep Mth

theorem Try.cells43 : Try.prog.cellsOf 43 = 6 := by kernel_rfl
theorem fieldsAs : (match Try.prog.underlying 43 with | some (.struct fs) => fs.map (fun f => (f.type, f.offset)) | _ => #[]) = #[(3, 0), (28, 1)] := by kernel_rfl
theorem six_cells {w : World} {ad : Addr} {j : Nat} {x k : Int} {n : ByteArray} {i h : Int} {s : Value} (hc : ∀ m, m < 6 → w.cell? ((ad.add (j * 6)).add m) = [Value.int .i64 x, .int .i64 k, .string n, .int .i64 i, .int .i64 h, s][m]?) : Six w ad j x k n i h s := by
  have h0 := hc 0 (by omega)
  have h1 := hc 1 (by omega)
  have h2 := hc 2 (by omega)
  have h3 := hc 3 (by omega)
  have h4 := hc 4 (by omega)
  have h5 := hc 5 (by omega)
  rw [Go.Deep.add_add] at h0 h1 h2 h3 h4 h5
  refine ⟨h0, ?_, ?_, ?_, ?_, ?_⟩
  · rw [add_add' _ _ _ (by omega)]; exact h1
  · rw [add_add' _ _ _ (by omega)]; exact h2
  · rw [add_add' _ _ _ (by omega)]; exact h3
  · rw [add_add' _ _ _ (by omega)]; exact h4
  · rw [add_add' _ _ _ (by omega)]; exact h5
set_option maxRecDepth 100000 in
theorem as_of_trod {H : Type} {enc : TypeId × Value → H} {w : World} {base : Nat} {spare : Nat → Bool} {held : Bool} {fuel : Nat} {cs : List Value} {x : DataW H × List MemPlace} (h : DataW.trod enc Try.prog w base spare held fuel 43 cs = some x) :
    ∃ (p : Int × Ty) (k : Int) (n : ByteArray) (i hm : Int) (s : Value), cs = [.int .i64 p.1, .int .i64 k, .string n, .int .i64 i, .int .i64 hm, s] ∧ Rep w (fun _ => True) p.2 (.agg #[.int .i64 k, .string n, .int .i64 i, .int .i64 hm, s]) ∧ -9223372036854775808 ≤ p.1 ∧ p.1 ≤ 9223372036854775807 := by
  have hF := fieldsAs
  have hU := Try.underlying43
  obtain ⟨xs, n, rfl, -, hl, hxl, hg⟩ := DataW.trod_struct hU h
  rw [Try.cells43] at hl
  match cs, hl with
  | [c0, c1, c2, c3, c4, c5], _ =>
  have h0 : DataW.trod enc Try.prog w base spare held n 3 (([c0, c1, c2, c3, c4, c5].drop 0).take (Try.prog.cellsOf 3)) = xs[0]? := hg 0 _ rfl
  have h1 : DataW.trod enc Try.prog w base spare held n 28 (([c0, c1, c2, c3, c4, c5].drop 1).take (Try.prog.cellsOf 28)) = xs[1]? := hg 1 _ rfl
  rw [Try.cells3] at h0
  rw [Try.cells28] at h1
  simp only [List.drop_zero, List.drop_succ_cons, List.take_succ_cons, List.take_zero] at h0 h1
  have hx : xs.length = 2 := hxl
  rw [List.getElem?_eq_getElem (by omega)] at h0 h1
  obtain ⟨z, e0, -, hz⟩ := DataW.trod_int Try.underlying3 h0
  obtain ⟨T, hT⟩ := type_of_trod n n (Nat.le_refl _) _ _ h1
  simp at e0
  subst e0
  obtain ⟨k, nm, i, hm, s, -, e, -, -⟩ := hT.open
  simp at e
  obtain ⟨rfl, rfl, rfl, rfl, rfl⟩ := e
  exact ⟨(z, T), k, nm, i, hm, _, rfl, hT, bounds_i64 hz⟩
set_option maxRecDepth 100000 in
/-- A list of assignments that came in. -/
theorem as_open {H : Type} {enc : TypeId × Value → H} {W : World} {base : Nat} {v : Value} {d : DataW H} {p : List MemPlace} (hval : Value.okWide Try.prog W .any base 25 v) (h : DataW.Trod enc Try.prog W 0 (fun _ => true) true 25 v d p) :
    ∃ σ, AsL W (fun _ => True) σ v ∧ KeyOk σ := by
  obtain ⟨a0, len, cap, rfl⟩ := okWide_slice Try.underlying25 hval
  obtain ⟨fuel, hf⟩ := h
  rcases DataW.trod_slice Try.underlying25 hf with ⟨e4, -⟩ | ⟨a, len', cap', elems, rest, q, rfl, e4, -, -, hlc, hcm, hel, hat, -, -⟩
  · simp [Value.cells] at e4
    obtain ⟨rfl, rfl, rfl⟩ := e4
    exact ⟨[], asL_nil _ _, fun p hp => by cases hp⟩
  · simp [Value.cells] at e4
    obtain ⟨rfl, rfl, rfl⟩ := e4
    have hj : ∀ j, j < len → ∃ (p : Int × Ty) (k : Int) (n : ByteArray) (i hm : Int) (s : Value), Six W a j p.1 k n i hm s ∧ Rep W (fun _ => True) p.2 (.agg #[.int .i64 k, .string n, .int .i64 i, .int .i64 hm, s]) ∧ -9223372036854775808 ≤ p.1 ∧ p.1 ≤ 9223372036854775807 := by
      intro j hj
      have hb := hat j hj
      rw [List.getElem?_eq_getElem (by omega), Option.bind_eq_some_iff] at hb
      obtain ⟨cs', hc, ht⟩ := hb
      obtain ⟨-, hcl, hca⟩ := World.cells?_some hc
      obtain ⟨p, k, n, i, hm, s, rfl, hr, h1, h2⟩ := as_of_trod ht
      rw [Try.cells43] at hca
      exact ⟨p, k, n, i, hm, s, six_cells hca, hr, h1, h2⟩
    let f : Nat → Int × Ty := fun j => if h : j < len then Classical.choose (hj j h) else (0, default)
    have hf : ∀ j, j < len → ∃ (k : Int) (n : ByteArray) (i hm : Int) (s : Value), Six W a j (f j).1 k n i hm s ∧ Rep W (fun _ => True) (f j).2 (.agg #[.int .i64 k, .string n, .int .i64 i, .int .i64 hm, s]) ∧ -9223372036854775808 ≤ (f j).1 ∧ (f j).1 ≤ 9223372036854775807 := fun j h => by
      have e : f j = Classical.choose (hj j h) := dif_pos h
      rw [e]
      exact Classical.choose_spec (hj j h)
    refine ⟨(List.range len).map f, ⟨some a, cap, by simp, by simp; exact ⟨hlc, hcm⟩, fun j p hp => ?_⟩, fun p hp => ?_⟩
    · have hjl := (List.getElem?_eq_some_iff.1 hp).1
      simp at hjl
      rw [List.getElem?_map, List.getElem?_range hjl] at hp
      simp at hp
      subst hp
      obtain ⟨k, n, i, hm, s, h6, hr, -, -⟩ := hf j hjl
      exact ⟨a, k, n, i, hm, s, rfl, trivial, h6, hr⟩
    · obtain ⟨j, hj', rfl⟩ := List.mem_map.1 hp
      obtain ⟨k, n, i, hm, s, -, -, h1, h2⟩ := hf j (List.mem_range.1 hj')
      exact ⟨h1, h2⟩
end Go.Proofs.Ytmjdddmfhakabaa

namespace Go.Proofs.Ytmjdddmfhakabaa
open Go.RowKit Mth

theorem flat_len (k : Nat) : ∀ L : List (List Value), (∀ c ∈ L, c.length = k) → L.flatten.length = L.length * k := by
  intro L
  induction L with
  | nil => intro _; simp
  | cons x L ih =>
    intro h
    rw [List.flatten_cons, List.length_append, h x (by simp), ih fun c hc => h c (by simp [hc])]
    rw [List.length_cons, Nat.add_mul]; omega
theorem flat_at (k : Nat) : ∀ (L : List (List Value)), (∀ c ∈ L, c.length = k) → ∀ (i : Nat) (u : Value), L.flatten[i]? = some u → ∃ (j m : Nat) (c : List Value), i = j * k + m ∧ L[j]? = some c ∧ c[m]? = some u := by
  intro L
  induction L with
  | nil => intro _ i u h; simp at h
  | cons x L ih =>
    intro hL i u hu
    have hx : x.length = k := hL x (by simp)
    rw [List.flatten_cons] at hu
    by_cases hi : i < x.length
    · rw [List.getElem?_append_left hi] at hu
      exact ⟨0, i, x, by simp, rfl, hu⟩
    · rw [List.getElem?_append_right (by omega)] at hu
      obtain ⟨j, m, c, h1, h2, h3⟩ := ih (fun c h => hL c (by simp [h])) _ u hu
      exact ⟨j + 1, m, c, by rw [Nat.add_mul]; omega, by simpa using h2, h3⟩
/-- The cells of a list, one behind the other. -/
theorem cells_ofG {α : Type} (E : El α) {w : World} {S : Nat → Prop} {xs : List α} {ad : Addr} (h : ∀ (j : Nat) (x : α), xs[j]? = some x → ∃ c : List Value, (∀ (m : Nat) (u : Value), c[m]? = some u → w.cell? (ad.add (j * E.k + m)) = some u) ∧ E.rep w S x c) :
    ∃ L : List (List Value), L.length = xs.length ∧ (∀ (j : Nat) (x : α), xs[j]? = some x → ∃ c : List Value, L[j]? = some c ∧ E.rep w S x c) ∧ ∀ (i : Nat) (u : Value), L.flatten[i]? = some u → w.cell? (ad.add i) = some u := by
  have hx : ∀ j, ∃ c : List Value, ∀ x, xs[j]? = some x → (∀ (m : Nat) (u : Value), c[m]? = some u → w.cell? (ad.add (j * E.k + m)) = some u) ∧ E.rep w S x c := by
    intro j
    cases hT : xs[j]? with
    | none => exact ⟨[], fun T h => by cases h⟩
    | some T0 =>
      obtain ⟨c, h1, h2⟩ := h j T0 hT
      exact ⟨c, fun T h => by cases h; exact ⟨h1, h2⟩⟩
  let f : Nat → List Value := fun j => Classical.choose (hx j)
  have hf : ∀ j x, xs[j]? = some x → (∀ (m : Nat) (u : Value), (f j)[m]? = some u → w.cell? (ad.add (j * E.k + m)) = some u) ∧ E.rep w S x (f j) := fun j => Classical.choose_spec (hx j)
  have hget : ∀ j x, xs[j]? = some x → ((List.range xs.length).map f)[j]? = some (f j) := fun j x hj => by
    have := (List.getElem?_eq_some_iff.1 hj).1
    rw [List.getElem?_map, List.getElem?_range this]; rfl
  have hk : ∀ c ∈ (List.range xs.length).map f, c.length = E.k := by
    intro c hc
    simp at hc
    obtain ⟨j, hj, rfl⟩ := hc
    exact (E.len (hf j xs[j] (List.getElem?_eq_getElem hj)).2).1
  refine ⟨(List.range xs.length).map f, by simp, fun j x hj => ⟨f j, hget j x hj, (hf j x hj).2⟩, fun i u hu => ?_⟩
  obtain ⟨j, m, c, rfl, h2, h3⟩ := flat_at E.k _ hk i u hu
  have hj : j < xs.length := by have := (List.getElem?_eq_some_iff.1 h2).1; simpa using this
  rw [hget j xs[j] (List.getElem?_eq_getElem hj)] at h2
  cases h2
  exact (hf j xs[j] (List.getElem?_eq_getElem hj)).1 m u h3
theorem push_afterM {α : Type} {E : El α} {w w' : World} {base : Nat} {S : Nat → Prop} {v v' : Value} {xs news : List α} {L M : List (List Value)} (hl : L.length = xs.length) (hml : M.length = news.length)
    (hr : ∀ (j : Nat) (x : α), xs[j]? = some x → ∃ c : List Value, L[j]? = some c ∧ E.rep w (fun b => S b ∧ some b ≠ v.ownBlock) x c) (hm : ∀ (j : Nat) (x : α), news[j]? = some x → ∃ c : List Value, M[j]? = some c ∧ E.rep w (fun b => S b ∧ some b ≠ v.ownBlock) x c)
    (hown : w'.ownsRow base E.e E.k v' (xs.length + news.length) (L.flatten ++ M.flatten)) (hg : w.grownBy w' v.ownBlock) (hloc : v'.ownBlock = v.ownBlock ∨ v'.ownBlock = some w.heap.size) : RowG E w' base S v' (xs ++ news) := by
  have key : ∀ (y : α) (d : List Value), E.rep w (fun b => S b ∧ some b ≠ v.ownBlock) y d → E.rep w' (fun b => S b ∧ some b ≠ v'.ownBlock) y d := fun y d hrep =>
    E.kept (fun b hb => ⟨hb.1.1, by
      rcases hloc with e | e
      · rw [e]; exact hb.1.2
      · rw [e]; intro e'; cases e'; exact absurd hb.2 (Nat.lt_irrefl _)⟩) (fun b hb hlt => hg.block b hlt hb.1.2) (E.bound hrep)
  refine ⟨L ++ M, ?_, by simp [hl, hml], fun j y hj => ?_⟩
  · rw [List.flatten_append, List.length_append]; exact hown
  · by_cases hj' : j < xs.length
    · rw [List.getElem?_append_left hj'] at hj
      obtain ⟨c', hc', hrep⟩ := hr j y hj
      exact ⟨c', by rw [List.getElem?_append_left (by omega)]; exact hc', key _ _ hrep⟩
    · rw [List.getElem?_append_right (by omega)] at hj
      obtain ⟨c', hc', hrep⟩ := hm _ y hj
      exact ⟨c', by rw [List.getElem?_append_right (by omega), hl]; exact hc', key _ _ hrep⟩
/-- An append of several, in a plain region. -/
theorem wpList_pushM {α : Type} {w : World} {ops : Array Oper} {rest : List Oper} {o : Oper} {a : Act} {Q : Exit → Act → World → Prop} (E : El α) (hgd : o.guard = none) (s x : Operand)
    (ho : o.op = .call { callee := .builtin .append, args := #[s, x], argTypes := #[E.t, E.t] })
    (base : Nat) (S : Nat → Prop) (v : Value) (xs : List α) (hs : a.eval s = v) (hrow : RowG E w base S v xs) (ad : Addr) (m c : Nat) (hx : a.eval x = .slice (some ad) m c) (news : List α) (hm : news.length = m)
    (hc : ∀ (j : Nat) (y : α), news[j]? = some y → ∃ c : List Value, (∀ (m : Nat) (u : Value), c[m]? = some u → w.cell? (ad.add (j * E.k + m)) = some u) ∧ E.rep w (fun b => S b ∧ some b ≠ v.ownBlock) y c)
    (N : Nat) (hN : N = xs.length + m) (hb : N ≤ 1000000) (hbase : base ≤ w.heap.size)
    (hK : ∀ (a' : Option Addr) (c' : Nat) (w' : World), RowG E w' base S (.slice a' N c') (xs ++ news) → w.grownBy w' v.ownBlock → wpList Try.prog ops Q rest (a.put o.dst (.slice a' N c')) w') :
    wpList Try.prog ops Q (o :: rest) a w := by
  obtain ⟨i, z, hi, hz, hk, hby, hzs⟩ := E.info
  obtain ⟨L, hown, hl, hr⟩ := hrow
  obtain ⟨M, hml, hmr, hmc⟩ := cells_ofG E hc
  have hMk := rowG_len hml hmr
  have hE := E.hby
  refine wpList_append_own_at w hgd s x E.t ho base E.e i z E.k E.by_ E.und hi hz hk hby hzs E.hk v xs.length L.flatten hs hown ad m c M.flatten hx (by rw [flat_len E.k M fun c h => (hMk c h).1, hml, hm]) hmc ?_ (by unfold maxLen; omega) ?_ hbase ?_
  · intro u hu
    obtain ⟨c', hc', hu'⟩ := List.mem_flatten.1 hu
    exact (hMk c' hc').2 u hu'
  · have := Nat.mul_le_mul (show xs.length + m ≤ 1000000 by omega) hE
    omega
  intro v' w' hown' hg _ hloc
  have hrow' : RowG E w' base S v' (xs ++ news) := push_afterM hl hml hr hmr (by rw [hm]; exact hown') hg hloc
  obtain ⟨a', c', rfl, _⟩ := hrow'.slice
  have e : (xs ++ news).length = N := by rw [List.length_append, hm, hN]
  rw [e] at hrow' ⊢
  exact hK a' c' w' hrow' hg
/-- The same as a step of a region that draws its order, where it is wanted. -/
theorem step_pushM {α : Type} {w : World} {ops : Array Oper} {o : Oper} {a : Act} {K : Act → World → Prop} {Q : Exit → Act → World → Prop} {E' : Prop} (E : El α) (hw : Region.wanted o (yielded ops a.tmps) = true) (s x : Operand)
    (ho : o.op = .call { callee := .builtin .append, args := #[s, x], argTypes := #[E.t, E.t] })
    (base : Nat) (S : Nat → Prop) (v : Value) (xs : List α) (hs : a.eval s = v) (hrow : RowG E w base S v xs) (ad : Addr) (m c : Nat) (hx : a.eval x = .slice (some ad) m c) (news : List α) (hm : news.length = m) (hm0 : 0 < m)
    (hc : ∀ (j : Nat) (y : α), news[j]? = some y → ∃ c : List Value, (∀ (m : Nat) (u : Value), c[m]? = some u → w.cell? (ad.add (j * E.k + m)) = some u) ∧ E.rep w (fun b => S b ∧ some b ≠ v.ownBlock) y c)
    (N : Nat) (hN : N = xs.length + m) (hb : N ≤ 1000000) (hbase : base ≤ w.heap.size)
    (hK : ∀ (a' : Option Addr) (c' : Nat) (w' : World), RowG E w' base S (.slice a' N c') (xs ++ news) → w.grownBy w' v.ownBlock → K (a.put o.dst (.slice a' N c')) w') :
    if Region.wanted o (yielded ops a.tmps) = true then Oper.wp Try.prog o a w K Q else E' := by
  obtain ⟨i, z, hi, hz, hk, hby, hzs⟩ := E.info
  obtain ⟨L, hown, hl, hr⟩ := hrow
  obtain ⟨M, hml, hmr, hmc⟩ := cells_ofG E hc
  have hMk := rowG_len hml hmr
  have hE := E.hby
  rw [if_pos hw]
  refine wp_append_lies w s x E.t ho base E.e i z E.k E.by_ E.und hi hz hk hby hzs E.hk v xs.length L.flatten hs hown ad m c M.flatten hx (by rw [flat_len E.k M fun c h => (hMk c h).1, hml, hm]) hmc ?_ hm0 (by unfold maxLen; omega) ?_ hbase w.heap.size rfl ?_
  · intro u hu
    obtain ⟨c', hc', hu'⟩ := List.mem_flatten.1 hu
    exact (hMk c' hc').2 u hu'
  · have := Nat.mul_le_mul (show xs.length + m ≤ 1000000 by omega) hE
    omega
  intro g cap w' hown' hg hloc _
  have hrow' : RowG E w' base S (.slice (some ⟨g, 0, none⟩) (xs.length + m) cap) (xs ++ news) := push_afterM hl hml hr hmr (by rw [hm]; exact hown') hg (by
    rcases hloc with e | e
    · exact .inl (by rw [e]; rfl)
    · subst e; exact .inr rfl)
  subst hN
  exact hK _ _ _ hrow' hg
theorem RowG.imp {α : Type} {E : El α} {w : World} {base : Nat} {S S' : Nat → Prop} {v : Value} {xs : List α} (h : RowG E w base S v xs) (hS : ∀ b, S b → S' b) : RowG E w base S' v xs := by
  obtain ⟨L, h1, h2, h3⟩ := h
  refine ⟨L, h1, h2, fun j x hj => ?_⟩
  obtain ⟨c, hc, hr⟩ := h3 j x hj
  exact ⟨c, hc, E.kept (fun b hb => ⟨hS b hb.1, hb.2⟩) (fun _ _ _ => rfl) hr⟩
/-- Elements that stand in a slice, as an append wants them. -/
theorem slG_news {α : Type} {E : El α} {w : World} {S S' : Nat → Prop} {xs : List α} {ad : Addr} {n c : Nat} (h : SlG E w S xs (.slice (some ad) n c)) (hS : ∀ b, S b → S' b) : ∀ (j : Nat) (y : α), xs[j]? = some y → ∃ c : List Value, (∀ (m : Nat) (u : Value), c[m]? = some u → w.cell? (ad.add (j * E.k + m)) = some u) ∧ E.rep w S' y c := by
  obtain ⟨a, cap, e, -, hj⟩ := h
  cases e
  intro j y hy
  obtain ⟨ad', c', e', -, h1, h2⟩ := hj j y hy
  cases e'
  exact ⟨c', h1, E.kept hS (fun _ _ _ => rfl) h2⟩
end Go.Proofs.Ytmjdddmfhakabaa

namespace Go.Proofs.Ytmjdddmfhakabaa
open Go.RowKit Go.Sort Go.Shelf Go.Maps Mth

/-- An append of the elements of a list, nil or not. -/
theorem wpList_pushZ {α : Type} {w : World} {ops : Array Oper} {rest : List Oper} {o : Oper} {a : Act} {Q : Exit → Act → World → Prop} (E : El α) (hgd : o.guard = none) (s x : Operand)
    (ho : o.op = .call { callee := .builtin .append, args := #[s, x], argTypes := #[E.t, E.t] })
    (base : Nat) (S : Nat → Prop) (v : Value) (xs : List α) (hs : a.eval s = v) (hrow : RowG E w base S v xs) (lv : Value) (hx : a.eval x = lv) (news : List α)
    (hl : (lv = .slice none 0 0 ∧ news = []) ∨ ∃ ad c, lv = .slice (some ad) news.length c ∧ ∀ (j : Nat) (y : α), news[j]? = some y → ∃ c : List Value, (∀ (m : Nat) (u : Value), c[m]? = some u → w.cell? (ad.add (j * E.k + m)) = some u) ∧ E.rep w (fun b => S b ∧ some b ≠ v.ownBlock) y c)
    (hb : xs.length + news.length ≤ 1000000) (hbase : base ≤ w.heap.size)
    (hK : ∀ (v' : Value) (w' : World), RowG E w' base S v' (xs ++ news) → w.grownBy w' v.ownBlock → wpList Try.prog ops Q rest (a.put o.dst v') w') :
    wpList Try.prog ops Q (o :: rest) a w := by
  rcases hl with ⟨rfl, rfl⟩ | ⟨ad, c, rfl, hc⟩
  · obtain ⟨i, z, hi, hz, hk, hby, hzs⟩ := E.info
    have hrow' := hrow
    obtain ⟨L, hown, hl, hr⟩ := hrow'
    exact wpList_append_own_none hgd s x E.t ho base E.e i E.k E.und hi v xs.length L.flatten hs hown hx (hK v w (by simpa using hrow) ⟨rfl, rfl, rfl, Nat.le_refl _, fun _ _ _ => rfl⟩)
  · exact wpList_pushM E hgd s x ho base S v xs hs hrow ad news.length c hx news rfl hc _ rfl hb hbase fun a' c' w' h1 h2 => hK _ w' h1 h2
theorem smallType30_any (T : Ty) (v : Value) (S : Nat → Prop) (w : World) (h : Rep w S T v) : Calls Try.prog 20 #[v, .int .i64 30] w fun e w' => e = .returned (.bool (decide (nodes T ≤ 30))) ∧ Below w.heap.size w w' := by
  obtain ⟨k, n, i, hm, s, eT, rfl, hn, hs⟩ := h.open
  have HR := Lib.hid h
  obtain ⟨sa, sc, rfl, -⟩ := hs
  have hb0 : ∀ X Z, Below w.heap.size w (w.alloc (.cells X Z)) := fun X Z => (Below.refl _ w).alloc (Nat.le_refl _) _
  have HC := Lib.hid (fun X Z => count_any T _ S (w.alloc (.cells X Z)) 31 (by omega) (by omega) (HR.out.lift (hb0 X Z)))
  have HD : Hid (decide (nodes T ≤ 30) = decide (0 < 31 - nodes T)) := by show _ = _; rw [Bool.eq_iff_iff]; simp; omega
  clear h eT hn
  generalize T.ts.length = sn at *
  generalize 31 - nodes T = q at *
  go_enter Try.func20, Try.ntmps20
  go_wp2_with (go_at_call 45; refine (HC.out _ _).mono ?_; rintro e w1 ⟨rfl, hb1⟩)
  all_goals
    go_ret
    exact ⟨ret_bool (by rw [HD.out] <;> (rw [Bool.eq_iff_iff]; simp)), (hb0 _ _).trans (hb1.mono (by simp))⟩
/-- An append of a list that is nil where it has no address. -/
theorem wpList_pushS {α : Type} {w : World} {ops : Array Oper} {rest : List Oper} {o : Oper} {a : Act} {Q : Exit → Act → World → Prop} (E : El α) (hgd : o.guard = none) (s x : Operand)
    (ho : o.op = .call { callee := .builtin .append, args := #[s, x], argTypes := #[E.t, E.t] })
    (base : Nat) (S : Nat → Prop) (v : Value) (xs : List α) (hs : a.eval s = v) (hrow : RowG E w base S v xs) (la : Option Addr) (ln lc : Nat) (hx : a.eval x = .slice la ln lc) (hnil : la = none → lc = 0) (news : List α) (S' : Nat → Prop)
    (hl : SlG E w S' news (.slice la ln lc)) (hS : ∀ b, S' b → b < w.heap.size → S b ∧ some b ≠ v.ownBlock)
    (hb : xs.length + news.length ≤ 1000000) (hbase : base ≤ w.heap.size)
    (hK : ∀ (v' : Value) (w' : World), RowG E w' base S v' (xs ++ news) → w.grownBy w' v.ownBlock → wpList Try.prog ops Q rest (a.put o.dst v') w') :
    wpList Try.prog ops Q (o :: rest) a w := by
  refine wpList_pushZ E hgd s x ho base S v xs hs hrow _ hx news ?_ hb hbase hK
  obtain ⟨a', c', e, -, hj⟩ := hl.bound
  cases e
  cases la with
  | none =>
    obtain rfl := hnil rfl
    have hn : news = [] := by
      cases news with
      | nil => rfl
      | cons y l => obtain ⟨ad, c, e, -⟩ := hj 0 y rfl; cases e
    subst hn
    exact .inl ⟨rfl, rfl⟩
  | some ad =>
    refine .inr ⟨ad, lc, rfl, fun j y hy => ?_⟩
    obtain ⟨ad', c, e, -, h3, h4⟩ := hj j y hy
    cases e
    exact ⟨c, h3, E.kept (fun b hb => hS b hb.1 hb.2) (fun _ _ _ => rfl) h4⟩
end Go.Proofs.Ytmjdddmfhakabaa
