/- The law SubstValid returns true at every input. -/
import Derived.Test.YtmjdddmfhakabaaQE
namespace Go.Proofs.Ytmjdddmfhakabaa
open Go.RowKit Go.Sort Go.Shelf Go.Maps Mth

set_option maxRecDepth 100000 in
set_option maxHeartbeats 20000000 in
theorem substValid_any (bits : Int) (cv : Value) (zs : List Int) (rv : Value) (raw : List (Int × Ty)) (w : World) (hz : Ints w cv zs) (hr : AsL w (fun _ => True) raw rv) (hk : KeyOk raw) :
    Calls Try.prog 5 #[.int .i64 bits, cv, rv] w fun e w' => e = .returned (.bool true) ∧ RowKit.Below w.heap.size w w' := by
  have HZ := Lib.hid hz
  obtain ⟨ca, cc, rfl, -, -, -⟩ := hz
  have HRA := Lib.hid hr
  have HKr := Lib.hid hk
  obtain ⟨ra, rc, rfl, ⟨hrc, hrc2⟩, hrj⟩ := hr.bound
  have HRJ := Lib.hid hrj
  unfold maxLen at hrc2
  obtain ⟨m, hm⟩ : ∃ m, m = raw.length := ⟨_, rfl⟩
  rw [← hm] at hrc HRA ⊢
  have HM := Lib.hid hm
  clear hm hrj hr hk
  have HFi := Lib.hid (fun w => first13_any w)
  have HFw : Hid (∀ w', RowKit.Below w.heap.size w w' → Calls Try.prog 9 #[.slice ca zs.length cc] w' fun e w'' => e = .returned (.bool (decide (zs.length ≤ 60))) ∧ w' = w'') := fun w' hb => few_any _ zs w' (HZ.out.lift hb)
  have HMx : Hid (zs.length ≤ 60 → ∀ w', RowKit.Below w.heap.size w w' → Calls Try.prog 10 #[.int .i64 bits, .slice ca zs.length cc] w' _) := fun h w' hb => made13x_any bits _ zs w' (by omega) (HZ.out.lift hb)
  have HBM : Hid (∀ w : World, Zero (w.alloc (.cells #[.int .i64 0, .string ⟨#[]⟩, .int .i64 0, .int .i64 0, .slice none 0 0] 28)) w.heap.size) := fun w => Box.made _ _ _ _ _ _
  have HAl : Hid (∀ (w : World) (o : Obj), RowKit.Below w.heap.size w (w.alloc o)) := fun w o => (Below.refl _ w).alloc (Nat.le_refl _) _
  generalize zs.length = zn at *
  cases hfw : decide (zn ≤ 60) <;> cases hln : decide ((6 : Int) < (m : Int))
  all_goals
    rw [hfw] at HFw
    have HFwp := Lib.hid hfw
    clear hfw
    go_enter Try.func5, Try.ntmps5
    go_wp2_with fail
    go_at_call 8
    refine (HFi.out _).mono ?_
    rintro e w1 ⟨rfl, hb1⟩
    go_wp2_with (go_at_call 9; refine (HFw.out _ hb1).mono ?_; rintro e w3 ⟨rfl, rfl⟩)
  any_goals (go_ret; exact ⟨rfl, hb1⟩)
  have hm6 : m ≤ 6 := by have := of_decide_eq_false hln; omega
  clear hln
  have HSy : Hid (∀ T u W, Rep W (fun _ => True) T u → Calls Try.prog 20 #[u, .int .i64 30] W _) := fun T u W h => smallType30_any T u _ W h
  have H0 : Hid (∀ p ∈ raw.take 0, nodes p.2 ≤ 30) := fun p hp => by simp at hp
  go_wp2
  go_loopw [7] (fun x wr => ∃ j : Nat, j ≤ m ∧ x = .int .i64 j ∧ Hid (∀ p ∈ raw.take j, nodes p.2 ≤ 30) ∧ RowKit.Below w.heap.size w wr) (fun x _ => m - (intOf x).toNat)
  case atStart => exact ⟨0, Nat.zero_le _, rfl, H0, hb1⟩
  case round =>
   clear H0 hb1
   obtain ⟨j, hj, rfl, HSl, hb1⟩ := hrel
   by_cases hlt : j < m
   · obtain ⟨p, hp⟩ : ∃ x, raw[j]? = some x := ⟨_, List.getElem?_eq_getElem (by rw [← HM.out]; exact hlt)⟩
     obtain ⟨ad, k', n', i', h', s', rfl, hS, h6, hx⟩ := HRJ.out j p hp
     obtain ⟨q0, q1, q2, q3, q4, q5⟩ := h6.up _ hb1
     obtain ⟨_, _, _, _, _, -, hv, hn2, hs2⟩ := hx.open
     simp at hv
     obtain ⟨rfl, rfl, rfl, rfl, rfl⟩ := hv
     obtain ⟨sa', sc', rfl, -⟩ := hs2
     have HTk : Hid (nodes p.2 ≤ 30 → ∀ q ∈ raw.take (j + 1), nodes q.2 ≤ 30) := fun h q hq => by
       rw [List.take_add_one, hp] at hq
       rcases List.mem_append.1 hq with hq | hq
       · exact HSl.out q hq
       · simp at hq; subst hq; exact h
     have HS1 := Lib.hid (HSy.out p.2 _ _ ((hx.imp fun _ _ => trivial).lift hb1))
     clear h6 hx hS hn2 hp
     have hji : (j : Int) < (m : Int) := by omega
     generalize p.2.ts.length = sn' at *
     cases hd : decide (nodes p.2 ≤ 30)
     all_goals
       rw [hd] at HS1
       go_wp2_with (go_at_call 20; refine HS1.out.mono ?_; rintro e w2 ⟨rfl, hb2⟩)
     · go_ret
       exact ⟨rfl, hb1.trans (hb2.mono hb1.size)⟩
     · go_roundw
       case rel => exact ⟨j + 1, hlt, by go_num, HTk.out (of_decide_eq_true hd), hb1.trans (hb2.mono hb1.size)⟩
       case measure => simp [intOf]; omega
   · have HSm : Hid (∀ p ∈ raw, nodes p.2 ≤ 30) := by
       have := HSl.out
       rwa [List.take_of_length_le (by rw [← HM.out]; omega)] at this
     clear HSl HSy
     go_wp2_with fail
     go_at_call 10
     refine (HMx.out (of_decide_eq_true HFwp.out) _ hb1).mono ?_
     rintro e w4 ⟨b, σ, τ, T, u1, u2, u3, rfl, hb, hs1, hs2, hrep, ho1, ho2, ho3, htq, hb4, hnl1, hnl2⟩
     have HU1 := Lib.hid hs1
     have HNl1 := Lib.hid hnl1
     have HNl2 := Lib.hid hnl2
     clear hnl1 hnl2
     have HU2 := Lib.hid hs2
     have HR := Lib.hid hrep
     have HO1 := Lib.hid ho1
     have HO2 := Lib.hid ho2
     have HO3 := Lib.hid ho3
     have HTq := Lib.hid htq
     have hb4' := hb1.trans (hb4.mono hb1.size)
     obtain ⟨ua, uc, rfl, -⟩ := hs1.slice
     obtain ⟨va, vc, rfl, -⟩ := hs2.slice
     obtain ⟨tk, tn, ti, th, ta, tm, tc, rfl⟩ := hrep.form
     have HBb := Lib.hid hb
     have HW1 := Lib.hid hb1.size
     clear hs1 hs2 hrep ho1 ho2 ho3 htq hb4 hb hb1 HMx HFi HFw
     obtain ⟨n1, hn1⟩ : ∃ n, n = σ.length := ⟨_, rfl⟩
     obtain ⟨n2, hn2⟩ : ∃ n, n = τ.length := ⟨_, rfl⟩
     rw [← hn1] at HU1 ⊢
     rw [← hn2] at HU2 ⊢
     clear hn1 hn2
     go_upto_region 11 with (refine wpList_store5 rfl _ _ rfl _ _ _ _ _ _ (HBM.out _) rfl _ _ _ _ _ _ _ rfl ?_; intro w5 hB5 hg5 hs5)
     have hb45 : RowKit.Below w4.heap.size w4 w5 := Below.grown (HAl.out _ _) hg5 (HAl.out _ _).size (fun k hk => by cases hk; exact Nat.le_refl _)
     have HLow := Lib.hid (hb4'.trans (hb45.mono hb4'.size))
     have HV1 : Hid (SlG AsE w5 (fun c => b < c) σ (.slice ua n1 uc)) := SlG.kept (fun _ h => h) (fun c _ hl => hb45.block c hl) HU1.out
     have HV2 : Hid (SlG AsE w5 (fun c => b < c) τ (.slice va n2 vc)) := SlG.kept (fun _ h => h) (fun c _ hl => hb45.block c hl) HU2.out
     have HR5 := Lib.hid (HR.out.lift hb45)
     have HTq5 := Lib.hid (HTq.out.lift hb45)
     have HBx := Lib.hid hB5
     clear hB5 hg5 hs5 hb45 hb4' HU1 HU2 HR HTq
     generalize w4.heap.size = B at *
     clear HBx HTq5 HR5
     have KS : Hid (KeyOk σ) := fun p hp => by have := HO1.out.2 p hp; omega
     have KT : Hid (KeyOk τ) := fun p hp => by have := HO2.out.2 p hp; omega
     have KST : Hid (KeyOk (σ ++ τ)) := fun p hp => by
       rcases List.mem_append.1 hp with h | h
       · exact KS.out p h
       · exact KT.out p h
     have N1 : Hid (∀ p ∈ σ, nodes p.2 ≤ 1000) := fun p hp => by have := HO1.out.nodes p hp; omega
     have N12 : Hid (∀ p ∈ σ ++ τ, nodes p.2 ≤ 1000) := fun p hp => by
       rcases List.mem_append.1 hp with h | h
       · have := HO1.out.nodes p h; omega
       · have := HO2.out.nodes p h; omega
     have N0 : Hid (∀ p ∈ raw, nodes p.2 ≤ 1000) := fun p hp => by have := HSm.out p hp; omega
     have L1 : Hid (σ.length ≤ 4) := HO1.out.1
     have L2 : Hid (τ.length ≤ 4) := HO2.out.1
     have hlb1 : σ.length ≤ 1000000 := by have := L1.out; omega
     have hlb2 : σ.length + τ.length ≤ 1000000 := by have := L1.out; have := L2.out; omega
     go_wp2_with (first
       | (at_builtin; refine wpList_cloneG AsE rfl _ _ rfl rfl σ (.slice ua n1 uc) _ HV1.out rfl hlb1 ?_; intro a6 c6 w6 hrow hb6; have HRw6 := Lib.hid hrow; have HB6 := Lib.hid hb6; clear hrow hb6)
       | (refine wpList_pushS AsE rfl _ _ rfl w5.heap.size (fun b => True) (.slice a6 σ.length c6) σ rfl (HRw6.out.weaken fun _ _ _ _ => trivial) va n2 vc rfl (fun e => HNl2.out _ _ (by rw [e])) τ (fun c => b < c ∧ c < w5.heap.size) (SlG.kept (fun _ h => h) (fun c _ hl => HB6.out.block c hl) HV2.out.bound) (fun c hc _ => ⟨trivial, fun e => by have := (HRw6.out.lt c e.symm).1; omega⟩) hlb2 HB6.out.size ?_; intro v7 w7 hrow hg; obtain ⟨a7, c7, rfl, -, -⟩ := hrow.slice; have HRw7 := Lib.hid hrow; have HB7 : Hid (RowKit.Below w5.heap.size w5 w7) := Below.grown HB6.out hg HB6.out.size (fun k e => (HRw6.out.lt k e).1); clear hrow hg))
     have HW7 := Lib.hid (keepB HLow.out HB7.out)
     have HE : Hid (∀ j : Nat, j < 3 → ∃ (ρ : List (Int × Ty)) (la : Option Addr) (ln lc : Nat), (w7.alloc (.cells #[.slice ra m rc, .slice ua n1 uc, .slice a7 (σ.length + τ.length) c7] 25)).cell? ⟨w7.heap.size, j, none⟩ = some (.slice la ln lc) ∧ AsL (w7.alloc (.cells #[.slice ra m rc, .slice ua n1 uc, .slice a7 (σ.length + τ.length) c7] 25)) (fun _ => True) ρ (.slice la ln lc) ∧ ρ.length ≤ 1000 ∧ KeyOk ρ ∧ ∀ p ∈ ρ, nodes p.2 ≤ 1000) := by
       intro j hj
       have hal := HAl.out w7 (.cells #[.slice ra m rc, .slice ua n1 uc, .slice a7 (σ.length + τ.length) c7] 25)
       have hl1 := L1.out
       have hl2 := L2.out
       match j, hj with
       | 0, _ => exact ⟨raw, _, _, _, (cell_of_block (heap_alloc_new w7 _) (m := 0) rfl).1, (HRA.out.lift HW7.out).lift hal, by have := HM.out; omega, HKr.out, N0.out⟩
       | 1, _ => exact ⟨σ, _, _, _, (cell_of_block (heap_alloc_new w7 _) (m := 1) rfl).1, (asL_of HV1.out HB7.out).lift hal, by omega, KS.out, N1.out⟩
       | 2, _ => exact ⟨σ ++ τ, _, _, _, (cell_of_block (heap_alloc_new w7 _) (m := 2) rfl).1, (slG_asL (by have := HRw7.out.slG (S' := fun _ => True) (fun _ _ => trivial) (fun _ _ => trivial); rwa [List.length_append] at this)).lift hal, by rw [List.length_append]; omega, KST.out, N12.out⟩
     have HW8 := Lib.hid (keepB HW7.out (HAl.out w7 (.cells #[.slice ra m rc, .slice ua n1 uc, .slice a7 (σ.length + τ.length) c7] 25)))
     clear HRw7 HRw6 HB6 HB7 HW7 HV1 HV2 HLow L1 L2 KS KT KST N0 N1 N12 HNl1 HNl2 HRA HRJ HSm hlb1 hlb2
     generalize (w7.alloc (.cells #[.slice ra m rc, .slice ua n1 uc, .slice a7 (σ.length + τ.length) c7] 25)) = w8 at *
     generalize w7.heap.size = D at *
     generalize wr = wq at *
     go_loopw [53] (fun x wr => ∃ j : Nat, j ≤ 3 ∧ x = .int .i64 j ∧ RowKit.Below w8.heap.size w8 wr) (fun x _ => 3 - (intOf x).toNat)
     case atStart => exact ⟨0, Nat.zero_le _, rfl, Below.refl _ _⟩
     case round =>
       obtain ⟨i, hi, rfl, hbi⟩ := hrel
       by_cases hlt3 : i < 3
       · obtain ⟨ρ, la, ln, lc, hc, has, hln, hkk, hnn⟩ := HE.out i hlt3
         have hci := (hbi.cell (World.block_lt_of_cell? _ _ hc)).trans hc
         have hi3 : (i : Int) < 3 := by omega
         have HP1 : Hid (∀ W', RowKit.Below wr.heap.size wr W' → Calls Try.prog 21 #[.slice la ln lc] W' fun e w' => e = .returned (.bool (vS ρ)) ∧ RowKit.Below W'.heap.size W' w') := fun W' hb => validS_any ρ _ W' hln hkk (has.lift (keepB hbi hb))
         have HP2 : Hid (∀ W', RowKit.Below wr.heap.size wr W' → Calls Try.prog 22 #[.slice la ln lc] W' fun e w' => e = .returned (.bool (vS ρ)) ∧ RowKit.Below W'.heap.size W' w') := fun W' hb => refValidS_any ρ _ W' hln (has.lift (keepB hbi hb))
         have HP3 : Hid (vS ρ = true → ∀ W', RowKit.Below wr.heap.size wr W' → Calls Try.prog 23 #[.slice la ln lc] W' fun e w' => e = .returned (.bool (idS ρ)) ∧ RowKit.Below W'.heap.size W' w') := fun hv W' hb => idem_any ρ _ W' hln hnn hv (has.lift (keepB hbi hb))
         have HP4 : Hid (vS ρ = true → ∀ W', RowKit.Below wr.heap.size wr W' → Calls Try.prog 24 #[.slice la ln lc] W' fun e w' => e = .returned (.bool (idS ρ)) ∧ RowKit.Below W'.heap.size W' w') := fun hv W' hb => refIdem_any ρ _ W' hln hnn hv (has.lift (keepB hbi hb))
         have hrf : RowKit.Below wr.heap.size wr wr := Below.refl _ _
         clear hc has hln hkk hnn
         cases hv : vS ρ with
         | false =>
           rw [hv] at HP1 HP2
           clear HP3 HP4 hv
           go_wp2_with (first
             | (go_at_call 21; refine (HP1.out _ hrf).mono ?_; rintro e wa ⟨rfl, hba⟩)
             | (go_at_call 22; with_reducible refine (HP2.out _ hba).mono ?_; rintro e wb ⟨rfl, hbb⟩; have hbb' := keepB hba hbb)
             | (go_at_call 22; with_reducible refine (HP2.out _ hbb').mono ?_; rintro e wc ⟨rfl, hbc⟩; have hbc' := keepB hbb' hbc))
           go_roundw
           case rel => exact ⟨i + 1, hlt3, by go_num, keepB hbi hbc'⟩
           case measure => simp [intOf]; omega
         | true =>
           have HQ3 := Lib.hid (HP3.out hv)
           have HQ4 := Lib.hid (HP4.out hv)
           rw [hv] at HP1 HP2
           clear HP3 HP4 hv
           generalize idS ρ = q at *
           cases q
           all_goals
             go_wp2_with (first
               | (go_at_call 21; refine (HP1.out _ hrf).mono ?_; rintro e wa ⟨rfl, hba⟩)
               | (go_at_call 22; with_reducible refine (HP2.out _ hba).mono ?_; rintro e wb ⟨rfl, hbb⟩; have hbb' := keepB hba hbb)
               | (go_at_call 22; with_reducible refine (HP2.out _ hbb').mono ?_; rintro e wc ⟨rfl, hbc⟩; have hbc' := keepB hbb' hbc)
               | (go_at_call 23; with_reducible refine (HQ3.out _ hbc').mono ?_; rintro e wd ⟨rfl, hbd⟩; have hbd' := keepB hbc' hbd)
               | (go_at_call 24; with_reducible refine (HQ4.out _ hbd').mono ?_; rintro e we ⟨rfl, hbe⟩; have hbe' := keepB hbd' hbe))
             go_roundw
             case rel => exact ⟨i + 1, hlt3, by go_num, keepB hbi hbe'⟩
             case measure => simp [intOf]; omega
       · obtain rfl : i = 3 := by omega
         go_wp2
         go_ret
         exact ⟨rfl, keepB HW8.out hbi⟩
end Go.Proofs.Ytmjdddmfhakabaa
