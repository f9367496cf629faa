/- The law SubstAssociates returns true at every input. -/
import Derived.Test.YtmjdddmfhakabaaQE
namespace Go.Proofs.Ytmjdddmfhakabaa
open Go.RowKit Go.Sort Go.Shelf Go.Maps Mth

set_option maxRecDepth 100000 in
set_option maxHeartbeats 20000000 in
theorem substAssociates_any (bits : Int) (cv : Value) (zs : List Int) (w : World) (hz : Ints w cv zs) :
    Calls Try.prog 4 #[.int .i64 bits, cv] w fun e w' => e = .returned (.bool true) ∧ RowKit.Below w.heap.size w w' := by
  have HZ := Lib.hid hz
  obtain ⟨ca, cc, rfl, -, -, -⟩ := hz
  have HFi := Lib.hid (fun w => first13_any w)
  have HFw : Hid (∀ w', RowKit.Below w.heap.size w w' → Calls Try.prog 9 #[.slice ca zs.length cc] w' fun e w'' => e = .returned (.bool (decide (zs.length ≤ 60))) ∧ w' = w'') := fun w' hb => few_any _ zs w' (HZ.out.lift hb)
  have HMd : Hid (zs.length ≤ 60 → ∀ w', RowKit.Below w.heap.size w w' → Calls Try.prog 10 #[.int .i64 bits, .slice ca zs.length cc] w' _) := fun h w' hb => made13_any bits _ zs w' (by omega) (HZ.out.lift hb)
  have HBM : Hid (∀ w : World, Zero (w.alloc (.cells #[.int .i64 0, .string ⟨#[]⟩, .int .i64 0, .int .i64 0, .slice none 0 0] 28)) w.heap.size) := fun w => Box.made _ _ _ _ _ _
  have HAl : Hid (∀ (w : World) (o : Obj), RowKit.Below w.heap.size w (w.alloc o)) := fun w o => (Below.refl _ w).alloc (Nat.le_refl _) _
  generalize zs.length = zn at *
  cases hfw : decide (zn ≤ 60)
  all_goals
    rw [hfw] at HFw
    have HFwp := Lib.hid hfw
    clear hfw
    go_enter Try.func4, Try.ntmps4
    go_wp2_with fail
    go_at_call 8
    refine (HFi.out _).mono ?_
    rintro e w1 ⟨rfl, hb1⟩
    go_wp2_with (go_at_call 9; refine (HFw.out _ hb1).mono ?_; rintro e w3 ⟨rfl, rfl⟩)
  · go_ret
    exact ⟨rfl, hb1⟩
  refine (HMd.out (of_decide_eq_true HFwp.out) _ hb1).mono ?_
  rintro e w4 ⟨b, σ, τ, T, u1, u2, u3, rfl, hb, hs1, hs2, hrep, ho1, ho2, ho3, htq, hb4⟩
  have HU1 := Lib.hid hs1
  have HU2 := Lib.hid hs2
  have HR := Lib.hid hrep
  have HO1 := Lib.hid ho1
  have HO2 := Lib.hid ho2
  have HO3 := Lib.hid ho3
  have HTq := Lib.hid htq
  have hb4' := hb1.trans (hb4.mono hb1.size)
  obtain ⟨ua, uc, rfl, -⟩ := hs1.slice
  obtain ⟨va, vc, rfl, -⟩ := hs2.slice
  obtain ⟨tk, tn, ti, th, ta, tm, tc, rfl⟩ := hrep.form
  have HBb := Lib.hid hb
  have HW1 := Lib.hid hb1.size
  clear hs1 hs2 hrep ho1 ho2 ho3 htq hb4 hb hb1 HMd HFi HFw
  obtain ⟨n1, hn1⟩ : ∃ n, n = σ.length := ⟨_, rfl⟩
  obtain ⟨n2, hn2⟩ : ∃ n, n = τ.length := ⟨_, rfl⟩
  rw [← hn1] at HU1 ⊢
  rw [← hn2] at HU2 ⊢
  clear hn1 hn2
  go_upto_region 6 with (refine wpList_store5 rfl _ _ rfl _ _ _ _ _ _ (HBM.out _) rfl _ _ _ _ _ _ _ rfl ?_; intro w5 hB5 hg5 hs5)
  have hb45 : RowKit.Below w4.heap.size w4 w5 := Below.grown (HAl.out _ _) hg5 (HAl.out _ _).size (fun k hk => by cases hk; exact Nat.le_refl _)
  have HLow := Lib.hid (hb4'.trans (hb45.mono hb4'.size))
  have HV1 : Hid (SlG AsE w5 (fun c => b < c) σ (.slice ua n1 uc)) := SlG.kept (fun _ h => h) (fun c _ hl => hb45.block c hl) HU1.out
  have HV2 : Hid (SlG AsE w5 (fun c => b < c) τ (.slice va n2 vc)) := SlG.kept (fun _ h => h) (fun c _ hl => hb45.block c hl) HU2.out
  have HR5 := Lib.hid (HR.out.lift hb45)
  have HTq5 := Lib.hid (HTq.out.lift hb45)
  have HBx := Lib.hid hB5
  clear hB5 hg5 hs5 hb45 hb4' HU1 HU2 HR HTq
  generalize w4.heap.size = B at *
  have HD := Lib.hid (fun w => datas_any bits w)
  have HSb := Lib.hid (mkSubst_any 4 (by decide) leaf4)
  clear HBx
  go_wp2_with fail
  go_at_call 18
  refine (HD.out _).mono ?_
  rintro e w6 ⟨ds, dv, rfl, hds, hsd, hb6⟩
  have hbl : b < w5.heap.size := HTq5.out.lt
  have HS6 := Lib.hid (HSb.out ds dv b w6 hds (hsd.kept (S' := fun c => c ≠ b) (fun c hc => by omega) (fun _ _ _ => rfl)) (HTq5.out.lift hb6))
  obtain ⟨da, dc, rfl⟩ := slG_form hsd
  have HLow6 := Lib.hid (HLow.out.trans (hb6.mono HLow.out.size))
  have HV16 : Hid (SlG AsE w6 (fun c => b < c) σ (.slice ua n1 uc)) := SlG.kept (fun _ h => h) (fun c _ hl => hb6.block c hl) HV1.out
  have HV26 : Hid (SlG AsE w6 (fun c => b < c) τ (.slice va n2 vc)) := SlG.kept (fun _ h => h) (fun c _ hl => hb6.block c hl) HV2.out
  clear hds hsd hb6 HV1 HV2 HLow HSb HD
  generalize ds.length = dn at *
  go_upto_region 7 with (go_at_call 17; refine HS6.out.mono ?_; rintro e w7 ⟨u4, γ, rfl, hsu, hok⟩)
  have hwb : w.heap.size ≤ b := Nat.le_trans HW1.out HBb.out
  have hg67 := (fun (c : Nat) (hc : b < c) (hl : c < w6.heap.size) => hsu.grown.block c hl (by intro e; have := Option.some.inj e; omega))
  have HA7 : Hid (AsL w7 (fun _ => True) σ (.slice ua n1 uc)) := slG_asL (SlG.kept (fun _ _ => trivial) hg67 HV16.out)
  have HB7 : Hid (AsL w7 (fun _ => True) τ (.slice va n2 vc)) := slG_asL (SlG.kept (fun _ _ => trivial) hg67 HV26.out)
  have HC7 : Hid (AsL w7 (fun _ => True) γ u4) := slG_asL (hsu.row.slG (fun _ _ => trivial) (fun _ _ => trivial))
  have HO4 := Lib.hid hok
  have HLow7 : Hid (RowKit.Below w.heap.size w w7) := Below.grown HLow6.out hsu.grown HLow6.out.size (fun k hk => by cases hk; exact hwb)
  obtain ⟨u4a, u4c, rfl, -, -⟩ := hsu.row.slice
  clear hsu hok hg67 HV16 HV26 HS6 HLow6
  generalize γ.length = n4 at *
  have HN7 : Hid (Ints (w7.alloc (.cells #[.int .i64 0, .int .i64 1, .int .i64 2, .int .i64 3, .int .i64 4] 3)) (.slice (some ⟨w7.heap.size, 0, none⟩) 5 5) [0, 1, 2, 3, 4]) := ints_new 3 [0, 1, 2, 3, 4] 5 rfl (by unfold maxLen; decide)
  go_upto_region 8 with fail
  have HLow8 := Lib.hid (HLow7.out.trans ((HAl.out w7 (.cells #[.int .i64 0, .int .i64 1, .int .i64 2, .int .i64 3, .int .i64 4] 3)).mono HLow7.out.size))
  have HA8 := Lib.hid (HA7.out.lift (HAl.out w7 (.cells #[.int .i64 0, .int .i64 1, .int .i64 2, .int .i64 3, .int .i64 4] 3)))
  have HB8 := Lib.hid (HB7.out.lift (HAl.out w7 (.cells #[.int .i64 0, .int .i64 1, .int .i64 2, .int .i64 3, .int .i64 4] 3)))
  have HC8 := Lib.hid (HC7.out.lift (HAl.out w7 (.cells #[.int .i64 0, .int .i64 1, .int .i64 2, .int .i64 3, .int .i64 4] 3)))
  clear HA7 HB7 HC7 HLow7
  generalize (w7.alloc (.cells #[.int .i64 0, .int .i64 1, .int .i64 2, .int .i64 3, .int .i64 4] 3)) = w8 at *
  generalize w7.heap.size = B7 at *
  have n1o := HO1.out.nodes
  have n2o := HO2.out.nodes
  have N1 := Lib.hid (fun p hp => Nat.le_trans (n1o p hp) (by decide : 3 ≤ 1000000))
  have N2 := Lib.hid (fun p hp => Nat.le_trans (n2o p hp) (by decide : 3 ≤ 1000000))
  have N12 := Lib.hid (fun p hp => Nat.le_trans (cmpS_nodes (σ := σ) (τ := τ) 3 3 (by decide) n1o n2o (by decide) p hp) (by decide : 3 * 3 ≤ 1000000))
  have L1 := Lib.hid HO1.out.len
  have L2 := Lib.hid HO2.out.len
  have L4 := Lib.hid HO4.out.len
  have L12 : Hid ((cmpS σ τ).length ≤ 1000) := by have h1 := cmpS_len σ τ; have h2 := HO1.out.1; have h3 := HO2.out.1; show _ ≤ _; omega
  have L24 : Hid ((cmpS τ γ).length ≤ 1000) := by have h1 := cmpS_len τ γ; have h2 := HO2.out.1; have h3 := HO4.out.1; show _ ≤ _; omega
  have E1 : Hid (eqS (cmpS (cmpS σ τ) γ) (cmpS σ (cmpS τ γ)) [0, 1, 2, 3, 4] = true) := eqS_of (cmp_assoc σ τ γ) _
  have E2 : Hid (eqS (cmpS σ []) σ [0, 1, 2, 3, 4] = true) := eqS_of (cmp_nil_right σ) _
  have E3 : Hid (eqS (cmpS [] σ) σ [0, 1, 2, 3, 4] = true) := eqS_of (cmp_nil_left σ) _
  clear n1o n2o
  go_wp2_with fail
  go_at_call 11
  refine (compose_any σ τ _ _ w8 L1.out L2.out N1.out HA8.out HB8.out).mono ?_
  rintro e w9 ⟨c1, rfl, hc1, hb9⟩
  have HC1 := Lib.hid hc1
  have k9 := Lib.hid hb9
  clear hc1 hb9
  go_wp2_with fail
  go_at_call 11
  refine (compose_any (cmpS σ τ) γ _ _ w9 L12.out L4.out N12.out HC1.out (HC8.out.lift k9.out)).mono ?_
  rintro e w10 ⟨d1, rfl, hd1, hb10⟩
  have HD1 := Lib.hid hd1
  have k10 := Lib.hid (keepB k9.out hb10)
  clear hd1 hb10 HC1
  go_wp2_with fail
  go_at_call 11
  refine (compose_any τ γ _ _ w10 L2.out L4.out N2.out (HB8.out.lift k10.out) (HC8.out.lift k10.out)).mono ?_
  rintro e w11 ⟨c2, rfl, hc2, hb11⟩
  have HC2 := Lib.hid hc2
  have HD1b := Lib.hid (HD1.out.lift hb11)
  have k11 := Lib.hid (keepB k10.out hb11)
  clear hc2 hb11 HD1
  go_wp2_with fail
  go_at_call 11
  refine (compose_any σ (cmpS τ γ) _ _ w11 L1.out L24.out N1.out (HA8.out.lift k11.out) HC2.out).mono ?_
  rintro e w12 ⟨d2, rfl, hd2, hb12⟩
  have HD2 := Lib.hid hd2
  have HD1c := Lib.hid (HD1b.out.lift hb12)
  have k12 := Lib.hid (keepB k11.out hb12)
  clear hd2 hb12 HD1b HC2
  go_wp2_with fail
  go_at_call 19
  refine (eqs_any (cmpS (cmpS σ τ) γ) (cmpS σ (cmpS τ γ)) [0, 1, 2, 3, 4] _ _ _ w12 HD1c.out HD2.out (HN7.out.lift k12.out)).mono ?_
  rintro e w13 ⟨he, hb13⟩
  rw [E1.out] at he
  subst he
  have k13 := Lib.hid (keepB k12.out hb13)
  clear hb13 HD1c HD2
  go_wp2_with fail
  go_at_call 11
  refine (compose_any σ [] _ _ w13 L1.out (by decide) N1.out (HA8.out.lift k13.out) (asL_nil _ _)).mono ?_
  rintro e w14 ⟨c3, rfl, hc3, hb14⟩
  have HC3 := Lib.hid hc3
  have k14 := Lib.hid (keepB k13.out hb14)
  clear hc3 hb14
  go_wp2_with fail
  go_at_call 19
  refine (eqs_any (cmpS σ []) σ [0, 1, 2, 3, 4] _ _ _ w14 HC3.out (HA8.out.lift k14.out) (HN7.out.lift k14.out)).mono ?_
  rintro e w15 ⟨he, hb15⟩
  rw [E2.out] at he
  subst he
  have k15 := Lib.hid (keepB k14.out hb15)
  clear hb15 HC3
  go_wp2_with fail
  go_at_call 11
  refine (compose_any [] σ _ _ w15 (by decide) L1.out (by intro p hp; cases hp) (asL_nil _ _) (HA8.out.lift k15.out)).mono ?_
  rintro e w16 ⟨c4, rfl, hc4, hb16⟩
  have HC4 := Lib.hid hc4
  have k16 := Lib.hid (keepB k15.out hb16)
  clear hc4 hb16
  go_wp2_with fail
  go_at_call 19
  refine (eqs_any (cmpS [] σ) σ [0, 1, 2, 3, 4] _ _ _ w16 HC4.out (HA8.out.lift k16.out) (HN7.out.lift k16.out)).mono ?_
  rintro e w17 ⟨he, hb17⟩
  rw [E3.out] at he
  subst he
  have k17 := Lib.hid (keepB k16.out hb17)
  clear hb17 HC4
  go_wp2
  go_ret
  exact ⟨rfl, keepB HLow8.out k17.out⟩
end Go.Proofs.Ytmjdddmfhakabaa
