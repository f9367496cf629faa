/- The law SubstFactors returns true at every input. -/
import Derived.Test.YtmjdddmfhakabaaQE
namespace Go.Proofs.Ytmjdddmfhakabaa
open Go.RowKit Go.Sort Go.Shelf Go.Maps Mth

set_option maxRecDepth 100000 in
set_option maxHeartbeats 20000000 in
theorem substFactors_any (bits : Int) (cv : Value) (zs : List Int) (w : World) (hz : Ints w cv zs) :
    Calls Try.prog 7 #[.int .i64 bits, cv] w fun e w' => e = .returned (.bool true) ∧ RowKit.Below w.heap.size w w' := by
  have HZ := Lib.hid hz
  obtain ⟨ca, cc, rfl, -, -, -⟩ := hz
  have HFi := Lib.hid (fun w => first13_any w)
  have HFw : Hid (∀ w', RowKit.Below w.heap.size w w' → Calls Try.prog 9 #[.slice ca zs.length cc] w' fun e w'' => e = .returned (.bool (decide (zs.length ≤ 60))) ∧ w' = w'') := fun w' hb => few_any _ zs w' (HZ.out.lift hb)
  have HMd : Hid (zs.length ≤ 60 → ∀ w', RowKit.Below w.heap.size w w' → Calls Try.prog 10 #[.int .i64 bits, .slice ca zs.length cc] w' _) := fun h w' hb => made13_any bits _ zs w' (by omega) (HZ.out.lift hb)
  have HBM : Hid (∀ w : World, Zero (w.alloc (.cells #[.int .i64 0, .string ⟨#[]⟩, .int .i64 0, .int .i64 0, .slice none 0 0] 28)) w.heap.size) := fun w => Box.made _ _ _ _ _ _
  have HAl : Hid (∀ (w : World) (o : Obj), RowKit.Below w.heap.size w (w.alloc o)) := fun w o => (Below.refl _ w).alloc (Nat.le_refl _) _
  generalize zs.length = zn at *
  cases hfw : decide (zn ≤ 60)
  all_goals
    rw [hfw] at HFw
    have HFwp := Lib.hid hfw
    clear hfw
    go_enter Try.func7, Try.ntmps7
    go_wp2_with fail
    go_at_call 8
    refine (HFi.out _).mono ?_
    rintro e w1 ⟨rfl, hb1⟩
    go_wp2_with (go_at_call 9; refine (HFw.out _ hb1).mono ?_; rintro e w3 ⟨rfl, rfl⟩)
  · go_ret
    exact ⟨rfl, hb1⟩
  refine (HMd.out (of_decide_eq_true HFwp.out) _ hb1).mono ?_
  rintro e w4 ⟨b, σ, τ, T, u1, u2, u3, rfl, hb, hs1, hs2, hrep, ho1, ho2, ho3, htq, hb4⟩
  have HU1 := Lib.hid hs1
  have HU2 := Lib.hid hs2
  have HR := Lib.hid hrep
  have HO1 := Lib.hid ho1
  have HO2 := Lib.hid ho2
  have HO3 := Lib.hid ho3
  have HTq := Lib.hid htq
  have hb4' := hb1.trans (hb4.mono hb1.size)
  obtain ⟨ua, uc, rfl, -⟩ := hs1.slice
  obtain ⟨va, vc, rfl, -⟩ := hs2.slice
  obtain ⟨tk, tn, ti, th, ta, tm, tc, rfl⟩ := hrep.form
  have HBb := Lib.hid hb
  have HW1 := Lib.hid hb1.size
  clear hs1 hs2 hrep ho1 ho2 ho3 htq hb4 hb hb1 HMd HFi HFw
  obtain ⟨n1, hn1⟩ : ∃ n, n = σ.length := ⟨_, rfl⟩
  obtain ⟨n2, hn2⟩ : ∃ n, n = τ.length := ⟨_, rfl⟩
  rw [← hn1] at HU1 ⊢
  rw [← hn2] at HU2 ⊢
  clear hn1 hn2
  go_upto_region 6 with (refine wpList_store5 rfl _ _ rfl _ _ _ _ _ _ (HBM.out _) rfl _ _ _ _ _ _ _ rfl ?_; intro w5 hB5 hg5 hs5)
  have hb45 : RowKit.Below w4.heap.size w4 w5 := Below.grown (HAl.out _ _) hg5 (HAl.out _ _).size (fun k hk => by cases hk; exact Nat.le_refl _)
  have HLow := Lib.hid (hb4'.trans (hb45.mono hb4'.size))
  have HV1 : Hid (SlG AsE w5 (fun c => b < c) σ (.slice ua n1 uc)) := SlG.kept (fun _ h => h) (fun c _ hl => hb45.block c hl) HU1.out
  have HV2 : Hid (SlG AsE w5 (fun c => b < c) τ (.slice va n2 vc)) := SlG.kept (fun _ h => h) (fun c _ hl => hb45.block c hl) HU2.out
  have HR5 := Lib.hid (HR.out.lift hb45)
  have HTq5 := Lib.hid (HTq.out.lift hb45)
  have HBx := Lib.hid hB5
  clear hB5 hg5 hs5 hb45 hb4' HU1 HU2 HR HTq
  generalize w4.heap.size = B at *
  clear HBx HTq5
  have HN5 : Hid (Ints (w5.alloc (.cells #[.int .i64 0, .int .i64 1, .int .i64 2, .int .i64 3] 3)) (.slice (some ⟨w5.heap.size, 0, none⟩) 4 4) [0, 1, 2, 3]) := ints_new 3 [0, 1, 2, 3] 4 rfl (by unfold maxLen; decide)
  go_upto_region 7 with fail
  have HLow6 := Lib.hid (keepB HLow.out (HAl.out w5 (.cells #[.int .i64 0, .int .i64 1, .int .i64 2, .int .i64 3] 3)))
  have HA6 := Lib.hid (asL_of HV1.out (HAl.out w5 (.cells #[.int .i64 0, .int .i64 1, .int .i64 2, .int .i64 3] 3)))
  have HB6 := Lib.hid (asL_of HV2.out (HAl.out w5 (.cells #[.int .i64 0, .int .i64 1, .int .i64 2, .int .i64 3] 3)))
  clear HV1 HV2 HLow HR5
  generalize (w5.alloc (.cells #[.int .i64 0, .int .i64 1, .int .i64 2, .int .i64 3] 3)) = w6 at *
  generalize w5.heap.size = B5 at *
  obtain ⟨ids, hids⟩ : ∃ l : List Int, l = [0, 1, 2, 3] := ⟨_, rfl⟩
  rw [← hids] at HN5
  have HSum : Hid (sumN σ ids ≤ 12) := by have := sumN_le HO1.out.nodes ids; rw [hids] at this ⊢; exact this
  clear hids
  have N1 := Lib.hid (fun p hp => Nat.le_trans (HO1.out.nodes p hp) (by decide : 3 ≤ 1000000))
  have L1 := Lib.hid HO1.out.len
  have L2 := Lib.hid HO2.out.len
  obtain ⟨x, hx1, hx2⟩ := fac_nil σ τ ids fun i _ => plain_at HO1.out i
  have HX1 := Lib.hid hx1
  have LX : Hid (x.length ≤ 1000) := by have h1 := facT_len σ (cmpS σ τ) ids [] x hx1; have h2 := HSum.out; show _ ≤ _; simp at h1; omega
  have E2 : Hid (eqS (cmpS σ x) (cmpS σ τ) ids = true) := eqS_on ids hx2
  have HSm : Hid (sumN σ ids ≤ 1000) := by have h2 := HSum.out; show _ ≤ _; omega
  clear hx1 hx2
  go_wp2_with fail
  go_at_call 27
  refine (factor_any σ τ ids _ _ _ w6 HSm.out HA6.out HB6.out HN5.out).mono ?_
  rintro e w7 ⟨r1, rfl, hs1, hn1, hb7⟩
  have HS1 := Lib.hid hs1
  have HN1 := Lib.hid hn1
  clear hs1 hn1
  go_upto_region 8 with fail
  go_wp2_with fail
  go_at_call 28
  refine (refFactor_any σ τ ids _ _ _ w7 HSm.out (HA6.out.lift hb7) (HB6.out.lift hb7) (HN5.out.lift hb7)).mono ?_
  rintro e w8 ⟨r2, rfl, hs2, hn2, hb8⟩
  have k8 := Lib.hid (keepB hb7 hb8)
  have HSame : Hid (∃ s, AsL w8 (fun _ => True) s r1 ∧ AsL w8 (fun _ => True) s r2) := by
    cases hf : facT σ τ ids [] with
    | none => rw [HN1.out hf, hn2 hf]; exact ⟨[], asL_nil _ _, asL_nil _ _⟩
    | some s => exact ⟨s, slG_asL (SlG.kept (fun _ h => h) (fun b _ hl => hb8.block b hl) (HS1.out s hf)), slG_asL (hs2 s hf)⟩
  clear hs2 hn2 hb7 hb8 HS1 HN1
  go_upto_region 9 with fail
  go_wp2_with fail
  go_at_call 13
  refine (refCompose_any σ τ _ _ w8 L1.out L2.out N1.out (HA6.out.lift k8.out) (HB6.out.lift k8.out)).mono ?_
  rintro e w9 ⟨c, rfl, hc, hb9⟩
  have HC := Lib.hid hc
  have HB89 := Lib.hid hb9
  have k9 := Lib.hid (keepB k8.out hb9)
  clear hc hb9
  go_upto_region 10 with fail
  go_wp2_with fail
  go_at_call 27
  refine (factor_any σ (cmpS σ τ) ids _ _ _ w9 HSm.out (HA6.out.lift k9.out) HC.out (HN5.out.lift k9.out)).mono ?_
  rintro e w10 ⟨r3, he3, hs3, -, hb10⟩
  rw [HX1.out] at he3
  subst he3
  have HS3 := Lib.hid (hs3 x HX1.out)
  have HB810 := Lib.hid (keepB HB89.out hb10)
  have k10 := Lib.hid (keepB k9.out hb10)
  have HC10 := Lib.hid (HC.out.lift hb10)
  obtain ⟨s, hsa, hsb⟩ := HSame.out
  have HSa := Lib.hid hsa
  have HSb := Lib.hid hsb
  clear hs3 hb10 hsa hsb
  generalize (facT σ τ ids []).isSome = q at *
  cases q
  all_goals
    go_upto_region 11 with fail
    go_wp2_with fail
    go_at_call 12
    refine (same_any s _ _ w10 (HSa.out.lift HB810.out) (HSb.out.lift HB810.out)).mono ?_
    rintro e w11 ⟨rfl, hb11⟩
    have k11 := Lib.hid (keepB k10.out hb11)
    go_wp2_with fail
    go_at_call 13
    refine (refCompose_any σ x _ _ w11 L1.out LX.out N1.out (HA6.out.lift k11.out) ((slG_asL HS3.out).lift hb11)).mono ?_
    rintro e w12 ⟨d, rfl, hd, hb12⟩
    have k12 := Lib.hid (keepB k11.out hb12)
    go_wp2_with fail
    go_at_call 26
    refine (refEqs_any (cmpS σ x) (cmpS σ τ) ids _ _ _ w12 hd (HC10.out.lift (keepB hb11 hb12)) (HN5.out.lift k12.out)).mono ?_
    rintro e w13 ⟨he, hb13⟩
    rw [E2.out] at he
    subst he
    go_wp2
    go_ret
    exact ⟨rfl, keepB HLow6.out (keepB k12.out hb13)⟩
end Go.Proofs.Ytmjdddmfhakabaa
