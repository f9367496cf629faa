/- The law SubstComposes returns true at every input. -/
import Derived.Test.YtmjdddmfhakabaaQE
namespace Go.Proofs.Ytmjdddmfhakabaa
open Go.RowKit Go.Sort Go.Shelf Go.Maps Mth

set_option maxRecDepth 100000 in
set_option maxHeartbeats 20000000 in
theorem substComposes_any (bits : Int) (cv : Value) (zs : List Int) (w : World) (hz : Ints w cv zs) :
    Calls Try.prog 3 #[.int .i64 bits, cv] w fun e w' => e = .returned (.bool true) ∧ RowKit.Below w.heap.size w w' := by
  have HZ := Lib.hid hz
  obtain ⟨ca, cc, rfl, -, -, -⟩ := hz
  have HFi := Lib.hid (fun w => first13_any w)
  have HFw : Hid (∀ w', RowKit.Below w.heap.size w w' → Calls Try.prog 9 #[.slice ca zs.length cc] w' fun e w'' => e = .returned (.bool (decide (zs.length ≤ 60))) ∧ w' = w'') := fun w' hb => few_any _ zs w' (HZ.out.lift hb)
  have HMd : Hid (zs.length ≤ 60 → ∀ w', RowKit.Below w.heap.size w w' → Calls Try.prog 10 #[.int .i64 bits, .slice ca zs.length cc] w' _) := fun h w' hb => made13_any bits _ zs w' (by omega) (HZ.out.lift hb)
  have HBM : Hid (∀ w : World, Zero (w.alloc (.cells #[.int .i64 0, .string ⟨#[]⟩, .int .i64 0, .int .i64 0, .slice none 0 0] 28)) w.heap.size) := fun w => Box.made _ _ _ _ _ _
  have HAl : Hid (∀ (w : World) (o : Obj), RowKit.Below w.heap.size w (w.alloc o)) := fun w o => (Below.refl _ w).alloc (Nat.le_refl _) _
  generalize zs.length = zn at *
  cases hfw : decide (zn ≤ 60)
  all_goals
    rw [hfw] at HFw
    have HFwp := Lib.hid hfw
    clear hfw
    go_enter Try.func3, Try.ntmps3
    go_wp2_with fail
    go_at_call 8
    refine (HFi.out _).mono ?_
    rintro e w1 ⟨rfl, hb1⟩
    go_wp2_with (go_at_call 9; refine (HFw.out _ hb1).mono ?_; rintro e w3 ⟨rfl, rfl⟩)
  · go_ret
    exact ⟨rfl, hb1⟩
  refine (HMd.out (of_decide_eq_true HFwp.out) _ hb1).mono ?_
  rintro e w4 ⟨b, σ, τ, T, u1, u2, u3, rfl, hb, hs1, hs2, hrep, ho1, ho2, ho3, htq, hb4⟩
  have HU1 := Lib.hid hs1
  have HU2 := Lib.hid hs2
  have HR := Lib.hid hrep
  have HO1 := Lib.hid ho1
  have HO2 := Lib.hid ho2
  have HO3 := Lib.hid ho3
  have HTq := Lib.hid htq
  have hb4' := hb1.trans (hb4.mono hb1.size)
  obtain ⟨ua, uc, rfl, -⟩ := hs1.slice
  obtain ⟨va, vc, rfl, -⟩ := hs2.slice
  obtain ⟨tk, tn, ti, th, ta, tm, tc, rfl⟩ := hrep.form
  have HBb := Lib.hid hb
  clear hs1 hs2 hrep ho1 ho2 ho3 htq hb4 hb hb1 HMd HFi HFw
  obtain ⟨n1, hn1⟩ : ∃ n, n = σ.length := ⟨_, rfl⟩
  obtain ⟨n2, hn2⟩ : ∃ n, n = τ.length := ⟨_, rfl⟩
  rw [← hn1] at HU1 ⊢
  rw [← hn2] at HU2 ⊢
  clear hn1 hn2
  go_upto_region 6 with (refine wpList_store5 rfl _ _ rfl _ _ _ _ _ _ (HBM.out _) rfl _ _ _ _ _ _ _ rfl ?_; intro w5 hB5 hg5 hs5)
  have hb45 : RowKit.Below w4.heap.size w4 w5 := Below.grown (HAl.out _ _) hg5 (HAl.out _ _).size (fun k hk => by cases hk; exact Nat.le_refl _)
  have HLow := Lib.hid (hb4'.trans (hb45.mono hb4'.size))
  have HV1 : Hid (SlG AsE w5 (fun c => b < c) σ (.slice ua n1 uc)) := SlG.kept (fun _ h => h) (fun c _ hl => hb45.block c hl) HU1.out
  have HV2 : Hid (SlG AsE w5 (fun c => b < c) τ (.slice va n2 vc)) := SlG.kept (fun _ h => h) (fun c _ hl => hb45.block c hl) HU2.out
  have HR5 := Lib.hid (HR.out.lift hb45)
  have HTq5 := Lib.hid (HTq.out.lift hb45)
  have HBx := Lib.hid hB5
  clear hB5 hg5 hs5 hb45 hb4' HU1 HU2 HR HTq
  generalize w4.heap.size = B at *
  have HCm : Hid (Calls Try.prog 11 #[.slice ua n1 uc, .slice va n2 vc] w5 _) := compose_any σ τ _ _ w5 HO1.out.len HO2.out.len (fun p hp => by have := HO1.out.nodes p hp; omega) (asL_of HV1.out (Below.refl _ _)) (asL_of HV2.out (Below.refl _ _))
  have HRc : Hid (∀ W, RowKit.Below w5.heap.size w5 W → Calls Try.prog 13 #[.slice ua n1 uc, .slice va n2 vc] W _) := fun W hb => refCompose_any σ τ _ _ W HO1.out.len HO2.out.len (fun p hp => by have := HO1.out.nodes p hp; omega) (asL_of HV1.out hb) (asL_of HV2.out hb)
  have HAb : Hid (∀ u W, RowKit.Below w5.heap.size w5 W → Rep W (fun _ => True) (repl σ T) u → Calls Try.prog 16 #[.slice va n2 vc, u] W fun e w' => ∃ r, e = .returned r ∧ Rep w' (fun _ => True) (repl (cmpS σ τ) T) r ∧ RowKit.Below W.heap.size W w') := fun u W hb h => by
    have h1 := nodes_repl σ 3 (by decide) HO1.out.nodes T
    have h2 := ok3 HO3.out
    rw [repl_cmp]
    exact refApply_any τ (repl σ T) u _ (fun _ => True) (fun b => True ∧ b < W.heap.size) W (by omega) ((asL_of HV2.out hb).bound) (fun _ h => h) (fun _ _ => trivial) h
  have HAa : Hid (∀ W, RowKit.Below w5.heap.size w5 W → Calls Try.prog 16 #[.slice ua n1 uc, .agg #[.int .i64 tk, .string tn, .int .i64 ti, .int .i64 th, .slice ta tm tc]] W fun e w' => ∃ r, e = .returned r ∧ Rep w' (fun _ => True) (repl σ T) r ∧ RowKit.Below W.heap.size W w') := fun W hb => by
    have h2 := ok3 HO3.out
    exact refApply_any σ T _ _ (fun _ => True) (fun b => True ∧ b < W.heap.size) W (by omega) ((asL_of HV1.out hb).bound) (fun _ h => h) (fun _ _ => trivial) ((HR5.out.imp fun _ _ => trivial).lift hb)
  have HAc : Hid (∀ c n cc' W, RowKit.Below w5.heap.size w5 W → AsL W (fun _ => True) (cmpS σ τ) (.slice c n cc') → Calls Try.prog 15 #[.slice c n cc', .agg #[.int .i64 tk, .string tn, .int .i64 ti, .int .i64 th, .slice ta tm tc]] W fun e w' => ∃ r, e = .returned r ∧ Rep w' (fun _ => True) (repl (cmpS σ τ) T) r ∧ RowKit.Below W.heap.size W w') := fun c n cc' W hb h => by
    have h2 := ok3 HO3.out
    exact apply_any (cmpS σ τ) T _ _ (fun _ => True) (fun b => True ∧ b < W.heap.size) W (by omega) h.bound (fun _ h => h) (fun _ _ => trivial) ((HR5.out.imp fun _ _ => trivial).lift hb)
  have HEq : Hid (∀ u v W, Rep W (fun _ => True) (repl (cmpS σ τ) T) u → Rep W (fun _ => True) (repl (cmpS σ τ) T) v → Calls Try.prog 14 #[u, v] W fun e w' => e = .returned (.bool true) ∧ RowKit.Below W.heap.size W w') := fun u v W h1 h2 => by
    have := refEqual_any _ _ (Nat.le_refl _) (repl (cmpS σ τ) T) u v _ _ W h1 h2
    rwa [teq_id] at this
  go_upto_region 7 with (go_at_call 11; refine HCm.out.mono ?_; rintro e w6 ⟨c, rfl, hc, hb6⟩)
  have HC6 := Lib.hid hc
  obtain ⟨c1, c2, rfl, -⟩ := hc.slice
  have HLow6 := Lib.hid (HLow.out.trans (hb6.mono HLow.out.size))
  have HB56 := Lib.hid hb6
  obtain ⟨b0, b1, b2, b3, b4⟩ := (Box.lift HBx.out hb6).cells
  clear hc hb6 HCm
  generalize (cmpS σ τ).length = n3 at *
  have HSm : Hid (∀ v W, RowKit.Below w6.heap.size w6 W → AsL W (fun _ => True) (cmpS σ τ) v → Calls Try.prog 12 #[.slice c1 n3 c2, v] W fun e w' => e = .returned (.bool true) ∧ RowKit.Below W.heap.size W w') := fun v W hb h => same_any (cmpS σ τ) _ v W (HC6.out.lift hb) h
  go_wp2_with fail
  go_region_held3 (fun w' => w'.cell? ⟨B, 0, none⟩ = some (.int .i64 tk) ∧ w'.cell? ⟨B, 1, none⟩ = some (.string tn) ∧ w'.cell? ⟨B, 2, none⟩ = some (.int .i64 ti) ∧ w'.cell? ⟨B, 3, none⟩ = some (.int .i64 th) ∧ w'.cell? ⟨B, 4, none⟩ = some (.slice ta tm tc) ∧ RowKit.Below w6.heap.size w6 w')
    (first
      | (go_split_ands; exact keep5' (by assumption) (by assumption) (by assumption) (by assumption) (by assumption) (by assumption) hb)
      | exact ⟨b0, b1, b2, b3, b4, (Below.refl _ w6).drew⟩)
    (first
      | (go_at_call 13; (with_reducible refine (HRc.out _ ?_).mono ?_); (go_split_ands; exact keepB HB56.out (by assumption)); rintro e w' ⟨d, rfl, hd, hb⟩; have HD := Lib.hid hd; clear hd)
      | (go_at_call 12; (with_reducible refine (HSm.out d _ ?_ HD.out).mono ?_); (go_split_ands; assumption); rintro e w' ⟨rfl, hb⟩)
      | (go_at_call 15; (with_reducible refine (HAc.out _ _ _ _ ?_ ?_).mono ?_); (go_split_ands; exact keepB HB56.out (by assumption)); (go_split_ands; exact HC6.out.lift (by assumption)); rintro e w' ⟨p1, rfl, hp, hb⟩; have HP1 := Lib.hid hp; clear hp)
      | (go_at_call 16; (with_reducible refine (HAa.out _ ?_).mono ?_); (go_split_ands; exact keepB HB56.out (by assumption)); rintro e w' ⟨p2, rfl, hp, hb⟩; have HP1b := Lib.hid (HP1.out.lift hb); have HP2 := Lib.hid hp; clear hp)
      | (go_at_call 16; (with_reducible refine (HAb.out p2 _ ?_ HP2.out).mono ?_); (go_split_ands; exact keepB HB56.out (by assumption)); rintro e w' ⟨p3, rfl, hp, hb⟩; have HP1c := Lib.hid (HP1b.out.lift hb); have HP3 := Lib.hid hp; clear hp)
      | (go_at_call 14; (with_reducible refine (HEq.out p1 p3 _ HP1c.out HP3.out).mono ?_); rintro e w' ⟨rfl, hb⟩))
  all_goals
    go_split_ands
    have hbF : RowKit.Below w6.heap.size w6 w' := by assumption
    clear b0 b1 b2 b3 b4
    go_wp2
    go_ret
    exact ⟨rfl, HLow6.out.trans (hbF.mono HLow6.out.size)⟩
end Go.Proofs.Ytmjdddmfhakabaa
