/- The law SubstEqual returns true at every input. -/
import Derived.Test.YtmjdddmfhakabaaQE
namespace Go.Proofs.Ytmjdddmfhakabaa
open Go.RowKit Go.Sort Go.Shelf Go.Maps Mth

set_option maxRecDepth 100000 in
set_option maxHeartbeats 20000000 in
theorem substEqual_any (bits : Int) (cv : Value) (zs : List Int) (iv : Value) (ids : List Int) (w : World) (hz : Ints w cv zs) (hi : Ints w iv ids) :
    Calls Try.prog 6 #[.int .i64 bits, cv, iv] w fun e w' => e = .returned (.bool true) ∧ RowKit.Below w.heap.size w w' := by
  have HZ := Lib.hid hz
  obtain ⟨ca, cc, rfl, -, -, -⟩ := hz
  have HI := Lib.hid hi
  obtain ⟨ia, ic, rfl, hic, hic2, hij⟩ := hi
  have HIJ := Lib.hid hij
  unfold maxLen at hic2
  obtain ⟨m, hm⟩ : ∃ m, m = ids.length := ⟨_, rfl⟩
  rw [← hm] at hic ⊢
  have HM := Lib.hid hm
  clear hm hij
  have HFi := Lib.hid (fun w => first13_any w)
  have HFw : Hid (∀ w', RowKit.Below w.heap.size w w' → Calls Try.prog 9 #[.slice ca zs.length cc] w' fun e w'' => e = .returned (.bool (decide (zs.length ≤ 60))) ∧ w' = w'') := fun w' hb => few_any _ zs w' (HZ.out.lift hb)
  have HMd : Hid (zs.length ≤ 60 → ∀ w', RowKit.Below w.heap.size w w' → Calls Try.prog 10 #[.int .i64 bits, .slice ca zs.length cc] w' _) := fun h w' hb => made13_any bits _ zs w' (by omega) (HZ.out.lift hb)
  have HBM : Hid (∀ w : World, Zero (w.alloc (.cells #[.int .i64 0, .string ⟨#[]⟩, .int .i64 0, .int .i64 0, .slice none 0 0] 28)) w.heap.size) := fun w => Box.made _ _ _ _ _ _
  have HAl : Hid (∀ (w : World) (o : Obj), RowKit.Below w.heap.size w (w.alloc o)) := fun w o => (Below.refl _ w).alloc (Nat.le_refl _) _
  generalize zs.length = zn at *
  cases hfw : decide (zn ≤ 60) <;> cases hln : decide ((6 : Int) < (m : Int))
  all_goals
    rw [hfw] at HFw
    have HFwp := Lib.hid hfw
    clear hfw
    go_enter Try.func6, Try.ntmps6
    go_wp2_with fail
    go_at_call 8
    refine (HFi.out _).mono ?_
    rintro e w1 ⟨rfl, hb1⟩
    go_wp2_with (go_at_call 9; refine (HFw.out _ hb1).mono ?_; rintro e w3 ⟨rfl, rfl⟩)
  any_goals (go_ret; exact ⟨rfl, hb1⟩)
  have hm6 : m ≤ 6 := by have := of_decide_eq_false hln; omega
  clear hln
  refine (HMd.out (of_decide_eq_true HFwp.out) _ hb1).mono ?_
  rintro e w4 ⟨b, σ, τ, T, u1, u2, u3, rfl, hb, hs1, hs2, hrep, ho1, ho2, ho3, htq, hb4⟩
  have HU1 := Lib.hid hs1
  have HU2 := Lib.hid hs2
  have HR := Lib.hid hrep
  have HO1 := Lib.hid ho1
  have HO2 := Lib.hid ho2
  have HO3 := Lib.hid ho3
  have HTq := Lib.hid htq
  have hb4' := hb1.trans (hb4.mono hb1.size)
  obtain ⟨ua, uc, rfl, -⟩ := hs1.slice
  obtain ⟨va, vc, rfl, -⟩ := hs2.slice
  obtain ⟨tk, tn, ti, th, ta, tm, tc, rfl⟩ := hrep.form
  have HBb := Lib.hid hb
  have HW1 := Lib.hid hb1.size
  clear hs1 hs2 hrep ho1 ho2 ho3 htq hb4 hb hb1 HMd HFi HFw
  obtain ⟨n1, hn1⟩ : ∃ n, n = σ.length := ⟨_, rfl⟩
  obtain ⟨n2, hn2⟩ : ∃ n, n = τ.length := ⟨_, rfl⟩
  rw [← hn1] at HU1 ⊢
  rw [← hn2] at HU2 ⊢
  clear hn1 hn2
  go_upto_region 6 with (refine wpList_store5 rfl _ _ rfl _ _ _ _ _ _ (HBM.out _) rfl _ _ _ _ _ _ _ rfl ?_; intro w5 hB5 hg5 hs5)
  have hb45 : RowKit.Below w4.heap.size w4 w5 := Below.grown (HAl.out _ _) hg5 (HAl.out _ _).size (fun k hk => by cases hk; exact Nat.le_refl _)
  have HLow := Lib.hid (hb4'.trans (hb45.mono hb4'.size))
  have HV1 : Hid (SlG AsE w5 (fun c => b < c) σ (.slice ua n1 uc)) := SlG.kept (fun _ h => h) (fun c _ hl => hb45.block c hl) HU1.out
  have HV2 : Hid (SlG AsE w5 (fun c => b < c) τ (.slice va n2 vc)) := SlG.kept (fun _ h => h) (fun c _ hl => hb45.block c hl) HU2.out
  have HR5 := Lib.hid (HR.out.lift hb45)
  have HTq5 := Lib.hid (HTq.out.lift hb45)
  have HBx := Lib.hid hB5
  clear hB5 hg5 hs5 hb45 hb4' HU1 HU2 HR HTq
  generalize w4.heap.size = B at *
  have HMod : Hid (∀ z W, Calls Try.prog 25 #[.int .i64 z, .int .i64 6] W fun e W' => e = .returned (.int .i64 (z % 6)) ∧ W' = W) := fun z W => (mod_any z 6 W (by decide) (by decide)).mono fun e W' ⟨h1, h2⟩ => ⟨h1, h2.symm⟩
  clear HBx HTq5
  have H0 : Hid (RowI w5 w5.heap.size (.slice none 0 0) ((ids.take 0).map (· % 6))) := rowI_nil _ _
  go_wp2
  go_loopw [11, 12] (fun y x wr => ∃ (j : Nat) (ya : Option Addr) (yc : Nat), j ≤ m ∧ x = .int .i64 j ∧ y = .slice ya j yc ∧ Hid (RowI wr w5.heap.size (.slice ya j yc) ((ids.take j).map (· % 6))) ∧ RowKit.Below w5.heap.size w5 wr) (fun _ x _ => m - (intOf x).toNat)
  case atStart => exact ⟨0, _, _, Nat.zero_le _, rfl, rfl, H0, Below.refl _ _⟩
  case round =>
    clear H0
    obtain ⟨j, ya, yc, hj, rfl, rfl, HRw, hb⟩ := hrel
    by_cases hlt : j < m
    · obtain ⟨x, hx⟩ : ∃ x, ids[j]? = some x := ⟨_, List.getElem?_eq_getElem (by rw [← HM.out]; exact hlt)⟩
      obtain ⟨ad, rfl, hcx⟩ := HIJ.out j x hx
      have HMt := Lib.hid (mapTake (· % 6) hx)
      have hlowj := HLow.out.trans (hb.mono HLow.out.size)
      have hcx := (hlowj.cell (World.block_lt_of_cell? _ _ hcx)).trans hcx
      have hji : (j : Int) < (m : Int) := by omega
      have hlen : Hid (j + 1 = ((ids.take j).map (· % 6)).length + 1) := by show _ = _; rw [List.length_map, List.length_take, ← HM.out]; omega
      have hbs := hb.size
      clear hx
      have hown := Lib.hid (fun k e => (World.ownsRow.lt HRw.out k e).1)
      go_wp2_with (first
        | (go_at_call 25; refine (HMod.out x _).mono ?_; rintro e w6 ⟨rfl, rfl⟩)
        | (at_builtin; refine wpList_pushI rfl _ _ rfl w5.heap.size (.slice ya j yc) _ rfl HRw.out _ rfl rfl (j + 1) hlen.out (by omega) hbs ?_; intro a7 c7 w7 hrow7 hg7; have HR7 := Lib.hid hrow7; have hb7 : RowKit.Below w5.heap.size w5 w7 := Below.grown hb hg7 hbs hown.out; clear hrow7 hg7))
      go_roundw
      case rel => exact ⟨j + 1, a7, c7, hlt, by go_num, rfl, by show RowI _ _ _ _; rw [HMt.out]; exact HR7.out, hb7⟩
      case measure => simp [intOf]; omega
    · obtain rfl : j = m := by omega
      have HIn : Hid (Ints wr (.slice ya j yc) (ids.map (· % 6))) := by
        have := HRw.out.ints
        rwa [List.take_of_length_le (by rw [← HM.out]; exact Nat.le_refl _)] at this
      have E2 : Hid (eqS σ σ (ids.map (· % 6)) = true) := eqS_of (fun _ => rfl) _
      have HQ1 : Hid (∀ W, RowKit.Below wr.heap.size wr W → Calls Try.prog 19 #[.slice ua n1 uc, .slice va n2 vc, .slice ya j yc] W _) := fun W hb2 => eqs_any σ τ (ids.map (· % 6)) _ _ _ W (asL_of HV1.out (keepB hb hb2)) (asL_of HV2.out (keepB hb hb2)) (HIn.out.lift hb2)
      have HQ2 : Hid (∀ W, RowKit.Below wr.heap.size wr W → Calls Try.prog 26 #[.slice ua n1 uc, .slice va n2 vc, .slice ya j yc] W _) := fun W hb2 => refEqs_any σ τ (ids.map (· % 6)) _ _ _ W (asL_of HV1.out (keepB hb hb2)) (asL_of HV2.out (keepB hb hb2)) (HIn.out.lift hb2)
      have HQ3 : Hid (∀ W, RowKit.Below wr.heap.size wr W → Calls Try.prog 19 #[.slice ua n1 uc, .slice ua n1 uc, .slice ya j yc] W fun e w' => e = .returned (.bool true) ∧ RowKit.Below W.heap.size W w') := fun W hb2 => by
        have := eqs_any σ σ (ids.map (· % 6)) _ _ _ W (asL_of HV1.out (keepB hb hb2)) (asL_of HV1.out (keepB hb hb2)) (HIn.out.lift hb2)
        rwa [E2.out] at this
      have hlowj := HLow.out.trans (hb.mono HLow.out.size)
      clear HRw HMod HI HIJ hb
      go_wp2_with fail
      go_at_call 19
      refine (HQ1.out _ (Below.refl _ _)).mono ?_
      rintro e w6 ⟨rfl, hb6⟩
      go_wp2_with fail
      go_at_call 26
      refine (HQ2.out _ hb6).mono ?_
      rintro e w7 ⟨rfl, hb7⟩
      have hb67 := keepB hb6 hb7
      generalize eqS σ τ (ids.map (· % 6)) = q at *
      cases q
      all_goals
        go_wp2_with fail
        go_at_call 19
        refine (HQ3.out _ hb67).mono ?_
        rintro e w8 ⟨rfl, hb8⟩
        go_wp2
        go_ret
        exact ⟨rfl, keepB hlowj (keepB hb67 hb8)⟩
end Go.Proofs.Ytmjdddmfhakabaa
