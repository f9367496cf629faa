import Derived.Test.YtljgpgmaceackaaQX18
import Derived.Test.YtljgpgmaceackaaQX24
import Derived.BigRegion
import Derived.Deep.CutBlock
import Derived.Deep.DeepCutAuto
/- Two elements of a row of arms change their places, one after the other, cell by cell. -/
namespace Go.Proofs.Ytljgpgmaceackaa
open Go.RowKit Go.Maps Mth S3

theorem chain_k (x : World) (g k : Nat) (v0 v1 v2 v3 v4 v5 v6 v7 v8 v9 v10 v11 v12 v13 : Value) : x.setCells g (k * AmE.k + 0) [v0, v1, v2, v3, v4, v5, v6, v7, v8, v9, v10, v11, v12, v13] = ((((((((((((((x.setCell ⟨g, k * 14, none⟩ v0).setCell ⟨g, k * 14 + 1, none⟩ v1).setCell ⟨g, k * 14 + 2, none⟩ v2).setCell ⟨g, k * 14 + 3, none⟩ v3).setCell ⟨g, k * 14 + 4, none⟩ v4).setCell ⟨g, k * 14 + 5, none⟩ v5).setCell ⟨g, k * 14 + 6, none⟩ v6).setCell ⟨g, k * 14 + 7, none⟩ v7).setCell ⟨g, k * 14 + 8, none⟩ v8).setCell ⟨g, k * 14 + 9, none⟩ v9).setCell ⟨g, k * 14 + 10, none⟩ v10).setCell ⟨g, k * 14 + 11, none⟩ v11).setCell ⟨g, k * 14 + 12, none⟩ v12).setCell ⟨g, k * 14 + 13, none⟩ v13) := by
  rw [show AmE.k = 14 from rfl]
  simp only [World.setCells, Nat.add_zero, Nat.add_assoc, Nat.reduceAdd]
theorem chain_0 (x : World) (g : Nat) (u0 u1 u2 u3 u4 u5 u6 u7 u8 u9 u10 u11 u12 u13 : Value) : x.setCells g (0 * AmE.k + 0) [u0, u1, u2, u3, u4, u5, u6, u7, u8, u9, u10, u11, u12, u13] = ((((((((((((((x.setCell ⟨g, 0, none⟩ u0).setCell ⟨g, 1, none⟩ u1).setCell ⟨g, 2, none⟩ u2).setCell ⟨g, 3, none⟩ u3).setCell ⟨g, 4, none⟩ u4).setCell ⟨g, 5, none⟩ u5).setCell ⟨g, 6, none⟩ u6).setCell ⟨g, 7, none⟩ u7).setCell ⟨g, 8, none⟩ u8).setCell ⟨g, 9, none⟩ u9).setCell ⟨g, 10, none⟩ u10).setCell ⟨g, 11, none⟩ u11).setCell ⟨g, 12, none⟩ u12).setCell ⟨g, 13, none⟩ u13) := by
  simp only [World.setCells, Nat.zero_mul, Nat.zero_add, Nat.reduceAdd]
theorem swap_put {x : World} {g k p c5 base : Nat} {S : Nat → Prop} {L : List (AH × Ex)} {A A0 : AH × Ex} (HR : RowG AmE x base S (.slice (some ⟨g, 0, none⟩) p c5) L) (hlj : L[k]? = some A) (hlj0 : L[0]? = some A0)
    {v0 v1 v2 v3 v4 v5 v6 v7 v8 v9 v10 v11 v12 v13 u0 u1 u2 u3 u4 u5 u6 u7 u8 u9 u10 u11 u12 u13 : Value} (hr0 : AmE.rep x (fun b => S b ∧ b ≠ g) A0 [v0, v1, v2, v3, v4, v5, v6, v7, v8, v9, v10, v11, v12, v13]) (hr : AmE.rep x (fun b => S b ∧ b ≠ g) A [u0, u1, u2, u3, u4, u5, u6, u7, u8, u9, u10, u11, u12, u13]) :
    (RowG AmE ((((((((((((((((((((((((((((x.setCell ⟨g, k * 14, none⟩ v0).setCell ⟨g, k * 14 + 1, none⟩ v1).setCell ⟨g, k * 14 + 2, none⟩ v2).setCell ⟨g, k * 14 + 3, none⟩ v3).setCell ⟨g, k * 14 + 4, none⟩ v4).setCell ⟨g, k * 14 + 5, none⟩ v5).setCell ⟨g, k * 14 + 6, none⟩ v6).setCell ⟨g, k * 14 + 7, none⟩ v7).setCell ⟨g, k * 14 + 8, none⟩ v8).setCell ⟨g, k * 14 + 9, none⟩ v9).setCell ⟨g, k * 14 + 10, none⟩ v10).setCell ⟨g, k * 14 + 11, none⟩ v11).setCell ⟨g, k * 14 + 12, none⟩ v12).setCell ⟨g, k * 14 + 13, none⟩ v13).setCell ⟨g, 0, none⟩ u0).setCell ⟨g, 1, none⟩ u1).setCell ⟨g, 2, none⟩ u2).setCell ⟨g, 3, none⟩ u3).setCell ⟨g, 4, none⟩ u4).setCell ⟨g, 5, none⟩ u5).setCell ⟨g, 6, none⟩ u6).setCell ⟨g, 7, none⟩ u7).setCell ⟨g, 8, none⟩ u8).setCell ⟨g, 9, none⟩ u9).setCell ⟨g, 10, none⟩ u10).setCell ⟨g, 11, none⟩ u11).setCell ⟨g, 12, none⟩ u12).setCell ⟨g, 13, none⟩ u13) base S (.slice (some ⟨g, 0, none⟩) p c5) ((L.set k A0).set 0 A) ∧ x.grownBy ((((((((((((((((((((((((((((x.setCell ⟨g, k * 14, none⟩ v0).setCell ⟨g, k * 14 + 1, none⟩ v1).setCell ⟨g, k * 14 + 2, none⟩ v2).setCell ⟨g, k * 14 + 3, none⟩ v3).setCell ⟨g, k * 14 + 4, none⟩ v4).setCell ⟨g, k * 14 + 5, none⟩ v5).setCell ⟨g, k * 14 + 6, none⟩ v6).setCell ⟨g, k * 14 + 7, none⟩ v7).setCell ⟨g, k * 14 + 8, none⟩ v8).setCell ⟨g, k * 14 + 9, none⟩ v9).setCell ⟨g, k * 14 + 10, none⟩ v10).setCell ⟨g, k * 14 + 11, none⟩ v11).setCell ⟨g, k * 14 + 12, none⟩ v12).setCell ⟨g, k * 14 + 13, none⟩ v13).setCell ⟨g, 0, none⟩ u0).setCell ⟨g, 1, none⟩ u1).setCell ⟨g, 2, none⟩ u2).setCell ⟨g, 3, none⟩ u3).setCell ⟨g, 4, none⟩ u4).setCell ⟨g, 5, none⟩ u5).setCell ⟨g, 6, none⟩ u6).setCell ⟨g, 7, none⟩ u7).setCell ⟨g, 8, none⟩ u8).setCell ⟨g, 9, none⟩ u9).setCell ⟨g, 10, none⟩ u10).setCell ⟨g, 11, none⟩ u11).setCell ⟨g, 12, none⟩ u12).setCell ⟨g, 13, none⟩ u13) (some g)) ∧ (∀ i, i < 14 → ∃ u, World.cell? ((((((((((((((x.setCell ⟨g, k * 14, none⟩ v0).setCell ⟨g, k * 14 + 1, none⟩ v1).setCell ⟨g, k * 14 + 2, none⟩ v2).setCell ⟨g, k * 14 + 3, none⟩ v3).setCell ⟨g, k * 14 + 4, none⟩ v4).setCell ⟨g, k * 14 + 5, none⟩ v5).setCell ⟨g, k * 14 + 6, none⟩ v6).setCell ⟨g, k * 14 + 7, none⟩ v7).setCell ⟨g, k * 14 + 8, none⟩ v8).setCell ⟨g, k * 14 + 9, none⟩ v9).setCell ⟨g, k * 14 + 10, none⟩ v10).setCell ⟨g, k * 14 + 11, none⟩ v11).setCell ⟨g, k * 14 + 12, none⟩ v12).setCell ⟨g, k * 14 + 13, none⟩ v13) ⟨g, i, none⟩ = some u) ∧ x.grownBy ((((((((((((((x.setCell ⟨g, k * 14, none⟩ v0).setCell ⟨g, k * 14 + 1, none⟩ v1).setCell ⟨g, k * 14 + 2, none⟩ v2).setCell ⟨g, k * 14 + 3, none⟩ v3).setCell ⟨g, k * 14 + 4, none⟩ v4).setCell ⟨g, k * 14 + 5, none⟩ v5).setCell ⟨g, k * 14 + 6, none⟩ v6).setCell ⟨g, k * 14 + 7, none⟩ v7).setCell ⟨g, k * 14 + 8, none⟩ v8).setCell ⟨g, k * 14 + 9, none⟩ v9).setCell ⟨g, k * 14 + 10, none⟩ v10).setCell ⟨g, k * 14 + 11, none⟩ v11).setCell ⟨g, k * 14 + 12, none⟩ v12).setCell ⟨g, k * 14 + 13, none⟩ v13) (some g) := by
  have hk : k < L.length := (List.getElem?_eq_some_iff.1 hlj).1
  have hput1 := HR.put hlj A0 0 [v0, v1, v2, v3, v4, v5, v6, v7, v8, v9, v10, v11, v12, v13] (fun c hc => ⟨[], c, [], by simp, rfl, by rw [(AmE.len hc).1]; rfl, hr0⟩)
  rw [chain_k] at hput1
  generalize ((((((((((((((x.setCell ⟨g, k * 14, none⟩ v0).setCell ⟨g, k * 14 + 1, none⟩ v1).setCell ⟨g, k * 14 + 2, none⟩ v2).setCell ⟨g, k * 14 + 3, none⟩ v3).setCell ⟨g, k * 14 + 4, none⟩ v4).setCell ⟨g, k * 14 + 5, none⟩ v5).setCell ⟨g, k * 14 + 6, none⟩ v6).setCell ⟨g, k * 14 + 7, none⟩ v7).setCell ⟨g, k * 14 + 8, none⟩ v8).setCell ⟨g, k * 14 + 9, none⟩ v9).setCell ⟨g, k * 14 + 10, none⟩ v10).setCell ⟨g, k * 14 + 11, none⟩ v11).setCell ⟨g, k * 14 + 12, none⟩ v12).setCell ⟨g, k * 14 + 13, none⟩ v13) = X1 at *
  have hset : (L.set k A0)[0]? = some A0 := by
    by_cases e : k = 0
    · subst e
      rw [List.getElem?_set_self hk]
    · rw [List.getElem?_set_ne (by omega)]
      exact hlj0
  have hth := hput1.1.there (j := 0) (by rw [List.length_set]; omega) 0 14 (by decide)
  have hput2 := hput1.1.put hset A 0 [u0, u1, u2, u3, u4, u5, u6, u7, u8, u9, u10, u11, u12, u13] (fun c hc => ⟨[], c, [], by simp, rfl, by rw [(AmE.len hc).1]; rfl, AmE.kept (fun _ h => h) (fun b hb hl => hput1.2.block b hl (fun e => hb.2 (Option.some.inj e))) hr⟩)
  rw [chain_0] at hput2
  refine ⟨⟨hput2.1, grown_trans hput1.2 hput2.2⟩, fun i hi => ?_, hput1.2⟩
  have := (hth i hi).1
  rw [show 0 * AmE.k + 0 + i = i by omega] at this
  exact Option.isSome_iff_exists.1 this
end Go.Proofs.Ytljgpgmaceackaa

/- The law's spoiled: an expression whose cases' arms are changed. -/
namespace Go.Proofs.Ytljgpgmaceackaa
open Go.RowKit Go.Maps Mth S3

set_option maxRecDepth 100000 in
set_option maxHeartbeats 6400000 in
theorem spoiled_any (n : Nat) : ∀ (m : Nat) (T : Ex) (z : Int) (S : Nat → Prop) (c : List Value) (w : World), m + n ≤ 900000 → GE n m T → RepE w S T c →
    Calls Try.prog 8 #[.agg c.toArray, .int .i64 z] w fun e w' => ∃ (T' : Ex) (c' : List Value), e = .returned (.agg c'.toArray) ∧ GE n (m + n) T' ∧ RepE w' (fun b => S b ∨ w.heap.size ≤ b) T' c' ∧ Below w.heap.size w w' := by
  induction n with
  | zero => intro m T z S c w _ h; exact absurd h.1 (by simp [fitV])
  | succ n ih =>
  intro m T z S c w hmb hge h
  have HMb := Lib.hid hmb
  clear hmb
  have hf := fitV_open hge.1
  have hkl := hf.kids
  have hal := hf.arms
  have HG := Lib.hid hge
  have HIh := Lib.hid ih
  have hrb := h.bound
  obtain ⟨ka, kc, aa, ac, tk, tn, ti, th, ta, tl, tc, rfl⟩ := h.form
  have HR0 := Lib.hid hrb
  clear h hrb hge hf ih
  obtain ⟨kn, hkn⟩ : ∃ n, n = T.kids.length := ⟨_, rfl⟩
  obtain ⟨an, han⟩ : ∃ n, n = T.arms.length := ⟨_, rfl⟩
  have HKn := Lib.hid hkn
  have HAn := Lib.hid han
  rw [← hkn, ← han] at HR0
  rw [← hkn] at hkl ⊢
  rw [← han] at hal ⊢
  clear hkn han
  simp only [List.toArray]
  go_enter Try.func8, Try.ntmps8
  go_upto_region 1 with fail
  have HW0 : Hid (WM w [.int .i64 T.k, .int .i64 T.p, .string T.n, .int .i64 T.m, .slice ka kn kc, .slice aa an ac, .int .i64 tk, .string tn, .int .i64 ti, .int .i64 th, .slice ta tl tc] ((w.alloc (.cells #[.int .i64 T.k, .int .i64 T.p, .string T.n, .int .i64 T.m, .slice ka kn kc, .slice aa an ac, .int .i64 tk, .string tn, .int .i64 ti, .int .i64 th, .slice ta tl tc] 36)).alloc (.cells #[.int .i64 0, .int .i64 0, .string ⟨#[]⟩, .int .i64 0, .slice none 0 0, .slice none 0 0, .int .i64 0, .string ⟨#[]⟩, .int .i64 0, .int .i64 0, .slice none 0 0] 36))) := WM.made w [.int .i64 T.k, .int .i64 T.p, .string T.n, .int .i64 T.m, .slice ka kn kc, .slice aa an ac, .int .i64 tk, .string tn, .int .i64 ti, .int .i64 th, .slice ta tl tc]
  generalize ((w.alloc (.cells #[.int .i64 T.k, .int .i64 T.p, .string T.n, .int .i64 T.m, .slice ka kn kc, .slice aa an ac, .int .i64 tk, .string tn, .int .i64 ti, .int .i64 th, .slice ta tl tc] 36)).alloc (.cells #[.int .i64 0, .int .i64 0, .string ⟨#[]⟩, .int .i64 0, .slice none 0 0, .slice none 0 0, .int .i64 0, .string ⟨#[]⟩, .int .i64 0, .int .i64 0, .slice none 0 0] 36)) = V at *
  obtain ⟨cn, hcn⟩ : ∃ n, n = (chN T).length := ⟨_, rfl⟩
  have HCn := Lib.hid hcn
  have hcl : cn = kn + an := by rw [hcn, HKn.out, HAn.out]; unfold chN; rw [List.length_append, List.length_map]
  have HRV := Lib.hid (HR0.out.kept (S' := (fun b => S b ∧ b < w.heap.size)) (fun _ h => h) (fun b hb _ => HW0.out.low.block b hb.2))
  have HCh : Hid (Calls Try.prog 17 #[.agg #[.int .i64 T.k, .int .i64 T.p, .string T.n, .int .i64 T.m, .slice ka kn kc, .slice aa an ac, .int .i64 tk, .string tn, .int .i64 ti, .int .i64 th, .slice ta tl tc]] V fun e w' => ∃ a cp, e = .returned (.slice a cn cp) ∧ RowG ExE w' (V.heap.size + 1) (fun b => S b ∧ b < w.heap.size) (.slice a cn cp) (chN T) ∧ Below V.heap.size V w') := by
    rw [HCn.out]
    exact (refChildren_any T (by rw [← HKn.out]; exact hkl) (by rw [← HAn.out]; exact hal) (fun b => S b ∧ b < w.heap.size) _ V HRV.out).mono fun e' w' ⟨a, cp, h1, h2, h3⟩ => ⟨a, cp, h1, h2.imp (fun b hb => hb.1), h3⟩
  have HCl := Lib.hid hcl
  have hcb : cn ≤ 200000 := by omega
  clear hcn hcl
  obtain ⟨b0, b1, b2, b3, b4, b5, b6, b7, b8, b9, b10⟩ := bx11 HW0.out.box
  go_upto_region 2 with (go_at_call 17; refine HCh.out.mono ?_; rintro e W ⟨a4, c4, rfl, hrow, hb⟩; have HC4 := Lib.hid (hrow.imp (S' := (fun b => (S b ∧ b < w.heap.size) ∨ w.heap.size + 2 ≤ b)) (fun b h => .inl h)); have HW4 := Lib.hid (HW0.out.lift hb); clear hrow hb)
  have HLo : Hid (w.heap.size + 2 ≤ V.heap.size) := HW0.out.ge
  have HGk : Hid (∀ (i : Nat) (U : Ex), (chN T)[i]? = some U → GE n (m - (bnN T i).length + n) U) := fun i U hU => (HG.out.kid i U hU).mono (by omega)
  clear b0 b1 b2 b3 b4 b5 b6 b7 b8 b9 b10 HCh HW0 HRV
  have hcn0 := HCn.out.symm
  go_wp2_with fail
  go_loopw [6] (fun x wr => ∃ (i : Nat) (L : List Ex), x = .int .i64 i ∧ i ≤ cn ∧ Hid (L.length = cn) ∧ Hid (∀ i', i ≤ i' → L[i']? = (chN T)[i']?) ∧ Hid (∀ (i : Nat) (U : Ex), L[i]? = some U → GE n (m - (bnN T i).length + n) U) ∧ Hid (RowG ExE wr (V.heap.size + 1) (fun b => (S b ∧ b < w.heap.size) ∨ w.heap.size + 2 ≤ b) (.slice a4 cn c4) L) ∧ Hid (WM w [.int .i64 T.k, .int .i64 T.p, .string T.n, .int .i64 T.m, .slice ka kn kc, .slice aa an ac, .int .i64 tk, .string tn, .int .i64 ti, .int .i64 th, .slice ta tl tc] wr)) (fun i _ => cn - (intOf i).toNat)
  case atStart => exact ⟨0, chN T, rfl, Nat.zero_le _, hcn0, fun _ _ => rfl, HGk, HC4, HW4⟩
  case round =>
    clear HC4 HGk HW4 hcn0
    obtain ⟨i, L, rfl, hi, HLn, HSm, HGl, HCr, HWr⟩ := hrel
    by_cases hlt2 : i < cn
    · obtain ⟨U, hU⟩ : ∃ U, L[i]? = some U := ⟨_, List.getElem?_eq_getElem (by rw [HLn.out]; exact hlt2)⟩
      obtain ⟨g, hg6, hgl, hgs⟩ := HCr.out.head (by rw [HLn.out]; omega)
      subst hg6
      obtain ⟨cc2, hrep2, hdm⟩ := rowG_getT HCr.out hU
      have hr2 : RepE wr (fun b => (fun b => (S b ∧ b < w.heap.size) ∨ w.heap.size + 2 ≤ b) b ∧ b ≠ g) U cc2 := hrep2
      obtain ⟨kb, kd, ab, ae, uk, un, ui, uh, ua, ul, uc, rfl⟩ := hr2.form
      rw [show ExE.k = 11 from rfl] at hdm
      have q0 : wr.cell? ⟨g, i * 11, none⟩ = some (.int .i64 U.k) := hdm 0 _ rfl
      have q1 : wr.cell? ⟨g, i * 11 + 1, none⟩ = some (.int .i64 U.p) := hdm 1 _ rfl
      have q2 : wr.cell? ⟨g, i * 11 + 2, none⟩ = some (.string U.n) := hdm 2 _ rfl
      have q3 : wr.cell? ⟨g, i * 11 + 3, none⟩ = some (.int .i64 U.m) := hdm 3 _ rfl
      have q4 : wr.cell? ⟨g, i * 11 + 4, none⟩ = some (.slice kb U.kids.length kd) := hdm 4 _ rfl
      have q5 : wr.cell? ⟨g, i * 11 + 5, none⟩ = some (.slice ab U.arms.length ae) := hdm 5 _ rfl
      have q6 : wr.cell? ⟨g, i * 11 + 6, none⟩ = some (.int .i64 uk) := hdm 6 _ rfl
      have q7 : wr.cell? ⟨g, i * 11 + 7, none⟩ = some (.string un) := hdm 7 _ rfl
      have q8 : wr.cell? ⟨g, i * 11 + 8, none⟩ = some (.int .i64 ui) := hdm 8 _ rfl
      have q9 : wr.cell? ⟨g, i * 11 + 9, none⟩ = some (.int .i64 uh) := hdm 9 _ rfl
      have q10 : wr.cell? ⟨g, i * 11 + 10, none⟩ = some (.slice ua ul uc) := hdm 10 _ rfl
      have hHk := HG.out.kid i U (by rw [← HSm.out i (Nat.le_refl _)]; exact hU)
      have HRec : Hid (∀ z2 : Int, Calls Try.prog 8 #[.agg #[.int .i64 U.k, .int .i64 U.p, .string U.n, .int .i64 U.m, .slice kb U.kids.length kd, .slice ab U.arms.length ae, .int .i64 uk, .string un, .int .i64 ui, .int .i64 uh, .slice ua ul uc], .int .i64 z2] wr fun e w' => ∃ (T' : Ex) (c' : List Value), e = .returned (.agg c'.toArray) ∧ GE n (m - (bnN T i).length + n) T' ∧ RepE w' (fun b => (fun b => (S b ∧ b < w.heap.size) ∨ w.heap.size + 2 ≤ b) b ∧ b ≠ g) T' c' ∧ Below wr.heap.size wr w') := fun z2 => (HIh.out _ U z2 _ _ wr (by have := HMb.out; omega) hHk hr2).mono fun e w' ⟨T', c', h1, h2, h3, h4⟩ => ⟨T', c', h1, h2, h3.imp (fun b hb => by
        rcases hb with hb | hb
        · exact hb
        · exact ⟨.inr (Nat.le_trans HWr.out.ge hb), by omega⟩), h4⟩
      have hji : (i : Int) < (cn : Int) := by omega
      clear hrep2 hr2 hdm hHk
      have HU := Lib.hid hU
      clear hU
      generalize U.kids.length = k3 at *
      generalize U.arms.length = k4 at *
      go_wp2_with (first
        | (go_at_call 8; refine (HRec.out _).mono ?_; rintro e v ⟨U', c', rfl, hGU, hrU, hb⟩; have HCv := Lib.hid (HCr.out.lift hb); have HWv := Lib.hid (HWr.out.lift hb); have HRv := Lib.hid hrU; have HGv := Lib.hid hGU; clear hb hrU hGU q0 q1 q2 q3 q4 q5 q6 q7 q8 q9 q10)
        | (refine wpList_putG ExE rfl _ _ _ rfl (V.heap.size + 1) (fun b => (S b ∧ b < w.heap.size) ∨ w.heap.size + 2 ≤ b) g cn c4 L HCv.out i 0 U U' HU.out c' (i * 11) rfl rfl rfl (by rw [HRv.out.len.1]; exact sizeEx) HRv.out.len.2 (by rw [HRv.out.len.1]; exact Nat.le_refl 11) (fun cc hcc => ⟨[], cc, [], (List.append_nil _).symm, rfl, by rw [HRv.out.len.1]; exact (ExE.len hcc).1.symm, by rw [List.append_nil]; exact HRv.out⟩) ?_; intro v9 hrow9 hg9; have HC9 := Lib.hid hrow9; have HG9 := Lib.hid hg9; clear hrow9 hg9))
      have HL9 : Hid ((L.set i U').length = cn) := by show _ = _; rw [List.length_set]; exact HLn.out
      have HGL9 : Hid (∀ (i' : Nat) (U1 : Ex), (L.set i U')[i']? = some U1 → GE n (m - (bnN T i').length + n) U1) := fun i' U1 h1 => by
        by_cases e : i = i'
        · subst e
          rw [List.getElem?_set_self (by rw [HLn.out]; exact hlt2)] at h1
          cases h1
          exact HGv.out
        · rw [List.getElem?_set_ne e] at h1
          exact HGl.out i' U1 h1
      have HS9 : Hid (∀ i', i + 1 ≤ i' → (L.set i U')[i']? = (chN T)[i']?) := fun i' h1 => by rw [List.getElem?_set_ne (by omega)]; exact HSm.out i' (by omega)
      have HW9 := Lib.hid (HWv.out.far HG9.out (fun k e => by cases e; have := HLo.out; omega))
      clear HCv HWv HRv HG9 HRec
      go_roundw
      case rel => exact ⟨i + 1, _, by go_num, hlt2, HL9, HS9, HGL9, HC9, HW9⟩
      case measure => simp [intOf]; omega
    · have hrep := HR0.out.kept (S' := (fun b => (S b ∧ b < w.heap.size) ∨ w.heap.size + 2 ≤ b)) (fun b h => .inl h) (fun b hb _ => HWr.out.low.block b hb.2)
      have hLL : L.length = T.kids.length + T.arms.length := by rw [HLn.out, ← HKn.out, ← HAn.out]; exact HCl.out
      have HWt : Hid (Calls Try.prog 18 #[.agg #[.int .i64 T.k, .int .i64 T.p, .string T.n, .int .i64 T.m, .slice ka kn kc, .slice aa an ac, .int .i64 tk, .string tn, .int .i64 ti, .int .i64 th, .slice ta tl tc], .slice a4 cn c4] wr fun e w' => ∃ c' : List Value, e = .returned (.agg c'.toArray) ∧ RepE w' (fun b => (S b ∧ b < w.heap.size) ∨ w.heap.size + 2 ≤ b) (withE T L) c' ∧ Below wr.heap.size wr w') := by
        have hs := HCr.out.slG (S' := (fun b => (S b ∧ b < w.heap.size) ∨ w.heap.size + 2 ≤ b)) (fun _ h => h) (fun b h => .inr (by have := HLo.out; omega))
        rw [← HLn.out] at hs ⊢
        exact (refWith_any T L (by rw [← HKn.out]; exact hkl) (by rw [← HAn.out]; exact hal) hLL (fun b => (S b ∧ b < w.heap.size) ∨ w.heap.size + 2 ≤ b) _ _ wr hrep hs).mono fun e w' ⟨c', h1, h2, h3⟩ => ⟨c', h1, h2.imp (fun b hb => by
          rcases hb with hb | hb
          · exact hb
          · exact .inr (Nat.le_trans HWr.out.ge hb)), h3⟩
      have hGE : GE (n + 1) (m + n) (withE T L) := (HG.out.mono (by omega)).of (lk_with rfl rfl rfl rfl rfl hLL) (by
        rw [chN_with hLL]
        intro i U hU
        have hi : i < (chN T).length := by rw [← HCn.out, ← HLn.out]; exact (List.getElem?_eq_some_iff.1 hU).1
        have := ((fitV_open HG.out.1).all i _ (List.getElem?_eq_getElem hi)).1
        exact (HGl.out i U hU).mono (by omega))
      obtain ⟨b0, b1, b2, b3, b4, b5, b6, b7, b8, b9, b10⟩ := bx11 HWr.out.box
      have HGE := Lib.hid hGE
      clear hGE hLL hrep
      generalize withE T L = T2 at HGE HWt
      go_upto_region 7 with (first
        | (go_at_call 18; refine HWt.out.mono ?_; rintro e v ⟨c', rfl, hr, hb⟩; obtain ⟨e0, e1, e2, e3, e4, e5, e6, e7, e8, e9, e10, rfl⟩ := hr.form; have HRv := Lib.hid hr; have HWv := Lib.hid (HWr.out.lift hb); clear hb hr b0 b1 b2 b3 b4 b5 b6 b7 b8 b9 b10)
        | (refine wpList_storeC rfl _ _ rfl _ _ [.int .i64 T2.k, .int .i64 T2.p, .string T2.n, .int .i64 T2.m, .slice e0 T2.kids.length e1, .slice e2 T2.arms.length e3, .int .i64 e4, .string e5, .int .i64 e6, .int .i64 e7, .slice e8 e9 e10] HWv.out.box rfl rfl sizeEx rfl HRv.out.len.2 ?_; intro w9 hB9 hg9 hs9))
      have HW9 : Hid (WM w [.int .i64 T2.k, .int .i64 T2.p, .string T2.n, .int .i64 T2.m, .slice e0 T2.kids.length e1, .slice e2 T2.arms.length e3, .int .i64 e4, .string e5, .int .i64 e6, .int .i64 e7, .slice e8 e9 e10] w9) := ⟨hB9, HWv.out.res.grown hg9 (fun e => by have := Option.some.inj e; omega), Below.grown HWv.out.low hg9 HWv.out.low.size (fun k hk => by have := Option.some.inj hk; omega)⟩
      have HR9 : Hid (RepE w9 (fun b => (S b ∧ b < w.heap.size) ∨ w.heap.size + 2 ≤ b) T2 [.int .i64 T2.k, .int .i64 T2.p, .string T2.n, .int .i64 T2.m, .slice e0 T2.kids.length e1, .slice e2 T2.arms.length e3, .int .i64 e4, .string e5, .int .i64 e6, .int .i64 e7, .slice e8 e9 e10]) := HRv.out.kept (fun b hb => hb) (fun b hb hl => hg9.block b hl (fun e => by
        have := Option.some.inj e
        rcases hb with hb | hb
        · have := hb.2; omega
        · omega))
      clear hB9 hg9 hs9 HRv HWv HCr HWr HWt
      obtain ⟨k5, hk5⟩ : ∃ n, n = T2.kids.length := ⟨_, rfl⟩
      obtain ⟨p, hp⟩ : ∃ n, n = T2.arms.length := ⟨_, rfl⟩
      have HP := Lib.hid hp
      have HK5 := Lib.hid hk5
      rw [← hk5, ← hp] at HW9 HR9 ⊢
      clear hk5 hp
      obtain ⟨b0, b1, b2, b3, b4, b5, b6, b7, b8, b9, b10⟩ := bx11 HW9.out.box
      have hp1 : p ≤ 100000 := by rw [HP.out]; exact (fitV_open HGE.out.1).arms
      by_cases hp0 : p = 0
      · subst hp0
        go_wp2_with (refine wpList_storeC rfl _ _ rfl _ _ [.int .i64 T2.k, .int .i64 T2.p, .string T2.n, .int .i64 T2.m, .slice e0 k5 e1, .slice e2 0 e3, .int .i64 e4, .string e5, .int .i64 e6, .int .i64 e7, .slice e8 e9 e10] HW9.out.res rfl rfl sizeEx rfl HR9.out.len.2 ?_; intro v9 hB9 hg9 hs9)
        have c0 := hB9.cell 0 _ rfl; have c1 := hB9.cell 1 _ rfl; have c2 := hB9.cell 2 _ rfl; have c3' := hB9.cell 3 _ rfl; have c4' := hB9.cell 4 _ rfl; have c5 := hB9.cell 5 _ rfl; have c6' := hB9.cell 6 _ rfl; have c7 := hB9.cell 7 _ rfl; have c8 := hB9.cell 8 _ rfl; have c9 := hB9.cell 9 _ rfl; have c10 := hB9.cell 10 _ rfl
        refine bodyPost_ret (by simp [results, Try.results8, go_sem, c0, c1, c2, c3', c4', c5, c6', c7, c8, c9, c10]; try rfl) rfl ?_
        refine ⟨T2, _, rfl, HGE.out.mono (by omega), HR9.out.kept (fun b hb => ?_) (fun b hb hl => hg9.block b hl (fun e => ?_)), Below.grown HW9.out.low hg9 HW9.out.low.size (fun k hk => by have := Option.some.inj hk; omega)⟩
        · rcases hb with hb | hb
          · exact .inl hb.1
          · exact .inr (by omega)
        · have := Option.some.inj e
          rcases hb with hb | hb
          · have := hb.2; omega
          · omega
      · have h8 : T2.k = 8 := by
          by_cases e : T2.k = 8
          · exact e
          · exact absurd ((a8_open HGE.out.2.2).1 e) (by rw [← HP.out]; exact hp0)
        obtain ⟨K, hK, hGK, hArm⟩ := HGE.out.arms8 h8
        have H8 := Lib.hid h8
        have HKK := Lib.hid hK
        have HGK := Lib.hid hGK
        have HArm := Lib.hid hArm
        obtain ⟨kv2, av2, tc2, hcc2, hn2, hk2, ha2, ht2⟩ := HR9.out.bound.open
        simp only [List.cons.injEq] at hcc2
        obtain ⟨-, -, -, -, rfl, rfl, rfl⟩ := hcc2
        have HN2 := Lib.hid hn2
        have HK2 := Lib.hid hk2
        have HA2 := Lib.hid ha2
        have HT2 := Lib.hid ht2
        clear h8 hK hGK hArm hn2 hk2 ha2 ht2
        have HAl2 : Hid (T2.arms.length = p) := HP.out.symm
        have HA3 : Hid (SlG AmE w9 (fun b => (fun b => (fun b => (S b ∧ b < w.heap.size) ∨ w.heap.size + 2 ≤ b) b ∧ b < w9.heap.size) b ∧ some b ≠ Value.ownBlock (.slice none 0 0)) T2.arms (.slice e2 p e3)) := HA2.out.kept (fun b h => ⟨h, by simp [Value.ownBlock]⟩) (fun _ _ _ => rfl)
        have HM1 : Hid (∀ V : World, Calls Try.prog 6 #[.int .i64 z, .int .i64 (p : Int)] V fun e w' => ∃ k : Nat, k < p ∧ e = .returned (.int .i64 (k : Int)) ∧ w' = V) := fun V => (S3.mod_any z p V (by omega) (by omega)).mono fun e w' ⟨h1, h2⟩ => by
          have e1 := Int.emod_nonneg z (b := (p : Int)) (by omega)
          have e2 := Int.emod_lt_of_pos z (b := (p : Int)) (by omega)
          exact ⟨(z % (p : Int)).toNat, by omega, by rw [h1, Int.toNat_of_nonneg e1], h2.symm⟩
        have HM2 : Hid (∀ V : World, Calls Try.prog 6 #[.int .i64 z, .int .i64 7] V fun e w' => ∃ r : Int, e = .returned (.int .i64 r) ∧ w' = V) := fun V => (S3.mod_any z 7 V (by omega) (by omega)).mono fun e w' ⟨h1, h2⟩ => ⟨_, h1, h2.symm⟩
        go_upto_region 10 with (at_builtin; refine wpList_pushS AmE rfl _ _ rfl w9.heap.size (fun b => (fun b => (S b ∧ b < w.heap.size) ∨ w.heap.size + 2 ≤ b) b ∧ b < w9.heap.size) (.slice none 0 0) [] rfl (rowG_nil _ _ _ _) (.slice e2 p e3) rfl T2.arms HA3.out (by rw [HAl2.out]; simp; omega) (Nat.le_refl _) ?_; intro a5 n5 c5 V2 hn5 hrow5 hg5; rw [List.nil_append] at hrow5 hn5; rw [HAl2.out] at hn5; obtain rfl : p = n5 := hn5.symm; have HRw := Lib.hid hrow5; have HW2 := Lib.hid (HW9.out.far hg5 (fun k e => by cases e)); have hg5' := Lib.hid (hg5.but (some w.heap.size)); have z5 := HW2.out.box.cell 5 _ rfl; have f5 := HW2.out.box.free 5; clear hrow5 hg5 hn5)
        have HW3 := Lib.hid (HW2.out.set 5 (.slice a5 p c5)).1
        have HG3 : Hid (w9.grownBy (V2.setCell ⟨w.heap.size, 5, none⟩ (.slice a5 p c5)) (some w.heap.size)) := grown_trans hg5'.out (HW2.out.set 5 (.slice a5 p c5)).2
        have HL9 : Hid (w.heap.size + 2 ≤ w9.heap.size) := HW9.out.ge
        have HR3 := Lib.hid (HRw.out.kept (HW2.out.set 5 (.slice a5 p c5)).2 (HRw.out.off (by have := HL9.out; omega)) (fun b hb e => by
          have := Option.some.inj e
          rcases hb.1 with hb | hb
          · have := hb.2; omega
          · omega))
        clear b0 b1 b2 b3 b4 b5 b6 b7 b8 b9 b10 z5 f5 HW2 HRw HA3 HA2 hg5' HR9 HW9
        generalize V2.setCell ⟨w.heap.size, 5, none⟩ (.slice a5 p c5) = V3 at *
        have o5 := HW3.out.box.cell 5 _ rfl
        go_upto_region 11 with (go_at_call 6; refine (HM1.out _).mono ?_; rintro e x ⟨k, hk, rfl, rfl⟩)
        go_upto_block 2 with (go_at_call 6; refine (HM2.out _).mono ?_; rintro e x ⟨r, rfl, rfl⟩)
        clear HM1 HM2
        have hkp : (k : Int) < (p : Int) := by omega
        have hk0 : (0 : Int) ≤ (k : Int) := by omega
        have hkc : (k : Int) ≤ (c5 : Int) := by
          obtain ⟨a', c', e', h1, h2⟩ := HR3.out.slice
          simp only [Value.slice.injEq] at e'
          obtain ⟨-, h3, rfl⟩ := e'
          omega
        have HBk : Hid (∀ (X : World) (row : Option Nat), x.grownBy X row → (∀ k, row = some k → k = w.heap.size ∨ w9.heap.size ≤ k) → ∀ b, (fun b => (fun b => (S b ∧ b < w.heap.size) ∨ w.heap.size + 2 ≤ b) b ∧ b < w9.heap.size) b → X.heap[b]? = w9.heap[b]?) := fun X row hX hr b hb => by
          have hbn : b ≠ w.heap.size := by
            rcases hb.1 with h | h
            · have := h.2; omega
            · omega
          have h1 := HG3.out.block b hb.2 (fun e => hbn (Option.some.inj e))
          have h2 := hX.block b (Nat.lt_of_lt_of_le hb.2 HG3.out.size) (fun e => by
            rcases hr b e.symm with h | h
            · exact hbn h
            · have := hb.2; omega)
          exact h2.trans h1
        have HMk : Hid (∀ (X : World) (row : Option Nat) (l' : List (AH × Ex)) (av : Value), x.grownBy X row → (∀ k, row = some k → k = w.heap.size ∨ w9.heap.size ≤ k) → SlG AmE X (fun b => (S b ∧ b < w.heap.size) ∨ w.heap.size + 2 ≤ b) l' av → RepE X (fun b => (S b ∧ b < w.heap.size) ∨ w.heap.size + 2 ≤ b) (.mk T2.k T2.p T2.n T2.m T2.t T2.kids l') [.int .i64 T2.k, .int .i64 T2.p, .string T2.n, .int .i64 T2.m, .slice e0 k5 e1, av, .int .i64 e4, .string e5, .int .i64 e6, .int .i64 e7, .slice e8 e9 e10]) := fun X row l' av hX hr hs =>
          RepE.close HN2.out (HK2.out.kept (fun b h => h.1) (fun b hb _ => HBk.out X row hX hr b hb)) hs (HT2.out.kept (fun b h => h.1) (fun b hb _ => HBk.out X row hX hr b hb))
        have HGl2 : Hid (∀ l' : List (AH × Ex), l'.length ≤ 100000 → (∀ A ∈ l', AOk n (m + (n + 1)) A) → GE (n + 1) (m + (n + 1)) (.mk T2.k T2.p T2.n T2.m T2.t T2.kids l')) := fun l' h1 h2 => GE.of8 H8.out HKK.out (HGK.out.mono (by omega)) h1 h2
        have HAk : Hid (∀ A ∈ T2.arms, AOk n (m + (n + 1)) A) := fun A hA => (HArm.out A hA).mono (by omega)
        have HSl0 : Hid (SlG AmE x (fun b => (S b ∧ b < w.heap.size) ∨ w.heap.size + 2 ≤ b) T2.arms (.slice a5 p c5)) := HR3.out.slG (fun b h => h.1) (fun b h => .inr (Nat.le_trans HL9.out h))
        go_cut [] (fun wx => ∃ (T3 : Ex) (c3 : List Value), Hid (WM w c3 wx) ∧ Hid (RepE wx (fun b => (S b ∧ b < w.heap.size) ∨ w.heap.size + 2 ≤ b) T3 c3) ∧ Hid (GE (n + 1) (m + (n + 1)) T3))
        case first =>
          by_cases hr4 : r = 4
          · subst hr4
            have z5 := HW3.out.box.cell 5 _ rfl
            have f5 := HW3.out.box.free 5
            by_cases hkz : k = 0
            · subst hkz
              go_upto_region 20 with fail
              have HWk := Lib.hid (HW3.out.set 5 (.slice a5 0 c5)).1
              clear z5 f5 o5 HMk HBk
              generalize x.setCell ⟨w.heap.size, 5, none⟩ (.slice a5 0 c5) = X at *
              go_wp2_with (refine wpList_storeC rfl _ _ rfl _ _ [.int .i64 10, .int .i64 0, .string ⟨#[]⟩, .int .i64 0, .slice none 0 0, .slice none 0 0, .int .i64 0, .string ⟨#[]⟩, .int .i64 0, .int .i64 0, .slice none 0 0] HWk.out.box rfl rfl sizeEx rfl (by intro u hu; simp only [List.mem_cons, List.not_mem_nil, or_false] at hu; rcases hu with rfl | rfl | rfl | rfl | rfl | rfl | rfl | rfl | rfl | rfl | rfl <;> rfl) ?_; intro w8 hB8 hg8 hs8)
              have HWF : Hid (WM w [.int .i64 10, .int .i64 0, .string ⟨#[]⟩, .int .i64 0, .slice none 0 0, .slice none 0 0, .int .i64 0, .string ⟨#[]⟩, .int .i64 0, .int .i64 0, .slice none 0 0] w8) := ⟨hB8, HWk.out.res.grown hg8 (fun e => by have := Option.some.inj e; omega), Below.grown HWk.out.low hg8 HWk.out.low.size (fun k hk => by have := Option.some.inj hk; omega)⟩
              have HRF : Hid (RepE w8 (fun b => (S b ∧ b < w.heap.size) ∨ w.heap.size + 2 ≤ b) (.mk 10 0 ⟨#[]⟩ 0 zTy [] []) [.int .i64 10, .int .i64 0, .string ⟨#[]⟩, .int .i64 0, .slice none 0 0, .slice none 0 0, .int .i64 0, .string ⟨#[]⟩, .int .i64 0, .int .i64 0, .slice none 0 0]) := repE_leaf _ _ 10 0 ⟨#[]⟩ 0 (Nat.zero_le _)
              have HGF : Hid (GE (n + 1) (m + (n + 1)) (.mk 10 0 ⟨#[]⟩ 0 zTy [] [])) := GE.leaf (by decide) (by decide) rfl rfl
              clear hB8 hg8 hs8
              try go_wp2_with fail
              go_meet
              exact ⟨_, _, HWF, HRF, HGF⟩
            · have hkz' : ¬ ((k : Int) = 0) := by omega
              go_wp2_with fail
              have HWF := Lib.hid (HW3.out.set 5 (.slice a5 k c5)).1
              have hgF := (HW3.out.set 5 (.slice a5 k c5)).2
              have HRF := Lib.hid (HMk.out _ _ (T2.arms.take k) (.slice a5 k c5) hgF (fun k e => .inl (Option.some.inj e).symm) ((slG_tk HSl0.out (by rw [HAl2.out]; omega)).kept (fun b hb => hb) (fun b hb hl => hgF.block b hl (fun e => by have := Option.some.inj e; rcases hb with hb | hb; (have := hb.2; omega); omega))))
              have HGF := Lib.hid (HGl2.out (T2.arms.take k) (by rw [List.length_take, HAl2.out]; omega) (fun A hA => HAk.out A (List.mem_of_mem_take hA)))
              clear z5 f5 o5 hgF HW3 HMk HBk
              generalize x.setCell ⟨w.heap.size, 5, none⟩ (.slice a5 k c5) = X at *
              try go_wp2_with fail
              go_meet
              exact ⟨_, _, HWF, HRF, HGF⟩
          obtain ⟨A, hlj⟩ : ∃ A, T2.arms[k]? = some A := ⟨_, List.getElem?_eq_getElem (by rw [HAl2.out]; exact hk)⟩
          obtain ⟨g, hg6, hgl, hgs⟩ := HR3.out.head (by rw [HAl2.out]; omega)
          subst hg6
          obtain ⟨cc2, hrep2, hdm⟩ := rowG_getT HR3.out hlj
          obtain ⟨vv, cb, rfl, hvv, hrepb⟩ := hrep2
          rw [show AmE.k = 14 from rfl] at hdm
          have HAj := Lib.hid (HAk.out A (List.mem_of_getElem? hlj))
          by_cases hr2 : r = 2
          · subst hr2
            have z1 : x.cell? ⟨g, k * 14 + 1, none⟩ = some (.string A.1.con) := hdm 1 _ rfl
            have f1 : x.frozen? ⟨g, k * 14 + 1, none⟩ = false := HR3.out.free _
            have hput := HR3.out.put hlj (⟨A.1.pos, ⟨#[71, 111, 110, 101]⟩, A.1.vars⟩, A.2) 1 [.string ⟨#[71, 111, 110, 101]⟩] (fun c hc => by
              obtain ⟨vv, cb, rfl, h1, h2⟩ := hc
              exact ⟨[.int .i64 A.1.pos], [.string A.1.con], vv :: cb, rfl, rfl, rfl, ⟨vv, cb, rfl, h1, h2⟩⟩)
            have HPut : Hid (RowG AmE (x.setCell ⟨g, k * 14 + 1, none⟩ (.string ⟨#[71, 111, 110, 101]⟩)) w9.heap.size (fun b => (fun b => (S b ∧ b < w.heap.size) ∨ w.heap.size + 2 ≤ b) b ∧ b < w9.heap.size) (.slice (some ⟨g, 0, none⟩) p c5) (T2.arms.set k (⟨A.1.pos, ⟨#[71, 111, 110, 101]⟩, A.1.vars⟩, A.2)) ∧ x.grownBy (x.setCell ⟨g, k * 14 + 1, none⟩ (.string ⟨#[71, 111, 110, 101]⟩)) (some g)) := hput
            clear hput hdm hvv hrepb
            go_wp2_with fail
            have HWF := Lib.hid (HW3.out.far HPut.out.2 (fun k e => by cases e; have := HL9.out; omega))
            have HRF := Lib.hid (HMk.out _ _ _ _ HPut.out.2 (fun k e => by cases e; exact .inr hgl) (HPut.out.1.slG (S' := (fun b => (S b ∧ b < w.heap.size) ∨ w.heap.size + 2 ≤ b)) (fun b h => h.1) (fun b h => .inr (Nat.le_trans HL9.out h))))
            have HGF := Lib.hid (HGl2.out (T2.arms.set k (⟨A.1.pos, ⟨#[71, 111, 110, 101]⟩, A.1.vars⟩, A.2)) (by rw [List.length_set, HAl2.out]; exact hp1) (fun B hB => by
              rcases List.mem_or_eq_of_mem_set hB with h | rfl
              · exact HAk.out B h
              · exact ⟨HAj.out.len, HAj.out.sz, HAj.out.body⟩))
            clear z1 f1 o5 HPut HW3 HMk HBk HSl0 HR3
            generalize x.setCell ⟨g, k * 14 + 1, none⟩ (.string ⟨#[71, 111, 110, 101]⟩) = X at *
            try go_wp2_with fail
            go_meet
            exact ⟨_, _, HWF, HRF, HGF⟩
          by_cases hr1 : r = 1
          · subst hr1
            obtain ⟨va, vc, rfl, -⟩ := slice_form hvv
            have hA : ∀ X, Below x.heap.size x (x.alloc X) := fun X => (Below.refl _ x).alloc (Nat.le_refl _) X
            have HA := Lib.hid hA
            have HF0 : Hid (∀ V, Below x.heap.size x V → V.cell? ⟨w.heap.size, 5, none⟩ = some (.slice (some ⟨g, 0, none⟩) p c5) ∧ V.cell? ⟨g, k * 14 + 2, none⟩ = some (.slice va A.1.vars.length vc) ∧ V.frozen? ⟨g, k * 14 + 2, none⟩ = false) := fun V hV => ⟨(HW3.out.box.lift hV).cell 5 _ rfl, (hV.cell (show (⟨g, k * 14 + 2, none⟩ : Addr).block < x.heap.size from hgs)).trans (hdm 2 _ rfl), (HR3.out.lift hV).free _⟩
            have HVs : Hid (∀ V, Below x.heap.size x V → SlG StrE V (fun _ => True) A.1.vars (.slice va A.1.vars.length vc)) := fun V hV => (hvv.kept (S' := fun _ => True) (fun _ _ => trivial) (fun _ _ _ => rfl)).lift' hV
            have HL1 := Lib.hid (one_str x ⟨#[120]⟩)
            have HLn : Hid (A.1.vars.length ≤ m + n) := (HArm.out A (List.mem_of_getElem? hlj)).len
            have hvl : ([] : List ByteArray).length + A.1.vars.length ≤ 1000000 := by have := HLn.out; have := HMb.out; show 0 + A.1.vars.length ≤ 1000000; omega
            have HLb : Hid (([] : List ByteArray).length + A.1.vars.length ≤ 1000000) := hvl
            have HLc : Hid (A.1.vars.length + [(⟨#[120]⟩ : ByteArray)].length ≤ 1000000) := by have := HLn.out; have := HMb.out; show A.1.vars.length + 1 ≤ 1000000; omega
            have HNo : Hid (∀ N k : Nat, Value.ownBlock (.slice none 0 0) = some k → N ≤ k) := fun N k e => by cases e
            obtain ⟨z5, z2, z2f⟩ := HF0.out x (Below.refl _ x)
            obtain ⟨y5, y2, y2f⟩ := HF0.out _ (hA (.cells #[.string ⟨#[120]⟩] 9))
            obtain ⟨vn, hvn⟩ : ∃ n, n = A.1.vars.length := ⟨_, rfl⟩
            rw [← hvn] at HF0 HVs z2 y2
            clear hvn hvv hrepb hdm hA z2f y2f o5 hvl
            go_upto_region 13 with fail
            go_region_law
              (first
                | ((refine step_pushStr (by rfl) _ _ (by rfl) x.heap.size (.slice none 0 0) [] rfl (rowG_nil _ _ _ _) (.slice va vn vc) rfl A.1.vars (fun _ => True) ?_ HLb.out ?_ ?_); (first | with_reducible exact HVs.out _ (Below.refl _ _).drew | with_reducible exact HVs.out _ (HA.out _).drew | with_reducible exact HVs.out _ (Below.refl _ _) | with_reducible exact HVs.out _ (HA.out _)); (first | with_reducible exact (Below.refl x.heap.size x).drew.size | with_reducible exact (HA.out _).drew.size | with_reducible exact Nat.le_refl _ | with_reducible exact (HA.out _).size); (intro ax nx cx wx hnx hrowx hgx); (have hb4 : Below x.heap.size x wx := (by first | with_reducible exact Below.grown (Below.refl _ x).drew hgx (Below.refl x.heap.size x).drew.size (HNo.out _) | with_reducible exact Below.grown (HA.out _).drew hgx (HA.out _).drew.size (HNo.out _) | with_reducible exact Below.grown (Below.refl _ x) hgx (Nat.le_refl _) (HNo.out _) | with_reducible exact Below.grown (HA.out _) hgx (HA.out _).size (HNo.out _))); (first | (have hlx := HL1.out.lift' (Below.grown (Below.refl _ (x.alloc (.cells #[.string ⟨#[120]⟩] 9))).drew hgx (Below.refl (x.alloc (.cells #[.string ⟨#[120]⟩] 9)).heap.size (x.alloc (.cells #[.string ⟨#[120]⟩] 9))).drew.size (HNo.out _)); have HLx := Lib.hid hlx; clear hlx) | (have hlx := HL1.out.lift' (Below.grown (Below.refl _ (x.alloc (.cells #[.string ⟨#[120]⟩] 9))) hgx (Nat.le_refl _) (HNo.out _)); have HLx := Lib.hid hlx; clear hlx) | skip); (have HB4 := Lib.hid hb4); (have hal := (Below.refl _ wx).alloc (Nat.le_refl _) (.cells #[.string ⟨#[120]⟩] 9)); (have HB4a := Lib.hid (hb4.trans (hal.mono hb4.size))); (obtain ⟨e5, e2, e2f⟩ := HF0.out wx hb4); (obtain ⟨g5, g2, g2f⟩ := HF0.out _ HB4a.out); rw [List.nil_append] at hrowx; (have HRx := Lib.hid hrowx); (have HRxa := Lib.hid (hrowx.lift hal)); (have HRo : Hid (∀ k, Value.ownBlock (.slice ax nx cx) = some k → x.heap.size ≤ k) := fun k e => (HRx.out.lt k e).1); clear hb4 hal hnx hrowx hgx)
                | ((refine step_pushStr (by rfl) _ _ (by rfl) x.heap.size (.slice ax nx cx) A.1.vars rfl ?_ _ rfl [⟨#[120]⟩] (fun _ => True) ?_ HLc.out ?_ ?_); (first | with_reducible exact HRx.out | with_reducible exact HRxa.out); (change SlG StrE _ _ _ (.slice (some ⟨_, 0, none⟩) 1 1)); (first | with_reducible exact HLx.out | with_reducible exact one_str wx _); (first | with_reducible exact HB4.out.size | with_reducible exact HB4a.out.size); (intro ay ny cy wy hny hrowy hgy); (have hb6 : Below x.heap.size x wy := (by first | with_reducible exact Below.grown HB4.out hgy HB4.out.size HRo.out | with_reducible exact Below.grown HB4a.out hgy HB4a.out.size HRo.out)); (have HB6 := Lib.hid hb6); (obtain ⟨i5, i2, i2f⟩ := HF0.out wy hb6); (have HRy := Lib.hid hrowy); clear hb6 hny hrowy hgy))
            all_goals
              have hput := ((HR3.out.lift HB6.out).imp (S' := (fun b => (S b ∧ b < w.heap.size) ∨ w.heap.size + 2 ≤ b)) (fun b h => h.1)).put hlj (⟨A.1.pos, A.1.con, A.1.vars ++ [⟨#[120]⟩]⟩, A.2) 2 [.slice ay ny cy] (fun c hc => by
                obtain ⟨vv', cb', rfl, h1, h2⟩ := hc
                refine ⟨[.int .i64 A.1.pos, .string A.1.con], [vv'], cb', rfl, rfl, rfl, ⟨.slice ay ny cy, cb', rfl, HRy.out.slG (fun b h => h.elim) (fun b hb => ⟨.inr ?_, ?_⟩), h2⟩⟩
                · have := HL9.out; have := HG3.out.size; omega
                · omega)
              have HPut : Hid (RowG AmE (wy.setCell ⟨g, k * 14 + 2, none⟩ (.slice ay ny cy)) w9.heap.size (fun b => (S b ∧ b < w.heap.size) ∨ w.heap.size + 2 ≤ b) (.slice (some ⟨g, 0, none⟩) p c5) (T2.arms.set k (⟨A.1.pos, A.1.con, A.1.vars ++ [⟨#[120]⟩]⟩, A.2)) ∧ wy.grownBy (wy.setCell ⟨g, k * 14 + 2, none⟩ (.slice ay ny cy)) (some g)) := hput
              have hgX := grown_trans (grown_of_below HB6.out (some g)) HPut.out.2
              have HWF := Lib.hid (HW3.out.far hgX (fun k e => by cases e; have := HL9.out; omega))
              have HRF := Lib.hid (HMk.out _ _ _ _ hgX (fun k e => by cases e; exact .inr hgl) (HPut.out.1.slG (S' := (fun b => (S b ∧ b < w.heap.size) ∨ w.heap.size + 2 ≤ b)) (fun b h => h) (fun b h => .inr (Nat.le_trans HL9.out h))))
              have HGF := Lib.hid (HGl2.out (T2.arms.set k (⟨A.1.pos, A.1.con, A.1.vars ++ [⟨#[120]⟩]⟩, A.2)) (by rw [List.length_set, HAl2.out]; exact hp1) (fun B hB => by
                rcases List.mem_or_eq_of_mem_set hB with h | rfl
                · exact HAk.out B h
                · have ha := HArm.out A (List.mem_of_getElem? hlj)
                  refine ⟨?_, fun y hy => ?_, ?_⟩
                  · show (A.1.vars ++ [_]).length ≤ _
                    rw [List.length_append]
                    have := ha.len
                    show A.1.vars.length + 1 ≤ _
                    omega
                  · rcases List.mem_append.1 hy with h | h
                    · exact ha.sz y h
                    · obtain rfl : y = ⟨#[120]⟩ := by simpa using h
                      decide
                  · show GE n (m + (n + 1) - (A.1.vars ++ [_]).length) A.2
                    rw [List.length_append]
                    show GE n (m + (n + 1) - (A.1.vars.length + 1)) A.2
                    rw [show m + (n + 1) - (A.1.vars.length + 1) = m + n - A.1.vars.length by omega]
                    exact ha.body))
              clear hput HPut hgX i2 i2f e5 e2 e2f g5 g2 g2f z5 z2 y5 y2 HW3 HMk HBk HSl0 HR3 HRx HRxa HRy HB4 HB4a HB6 HF0 HVs HL1 HA
              generalize wy.setCell ⟨g, k * 14 + 2, none⟩ (.slice ay ny cy) = X at *
              clear i5
              go_wp2_with fail
              go_meet
              exact ⟨_, _, HWF, HRF, HGF⟩
          by_cases hr3 : r = 3
          · subst hr3
            obtain ⟨va, vc, rfl, -⟩ := slice_form hvv
            obtain ⟨fa, fc, ga, gc, yk, yn, yi, yh, ya, yl, yc, rfl⟩ := hrepb.form
            obtain ⟨A0, hlj0⟩ : ∃ A0, T2.arms[0]? = some A0 := ⟨_, List.getElem?_eq_getElem (by rw [HAl2.out]; omega)⟩
            obtain ⟨cc0, hrep0, hdm0⟩ := rowG_getT HR3.out hlj0
            obtain ⟨vv0, cb0, rfl, hvv0, hrepb0⟩ := hrep0
            obtain ⟨va0, vc0, rfl, -⟩ := slice_form hvv0
            obtain ⟨fa0, fc0, ga0, gc0, yk0, yn0, yi0, yh0, ya0, yl0, yc0, rfl⟩ := hrepb0.form
            rw [show AmE.k = 14 from rfl] at hdm0
            have HA0j := Lib.hid (HAk.out A0 (List.mem_of_getElem? hlj0))
            obtain ⟨hput2, hth2, hput1⟩ := swap_put (v0 := .int .i64 A0.1.pos) (v1 := .string A0.1.con) (v2 := .slice va0 A0.1.vars.length vc0) (v3 := .int .i64 A0.2.k) (v4 := .int .i64 A0.2.p) (v5 := .string A0.2.n) (v6 := .int .i64 A0.2.m) (v7 := .slice fa0 A0.2.kids.length fc0) (v8 := .slice ga0 A0.2.arms.length gc0) (v9 := .int .i64 yk0) (v10 := .string yn0) (v11 := .int .i64 yi0) (v12 := .int .i64 yh0) (v13 := .slice ya0 yl0 yc0) (u0 := .int .i64 A.1.pos) (u1 := .string A.1.con) (u2 := .slice va A.1.vars.length vc) (u3 := .int .i64 A.2.k) (u4 := .int .i64 A.2.p) (u5 := .string A.2.n) (u6 := .int .i64 A.2.m) (u7 := .slice fa A.2.kids.length fc) (u8 := .slice ga A.2.arms.length gc) (u9 := .int .i64 yk) (u10 := .string yn) (u11 := .int .i64 yi) (u12 := .int .i64 yh) (u13 := .slice ya yl yc) HR3.out hlj hlj0 ⟨_, _, rfl, hvv0, hrepb0⟩ ⟨_, _, rfl, hvv, hrepb⟩
            obtain ⟨X, hX⟩ : ∃ X, X = ((((((((((((((((((((((((((((x.setCell ⟨g, k * 14, none⟩ (.int .i64 A0.1.pos)).setCell ⟨g, k * 14 + 1, none⟩ (.string A0.1.con)).setCell ⟨g, k * 14 + 2, none⟩ (.slice va0 A0.1.vars.length vc0)).setCell ⟨g, k * 14 + 3, none⟩ (.int .i64 A0.2.k)).setCell ⟨g, k * 14 + 4, none⟩ (.int .i64 A0.2.p)).setCell ⟨g, k * 14 + 5, none⟩ (.string A0.2.n)).setCell ⟨g, k * 14 + 6, none⟩ (.int .i64 A0.2.m)).setCell ⟨g, k * 14 + 7, none⟩ (.slice fa0 A0.2.kids.length fc0)).setCell ⟨g, k * 14 + 8, none⟩ (.slice ga0 A0.2.arms.length gc0)).setCell ⟨g, k * 14 + 9, none⟩ (.int .i64 yk0)).setCell ⟨g, k * 14 + 10, none⟩ (.string yn0)).setCell ⟨g, k * 14 + 11, none⟩ (.int .i64 yi0)).setCell ⟨g, k * 14 + 12, none⟩ (.int .i64 yh0)).setCell ⟨g, k * 14 + 13, none⟩ (.slice ya0 yl0 yc0)).setCell ⟨g, 0, none⟩ (.int .i64 A.1.pos)).setCell ⟨g, 1, none⟩ (.string A.1.con)).setCell ⟨g, 2, none⟩ (.slice va A.1.vars.length vc)).setCell ⟨g, 3, none⟩ (.int .i64 A.2.k)).setCell ⟨g, 4, none⟩ (.int .i64 A.2.p)).setCell ⟨g, 5, none⟩ (.string A.2.n)).setCell ⟨g, 6, none⟩ (.int .i64 A.2.m)).setCell ⟨g, 7, none⟩ (.slice fa A.2.kids.length fc)).setCell ⟨g, 8, none⟩ (.slice ga A.2.arms.length gc)).setCell ⟨g, 9, none⟩ (.int .i64 yk)).setCell ⟨g, 10, none⟩ (.string yn)).setCell ⟨g, 11, none⟩ (.int .i64 yi)).setCell ⟨g, 12, none⟩ (.int .i64 yh)).setCell ⟨g, 13, none⟩ (.slice ya yl yc)) := ⟨_, rfl⟩
            rw [← hX] at hput2
            have HX := Lib.hid hX
            clear hX
            have HPut := Lib.hid hput2
            have hfr : ∀ j, x.frozen? ⟨g, j, none⟩ = false := fun j => HR3.out.free j
            obtain ⟨F, hF⟩ : ∃ F : Nat → Value, ∀ i, i < 14 → World.cell? ((((((((((((((x.setCell ⟨g, k * 14, none⟩ (.int .i64 A0.1.pos)).setCell ⟨g, k * 14 + 1, none⟩ (.string A0.1.con)).setCell ⟨g, k * 14 + 2, none⟩ (.slice va0 A0.1.vars.length vc0)).setCell ⟨g, k * 14 + 3, none⟩ (.int .i64 A0.2.k)).setCell ⟨g, k * 14 + 4, none⟩ (.int .i64 A0.2.p)).setCell ⟨g, k * 14 + 5, none⟩ (.string A0.2.n)).setCell ⟨g, k * 14 + 6, none⟩ (.int .i64 A0.2.m)).setCell ⟨g, k * 14 + 7, none⟩ (.slice fa0 A0.2.kids.length fc0)).setCell ⟨g, k * 14 + 8, none⟩ (.slice ga0 A0.2.arms.length gc0)).setCell ⟨g, k * 14 + 9, none⟩ (.int .i64 yk0)).setCell ⟨g, k * 14 + 10, none⟩ (.string yn0)).setCell ⟨g, k * 14 + 11, none⟩ (.int .i64 yi0)).setCell ⟨g, k * 14 + 12, none⟩ (.int .i64 yh0)).setCell ⟨g, k * 14 + 13, none⟩ (.slice ya0 yl0 yc0)) ⟨g, i, none⟩ = some (F i) := ⟨fun i => if h : i < 14 then (hth2 i h).choose else default, fun i h => by simp only [dif_pos h]; exact (hth2 i h).choose_spec⟩
            have z5 := HW3.out.box.cell 5 _ rfl
            have y5 : World.cell? ((((((((((((((x.setCell ⟨g, k * 14, none⟩ (.int .i64 A0.1.pos)).setCell ⟨g, k * 14 + 1, none⟩ (.string A0.1.con)).setCell ⟨g, k * 14 + 2, none⟩ (.slice va0 A0.1.vars.length vc0)).setCell ⟨g, k * 14 + 3, none⟩ (.int .i64 A0.2.k)).setCell ⟨g, k * 14 + 4, none⟩ (.int .i64 A0.2.p)).setCell ⟨g, k * 14 + 5, none⟩ (.string A0.2.n)).setCell ⟨g, k * 14 + 6, none⟩ (.int .i64 A0.2.m)).setCell ⟨g, k * 14 + 7, none⟩ (.slice fa0 A0.2.kids.length fc0)).setCell ⟨g, k * 14 + 8, none⟩ (.slice ga0 A0.2.arms.length gc0)).setCell ⟨g, k * 14 + 9, none⟩ (.int .i64 yk0)).setCell ⟨g, k * 14 + 10, none⟩ (.string yn0)).setCell ⟨g, k * 14 + 11, none⟩ (.int .i64 yi0)).setCell ⟨g, k * 14 + 12, none⟩ (.int .i64 yh0)).setCell ⟨g, k * 14 + 13, none⟩ (.slice ya0 yl0 yc0)) ⟨w.heap.size, 5, none⟩ = some (.slice (some ⟨g, 0, none⟩) p c5) := (HW3.out.far hput1 (fun k e => by cases e; have := HL9.out; omega)).box.cell 5 _ rfl
            have hp0n : 0 < p := by omega
            have hp0i : (0 : Int) < (p : Int) := by omega
            have s0 : x.cell? ⟨g, 0, none⟩ = some (.int .i64 A0.1.pos) := hdm0 0 _ rfl
            have t0 : x.cell? ⟨g, k * 14, none⟩ = some (.int .i64 A.1.pos) := hdm 0 _ rfl
            have s1 : x.cell? ⟨g, 1, none⟩ = some (.string A0.1.con) := hdm0 1 _ rfl
            have t1 : x.cell? ⟨g, k * 14 + 1, none⟩ = some (.string A.1.con) := hdm 1 _ rfl
            have s2 : x.cell? ⟨g, 2, none⟩ = some (.slice va0 A0.1.vars.length vc0) := hdm0 2 _ rfl
            have t2 : x.cell? ⟨g, k * 14 + 2, none⟩ = some (.slice va A.1.vars.length vc) := hdm 2 _ rfl
            have s3 : x.cell? ⟨g, 3, none⟩ = some (.int .i64 A0.2.k) := hdm0 3 _ rfl
            have t3 : x.cell? ⟨g, k * 14 + 3, none⟩ = some (.int .i64 A.2.k) := hdm 3 _ rfl
            have s4 : x.cell? ⟨g, 4, none⟩ = some (.int .i64 A0.2.p) := hdm0 4 _ rfl
            have t4 : x.cell? ⟨g, k * 14 + 4, none⟩ = some (.int .i64 A.2.p) := hdm 4 _ rfl
            have s5 : x.cell? ⟨g, 5, none⟩ = some (.string A0.2.n) := hdm0 5 _ rfl
            have t5 : x.cell? ⟨g, k * 14 + 5, none⟩ = some (.string A.2.n) := hdm 5 _ rfl
            have s6 : x.cell? ⟨g, 6, none⟩ = some (.int .i64 A0.2.m) := hdm0 6 _ rfl
            have t6 : x.cell? ⟨g, k * 14 + 6, none⟩ = some (.int .i64 A.2.m) := hdm 6 _ rfl
            have s7 : x.cell? ⟨g, 7, none⟩ = some (.slice fa0 A0.2.kids.length fc0) := hdm0 7 _ rfl
            have t7 : x.cell? ⟨g, k * 14 + 7, none⟩ = some (.slice fa A.2.kids.length fc) := hdm 7 _ rfl
            have s8 : x.cell? ⟨g, 8, none⟩ = some (.slice ga0 A0.2.arms.length gc0) := hdm0 8 _ rfl
            have t8 : x.cell? ⟨g, k * 14 + 8, none⟩ = some (.slice ga A.2.arms.length gc) := hdm 8 _ rfl
            have s9 : x.cell? ⟨g, 9, none⟩ = some (.int .i64 yk0) := hdm0 9 _ rfl
            have t9 : x.cell? ⟨g, k * 14 + 9, none⟩ = some (.int .i64 yk) := hdm 9 _ rfl
            have s10 : x.cell? ⟨g, 10, none⟩ = some (.string yn0) := hdm0 10 _ rfl
            have t10 : x.cell? ⟨g, k * 14 + 10, none⟩ = some (.string yn) := hdm 10 _ rfl
            have s11 : x.cell? ⟨g, 11, none⟩ = some (.int .i64 yi0) := hdm0 11 _ rfl
            have t11 : x.cell? ⟨g, k * 14 + 11, none⟩ = some (.int .i64 yi) := hdm 11 _ rfl
            have s12 : x.cell? ⟨g, 12, none⟩ = some (.int .i64 yh0) := hdm0 12 _ rfl
            have t12 : x.cell? ⟨g, k * 14 + 12, none⟩ = some (.int .i64 yh) := hdm 12 _ rfl
            have s13 : x.cell? ⟨g, 13, none⟩ = some (.slice ya0 yl0 yc0) := hdm0 13 _ rfl
            have t13 : x.cell? ⟨g, k * 14 + 13, none⟩ = some (.slice ya yl yc) := hdm 13 _ rfl
            clear hdm hdm0 hput1 hput2 hth2 hvv hvv0 hrepb hrepb0 hlj0 o5
            generalize A.1.vars.length = l1 at *
            generalize A0.1.vars.length = l2 at *
            generalize A.2.kids.length = l3 at *
            generalize A0.2.kids.length = l4 at *
            generalize A.2.arms.length = l5 at *
            generalize A0.2.arms.length = l6 at *
            go_upto_region 17 with fail
            go_region
            have HWF := Lib.hid (HW3.out.far HPut.out.2 (fun k e => by cases e; have := HL9.out; omega))
            have HRF := Lib.hid (HMk.out _ _ _ _ HPut.out.2 (fun k e => by cases e; exact .inr hgl) (HPut.out.1.slG (S' := (fun b => (S b ∧ b < w.heap.size) ∨ w.heap.size + 2 ≤ b)) (fun b h => h.1) (fun b h => .inr (Nat.le_trans HL9.out h))))
            have HGF := Lib.hid (HGl2.out ((T2.arms.set k A0).set 0 A) (by rw [List.length_set, List.length_set, HAl2.out]; exact hp1) (fun B hB => by
              rcases List.mem_or_eq_of_mem_set hB with h | rfl
              · rcases List.mem_or_eq_of_mem_set h with h | rfl
                · exact HAk.out B h
                · exact HA0j.out
              · exact HAj.out))
            clear HPut HW3 HMk HBk HSl0 HR3 y5 z5 hF hfr s0 t0 s1 t1 s2 t2 s3 t3 s4 t4 s5 t5 s6 t6 s7 t7 s8 t8 s9 t9 s10 t10 s11 t11 s12 t12 s13 t13
            have hX := HX.out
            rw [← hX]
            clear hX HX
            have hdr : Below X.heap.size X X.drew := (Below.refl _ X).drew
            have HWD := Lib.hid (HWF.out.lift hdr)
            have HRD := Lib.hid (HRF.out.lift hdr)
            clear HWF HRF hdr
            go_wp2_with fail
            go_meet
            exact ⟨_, _, HWD, HRD, HGF⟩
          · go_wp2_with fail
            have HWF := HW3
            have HRF := Lib.hid (HMk.out x none T2.arms (.slice (some ⟨g, 0, none⟩) p c5) (World.grownBy.refl _ _) (fun k e => by cases e) HSl0.out)
            have HGF := Lib.hid (HGl2.out T2.arms (by rw [HAl2.out]; exact hp1) HAk.out)
            try go_wp2_with fail
            go_meet
            exact ⟨_, _, HWF, HRF, HGF⟩
        case rest =>
          obtain ⟨T3, c3, HWF, HRF, HGF⟩ := hcut
          obtain ⟨q0, q1, q2, q3, q4, q5, q6, q7, q8, q9, q10, rfl⟩ := HRF.out.form
          generalize T3.kids.length = k6 at *
          generalize T3.arms.length = p6 at *
          obtain ⟨b0, b1, b2, b3, b4, b5, b6, b7, b8, b9, b10⟩ := bx11 HWF.out.box
          clear o5 HW3 HR3 HMk HBk HSl0 HG3
          go_wp2_with (refine wpList_storeC rfl _ _ rfl _ _ [.int .i64 T3.k, .int .i64 T3.p, .string T3.n, .int .i64 T3.m, .slice q0 k6 q1, .slice q2 p6 q3, .int .i64 q4, .string q5, .int .i64 q6, .int .i64 q7, .slice q8 q9 q10] HWF.out.res rfl rfl sizeEx rfl HRF.out.len.2 ?_; intro vF hB9 hg9 hs9)
          have c0 := hB9.cell 0 _ rfl; have c1 := hB9.cell 1 _ rfl; have c2 := hB9.cell 2 _ rfl; have c3' := hB9.cell 3 _ rfl; have c4' := hB9.cell 4 _ rfl; have c5' := hB9.cell 5 _ rfl; have c6' := hB9.cell 6 _ rfl; have c7 := hB9.cell 7 _ rfl; have c8 := hB9.cell 8 _ rfl; have c9 := hB9.cell 9 _ rfl; have c10 := hB9.cell 10 _ rfl
          refine bodyPost_ret (by simp [results, Try.results8, go_sem, c0, c1, c2, c3', c4', c5', c6', c7, c8, c9, c10]; try rfl) rfl ?_
          refine ⟨_, _, rfl, HGF.out, HRF.out.kept (fun b hb => ?_) (fun b hb hl => hg9.block b hl (fun e => ?_)), Below.grown HWF.out.low hg9 HWF.out.low.size (fun k hk => by have := Option.some.inj hk; omega)⟩
          · rcases hb with hb | hb
            · exact .inl hb.1
            · exact .inr (by omega)
          · have := Option.some.inj e
            rcases hb with hb | hb
            · have := hb.2; omega
            · omega
end Go.Proofs.Ytljgpgmaceackaa
