/- The contracts of chapter 4's reference: Children. -/
import Derived.Test.YthphnacfidofbaaGreatDoorExQ1
import Derived.Test.YthphnacfidofbaaGreatDoorExMd
import Derived.LoopTactic
namespace Go.Proofs.YthphnacfidofbaaGreatDoor
open Go.RowKit Go.Maps Mth

theorem slG_lift {α : Type} {E : El α} {w w' : World} {S : Nat → Prop} {xs : List α} {v : Value} (h : SlG E w S xs v) (hb : Below w.heap.size w w') : SlG E w' S xs v := SlG.kept (fun _ h => h) (fun g _ hl => hb.block g hl) h
/-- The cells of an arm's body, as a walk meets them. -/
theorem body11 {w : World} {ad : Addr} {j : Nat} {v0 v1 v2 c0 c1 c2 c3 c4 c5 c6 c7 c8 c9 c10 : Value} (h : ∀ (m : Nat) (u : Value), [v0, v1, v2, c0, c1, c2, c3, c4, c5, c6, c7, c8, c9, c10][m]? = some u → w.cell? (ad.add (j * 14 + m)) = some u) :
    w.cell? ⟨(ad.add (j * 14)).block, (ad.add (j * 14)).off + 3, none⟩ = some c0 ∧ w.cell? ⟨(ad.add (j * 14)).block, (ad.add (j * 14)).off + 3 + 1, none⟩ = some c1 ∧ w.cell? ⟨(ad.add (j * 14)).block, (ad.add (j * 14)).off + 3 + 2, none⟩ = some c2 ∧ w.cell? ⟨(ad.add (j * 14)).block, (ad.add (j * 14)).off + 3 + 3, none⟩ = some c3 ∧ w.cell? ⟨(ad.add (j * 14)).block, (ad.add (j * 14)).off + 3 + 4, none⟩ = some c4 ∧ w.cell? ⟨(ad.add (j * 14)).block, (ad.add (j * 14)).off + 3 + 5, none⟩ = some c5 ∧ w.cell? ⟨(ad.add (j * 14)).block, (ad.add (j * 14)).off + 3 + 6, none⟩ = some c6 ∧ w.cell? ⟨(ad.add (j * 14)).block, (ad.add (j * 14)).off + 3 + 7, none⟩ = some c7 ∧ w.cell? ⟨(ad.add (j * 14)).block, (ad.add (j * 14)).off + 3 + 8, none⟩ = some c8 ∧ w.cell? ⟨(ad.add (j * 14)).block, (ad.add (j * 14)).off + 3 + 9, none⟩ = some c9 ∧ w.cell? ⟨(ad.add (j * 14)).block, (ad.add (j * 14)).off + 3 + 10, none⟩ = some c10 := by
  refine ⟨?_, ?_, ?_, ?_, ?_, ?_, ?_, ?_, ?_, ?_, ?_⟩
  all_goals (try rw [Nat.add_assoc _ 3]); rw [add_add' _ _ _ (by omega)]
  · exact h 3 _ rfl
  · exact h 4 _ rfl
  · exact h 5 _ rfl
  · exact h 6 _ rfl
  · exact h 7 _ rfl
  · exact h 8 _ rfl
  · exact h 9 _ rfl
  · exact h 10 _ rfl
  · exact h 11 _ rfl
  · exact h 12 _ rfl
  · exact h 13 _ rfl
theorem body_rep {w V : World} {S : Nat → Prop} {v : Value} {T : Ex} {c : List Value} (h : RepE V S T c) (hb : Below V.heap.size V w) (hv : ∀ k, v.ownBlock = some k → V.heap.size ≤ k) (o : Obj) : RepE (w.alloc o) (fun b => (S b ∧ b < V.heap.size) ∧ some b ≠ v.ownBlock) T c := by
  have h1 := h.bound.kept (S' := fun b => (S b ∧ b < V.heap.size) ∧ some b ≠ v.ownBlock) (fun g hg => ⟨hg, fun e => by have := hv g e.symm; have := hg.2; omega⟩) (fun g hg _ => hb.block g hg.2)
  exact h1.lift ((Below.refl _ w).alloc (Nat.le_refl _) o)
set_option maxRecDepth 100000 in
set_option maxHeartbeats 6400000 in
theorem children_any (T : Ex) (hb : T.kids.length ≤ 2 ∧ T.arms.length ≤ 900000) (S : Nat → Prop) (c : List Value) (w : World) (h : RepE w S T c) :
    Calls Tryz.prog 55 #[.agg c.toArray] w fun e w' => ∃ a cp, e = .returned (.slice a (chd T).length cp) ∧ SlG ExE w' (fun _ => True) (chd T) (.slice a (chd T).length cp) ∧ Below w.heap.size w w' := by
  have HR := Lib.hid h
  obtain ⟨kv, av, tc0, hc0, -, hk, ha, -⟩ := h.open
  obtain ⟨ka, kc, aa, ac, tk, tn, ti, th, ta, tl, tc, rfl⟩ := h.form
  simp only [List.cons.injEq] at hc0
  obtain ⟨-, -, -, -, rfl, rfl, -⟩ := hc0
  have hba : Below w.heap.size w (w.alloc (.cells #[.int .i64 T.k, .int .i64 T.p, .string T.n, .int .i64 T.m, .slice ka T.kids.length kc, .slice aa T.arms.length ac, .int .i64 tk, .string tn, .int .i64 ti, .int .i64 th, .slice ta tl tc] 54)) := (Below.refl _ w).alloc (Nat.le_refl _) _
  have HB0 := Lib.hid (BoxC.made 54 w [.int .i64 T.k, .int .i64 T.p, .string T.n, .int .i64 T.m, .slice ka T.kids.length kc, .slice aa T.arms.length ac, .int .i64 tk, .string tn, .int .i64 ti, .int .i64 th, .slice ta tl tc])
  have HK := Lib.hid (slG_lift hk hba)
  have HA := Lib.hid (slG_lift ha hba)
  have HBa := Lib.hid hba
  have hkb := hb.1
  have hab := hb.2
  obtain ⟨n, hn⟩ : ∃ n, n = T.arms.length := ⟨_, rfl⟩
  have HN := Lib.hid hn
  rw [← hn] at hab
  simp only [← hn] at HB0 HA HBa HK ⊢
  clear h hk ha hba hb hn
  simp only [List.toArray] at HB0 ⊢
  go_enter Tryz.func55, Tryz.ntmps55
  go_upto_region 1 with fail
  generalize (w.alloc (.cells #[.int .i64 T.k, .int .i64 T.p, .string T.n, .int .i64 T.m, .slice ka T.kids.length kc, .slice aa n ac, .int .i64 tk, .string tn, .int .i64 ti, .int .i64 th, .slice ta tl tc] 54)) = V at *
  obtain ⟨b0, b1, b2, b3, b4, b5, b6, b7, b8, b9, b10⟩ := HB0.out.all11
  go_wp2_with (at_builtin; refine wpList_cloneG ExE rfl _ _ rfl rfl T.kids _ S HK.out rfl (by omega) ?_; intro sa0 sc0 V2 hrow0 hb0; have HRow0 := Lib.hid hrow0; have HB2 := Lib.hid hb0; clear hrow0 hb0)
  clear b0 b1 b2 b3 b4 b5 b6 b7 b8 b9 b10
  go_loopw [3, 4] (fun y i wr => ∃ (j : Nat) (l : List Ex) (sa : Option Addr) (sc : Nat), j ≤ n ∧ i = .int .i64 j ∧ y = .slice sa l.length sc ∧ l.length ≤ 2 + j ∧ Hid (l = T.kids ++ (T.arms.take j).map (·.2)) ∧ Hid (RowG ExE wr V.heap.size (fun b => S b ∧ b < V.heap.size) (.slice sa l.length sc) l) ∧ Hid (Below V.heap.size V wr)) (fun _ i _ => n - (intOf i).toNat)
  case atStart => exact ⟨0, T.kids, sa0, sc0, Nat.zero_le _, rfl, rfl, by omega, by show _ = _; simp, HRow0, HB2⟩
  case round =>
    clear HRow0 HB2
    obtain ⟨j, l, sa, sc, hj, rfl, rfl, hll, HL, HRow, HBr⟩ := hrel
    obtain ⟨b0, b1, b2, b3, b4, b5, b6, b7, b8, b9, b10⟩ := (BoxC.lift HB0.out HBr.out).all11
    by_cases hlt : j < n
    · obtain ⟨A, hA⟩ : ∃ x, T.arms[j]? = some x := ⟨_, List.getElem?_eq_getElem (by rw [← HN.out]; exact hlt)⟩
      obtain ⟨xa, xc, exa, -, hja⟩ := HA.out
      simp only [Value.slice.injEq] at exa
      obtain ⟨rfl, -, rfl⟩ := exa
      obtain ⟨ad, c, rfl, -, hcells, ⟨vv, cb, rfl, -, hrepb⟩⟩ := hja j A hA
      have HLt : Hid ((T.arms.take (j + 1)).map (·.2) = (T.arms.take j).map (·.2) ++ [A.2]) := by show _ = _; rw [List.take_add_one, hA]; simp
      have HRepB := Lib.hid hrepb
      obtain ⟨kb, kd, ab, ae, uk, un, ui, uh, ua, ul, uc, rfl⟩ := hrepb.form
      have hcells' : ∀ (m : Nat) (u : Value), (.int .i64 A.1.pos :: .string A.1.con :: vv :: [.int .i64 A.2.k, .int .i64 A.2.p, .string A.2.n, .int .i64 A.2.m, .slice kb A.2.kids.length kd, .slice ab A.2.arms.length ae, .int .i64 uk, .string un, .int .i64 ui, .int .i64 uh, .slice ua ul uc])[m]? = some u → wr.cell? (ad.add (j * 14 + m)) = some u := fun m u hu => by
        have h1 : V.cell? (ad.add (j * 14 + m)) = some u := hcells m u hu
        rw [HBr.out.cell (World.block_lt_of_cell? _ _ h1)]; exact h1
      obtain ⟨q0, q1, q2, q3, q4, q5, q6, q7, q8, q9, q10⟩ := body11 hcells'
      have HOwn := Lib.hid (fun k e => (RowG.lt HRow.out k e).1)
      have hji : (j : Int) < (n : Int) := by omega
      have hsz := HBr.out.size
      clear hA hja hcells hcells' hrepb
      go_wp2_with (at_builtin; refine wpList_pushG ExE rfl _ _ rfl V.heap.size (fun b => S b ∧ b < V.heap.size) _ l rfl (HRow.out.lift ((Below.refl _ wr).alloc (Nat.le_refl _) _)) wr.heap.size 54 [.int .i64 A.2.k, .int .i64 A.2.p, .string A.2.n, .int .i64 A.2.m, .slice kb A.2.kids.length kd, .slice ab A.2.arms.length ae, .int .i64 uk, .string un, .int .i64 ui, .int .i64 uh, .slice ua ul uc] (heap_alloc_new wr _) rfl A.2 (body_rep HRepB.out HBr.out HOwn.out _) (l.length + 1) rfl (by omega) (by simp; omega) ?_; intro sa' sc' w' hrow' hg'; have HRow' := Lib.hid hrow'; have HG' := Lib.hid hg'; clear hrow' hg')
      have HBw : Hid (Below V.heap.size V w') := Below.grown (HBr.out.alloc HBr.out.size _) HG'.out (by simp; omega) HOwn.out
      clear q0 q1 q2 q3 q4 q5 q6 q7 q8 q9 q10 b0 b1 b2 b3 b4 b5 b6 b7 b8 b9 b10 HG' hsz
      go_roundw
      case rel => exact ⟨j + 1, l ++ [A.2], sa', sc', hlt, by go_num, by simp, by simp; omega, by show _ = _; rw [HLt.out, HL.out, List.append_assoc], by simpa using HRow', HBw⟩
      case measure => simp [intOf]; omega
    · obtain rfl : l = chd T := by
        rw [HL.out, List.take_of_length_le (by rw [← HN.out]; omega)]; rfl
      go_wp2
      go_ret
      exact ⟨sa, sc, rfl, HRow.out.slG (fun _ _ => trivial) (fun _ _ => trivial), HBa.out.trans (HBr.out.mono HBa.out.size)⟩
end Go.Proofs.YthphnacfidofbaaGreatDoor
