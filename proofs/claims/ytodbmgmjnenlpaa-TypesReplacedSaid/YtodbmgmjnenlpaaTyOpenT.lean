/- The contract of the package's Open. -/
import Derived.Test.YtodbmgmjnenlpaaTyRefOpen
namespace Go.Proofs.Ytodbmgmjnenlpaa
open Go.RowKit Go.Sort Go.Shelf Go.Maps Mth

set_option maxHeartbeats 1600000 in
theorem openClosure_of (gs : List Ty) (U : Ty) (hU : nodes U ≤ 1000000) (H : OpenAt Try.prog 34 gs U) (W : World) (B : Nat) (sv : Value) (S0 : Nat → Prop) (hB : W.cell? ⟨B, 0, none⟩ = some sv) (hA : RepL W S0 gs sv) (h0 : ∀ b, S0 b → b < W.heap.size) :
    MapOf Try.prog 65 #[.pointer (some ⟨B, 0, none⟩)] (opn gs) W S0 U := by
  intro v S w hS hf hb h
  have hcell := (hb.cell (World.block_lt_of_cell? _ _ hB)).trans hB
  have hlt : B < w.heap.size := World.block_lt_of_cell? _ _ hcell
  have hA' := hA
  obtain ⟨a, cap, rfl, -⟩ := hA'
  obtain ⟨k, n, i, hm, s, -, rfl, -, hs⟩ := h.open
  obtain ⟨sa, sc, rfl, -⟩ := hs
  have HR := Lib.hid h
  have HA := Lib.hid (hA.lift hb)
  have hb2 : ∀ X Y, Below w.heap.size w ((w.alloc (.cells X 24)).alloc (.cells Y 24)) := fun X Y => ((Below.refl _ w).alloc (Nat.le_refl _) _).alloc (by simp) _
  have HC := Lib.hid (fun X Y => H _ _ (fun b => S b ∧ b ≠ w.heap.size + 1) S0 ((w.alloc (.cells X 24)).alloc (.cells Y 24)) hU (HA.out.lift (hb2 X Y))
    (fun b hb' => by have := h0 b hb'; have := hb.size; simp; exact ⟨⟨hS b hb', by omega⟩, by omega⟩) (fun b hb => by simp at hb; exact ⟨hf b (by omega), by omega⟩) ((HR.out.bound.lift (hb2 X Y)).imp fun b hb => ⟨hb.1, by omega⟩))
  clear h hA H
  generalize U.ts.length = sn at *
  generalize gs.length = sl at *
  show Calls Try.prog 65 #[.agg #[.int .i64 k, .string n, .int .i64 i, .int .i64 hm, .slice sa sn sc], .pointer (some ⟨B, 0, none⟩)] w _
  have hcl2 : ∀ X Y, ((w.alloc (.cells X 24)).alloc (.cells Y 24)).cell? ⟨B, 0, none⟩ = some (.slice a sl cap) := fun X Y => ((hb2 X Y).cell hlt).trans hcell
  go_enter Try.func65, Try.ntmps65
  go_wp2_with fail
  go_at_call 34
  refine (HC.out _ _).mono ?_
  rintro e w1 ⟨u, rfl, hrep, hb1⟩
  have hbw := (hb2 _ _).trans (hb1.mono (hb2 _ _).size)
  have HB : Hid (Zero w1 (w.heap.size + 1)) := Box.lift (by unfold Box; rw [heap_at, if_pos (by simp)]) hb1
  clear hb1
  have HRep := Lib.hid hrep
  obtain ⟨k2, n2, i2, h2, s2, -, rfl, -, hs3⟩ := hrep.open
  obtain ⟨sa2, sc2, rfl, -⟩ := hs3
  clear hrep
  generalize (opn gs U).ts.length = sn2 at *
  go_wp2_with (refine wpList_store5 rfl _ _ rfl _ _ _ _ _ _ HB.out rfl _ _ _ _ _ _ _ rfl ?_; intro w2 hB2 hg2 hs2)
  obtain ⟨c0, c1, c2, c3, c4⟩ := hB2.cells
  refine bodyPost_ret (by simp [results, Try.results65, go_sem, c0, c1, c2, c3, c4]; try rfl) rfl ?_
  exact ⟨_, rfl, HRep.out.kept (fun b hb => hb.1) (fun b hb hlt => hg2.block b hlt (by intro e; cases e; exact hb.2 rfl)), Below.grown hbw hg2 hbw.size (fun j hj => by cases hj; omega)⟩

set_option maxRecDepth 100000 in
set_option maxHeartbeats 3200000 in
theorem open_of (gs : List Ty) (T : Ty) (H : ∀ U ∈ T.ts, OpenAt Try.prog 34 gs U) : OpenAt Try.prog 34 gs T := by
  intro v sv S S0 w hN hA h0 hf h
  have eg : ∀ args w, (callFunc 65 args).run Try.prog w = .ok (.enter 65 args) w := enters_of Try.func65 (by kernel_rfl) rfl
  have HA := Lib.hid hA
  obtain ⟨a, cap, rfl, ⟨hc1, hc2⟩, hj⟩ := hA
  obtain ⟨k, n, i, hm, s, eT, rfl, hn, hs⟩ := h.open
  have HR := Lib.hid h
  obtain ⟨sa, sc, rfl, -⟩ := hs
  have hb3 : ∀ X Y Z, Below w.heap.size w (((w.alloc (.cells X 24)).alloc (.cells Y 22)).alloc (.cells Z 24)) := fun X Y Z => (((Below.refl _ w).alloc (Nat.le_refl _) _).alloc (by simp) _).alloc (by simp; omega) _
  cases hk : opens gs k i with
  | false =>
    have HE : Hid (opn gs T = .mk T.k T.n T.i T.h (T.ts.map (opn gs))) := by
      show _ = _
      conv => lhs; rw [eT]
      conv => rhs; rw [eT]
      unfold opn
      rw [if_neg (by rw [hk]; simp), opnL_map]
      rfl
    have HC : Hid (∀ X Y Z, Y = #[Value.slice a gs.length cap] → Calls Try.prog 63 #[.agg #[.int .i64 k, .string n, .int .i64 i, .int .i64 hm, .slice sa T.ts.length sc], .func (.func 65) #[] #[.pointer (some ⟨w.heap.size + 1, 0, none⟩)]] (((w.alloc (.cells X 24)).alloc (.cells Y 22)).alloc (.cells Z 24))
        fun e w' => ∃ u, e = .returned u ∧ Rep w' (fun b => S b ∧ b ≠ w.heap.size + 1 + 1) (.mk T.k T.n T.i T.h (T.ts.map (opn gs))) u ∧ Below (((w.alloc (.cells X 24)).alloc (.cells Y 22)).alloc (.cells Z 24)).heap.size (((w.alloc (.cells X 24)).alloc (.cells Y 22)).alloc (.cells Z 24)) w') := by
      rintro X Y Z rfl
      have hsW : (((w.alloc (.cells X 24)).alloc (.cells #[Value.slice a gs.length cap] 22)).alloc (.cells Z 24)).heap.size = w.heap.size + 1 + 1 + 1 := by simp
      have hcell : (((w.alloc (.cells X 24)).alloc (.cells #[Value.slice a gs.length cap] 22)).alloc (.cells Z 24)).cell? ⟨w.heap.size + 1, 0, none⟩ = some (.slice a gs.length cap) := keep_alloc _ (by simp)
      refine withArgs_of _ _ eg (opn gs) S0 T _ (fun b => S b ∧ b ≠ w.heap.size + 1 + 1) _ (fun b hb => ⟨⟨(h0 b hb).1, by have := (h0 b hb).2; omega⟩, Nat.lt_of_lt_of_le (h0 b hb).2 (hb3 X _ Z).size⟩) (fun b hb => ⟨hf b (by rw [hsW] at hb; omega), by rw [hsW] at hb; omega⟩) (by have := ts_nodes T; omega) (fun U hU => ?_) ((HR.out.bound.imp fun b hb => ⟨hb.1, by omega⟩).lift (hb3 X _ Z))
      exact openClosure_of gs U (by have := mem_nodes hU; omega) (H U hU) _ _ (.slice a gs.length cap) S0 hcell (HA.out.lift (hb3 X _ Z)) (fun b hb => Nat.lt_of_lt_of_le (h0 b hb).2 (hb3 X _ Z).size)
    obtain ⟨sl, hsl⟩ : ∃ m, m = gs.length := ⟨_, rfl⟩
    have hno := opens_no hsl hk
    rw [← hsl] at HC ⊢
    clear HA H hj h eT hn hk hsl hc1
    generalize T.ts.length = sn at *
    go_enter Try.func34, Try.ntmps34
    go_upto_region 1 with fail
    go_cut [19] (fun s19 wx => s19 = .bool false ∧ wx = (((w.alloc (.cells #[.int .i64 k, .string n, .int .i64 i, .int .i64 hm, .slice sa sn sc] 24)).alloc (.cells #[.slice a sl cap] 22)).alloc (.cells #[.int .i64 0, .string ⟨#[]⟩, .int .i64 0, .int .i64 0, .slice none 0 0] 24)))
    case first =>
      rcases hno with h1 | ⟨h1, h2⟩ | ⟨h1, h2, h3⟩
      all_goals
        go_wp2_with fail
        go_meet
        exact ⟨rfl, rfl⟩
    obtain ⟨rfl, hwc⟩ := hcut
    subst hwc
    clear hno
    go_wp2_with fail
    go_at_call 63
    refine (HC.out _ _ _ rfl).mono ?_
    rintro e w1 ⟨u, rfl, hrep, hb1⟩
    have hbw := (hb3 _ _ _).trans (hb1.mono (hb3 _ _ _).size)
    have HB : Hid (Zero w1 (w.heap.size + 1 + 1)) := Box.lift (by unfold Box; rw [heap_at, if_pos (by simp)]) hb1
    clear hb1
    have HRep := Lib.hid hrep
    obtain ⟨k2, n2, i2, h2, s2, -, rfl, -, hs3⟩ := hrep.open
    obtain ⟨sa2, sc2, rfl, -⟩ := hs3
    clear hrep
    generalize (Ty.mk T.k T.n T.i T.h (T.ts.map (opn gs))).ts.length = sn2 at *
    go_wp2_with (refine wpList_store5 rfl _ _ rfl _ _ _ _ _ _ HB.out rfl _ _ _ _ _ _ _ rfl ?_; intro w2 hB2 hg2 hs2)
    obtain ⟨c0, c1, c2, c3, c4⟩ := hB2.cells
    refine bodyPost_ret (by simp [results, Try.results34, go_sem, c0, c1, c2, c3, c4]; try rfl) rfl ?_
    refine ⟨_, rfl, ?_, Below.grown hbw hg2 hbw.size (fun j hj => by cases hj; omega)⟩
    rw [HE.out]
    exact HRep.out.kept (fun b hb => hb.1) (fun b hb hlt => hg2.block b hlt (by intro e; cases e; exact hb.2 rfl))
  | true =>
    obtain ⟨rfl, hi0, hil⟩ := opens_yes hk
    obtain ⟨X, hX⟩ : ∃ x, gs[i.toNat]? = some x := ⟨_, List.getElem?_eq_getElem (by omega)⟩
    have HE : Hid (opn gs T = X) := by
      show _ = _
      conv => lhs; rw [eT]
      unfold opn
      rw [if_pos hk, hX]
      rfl
    obtain ⟨ad, x, rfl, hS, h5, hx⟩ := hj _ X hX
    obtain ⟨m, hmm⟩ : ∃ m, m = gs.length := ⟨_, rfl⟩
    rw [← hmm] at hc1 hil ⊢
    have HB2 := Lib.hid (hb3 #[.int .i64 2, .string n, .int .i64 i, .int .i64 hm, .slice sa T.ts.length sc] #[.slice (some ad) m cap] #[.int .i64 0, .string ⟨#[]⟩, .int .i64 0, .int .i64 0, .slice none 0 0])
    have HBT : Hid (Box (((w.alloc (.cells #[.int .i64 2, .string n, .int .i64 i, .int .i64 hm, .slice sa T.ts.length sc] 24)).alloc (.cells #[.slice (some ad) m cap] 22)).alloc (.cells #[.int .i64 0, .string ⟨#[]⟩, .int .i64 0, .int .i64 0, .slice none 0 0] 24)) w.heap.size (.int .i64 2) (.string n) (.int .i64 i) (.int .i64 hm) (.slice sa T.ts.length sc)) := by
      show Box _ _ _ _ _ _ _
      unfold Box
      rw [heap_at, if_neg (by simp; omega), heap_at, if_neg (by simp), heap_at, if_pos rfl]
    have HBZ : Hid (Zero (((w.alloc (.cells #[.int .i64 2, .string n, .int .i64 i, .int .i64 hm, .slice sa T.ts.length sc] 24)).alloc (.cells #[.slice (some ad) m cap] 22)).alloc (.cells #[.int .i64 0, .string ⟨#[]⟩, .int .i64 0, .int .i64 0, .slice none 0 0] 24)) (w.heap.size + 1 + 1)) := by
      show Box _ _ _ _ _ _ _
      unfold Box
      rw [heap_at, if_pos (by simp)]
    have hz3 : (((w.alloc (.cells #[.int .i64 2, .string n, .int .i64 i, .int .i64 hm, .slice sa T.ts.length sc] 24)).alloc (.cells #[.slice (some ad) m cap] 22)).alloc (.cells #[.int .i64 0, .string ⟨#[]⟩, .int .i64 0, .int .i64 0, .slice none 0 0] 24)).cell? ⟨w.heap.size + 1, 0, none⟩ = some (.slice (some ad) m cap) := keep_alloc _ (by simp)
    have g5 := h5.kept (HB2.out.block _ h5.lt)
    have HX := Lib.hid hx.bound
    obtain ⟨k', n', i', h', s', -, rfl, hn2, hs2⟩ := hx.open
    obtain ⟨q0, q1, q2, q3, q4⟩ := five_at g5
    obtain ⟨sa', sc', rfl, -⟩ := hs2
    obtain ⟨q, rfl⟩ : ∃ q : Nat, i = q := ⟨i.toNat, by omega⟩
    simp only [Int.toNat_natCast] at q0 q1 q2 q3 q4
    clear HA H hj h eT hn hk hmm hX h5 g5 hx hn2 hS hb3
    generalize X.ts.length = sn' at *
    generalize T.ts.length = sn at *
    have hqi : (q : Int) < (m : Int) := hil
    go_enter Try.func34, Try.ntmps34
    go_upto_region 1 with fail
    generalize (((w.alloc (.cells #[.int .i64 2, .string n, .int .i64 q, .int .i64 hm, .slice sa sn sc] 24)).alloc (.cells #[.slice (some ad) m cap] 22)).alloc (.cells #[.int .i64 0, .string ⟨#[]⟩, .int .i64 0, .int .i64 0, .slice none 0 0] 24)) = W at *
    obtain ⟨b0, b1, b2, b3, b4⟩ := HBT.out.cells
    go_wp2_with (refine wpList_store5 rfl _ _ rfl _ _ _ _ _ _ HBZ.out rfl _ _ _ _ _ _ _ rfl ?_; intro w2 hB2 hg2 hs2)
    obtain ⟨c0, c1, c2, c3, c4⟩ := hB2.cells
    refine bodyPost_ret (by simp [results, Try.results34, go_sem, c0, c1, c2, c3, c4]; try rfl) rfl ?_
    refine ⟨_, rfl, ?_, Below.grown HB2.out hg2 HB2.out.size (fun j hj => by cases hj; omega)⟩
    rw [HE.out]
    exact (HX.out.lift HB2.out).kept (fun b hb => (h0 b hb.1).1) (fun b hb hlt => hg2.block b hlt (by intro e; have := Option.some.inj e; have := hb.2; omega))
theorem open_any (gs : List Ty) (T : Ty) : OpenAt Try.prog 34 gs T := Ty.induct (open_of gs) T
end Go.Proofs.Ytodbmgmjnenlpaa
