/- The contract of withArgs. -/
import Derived.Test.YtahiefgfhpkoeaaTyFill
import Derived.Test.YtahiefgfhpkoeaaTyVal2
namespace Go.Proofs.Ytahiefgfhpkoeaa
open Go.RowKit Go.Sort Go.Shelf Mth

/-- What is asked of a change that is handed over; the blocks of S0 are those that it may put in. -/
def MapOf (P : Program) (g : Nat) (lb : Array Value) (f : Ty → Ty) (w : World) (S0 : Nat → Prop) (T : Ty) : Prop :=
  ∀ (v : Value) (S : Nat → Prop) (w' : World), (∀ b, S0 b → S b) → (∀ b, w'.heap.size ≤ b → S b) → Below w.heap.size w w' → Rep w' S T v →
    Calls P g (#[v] ++ lb) w' fun e w'' => ∃ u, e = .returned u ∧ Rep w'' S (f T) u ∧ Below w'.heap.size w' w''

theorem setCell_grown (w : World) (a : Addr) (v : Value) : w.grownBy (w.setCell a v) (some a.block) :=
  ⟨rfl, rfl, rfl, by simp [World.setCell], fun k _ hk => Below.heap_setCell _ _ _ _ (fun e => hk (by rw [e]))⟩
theorem with_start {w w1 : World} {c0 c1 c2 c3 c4 : Value} {m : Nat} {xs : List Value} (S : Nat → Prop)
    (hown : w1.ownsRow (w.heap.size + 1 + 1) 25 5 (.slice (some ⟨((w.alloc (.cells #[c0, c1, c2, c3, c4] 25)).alloc (.cells #[.int .i64 0, .string ⟨#[]⟩, .int .i64 0, .int .i64 0, .slice none 0 0] 25)).heap.size, 0, none⟩) m m) m xs)
    (hg : ((w.alloc (.cells #[c0, c1, c2, c3, c4] 25)).alloc (.cells #[.int .i64 0, .string ⟨#[]⟩, .int .i64 0, .int .i64 0, .slice none 0 0] 25)).grownBy w1 none) :
    Hid (RowT w1 (w.heap.size + 1 + 1) (fun b => S b ∧ b ≠ w.heap.size ∧ b ≠ w.heap.size + 1) (.slice (some ⟨w.heap.size + 1 + 1, 0, none⟩) 0 m) []) ∧ Below w.heap.size w w1 ∧ Hid (Box w1 w.heap.size c0 c1 c2 c3 c4) ∧ Hid (Zero w1 (w.heap.size + 1)) ∧ w.heap.size + 1 + 1 < w1.heap.size := by
  simp only [World.size_alloc] at hown
  have hrow : RowT w1 (w.heap.size + 1 + 1) (fun b => S b ∧ b ≠ w.heap.size ∧ b ≠ w.heap.size + 1) (.slice (some ⟨w.heap.size + 1 + 1, 0, none⟩) 0 m) [] := rowT_start hown
  refine ⟨hrow, Below.grown (((Below.refl _ w).alloc (Nat.le_refl _) _).alloc (by simp) _) hg (by simp; omega) (fun j hj => by cases hj), ?_, ?_, (hrow.lt (w.heap.size + 1 + 1) rfl).2⟩
  · exact Box.kept (by unfold Box; rw [heap_at, if_neg (by simp), heap_at, if_pos rfl]) (hg.block _ (by simp; omega) (by simp))
  · exact Box.kept (by unfold Box; rw [heap_at, if_pos (by simp)]) (hg.block _ (by simp) (by simp))
set_option maxHeartbeats 3200000 in
theorem withArgs_of (g : Nat) (lb : Array Value) (eg : ∀ args w, (callFunc g args).run Try.prog w = .ok (.enter g args) w) (f : Ty → Ty) (S0 : Nat → Prop) (T : Ty) (v : Value) (S : Nat → Prop) (w : World)
    (h0 : ∀ b, S0 b → S b ∧ b < w.heap.size) (hf : ∀ b, w.heap.size ≤ b → S b) (hl : T.ts.length ≤ 1000000) (H : ∀ U ∈ T.ts, MapOf Try.prog g lb f w S0 U) (h : Rep w S T v) :
    Calls Try.prog 89 #[v, .func (.func g) #[] lb] w fun e w' => ∃ u, e = .returned u ∧ Rep w' S (.mk T.k T.n T.i T.h (T.ts.map f)) u ∧ Below w.heap.size w w' := by
  obtain ⟨k, n, i, hm, s, eT, rfl, hn, hs⟩ := h.open
  have HR := Lib.hid h
  have HH := Lib.hid H
  have HS := Lib.hid hs
  obtain ⟨sa, sc, rfl, ⟨hc1, hc2⟩, hj⟩ := hs
  have HJ := Lib.hid hj
  have HT : Hid (Ty.mk T.k T.n T.i T.h (T.ts.map f) = .mk k n i hm (T.ts.map f)) := by
    show _ = _
    conv => lhs; rw [eT]
    rfl
  have hn' := hn
  clear h H hj eT hn
  obtain ⟨l, hl'⟩ : ∃ l, l = T.ts := ⟨_, rfl⟩
  rw [← hl'] at HJ HH HS hc1 hl HT ⊢
  clear hl'
  cases hz : ((l.length : Int) == 0) with
  | true =>
    have hl0 : l = [] := by simp at hz; exact hz
    subst hl0
    clear hz
    go_enter Try.func89, Try.ntmps89
    go_wp2
    go_returns
    refine ⟨_, rfl, ?_, ?_⟩
    · rw [HT.out]; exact Rep.close hn' (HS.out.lift (((Below.refl _ w).alloc (Nat.le_refl _) _).alloc (by simp) _))
    · exact ((Below.refl _ w).alloc (Nat.le_refl _) _).alloc (by simp) _
  | false =>
    obtain ⟨m, hmm⟩ : ∃ m, m = l.length := ⟨_, rfl⟩
    rw [← hmm] at hc1 hl hz HS ⊢
    have HM := Lib.hid hmm
    clear hmm
    obtain ⟨i0, hi, hz0, hz1, hz2⟩ := info_parts Try.info25
    go_enter Try.func89, Try.ntmps89
    go_wp2_with (at_make; go_loud (refine wpList_make_full _ rfl _ _ 23 rfl (w.heap.size + 1 + 1) 25 i0 _ 5 Try.underlying23 hi hz0 hz1 _ _ _ _ m rfl rfl rfl rfl (by rw [hz2]; omega) (by unfold maxLen; omega) (by simp) ?_; intro w1 hown hg; obtain ⟨hrow, hbx, HA, hB, hw1⟩ := with_start S hown hg; obtain ⟨a0, a1, a2, a3, a4⟩ := HA.out.cells; clear hown hz0 hz1 hz2 hi hg))
    go_loopw [20] (fun x wr => ∃ j : Nat, j ≤ m ∧ x = .int .i64 j ∧ Hid (RowT wr (w.heap.size + 1 + 1) (fun b => S b ∧ b ≠ w.heap.size ∧ b ≠ w.heap.size + 1) (.slice (some ⟨w.heap.size + 1 + 1, 0, none⟩) j m) ((l.take j).map f)) ∧
      Hid (Box wr w.heap.size (.int .i64 k) (.string n) (.int .i64 i) (.int .i64 hm) (.slice sa m sc)) ∧ Hid (Zero wr (w.heap.size + 1)) ∧ Below w.heap.size w wr ∧ w.heap.size + 1 + 1 < wr.heap.size) (fun x _ => m - (intOf x).toNat)
    case atStart => exact ⟨0, Nat.zero_le _, rfl, by simpa using hrow, HA, hB, hbx, hw1⟩
    case round =>
      obtain ⟨j, hj, rfl, HRow, HBA, HBZ, hb, hlw⟩ := hrel
      by_cases hlt : j < m
      · obtain ⟨U, hU⟩ : ∃ x, l[j]? = some x := ⟨_, List.getElem?_eq_getElem (by rw [← HM.out]; exact hlt)⟩
        have HUm : Hid (U ∈ l) := List.mem_of_getElem? hU
        have HTk : Hid ((l.take (j + 1)).map f = (l.take j).map f ++ [f U]) := by show _ = _; rw [List.take_add_one, hU]; simp
        obtain ⟨ad, x, rfl, hS, h5, hx⟩ := HJ.out j U hU
        clear hU
        have hxr := hx.bound
        have g5 := h5.kept (hb.block _ h5.lt)
        obtain ⟨k', n', i', h', s', eU, rfl, hn2, hs2⟩ := hx.open
        obtain ⟨q0, q1, q2, q3, q4⟩ := five_at g5
        obtain ⟨sa', sc', rfl, -⟩ := hs2
        have HX := Lib.hid hxr
        clear h5 hx g5 eU hn2 hS hxr
        have hji : (j : Int) < (m : Int) := by omega
        generalize U.ts.length = sn' at *
        have hbA : ∀ o, Below w.heap.size w (wr.alloc o) := fun o => hb.alloc hb.size o
        have HC := Lib.hid (fun o => HH.out U HUm.out _ (fun b => (S b ∧ b ≠ w.heap.size ∧ b ≠ w.heap.size + 1) ∧ b ≠ w.heap.size + 1 + 1) (wr.alloc o) (fun b hb => ⟨⟨(h0 b hb).1, by have := (h0 b hb).2; omega, by have := (h0 b hb).2; omega⟩, by have := (h0 b hb).2; omega⟩)
          (fun b hb => by simp at hb; exact ⟨⟨hf b (by omega), by omega, by omega⟩, by omega⟩) (hbA o) ((HX.out.lift (hbA o)).imp fun b hb => ⟨⟨hb.1, by omega, by omega⟩, by omega⟩))
        have hbr : ∀ o, Below wr.heap.size wr (wr.alloc o) := fun o => (Below.refl _ wr).alloc (Nat.le_refl _) o
        have hlen : ((l.take j).map f).length = j := by rw [List.length_map, List.length_take, ← HM.out]; omega
        have HLen := Lib.hid hlen
        clear hlen
        go_wp2_with (first
          | (go_at_fn g; refine (HC.out _).mono ?_; rintro e w2 ⟨u, rfl, hrep, hb2⟩; have hbb := (hbr _).trans (hb2.mono (hbr _).size); have HRow2 := Lib.hid (HRow.out.lift hbb); have HBA2 := Lib.hid (HBA.out.lift hbb); have HBZ2 := Lib.hid (Box.lift HBZ.out hbb); have hbw2 := hb.trans (hbb.mono hb.size); have hlw2 := Nat.lt_of_lt_of_le hlw hbb.size; have HRep := Lib.hid hrep; obtain ⟨k2, n2, i2, h2, s2, -, rfl, -, hs3⟩ := hrep.open; obtain ⟨sa2, sc2, rfl, -⟩ := hs3; clear hrep hb2 hbb; generalize (f U).ts.length = sn2 at *)
          | (refine wpList_fillT rfl _ _ rfl (w.heap.size + 1 + 1) (w.heap.size + 1 + 1) j m _ _ HLen.out HRow2.out hlt rfl _ _ _ _ _ _ _ rfl (f U) HRep.out ?_; intro w3 hrow3 hg3 hs3'))
        have hbw3 : Below w.heap.size w w3 := Below.grown hbw2 hg3 hbw2.size (fun j hj => by cases hj; omega)
        have HRow3 : Hid (RowT w3 (w.heap.size + 1 + 1) (fun b => S b ∧ b ≠ w.heap.size ∧ b ≠ w.heap.size + 1) (.slice (some ⟨w.heap.size + 1 + 1, 0, none⟩) (j + 1) m) ((l.take (j + 1)).map f)) := by
          show RowT _ _ _ _ _
          rw [HTk.out]; exact hrow3
        have HBA3 := Lib.hid (HBA2.out.kept (hg3.block _ HBA2.out.lt (by simp; omega)))
        have HBZ3 := Lib.hid (Box.kept HBZ2.out (hg3.block _ (Box.lt HBZ2.out) (by simp)))
        go_roundw
        case rel => exact ⟨j + 1, hlt, by go_num, HRow3, HBA3, HBZ3, hbw3, by omega⟩
        case measure => simp [intOf]; omega
      · obtain rfl : j = m := by omega
        have HRow2 : Hid (RowT wr (w.heap.size + 1 + 1) (fun b => S b ∧ b ≠ w.heap.size ∧ b ≠ w.heap.size + 1) (.slice (some ⟨w.heap.size + 1 + 1, 0, none⟩) j j) (l.map f)) := by
          show RowT _ _ _ _ _
          have := HRow.out
          rwa [List.take_of_length_le (by rw [← HM.out]; exact Nat.le_refl _)] at this
        obtain ⟨b0, b1, b2, b3, b4⟩ := HBA.out.cells
        obtain ⟨f0, f1, f2, f3, f4⟩ := HBA.out.frozen
        have HZ2 : Hid (∀ v, Zero (wr.setCell ⟨w.heap.size, 4, none⟩ v) (w.heap.size + 1)) := fun v => Box.kept HBZ.out (Below.heap_setCell _ _ _ _ (by simp))
        go_wp2_with (refine wpList_store5 rfl _ _ rfl _ _ _ _ _ _ (HZ2.out _) rfl _ _ _ _ _ _ _ rfl ?_; intro w2 hB2 hg2 hs2)
        obtain ⟨c0, c1, c2, c3, c4⟩ := hB2.cells
        have hset := hb.setCell (p := ⟨w.heap.size, 4, none⟩) (Nat.le_refl _) (Value.slice (some ⟨w.heap.size + 1 + 1, 0, none⟩) j j)
        have hrow3 := (HRow2.out.kept (setCell_grown wr ⟨w.heap.size, 4, none⟩ (Value.slice (some ⟨w.heap.size + 1 + 1, 0, none⟩) j j)) (HRow2.out.off (by simp; omega)) (fun b hb => by intro e; cases e; exact hb.2.1 rfl)).kept hg2 (RowT.off (HRow2.out.kept (setCell_grown wr ⟨w.heap.size, 4, none⟩ (Value.slice (some ⟨w.heap.size + 1 + 1, 0, none⟩) j j)) (HRow2.out.off (by simp; omega)) (fun b hb => by intro e; cases e; exact hb.2.1 rfl)) (by omega)) (fun b hb => by intro e; cases e; exact hb.2.2 rfl)
        refine bodyPost_ret (by simp [results, Try.results89, go_sem, c0, c1, c2, c3, c4]; try rfl) rfl ?_
        refine ⟨_, rfl, ?_, Below.grown hset hg2 hset.size (fun j hj => by cases hj; omega)⟩
        rw [HT.out]
        exact Rep.close hn' (hrow3.repL (fun b hb => hb.1) (fun b hb => hf b (by omega)))
end Go.Proofs.Ytahiefgfhpkoeaa
