/- The contract of the package's Replace. -/
import Derived.Test.YtahiefgfhpkoeaaTyWith
namespace Go.Proofs.Ytahiefgfhpkoeaa
open Go.RowKit Go.Sort Go.Shelf Mth

def look (σ : List (Int × Ty)) (i : Int) : Option Ty := (σ.find? fun p => p.1 == i).map (·.2)
mutual
def repl (σ : List (Int × Ty)) : Ty → Ty
  | .mk k n i h ts => if k = 1 then (look σ i).getD (.mk k n i h ts) else .mk k n i h (replL σ ts)
def replL (σ : List (Int × Ty)) : List Ty → List Ty
  | [] => []
  | t :: l => repl σ t :: replL σ l
end
theorem replL_map (σ : List (Int × Ty)) : ∀ l : List Ty, replL σ l = l.map (repl σ) := by
  intro l
  induction l with
  | nil => rfl
  | cons t l ih => simp [replL, ih]
theorem len_nodesL : ∀ l : List Ty, l.length ≤ nodesL l := by
  intro l
  induction l with
  | nil => simp
  | cons t l ih => have := nodes_pos t; simp [nodesL]; omega
theorem ts_nodes (T : Ty) : T.ts.length < nodes T := by cases T; have := len_nodesL; simp only [nodes, Ty.ts]; have := this ‹_›; omega
theorem mem_nodes {T U : Ty} (h : U ∈ T.ts) : nodes U < nodes T := by
  have := nodesL_mem h
  cases T
  simp only [nodes, Ty.ts] at *
  omega
theorem look_step {σ : List (Int × Ty)} {j : Nat} {p : Int × Ty} (h : σ[j]? = some p) (i : Int) : look (σ.drop j) i = if p.1 == i then some p.2 else look (σ.drop (j + 1)) i := by
  obtain ⟨hl, e⟩ := List.getElem?_eq_some_iff.1 h
  rw [List.drop_eq_getElem_cons hl, e]
  unfold look
  rw [List.find?_cons]
  split <;> simp_all

/-- Six cells that hold an assignment. -/
def Six (w : World) (a : Addr) (j : Nat) (x : Int) (k : Int) (n : ByteArray) (i h : Int) (s : Value) : Prop :=
  w.cell? (a.add (j * 6)) = some (.int .i64 x) ∧ w.cell? ⟨(a.add (j * 6)).block, (a.add (j * 6)).off + 1, none⟩ = some (.int .i64 k) ∧ w.cell? ⟨(a.add (j * 6)).block, (a.add (j * 6)).off + 2, none⟩ = some (.string n) ∧
    w.cell? ⟨(a.add (j * 6)).block, (a.add (j * 6)).off + 3, none⟩ = some (.int .i64 i) ∧ w.cell? ⟨(a.add (j * 6)).block, (a.add (j * 6)).off + 4, none⟩ = some (.int .i64 h) ∧ w.cell? ⟨(a.add (j * 6)).block, (a.add (j * 6)).off + 5, none⟩ = some s
theorem Six.kept {w w' : World} {a : Addr} {j : Nat} {x k : Int} {n : ByteArray} {i h : Int} {s : Value} (hs : Six w a j x k n i h s) (hb : w'.heap[a.block]? = w.heap[a.block]?) : Six w' a j x k n i h s := by
  obtain ⟨h0, h1, h2, h3, h4, h5⟩ := hs
  have e : w'.cell? (a.add (j * 6)) = w.cell? (a.add (j * 6)) := World.cell?_of_block (by rw [add_block]; exact hb)
  have e' : ∀ n, w'.cell? ⟨(a.add (j * 6)).block, n, none⟩ = w.cell? ⟨(a.add (j * 6)).block, n, none⟩ := fun n => World.cell?_of_block (by show w'.heap[(a.add (j * 6)).block]? = _; rw [add_block]; exact hb)
  exact ⟨by rw [e, h0], by rw [e', h1], by rw [e', h2], by rw [e', h3], by rw [e', h4], by rw [e', h5]⟩
theorem Six.lt {w : World} {a : Addr} {j : Nat} {x k : Int} {n : ByteArray} {i h : Int} {s : Value} (hs : Six w a j x k n i h s) : a.block < w.heap.size := by
  have := World.block_lt_of_cell? _ _ hs.1
  rwa [add_block] at this
/-- The slice stands for the list of assignments. -/
def AsL (w : World) (S : Nat → Prop) (σ : List (Int × Ty)) (v : Value) : Prop :=
  ∃ a cap, v = .slice a σ.length cap ∧ (σ.length ≤ cap ∧ cap ≤ maxLen) ∧ ∀ (j : Nat) (p : Int × Ty), σ[j]? = some p → ∃ ad k n i h s, a = some ad ∧ S ad.block ∧ Six w ad j p.1 k n i h s ∧ Rep w S p.2 (.agg #[.int .i64 k, .string n, .int .i64 i, .int .i64 h, s])
theorem AsL.kept {w w' : World} {S S' : Nat → Prop} (hS : ∀ b, S b → S' b) (hw : ∀ b, S b → b < w.heap.size → w'.heap[b]? = w.heap[b]?) {σ : List (Int × Ty)} {v : Value} (h : AsL w S σ v) : AsL w' S' σ v := by
  obtain ⟨a, cap, hv, hcap, hj⟩ := h
  refine ⟨a, cap, hv, hcap, fun j p hp => ?_⟩
  obtain ⟨ad, k, n, i, h, s, h1, h2, h3, h4⟩ := hj j p hp
  exact ⟨ad, k, n, i, h, s, h1, hS _ h2, h3.kept (hw _ h2 h3.lt), h4.kept hS hw⟩
theorem AsL.lift {w w' : World} {S : Nat → Prop} {σ : List (Int × Ty)} {v : Value} (h : AsL w S σ v) (hb : Below w.heap.size w w') : AsL w' S σ v := h.kept (fun _ h => h) (fun b _ hl => hb.block b hl)
theorem AsL.slice {w : World} {S : Nat → Prop} {σ : List (Int × Ty)} {v : Value} (h : AsL w S σ v) : ∃ a cap, v = .slice a σ.length cap ∧ cap ≤ maxLen := by
  obtain ⟨a, cap, hv, hcap, _⟩ := h
  exact ⟨a, cap, hv, hcap.2⟩
theorem asL_nil (w : World) (S : Nat → Prop) : AsL w S [] (.slice none 0 0) := ⟨none, 0, rfl, ⟨Nat.le_refl _, by simp⟩, fun j T h => by simp at h⟩

/-- What the contract of a replacement says. -/
def ReplAt (P : Program) (f : Nat) (σ : List (Int × Ty)) (T : Ty) : Prop := ∀ (v sv : Value) (S S0 : Nat → Prop) (w : World), nodes T ≤ 1000000 → AsL w S0 σ sv → (∀ b, S0 b → S b ∧ b < w.heap.size) → (∀ b, w.heap.size ≤ b → S b) → Rep w S T v →
  Calls P f #[v, sv] w fun e w' => ∃ u, e = .returned u ∧ Rep w' S (repl σ T) u ∧ Below w.heap.size w w'

set_option maxHeartbeats 1600000 in
theorem replClosure_of (σ : List (Int × Ty)) (U : Ty) (hU : nodes U ≤ 1000000) (H : ReplAt Try.prog 70 σ U) (W : World) (B : Nat) (sv : Value) (S0 : Nat → Prop) (hB : W.cell? ⟨B, 0, none⟩ = some sv) (hA : AsL W S0 σ sv) (h0 : ∀ b, S0 b → b < W.heap.size) :
    MapOf Try.prog 90 #[.pointer (some ⟨B, 0, none⟩)] (repl σ) W S0 U := by
  intro v S w hS hf hb h
  have hcell := (hb.cell (World.block_lt_of_cell? _ _ hB)).trans hB
  have hlt : B < w.heap.size := World.block_lt_of_cell? _ _ hcell
  obtain ⟨a, cap, rfl, -⟩ := AsL.slice hA
  obtain ⟨k, n, i, hm, s, -, rfl, -, hs⟩ := h.open
  obtain ⟨sa, sc, rfl, -⟩ := hs
  have HR := Lib.hid h
  have HA := Lib.hid (hA.lift hb)
  have hb2 : ∀ X Y, Below w.heap.size w ((w.alloc (.cells X 25)).alloc (.cells Y 25)) := fun X Y => ((Below.refl _ w).alloc (Nat.le_refl _) _).alloc (by simp) _
  have HC := Lib.hid (fun X Y => H _ _ (fun b => S b ∧ b ≠ w.heap.size + 1) S0 ((w.alloc (.cells X 25)).alloc (.cells Y 25)) hU (HA.out.lift (hb2 X Y))
    (fun b hb' => by have := h0 b hb'; have := hb.size; simp; exact ⟨⟨hS b hb', by omega⟩, by omega⟩) (fun b hb => by simp at hb; exact ⟨hf b (by omega), by omega⟩) ((HR.out.bound.lift (hb2 X Y)).imp fun b hb => ⟨hb.1, by omega⟩))
  clear h hA H
  generalize U.ts.length = sn at *
  generalize σ.length = sl at *
  show Calls Try.prog 90 #[.agg #[.int .i64 k, .string n, .int .i64 i, .int .i64 hm, .slice sa sn sc], .pointer (some ⟨B, 0, none⟩)] w _
  have hcl2 : ∀ X Y, ((w.alloc (.cells X 25)).alloc (.cells Y 25)).cell? ⟨B, 0, none⟩ = some (.slice a sl cap) := fun X Y => ((hb2 X Y).cell hlt).trans hcell
  go_enter Try.func90, Try.ntmps90
  go_wp2_with fail
  go_at_call 70
  refine (HC.out _ _).mono ?_
  rintro e w1 ⟨u, rfl, hrep, hb1⟩
  have hbw := (hb2 _ _).trans (hb1.mono (hb2 _ _).size)
  have HB : Hid (Zero w1 (w.heap.size + 1)) := Box.lift (by unfold Box; rw [heap_at, if_pos (by simp)]) hb1
  clear hb1
  have HRep := Lib.hid hrep
  obtain ⟨k2, n2, i2, h2, s2, -, rfl, -, hs3⟩ := hrep.open
  obtain ⟨sa2, sc2, rfl, -⟩ := hs3
  clear hrep
  generalize (repl σ U).ts.length = sn2 at *
  go_wp2_with (refine wpList_store5 rfl _ _ rfl _ _ _ _ _ _ HB.out rfl _ _ _ _ _ _ _ rfl ?_; intro w2 hB2 hg2 hs2)
  obtain ⟨c0, c1, c2, c3, c4⟩ := hB2.cells
  refine bodyPost_ret (by simp [results, Try.results90, go_sem, c0, c1, c2, c3, c4]; try rfl) rfl ?_
  exact ⟨_, rfl, HRep.out.kept (fun b hb => hb.1) (fun b hb hlt => hg2.block b hlt (by intro e; cases e; exact hb.2 rfl)), Below.grown hbw hg2 hbw.size (fun j hj => by cases hj; omega)⟩

set_option maxHeartbeats 3200000 in
theorem repl_of (σ : List (Int × Ty)) (T : Ty) (H : ∀ U ∈ T.ts, ReplAt Try.prog 70 σ U) : ReplAt Try.prog 70 σ T := by
  intro v sv S S0 w hN hA h0 hf h
  have eg : ∀ args w, (callFunc 90 args).run Try.prog w = .ok (.enter 90 args) w := enters_of Try.func90 (by kernel_rfl) rfl
  have HA := Lib.hid hA
  obtain ⟨a, cap, rfl, ⟨hc1, hc2⟩, hj⟩ := hA
  have HJ := Lib.hid hj
  obtain ⟨k, n, i, hm, s, eT, rfl, hn, hs⟩ := h.open
  have HR := Lib.hid h
  obtain ⟨sa, sc, rfl, -⟩ := hs
  have hb3 : ∀ X Y Z, Below w.heap.size w (((w.alloc (.cells X 25)).alloc (.cells Y 46)).alloc (.cells Z 25)) := fun X Y Z => (((Below.refl _ w).alloc (Nat.le_refl _) _).alloc (by simp) _).alloc (by simp; omega) _
  cases hk : (k == 1) with
  | false =>
    have HE : Hid (repl σ T = .mk T.k T.n T.i T.h (T.ts.map (repl σ))) := by
      show _ = _
      conv => lhs; rw [eT]
      conv => rhs; rw [eT]
      unfold repl
      rw [if_neg (by simpa using hk), replL_map]
      rfl
    have HC : Hid (∀ X Y Z, Y = #[Value.slice a σ.length cap] → Calls Try.prog 89 #[.agg #[.int .i64 k, .string n, .int .i64 i, .int .i64 hm, .slice sa T.ts.length sc], .func (.func 90) #[] #[.pointer (some ⟨w.heap.size + 1, 0, none⟩)]] (((w.alloc (.cells X 25)).alloc (.cells Y 46)).alloc (.cells Z 25))
        fun e w' => ∃ u, e = .returned u ∧ Rep w' (fun b => S b ∧ b ≠ w.heap.size + 1 + 1) (.mk T.k T.n T.i T.h (T.ts.map (repl σ))) u ∧ Below (((w.alloc (.cells X 25)).alloc (.cells Y 46)).alloc (.cells Z 25)).heap.size (((w.alloc (.cells X 25)).alloc (.cells Y 46)).alloc (.cells Z 25)) w') := by
      rintro X Y Z rfl
      have hsW : (((w.alloc (.cells X 25)).alloc (.cells #[Value.slice a σ.length cap] 46)).alloc (.cells Z 25)).heap.size = w.heap.size + 1 + 1 + 1 := by simp
      have hcell : (((w.alloc (.cells X 25)).alloc (.cells #[Value.slice a σ.length cap] 46)).alloc (.cells Z 25)).cell? ⟨w.heap.size + 1, 0, none⟩ = some (.slice a σ.length cap) := keep_alloc _ (by simp)
      refine withArgs_of _ _ eg (repl σ) S0 T _ (fun b => S b ∧ b ≠ w.heap.size + 1 + 1) _ (fun b hb => ⟨⟨(h0 b hb).1, by have := (h0 b hb).2; omega⟩, Nat.lt_of_lt_of_le (h0 b hb).2 (hb3 X _ Z).size⟩) (fun b hb => ⟨hf b (by rw [hsW] at hb; omega), by rw [hsW] at hb; omega⟩) (by have := ts_nodes T; omega) (fun U hU => ?_) ((HR.out.bound.imp fun b hb => ⟨hb.1, by omega⟩).lift (hb3 X _ Z))
      exact replClosure_of σ U (by have := mem_nodes hU; omega) (H U hU) _ _ (.slice a σ.length cap) S0 hcell (HA.out.lift (hb3 X _ Z)) (fun b hb => Nat.lt_of_lt_of_le (h0 b hb).2 (hb3 X _ Z).size)
    clear HA H hj h eT hn
    generalize T.ts.length = sn at *
    generalize σ.length = sl at *
    go_enter Try.func70, Try.ntmps70
    go_wp2_with fail
    go_at_call 89
    refine (HC.out _ _ _ rfl).mono ?_
    rintro e w1 ⟨u, rfl, hrep, hb1⟩
    have hbw := (hb3 _ _ _).trans (hb1.mono (hb3 _ _ _).size)
    have HB : Hid (Zero w1 (w.heap.size + 1 + 1)) := Box.lift (by unfold Box; rw [heap_at, if_pos (by simp)]) hb1
    clear hb1
    have HRep := Lib.hid hrep
    obtain ⟨k2, n2, i2, h2, s2, -, rfl, -, hs3⟩ := hrep.open
    obtain ⟨sa2, sc2, rfl, -⟩ := hs3
    clear hrep
    generalize (Ty.mk T.k T.n T.i T.h (T.ts.map (repl σ))).ts.length = sn2 at *
    go_wp2_with (refine wpList_store5 rfl _ _ rfl _ _ _ _ _ _ HB.out rfl _ _ _ _ _ _ _ rfl ?_; intro w2 hB2 hg2 hs2)
    obtain ⟨c0, c1, c2, c3, c4⟩ := hB2.cells
    refine bodyPost_ret (by simp [results, Try.results70, go_sem, c0, c1, c2, c3, c4]; try rfl) rfl ?_
    refine ⟨_, rfl, ?_, Below.grown hbw hg2 hbw.size (fun j hj => by cases hj; omega)⟩
    rw [HE.out]
    exact HRep.out.kept (fun b hb => hb.1) (fun b hb hlt => hg2.block b hlt (by intro e; cases e; exact hb.2 rfl))
  | true =>
    obtain rfl : k = 1 := by simpa using hk
    have HE : Hid (repl σ T = (look σ i).getD T) := by
      show _ = _
      conv => lhs; rw [eT]
      conv => rhs; rw [eT]
      unfold repl
      rw [if_pos rfl]
    clear HA H hj h eT hn hk
    generalize T.ts.length = sn at *
    unfold maxLen at hc2
    obtain ⟨m, hmm⟩ : ∃ m, m = σ.length := ⟨_, rfl⟩
    rw [← hmm] at hc1 ⊢
    have HM := Lib.hid hmm
    clear hmm
    have HE0 : Hid (look σ i = look (σ.drop 0) i) := by show _ = _; simp
    have hW : ∃ W, W = (((w.alloc (.cells #[.int .i64 1, .string n, .int .i64 i, .int .i64 hm, .slice sa sn sc] 25)).alloc (.cells #[.slice a m cap] 46)).alloc (.cells #[.int .i64 0, .string ⟨#[]⟩, .int .i64 0, .int .i64 0, .slice none 0 0] 25)) := ⟨_, rfl⟩
    have HBT : Hid (Box (((w.alloc (.cells #[.int .i64 1, .string n, .int .i64 i, .int .i64 hm, .slice sa sn sc] 25)).alloc (.cells #[.slice a m cap] 46)).alloc (.cells #[.int .i64 0, .string ⟨#[]⟩, .int .i64 0, .int .i64 0, .slice none 0 0] 25)) w.heap.size (.int .i64 1) (.string n) (.int .i64 i) (.int .i64 hm) (.slice sa sn sc)) := by
      show Box _ _ _ _ _ _ _
      unfold Box
      rw [heap_at, if_neg (by simp; omega), heap_at, if_neg (by simp), heap_at, if_pos rfl]
    have HBZ : Hid (Zero (((w.alloc (.cells #[.int .i64 1, .string n, .int .i64 i, .int .i64 hm, .slice sa sn sc] 25)).alloc (.cells #[.slice a m cap] 46)).alloc (.cells #[.int .i64 0, .string ⟨#[]⟩, .int .i64 0, .int .i64 0, .slice none 0 0] 25)) (w.heap.size + 1 + 1)) := by
      show Box _ _ _ _ _ _ _
      unfold Box
      rw [heap_at, if_pos (by simp)]
    have HB3 := Lib.hid (hb3 #[.int .i64 1, .string n, .int .i64 i, .int .i64 hm, .slice sa sn sc] #[.slice a m cap] #[.int .i64 0, .string ⟨#[]⟩, .int .i64 0, .int .i64 0, .slice none 0 0])
    have hs3 : (((w.alloc (.cells #[.int .i64 1, .string n, .int .i64 i, .int .i64 hm, .slice sa sn sc] 25)).alloc (.cells #[.slice a m cap] 46)).alloc (.cells #[.int .i64 0, .string ⟨#[]⟩, .int .i64 0, .int .i64 0, .slice none 0 0] 25)).heap.size = w.heap.size + 1 + 1 + 1 := by simp
    have HS3 := Lib.hid hs3
    clear hW hs3 hb3
    go_enter Try.func70, Try.ntmps70
    go_wp2
    generalize (((w.alloc (.cells #[.int .i64 1, .string n, .int .i64 i, .int .i64 hm, .slice sa sn sc] 25)).alloc (.cells #[.slice a m cap] 46)).alloc (.cells #[.int .i64 0, .string ⟨#[]⟩, .int .i64 0, .int .i64 0, .slice none 0 0] 25)) = W at *
    go_loopw [12] (fun x wr => ∃ j : Nat, j ≤ m ∧ x = .int .i64 j ∧ Hid (look σ i = look (σ.drop j) i) ∧ Below W.heap.size W wr) (fun x _ => m - (intOf x).toNat)
    case atStart => exact ⟨0, Nat.zero_le _, rfl, HE0, Below.refl _ _⟩
    case round =>
      obtain ⟨j, hj, rfl, HL, hb⟩ := hrel
      have hbw := HB3.out.trans (hb.mono HB3.out.size)
      have HBT2 := Lib.hid (HBT.out.lift hb)
      have HBZ2 := Lib.hid (Box.lift HBZ.out hb)
      obtain ⟨b0, b1, b2, b3, b4⟩ := HBT2.out.cells
      have hsz : w.heap.size + 1 + 1 + 1 ≤ wr.heap.size := by have := hb.size; rw [HS3.out] at this; exact this
      by_cases hlt : j < m
      · obtain ⟨p, hp⟩ : ∃ x, σ[j]? = some x := ⟨_, List.getElem?_eq_getElem (by rw [← HM.out]; exact hlt)⟩
        obtain ⟨ad, k', n', i', h', s', rfl, hS, h6, hx⟩ := HJ.out j p hp
        have HK := Lib.hid (look_step hp i)
        clear hp
        obtain ⟨q0, q1, q2, q3, q4, q5⟩ := h6.kept (hbw.block _ h6.lt)
        have HX := Lib.hid hx.bound
        obtain ⟨_, _, _, _, _, -, hv, hn2, hs2⟩ := hx.open
        simp at hv
        obtain ⟨rfl, rfl, rfl, rfl, rfl⟩ := hv
        obtain ⟨sa', sc', rfl, -⟩ := hs2
        clear h6 hx hS hn2
        have hji : (j : Int) < (m : Int) := by omega
        generalize p.2.ts.length = sn' at *
        have hbr : ∀ o, Below wr.heap.size wr (wr.alloc o) := fun o => (Below.refl _ wr).alloc (Nat.le_refl _) o
        have A2 : ∀ o, (wr.alloc o).cell? _ = _ := fun o => keep_alloc o b2
        cases hq : (p.1 == i) with
        | true =>
          have HF : Hid (repl σ T = p.2) := by
            show _ = _
            rw [HE.out, HL.out, HK.out, hq]; rfl
          have HBZ3 := Lib.hid (fun o => Box.lift HBZ2.out (hbr o))
          go_wp2_with (refine wpList_store5 rfl _ _ rfl _ _ _ _ _ _ (HBZ3.out _) rfl _ _ _ _ _ _ _ rfl ?_; intro w2 hB2 hg2 hs2)
          obtain ⟨c0, c1, c2, c3, c4⟩ := hB2.cells
          refine bodyPost_ret (by simp [results, Try.results70, go_sem, c0, c1, c2, c3, c4]; try rfl) rfl ?_
          have hbw2 := hbw.alloc hbw.size (.cells #[.int .i64 p.1, .int .i64 k', .string n', .int .i64 i', .int .i64 h', .slice sa' sn' sc'] 48)
          refine ⟨_, rfl, ?_, Below.grown hbw2 hg2 hbw2.size (fun j hj => by cases hj; omega)⟩
          rw [HF.out]
          exact (HX.out.lift hbw2).kept (fun b hb => (h0 b hb.1).1) (fun b hb hlt => hg2.block b hlt (by intro e; cases e; have := hb.2; omega))
        | false =>
          have HL2 : Hid (look σ i = look (σ.drop (j + 1)) i) := by
            show _ = _
            rw [HL.out, HK.out, hq]; rfl
          go_wp2
          go_roundw
          case rel => exact ⟨j + 1, hlt, by go_num, HL2, hb.alloc hb.size _⟩
          case measure => simp [intOf]; omega
      · have HF : Hid (repl σ T = T) := by
          show _ = _
          rw [HE.out, HL.out, List.drop_eq_nil_of_le (by rw [← HM.out]; omega)]; rfl
        go_wp2_with (refine wpList_store5 rfl _ _ rfl _ _ _ _ _ _ HBZ2.out rfl _ _ _ _ _ _ _ rfl ?_; intro w2 hB2 hg2 hs2)
        obtain ⟨c0, c1, c2, c3, c4⟩ := hB2.cells
        refine bodyPost_ret (by simp [results, Try.results70, go_sem, c0, c1, c2, c3, c4]; try rfl) rfl ?_
        refine ⟨_, rfl, ?_, Below.grown hbw hg2 hbw.size (fun j hj => by cases hj; omega)⟩
        rw [HF.out]
        exact (HR.out.bound.lift hbw).kept (fun b hb => hb.1) (fun b hb hlt => hg2.block b hlt (by intro e; cases e; have := hb.2; omega))
theorem repl_any (σ : List (Int × Ty)) (T : Ty) : ReplAt Try.prog 70 σ T := Ty.induct (repl_of σ) T
end Go.Proofs.Ytahiefgfhpkoeaa
