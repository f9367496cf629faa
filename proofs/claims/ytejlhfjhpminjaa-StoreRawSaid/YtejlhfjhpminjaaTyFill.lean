/- A row of types of known length that is filled one by one. -/
import Derived.Test.YtejlhfjhpminjaaTyBox
namespace Go.Proofs.Ytejlhfjhpminjaa
open Go.RowKit Mth

theorem set_block {w : World} {g : Nat} {cs : Array Value} {t : TypeId} (h : w.heap[g]? = some (.cells cs t (0, 0))) (o : Nat) (v0 v1 v2 v3 v4 : Value) (ho : o + 5 ≤ cs.size) :
    let w' := ((((w.setCell ⟨g, o, none⟩ v0).setCell ⟨g, o + 1, none⟩ v1).setCell ⟨g, o + 2, none⟩ v2).setCell ⟨g, o + 3, none⟩ v3).setCell ⟨g, o + 4, none⟩ v4
    ∃ cs', w'.heap[g]? = some (.cells cs' t (0, 0)) ∧ cs'.size = cs.size ∧ cs'.toList.take (o + 5) = cs.toList.take o ++ [v0, v1, v2, v3, v4] ∧ w.grownBy w' (some g) ∧ w'.heap.size = w.heap.size := by
  intro w'
  obtain ⟨a0, g0, s0⟩ := set1 h o v0
  obtain ⟨a1, g1, s1⟩ := set1 a0 (o + 1) v1
  obtain ⟨a2, g2, s2⟩ := set1 a1 (o + 2) v2
  obtain ⟨a3, g3, s3⟩ := set1 a2 (o + 3) v3
  obtain ⟨a4, g4, s4⟩ := set1 a3 (o + 4) v4
  refine ⟨_, a4, by simp, ?_, grown_trans (grown_trans (grown_trans (grown_trans g0 g1) g2) g3) g4, by rw [s4, s3, s2, s1, s0]⟩
  apply List.ext_getElem?
  intro i
  have hl : (cs.toList.take o).length = o := by rw [List.length_take, Array.length_toList]; omega
  by_cases hi : i < o
  · rw [List.getElem?_take_of_lt (by omega), List.getElem?_append_left (by omega), List.getElem?_take_of_lt hi]
    simp
    rw [List.getElem?_set_ne (by omega), List.getElem?_set_ne (by omega), List.getElem?_set_ne (by omega), List.getElem?_set_ne (by omega), List.getElem?_set_ne (by omega)]
    simp
  · rw [List.getElem?_append_right (by omega), hl]
    by_cases h5 : i < o + 5
    · rw [List.getElem?_take_of_lt h5]
      have hq : i = o ∨ i = o + 1 ∨ i = o + 2 ∨ i = o + 3 ∨ i = o + 4 := by omega
      rcases hq with q | q | q | q | q
      all_goals
        subst q
        simp [List.getElem?_set]
        try omega
    · rw [List.getElem?_eq_none (by rw [List.length_take]; omega), List.getElem?_eq_none (by simp; omega)]

theorem rowT_start {w : World} {base g m cap : Nat} {S : Nat → Prop} {xs : List Value} (h : w.ownsRow base 31 5 (.slice (some ⟨g, 0, none⟩) m cap) m xs) : RowT w base S (.slice (some ⟨g, 0, none⟩) 0 cap) [] := by
  rcases h.2 with ⟨h0, _⟩ | ⟨g', cap', cur, hv, hg, hcur, hn, hm, hsz, _⟩
  · cases h0
  · simp at hv
    obtain ⟨rfl, rfl⟩ := hv
    exact ⟨[], ⟨rfl, .inr ⟨g, cap, cur, rfl, hg, hcur, Nat.zero_le _, hm, hsz, by simp⟩⟩, rfl, fun j T h => by simp at h⟩
/-- The next place of a row that is being filled. -/
theorem wpList_fillT {w : World} {ops : Array Oper} {rest : List Oper} {o : Oper} {a : Act} {Q : Exit → Act → World → Prop} (hgd : o.guard = none) (p x : Operand) (ho : o.op = Op.store 31 p x)
    (base g j cap : Nat) (S : Nat → Prop) (ts : List Ty) (hj : ts.length = j) (hrow : RowT w base S (.slice (some ⟨g, 0, none⟩) j cap) ts) (hlt : j < cap)
    (hp : a.eval p = .pointer (some ⟨g, j * 5, none⟩)) (k : Int) (n : ByteArray) (i h : Int) (sa : Option Addr) (sn sc : Nat)
    (hx : a.eval x = .agg #[.int .i64 k, .string n, .int .i64 i, .int .i64 h, .slice sa sn sc]) (T : Ty) (hT : Rep w (fun b => S b ∧ b ≠ g) T (.agg #[.int .i64 k, .string n, .int .i64 i, .int .i64 h, .slice sa sn sc]))
    (hK : ∀ w', RowT w' base S (.slice (some ⟨g, 0, none⟩) (j + 1) cap) (ts ++ [T]) → w.grownBy w' (some g) → w'.heap.size = w.heap.size → wpList Try.prog ops Q rest (a.put o.dst undef) w') :
    wpList Try.prog ops Q (o :: rest) a w := by
  obtain ⟨L, hown, hl, hr⟩ := hrow
  rcases hown.2 with ⟨h0, _⟩ | ⟨g', cap', cur, hv, hg, hcur, hn, hm, hsz, htake⟩
  · cases h0
  simp at hv
  obtain ⟨rfl, hjl, rfl⟩ := hv
  have hfz : ∀ m, w.frozen? ⟨g, m, none⟩ = false := fun m => by simp [World.frozen?, hcur]
  have hcl : ∀ m, m < cur.size → ∃ v, w.cell? ⟨g, m, none⟩ = some v := fun m hm => by
    rw [cell_of_row w g m cur _ (0, 0) hcur]
    exact ⟨_, Array.getElem?_eq_getElem hm⟩
  have hroom : j * 5 + 5 ≤ cur.size := by
    have := Nat.mul_le_mul_right 5 hlt
    rw [hsz]; omega
  obtain ⟨c0, e0⟩ := hcl (j * 5) (by omega)
  obtain ⟨c1, e1⟩ := hcl (j * 5 + 1) (by omega)
  obtain ⟨c2, e2⟩ := hcl (j * 5 + 2) (by omega)
  obtain ⟨c3, e3⟩ := hcl (j * 5 + 3) (by omega)
  obtain ⟨c4, e4⟩ := hcl (j * 5 + 4) (by omega)
  have f0 := hfz (j * 5)
  have f1 := hfz (j * 5 + 1)
  have f2 := hfz (j * 5 + 2)
  have f3 := hfz (j * 5 + 3)
  have f4 := hfz (j * 5 + 4)
  obtain ⟨cs', b1, b2, b3, b4, b5⟩ := set_block hcur (j * 5) (.int .i64 k) (.string n) (.int .i64 i) (.int .i64 h) (.slice sa sn sc) hroom
  have hlen : (ts ++ [T]).length = j + 1 := by simp [hj]
  have hdone := hK _ ⟨L ++ [[.int .i64 k, .string n, .int .i64 i, .int .i64 h, .slice sa sn sc]], ⟨?_, .inr ⟨g, cap, cs', by rw [hlen], hg, b1, by rw [hlen]; exact hlt, hm, by rw [b2, hsz], ?_⟩⟩, by simp [hl], fun i' U hU => ?_⟩ b4 b5
  · refine wpList_plain hgd fun K hK' => ?_
    unfold Oper.wp
    simp only [execOp, ho, hp, hx]
    simp [go_sem, e0, e1, e2, e3, e4, f0, f1, f2, f3, f4]
    exact hK' _ _ hdone
  · rw [List.flatten_append, List.length_append, hown.1, hj, hlen]
    simp; omega
  · rw [hlen, show (j + 1) * 5 = j * 5 + 5 by omega, b3]
    rw [hj] at htake
    rw [htake, List.flatten_append]; simp
  · have key : ∀ (U : Ty) (c : List Value), Rep w (fun b => S b ∧ b ≠ g) U (.agg c.toArray) → Rep (((((w.setCell ⟨g, j * 5, none⟩ (.int .i64 k)).setCell ⟨g, j * 5 + 1, none⟩ (.string n)).setCell ⟨g, j * 5 + 2, none⟩ (.int .i64 i)).setCell ⟨g, j * 5 + 3, none⟩ (.int .i64 h)).setCell ⟨g, j * 5 + 4, none⟩ (.slice sa sn sc)) (fun b => S b ∧ some b ≠ (Value.slice (some ⟨g, 0, none⟩) (j + 1) cap).ownBlock) U (.agg c.toArray) := fun U c hrep =>
      hrep.kept (fun b hb => ⟨hb.1, by simp [Value.ownBlock]; exact hb.2⟩) fun b hb hlt => b4.block b hlt (by intro e; cases e; exact hb.2 rfl)
    by_cases hi : i' < ts.length
    · rw [List.getElem?_append_left hi] at hU
      obtain ⟨c', hc', hrep⟩ := hr i' U hU
      exact ⟨c', by rw [List.getElem?_append_left (by omega)]; exact hc', key _ _ (hrep.imp fun b hb => ⟨hb.1, by have := hb.2; simp [Value.ownBlock] at this; exact this⟩)⟩
    · rw [List.getElem?_append_right (by omega)] at hU
      obtain ⟨hz, e⟩ := List.getElem?_eq_some_iff.1 hU
      simp at hz
      have hz' : i' - L.length = 0 := by omega
      refine ⟨_, by rw [List.getElem?_append_right (by omega), hz']; rfl, ?_⟩
      have e' : U = T := by simp [hz] at hU; exact hU.symm
      subst e'
      exact key _ [.int .i64 k, .string n, .int .i64 i, .int .i64 h, .slice sa sn sc] hT
end Go.Proofs.Ytejlhfjhpminjaa
