/- Rows that are written in place. -/
import Derived.Test.YtejlhfjhpminjaaDcBox
import Derived.Test.YtejlhfjhpminjaaDcPsh
import Derived.OwnWalk
import Derived.Test.YtejlhfjhpminjaaTyVal2
import Derived.Deep.MidRow
import Derived.Deep.CutBlock
import Derived.Deep.LoopGhost
import Derived.Deep.RegionHeld3
namespace Go.Proofs.Ytejlhfjhpminjaa
open Go.RowKit Go.Sort Go.Shelf Go.Maps Mth

theorem RowG.weaken {α : Type} {E : El α} {w : World} {base : Nat} {S S' : Nat → Prop} {v : Value} {xs : List α} (h : RowG E w base S v xs) (hS : ∀ b, S b → b < w.heap.size → some b ≠ v.ownBlock → S' b) : RowG E w base S' v xs := by
  obtain ⟨L, hown, hl, hr⟩ := h
  refine ⟨L, hown, hl, fun j x hj => ?_⟩
  obtain ⟨c, hc, hrep⟩ := hr j x hj
  exact ⟨c, hc, E.kept (fun b hb => ⟨hS b hb.1.1 hb.2 hb.1.2, hb.1.2⟩) (fun _ _ _ => rfl) (E.bound hrep)⟩
theorem own_setCells {base : Nat} {e : TypeId} {size g n cap : Nat} : ∀ (c A o s : List Value) (w : World), c.length = o.length → w.ownsRow base e size (.slice (some ⟨g, 0, none⟩) n cap) n (A ++ o ++ s) →
    (w.setCells g A.length c).ownsRow base e size (.slice (some ⟨g, 0, none⟩) n cap) n (A ++ c ++ s) ∧ w.grownBy (w.setCells g A.length c) (some g) := by
  intro c
  induction c with
  | nil =>
    intro A o s w hl h
    have : o = [] := List.eq_nil_of_length_eq_zero hl.symm
    subst this
    exact ⟨h, rfl, rfl, rfl, Nat.le_refl _, fun _ _ _ => rfl⟩
  | cons v r ih =>
    intro A o s w hl h
    cases o with
    | nil => simp at hl
    | cons u o =>
      obtain ⟨h1, h2⟩ := h.stored A.length v
      have e : (A ++ u :: o ++ s).set A.length v = (A ++ [v]) ++ o ++ s := by simp
      rw [e] at h1
      obtain ⟨h3, h4⟩ := ih (A ++ [v]) o s _ (by simpa using hl) h1
      have e2 : (A ++ [v]).length = A.length + 1 := by simp
      rw [e2] at h3 h4
      refine ⟨by rw [World.setCells]; simpa using h3, ?_⟩
      rw [World.setCells]
      exact grown_trans h2 h4
/-- Some cells of an element of an owned row are written over. -/
theorem RowG.put {α : Type} {E : El α} {w : World} {base : Nat} {S : Nat → Prop} {xs : List α} {g n cap : Nat} (h : RowG E w base S (.slice (some ⟨g, 0, none⟩) n cap) xs) {j : Nat} {x : α} (hx : xs[j]? = some x) (y : α) (m : Nat) (vs : List Value)
    (hy : ∀ c, E.rep w (fun b => S b ∧ b ≠ g) x c → ∃ p o s, c = p ++ o ++ s ∧ p.length = m ∧ vs.length = o.length ∧ E.rep w (fun b => S b ∧ b ≠ g) y (p ++ vs ++ s)) :
    RowG E (w.setCells g (j * E.k + m) vs) base S (.slice (some ⟨g, 0, none⟩) n cap) (xs.set j y) ∧ w.grownBy (w.setCells g (j * E.k + m) vs) (some g) := by
  obtain ⟨a', c', e', -⟩ := h.slice
  cases e'
  obtain ⟨L, hown, hl, hr⟩ := h
  have h5 := rowG_len hl hr
  have hS : ∀ z c, E.rep w (fun b => S b ∧ some b ≠ Value.ownBlock (.slice (some ⟨g, 0, none⟩) xs.length cap)) z c → E.rep w (fun b => S b ∧ b ≠ g) z c := fun z c hc => E.kept (fun b hb => ⟨hb.1, fun e => hb.2 (by rw [e]; rfl)⟩) (fun _ _ _ => rfl) hc
  obtain ⟨c, hc, hrep⟩ := hr j x hx
  obtain ⟨p, o, s, rfl, hp, hvs, hnew⟩ := hy c (hS _ _ hrep)
  have hj : j < L.length := (List.getElem?_eq_some_iff.1 hc).1
  have hLj : L[j] = p ++ o ++ s := (List.getElem?_eq_some_iff.1 hc).2
  have hk : (p ++ o ++ s).length = E.k := (h5 _ (hLj ▸ List.getElem_mem hj)).1
  have htl : (L.take j).flatten.length = j * E.k := by
    rw [List.length_flatten, List.map_congr_left (g := fun _ => E.k) (fun c hc => (h5 c (List.mem_of_mem_take hc)).1), List.map_const', List.sum_replicate_nat, List.length_take, Nat.min_eq_left (Nat.le_of_lt hj)]
  have hsplit : L.flatten = ((L.take j).flatten ++ p) ++ o ++ (s ++ (L.drop (j + 1)).flatten) := by
    conv => lhs; rw [← List.take_append_drop j L, List.drop_eq_getElem_cons hj, hLj]
    simp
  have hset : (L.set j (p ++ vs ++ s)).flatten = ((L.take j).flatten ++ p) ++ vs ++ (s ++ (L.drop (j + 1)).flatten) := by
    rw [List.set_eq_take_append_cons_drop, if_pos hj]
    simp
  have hal : ((L.take j).flatten ++ p).length = j * E.k + m := by rw [List.length_append, htl, hp]
  rw [hsplit] at hown
  obtain ⟨h6, h7⟩ := own_setCells vs _ o _ w hvs hown
  rw [hal, ← hset] at h6
  rw [hal] at h7
  refine ⟨⟨L.set j (p ++ vs ++ s), by rw [List.length_set]; exact h6, by simp [hl], fun i z hz => ?_⟩, h7⟩
  have hkeep : ∀ z c, E.rep w (fun b => S b ∧ b ≠ g) z c → E.rep (w.setCells g (j * E.k + m) vs) (fun b => S b ∧ some b ≠ Value.ownBlock (.slice (some ⟨g, 0, none⟩) xs.length cap)) z c := fun z c hc => E.kept (fun b hb => ⟨hb.1, fun e => hb.2 (by cases e; rfl)⟩) (fun b hb hlt => h7.block b hlt (fun e => hb.2 (by cases e; rfl))) hc
  by_cases e : j = i
  · subst e
    rw [List.getElem?_set_self (by rw [← hl]; exact hj)] at hz
    cases hz
    exact ⟨_, List.getElem?_set_self hj, hkeep _ _ hnew⟩
  · rw [List.getElem?_set_ne e] at hz
    obtain ⟨c, hc, hrep⟩ := hr i z hz
    exact ⟨c, by rw [List.getElem?_set_ne e]; exact hc, hkeep _ _ (hS _ _ hrep)⟩
/-- Cells of an owned row are there and may be written. -/
theorem RowG.free {α : Type} {E : El α} {w : World} {base : Nat} {S : Nat → Prop} {xs : List α} {g n cap : Nat} (h : RowG E w base S (.slice (some ⟨g, 0, none⟩) n cap) xs) (j : Nat) : w.frozen? ⟨g, j, none⟩ = false := by
  obtain ⟨L, hown, hl, hr⟩ := h
  obtain ⟨a', c', e', -⟩ := RowG.slice ⟨L, hown, hl, hr⟩
  cases e'
  exact hown.frozenAt j
theorem rowG_getT {α : Type} {E : El α} {w : World} {base : Nat} {S : Nat → Prop} {xs : List α} {g n cap : Nat} (h : RowG E w base S (.slice (some ⟨g, 0, none⟩) n cap) xs) {j : Nat} {x : α} (hx : xs[j]? = some x) : ∃ c, E.rep w (fun b => S b ∧ b ≠ g) x c ∧ ∀ (m : Nat) (u : Value), c[m]? = some u → w.cell? ⟨g, j * E.k + m, none⟩ = some u := by
  obtain ⟨L, hown, hl, hr⟩ := h
  have h5 := rowG_len hl hr
  obtain ⟨c, hc', hrep⟩ := hr j x hx
  refine ⟨c, E.kept (fun b hb => ⟨hb.1, fun e => hb.2 (by rw [e]; rfl)⟩) (fun _ _ _ => rfl) hrep, fun m u hu => ?_⟩
  have := hown.cells (g := g) rfl _ _ (flat_get E.k L (fun c h => (h5 c h).1) j m c u hc' hu)
  rwa [Addr.add_mid, Nat.zero_add] at this
theorem RowG.there {α : Type} {E : El α} {w : World} {base : Nat} {S : Nat → Prop} {xs : List α} {g n cap : Nat} (h : RowG E w base S (.slice (some ⟨g, 0, none⟩) n cap) xs) {j : Nat} (hj : j < xs.length) (m k : Nat) (hm : m + k ≤ E.k) : w.there g (j * E.k + m) k := by
  intro i hi
  obtain ⟨c, hr, h0⟩ := rowG_getT h (List.getElem?_eq_getElem hj)
  refine ⟨?_, h.free _⟩
  have hl := (E.len hr).1
  have := h0 (m + i) _ (List.getElem?_eq_getElem (by omega))
  rw [← Nat.add_assoc] at this
  rw [this]; rfl
/-- A store of a whole struct, or of one cell's worth, into an element of an owned row. -/
theorem wpList_putG {w : World} {ops : Array Oper} {rest : List Oper} {o : Oper} {a : Act} {Q : Exit → Act → World → Prop} {α : Type} (E : El α) (hgd : o.guard = none) (t : TypeId) (x y : Operand) (ho : o.op = Op.store t x y)
    (base : Nat) (S : Nat → Prop) (g n cap : Nat) (xs : List α) (hrow : RowG E w base S (.slice (some ⟨g, 0, none⟩) n cap) xs) (j m : Nat) (z z' : α) (hz : xs[j]? = some z) (vs : List Value) (O : Nat) (hO : O = j * E.k + m)
    (hx : a.eval x = .pointer (some ⟨g, O, none⟩)) (hy : a.eval y = .agg vs.toArray) (hi : (Try.prog.info? t).map (·.size) = some vs.length) (h1 : ∀ v ∈ vs, v.oneCell' = true) (hm : m + vs.length ≤ E.k)
    (hr : ∀ c, E.rep w (fun b => S b ∧ b ≠ g) z c → ∃ p o s, c = p ++ o ++ s ∧ p.length = m ∧ vs.length = o.length ∧ E.rep w (fun b => S b ∧ b ≠ g) z' (p ++ vs ++ s))
    (hK : ∀ w', RowG E w' base S (.slice (some ⟨g, 0, none⟩) n cap) (xs.set j z') → w.grownBy w' (some g) → wpList Try.prog ops Q rest (a.put o.dst undef) w') :
    wpList Try.prog ops Q (o :: rest) a w := by
  subst hO
  obtain ⟨h2, h3⟩ := hrow.put hz z' m vs hr
  refine wpList_store_mid hgd t x y ho g _ vs.toArray hx hy (by simpa using hrow.there (List.getElem?_eq_some_iff.1 hz).1 m vs.length hm) (by simpa using hi) (all_oneCell_toArray h1) ?_
  simpa using hK _ h2 h3
end Go.Proofs.Ytejlhfjhpminjaa
