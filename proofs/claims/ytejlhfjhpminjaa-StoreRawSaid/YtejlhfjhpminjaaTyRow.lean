/- Rows of types that a call owns. -/
import Derived.Test.YtejlhfjhpminjaaTyRep
import Derived.Maps.AppendAt
import Derived.OwnWalk
namespace Go.Proofs.Ytejlhfjhpminjaa
open Go.RowKit Mth

theorem Try.info31 : (Try.prog.info? 31).map (fun i => (i.zero, i.size, i.bytes)) = some (some (.agg #[.int .i64 0, .string ByteArray.empty, .int .i64 0, .int .i64 0, .slice none 0 0]), 5, 64) := by kernel_rfl

theorem Rep.bound {w : World} {S : Nat → Prop} {T : Ty} {v : Value} (h : Rep w S T v) : Rep w (fun b => S b ∧ b < w.heap.size) T v := by
  induction h with
  | mk k n i h ts a cap f hn hcap hc _ ih =>
    refine .mk k n i h ts a cap f hn hcap (fun j T hj => ?_) ih
    obtain ⟨ad, ha, hs, h5⟩ := hc j T hj
    exact ⟨ad, ha, ⟨hs, h5.lt⟩, h5⟩
/-- The five cells of a value that stands for a type. -/
theorem Rep.cells {w : World} {S : Nat → Prop} {T : Ty} {c : List Value} (h : Rep w S T (.agg c.toArray)) : c.length = 5 ∧ ∀ u ∈ c, u.oneCell' = true := by
  obtain ⟨k, n, i, hm, s, _, hv, _, a, cap, hs, _⟩ := h.open
  subst hs
  have : c = [.int .i64 k, .string n, .int .i64 i, .int .i64 hm, .slice a T.ts.length cap] := by simpa using hv
  subst this
  refine ⟨rfl, fun u hu => ?_⟩
  simp at hu
  rcases hu with h | h | h | h | h <;> subst h <;> rfl
theorem flatten_get : ∀ (L : List (List Value)), (∀ c ∈ L, c.length = 5) → ∀ (j m : Nat) (c : List Value) (u : Value), L[j]? = some c → c[m]? = some u → L.flatten[j * 5 + m]? = some u := by
  intro L
  induction L with
  | nil => intro _ j m c u h; simp at h
  | cons x L ih =>
    intro hL j m c u hc hu
    have hx : x.length = 5 := hL x (by simp)
    rw [List.flatten_cons]
    cases j with
    | zero =>
      simp at hc; subst hc
      have hm := (List.getElem?_eq_some_iff.1 hu).1
      rw [List.getElem?_append_left (by omega)]
      simpa using hu
    | succ j =>
      rw [List.getElem?_append_right (by omega), hx, show (j + 1) * 5 + m - 5 = j * 5 + m by omega]
      exact ih (fun c h => hL c (by simp [h])) j m c u (by simpa using hc) hu
theorem add_zero (b o n : Nat) : (⟨b, o, none⟩ : Addr).add n = ⟨b, o + n, none⟩ := by unfold Addr.add; split <;> simp_all
theorem add_add' (a : Addr) (i j : Nat) (hj : j ≠ 0) : (⟨(a.add i).block, (a.add i).off + j, none⟩ : Addr) = a.add (i + j) := by
  unfold Addr.add
  by_cases h : i = 0
  · subst h; simp [hj]
  · simp [h]; omega

/-- The call owns the row, and it holds these types. -/
def RowT (w : World) (base : Nat) (S : Nat → Prop) (v : Value) (ts : List Ty) : Prop :=
  ∃ L : List (List Value), w.ownsRow base 31 5 v ts.length L.flatten ∧ L.length = ts.length ∧ ∀ (j : Nat) (T : Ty), ts[j]? = some T → ∃ c : List Value, L[j]? = some c ∧ Rep w (fun b => S b ∧ some b ≠ v.ownBlock) T (.agg c.toArray)
theorem rowT_nil (w : World) (base : Nat) (S : Nat → Prop) : RowT w base S (.slice none 0 0) [] := ⟨[], World.ownsRow_nil _ _ _ _, rfl, fun j T h => by simp at h⟩
theorem rowT_five {w : World} {L : List (List Value)} {ts : List Ty} {S : Nat → Prop} (hl : L.length = ts.length) (h : ∀ (j : Nat) (T : Ty), ts[j]? = some T → ∃ c : List Value, L[j]? = some c ∧ Rep w S T (.agg c.toArray)) : ∀ c ∈ L, c.length = 5 ∧ ∀ u ∈ c, u.oneCell' = true := by
  intro c hc
  obtain ⟨j, hj, e⟩ := List.getElem_of_mem hc
  obtain ⟨c', hc', hr⟩ := h j (ts[j]'(by omega)) (List.getElem?_eq_getElem (by omega))
  rw [List.getElem?_eq_getElem hj, e] at hc'
  cases hc'
  exact hr.cells
theorem five_of {w : World} {ad : Addr} {j : Nat} {L : List (List Value)} (h5 : ∀ c ∈ L, c.length = 5) (hc : ∀ i u, L.flatten[i]? = some u → w.cell? (ad.add i) = some u) {c : List Value} (h : L[j]? = some c) : Five w ad j (.agg c.toArray) := by
  have hl := h5 c (List.mem_of_getElem? h)
  match c, hl with
  | [c0, c1, c2, c3, c4], _ =>
    refine ⟨c0, c1, c2, c3, c4, rfl, ?_, ?_, ?_, ?_, ?_⟩
    · exact hc _ _ (flatten_get L h5 j 0 _ _ h rfl)
    · rw [add_add' _ _ _ (by omega)]; exact hc _ _ (flatten_get L h5 j 1 _ _ h rfl)
    · rw [add_add' _ _ _ (by omega)]; exact hc _ _ (flatten_get L h5 j 2 _ _ h rfl)
    · rw [add_add' _ _ _ (by omega)]; exact hc _ _ (flatten_get L h5 j 3 _ _ h rfl)
    · rw [add_add' _ _ _ (by omega)]; exact hc _ _ (flatten_get L h5 j 4 _ _ h rfl)
theorem RowT.repL {w : World} {base : Nat} {S S' : Nat → Prop} {v : Value} {ts : List Ty} (h : RowT w base S v ts) (h1 : ∀ b, S b → S' b) (h2 : ∀ b, base ≤ b → S' b) : RepL w S' ts v := by
  obtain ⟨L, hown, hl, hr⟩ := h
  have h5 := rowT_five hl hr
  rcases hown.2 with ⟨rfl, h0⟩ | ⟨g, cap, cur, rfl, hg, hc, hn, hm, _⟩
  · have : ts = [] := List.eq_nil_of_length_eq_zero h0
    subst this
    exact repL_nil _ _
  · refine ⟨some ⟨g, 0, none⟩, cap, rfl, ⟨hn, hm⟩, fun j T hj => ?_⟩
    obtain ⟨c, hc', hrep⟩ := hr j T hj
    exact ⟨⟨g, 0, none⟩, _, rfl, h2 _ hg, five_of (fun c h => (h5 c h).1) (hown.cells (g := g) rfl) hc', hrep.imp fun b hb => h1 b hb.1⟩
theorem RowT.kept {w w' : World} {base : Nat} {S : Nat → Prop} {v : Value} {ts : List Ty} {row : Option Nat} (h : RowT w base S v ts) (hg : w.grownBy w' row) (hv : v.ownBlock = none ∨ v.ownBlock ≠ row) (hS : ∀ b, S b → some b ≠ row) : RowT w' base S v ts := by
  obtain ⟨L, hown, hl, hr⟩ := h
  refine ⟨L, hown.kept hg hv, hl, fun j T hj => ?_⟩
  obtain ⟨c, hc', hrep⟩ := hr j T hj
  exact ⟨c, hc', hrep.kept (fun _ h => h) fun b hb hlt => hg.block b hlt (hS b hb.1)⟩
theorem grown_of_below {w w' : World} (hb : Below w.heap.size w w') (row : Option Nat) : w.grownBy w' row := ⟨hb.os, hb.tape, hb.output, hb.size, fun k hk _ => hb.block k hk⟩
theorem RowT.lift {w w' : World} {base : Nat} {S : Nat → Prop} {v : Value} {ts : List Ty} (h : RowT w base S v ts) (hb : Below w.heap.size w w') : RowT w' base S v ts :=
  h.kept (grown_of_below hb none) (by cases v.ownBlock <;> simp) (fun _ _ => by simp)
theorem RowT.imp {w : World} {base base' : Nat} {S S' : Nat → Prop} {v : Value} {ts : List Ty} (h : RowT w base S v ts) (hS : ∀ b, S b → S' b) (hb : base' ≤ base) : RowT w base' S' v ts := by
  obtain ⟨L, hown, hl, hr⟩ := h
  refine ⟨L, ⟨hown.1, ?_⟩, hl, fun j T hj => ?_⟩
  · rcases hown.2 with h | ⟨g, cap, cur, hv, hg, rest⟩
    · exact .inl h
    · exact .inr ⟨g, cap, cur, hv, Nat.le_trans hb hg, rest⟩
  · obtain ⟨c, hc', hrep⟩ := hr j T hj
    exact ⟨c, hc', hrep.imp fun b hb => ⟨hS b hb.1, hb.2⟩⟩
theorem RowT.lt {w : World} {base : Nat} {S : Nat → Prop} {v : Value} {ts : List Ty} (h : RowT w base S v ts) : ∀ k, v.ownBlock = some k → base ≤ k ∧ k < w.heap.size := by
  obtain ⟨L, hown, _⟩ := h
  exact hown.lt
theorem RowT.off {w : World} {base : Nat} {S : Nat → Prop} {v : Value} {ts : List Ty} (h : RowT w base S v ts) {k : Nat} (hk : k < base) : v.ownBlock = none ∨ v.ownBlock ≠ some k := by
  cases hv : v.ownBlock with
  | none => exact .inl rfl
  | some b => have := (h.lt b hv).1; exact .inr (by intro e; cases e; omega)
theorem RowT.slice {w : World} {base : Nat} {S : Nat → Prop} {v : Value} {ts : List Ty} (h : RowT w base S v ts) : ∃ a cap, v = .slice a ts.length cap ∧ ts.length ≤ cap ∧ cap ≤ maxLen := by
  obtain ⟨L, hown, _⟩ := h
  rcases hown.2 with ⟨rfl, h0⟩ | ⟨g, cap, cur, rfl, _, _, hn, hm, _⟩
  · exact ⟨none, 0, by rw [h0], by omega, by simp⟩
  · exact ⟨_, cap, rfl, hn, hm⟩

/-- The cells of a list of types, one behind the other. -/
theorem cells_of {w : World} {S : Nat → Prop} {ts : List Ty} {ad : Addr} (h : ∀ j T, ts[j]? = some T → ∃ x, Five w ad j x ∧ Rep w S T x) :
    ∃ L : List (List Value), L.length = ts.length ∧ (∀ (j : Nat) (T : Ty), ts[j]? = some T → ∃ c : List Value, L[j]? = some c ∧ Rep w S T (.agg c.toArray)) ∧ ∀ i u, L.flatten[i]? = some u → w.cell? (ad.add i) = some u := by
  have hx : ∀ j, ∃ c : List Value, ∀ T, ts[j]? = some T → Five w ad j (.agg c.toArray) ∧ Rep w S T (.agg c.toArray) := by
    intro j
    cases hT : ts[j]? with
    | none => exact ⟨[], fun T h => by cases h⟩
    | some T0 =>
      obtain ⟨x, ⟨c0, c1, c2, c3, c4, rfl, h5⟩, hr⟩ := h j T0 hT
      exact ⟨[c0, c1, c2, c3, c4], fun T h => by cases h; exact ⟨⟨c0, c1, c2, c3, c4, rfl, h5⟩, hr⟩⟩
  let f : Nat → List Value := fun j => Classical.choose (hx j)
  have hf : ∀ j T, ts[j]? = some T → Five w ad j (.agg (f j).toArray) ∧ Rep w S T (.agg (f j).toArray) := fun j => Classical.choose_spec (hx j)
  have hget : ∀ j T, ts[j]? = some T → ((List.range ts.length).map f)[j]? = some (f j) := fun j T hj => by
    have := (List.getElem?_eq_some_iff.1 hj).1
    rw [List.getElem?_map, List.getElem?_range this]; rfl
  have h5 : ∀ j, j < ts.length → (f j).length = 5 := fun j hj => ((hf j ts[j] (List.getElem?_eq_getElem hj)).2).cells.1
  refine ⟨(List.range ts.length).map f, by simp, fun j T hj => ⟨f j, hget j T hj, (hf j T hj).2⟩, ?_⟩
  have hL5 : ∀ c ∈ (List.range ts.length).map f, c.length = 5 := by
    intro c hc
    simp at hc
    obtain ⟨j, hj, rfl⟩ := hc
    exact h5 j hj
  have hflat : ∀ (n : Nat), n ≤ ts.length → ((List.range n).map f).flatten.length = n * 5 := by
    intro n
    induction n with
    | zero => intro _; simp
    | succ n ih =>
      intro hn
      rw [List.range_succ, List.map_append, List.flatten_append, List.length_append, ih (by omega)]
      simp [h5 n (by omega)]; omega
  intro i u hu
  have hi := (List.getElem?_eq_some_iff.1 hu).1
  rw [hflat _ (Nat.le_refl _)] at hi
  have hj : i / 5 < ts.length := by omega
  have hm : i % 5 < (f (i / 5)).length := by rw [h5 _ hj]; omega
  have h1 := flatten_get _ hL5 (i / 5) (i % 5) _ _ (hget (i / 5) _ (List.getElem?_eq_getElem hj)) (List.getElem?_eq_getElem hm)
  have e : i / 5 * 5 + i % 5 = i := by omega
  rw [e, hu] at h1
  obtain ⟨d0, d1, d2, d3, d4, hv, g0, g1, g2, g3, g4⟩ := (hf (i / 5) _ (List.getElem?_eq_getElem hj)).1
  have hfl : f (i / 5) = [d0, d1, d2, d3, d4] := by simpa using hv
  rw [add_add' _ _ _ (by omega)] at g1 g2 g3 g4
  have h1' := Option.some.inj h1
  have hq : i % 5 = 0 ∨ i % 5 = 1 ∨ i % 5 = 2 ∨ i % 5 = 3 ∨ i % 5 = 4 := by omega
  rcases hq with q | q | q | q | q
  all_goals
    rw [q] at e
    simp only [q, hfl] at h1'
    subst h1'
    rw [← e]
    first | exact g0 | exact g1 | exact g2 | exact g3 | exact g4

/-- One append, or one of several, to a row that the call owns. -/
theorem wpList_pushT {w : World} {ops : Array Oper} {rest : List Oper} {o : Oper} {a : Act} {Q : Exit → Act → World → Prop} (hgd : o.guard = none) (s x : Operand)
    (ho : o.op = .call { callee := .builtin .append, args := #[s, x], argTypes := #[29, 29] })
    (base : Nat) (S : Nat → Prop) (v : Value) (ts : List Ty) (hs : a.eval s = v) (hrow : RowT w base S v ts)
    (ad : Addr) (m c : Nat) (hx : a.eval x = .slice (some ad) m c) (news : List Ty) (hm : news.length = m) (hc : ∀ j T, news[j]? = some T → ∃ y, Five w ad j y ∧ Rep w (fun b => S b ∧ some b ≠ v.ownBlock) T y)
    (N : Nat) (hN : N = ts.length + m) (hb : N ≤ 1000000) (hbase : base ≤ w.heap.size)
    (h : ∀ (a' : Option Addr) (c' : Nat) (w' : World), RowT w' base S (.slice a' N c') (ts ++ news) → w.grownBy w' v.ownBlock → ((Value.slice a' N c').ownBlock = v.ownBlock ∨ (Value.slice a' N c').ownBlock = some w.heap.size) → wpList Try.prog ops Q rest (a.put o.dst (.slice a' N c')) w') :
    wpList Try.prog ops Q (o :: rest) a w := by
  obtain ⟨i, hi, hz0, hz1, hz2⟩ := info_parts Try.info31
  obtain ⟨L, hown, hl, hr⟩ := hrow
  obtain ⟨M, hml, hmr, hmc⟩ := cells_of hc
  have hM5 := rowT_five hml hmr
  have hflat : M.flatten.length = m * 5 := by
    have : ∀ (L : List (List Value)), (∀ c ∈ L, c.length = 5) → L.flatten.length = L.length * 5 := by
      intro L
      induction L with
      | nil => intro _; rfl
      | cons x L ih => intro h; rw [List.flatten_cons, List.length_append, h x (by simp), ih fun c hc => h c (by simp [hc])]; simp; omega
    rw [this M fun c h => (hM5 c h).1, hml, hm]
  refine wpList_append_own_at w hgd s x 29 ho base 31 i _ 5 64 Try.underlying29 hi hz0 hz1 hz2 rfl (by decide) v ts.length L.flatten hs hown ad m c M.flatten hx hflat hmc ?_ (by unfold maxLen; omega) (by omega) hbase ?_
  · intro u hu
    obtain ⟨c', hc', hu'⟩ := List.mem_flatten.1 hu
    exact (hM5 c' hc').2 u hu'
  intro v' w' hown' hg _ hloc
  have hrow : RowT w' base S v' (ts ++ news) := by
    refine ⟨L ++ M, ?_, by simp [hl, hml], fun j T hj => ?_⟩
    · rw [List.flatten_append, List.length_append, hm]; exact hown'
    · have key : ∀ c, Rep w (fun b => S b ∧ some b ≠ v.ownBlock) T (.agg (List.toArray c)) → Rep w' (fun b => S b ∧ some b ≠ v'.ownBlock) T (.agg (List.toArray c)) := fun c hrep =>
        hrep.bound.kept (fun b hb => ⟨hb.1.1, by
          rcases hloc with e | e
          · rw [e]; exact hb.1.2
          · rw [e]; intro e'; cases e'; exact absurd hb.2 (Nat.lt_irrefl _)⟩) fun b hb hlt => hg.block b hlt hb.1.2
      by_cases hj' : j < ts.length
      · rw [List.getElem?_append_left hj'] at hj
        obtain ⟨c', hc', hrep⟩ := hr j T hj
        exact ⟨c', by rw [List.getElem?_append_left (by omega)]; exact hc', key _ hrep⟩
      · rw [List.getElem?_append_right (by omega)] at hj
        obtain ⟨c', hc', hrep⟩ := hmr _ T hj
        exact ⟨c', by rw [List.getElem?_append_right (by omega), hl]; exact hc', key _ hrep⟩
  obtain ⟨a', c', rfl, _⟩ := hrow.slice
  have e : (ts ++ news).length = N := by rw [List.length_append, hm, hN]
  rw [e] at hrow hloc ⊢
  exact h a' c' w' hrow hg hloc
end Go.Proofs.Ytejlhfjhpminjaa
