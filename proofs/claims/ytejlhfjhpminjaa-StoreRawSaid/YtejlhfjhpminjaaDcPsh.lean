/- Several elements appended at once to a row that the call owns. -/
import Derived.Test.YtejlhfjhpminjaaTyEls
import Derived.Deep.AppendLies
namespace Go.Proofs.Ytejlhfjhpminjaa
open Go.RowKit Mth

theorem flat_len (k : Nat) : ∀ L : List (List Value), (∀ c ∈ L, c.length = k) → L.flatten.length = L.length * k := by
  intro L
  induction L with
  | nil => intro _; simp
  | cons x L ih =>
    intro h
    rw [List.flatten_cons, List.length_append, h x (by simp), ih fun c hc => h c (by simp [hc])]
    rw [List.length_cons, Nat.add_mul]; omega
theorem flat_at (k : Nat) : ∀ (L : List (List Value)), (∀ c ∈ L, c.length = k) → ∀ (i : Nat) (u : Value), L.flatten[i]? = some u → ∃ (j m : Nat) (c : List Value), i = j * k + m ∧ L[j]? = some c ∧ c[m]? = some u := by
  intro L
  induction L with
  | nil => intro _ i u h; simp at h
  | cons x L ih =>
    intro hL i u hu
    have hx : x.length = k := hL x (by simp)
    rw [List.flatten_cons] at hu
    by_cases hi : i < x.length
    · rw [List.getElem?_append_left hi] at hu
      exact ⟨0, i, x, by simp, rfl, hu⟩
    · rw [List.getElem?_append_right (by omega)] at hu
      obtain ⟨j, m, c, h1, h2, h3⟩ := ih (fun c h => hL c (by simp [h])) _ u hu
      exact ⟨j + 1, m, c, by rw [Nat.add_mul]; omega, by simpa using h2, h3⟩
/-- The cells of a list, one behind the other. -/
theorem cells_ofG {α : Type} (E : El α) {w : World} {S : Nat → Prop} {xs : List α} {ad : Addr} (h : ∀ (j : Nat) (x : α), xs[j]? = some x → ∃ c : List Value, (∀ (m : Nat) (u : Value), c[m]? = some u → w.cell? (ad.add (j * E.k + m)) = some u) ∧ E.rep w S x c) :
    ∃ L : List (List Value), L.length = xs.length ∧ (∀ (j : Nat) (x : α), xs[j]? = some x → ∃ c : List Value, L[j]? = some c ∧ E.rep w S x c) ∧ ∀ (i : Nat) (u : Value), L.flatten[i]? = some u → w.cell? (ad.add i) = some u := by
  have hx : ∀ j, ∃ c : List Value, ∀ x, xs[j]? = some x → (∀ (m : Nat) (u : Value), c[m]? = some u → w.cell? (ad.add (j * E.k + m)) = some u) ∧ E.rep w S x c := by
    intro j
    cases hT : xs[j]? with
    | none => exact ⟨[], fun T h => by cases h⟩
    | some T0 =>
      obtain ⟨c, h1, h2⟩ := h j T0 hT
      exact ⟨c, fun T h => by cases h; exact ⟨h1, h2⟩⟩
  let f : Nat → List Value := fun j => Classical.choose (hx j)
  have hf : ∀ j x, xs[j]? = some x → (∀ (m : Nat) (u : Value), (f j)[m]? = some u → w.cell? (ad.add (j * E.k + m)) = some u) ∧ E.rep w S x (f j) := fun j => Classical.choose_spec (hx j)
  have hget : ∀ j x, xs[j]? = some x → ((List.range xs.length).map f)[j]? = some (f j) := fun j x hj => by
    have := (List.getElem?_eq_some_iff.1 hj).1
    rw [List.getElem?_map, List.getElem?_range this]; rfl
  have hk : ∀ c ∈ (List.range xs.length).map f, c.length = E.k := by
    intro c hc
    simp at hc
    obtain ⟨j, hj, rfl⟩ := hc
    exact (E.len (hf j xs[j] (List.getElem?_eq_getElem hj)).2).1
  refine ⟨(List.range xs.length).map f, by simp, fun j x hj => ⟨f j, hget j x hj, (hf j x hj).2⟩, fun i u hu => ?_⟩
  obtain ⟨j, m, c, rfl, h2, h3⟩ := flat_at E.k _ hk i u hu
  have hj : j < xs.length := by have := (List.getElem?_eq_some_iff.1 h2).1; simpa using this
  rw [hget j xs[j] (List.getElem?_eq_getElem hj)] at h2
  cases h2
  exact (hf j xs[j] (List.getElem?_eq_getElem hj)).1 m u h3
theorem push_afterM {α : Type} {E : El α} {w w' : World} {base : Nat} {S : Nat → Prop} {v v' : Value} {xs news : List α} {L M : List (List Value)} (hl : L.length = xs.length) (hml : M.length = news.length)
    (hr : ∀ (j : Nat) (x : α), xs[j]? = some x → ∃ c : List Value, L[j]? = some c ∧ E.rep w (fun b => S b ∧ some b ≠ v.ownBlock) x c) (hm : ∀ (j : Nat) (x : α), news[j]? = some x → ∃ c : List Value, M[j]? = some c ∧ E.rep w (fun b => S b ∧ some b ≠ v.ownBlock) x c)
    (hown : w'.ownsRow base E.e E.k v' (xs.length + news.length) (L.flatten ++ M.flatten)) (hg : w.grownBy w' v.ownBlock) (hloc : v'.ownBlock = v.ownBlock ∨ v'.ownBlock = some w.heap.size) : RowG E w' base S v' (xs ++ news) := by
  have key : ∀ (y : α) (d : List Value), E.rep w (fun b => S b ∧ some b ≠ v.ownBlock) y d → E.rep w' (fun b => S b ∧ some b ≠ v'.ownBlock) y d := fun y d hrep =>
    E.kept (fun b hb => ⟨hb.1.1, by
      rcases hloc with e | e
      · rw [e]; exact hb.1.2
      · rw [e]; intro e'; cases e'; exact absurd hb.2 (Nat.lt_irrefl _)⟩) (fun b hb hlt => hg.block b hlt hb.1.2) (E.bound hrep)
  refine ⟨L ++ M, ?_, by simp [hl, hml], fun j y hj => ?_⟩
  · rw [List.flatten_append, List.length_append]; exact hown
  · by_cases hj' : j < xs.length
    · rw [List.getElem?_append_left hj'] at hj
      obtain ⟨c', hc', hrep⟩ := hr j y hj
      exact ⟨c', by rw [List.getElem?_append_left (by omega)]; exact hc', key _ _ hrep⟩
    · rw [List.getElem?_append_right (by omega)] at hj
      obtain ⟨c', hc', hrep⟩ := hm _ y hj
      exact ⟨c', by rw [List.getElem?_append_right (by omega), hl]; exact hc', key _ _ hrep⟩
/-- An append of several, in a plain region. -/
theorem wpList_pushM {α : Type} {w : World} {ops : Array Oper} {rest : List Oper} {o : Oper} {a : Act} {Q : Exit → Act → World → Prop} (E : El α) (hgd : o.guard = none) (s x : Operand)
    (ho : o.op = .call { callee := .builtin .append, args := #[s, x], argTypes := #[E.t, E.t] })
    (base : Nat) (S : Nat → Prop) (v : Value) (xs : List α) (hs : a.eval s = v) (hrow : RowG E w base S v xs) (ad : Addr) (m c : Nat) (hx : a.eval x = .slice (some ad) m c) (news : List α) (hm : news.length = m)
    (hc : ∀ (j : Nat) (y : α), news[j]? = some y → ∃ c : List Value, (∀ (m : Nat) (u : Value), c[m]? = some u → w.cell? (ad.add (j * E.k + m)) = some u) ∧ E.rep w (fun b => S b ∧ some b ≠ v.ownBlock) y c)
    (N : Nat) (hN : N = xs.length + m) (hb : N ≤ 1000000) (hbase : base ≤ w.heap.size)
    (hK : ∀ (a' : Option Addr) (c' : Nat) (w' : World), RowG E w' base S (.slice a' N c') (xs ++ news) → w.grownBy w' v.ownBlock → wpList Try.prog ops Q rest (a.put o.dst (.slice a' N c')) w') :
    wpList Try.prog ops Q (o :: rest) a w := by
  obtain ⟨i, z, hi, hz, hk, hby, hzs⟩ := E.info
  obtain ⟨L, hown, hl, hr⟩ := hrow
  obtain ⟨M, hml, hmr, hmc⟩ := cells_ofG E hc
  have hMk := rowG_len hml hmr
  have hE := E.hby
  refine wpList_append_own_at w hgd s x E.t ho base E.e i z E.k E.by_ E.und hi hz hk hby hzs E.hk v xs.length L.flatten hs hown ad m c M.flatten hx (by rw [flat_len E.k M fun c h => (hMk c h).1, hml, hm]) hmc ?_ (by unfold maxLen; omega) ?_ hbase ?_
  · intro u hu
    obtain ⟨c', hc', hu'⟩ := List.mem_flatten.1 hu
    exact (hMk c' hc').2 u hu'
  · have := Nat.mul_le_mul (show xs.length + m ≤ 1000000 by omega) hE
    omega
  intro v' w' hown' hg _ hloc
  have hrow' : RowG E w' base S v' (xs ++ news) := push_afterM hl hml hr hmr (by rw [hm]; exact hown') hg hloc
  obtain ⟨a', c', rfl, _⟩ := hrow'.slice
  have e : (xs ++ news).length = N := by rw [List.length_append, hm, hN]
  rw [e] at hrow' ⊢
  exact hK a' c' w' hrow' hg
/-- The same as a step of a region that draws its order, where it is wanted. -/
theorem step_pushM {α : Type} {w : World} {ops : Array Oper} {o : Oper} {a : Act} {K : Act → World → Prop} {Q : Exit → Act → World → Prop} {E' : Prop} (E : El α) (hw : Region.wanted o (yielded ops a.tmps) = true) (s x : Operand)
    (ho : o.op = .call { callee := .builtin .append, args := #[s, x], argTypes := #[E.t, E.t] })
    (base : Nat) (S : Nat → Prop) (v : Value) (xs : List α) (hs : a.eval s = v) (hrow : RowG E w base S v xs) (ad : Addr) (m c : Nat) (hx : a.eval x = .slice (some ad) m c) (news : List α) (hm : news.length = m) (hm0 : 0 < m)
    (hc : ∀ (j : Nat) (y : α), news[j]? = some y → ∃ c : List Value, (∀ (m : Nat) (u : Value), c[m]? = some u → w.cell? (ad.add (j * E.k + m)) = some u) ∧ E.rep w (fun b => S b ∧ some b ≠ v.ownBlock) y c)
    (N : Nat) (hN : N = xs.length + m) (hb : N ≤ 1000000) (hbase : base ≤ w.heap.size)
    (hK : ∀ (a' : Option Addr) (c' : Nat) (w' : World), RowG E w' base S (.slice a' N c') (xs ++ news) → w.grownBy w' v.ownBlock → K (a.put o.dst (.slice a' N c')) w') :
    if Region.wanted o (yielded ops a.tmps) = true then Oper.wp Try.prog o a w K Q else E' := by
  obtain ⟨i, z, hi, hz, hk, hby, hzs⟩ := E.info
  obtain ⟨L, hown, hl, hr⟩ := hrow
  obtain ⟨M, hml, hmr, hmc⟩ := cells_ofG E hc
  have hMk := rowG_len hml hmr
  have hE := E.hby
  rw [if_pos hw]
  refine wp_append_lies w s x E.t ho base E.e i z E.k E.by_ E.und hi hz hk hby hzs E.hk v xs.length L.flatten hs hown ad m c M.flatten hx (by rw [flat_len E.k M fun c h => (hMk c h).1, hml, hm]) hmc ?_ hm0 (by unfold maxLen; omega) ?_ hbase w.heap.size rfl ?_
  · intro u hu
    obtain ⟨c', hc', hu'⟩ := List.mem_flatten.1 hu
    exact (hMk c' hc').2 u hu'
  · have := Nat.mul_le_mul (show xs.length + m ≤ 1000000 by omega) hE
    omega
  intro g cap w' hown' hg hloc _
  have hrow' : RowG E w' base S (.slice (some ⟨g, 0, none⟩) (xs.length + m) cap) (xs ++ news) := push_afterM hl hml hr hmr (by rw [hm]; exact hown') hg (by
    rcases hloc with e | e
    · exact .inl (by rw [e]; rfl)
    · subst e; exact .inr rfl)
  subst hN
  exact hK _ _ _ hrow' hg
theorem RowG.imp {α : Type} {E : El α} {w : World} {base : Nat} {S S' : Nat → Prop} {v : Value} {xs : List α} (h : RowG E w base S v xs) (hS : ∀ b, S b → S' b) : RowG E w base S' v xs := by
  obtain ⟨L, h1, h2, h3⟩ := h
  refine ⟨L, h1, h2, fun j x hj => ?_⟩
  obtain ⟨c, hc, hr⟩ := h3 j x hj
  exact ⟨c, hc, E.kept (fun b hb => ⟨hS b hb.1, hb.2⟩) (fun _ _ _ => rfl) hr⟩
/-- Elements that stand in a slice, as an append wants them. -/
theorem slG_news {α : Type} {E : El α} {w : World} {S S' : Nat → Prop} {xs : List α} {ad : Addr} {n c : Nat} (h : SlG E w S xs (.slice (some ad) n c)) (hS : ∀ b, S b → S' b) : ∀ (j : Nat) (y : α), xs[j]? = some y → ∃ c : List Value, (∀ (m : Nat) (u : Value), c[m]? = some u → w.cell? (ad.add (j * E.k + m)) = some u) ∧ E.rep w S' y c := by
  obtain ⟨a, cap, e, -, hj⟩ := h
  cases e
  intro j y hy
  obtain ⟨ad', c', e', -, h1, h2⟩ := hj j y hy
  cases e'
  exact ⟨c', h1, E.kept hS (fun _ _ _ => rfl) h2⟩
end Go.Proofs.Ytejlhfjhpminjaa
