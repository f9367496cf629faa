/- Rows of structs of any size that a call owns. -/
import Derived.Test.YtejlhfjhpminjaaTyBox
import Derived.Deep.AppendLies
namespace Go.Proofs.Ytejlhfjhpminjaa
open Go.RowKit Mth

/-- What stands for an element: its cells, what they say, what they need. -/
structure El (α : Type) where
  k : Nat
  by_ : Nat
  e : TypeId
  t : TypeId
  rep : World → (Nat → Prop) → α → List Value → Prop
  hk : 0 < k
  und : Try.prog.underlying t = some (.slice e)
  info : ∃ i z, Try.prog.info? e = some i ∧ i.zero = some z ∧ i.size = k ∧ i.bytes = by_ ∧ z.cells.size = k
  hby : by_ ≤ 1000
  len : ∀ {w : World} {S : Nat → Prop} {x : α} {c : List Value}, rep w S x c → c.length = k ∧ ∀ u ∈ c, u.oneCell' = true
  kept : ∀ {w w' : World} {S S' : Nat → Prop} {x : α} {c : List Value}, (∀ b, S b → S' b) → (∀ b, S b → b < w.heap.size → w'.heap[b]? = w.heap[b]?) → rep w S x c → rep w' S' x c
  bound : ∀ {w : World} {S : Nat → Prop} {x : α} {c : List Value}, rep w S x c → rep w (fun b => S b ∧ b < w.heap.size) x c

variable {α : Type} {E : El α}

theorem flat_get (k : Nat) : ∀ (L : List (List Value)), (∀ c ∈ L, c.length = k) → ∀ (j m : Nat) (c : List Value) (u : Value), L[j]? = some c → c[m]? = some u → L.flatten[j * k + m]? = some u := by
  intro L
  induction L with
  | nil => intro _ j m c u h; simp at h
  | cons x L ih =>
    intro hL j m c u hc hu
    have hx : x.length = k := hL x (by simp)
    rw [List.flatten_cons]
    cases j with
    | zero =>
      simp at hc; subst hc
      have hm := (List.getElem?_eq_some_iff.1 hu).1
      rw [List.getElem?_append_left (by omega)]
      simpa using hu
    | succ j =>
      have e : (j + 1) * k + m - k = j * k + m := by rw [Nat.add_mul]; omega
      rw [List.getElem?_append_right (by rw [Nat.add_mul]; omega), hx, e]
      exact ih (fun c h => hL c (by simp [h])) j m c u (by simpa using hc) hu
/-- The slice stands for the list. -/
def SlG (E : El α) (w : World) (S : Nat → Prop) (xs : List α) (v : Value) : Prop :=
  ∃ a cap, v = .slice a xs.length cap ∧ (xs.length ≤ cap ∧ cap ≤ maxLen) ∧ ∀ (j : Nat) (x : α), xs[j]? = some x → ∃ ad c, a = some ad ∧ S ad.block ∧ (∀ (m : Nat) (u : Value), c[m]? = some u → w.cell? (ad.add (j * E.k + m)) = some u) ∧ E.rep w S x c
theorem slG_nil (E : El α) (w : World) (S : Nat → Prop) : SlG E w S [] (.slice none 0 0) := ⟨none, 0, rfl, ⟨Nat.le_refl _, by simp⟩, fun j T h => by simp at h⟩
theorem SlG.kept {w w' : World} {S S' : Nat → Prop} (hS : ∀ b, S b → S' b) (hw : ∀ b, S b → b < w.heap.size → w'.heap[b]? = w.heap[b]?) {xs : List α} {v : Value} (h : SlG E w S xs v) : SlG E w' S' xs v := by
  obtain ⟨a, cap, hv, hcap, hj⟩ := h
  refine ⟨a, cap, hv, hcap, fun j x hx => ?_⟩
  obtain ⟨ad, c, h1, h2, h3, h4⟩ := hj j x hx
  refine ⟨ad, c, h1, hS _ h2, fun m u hu => ?_, E.kept hS hw h4⟩
  have hlt := World.block_lt_of_cell? _ _ (h3 m u hu)
  rw [add_block] at hlt
  rw [World.cell?_of_block (w := w) (by rw [add_block]; exact hw _ h2 hlt)]
  exact h3 m u hu
theorem SlG.bound {w : World} {S : Nat → Prop} {xs : List α} {v : Value} (h : SlG E w S xs v) : SlG E w (fun b => S b ∧ b < w.heap.size) xs v := by
  obtain ⟨a, cap, hv, hcap, hj⟩ := h
  refine ⟨a, cap, hv, hcap, fun j x hx => ?_⟩
  obtain ⟨ad, c, h1, h2, h3, h4⟩ := hj j x hx
  have hl := (E.len h4).1
  have hlt := World.block_lt_of_cell? _ _ (h3 0 (c[0]'(by have := E.hk; omega)) (List.getElem?_eq_getElem _))
  rw [add_block] at hlt
  exact ⟨ad, c, h1, ⟨h2, hlt⟩, h3, E.bound h4⟩
theorem SlG.slice {w : World} {S : Nat → Prop} {xs : List α} {v : Value} (h : SlG E w S xs v) : ∃ a cap, v = .slice a xs.length cap ∧ cap ≤ maxLen := by
  obtain ⟨a, cap, hv, hc, _⟩ := h
  exact ⟨a, cap, hv, hc.2⟩

/-- The call owns the row, and it holds these. -/
def RowG (E : El α) (w : World) (base : Nat) (S : Nat → Prop) (v : Value) (xs : List α) : Prop :=
  ∃ L : List (List Value), w.ownsRow base E.e E.k v xs.length L.flatten ∧ L.length = xs.length ∧ ∀ (j : Nat) (x : α), xs[j]? = some x → ∃ c : List Value, L[j]? = some c ∧ E.rep w (fun b => S b ∧ some b ≠ v.ownBlock) x c
theorem rowG_nil (E : El α) (w : World) (base : Nat) (S : Nat → Prop) : RowG E w base S (.slice none 0 0) [] := ⟨[], World.ownsRow_nil _ _ _ _, rfl, fun j T h => by simp at h⟩
theorem rowG_len {w : World} {L : List (List Value)} {xs : List α} {S : Nat → Prop} (hl : L.length = xs.length) (h : ∀ (j : Nat) (x : α), xs[j]? = some x → ∃ c : List Value, L[j]? = some c ∧ E.rep w S x c) : ∀ c ∈ L, c.length = E.k ∧ ∀ u ∈ c, u.oneCell' = true := by
  intro c hc
  obtain ⟨j, hj, e⟩ := List.getElem_of_mem hc
  obtain ⟨c', hc', hr⟩ := h j (xs[j]'(by omega)) (List.getElem?_eq_getElem (by omega))
  rw [List.getElem?_eq_getElem hj, e] at hc'
  cases hc'
  exact E.len hr
theorem RowG.slG {w : World} {base : Nat} {S S' : Nat → Prop} {v : Value} {xs : List α} (h : RowG E w base S v xs) (h1 : ∀ b, S b → S' b) (h2 : ∀ b, base ≤ b → S' b) : SlG E w S' xs v := by
  obtain ⟨L, hown, hl, hr⟩ := h
  have h5 := rowG_len hl hr
  rcases hown.2 with ⟨rfl, h0⟩ | ⟨g, cap, cur, rfl, hg, hc, hn, hm, _⟩
  · have : xs = [] := List.eq_nil_of_length_eq_zero h0
    subst this
    exact slG_nil _ _ _
  · refine ⟨some ⟨g, 0, none⟩, cap, rfl, ⟨hn, hm⟩, fun j x hj => ?_⟩
    obtain ⟨c, hc', hrep⟩ := hr j x hj
    exact ⟨⟨g, 0, none⟩, c, rfl, h2 _ hg, fun m u hu => hown.cells (g := g) rfl _ _ (flat_get E.k L (fun c h => (h5 c h).1) j m c u hc' hu), E.kept (fun b hb => h1 b hb.1) (fun _ _ _ => rfl) hrep⟩
theorem RowG.kept {w w' : World} {base : Nat} {S : Nat → Prop} {v : Value} {xs : List α} {row : Option Nat} (h : RowG E w base S v xs) (hg : w.grownBy w' row) (hv : v.ownBlock = none ∨ v.ownBlock ≠ row) (hS : ∀ b, S b → some b ≠ row) : RowG E w' base S v xs := by
  obtain ⟨L, hown, hl, hr⟩ := h
  refine ⟨L, hown.kept hg hv, hl, fun j T hj => ?_⟩
  obtain ⟨c, hc', hrep⟩ := hr j T hj
  exact ⟨c, hc', E.kept (fun _ h => h) (fun b hb hlt => hg.block b hlt (hS b hb.1)) hrep⟩
theorem RowG.lift {w w' : World} {base : Nat} {S : Nat → Prop} {v : Value} {xs : List α} (h : RowG E w base S v xs) (hb : Below w.heap.size w w') : RowG E w' base S v xs :=
  h.kept (grown_of_below hb none) (by cases v.ownBlock <;> simp) (fun _ _ => by simp)
theorem RowG.lt {w : World} {base : Nat} {S : Nat → Prop} {v : Value} {xs : List α} (h : RowG E w base S v xs) : ∀ k, v.ownBlock = some k → base ≤ k ∧ k < w.heap.size := by
  obtain ⟨L, hown, _⟩ := h
  exact hown.lt
theorem RowG.off {w : World} {base : Nat} {S : Nat → Prop} {v : Value} {xs : List α} (h : RowG E w base S v xs) {k : Nat} (hk : k < base) : v.ownBlock = none ∨ v.ownBlock ≠ some k := by
  cases hv : v.ownBlock with
  | none => exact .inl rfl
  | some b => have := (h.lt b hv).1; exact .inr (by intro e; cases e; omega)
theorem RowG.slice {w : World} {base : Nat} {S : Nat → Prop} {v : Value} {xs : List α} (h : RowG E w base S v xs) : ∃ a cap, v = .slice a xs.length cap ∧ xs.length ≤ cap ∧ cap ≤ maxLen := by
  obtain ⟨L, hown, _⟩ := h
  rcases hown.2 with ⟨rfl, h0⟩ | ⟨g, cap, cur, rfl, _, _, hn, hm, _⟩
  · exact ⟨none, 0, by rw [h0], by omega, by simp⟩
  · exact ⟨_, cap, rfl, hn, hm⟩

/-- What an append of one element that lies in a block of its own leaves. -/
theorem push_after {w w' : World} {base : Nat} {S : Nat → Prop} {v v' : Value} {xs : List α} {x : α} {c : List Value} {L : List (List Value)} (hl : L.length = xs.length)
    (hr : ∀ (j : Nat) (x : α), xs[j]? = some x → ∃ c : List Value, L[j]? = some c ∧ E.rep w (fun b => S b ∧ some b ≠ v.ownBlock) x c) (hx : E.rep w (fun b => S b ∧ some b ≠ v.ownBlock) x c)
    (hown : w'.ownsRow base E.e E.k v' (xs.length + 1) (L.flatten ++ c)) (hg : w.grownBy w' v.ownBlock) (hloc : v'.ownBlock = v.ownBlock ∨ v'.ownBlock = some w.heap.size) : RowG E w' base S v' (xs ++ [x]) := by
  refine ⟨L ++ [c], ?_, by simp [hl], fun j y hj => ?_⟩
  · rw [List.flatten_append, List.length_append]
    simpa using hown
  · have key : ∀ (y : α) (d : List Value), E.rep w (fun b => S b ∧ some b ≠ v.ownBlock) y d → E.rep w' (fun b => S b ∧ some b ≠ v'.ownBlock) y d := fun y d hrep =>
      E.kept (fun b hb => ⟨hb.1.1, by
        rcases hloc with e | e
        · rw [e]; exact hb.1.2
        · rw [e]; intro e'; cases e'; exact absurd hb.2 (Nat.lt_irrefl _)⟩) (fun b hb hlt => hg.block b hlt hb.1.2) (E.bound hrep)
    by_cases hj' : j < xs.length
    · rw [List.getElem?_append_left hj'] at hj
      obtain ⟨c', hc', hrep⟩ := hr j y hj
      exact ⟨c', by rw [List.getElem?_append_left (by omega)]; exact hc', key _ _ hrep⟩
    · rw [List.getElem?_append_right (by omega)] at hj
      have hz := (List.getElem?_eq_some_iff.1 hj).1
      simp at hz
      have e0 : j - xs.length = 0 := by omega
      rw [e0] at hj
      simp at hj; subst hj
      exact ⟨c, by rw [List.getElem?_append_right (by omega), hl, e0]; rfl, key _ _ hx⟩

/-- One append at a step of a region that draws its order. -/
theorem step_pushG {w : World} {ops : Array Oper} {o : Oper} {a : Act} {K : Act → World → Prop} {Q : Exit → Act → World → Prop} {E' : Prop} (E : El α) (hgd : o.guard = none) (s x : Operand)
    (ho : o.op = .call { callee := .builtin .append, args := #[s, x], argTypes := #[E.t, E.t] })
    (base : Nat) (S : Nat → Prop) (v : Value) (xs : List α) (hs : a.eval s = v) (hrow : RowG E w base S v xs)
    (B : Nat) (Z : TypeId) (c : List Value) (hB : w.heap[B]? = some (.cells c.toArray Z (0, 0))) (hx : a.eval x = .slice (some ⟨B, 0, none⟩) 1 1) (y : α) (hy : E.rep w (fun b => S b ∧ some b ≠ v.ownBlock) y c)
    (N : Nat) (hN : N = xs.length + 1) (hb : N ≤ 1000000) (hbase : base ≤ w.heap.size)
    (hK : ∀ (a' : Option Addr) (c' : Nat) (w' : World), RowG E w' base S (.slice a' N c') (xs ++ [y]) → w.grownBy w' v.ownBlock → K (a.put o.dst (.slice a' N c')) w') :
    if Region.wanted o (yielded ops a.tmps) = true then Oper.wp Try.prog o a w K Q else E' := by
  obtain ⟨i, z, hi, hz, hk, hby, hzs⟩ := E.info
  obtain ⟨L, hown, hl, hr⟩ := hrow
  have hc := E.len hy
  have hE := E.hby
  refine step_append_lies w hgd s x E.t ho base E.e i z E.k E.by_ E.und hi hz hk hby hzs E.hk v xs.length L.flatten hs hown ⟨B, 0, none⟩ 1 1 c hx (by omega) (World.news_of_block hB) hc.2 (by omega) (by unfold maxLen; omega) ?_ hbase w.heap.size rfl ?_
  · have := Nat.mul_le_mul (show xs.length + 1 ≤ 1000000 by omega) hE
    omega
  intro g cap w' hown' hg hloc _
  have hrow' : RowG E w' base S (.slice (some ⟨g, 0, none⟩) (xs.length + 1) cap) (xs ++ [y]) := push_after hl hr hy hown' hg (by
    rcases hloc with e | e
    · exact .inl (by rw [e]; rfl)
    · subst e; exact .inr rfl)
  subst hN
  exact hK _ _ _ hrow' hg

/-- The same in a plain region. -/
theorem wpList_pushG {w : World} {ops : Array Oper} {rest : List Oper} {o : Oper} {a : Act} {Q : Exit → Act → World → Prop} (E : El α) (hgd : o.guard = none) (s x : Operand)
    (ho : o.op = .call { callee := .builtin .append, args := #[s, x], argTypes := #[E.t, E.t] })
    (base : Nat) (S : Nat → Prop) (v : Value) (xs : List α) (hs : a.eval s = v) (hrow : RowG E w base S v xs)
    (B : Nat) (Z : TypeId) (c : List Value) (hB : w.heap[B]? = some (.cells c.toArray Z (0, 0))) (hx : a.eval x = .slice (some ⟨B, 0, none⟩) 1 1) (y : α) (hy : E.rep w (fun b => S b ∧ some b ≠ v.ownBlock) y c)
    (N : Nat) (hN : N = xs.length + 1) (hb : N ≤ 1000000) (hbase : base ≤ w.heap.size)
    (hK : ∀ (a' : Option Addr) (c' : Nat) (w' : World), RowG E w' base S (.slice a' N c') (xs ++ [y]) → w.grownBy w' v.ownBlock → wpList Try.prog ops Q rest (a.put o.dst (.slice a' N c')) w') :
    wpList Try.prog ops Q (o :: rest) a w := by
  obtain ⟨i, z, hi, hz, hk, hby, hzs⟩ := E.info
  obtain ⟨L, hown, hl, hr⟩ := hrow
  have hc := E.len hy
  have hE := E.hby
  refine wpList_append_own_at w hgd s x E.t ho base E.e i z E.k E.by_ E.und hi hz hk hby hzs E.hk v xs.length L.flatten hs hown ⟨B, 0, none⟩ 1 1 c hx (by omega) (World.news_of_block hB) hc.2 (by unfold maxLen; omega) ?_ hbase ?_
  · have := Nat.mul_le_mul (show xs.length + 1 ≤ 1000000 by omega) hE
    omega
  intro v' w' hown' hg _ hloc
  have hrow' : RowG E w' base S v' (xs ++ [y]) := push_after hl hr hy hown' hg hloc
  obtain ⟨a', c', rfl, _⟩ := hrow'.slice
  have e : (xs ++ [y]).length = N := by rw [List.length_append, hN]; rfl
  rw [e] at hrow' ⊢
  exact hK a' c' w' hrow' hg

/-- Types as elements. -/
def TyE : El Ty where
  k := 5
  by_ := 64
  e := 31
  t := 29
  rep w S T c := Rep w S T (.agg c.toArray)
  hk := by decide
  und := Try.underlying29
  info := by obtain ⟨i, h0, h1, h2, h3⟩ := info_parts Try.info31; exact ⟨i, _, h0, h1, h2, h3, rfl⟩
  hby := by decide
  len h := h.cells
  kept h1 h2 h := h.kept h1 h2
  bound h := h.bound
theorem slG_repL {w : World} {S : Nat → Prop} {ts : List Ty} {v : Value} (h : SlG TyE w S ts v) : RepL w S ts v := by
  obtain ⟨a, cap, hv, hc, hj⟩ := h
  refine ⟨a, cap, hv, hc, fun j T hT => ?_⟩
  obtain ⟨ad, c, h1, h2, h3, h4⟩ := hj j T hT
  refine ⟨ad, _, h1, h2, ?_, h4⟩
  have hl := (Rep.cells h4).1
  match c, hl with
  | [c0, c1, c2, c3, c4], _ =>
    refine ⟨c0, c1, c2, c3, c4, rfl, h3 0 _ rfl, ?_, ?_, ?_, ?_⟩
    · rw [add_add' _ _ _ (by omega)]; exact h3 1 _ rfl
    · rw [add_add' _ _ _ (by omega)]; exact h3 2 _ rfl
    · rw [add_add' _ _ _ (by omega)]; exact h3 3 _ rfl
    · rw [add_add' _ _ _ (by omega)]; exact h3 4 _ rfl
end Go.Proofs.Ytejlhfjhpminjaa
