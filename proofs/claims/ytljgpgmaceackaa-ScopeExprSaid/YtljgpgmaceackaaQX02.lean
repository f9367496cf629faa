import Derived.Test.YtljgpgmaceackaaQX01
import Derived.Test.YtljgpgmaceackaaRows
import Derived.Deep.Slices
import Derived.ProofKit
import Derived.OpenShut
import Derived.Deep.AppendLies
import Derived.Laws.Tables
import Derived.LoopTactic
import Derived.WalkKit
/- A type that came in as an argument stands for a tree. -/
namespace Go.Proofs.Ytljgpgmaceackaa
open Go.ChangeShapes Go.WideShapes Go.ChangeAt Go.RowKit Go.Deep Mth

theorem Try.cells3 : Try.prog.cellsOf 3 = 1 := by kernel_rfl
theorem Try.own : ownKnob Try.prog.godebug = none := by kernel_rfl
theorem Try.laidOut : laidOutB Try.prog = true := by kernel_rfl
set_option maxRecDepth 100000 in
/-- A slice of numbers that came in. -/
theorem ints_open {H : Type} {enc : TypeId × Value → H} {W : World} {base : Nat} {v : Value} {d : DataW H} {p : List MemPlace} (hval : Value.okWide Try.prog W .any base 22 v) (h : DataW.Trod enc Try.prog W 0 (fun _ => true) true 22 v d p) :
    ∃ zs, Ints W v zs := by
  obtain ⟨a0, len, cap, rfl⟩ := okWide_slice Try.underlying22 hval
  obtain ⟨fuel, hf⟩ := h
  rcases open_ints Try.underlying22 Try.underlying3 Try.cells3 hf with ⟨hcs, _⟩ | ⟨a, len', cap', zs, hcs, _, hl, hm, hz, _, hcell, _⟩
  · simp [Value.cells] at hcs
    obtain ⟨rfl, rfl, rfl⟩ := hcs
    exact ⟨[], none, 0, rfl, by simp, by simp, fun i x h => by simp at h⟩
  · simp [Value.cells] at hcs
    obtain ⟨rfl, rfl, rfl⟩ := hcs
    simp only [if_true] at hz
    have ht : (zs.take len).length = len := by rw [List.length_take]; omega
    refine ⟨zs.take len, some a, cap, by rw [ht], by rw [ht]; exact hl, hm, fun i x hx => ?_⟩
    have hi : i < len := by
      have := (List.getElem?_eq_some_iff.1 hx).1
      omega
    have hx' : zs[i]? = some x := by rw [List.getElem?_take_of_lt hi] at hx; exact hx
    refine ⟨a, rfl, ?_⟩
    have := hcell i (by omega)
    rw [this, List.getD, hx']
    rfl
end Go.Proofs.Ytljgpgmaceackaa

/- What every law of this seat shares: the step from a walk to the given statement. -/
namespace Go.Proofs.Ytljgpgmaceackaa
open Go.ChangeShapes Go.WideShapes Go.ChangeAt Go.RowKit

/-- Arguments that were read before a call that only makes memory read so behind it. -/
theorem trodAll_below {P : Program} (hlo : laidOutB P = true) {H : Type} {enc : TypeId × Value → H} {W W' : World} (hb : Below W.heap.size W W') :
    ∀ (ts : List TypeId) (vs : List Value) (ds : List (DataW H)) (ps : List MemPlace), (∀ t ∈ ts, P.readableRec t = true ∧ t < P.types.size) →
      DataW.TrodAll enc P W 0 (fun _ => true) true ts vs ds ps → (∀ x ∈ ps, x.block < W.heap.size) → DataW.TrodAll enc P W' 0 (fun b => decide (b < W.heap.size)) true ts vs ds ps := by
  intro ts
  induction ts with
  | nil =>
    intro vs ds ps _ h _
    obtain ⟨rfl, rfl, rfl⟩ := trodAll_nil h
    exact trodAll_mk0
  | cons t ts ih =>
    intro vs ds ps hr h hl
    obtain ⟨v, vs', d, ds', p, q, rfl, rfl, rfl, h1, h2⟩ := trodAll_cons h
    exact ⟨p, q, Below.trod hlo (hr t (by simp)).1 (hr t (by simp)).2 h1 hb (fun x hx => hl x (by simp [hx])), ih vs' ds' q (fun t ht => hr t (by simp [ht])) h2 (fun x hx => hl x (by simp [hx])), rfl⟩
theorem all_parts {P : Program} {ts : List TypeId} (h : (ts.all fun t => P.readableRec t && decide (t < P.types.size)) = true) : ∀ t ∈ ts, P.readableRec t = true ∧ t < P.types.size := fun t ht => by
  simpa using List.all_eq_true.1 h t ht

/-- The step from a walk's end to what the row says of it. -/
theorem law_post {f : Func} {s : ChangeSpec} {H : Type} {enc : TypeId × Value → H} {W W' : World} {args : Array Value} {ds gs : List (DataW H)} {before : List MemPlace}
    (hft : f.resultTypes = #[4]) (hpr : (f.params.toList.all fun t => Try.prog.readableRec t && decide (t < Try.prog.types.size)) = true) (hv : s.vars = [])
    (hW : DataW.Whole enc Try.prog f.params.toList s.vars false W args.toList ds gs before)
    (h1 : (s.fn H (ds ++ gs)).results = [.lit (.bool true)]) (h2 : (s.fn H (ds ++ gs)).args = ds) (h3 : (s.fn H (ds ++ gs)).vars = []) (hb : Below W.heap.size W W') :
    ∃ v, Ending.returned (.bool true) = .returned v ∧ s.post enc Try.prog f false true false false W args v W' := by
  have hW' := hW
  obtain ⟨p, q, hA, hV, rfl, hfz, hnd⟩ := hW
  rw [hv] at hV
  obtain ⟨rfl, rfl⟩ := trodVars_none hV
  refine ⟨_, rfl, ds, [], p ++ [], [], p, [], hW', ?_, ?_, ?_, hb.frame _, fun h => by cases h⟩
  · rw [h1, hft]; exact trodAll_mk1 (shut_bool Try.underlying4 _)
  · rw [h2]; exact trodAll_below Try.laidOut hb _ _ _ _ (all_parts hpr) hA (fun x hx => hW'.lt x (by simp [hx]))
  · rw [h3, hv]; rfl
end Go.Proofs.Ytljgpgmaceackaa

/- Rows of structs of any size that a call owns. -/
namespace Go.Proofs.Ytljgpgmaceackaa
open Go.RowKit Mth

/-- What stands for an element: its cells, what they say, what they need. -/
structure El (α : Type) where
  k : Nat
  by_ : Nat
  e : TypeId
  t : TypeId
  rep : World → (Nat → Prop) → α → List Value → Prop
  hk : 0 < k
  und : Try.prog.underlying t = some (.slice e)
  info : ∃ i z, Try.prog.info? e = some i ∧ i.zero = some z ∧ i.size = k ∧ i.bytes = by_ ∧ z.cells.size = k
  hby : by_ ≤ 1000
  len : ∀ {w : World} {S : Nat → Prop} {x : α} {c : List Value}, rep w S x c → c.length = k ∧ ∀ u ∈ c, u.oneCell' = true
  kept : ∀ {w w' : World} {S S' : Nat → Prop} {x : α} {c : List Value}, (∀ b, S b → S' b) → (∀ b, S b → b < w.heap.size → w'.heap[b]? = w.heap[b]?) → rep w S x c → rep w' S' x c
  bound : ∀ {w : World} {S : Nat → Prop} {x : α} {c : List Value}, rep w S x c → rep w (fun b => S b ∧ b < w.heap.size) x c

variable {α : Type} {E : El α}

theorem flat_get (k : Nat) : ∀ (L : List (List Value)), (∀ c ∈ L, c.length = k) → ∀ (j m : Nat) (c : List Value) (u : Value), L[j]? = some c → c[m]? = some u → L.flatten[j * k + m]? = some u := by
  intro L
  induction L with
  | nil => intro _ j m c u h; simp at h
  | cons x L ih =>
    intro hL j m c u hc hu
    have hx : x.length = k := hL x (by simp)
    rw [List.flatten_cons]
    cases j with
    | zero =>
      simp at hc; subst hc
      have hm := (List.getElem?_eq_some_iff.1 hu).1
      rw [List.getElem?_append_left (by omega)]
      simpa using hu
    | succ j =>
      have e : (j + 1) * k + m - k = j * k + m := by rw [Nat.add_mul]; omega
      rw [List.getElem?_append_right (by rw [Nat.add_mul]; omega), hx, e]
      exact ih (fun c h => hL c (by simp [h])) j m c u (by simpa using hc) hu
/-- The slice stands for the list. -/
def SlG (E : El α) (w : World) (S : Nat → Prop) (xs : List α) (v : Value) : Prop :=
  ∃ a cap, v = .slice a xs.length cap ∧ (xs.length ≤ cap ∧ cap ≤ maxLen) ∧ ∀ (j : Nat) (x : α), xs[j]? = some x → ∃ ad c, a = some ad ∧ S ad.block ∧ (∀ (m : Nat) (u : Value), c[m]? = some u → w.cell? (ad.add (j * E.k + m)) = some u) ∧ E.rep w S x c
theorem slG_nil (E : El α) (w : World) (S : Nat → Prop) : SlG E w S [] (.slice none 0 0) := ⟨none, 0, rfl, ⟨Nat.le_refl _, by simp⟩, fun j T h => by simp at h⟩
theorem SlG.kept {w w' : World} {S S' : Nat → Prop} (hS : ∀ b, S b → S' b) (hw : ∀ b, S b → b < w.heap.size → w'.heap[b]? = w.heap[b]?) {xs : List α} {v : Value} (h : SlG E w S xs v) : SlG E w' S' xs v := by
  obtain ⟨a, cap, hv, hcap, hj⟩ := h
  refine ⟨a, cap, hv, hcap, fun j x hx => ?_⟩
  obtain ⟨ad, c, h1, h2, h3, h4⟩ := hj j x hx
  refine ⟨ad, c, h1, hS _ h2, fun m u hu => ?_, E.kept hS hw h4⟩
  have hlt := World.block_lt_of_cell? _ _ (h3 m u hu)
  rw [add_block] at hlt
  rw [World.cell?_of_block (w := w) (by rw [add_block]; exact hw _ h2 hlt)]
  exact h3 m u hu
theorem SlG.bound {w : World} {S : Nat → Prop} {xs : List α} {v : Value} (h : SlG E w S xs v) : SlG E w (fun b => S b ∧ b < w.heap.size) xs v := by
  obtain ⟨a, cap, hv, hcap, hj⟩ := h
  refine ⟨a, cap, hv, hcap, fun j x hx => ?_⟩
  obtain ⟨ad, c, h1, h2, h3, h4⟩ := hj j x hx
  have hl := (E.len h4).1
  have hlt := World.block_lt_of_cell? _ _ (h3 0 (c[0]'(by have := E.hk; omega)) (List.getElem?_eq_getElem _))
  rw [add_block] at hlt
  exact ⟨ad, c, h1, ⟨h2, hlt⟩, h3, E.bound h4⟩
theorem SlG.slice {w : World} {S : Nat → Prop} {xs : List α} {v : Value} (h : SlG E w S xs v) : ∃ a cap, v = .slice a xs.length cap ∧ cap ≤ maxLen := by
  obtain ⟨a, cap, hv, hc, _⟩ := h
  exact ⟨a, cap, hv, hc.2⟩

/-- The call owns the row, and it holds these. -/
def RowG (E : El α) (w : World) (base : Nat) (S : Nat → Prop) (v : Value) (xs : List α) : Prop :=
  ∃ L : List (List Value), w.ownsRow base E.e E.k v xs.length L.flatten ∧ L.length = xs.length ∧ ∀ (j : Nat) (x : α), xs[j]? = some x → ∃ c : List Value, L[j]? = some c ∧ E.rep w (fun b => S b ∧ some b ≠ v.ownBlock) x c
theorem rowG_nil (E : El α) (w : World) (base : Nat) (S : Nat → Prop) : RowG E w base S (.slice none 0 0) [] := ⟨[], World.ownsRow_nil _ _ _ _, rfl, fun j T h => by simp at h⟩
theorem rowG_len {w : World} {L : List (List Value)} {xs : List α} {S : Nat → Prop} (hl : L.length = xs.length) (h : ∀ (j : Nat) (x : α), xs[j]? = some x → ∃ c : List Value, L[j]? = some c ∧ E.rep w S x c) : ∀ c ∈ L, c.length = E.k ∧ ∀ u ∈ c, u.oneCell' = true := by
  intro c hc
  obtain ⟨j, hj, e⟩ := List.getElem_of_mem hc
  obtain ⟨c', hc', hr⟩ := h j (xs[j]'(by omega)) (List.getElem?_eq_getElem (by omega))
  rw [List.getElem?_eq_getElem hj, e] at hc'
  cases hc'
  exact E.len hr
theorem RowG.slG {w : World} {base : Nat} {S S' : Nat → Prop} {v : Value} {xs : List α} (h : RowG E w base S v xs) (h1 : ∀ b, S b → S' b) (h2 : ∀ b, base ≤ b → S' b) : SlG E w S' xs v := by
  obtain ⟨L, hown, hl, hr⟩ := h
  have h5 := rowG_len hl hr
  rcases hown.2 with ⟨rfl, h0⟩ | ⟨g, cap, cur, rfl, hg, hc, hn, hm, _⟩
  · have : xs = [] := List.eq_nil_of_length_eq_zero h0
    subst this
    exact slG_nil _ _ _
  · refine ⟨some ⟨g, 0, none⟩, cap, rfl, ⟨hn, hm⟩, fun j x hj => ?_⟩
    obtain ⟨c, hc', hrep⟩ := hr j x hj
    exact ⟨⟨g, 0, none⟩, c, rfl, h2 _ hg, fun m u hu => hown.cells (g := g) rfl _ _ (flat_get E.k L (fun c h => (h5 c h).1) j m c u hc' hu), E.kept (fun b hb => h1 b hb.1) (fun _ _ _ => rfl) hrep⟩
theorem RowG.kept {w w' : World} {base : Nat} {S : Nat → Prop} {v : Value} {xs : List α} {row : Option Nat} (h : RowG E w base S v xs) (hg : w.grownBy w' row) (hv : v.ownBlock = none ∨ v.ownBlock ≠ row) (hS : ∀ b, S b → some b ≠ row) : RowG E w' base S v xs := by
  obtain ⟨L, hown, hl, hr⟩ := h
  refine ⟨L, hown.kept hg hv, hl, fun j T hj => ?_⟩
  obtain ⟨c, hc', hrep⟩ := hr j T hj
  exact ⟨c, hc', E.kept (fun _ h => h) (fun b hb hlt => hg.block b hlt (hS b hb.1)) hrep⟩
theorem RowG.lift {w w' : World} {base : Nat} {S : Nat → Prop} {v : Value} {xs : List α} (h : RowG E w base S v xs) (hb : Below w.heap.size w w') : RowG E w' base S v xs :=
  h.kept (grown_of_below hb none) (by cases v.ownBlock <;> simp) (fun _ _ => by simp)
theorem RowG.lt {w : World} {base : Nat} {S : Nat → Prop} {v : Value} {xs : List α} (h : RowG E w base S v xs) : ∀ k, v.ownBlock = some k → base ≤ k ∧ k < w.heap.size := by
  obtain ⟨L, hown, _⟩ := h
  exact hown.lt
theorem RowG.off {w : World} {base : Nat} {S : Nat → Prop} {v : Value} {xs : List α} (h : RowG E w base S v xs) {k : Nat} (hk : k < base) : v.ownBlock = none ∨ v.ownBlock ≠ some k := by
  cases hv : v.ownBlock with
  | none => exact .inl rfl
  | some b => have := (h.lt b hv).1; exact .inr (by intro e; cases e; omega)
theorem RowG.slice {w : World} {base : Nat} {S : Nat → Prop} {v : Value} {xs : List α} (h : RowG E w base S v xs) : ∃ a cap, v = .slice a xs.length cap ∧ xs.length ≤ cap ∧ cap ≤ maxLen := by
  obtain ⟨L, hown, _⟩ := h
  rcases hown.2 with ⟨rfl, h0⟩ | ⟨g, cap, cur, rfl, _, _, hn, hm, _⟩
  · exact ⟨none, 0, by rw [h0], by omega, by simp⟩
  · exact ⟨_, cap, rfl, hn, hm⟩

/-- What an append of one element that lies in a block of its own leaves. -/
theorem push_after {w w' : World} {base : Nat} {S : Nat → Prop} {v v' : Value} {xs : List α} {x : α} {c : List Value} {L : List (List Value)} (hl : L.length = xs.length)
    (hr : ∀ (j : Nat) (x : α), xs[j]? = some x → ∃ c : List Value, L[j]? = some c ∧ E.rep w (fun b => S b ∧ some b ≠ v.ownBlock) x c) (hx : E.rep w (fun b => S b ∧ some b ≠ v.ownBlock) x c)
    (hown : w'.ownsRow base E.e E.k v' (xs.length + 1) (L.flatten ++ c)) (hg : w.grownBy w' v.ownBlock) (hloc : v'.ownBlock = v.ownBlock ∨ v'.ownBlock = some w.heap.size) : RowG E w' base S v' (xs ++ [x]) := by
  refine ⟨L ++ [c], ?_, by simp [hl], fun j y hj => ?_⟩
  · rw [List.flatten_append, List.length_append]
    simpa using hown
  · have key : ∀ (y : α) (d : List Value), E.rep w (fun b => S b ∧ some b ≠ v.ownBlock) y d → E.rep w' (fun b => S b ∧ some b ≠ v'.ownBlock) y d := fun y d hrep =>
      E.kept (fun b hb => ⟨hb.1.1, by
        rcases hloc with e | e
        · rw [e]; exact hb.1.2
        · rw [e]; intro e'; cases e'; exact absurd hb.2 (Nat.lt_irrefl _)⟩) (fun b hb hlt => hg.block b hlt hb.1.2) (E.bound hrep)
    by_cases hj' : j < xs.length
    · rw [List.getElem?_append_left hj'] at hj
      obtain ⟨c', hc', hrep⟩ := hr j y hj
      exact ⟨c', by rw [List.getElem?_append_left (by omega)]; exact hc', key _ _ hrep⟩
    · rw [List.getElem?_append_right (by omega)] at hj
      have hz := (List.getElem?_eq_some_iff.1 hj).1
      simp at hz
      have e0 : j - xs.length = 0 := by omega
      rw [e0] at hj
      simp at hj; subst hj
      exact ⟨c, by rw [List.getElem?_append_right (by omega), hl, e0]; rfl, key _ _ hx⟩

/-- One append at a step of a region that draws its order. -/
theorem step_pushG {w : World} {ops : Array Oper} {o : Oper} {a : Act} {K : Act → World → Prop} {Q : Exit → Act → World → Prop} {E' : Prop} (E : El α) (hgd : o.guard = none) (s x : Operand)
    (ho : o.op = .call { callee := .builtin .append, args := #[s, x], argTypes := #[E.t, E.t] })
    (base : Nat) (S : Nat → Prop) (v : Value) (xs : List α) (hs : a.eval s = v) (hrow : RowG E w base S v xs)
    (B : Nat) (Z : TypeId) (c : List Value) (hB : w.heap[B]? = some (.cells c.toArray Z (0, 0))) (hx : a.eval x = .slice (some ⟨B, 0, none⟩) 1 1) (y : α) (hy : E.rep w (fun b => S b ∧ some b ≠ v.ownBlock) y c)
    (N : Nat) (hN : N = xs.length + 1) (hb : N ≤ 1000000) (hbase : base ≤ w.heap.size)
    (hK : ∀ (a' : Option Addr) (c' : Nat) (w' : World), RowG E w' base S (.slice a' N c') (xs ++ [y]) → w.grownBy w' v.ownBlock → K (a.put o.dst (.slice a' N c')) w') :
    if Region.wanted o (yielded ops a.tmps) = true then Oper.wp Try.prog o a w K Q else E' := by
  obtain ⟨i, z, hi, hz, hk, hby, hzs⟩ := E.info
  obtain ⟨L, hown, hl, hr⟩ := hrow
  have hc := E.len hy
  have hE := E.hby
  refine step_append_lies w hgd s x E.t ho base E.e i z E.k E.by_ E.und hi hz hk hby hzs E.hk v xs.length L.flatten hs hown ⟨B, 0, none⟩ 1 1 c hx (by omega) (World.news_of_block hB) hc.2 (by omega) (by unfold maxLen; omega) ?_ hbase w.heap.size rfl ?_
  · have := Nat.mul_le_mul (show xs.length + 1 ≤ 1000000 by omega) hE
    omega
  intro g cap w' hown' hg hloc _
  have hrow' : RowG E w' base S (.slice (some ⟨g, 0, none⟩) (xs.length + 1) cap) (xs ++ [y]) := push_after hl hr hy hown' hg (by
    rcases hloc with e | e
    · exact .inl (by rw [e]; rfl)
    · subst e; exact .inr rfl)
  subst hN
  exact hK _ _ _ hrow' hg

/-- The same in a plain region. -/
theorem wpList_pushG {w : World} {ops : Array Oper} {rest : List Oper} {o : Oper} {a : Act} {Q : Exit → Act → World → Prop} (E : El α) (hgd : o.guard = none) (s x : Operand)
    (ho : o.op = .call { callee := .builtin .append, args := #[s, x], argTypes := #[E.t, E.t] })
    (base : Nat) (S : Nat → Prop) (v : Value) (xs : List α) (hs : a.eval s = v) (hrow : RowG E w base S v xs)
    (B : Nat) (Z : TypeId) (c : List Value) (hB : w.heap[B]? = some (.cells c.toArray Z (0, 0))) (hx : a.eval x = .slice (some ⟨B, 0, none⟩) 1 1) (y : α) (hy : E.rep w (fun b => S b ∧ some b ≠ v.ownBlock) y c)
    (N : Nat) (hN : N = xs.length + 1) (hb : N ≤ 1000000) (hbase : base ≤ w.heap.size)
    (hK : ∀ (a' : Option Addr) (c' : Nat) (w' : World), RowG E w' base S (.slice a' N c') (xs ++ [y]) → w.grownBy w' v.ownBlock → wpList Try.prog ops Q rest (a.put o.dst (.slice a' N c')) w') :
    wpList Try.prog ops Q (o :: rest) a w := by
  obtain ⟨i, z, hi, hz, hk, hby, hzs⟩ := E.info
  obtain ⟨L, hown, hl, hr⟩ := hrow
  have hc := E.len hy
  have hE := E.hby
  refine wpList_append_own_at w hgd s x E.t ho base E.e i z E.k E.by_ E.und hi hz hk hby hzs E.hk v xs.length L.flatten hs hown ⟨B, 0, none⟩ 1 1 c hx (by omega) (World.news_of_block hB) hc.2 (by unfold maxLen; omega) ?_ hbase ?_
  · have := Nat.mul_le_mul (show xs.length + 1 ≤ 1000000 by omega) hE
    omega
  intro v' w' hown' hg _ hloc
  have hrow' : RowG E w' base S v' (xs ++ [y]) := push_after hl hr hy hown' hg hloc
  obtain ⟨a', c', rfl, _⟩ := hrow'.slice
  have e : (xs ++ [y]).length = N := by rw [List.length_append, hN]; rfl
  rw [e] at hrow' ⊢
  exact hK a' c' w' hrow' hg

/-- Types as elements. -/
def TyE : El Ty where
  k := 5
  by_ := 64
  e := 34
  t := 32
  rep w S T c := Rep w S T (.agg c.toArray)
  hk := by decide
  und := Try.underlying32
  info := by obtain ⟨i, h0, h1, h2, h3⟩ := info_parts Try.info34; exact ⟨i, _, h0, h1, h2, h3, rfl⟩
  hby := by decide
  len h := h.cells
  kept h1 h2 h := h.kept h1 h2
  bound h := h.bound
theorem slG_repL {w : World} {S : Nat → Prop} {ts : List Ty} {v : Value} (h : SlG TyE w S ts v) : RepL w S ts v := by
  obtain ⟨a, cap, hv, hc, hj⟩ := h
  refine ⟨a, cap, hv, hc, fun j T hT => ?_⟩
  obtain ⟨ad, c, h1, h2, h3, h4⟩ := hj j T hT
  refine ⟨ad, _, h1, h2, ?_, h4⟩
  have hl := (Rep.cells h4).1
  match c, hl with
  | [c0, c1, c2, c3, c4], _ =>
    refine ⟨c0, c1, c2, c3, c4, rfl, h3 0 _ rfl, ?_, ?_, ?_, ?_⟩
    · rw [add_add' _ _ _ (by omega)]; exact h3 1 _ rfl
    · rw [add_add' _ _ _ (by omega)]; exact h3 2 _ rfl
    · rw [add_add' _ _ _ (by omega)]; exact h3 3 _ rfl
    · rw [add_add' _ _ _ (by omega)]; exact h3 4 _ rfl
end Go.Proofs.Ytljgpgmaceackaa

/- Strings, constructors and declarations as elements of rows. -/
namespace Go.Proofs.Ytljgpgmaceackaa
open Go.RowKit Mth

theorem elInfo_str : (Try.prog.info? 9).map (fun i => (i.zero, i.size, i.bytes)) = some (some (.string ByteArray.empty), 1, 16) := by kernel_rfl
theorem elInfo_ctor : (Try.prog.info? 63).map (fun i => (i.zero, i.size, i.bytes)) = some (some (.agg #[.int .i64 0, .string ByteArray.empty, .slice none 0 0]), 3, 48) := by kernel_rfl
theorem elInfo_dat : (Try.prog.info? 61).map (fun i => (i.zero, i.size, i.bytes)) = some (some (.agg #[.int .i64 0, .string ByteArray.empty, .slice none 0 0, .slice none 0 0]), 4, 72) := by kernel_rfl
def StrE : El ByteArray where
  k := 1
  by_ := 16
  e := 9
  t := 25
  rep _ _ x c := c = [.string x]
  hk := by decide
  und := Try.underlying25
  info := by obtain ⟨i, h0, h1, h2, h3⟩ := info_parts elInfo_str; exact ⟨i, _, h0, h1, h2, h3, rfl⟩
  hby := by decide
  len h := by subst h; exact ⟨rfl, by intro u hu; simp at hu; subst hu; rfl⟩
  kept _ _ h := h
  bound h := h
/-- A constructor's declaration. -/
structure Ctor where
  pos : Int
  name : ByteArray
  fields : List Ty
/-- A data declaration. -/
structure Dat where
  pos : Int
  name : ByteArray
  params : List ByteArray
  ctors : List Ctor
def CtorE : El Ctor where
  k := 3
  by_ := 48
  e := 63
  t := 59
  rep w S x c := ∃ fv, c = [.int .i64 x.pos, .string x.name, fv] ∧ SlG TyE w S x.fields fv
  hk := by decide
  und := Try.underlying59
  info := by obtain ⟨i, h0, h1, h2, h3⟩ := info_parts elInfo_ctor; exact ⟨i, _, h0, h1, h2, h3, rfl⟩
  hby := by decide
  len h := by
    obtain ⟨fv, rfl, hf⟩ := h
    obtain ⟨a, c, rfl, -⟩ := hf.slice
    exact ⟨rfl, by intro u hu; simp at hu; rcases hu with rfl | rfl | rfl <;> rfl⟩
  kept h1 h2 h := by
    obtain ⟨fv, e, hf⟩ := h
    exact ⟨fv, e, hf.kept h1 h2⟩
  bound h := by
    obtain ⟨fv, e, hf⟩ := h
    exact ⟨fv, e, hf.bound⟩
def DatE : El Dat where
  k := 4
  by_ := 72
  e := 61
  t := 41
  rep w S x c := ∃ pv cv, c = [.int .i64 x.pos, .string x.name, pv, cv] ∧ SlG StrE w S x.params pv ∧ SlG CtorE w S x.ctors cv
  hk := by decide
  und := Try.underlying41
  info := by obtain ⟨i, h0, h1, h2, h3⟩ := info_parts elInfo_dat; exact ⟨i, _, h0, h1, h2, h3, rfl⟩
  hby := by decide
  len h := by
    obtain ⟨pv, cv, rfl, hp, hc⟩ := h
    obtain ⟨a, c, rfl, -⟩ := hp.slice
    obtain ⟨a', c', rfl, -⟩ := hc.slice
    exact ⟨rfl, by intro u hu; simp at hu; rcases hu with rfl | rfl | rfl | rfl <;> rfl⟩
  kept h1 h2 h := by
    obtain ⟨pv, cv, e, hp, hc⟩ := h
    exact ⟨pv, cv, e, hp.kept h1 h2, hc.kept h1 h2⟩
  bound h := by
    obtain ⟨pv, cv, e, hp, hc⟩ := h
    exact ⟨pv, cv, e, hp.bound, hc.bound⟩
end Go.Proofs.Ytljgpgmaceackaa

/- The contracts of the reference's makers of types. -/
namespace Go.Proofs.Ytljgpgmaceackaa
open Go.RowKit Mth

/-- A value without arguments. -/
def leafV (k : Int) (n : ByteArray) (i h : Int) : Value := .agg #[.int .i64 k, .string n, .int .i64 i, .int .i64 h, .slice none 0 0]
theorem rep_leaf (w : World) (S : Nat → Prop) (k : Int) (n : ByteArray) (i h : Int) (hn : n.size ≤ maxLen) : Rep w S (.mk k n i h []) (leafV k n i h) := Rep.close hn (repL_nil w S)
theorem refNamed_any (n : ByteArray) (w : World) : Calls Try.prog 91 #[.string n] w fun e w' => e = .returned (leafV 5 n 0 0) ∧ Below w.heap.size w w' := by
  go_enter Try.func91, Try.ntmps91
  go_wp2
  go_returns
  exact ⟨rfl, (Below.refl _ w).alloc (Nat.le_refl _) _⟩

/-- A constructor. -/
def con (n : ByteArray) (ts : List Ty) : Ty := .mk 4 n 0 0 ts
def arrN : ByteArray := ⟨#[45, 62]⟩
def intN : ByteArray := ⟨#[73, 110, 116]⟩
theorem refCon_nil (n : ByteArray) (w : World) : Calls Try.prog 37 #[.string n, .slice none 0 0] w fun e w' => e = .returned (leafV 4 n 0 0) ∧ Below w.heap.size w w' := by
  go_enter Try.func37, Try.ntmps37
  go_wp2
  go_returns
  exact ⟨rfl, (Below.refl _ w).alloc (Nat.le_refl _) _⟩
set_option maxHeartbeats 800000 in
theorem refInt_any (w : World) : Calls Try.prog 36 #[] w fun e w' => e = .returned (leafV 4 intN 0 0) ∧ Below w.heap.size w w' := by
  have hb0 : ∀ X Z, Below w.heap.size w (w.alloc (.cells X Z)) := fun X Z => (Below.refl _ w).alloc (Nat.le_refl _) _
  go_enter Try.func36, Try.ntmps36
  go_wp2_with fail
  go_at_call 37
  refine (refCon_nil _ _).mono ?_
  rintro e w1 ⟨rfl, hb1⟩
  have HB := Lib.hid ((Box.made w _ _ _ _ _).lift hb1)
  have hbx := (hb0 _ _).trans (hb1.mono (hb0 _ _).size)
  clear hb1
  unfold leafV
  go_wp2_with (refine wpList_store5 rfl _ _ rfl _ _ _ _ _ _ HB.out rfl _ _ _ _ _ _ _ rfl ?_; intro w2 hB2 hg2 hs2)
  obtain ⟨c0, c1, c2, c3, c4⟩ := hB2.cells
  refine bodyPost_ret (by simp [results, Try.results36, go_sem, c0, c1, c2, c3, c4]; try rfl) rfl ?_
  exact ⟨rfl, Below.grown hbx hg2 hbx.size (fun j hj => by cases hj; exact Nat.le_refl _)⟩
set_option maxHeartbeats 800000 in
theorem refCon_any (n : ByteArray) (ts : List Ty) (hl : ts.length ≤ 1000000) (ad : Addr) (cap : Nat) (S : Nat → Prop) (w : World) (hS : ∀ b, w.heap.size ≤ b → S b) (h : RepL w S ts (.slice (some ad) ts.length cap)) :
    Calls Try.prog 37 #[.string n, .slice (some ad) ts.length cap] w fun e w' => ∃ a c, e = .returned (.agg #[.int .i64 4, .string n, .int .i64 0, .int .i64 0, .slice a ts.length c]) ∧ RepL w' S ts (.slice a ts.length c) ∧ Below w.heap.size w w' := by
  have HR := Lib.hid h
  clear h
  have hb0 : ∀ X Z, Below w.heap.size w (w.alloc (.cells X Z)) := fun X Z => (Below.refl _ w).alloc (Nat.le_refl _) _
  obtain ⟨m, hm⟩ : ∃ m, m = ts.length := ⟨_, rfl⟩
  rw [← hm] at hl ⊢
  have HM := Lib.hid hm
  clear hm
  have hnews : ∀ X Z, ∀ j T, ts[j]? = some T → ∃ y, Five (w.alloc (.cells X Z)) ad j y ∧ Rep (w.alloc (.cells X Z)) (fun b => (b < w.heap.size ∧ S b) ∧ some b ≠ (Value.slice none 0 0).ownBlock) T y := by
    intro X Z j T hj
    obtain ⟨a, c, hv, _, hr⟩ := HR.out.lift (hb0 X Z)
    have := HR.out
    obtain ⟨a', c', hv', _, hr'⟩ := this
    simp at hv'
    obtain ⟨rfl, rfl⟩ := hv'
    obtain ⟨ad', y, e, _, h5, hrep⟩ := hr' j T hj
    cases e
    exact ⟨y, h5.kept ((hb0 X Z).block _ h5.lt), (hrep.bound.lift (hb0 X Z)).imp fun b hb => ⟨⟨hb.2, hb.1⟩, by simp [Value.ownBlock]⟩⟩
  have HN := Lib.hid hnews
  clear hnews
  go_enter Try.func37, Try.ntmps37
  go_wp2_with (first
    | (at_builtin; refine wpList_pushT rfl _ _ rfl (w.heap.size + 1) (fun b => b < w.heap.size ∧ S b) (.slice none 0 0) [] rfl (rowT_nil _ _ _) _ _ _ rfl ts HM.out.symm (HN.out _ _) m (by simp) hl (by simp) ?_; intro a1 c1 w1 hrow hg hloc; have HB := Lib.hid ((Box.made w _ _ _ _ _).kept (hg.block _ (by simp) (by simp [Value.ownBlock]))))
    | (refine wpList_store5 rfl _ _ rfl _ _ _ _ _ _ HB.out rfl _ _ _ _ _ _ _ rfl ?_; intro w2 hB2 hg2 hs2))
  obtain ⟨c0, c1, c2, c3, c4⟩ := hB2.cells
  have hbw : Below w.heap.size w w1 := Below.grown (hb0 _ _) hg (by simp) (fun j hj => by simp [Value.ownBlock] at hj)
  have hrow2 := hrow.kept hg2 (hrow.off (Nat.lt_succ_self _)) (fun b hb => by intro e; cases e; exact absurd hb.1 (Nat.lt_irrefl _))
  refine bodyPost_ret (by simp [results, Try.results37, go_sem, c0, c1, c2, c3, c4]; try rfl) rfl ?_
  exact ⟨a1, _, rfl, hrow2.repL (fun b hb => hb.2) (fun b hb => hS b (by omega)), Below.grown hbw hg2 hbw.size (fun j hj => by cases hj; exact Nat.le_refl _)⟩

/-- A row of two that was just made. -/
theorem two_new {w w0 : World} {S : Nat → Prop} {T U : Ty} {a0 a1 a2 a3 a4 b0 b1 b2 b3 b4 : Value} (hb : Below w0.heap.size w0 w) (h : Rep w0 S T (.agg #[a0, a1, a2, a3, a4])) (k : Rep w0 S U (.agg #[b0, b1, b2, b3, b4])) (Z : TypeId) (n : Nat) (hn : n = w.heap.size) (hS : S n) :
    RepL (w.alloc (.cells #[a0, a1, a2, a3, a4, b0, b1, b2, b3, b4] Z)) S [T, U] (.slice (some ⟨n, 0, none⟩) 2 2) := by
  subst hn
  have hb' : Below w0.heap.size w0 (w.alloc (.cells #[a0, a1, a2, a3, a4, b0, b1, b2, b3, b4] Z)) := hb.alloc hb.size _
  refine ⟨_, 2, rfl, ⟨Nat.le_refl _, by simp [maxLen]⟩, fun j X hj => ?_⟩
  rcases j with _ | _ | j
  · simp at hj; subst hj
    exact ⟨_, _, rfl, hS, ⟨a0, a1, a2, a3, a4, rfl, by simp [Addr.add], by simp [Addr.add], by simp [Addr.add], by simp [Addr.add], by simp [Addr.add]⟩, h.lift hb'⟩
  · simp at hj; subst hj
    exact ⟨_, _, rfl, hS, ⟨b0, b1, b2, b3, b4, rfl, by simp [Addr.add], by simp [Addr.add], by simp [Addr.add], by simp [Addr.add], by simp [Addr.add]⟩, k.lift hb'⟩
  · simp at hj
set_option maxHeartbeats 1600000 in
theorem refArrow_any (T U : Ty) (v u : Value) (S : Nat → Prop) (w : World) (hS : ∀ b, w.heap.size ≤ b → S b) (h : Rep w S T v) (h' : Rep w S U u) :
    Calls Try.prog 38 #[v, u] w fun e w' => ∃ a c, e = .returned (.agg #[.int .i64 4, .string arrN, .int .i64 0, .int .i64 0, .slice a 2 c]) ∧ RepL w' S [T, U] (.slice a 2 c) ∧ Below w.heap.size w w' := by
  obtain ⟨k, n, i, hm, s, eT, rfl, hn, hs⟩ := h.open
  obtain ⟨k', n', i', hm', s', eU, rfl, hn', hs'⟩ := h'.open
  obtain ⟨sa, sc, rfl, -⟩ := hs
  obtain ⟨sa', sc', rfl, -⟩ := hs'
  have HR := Lib.hid h
  have HR' := Lib.hid h'
  clear h h' eT eU hn hn'
  generalize T.ts.length = sn at *
  generalize U.ts.length = sn' at *
  go_enter Try.func38, Try.ntmps38
  go_wp2_with fail
  go_at_call 37
  have hb3 : ∀ A B C, Below w.heap.size w (((w.alloc (.cells A 34)).alloc (.cells B 34)).alloc (.cells C 34)) := fun A B C => (((Below.refl _ w).alloc (Nat.le_refl _) _).alloc (by simp) _).alloc (by simp; omega) _
  refine (refCon_any arrN [T, U] (by simp) ⟨w.heap.size + 1 + 1 + 1, 0, none⟩ 2 (fun b => S b ∧ b ≠ w.heap.size + 1 + 1) _ (fun b hb => ⟨hS b (by simp at hb; omega), by simp at hb; omega⟩)
    (two_new (hb3 _ _ _) (HR.out.bound.imp fun b hb => ⟨hb.1, by omega⟩) (HR'.out.bound.imp fun b hb => ⟨hb.1, by omega⟩) _ _ (by simp) ⟨hS _ (by omega), by omega⟩)).mono ?_
  rintro e w1 ⟨a, c, rfl, hrep, hb1⟩
  have hbw := (((hb3 _ _ _).alloc (hb3 _ _ _).size _)).trans (hb1.mono (by simp; omega))
  have HB : Hid (Zero w1 (w.heap.size + 1 + 1)) := Box.lift (by unfold Box; rw [heap_at, if_neg (by simp), heap_at, if_pos (by simp)]) hb1
  have hsz := hb1.size
  clear hb1
  go_wp2_with (refine wpList_store5 rfl _ _ rfl _ _ _ _ _ _ HB.out rfl _ _ _ _ _ _ _ rfl ?_; intro w2 hB2 hg2 hs2)
  obtain ⟨c0, c1, c2, c3, c4⟩ := hB2.cells
  refine bodyPost_ret (by simp [results, Try.results38, go_sem, c0, c1, c2, c3, c4]; try rfl) rfl ?_
  exact ⟨a, c, rfl, hrep.kept (fun b hb => hb.1) (fun b hb hlt => hg2.block b hlt (by intro e; cases e; exact hb.2 rfl)), Below.grown hbw hg2 hbw.size (fun j hj => by cases hj; omega)⟩
end Go.Proofs.Ytljgpgmaceackaa

/- Expressions as trees, and what it means that cells stand for a tree. -/
namespace Go.Proofs.Ytljgpgmaceackaa
open Go.RowKit Mth

/-- What an arm says besides its body. -/
structure AH where
  pos : Int
  con : ByteArray
  vars : List ByteArray
/-- An expression: its kind, its place, its name, its number, its type, its kids, its arms. -/
inductive Ex where
  | mk (k p : Int) (n : ByteArray) (m : Int) (t : Ty) (kids : List Ex) (arms : List (AH × Ex))
def Ex.k : Ex → Int | .mk k _ _ _ _ _ _ => k
def Ex.p : Ex → Int | .mk _ p _ _ _ _ _ => p
def Ex.n : Ex → ByteArray | .mk _ _ n _ _ _ _ => n
def Ex.m : Ex → Int | .mk _ _ _ m _ _ _ => m
def Ex.t : Ex → Ty | .mk _ _ _ _ t _ _ => t
def Ex.kids : Ex → List Ex | .mk _ _ _ _ _ l _ => l
def Ex.arms : Ex → List (AH × Ex) | .mk _ _ _ _ _ _ l => l
def zTy : Ty := .mk 0 ⟨#[]⟩ 0 0 []
def zEx : Ex := .mk 0 0 ⟨#[]⟩ 0 zTy [] []
instance : Inhabited Ex := ⟨zEx⟩
theorem Ex.induct {P : Ex → Prop} (H : ∀ T : Ex, (∀ U ∈ T.kids, P U) → (∀ a ∈ T.arms, P a.2) → P T) (T : Ex) : P T :=
  H T (fun U _ => Ex.induct H U) (fun a _ => Ex.induct H a.2)
termination_by SizeOf.sizeOf T
decreasing_by
  · rename_i h
    cases T with
    | mk k p n m t kids arms =>
      have := List.sizeOf_lt_of_mem h
      simp only [Ex.kids] at this
      simp only [Ex.mk.sizeOf_spec]
      omega
  · rename_i h
    cases T with
    | mk k p n m t kids arms =>
      have := List.sizeOf_lt_of_mem h
      simp only [Ex.arms] at this
      obtain ⟨a1, a2⟩ := a
      simp only [Prod.mk.sizeOf_spec] at this
      simp only [Ex.mk.sizeOf_spec]
      omega

/-- Cells one behind the other, from an offset of an address on. -/
def AtC (w : World) (ad : Addr) (o : Nat) (c : List Value) : Prop := ∀ (m : Nat) (u : Value), c[m]? = some u → w.cell? (ad.add (o + m)) = some u
theorem AtC.kept {w w' : World} {ad : Addr} {o : Nat} {c : List Value} (h : AtC w ad o c) (hw : ad.block < w.heap.size → w'.heap[ad.block]? = w.heap[ad.block]?) : AtC w' ad o c := fun m u hu => by
  have hlt := World.block_lt_of_cell? _ _ (h m u hu)
  rw [add_block] at hlt
  rw [World.cell?_of_block (w := w) (by rw [add_block]; exact hw hlt)]
  exact h m u hu
theorem AtC.lt {w : World} {ad : Addr} {o : Nat} {c : List Value} (h : AtC w ad o c) (hc : 0 < c.length) : ad.block < w.heap.size := by
  have := World.block_lt_of_cell? _ _ (h 0 _ (List.getElem?_eq_getElem hc))
  rwa [add_block] at this

/-- The cells stand for the expression; all blocks that they lead to are of S. -/
inductive RepE (w : World) (S : Nat → Prop) : Ex → List Value → Prop
  | mk (k p : Int) (n : ByteArray) (m : Int) (t : Ty) (kids : List Ex) (arms : List (AH × Ex)) (ka aa : Option Addr) (kc ac : Nat) (tc : List Value) (f g : Nat → List Value) (vv : Nat → Value)
      (hn : n.size ≤ maxLen) (ht : Rep w S t (.agg tc.toArray)) (hkc : kids.length ≤ kc ∧ kc ≤ maxLen) (hac : arms.length ≤ ac ∧ ac ≤ maxLen)
      (hk : ∀ j T, kids[j]? = some T → ∃ ad, ka = some ad ∧ S ad.block ∧ AtC w ad (j * 11) (f j)) (hkr : ∀ j T, kids[j]? = some T → RepE w S T (f j))
      (ha : ∀ j A, arms[j]? = some A → ∃ ad, aa = some ad ∧ S ad.block ∧ AtC w ad (j * 14) (.int .i64 A.1.pos :: .string A.1.con :: vv j :: g j) ∧ SlG StrE w S A.1.vars (vv j))
      (har : ∀ j A, arms[j]? = some A → RepE w S A.2 (g j)) :
      RepE w S (.mk k p n m t kids arms) (.int .i64 k :: .int .i64 p :: .string n :: .int .i64 m :: .slice ka kids.length kc :: .slice aa arms.length ac :: tc)
theorem RepE.len {w : World} {S : Nat → Prop} {T : Ex} {c : List Value} (h : RepE w S T c) : c.length = 11 ∧ ∀ u ∈ c, u.oneCell' = true := by
  cases h with
  | mk k p n m t kids arms ka aa kc ac tc f g vv hn ht hkc hac hk hkr ha har =>
    obtain ⟨h1, h2⟩ := Rep.cells ht
    refine ⟨by simp [h1], fun u hu => ?_⟩
    simp at hu
    rcases hu with h | h | h | h | h | h | h
    all_goals first | (subst h; rfl) | exact h2 u h
theorem RepE.kept {w w' : World} {S S' : Nat → Prop} (hS : ∀ b, S b → S' b) (hw : ∀ b, S b → b < w.heap.size → w'.heap[b]? = w.heap[b]?) {T : Ex} {c : List Value} (h : RepE w S T c) : RepE w' S' T c := by
  induction h with
  | mk k p n m t kids arms ka aa kc ac tc f g vv hn ht hkc hac hk hkr ha har ih1 ih2 =>
    refine .mk k p n m t kids arms ka aa kc ac tc f g vv hn (ht.kept hS hw) hkc hac (fun j T hj => ?_) ih1 (fun j A hj => ?_) ih2
    · obtain ⟨ad, h1, h2, h3⟩ := hk j T hj
      exact ⟨ad, h1, hS _ h2, h3.kept (hw _ h2)⟩
    · obtain ⟨ad, h1, h2, h3, h4⟩ := ha j A hj
      exact ⟨ad, h1, hS _ h2, h3.kept (hw _ h2), h4.kept hS hw⟩
theorem RepE.bound {w : World} {S : Nat → Prop} {T : Ex} {c : List Value} (h : RepE w S T c) : RepE w (fun b => S b ∧ b < w.heap.size) T c := by
  induction h with
  | mk k p n m t kids arms ka aa kc ac tc f g vv hn ht hkc hac hk hkr ha har ih1 ih2 =>
    refine .mk k p n m t kids arms ka aa kc ac tc f g vv hn ht.bound hkc hac (fun j T hj => ?_) ih1 (fun j A hj => ?_) ih2
    · obtain ⟨ad, h1, h2, h3⟩ := hk j T hj
      exact ⟨ad, h1, ⟨h2, h3.lt (by rw [(RepE.len (hkr j T hj)).1]; omega)⟩, h3⟩
    · obtain ⟨ad, h1, h2, h3, h4⟩ := ha j A hj
      exact ⟨ad, h1, ⟨h2, h3.lt (by simp)⟩, h3, h4.bound⟩
theorem RepE.lift {w w' : World} {S : Nat → Prop} {T : Ex} {c : List Value} (h : RepE w S T c) (hb : Below w.heap.size w w') : RepE w' S T c := h.kept (fun _ h => h) (fun b _ hl => hb.block b hl)
theorem RepE.imp {w : World} {S S' : Nat → Prop} (hS : ∀ b, S b → S' b) {T : Ex} {c : List Value} (h : RepE w S T c) : RepE w S' T c := h.kept hS fun _ _ _ => rfl

theorem elInfo_ex : (Try.prog.info? 36).map (fun i => (i.zero, i.size, i.bytes)) = some (some (.agg #[.int .i64 0, .int .i64 0, .string ByteArray.empty, .int .i64 0, .slice none 0 0, .slice none 0 0, .int .i64 0, .string ByteArray.empty, .int .i64 0, .int .i64 0, .slice none 0 0]), 11, 152) := by kernel_rfl
theorem elInfo_am : (Try.prog.info? 55).map (fun i => (i.zero, i.size, i.bytes)) = some (some (.agg #[.int .i64 0, .string ByteArray.empty, .slice none 0 0, .int .i64 0, .int .i64 0, .string ByteArray.empty, .int .i64 0, .slice none 0 0, .slice none 0 0, .int .i64 0, .string ByteArray.empty, .int .i64 0, .int .i64 0, .slice none 0 0]), 14, 200) := by kernel_rfl
/-- Expressions as elements. -/
def ExE : El Ex where
  k := 11
  by_ := 152
  e := 36
  t := 30
  rep := RepE
  hk := by decide
  und := Try.underlying30
  info := by obtain ⟨i, h0, h1, h2, h3⟩ := info_parts elInfo_ex; exact ⟨i, _, h0, h1, h2, h3, rfl⟩
  hby := by decide
  len h := h.len
  kept h1 h2 h := h.kept h1 h2
  bound h := h.bound
/-- Arms as elements. -/
def AmE : El (AH × Ex) where
  k := 14
  by_ := 200
  e := 55
  t := 31
  rep w S x c := ∃ vv cb, c = .int .i64 x.1.pos :: .string x.1.con :: vv :: cb ∧ SlG StrE w S x.1.vars vv ∧ RepE w S x.2 cb
  hk := by decide
  und := Try.underlying31
  info := by obtain ⟨i, h0, h1, h2, h3⟩ := info_parts elInfo_am; exact ⟨i, _, h0, h1, h2, h3, rfl⟩
  hby := by decide
  len h := by
    obtain ⟨vv, cb, rfl, h1, h2⟩ := h
    obtain ⟨a, c, rfl, -⟩ := h1.slice
    obtain ⟨h3, h4⟩ := h2.len
    refine ⟨by simp [h3], fun u hu => ?_⟩
    simp at hu
    rcases hu with h | h | h | h
    all_goals first | (subst h; rfl) | exact h4 u h
  kept h1 h2 h := by
    obtain ⟨vv, cb, e, hf, hr⟩ := h
    exact ⟨vv, cb, e, hf.kept h1 h2, hr.kept h1 h2⟩
  bound h := by
    obtain ⟨vv, cb, e, hf, hr⟩ := h
    exact ⟨vv, cb, e, hf.bound, hr.bound⟩
theorem RepE.open {w : World} {S : Nat → Prop} {T : Ex} {c : List Value} (h : RepE w S T c) :
    ∃ kv av tc, c = .int .i64 T.k :: .int .i64 T.p :: .string T.n :: .int .i64 T.m :: kv :: av :: tc ∧ T.n.size ≤ maxLen ∧ SlG ExE w S T.kids kv ∧ SlG AmE w S T.arms av ∧ Rep w S T.t (.agg tc.toArray) := by
  cases h with
  | mk k p n m t kids arms ka aa kc ac tc f g vv hn ht hkc hac hk hkr ha har =>
    refine ⟨_, _, tc, rfl, hn, ⟨ka, kc, rfl, hkc, fun j T hj => ?_⟩, ⟨aa, ac, rfl, hac, fun j A hj => ?_⟩, ht⟩
    · obtain ⟨ad, h1, h2, h3⟩ := hk j T hj
      exact ⟨ad, f j, h1, h2, h3, hkr j T hj⟩
    · obtain ⟨ad, h1, h2, h3, h4⟩ := ha j A hj
      exact ⟨ad, _, h1, h2, h3, vv j, g j, rfl, h4, har j A hj⟩
theorem RepE.close {w : World} {S : Nat → Prop} {k p : Int} {n : ByteArray} {m : Int} {t : Ty} {kids : List Ex} {arms : List (AH × Ex)} {kv av : Value} {tc : List Value} (hn : n.size ≤ maxLen)
    (h1 : SlG ExE w S kids kv) (h2 : SlG AmE w S arms av) (h3 : Rep w S t (.agg tc.toArray)) : RepE w S (.mk k p n m t kids arms) (.int .i64 k :: .int .i64 p :: .string n :: .int .i64 m :: kv :: av :: tc) := by
  obtain ⟨ka, kc, rfl, hkc, hk⟩ := h1
  obtain ⟨aa, ac, rfl, hac, ha⟩ := h2
  have hx : ∀ j, ∃ c : List Value, ∀ T, kids[j]? = some T → ∃ ad, ka = some ad ∧ S ad.block ∧ AtC w ad (j * 11) c ∧ RepE w S T c := by
    intro j
    cases hT : kids[j]? with
    | none => exact ⟨[], fun T h => by cases h⟩
    | some T0 =>
      obtain ⟨ad, c, h1, h2, h3, h4⟩ := hk j T0 hT
      exact ⟨c, fun T h => by cases h; exact ⟨ad, h1, h2, h3, h4⟩⟩
  have hy : ∀ j, ∃ (vv : Value) (c : List Value), ∀ A, arms[j]? = some A → ∃ ad, aa = some ad ∧ S ad.block ∧ AtC w ad (j * 14) (.int .i64 A.1.pos :: .string A.1.con :: vv :: c) ∧ SlG StrE w S A.1.vars vv ∧ RepE w S A.2 c := by
    intro j
    cases hA : arms[j]? with
    | none => exact ⟨.nilIface, [], fun A h => by cases h⟩
    | some A0 =>
      obtain ⟨ad, c, h1, h2, h3, vv, cb, rfl, h5, h6⟩ := ha j A0 hA
      exact ⟨vv, cb, fun A h => by cases h; exact ⟨ad, h1, h2, h3, h5, h6⟩⟩
  have hf := fun j => Classical.choose_spec (hx j)
  have hg := fun j => Classical.choose_spec (Classical.choose_spec (hy j))
  refine .mk k p n m t kids arms ka aa kc ac tc (fun j => Classical.choose (hx j)) (fun j => Classical.choose (Classical.choose_spec (hy j))) (fun j => Classical.choose (hy j)) hn h3 hkc hac (fun j T hT => ?_) (fun j T hT => ?_) (fun j A hA => ?_) (fun j A hA => ?_)
  · obtain ⟨ad, h1, h2, h3, _⟩ := hf j T hT
    exact ⟨ad, h1, h2, h3⟩
  · obtain ⟨_, _, _, _, h⟩ := hf j T hT
    exact h
  · obtain ⟨ad, h1, h2, h3, h4, _⟩ := hg j A hA
    exact ⟨ad, h1, h2, h3, h4⟩
  · obtain ⟨_, _, _, _, _, h⟩ := hg j A hA
    exact h
/-- The eleven cells, written out. -/
theorem RepE.form {w : World} {S : Nat → Prop} {T : Ex} {c : List Value} (h : RepE w S T c) :
    ∃ ka kc aa ac tk tn ti th ta tl tcap, c = [.int .i64 T.k, .int .i64 T.p, .string T.n, .int .i64 T.m, .slice ka T.kids.length kc, .slice aa T.arms.length ac, .int .i64 tk, .string tn, .int .i64 ti, .int .i64 th, .slice ta tl tcap] := by
  obtain ⟨kv, av, tc, rfl, -, h1, h2, h3⟩ := h.open
  obtain ⟨ka, kc, rfl, -⟩ := h1.slice
  obtain ⟨aa, ac, rfl, -⟩ := h2.slice
  obtain ⟨k, n, i, hm, s, -, hv, -, a, cap, rfl, -⟩ := h3.open
  have : tc = [.int .i64 k, .string n, .int .i64 i, .int .i64 hm, .slice a T.t.ts.length cap] := by simpa using hv
  subst this
  exact ⟨_, _, _, _, _, _, _, _, _, _, _, rfl⟩

/-! A struct in a block of its own. -/
/-- Block B is a struct with these cells. -/
def BoxC (t : TypeId) (w : World) (B : Nat) (c : List Value) : Prop := w.heap[B]? = some (.cells c.toArray t (0, 0))
theorem BoxC.kept {t : TypeId} {w w' : World} {B : Nat} {c : List Value} (h : BoxC t w B c) (hb : w'.heap[B]? = w.heap[B]?) : BoxC t w' B c := by unfold BoxC at *; rw [hb, h]
theorem BoxC.lt {t : TypeId} {w : World} {B : Nat} {c : List Value} (h : BoxC t w B c) : B < w.heap.size := (Array.getElem?_eq_some_iff.1 h).1
theorem BoxC.lift {t : TypeId} {w w' : World} {B : Nat} {c : List Value} (h : BoxC t w B c) (hb : Below w.heap.size w w') : BoxC t w' B c := h.kept (hb.block _ h.lt)
theorem BoxC.grown {t : TypeId} {w w' : World} {B : Nat} {c : List Value} {row : Option Nat} (h : BoxC t w B c) (hg : w.grownBy w' row) (hne : some B ≠ row) : BoxC t w' B c := h.kept (hg.block _ h.lt hne)
theorem BoxC.made (t : TypeId) (w : World) (c : List Value) : BoxC t (w.alloc (.cells c.toArray t)) w.heap.size c := heap_alloc_new w _
theorem BoxC.cell {t : TypeId} {w : World} {B : Nat} {c : List Value} (h : BoxC t w B c) (m : Nat) (u : Value) (hu : c[m]? = some u) : w.cell? ⟨B, m, none⟩ = some u := by
  unfold BoxC at h
  simp [World.cell?, h, hu]
theorem BoxC.free {t : TypeId} {w : World} {B : Nat} {c : List Value} (h : BoxC t w B c) (m : Nat) : w.frozen? ⟨B, m, none⟩ = false := by
  unfold BoxC at h
  simp [World.frozen?, h]
theorem BoxC.set {t : TypeId} {w : World} {B : Nat} {c : List Value} (h : BoxC t w B c) (m : Nat) (v : Value) :
    BoxC t (w.setCell ⟨B, m, none⟩ v) B (c.set m v) ∧ w.grownBy (w.setCell ⟨B, m, none⟩ v) (some B) ∧ (w.setCell ⟨B, m, none⟩ v).heap.size = w.heap.size := by
  obtain ⟨h1, h2⟩ := set1 h m v
  refine ⟨?_, h2⟩
  unfold BoxC
  rw [h1]
  simp
theorem BoxC.row {t : TypeId} {w : World} {B : Nat} {c : List Value} (h : BoxC t w B c) (c' : List Value) :
    BoxC t (w.setRow B c'.toArray) B c' ∧ w.grownBy (w.setRow B c'.toArray) (some B) ∧ (w.setRow B c'.toArray).heap.size = w.heap.size := by
  refine ⟨?_, ⟨rfl, rfl, rfl, by simp [World.setRow], fun k _ hk => ?_⟩, by simp [World.setRow]⟩
  · unfold BoxC at *
    simp [World.setRow, Array.getElem?_modify, h]
  · have hne : ¬ B = k := fun e => hk (by rw [e])
    simp [World.setRow, Array.getElem?_modify, hne]
/-- A whole struct is stored into its block. -/
theorem wpList_storeC {t : TypeId} {w : World} {ops : Array Oper} {rest : List Oper} {o : Oper} {a : Act} {Q : Exit → Act → World → Prop} (hgd : o.guard = none) (p x : Operand) (ho : o.op = Op.store t p x)
    (B : Nat) (c c' : List Value) (hB : BoxC t w B c) (hp : a.eval p = .pointer (some ⟨B, 0, none⟩)) (hx : a.eval x = .agg c'.toArray) (hi : (Try.prog.info? t).map (·.size) = some c'.length) (hl : c.length = c'.length) (h1 : ∀ u ∈ c', u.oneCell' = true)
    (hK : ∀ w', BoxC t w' B c' → w.grownBy w' (some B) → w'.heap.size = w.heap.size → wpList Try.prog ops Q rest (a.put o.dst undef) w') :
    wpList Try.prog ops Q (o :: rest) a w := by
  refine wpList_store_row hgd t p x ho B c'.toArray hp hx t c.toArray hB (by simpa using hi) (by simpa using hl) (Array.all_eq_true_iff_forall_mem.2 fun v hv => h1 v (by simpa using hv)) ?_
  obtain ⟨h1, h2, h3⟩ := hB.row c'
  exact hK _ h1 h2 h3
theorem sizeEx : (Try.prog.info? 36).map (·.size) = some 11 := by
  obtain ⟨i, h0, h1, h2, h3⟩ := info_parts elInfo_ex
  rw [h0]; simp [h2]
def zExC : List Value := [.int .i64 0, .int .i64 0, .string ⟨#[]⟩, .int .i64 0, .slice none 0 0, .slice none 0 0, .int .i64 0, .string ⟨#[]⟩, .int .i64 0, .int .i64 0, .slice none 0 0]
def zTyC : List Value := [.int .i64 0, .string ⟨#[]⟩, .int .i64 0, .int .i64 0, .slice none 0 0]
theorem rep_zTy (w : World) (S : Nat → Prop) : Rep w S zTy (.agg zTyC.toArray) := rep_leaf w S 0 ⟨#[]⟩ 0 0 (Nat.zero_le _)
theorem repE_leaf (w : World) (S : Nat → Prop) (k p : Int) (n : ByteArray) (m : Int) (hn : n.size ≤ maxLen) : RepE w S (.mk k p n m zTy [] []) [.int .i64 k, .int .i64 p, .string n, .int .i64 m, .slice none 0 0, .slice none 0 0, .int .i64 0, .string ⟨#[]⟩, .int .i64 0, .int .i64 0, .slice none 0 0] :=
  RepE.close hn (slG_nil ExE w S) (slG_nil AmE w S) (rep_zTy w S)
theorem repE_zero (w : World) (S : Nat → Prop) : RepE w S zEx zExC := repE_leaf w S 0 0 ⟨#[]⟩ 0 (Nat.zero_le _)
end Go.Proofs.Ytljgpgmaceackaa

/- The place of a name in a list: the library's Index and Contains, the reference's index. -/
namespace Go.Proofs.Ytljgpgmaceackaa
open Go.RowKit Go.Maps Mth

def ixF (s : ByteArray) : List ByteArray → Nat → Int
  | [], _ => -1
  | t :: l, j => if t.toList == s.toList then (j : Int) else ixF s l (j + 1)
/-- The first place of a name. -/
def ix (l : List ByteArray) (s : ByteArray) : Int := ixF s l 0
theorem ixF_step {s t : ByteArray} {l : List ByteArray} {j : Nat} (h : l[j]? = some t) : ixF s (l.drop j) j = if t.toList == s.toList then (j : Int) else ixF s (l.drop (j + 1)) (j + 1) := by
  obtain ⟨hl, e⟩ := List.getElem?_eq_some_iff.1 h
  rw [List.drop_eq_getElem_cons hl, e]
  rfl
theorem str_at {w : World} {S : Nat → Prop} {ns : List ByteArray} {a : Option Addr} {n c : Nat} (h : SlG StrE w S ns (.slice a n c)) : ∀ (j : Nat) (x : ByteArray), ns[j]? = some x → ∃ ad, a = some ad ∧ w.cell? (ad.add j) = some (.string x) := by
  obtain ⟨a', c', e, -, hj⟩ := h
  cases e
  intro j x hx
  obtain ⟨ad, cs, h1, -, h3, h4⟩ := hj j x hx
  have h4' : cs = [.string x] := h4
  subst h4'
  exact ⟨ad, h1, by have := h3 0 (.string x) rfl; simpa [StrE] using this⟩
theorem beq_flip (s t : ByteArray) (q : Bool) (h : (t.toList == s.toList) = q) : (s.toList == t.toList) = q := by rw [← h, Bool.eq_iff_iff]; simp; exact ⟨fun h => h.symm, fun h => h.symm⟩
theorem slice_form {α : Type} {E : El α} {w : World} {S : Nat → Prop} {xs : List α} {v : Value} (h : SlG E w S xs v) : ∃ a c, v = .slice a xs.length c ∧ xs.length ≤ maxLen := by
  obtain ⟨a, c, rfl, ⟨h1, h2⟩, -⟩ := h
  exact ⟨a, c, rfl, by omega⟩
set_option maxHeartbeats 1600000 in
theorem index_any (ns : List ByteArray) (s : ByteArray) (v : Value) (S : Nat → Prop) (w : World) (h : SlG StrE w S ns v) :
    Calls Try.prog 77 #[v, .string s] w fun e w' => e = .returned (.int .i64 (ix ns s)) ∧ w = w' := by
  obtain ⟨a, c, rfl, hle⟩ := slice_form h
  have HJ := Lib.hid (str_at h)
  clear h
  unfold maxLen at hle
  obtain ⟨m, hm⟩ : ∃ m, m = ns.length := ⟨_, rfl⟩
  rw [← hm] at hle ⊢
  have HM := Lib.hid hm
  clear hm
  have HE : Hid (ix ns s = ixF s (ns.drop 0) 0) := rfl
  go_enter Try.func77, Try.ntmps77
  go_wp2
  go_loop [8] (fun i => ∃ j : Nat, j ≤ m ∧ i = .int .i64 j ∧ Hid (ix ns s = ixF s (ns.drop j) j)) (fun i => m - (intOf i).toNat)
  case atStart => exact ⟨0, Nat.zero_le _, rfl, HE⟩
  case round =>
    obtain ⟨j, hj, rfl, HT⟩ := hrel
    by_cases hlt : j < m
    · obtain ⟨t, ht⟩ : ∃ x, ns[j]? = some x := ⟨_, List.getElem?_eq_getElem (by rw [← HM.out]; exact hlt)⟩
      obtain ⟨ad, rfl, hc⟩ := HJ.out j t ht
      have HS := Lib.hid (ixF_step (s := s) ht)
      have hji : (j : Int) < (m : Int) := by omega
      clear ht
      cases hq : (t.toList == s.toList) with
      | true =>
        have HR : Hid (ix ns s = (j : Int)) := by show _ = _; rw [HT.out, HS.out, hq]; rfl
        have hq' := beq_flip s t _ hq
        clear hq
        go_wp2
        go_ret
        exact ⟨by rw [HR.out]; rfl, rfl⟩
      | false =>
        have HR : Hid (ix ns s = ixF s (ns.drop (j + 1)) (j + 1)) := by show _ = _; rw [HT.out, HS.out, hq]; rfl
        have hq' := beq_flip s t _ hq
        clear hq
        go_wp2
        go_round
        case rel => exact ⟨j + 1, hlt, by go_num, HR⟩
        case measure => simp [intOf]; omega
    · have HR : Hid (ix ns s = -1) := by
        show _ = _
        rw [HT.out, List.drop_eq_nil_of_le (by rw [← HM.out]; omega)]; rfl
      go_wp2
      go_ret
      exact ⟨by rw [HR.out]; rfl, rfl⟩
theorem contains_any (ns : List ByteArray) (s : ByteArray) (v : Value) (S : Nat → Prop) (w : World) (h : SlG StrE w S ns v) :
    Calls Try.prog 56 #[v, .string s] w fun e w' => e = .returned (.bool (decide (0 ≤ ix ns s))) ∧ w = w' := by
  have HC := Lib.hid (index_any ns s v S w h)
  clear h
  generalize ix ns s = q at *
  go_enter Try.func56, Try.ntmps56
  go_wp2_with (go_at_call 77; refine HC.out.mono ?_; rintro e w1 ⟨rfl, rfl⟩)
  go_ret
  exact ⟨rfl, rfl⟩
set_option maxHeartbeats 1600000 in
theorem refIndex_any (ns : List ByteArray) (s : ByteArray) (v : Value) (S : Nat → Prop) (w : World) (h : SlG StrE w S ns v) :
    Calls Try.prog 42 #[v, .string s] w fun e w' => e = .returned (.int .i64 (ix ns s)) ∧ w = w' := by
  obtain ⟨a, c, rfl, hle⟩ := slice_form h
  have HJ := Lib.hid (str_at h)
  clear h
  unfold maxLen at hle
  obtain ⟨m, hm⟩ : ∃ m, m = ns.length := ⟨_, rfl⟩
  rw [← hm] at hle ⊢
  have HM := Lib.hid hm
  clear hm
  have HE : Hid (ix ns s = ixF s (ns.drop 0) 0) := rfl
  go_enter Try.func42, Try.ntmps42
  go_wp2
  go_loop [5] (fun i => ∃ j : Nat, j ≤ m ∧ i = .int .i64 j ∧ Hid (ix ns s = ixF s (ns.drop j) j)) (fun i => m - (intOf i).toNat)
  case atStart => exact ⟨0, Nat.zero_le _, rfl, HE⟩
  case round =>
    obtain ⟨j, hj, rfl, HT⟩ := hrel
    by_cases hlt : j < m
    · obtain ⟨t, ht⟩ : ∃ x, ns[j]? = some x := ⟨_, List.getElem?_eq_getElem (by rw [← HM.out]; exact hlt)⟩
      obtain ⟨ad, rfl, hc⟩ := HJ.out j t ht
      have HS := Lib.hid (ixF_step (s := s) ht)
      have hji : (j : Int) < (m : Int) := by omega
      clear ht
      cases hq : (t.toList == s.toList) with
      | true =>
        have HR : Hid (ix ns s = (j : Int)) := by show _ = _; rw [HT.out, HS.out, hq]; rfl
        go_wp2
        go_ret
        exact ⟨by rw [HR.out]; rfl, rfl⟩
      | false =>
        have HR : Hid (ix ns s = ixF s (ns.drop (j + 1)) (j + 1)) := by show _ = _; rw [HT.out, HS.out, hq]; rfl
        go_wp2
        go_round
        case rel => exact ⟨j + 1, hlt, by go_num, HR⟩
        case measure => simp [intOf]; omega
    · have HR : Hid (ix ns s = -1) := by
        show _ = _
        rw [HT.out, List.drop_eq_nil_of_le (by rw [← HM.out]; omega)]; rfl
      go_wp2
      go_ret
      exact ⟨by rw [HR.out]; rfl, rfl⟩
end Go.Proofs.Ytljgpgmaceackaa

/- Valid types: what is of no function. -/
namespace Go.Proofs.Ytljgpgmaceackaa.S3
open Go.RowKit Go.Maps Mth

def conOk (n : ByteArray) (c : Nat) : Bool := if n.toList == [45, 62] then c == 2 else if n.toList == [73, 110, 116] then c == 0 else isUp (bl n) && decide (c ≤ 4)
def idOk (i : Int) : Bool := decide (0 ≤ i) && decide (i ≤ 1000000)
def homeOk (i : Int) : Bool := decide (-1 ≤ i) && decide (i ≤ 1000000)
mutual
def valid : Ty → Bool
  | .mk k n i h ts =>
    if k = 1 ∨ k = 2 then idOk i && n.toList == [] && h == 0 && decide (ts.length = 0)
    else if k = 3 then idOk i && homeOk h && n.toList == [] && decide (ts.length = 0)
    else if k = 4 then i == 0 && h == 0 && conOk n ts.length && validL ts
    else if k = 5 then isLo (bl n) && i == 0 && h == 0 && decide (ts.length = 0)
    else false
def validL : List Ty → Bool
  | [] => true
  | t :: l => valid t && validL l
end
theorem validL_any : ∀ l : List Ty, validL l = !l.any fun T => !valid T := by
  intro l
  induction l with
  | nil => rfl
  | cons t l ih => simp [validL, ih]
theorem validL_mem {l : List Ty} (h : validL l = true) {T : Ty} (hT : T ∈ l) : valid T = true := by
  rw [validL_any] at h
  simp at h
  exact h T hT
theorem Ty.induct {p : Ty → Prop} (h : ∀ T, (∀ U ∈ T.ts, p U) → p T) : ∀ T, p T := by
  have : ∀ (m : Nat) (T : Ty), nodes T ≤ m → p T := by
    intro m
    induction m with
    | zero => intro T h; have := nodes_pos T; omega
    | succ m ih =>
      intro T hm
      refine h T fun U hU => ih U ?_
      have := nodesL_mem hU
      cases T
      simp only [nodes, Ty.ts] at *
      omega
  exact fun T => this _ T (Nat.le_refl _)

theorem box_cell {w wr : World} {X : Array Value} {Z : TypeId} (hb : Below (w.heap.size + 1) (w.alloc (.cells X Z)) wr) (m : Nat) (v : Value) (h : (w.alloc (.cells X Z)).cell? ⟨w.heap.size, m, none⟩ = some v) : wr.cell? ⟨w.heap.size, m, none⟩ = some v :=
  (hb.cell (p := ⟨w.heap.size, m, none⟩) (Nat.lt_succ_self _)).trans h
theorem box_below {w wr : World} {X : Array Value} {Z : TypeId} (hb : Below (w.heap.size + 1) (w.alloc (.cells X Z)) wr) : Below w.heap.size w wr :=
  ((Below.refl _ w).alloc (Nat.le_refl _) _).trans (hb.mono (Nat.le_succ _))

end Go.Proofs.Ytljgpgmaceackaa.S3
