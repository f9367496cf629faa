import Derived.Test.YthphnacfidofbaaGreatDoorRfMa
import Derived.Maps.AppendAt
import Derived.OwnWalk
import Derived.Handy
import Derived.LoopTactic
/- Types as trees, and what it means that a value stands for a tree. -/
namespace Go.Proofs.YthphnacfidofbaaGreatDoor
open Go.RowKit Mth

/-- A type: its kind, its name, its id, its home, its arguments. -/
inductive Ty where
  | mk (k : Int) (n : ByteArray) (i h : Int) (ts : List Ty)
instance : Inhabited Ty := ⟨.mk 0 ⟨#[]⟩ 0 0 []⟩
def Ty.k : Ty → Int | .mk k _ _ _ _ => k
def Ty.n : Ty → ByteArray | .mk _ n _ _ _ => n
def Ty.i : Ty → Int | .mk _ _ i _ _ => i
def Ty.h : Ty → Int | .mk _ _ _ h _ => h
def Ty.ts : Ty → List Ty | .mk _ _ _ _ ts => ts

mutual
def nodes : Ty → Nat
  | .mk _ _ _ _ ts => nodesL ts + 1
def nodesL : List Ty → Nat
  | [] => 0
  | t :: ts => nodes t + nodesL ts
end
theorem nodes_pos (t : Ty) : 1 ≤ nodes t := by cases t; simp [nodes]
theorem nodesL_mem : ∀ {l : List Ty} {t : Ty}, t ∈ l → nodes t ≤ nodesL l := by
  intro l
  induction l with
  | nil => intro t h; simp at h
  | cons x l ih =>
    intro t h
    rcases List.mem_cons.1 h with rfl | h
    · simp [nodesL]
    · have := ih h
      simp [nodesL]; omega

/-- Five cells that hold a struct. -/
def Five (w : World) (a : Addr) (j : Nat) (v : Value) : Prop :=
  ∃ c0 c1 c2 c3 c4, v = .agg #[c0, c1, c2, c3, c4] ∧ w.cell? (a.add (j * 5)) = some c0 ∧ w.cell? ⟨(a.add (j * 5)).block, (a.add (j * 5)).off + 1, none⟩ = some c1 ∧ w.cell? ⟨(a.add (j * 5)).block, (a.add (j * 5)).off + 2, none⟩ = some c2 ∧
    w.cell? ⟨(a.add (j * 5)).block, (a.add (j * 5)).off + 3, none⟩ = some c3 ∧ w.cell? ⟨(a.add (j * 5)).block, (a.add (j * 5)).off + 4, none⟩ = some c4
theorem add_block (a : Addr) (n : Nat) : (a.add n).block = a.block := by unfold Addr.add; split <;> rfl
theorem Five.kept {w w' : World} {a : Addr} {j : Nat} {v : Value} (h : Five w a j v) (hb : w'.heap[a.block]? = w.heap[a.block]?) : Five w' a j v := by
  obtain ⟨c0, c1, c2, c3, c4, hv, h0, h1, h2, h3, h4⟩ := h
  have e : w'.cell? (a.add (j * 5)) = w.cell? (a.add (j * 5)) := World.cell?_of_block (by rw [add_block]; exact hb)
  have e' : ∀ n, w'.cell? ⟨(a.add (j * 5)).block, n, none⟩ = w.cell? ⟨(a.add (j * 5)).block, n, none⟩ := fun n => World.cell?_of_block (by show w'.heap[(a.add (j * 5)).block]? = _; rw [add_block]; exact hb)
  exact ⟨c0, c1, c2, c3, c4, hv, by rw [e, h0], by rw [e', h1], by rw [e', h2], by rw [e', h3], by rw [e', h4]⟩
theorem Five.lt {w : World} {a : Addr} {j : Nat} {v : Value} (h : Five w a j v) : a.block < w.heap.size := by
  obtain ⟨c0, c1, c2, c3, c4, _, h0, _⟩ := h
  have := World.block_lt_of_cell? _ _ h0
  rwa [add_block] at this

/-- The value stands for the type; all blocks that it leads to are of S. -/
inductive Rep (w : World) (S : Nat → Prop) : Ty → Value → Prop
  | mk (k : Int) (n : ByteArray) (i h : Int) (ts : List Ty) (a : Option Addr) (cap : Nat) (f : Nat → Value) (hn : n.size ≤ maxLen) (hcap : ts.length ≤ cap ∧ cap ≤ maxLen)
      (hc : ∀ j T, ts[j]? = some T → ∃ ad, a = some ad ∧ S ad.block ∧ Five w ad j (f j)) (hr : ∀ j T, ts[j]? = some T → Rep w S T (f j)) :
      Rep w S (.mk k n i h ts) (.agg #[.int .i64 k, .string n, .int .i64 i, .int .i64 h, .slice a ts.length cap])
/-- The slice stands for the list of types. -/
def RepL (w : World) (S : Nat → Prop) (ts : List Ty) (v : Value) : Prop :=
  ∃ a cap, v = .slice a ts.length cap ∧ (ts.length ≤ cap ∧ cap ≤ maxLen) ∧ ∀ j T, ts[j]? = some T → ∃ ad x, a = some ad ∧ S ad.block ∧ Five w ad j x ∧ Rep w S T x
theorem repL_nil (w : World) (S : Nat → Prop) : RepL w S [] (.slice none 0 0) := ⟨none, 0, rfl, ⟨Nat.le_refl _, by simp⟩, fun j T h => by simp at h⟩
theorem Rep.open {w : World} {S : Nat → Prop} {T : Ty} {v : Value} (h : Rep w S T v) :
    ∃ k n i h s, T = .mk k n i h T.ts ∧ v = .agg #[.int .i64 k, .string n, .int .i64 i, .int .i64 h, s] ∧ n.size ≤ maxLen ∧ RepL w S T.ts s := by
  cases h with
  | mk k n i h ts a cap f hn hcap hc hr =>
    refine ⟨k, n, i, h, _, rfl, rfl, hn, a, cap, rfl, hcap, fun j T hj => ?_⟩
    obtain ⟨ad, ha, hs, h5⟩ := hc j T hj
    exact ⟨ad, f j, ha, hs, h5, hr j T hj⟩
theorem Rep.close {w : World} {S : Nat → Prop} {k : Int} {n : ByteArray} {i h : Int} {ts : List Ty} {s : Value} (hn : n.size ≤ maxLen) (hl : RepL w S ts s) :
    Rep w S (.mk k n i h ts) (.agg #[.int .i64 k, .string n, .int .i64 i, .int .i64 h, s]) := by
  obtain ⟨a, cap, rfl, hcap, hj⟩ := hl
  have hx : ∀ j, ∃ x, ∀ T, ts[j]? = some T → ∃ ad, a = some ad ∧ S ad.block ∧ Five w ad j x ∧ Rep w S T x := by
    intro j
    cases hT : ts[j]? with
    | none => exact ⟨.slice none 0 0, fun T h => by cases h⟩
    | some T0 =>
      obtain ⟨ad, x, h1, h2, h3, h4⟩ := hj j T0 hT
      exact ⟨x, fun T h => by cases h; exact ⟨ad, h1, h2, h3, h4⟩⟩
  let f : Nat → Value := fun j => Classical.choose (hx j)
  have hf : ∀ j T, ts[j]? = some T → ∃ ad, a = some ad ∧ S ad.block ∧ Five w ad j (f j) ∧ Rep w S T (f j) := fun j => Classical.choose_spec (hx j)
  exact .mk k n i h ts a cap f hn hcap (fun j T hT => by obtain ⟨ad, h1, h2, h3, _⟩ := hf j T hT; exact ⟨ad, h1, h2, h3⟩) (fun j T hT => by obtain ⟨_, _, _, _, h4⟩ := hf j T hT; exact h4)

/-- What stays where the blocks of S stay. -/
theorem Rep.kept {w w' : World} {S S' : Nat → Prop} (hS : ∀ b, S b → S' b) (hw : ∀ b, S b → b < w.heap.size → w'.heap[b]? = w.heap[b]?) {T : Ty} {v : Value} (h : Rep w S T v) : Rep w' S' T v := by
  induction h with
  | mk k n i h ts a cap f hn hcap hc _ ih =>
    refine .mk k n i h ts a cap f hn hcap (fun j T hj => ?_) ih
    obtain ⟨ad, ha, hs, h5⟩ := hc j T hj
    exact ⟨ad, ha, hS _ hs, h5.kept (hw _ hs h5.lt)⟩
theorem RepL.kept {w w' : World} {S S' : Nat → Prop} (hS : ∀ b, S b → S' b) (hw : ∀ b, S b → b < w.heap.size → w'.heap[b]? = w.heap[b]?) {ts : List Ty} {v : Value} (h : RepL w S ts v) : RepL w' S' ts v := by
  obtain ⟨a, cap, hv, hcap, hj⟩ := h
  refine ⟨a, cap, hv, hcap, fun j T hT => ?_⟩
  obtain ⟨ad, x, h1, h2, h3, h4⟩ := hj j T hT
  exact ⟨ad, x, h1, hS _ h2, h3.kept (hw _ h2 h3.lt), h4.kept hS hw⟩
theorem Rep.lift {w w' : World} {S : Nat → Prop} {T : Ty} {v : Value} (h : Rep w S T v) (hb : Below w.heap.size w w') : Rep w' S T v := h.kept (fun _ h => h) (fun b _ hl => hb.block b hl)
theorem RepL.lift {w w' : World} {S : Nat → Prop} {ts : List Ty} {v : Value} (h : RepL w S ts v) (hb : Below w.heap.size w w') : RepL w' S ts v := h.kept (fun _ h => h) (fun b _ hl => hb.block b hl)
theorem Rep.imp {w : World} {S S' : Nat → Prop} (hS : ∀ b, S b → S' b) {T : Ty} {v : Value} (h : Rep w S T v) : Rep w S' T v := h.kept hS fun _ _ _ => rfl
theorem RepL.imp {w : World} {S S' : Nat → Prop} (hS : ∀ b, S b → S' b) {T : List Ty} {v : Value} (h : RepL w S T v) : RepL w S' T v := h.kept hS fun _ _ _ => rfl
/-- The five cells of an element, ts a walk meets them. -/
theorem five_at {w : World} {ad : Addr} {j : Nat} {k : Int} {n : ByteArray} {i h : Int} {s : Value} (h5 : Five w ad j (.agg #[.int .i64 k, .string n, .int .i64 i, .int .i64 h, s])) :
    w.cell? (ad.add (j * 5)) = some (.int .i64 k) ∧ w.cell? ⟨(ad.add (j * 5)).block, (ad.add (j * 5)).off + 1, none⟩ = some (.string n) ∧ w.cell? ⟨(ad.add (j * 5)).block, (ad.add (j * 5)).off + 2, none⟩ = some (.int .i64 i) ∧ w.cell? ⟨(ad.add (j * 5)).block, (ad.add (j * 5)).off + 3, none⟩ = some (.int .i64 h) ∧ w.cell? ⟨(ad.add (j * 5)).block, (ad.add (j * 5)).off + 4, none⟩ = some s := by
  obtain ⟨c0, c1, c2, c3, c4, hv, h⟩ := h5
  simp at hv
  obtain ⟨rfl, rfl, rfl, rfl, rfl⟩ := hv
  exact h
end Go.Proofs.YthphnacfidofbaaGreatDoor

/- Rows of types that a call owns. -/
namespace Go.Proofs.YthphnacfidofbaaGreatDoor
open Go.RowKit Mth

theorem Tryz.info30 : (Tryz.prog.info? 30).map (fun i => (i.zero, i.size, i.bytes)) = some (some (.agg #[.int .i64 0, .string ByteArray.empty, .int .i64 0, .int .i64 0, .slice none 0 0]), 5, 64) := by kernel_rfl

theorem Rep.bound {w : World} {S : Nat → Prop} {T : Ty} {v : Value} (h : Rep w S T v) : Rep w (fun b => S b ∧ b < w.heap.size) T v := by
  induction h with
  | mk k n i h ts a cap f hn hcap hc _ ih =>
    refine .mk k n i h ts a cap f hn hcap (fun j T hj => ?_) ih
    obtain ⟨ad, ha, hs, h5⟩ := hc j T hj
    exact ⟨ad, ha, ⟨hs, h5.lt⟩, h5⟩
/-- The five cells of a value that stands for a type. -/
theorem Rep.cells {w : World} {S : Nat → Prop} {T : Ty} {c : List Value} (h : Rep w S T (.agg c.toArray)) : c.length = 5 ∧ ∀ u ∈ c, u.oneCell' = true := by
  obtain ⟨k, n, i, hm, s, _, hv, _, a, cap, hs, _⟩ := h.open
  subst hs
  have : c = [.int .i64 k, .string n, .int .i64 i, .int .i64 hm, .slice a T.ts.length cap] := by simpa using hv
  subst this
  refine ⟨rfl, fun u hu => ?_⟩
  simp at hu
  rcases hu with h | h | h | h | h <;> subst h <;> rfl
theorem flatten_get : ∀ (L : List (List Value)), (∀ c ∈ L, c.length = 5) → ∀ (j m : Nat) (c : List Value) (u : Value), L[j]? = some c → c[m]? = some u → L.flatten[j * 5 + m]? = some u := by
  intro L
  induction L with
  | nil => intro _ j m c u h; simp at h
  | cons x L ih =>
    intro hL j m c u hc hu
    have hx : x.length = 5 := hL x (by simp)
    rw [List.flatten_cons]
    cases j with
    | zero =>
      simp at hc; subst hc
      have hm := (List.getElem?_eq_some_iff.1 hu).1
      rw [List.getElem?_append_left (by omega)]
      simpa using hu
    | succ j =>
      rw [List.getElem?_append_right (by omega), hx, show (j + 1) * 5 + m - 5 = j * 5 + m by omega]
      exact ih (fun c h => hL c (by simp [h])) j m c u (by simpa using hc) hu
theorem add_zero (b o n : Nat) : (⟨b, o, none⟩ : Addr).add n = ⟨b, o + n, none⟩ := by unfold Addr.add; split <;> simp_all
theorem add_add' (a : Addr) (i j : Nat) (hj : j ≠ 0) : (⟨(a.add i).block, (a.add i).off + j, none⟩ : Addr) = a.add (i + j) := by
  unfold Addr.add
  by_cases h : i = 0
  · subst h; simp [hj]
  · simp [h]; omega

/-- The call owns the row, and it holds these types. -/
def RowT (w : World) (base : Nat) (S : Nat → Prop) (v : Value) (ts : List Ty) : Prop :=
  ∃ L : List (List Value), w.ownsRow base 30 5 v ts.length L.flatten ∧ L.length = ts.length ∧ ∀ (j : Nat) (T : Ty), ts[j]? = some T → ∃ c : List Value, L[j]? = some c ∧ Rep w (fun b => S b ∧ some b ≠ v.ownBlock) T (.agg c.toArray)
theorem rowT_nil (w : World) (base : Nat) (S : Nat → Prop) : RowT w base S (.slice none 0 0) [] := ⟨[], World.ownsRow_nil _ _ _ _, rfl, fun j T h => by simp at h⟩
theorem rowT_five {w : World} {L : List (List Value)} {ts : List Ty} {S : Nat → Prop} (hl : L.length = ts.length) (h : ∀ (j : Nat) (T : Ty), ts[j]? = some T → ∃ c : List Value, L[j]? = some c ∧ Rep w S T (.agg c.toArray)) : ∀ c ∈ L, c.length = 5 ∧ ∀ u ∈ c, u.oneCell' = true := by
  intro c hc
  obtain ⟨j, hj, e⟩ := List.getElem_of_mem hc
  obtain ⟨c', hc', hr⟩ := h j (ts[j]'(by omega)) (List.getElem?_eq_getElem (by omega))
  rw [List.getElem?_eq_getElem hj, e] at hc'
  cases hc'
  exact hr.cells
theorem five_of {w : World} {ad : Addr} {j : Nat} {L : List (List Value)} (h5 : ∀ c ∈ L, c.length = 5) (hc : ∀ i u, L.flatten[i]? = some u → w.cell? (ad.add i) = some u) {c : List Value} (h : L[j]? = some c) : Five w ad j (.agg c.toArray) := by
  have hl := h5 c (List.mem_of_getElem? h)
  match c, hl with
  | [c0, c1, c2, c3, c4], _ =>
    refine ⟨c0, c1, c2, c3, c4, rfl, ?_, ?_, ?_, ?_, ?_⟩
    · exact hc _ _ (flatten_get L h5 j 0 _ _ h rfl)
    · rw [add_add' _ _ _ (by omega)]; exact hc _ _ (flatten_get L h5 j 1 _ _ h rfl)
    · rw [add_add' _ _ _ (by omega)]; exact hc _ _ (flatten_get L h5 j 2 _ _ h rfl)
    · rw [add_add' _ _ _ (by omega)]; exact hc _ _ (flatten_get L h5 j 3 _ _ h rfl)
    · rw [add_add' _ _ _ (by omega)]; exact hc _ _ (flatten_get L h5 j 4 _ _ h rfl)
theorem RowT.repL {w : World} {base : Nat} {S S' : Nat → Prop} {v : Value} {ts : List Ty} (h : RowT w base S v ts) (h1 : ∀ b, S b → S' b) (h2 : ∀ b, base ≤ b → S' b) : RepL w S' ts v := by
  obtain ⟨L, hown, hl, hr⟩ := h
  have h5 := rowT_five hl hr
  rcases hown.2 with ⟨rfl, h0⟩ | ⟨g, cap, cur, rfl, hg, hc, hn, hm, _⟩
  · have : ts = [] := List.eq_nil_of_length_eq_zero h0
    subst this
    exact repL_nil _ _
  · refine ⟨some ⟨g, 0, none⟩, cap, rfl, ⟨hn, hm⟩, fun j T hj => ?_⟩
    obtain ⟨c, hc', hrep⟩ := hr j T hj
    exact ⟨⟨g, 0, none⟩, _, rfl, h2 _ hg, five_of (fun c h => (h5 c h).1) (hown.cells (g := g) rfl) hc', hrep.imp fun b hb => h1 b hb.1⟩
theorem RowT.kept {w w' : World} {base : Nat} {S : Nat → Prop} {v : Value} {ts : List Ty} {row : Option Nat} (h : RowT w base S v ts) (hg : w.grownBy w' row) (hv : v.ownBlock = none ∨ v.ownBlock ≠ row) (hS : ∀ b, S b → some b ≠ row) : RowT w' base S v ts := by
  obtain ⟨L, hown, hl, hr⟩ := h
  refine ⟨L, hown.kept hg hv, hl, fun j T hj => ?_⟩
  obtain ⟨c, hc', hrep⟩ := hr j T hj
  exact ⟨c, hc', hrep.kept (fun _ h => h) fun b hb hlt => hg.block b hlt (hS b hb.1)⟩
theorem grown_of_below {w w' : World} (hb : Below w.heap.size w w') (row : Option Nat) : w.grownBy w' row := ⟨hb.os, hb.tape, hb.output, hb.size, fun k hk _ => hb.block k hk⟩
theorem RowT.lift {w w' : World} {base : Nat} {S : Nat → Prop} {v : Value} {ts : List Ty} (h : RowT w base S v ts) (hb : Below w.heap.size w w') : RowT w' base S v ts :=
  h.kept (grown_of_below hb none) (by cases v.ownBlock <;> simp) (fun _ _ => by simp)
theorem RowT.imp {w : World} {base base' : Nat} {S S' : Nat → Prop} {v : Value} {ts : List Ty} (h : RowT w base S v ts) (hS : ∀ b, S b → S' b) (hb : base' ≤ base) : RowT w base' S' v ts := by
  obtain ⟨L, hown, hl, hr⟩ := h
  refine ⟨L, ⟨hown.1, ?_⟩, hl, fun j T hj => ?_⟩
  · rcases hown.2 with h | ⟨g, cap, cur, hv, hg, rest⟩
    · exact .inl h
    · exact .inr ⟨g, cap, cur, hv, Nat.le_trans hb hg, rest⟩
  · obtain ⟨c, hc', hrep⟩ := hr j T hj
    exact ⟨c, hc', hrep.imp fun b hb => ⟨hS b hb.1, hb.2⟩⟩
theorem RowT.lt {w : World} {base : Nat} {S : Nat → Prop} {v : Value} {ts : List Ty} (h : RowT w base S v ts) : ∀ k, v.ownBlock = some k → base ≤ k ∧ k < w.heap.size := by
  obtain ⟨L, hown, _⟩ := h
  exact hown.lt
theorem RowT.off {w : World} {base : Nat} {S : Nat → Prop} {v : Value} {ts : List Ty} (h : RowT w base S v ts) {k : Nat} (hk : k < base) : v.ownBlock = none ∨ v.ownBlock ≠ some k := by
  cases hv : v.ownBlock with
  | none => exact .inl rfl
  | some b => have := (h.lt b hv).1; exact .inr (by intro e; cases e; omega)
theorem RowT.slice {w : World} {base : Nat} {S : Nat → Prop} {v : Value} {ts : List Ty} (h : RowT w base S v ts) : ∃ a cap, v = .slice a ts.length cap ∧ ts.length ≤ cap ∧ cap ≤ maxLen := by
  obtain ⟨L, hown, _⟩ := h
  rcases hown.2 with ⟨rfl, h0⟩ | ⟨g, cap, cur, rfl, _, _, hn, hm, _⟩
  · exact ⟨none, 0, by rw [h0], by omega, by simp⟩
  · exact ⟨_, cap, rfl, hn, hm⟩

/-- The cells of a list of types, one behind the other. -/
theorem cells_of {w : World} {S : Nat → Prop} {ts : List Ty} {ad : Addr} (h : ∀ j T, ts[j]? = some T → ∃ x, Five w ad j x ∧ Rep w S T x) :
    ∃ L : List (List Value), L.length = ts.length ∧ (∀ (j : Nat) (T : Ty), ts[j]? = some T → ∃ c : List Value, L[j]? = some c ∧ Rep w S T (.agg c.toArray)) ∧ ∀ i u, L.flatten[i]? = some u → w.cell? (ad.add i) = some u := by
  have hx : ∀ j, ∃ c : List Value, ∀ T, ts[j]? = some T → Five w ad j (.agg c.toArray) ∧ Rep w S T (.agg c.toArray) := by
    intro j
    cases hT : ts[j]? with
    | none => exact ⟨[], fun T h => by cases h⟩
    | some T0 =>
      obtain ⟨x, ⟨c0, c1, c2, c3, c4, rfl, h5⟩, hr⟩ := h j T0 hT
      exact ⟨[c0, c1, c2, c3, c4], fun T h => by cases h; exact ⟨⟨c0, c1, c2, c3, c4, rfl, h5⟩, hr⟩⟩
  let f : Nat → List Value := fun j => Classical.choose (hx j)
  have hf : ∀ j T, ts[j]? = some T → Five w ad j (.agg (f j).toArray) ∧ Rep w S T (.agg (f j).toArray) := fun j => Classical.choose_spec (hx j)
  have hget : ∀ j T, ts[j]? = some T → ((List.range ts.length).map f)[j]? = some (f j) := fun j T hj => by
    have := (List.getElem?_eq_some_iff.1 hj).1
    rw [List.getElem?_map, List.getElem?_range this]; rfl
  have h5 : ∀ j, j < ts.length → (f j).length = 5 := fun j hj => ((hf j ts[j] (List.getElem?_eq_getElem hj)).2).cells.1
  refine ⟨(List.range ts.length).map f, by simp, fun j T hj => ⟨f j, hget j T hj, (hf j T hj).2⟩, ?_⟩
  have hL5 : ∀ c ∈ (List.range ts.length).map f, c.length = 5 := by
    intro c hc
    simp at hc
    obtain ⟨j, hj, rfl⟩ := hc
    exact h5 j hj
  have hflat : ∀ (n : Nat), n ≤ ts.length → ((List.range n).map f).flatten.length = n * 5 := by
    intro n
    induction n with
    | zero => intro _; simp
    | succ n ih =>
      intro hn
      rw [List.range_succ, List.map_append, List.flatten_append, List.length_append, ih (by omega)]
      simp [h5 n (by omega)]; omega
  intro i u hu
  have hi := (List.getElem?_eq_some_iff.1 hu).1
  rw [hflat _ (Nat.le_refl _)] at hi
  have hj : i / 5 < ts.length := by omega
  have hm : i % 5 < (f (i / 5)).length := by rw [h5 _ hj]; omega
  have h1 := flatten_get _ hL5 (i / 5) (i % 5) _ _ (hget (i / 5) _ (List.getElem?_eq_getElem hj)) (List.getElem?_eq_getElem hm)
  have e : i / 5 * 5 + i % 5 = i := by omega
  rw [e, hu] at h1
  obtain ⟨d0, d1, d2, d3, d4, hv, g0, g1, g2, g3, g4⟩ := (hf (i / 5) _ (List.getElem?_eq_getElem hj)).1
  have hfl : f (i / 5) = [d0, d1, d2, d3, d4] := by simpa using hv
  rw [add_add' _ _ _ (by omega)] at g1 g2 g3 g4
  have h1' := Option.some.inj h1
  have hq : i % 5 = 0 ∨ i % 5 = 1 ∨ i % 5 = 2 ∨ i % 5 = 3 ∨ i % 5 = 4 := by omega
  rcases hq with q | q | q | q | q
  all_goals
    rw [q] at e
    simp only [q, hfl] at h1'
    subst h1'
    rw [← e]
    first | exact g0 | exact g1 | exact g2 | exact g3 | exact g4

/-- One append, or one of several, to a row that the call owns. -/
theorem wpList_pushT {w : World} {ops : Array Oper} {rest : List Oper} {o : Oper} {a : Act} {Q : Exit → Act → World → Prop} (hgd : o.guard = none) (s x : Operand)
    (ho : o.op = .call { callee := .builtin .append, args := #[s, x], argTypes := #[28, 28] })
    (base : Nat) (S : Nat → Prop) (v : Value) (ts : List Ty) (hs : a.eval s = v) (hrow : RowT w base S v ts)
    (ad : Addr) (m c : Nat) (hx : a.eval x = .slice (some ad) m c) (news : List Ty) (hm : news.length = m) (hc : ∀ j T, news[j]? = some T → ∃ y, Five w ad j y ∧ Rep w (fun b => S b ∧ some b ≠ v.ownBlock) T y)
    (N : Nat) (hN : N = ts.length + m) (hb : N ≤ 1000000) (hbase : base ≤ w.heap.size)
    (h : ∀ (a' : Option Addr) (c' : Nat) (w' : World), RowT w' base S (.slice a' N c') (ts ++ news) → w.grownBy w' v.ownBlock → ((Value.slice a' N c').ownBlock = v.ownBlock ∨ (Value.slice a' N c').ownBlock = some w.heap.size) → wpList Tryz.prog ops Q rest (a.put o.dst (.slice a' N c')) w') :
    wpList Tryz.prog ops Q (o :: rest) a w := by
  obtain ⟨i, hi, hz0, hz1, hz2⟩ := info_parts Tryz.info30
  obtain ⟨L, hown, hl, hr⟩ := hrow
  obtain ⟨M, hml, hmr, hmc⟩ := cells_of hc
  have hM5 := rowT_five hml hmr
  have hflat : M.flatten.length = m * 5 := by
    have : ∀ (L : List (List Value)), (∀ c ∈ L, c.length = 5) → L.flatten.length = L.length * 5 := by
      intro L
      induction L with
      | nil => intro _; rfl
      | cons x L ih => intro h; rw [List.flatten_cons, List.length_append, h x (by simp), ih fun c hc => h c (by simp [hc])]; simp; omega
    rw [this M fun c h => (hM5 c h).1, hml, hm]
  refine wpList_append_own_at w hgd s x 28 ho base 30 i _ 5 64 Tryz.underlying28 hi hz0 hz1 hz2 rfl (by decide) v ts.length L.flatten hs hown ad m c M.flatten hx hflat hmc ?_ (by unfold maxLen; omega) (by omega) hbase ?_
  · intro u hu
    obtain ⟨c', hc', hu'⟩ := List.mem_flatten.1 hu
    exact (hM5 c' hc').2 u hu'
  intro v' w' hown' hg _ hloc
  have hrow : RowT w' base S v' (ts ++ news) := by
    refine ⟨L ++ M, ?_, by simp [hl, hml], fun j T hj => ?_⟩
    · rw [List.flatten_append, List.length_append, hm]; exact hown'
    · have key : ∀ c, Rep w (fun b => S b ∧ some b ≠ v.ownBlock) T (.agg (List.toArray c)) → Rep w' (fun b => S b ∧ some b ≠ v'.ownBlock) T (.agg (List.toArray c)) := fun c hrep =>
        hrep.bound.kept (fun b hb => ⟨hb.1.1, by
          rcases hloc with e | e
          · rw [e]; exact hb.1.2
          · rw [e]; intro e'; cases e'; exact absurd hb.2 (Nat.lt_irrefl _)⟩) fun b hb hlt => hg.block b hlt hb.1.2
      by_cases hj' : j < ts.length
      · rw [List.getElem?_append_left hj'] at hj
        obtain ⟨c', hc', hrep⟩ := hr j T hj
        exact ⟨c', by rw [List.getElem?_append_left (by omega)]; exact hc', key _ hrep⟩
      · rw [List.getElem?_append_right (by omega)] at hj
        obtain ⟨c', hc', hrep⟩ := hmr _ T hj
        exact ⟨c', by rw [List.getElem?_append_right (by omega), hl]; exact hc', key _ hrep⟩
  obtain ⟨a', c', rfl, _⟩ := hrow.slice
  have e : (ts ++ news).length = N := by rw [List.length_append, hm, hN]
  rw [e] at hrow hloc ⊢
  exact h a' c' w' hrow hg hloc
end Go.Proofs.YthphnacfidofbaaGreatDoor

/- A struct of five cells in a block of its own: what is stored there. -/
namespace Go.Proofs.YthphnacfidofbaaGreatDoor
open Go.RowKit Mth

/-- Block B is a struct with these cells. -/
def Box (w : World) (B : Nat) (c0 c1 c2 c3 c4 : Value) : Prop := w.heap[B]? = some (.cells #[c0, c1, c2, c3, c4] 30 (0, 0))
theorem Box.cells {w : World} {B : Nat} {c0 c1 c2 c3 c4 : Value} (h : Box w B c0 c1 c2 c3 c4) :
    (w.cell? ⟨B, 0, none⟩ = some c0 ∧ w.cell? ⟨B, 1, none⟩ = some c1 ∧ w.cell? ⟨B, 2, none⟩ = some c2 ∧ w.cell? ⟨B, 3, none⟩ = some c3 ∧ w.cell? ⟨B, 4, none⟩ = some c4) := by
  unfold Box at h
  simp [World.cell?, h]
theorem Box.frozen {w : World} {B : Nat} {c0 c1 c2 c3 c4 : Value} (h : Box w B c0 c1 c2 c3 c4) :
    (w.frozen? ⟨B, 0, none⟩ = false ∧ w.frozen? ⟨B, 1, none⟩ = false ∧ w.frozen? ⟨B, 2, none⟩ = false ∧ w.frozen? ⟨B, 3, none⟩ = false ∧ w.frozen? ⟨B, 4, none⟩ = false) := by
  unfold Box at h
  simp [World.frozen?, h]
theorem Box.made (w : World) (c0 c1 c2 c3 c4 : Value) : Box (w.alloc (.cells #[c0, c1, c2, c3, c4] 30)) w.heap.size c0 c1 c2 c3 c4 := heap_alloc_new w _
/-- Block B is a struct of zeros. -/
def Zero (w : World) (B : Nat) : Prop := Box w B (.int .i64 0) (.string ⟨#[]⟩) (.int .i64 0) (.int .i64 0) (.slice none 0 0)
theorem heap_at (w : World) (o : Obj) (k : Nat) : (w.alloc o).heap[k]? = if k = w.heap.size then some o else w.heap[k]? := by
  show (w.heap.push o)[k]? = _
  rw [Array.getElem?_push]
theorem Box.kept {w w' : World} {B : Nat} {c0 c1 c2 c3 c4 : Value} (h : Box w B c0 c1 c2 c3 c4) (hb : w'.heap[B]? = w.heap[B]?) : Box w' B c0 c1 c2 c3 c4 := by unfold Box at *; rw [hb, h]
theorem Box.lt {w : World} {B : Nat} {c0 c1 c2 c3 c4 : Value} (h : Box w B c0 c1 c2 c3 c4) : B < w.heap.size := (Array.getElem?_eq_some_iff.1 h).1
theorem Box.lift {w w' : World} {B : Nat} {c0 c1 c2 c3 c4 : Value} (h : Box w B c0 c1 c2 c3 c4) (hb : Below w.heap.size w w') : Box w' B c0 c1 c2 c3 c4 := h.kept (hb.block _ h.lt)

theorem set1 {w : World} {B : Nat} {cs : Array Value} {t : TypeId} (h : w.heap[B]? = some (.cells cs t (0, 0))) (m : Nat) (v : Value) :
    (w.setCell ⟨B, m, none⟩ v).heap[B]? = some (.cells (cs.setIfInBounds m v) t (0, 0)) ∧ w.grownBy (w.setCell ⟨B, m, none⟩ v) (some B) ∧ (w.setCell ⟨B, m, none⟩ v).heap.size = w.heap.size := by
  refine ⟨?_, ⟨rfl, rfl, rfl, by simp [World.setCell], fun k _ hk => Below.heap_setCell _ _ _ _ (fun e => hk (by rw [e]))⟩, by simp [World.setCell]⟩
  simp [World.setCell, Array.getElem?_modify, h]
theorem grown_trans {a b c : World} {r : Option Nat} (h : a.grownBy b r) (k : b.grownBy c r) : a.grownBy c r :=
  ⟨k.os.trans h.os, k.tape.trans h.tape, k.output.trans h.output, Nat.le_trans h.size k.size, fun i hi hr => (k.block i (Nat.lt_of_lt_of_le hi h.size) hr).trans (h.block i hi hr)⟩
theorem set5 {w : World} {B : Nat} {c0 c1 c2 c3 c4 : Value} (h : Box w B c0 c1 c2 c3 c4) (v0 v1 v2 v3 v4 : Value) :
    Box (((((w.setCell ⟨B, 0, none⟩ v0).setCell ⟨B, 1, none⟩ v1).setCell ⟨B, 2, none⟩ v2).setCell ⟨B, 3, none⟩ v3).setCell ⟨B, 4, none⟩ v4) B v0 v1 v2 v3 v4 ∧
    w.grownBy (((((w.setCell ⟨B, 0, none⟩ v0).setCell ⟨B, 1, none⟩ v1).setCell ⟨B, 2, none⟩ v2).setCell ⟨B, 3, none⟩ v3).setCell ⟨B, 4, none⟩ v4) (some B) ∧
    (((((w.setCell ⟨B, 0, none⟩ v0).setCell ⟨B, 1, none⟩ v1).setCell ⟨B, 2, none⟩ v2).setCell ⟨B, 3, none⟩ v3).setCell ⟨B, 4, none⟩ v4).heap.size = w.heap.size := by
  obtain ⟨a0, g0, s0⟩ := set1 h 0 v0
  obtain ⟨a1, g1, s1⟩ := set1 a0 1 v1
  obtain ⟨a2, g2, s2⟩ := set1 a1 2 v2
  obtain ⟨a3, g3, s3⟩ := set1 a2 3 v3
  obtain ⟨a4, g4, s4⟩ := set1 a3 4 v4
  refine ⟨?_, grown_trans (grown_trans (grown_trans (grown_trans g0 g1) g2) g3) g4, by rw [s4, s3, s2, s1, s0]⟩
  unfold Box
  rw [a4]
  simp

theorem wpList_store5 {w : World} {ops : Array Oper} {rest : List Oper} {o : Oper} {a : Act} {Q : Exit → Act → World → Prop} (hgd : o.guard = none) (p x : Operand) (ho : o.op = Op.store 30 p x)
    (B : Nat) (c0 c1 c2 c3 c4 : Value) (hB : Box w B c0 c1 c2 c3 c4) (hp : a.eval p = .pointer (some ⟨B, 0, none⟩)) (k : Int) (n : ByteArray) (i h : Int) (sa : Option Addr) (sn sc : Nat)
    (hx : a.eval x = .agg #[.int .i64 k, .string n, .int .i64 i, .int .i64 h, .slice sa sn sc])
    (hK : ∀ w', Box w' B (.int .i64 k) (.string n) (.int .i64 i) (.int .i64 h) (.slice sa sn sc) → w.grownBy w' (some B) → w'.heap.size = w.heap.size → wpList Tryz.prog ops Q rest (a.put o.dst undef) w') :
    wpList Tryz.prog ops Q (o :: rest) a w := by
  obtain ⟨h0, h1, h2, h3, h4⟩ := hB.cells
  obtain ⟨f0, f1, f2, f3, f4⟩ := hB.frozen
  refine wpList_plain hgd fun K hK' => ?_
  unfold Oper.wp
  simp only [execOp, ho, hp, hx]
  simp [go_sem, h0, h1, h2, h3, h4, f0, f1, f2, f3, f4]
  exact hK' _ _ (hK _ (set5 hB _ _ _ _ _).1 (set5 hB _ _ _ _ _).2.1 (set5 hB _ _ _ _ _).2.2)
/-- One value that was just laid. -/
theorem one_new {w : World} {a0 a1 a2 a3 a4 : Value} (Z : TypeId) (n : Nat) (hn : n = w.heap.size) : Five (w.alloc (.cells #[a0, a1, a2, a3, a4] Z)) ⟨n, 0, none⟩ 0 (.agg #[a0, a1, a2, a3, a4]) := by
  subst hn
  exact ⟨a0, a1, a2, a3, a4, rfl, by simp [Addr.add], by simp [Addr.add], by simp [Addr.add], by simp [Addr.add], by simp [Addr.add]⟩
/-- One append of one value that was laid for it. -/
theorem wpList_push1 {W : World} {Z : TypeId} {k : Int} {n : ByteArray} {i h : Int} {sa : Option Addr} {sn sc : Nat} {ops : Array Oper} {rest : List Oper} {o : Oper} {a : Act} {Q : Exit → Act → World → Prop} (hgd : o.guard = none) (s x : Operand)
    (ho : o.op = .call { callee := .builtin .append, args := #[s, x], argTypes := #[28, 28] })
    (base : Nat) (S : Nat → Prop) (v : Value) (ts : List Ty) (hs : a.eval s = v) (hrow : RowT W base S v ts)
    (nn : Nat) (hnn : nn = W.heap.size) (hx : a.eval x = .slice (some ⟨nn, 0, none⟩) 1 1) (T : Ty) (hT : Rep W (fun b => S b ∧ some b ≠ v.ownBlock) T (.agg #[.int .i64 k, .string n, .int .i64 i, .int .i64 h, .slice sa sn sc]))
    (N : Nat) (hN : N = ts.length + 1) (hb : N ≤ 1000000) (hbase : base ≤ W.heap.size)
    (hK : ∀ (a' : Option Addr) (c' : Nat) (w' : World), RowT w' base S (.slice a' N c') (ts ++ [T]) → W.grownBy w' v.ownBlock → wpList Tryz.prog ops Q rest (a.put o.dst (.slice a' N c')) w') :
    wpList Tryz.prog ops Q (o :: rest) a (W.alloc (.cells #[.int .i64 k, .string n, .int .i64 i, .int .i64 h, .slice sa sn sc] Z)) := by
  have hbl : Below W.heap.size W (W.alloc (.cells #[.int .i64 k, .string n, .int .i64 i, .int .i64 h, .slice sa sn sc] Z)) := (Below.refl _ W).alloc (Nat.le_refl _) _
  refine wpList_pushT hgd s x ho base S v ts hs (hrow.lift hbl) ⟨nn, 0, none⟩ 1 1 hx [T] rfl (fun j U hj => ?_) N hN hb (Nat.le_trans hbase hbl.size) (fun a' c' w' h1 h2 _ => hK a' c' w' h1 (grown_trans (World.grownBy_alloc W _ _) h2))
  cases j with
  | zero =>
    simp at hj; subst hj
    exact ⟨_, one_new Z nn hnn, hT.lift hbl⟩
  | succ j => simp at hj
end Go.Proofs.YthphnacfidofbaaGreatDoor
