/- Types as trees, and what it means that a value stands for a tree. -/
import Derived.Test.YtejlhfjhpminjaaRfKind
namespace Go.Proofs.Ytejlhfjhpminjaa
open Go.RowKit Mth

/-- A type: its kind, its name, its id, its home, its arguments. -/
inductive Ty where
  | mk (k : Int) (n : ByteArray) (i h : Int) (ts : List Ty)
instance : Inhabited Ty := ⟨.mk 0 ⟨#[]⟩ 0 0 []⟩
def Ty.k : Ty → Int | .mk k _ _ _ _ => k
def Ty.n : Ty → ByteArray | .mk _ n _ _ _ => n
def Ty.i : Ty → Int | .mk _ _ i _ _ => i
def Ty.h : Ty → Int | .mk _ _ _ h _ => h
def Ty.ts : Ty → List Ty | .mk _ _ _ _ ts => ts

mutual
def nodes : Ty → Nat
  | .mk _ _ _ _ ts => nodesL ts + 1
def nodesL : List Ty → Nat
  | [] => 0
  | t :: ts => nodes t + nodesL ts
end
theorem nodes_pos (t : Ty) : 1 ≤ nodes t := by cases t; simp [nodes]
theorem nodesL_mem : ∀ {l : List Ty} {t : Ty}, t ∈ l → nodes t ≤ nodesL l := by
  intro l
  induction l with
  | nil => intro t h; simp at h
  | cons x l ih =>
    intro t h
    rcases List.mem_cons.1 h with rfl | h
    · simp [nodesL]
    · have := ih h
      simp [nodesL]; omega

/-- Five cells that hold a struct. -/
def Five (w : World) (a : Addr) (j : Nat) (v : Value) : Prop :=
  ∃ c0 c1 c2 c3 c4, v = .agg #[c0, c1, c2, c3, c4] ∧ w.cell? (a.add (j * 5)) = some c0 ∧ w.cell? ⟨(a.add (j * 5)).block, (a.add (j * 5)).off + 1, none⟩ = some c1 ∧ w.cell? ⟨(a.add (j * 5)).block, (a.add (j * 5)).off + 2, none⟩ = some c2 ∧
    w.cell? ⟨(a.add (j * 5)).block, (a.add (j * 5)).off + 3, none⟩ = some c3 ∧ w.cell? ⟨(a.add (j * 5)).block, (a.add (j * 5)).off + 4, none⟩ = some c4
theorem add_block (a : Addr) (n : Nat) : (a.add n).block = a.block := by unfold Addr.add; split <;> rfl
theorem Five.kept {w w' : World} {a : Addr} {j : Nat} {v : Value} (h : Five w a j v) (hb : w'.heap[a.block]? = w.heap[a.block]?) : Five w' a j v := by
  obtain ⟨c0, c1, c2, c3, c4, hv, h0, h1, h2, h3, h4⟩ := h
  have e : w'.cell? (a.add (j * 5)) = w.cell? (a.add (j * 5)) := World.cell?_of_block (by rw [add_block]; exact hb)
  have e' : ∀ n, w'.cell? ⟨(a.add (j * 5)).block, n, none⟩ = w.cell? ⟨(a.add (j * 5)).block, n, none⟩ := fun n => World.cell?_of_block (by show w'.heap[(a.add (j * 5)).block]? = _; rw [add_block]; exact hb)
  exact ⟨c0, c1, c2, c3, c4, hv, by rw [e, h0], by rw [e', h1], by rw [e', h2], by rw [e', h3], by rw [e', h4]⟩
theorem Five.lt {w : World} {a : Addr} {j : Nat} {v : Value} (h : Five w a j v) : a.block < w.heap.size := by
  obtain ⟨c0, c1, c2, c3, c4, _, h0, _⟩ := h
  have := World.block_lt_of_cell? _ _ h0
  rwa [add_block] at this

/-- The value stands for the type; all blocks that it leads to are of S. -/
inductive Rep (w : World) (S : Nat → Prop) : Ty → Value → Prop
  | mk (k : Int) (n : ByteArray) (i h : Int) (ts : List Ty) (a : Option Addr) (cap : Nat) (f : Nat → Value) (hn : n.size ≤ maxLen) (hcap : ts.length ≤ cap ∧ cap ≤ maxLen)
      (hc : ∀ j T, ts[j]? = some T → ∃ ad, a = some ad ∧ S ad.block ∧ Five w ad j (f j)) (hr : ∀ j T, ts[j]? = some T → Rep w S T (f j)) :
      Rep w S (.mk k n i h ts) (.agg #[.int .i64 k, .string n, .int .i64 i, .int .i64 h, .slice a ts.length cap])
/-- The slice stands for the list of types. -/
def RepL (w : World) (S : Nat → Prop) (ts : List Ty) (v : Value) : Prop :=
  ∃ a cap, v = .slice a ts.length cap ∧ (ts.length ≤ cap ∧ cap ≤ maxLen) ∧ ∀ j T, ts[j]? = some T → ∃ ad x, a = some ad ∧ S ad.block ∧ Five w ad j x ∧ Rep w S T x
theorem repL_nil (w : World) (S : Nat → Prop) : RepL w S [] (.slice none 0 0) := ⟨none, 0, rfl, ⟨Nat.le_refl _, by simp⟩, fun j T h => by simp at h⟩
theorem Rep.open {w : World} {S : Nat → Prop} {T : Ty} {v : Value} (h : Rep w S T v) :
    ∃ k n i h s, T = .mk k n i h T.ts ∧ v = .agg #[.int .i64 k, .string n, .int .i64 i, .int .i64 h, s] ∧ n.size ≤ maxLen ∧ RepL w S T.ts s := by
  cases h with
  | mk k n i h ts a cap f hn hcap hc hr =>
    refine ⟨k, n, i, h, _, rfl, rfl, hn, a, cap, rfl, hcap, fun j T hj => ?_⟩
    obtain ⟨ad, ha, hs, h5⟩ := hc j T hj
    exact ⟨ad, f j, ha, hs, h5, hr j T hj⟩
theorem Rep.close {w : World} {S : Nat → Prop} {k : Int} {n : ByteArray} {i h : Int} {ts : List Ty} {s : Value} (hn : n.size ≤ maxLen) (hl : RepL w S ts s) :
    Rep w S (.mk k n i h ts) (.agg #[.int .i64 k, .string n, .int .i64 i, .int .i64 h, s]) := by
  obtain ⟨a, cap, rfl, hcap, hj⟩ := hl
  have hx : ∀ j, ∃ x, ∀ T, ts[j]? = some T → ∃ ad, a = some ad ∧ S ad.block ∧ Five w ad j x ∧ Rep w S T x := by
    intro j
    cases hT : ts[j]? with
    | none => exact ⟨.slice none 0 0, fun T h => by cases h⟩
    | some T0 =>
      obtain ⟨ad, x, h1, h2, h3, h4⟩ := hj j T0 hT
      exact ⟨x, fun T h => by cases h; exact ⟨ad, h1, h2, h3, h4⟩⟩
  let f : Nat → Value := fun j => Classical.choose (hx j)
  have hf : ∀ j T, ts[j]? = some T → ∃ ad, a = some ad ∧ S ad.block ∧ Five w ad j (f j) ∧ Rep w S T (f j) := fun j => Classical.choose_spec (hx j)
  exact .mk k n i h ts a cap f hn hcap (fun j T hT => by obtain ⟨ad, h1, h2, h3, _⟩ := hf j T hT; exact ⟨ad, h1, h2, h3⟩) (fun j T hT => by obtain ⟨_, _, _, _, h4⟩ := hf j T hT; exact h4)

/-- What stays where the blocks of S stay. -/
theorem Rep.kept {w w' : World} {S S' : Nat → Prop} (hS : ∀ b, S b → S' b) (hw : ∀ b, S b → b < w.heap.size → w'.heap[b]? = w.heap[b]?) {T : Ty} {v : Value} (h : Rep w S T v) : Rep w' S' T v := by
  induction h with
  | mk k n i h ts a cap f hn hcap hc _ ih =>
    refine .mk k n i h ts a cap f hn hcap (fun j T hj => ?_) ih
    obtain ⟨ad, ha, hs, h5⟩ := hc j T hj
    exact ⟨ad, ha, hS _ hs, h5.kept (hw _ hs h5.lt)⟩
theorem RepL.kept {w w' : World} {S S' : Nat → Prop} (hS : ∀ b, S b → S' b) (hw : ∀ b, S b → b < w.heap.size → w'.heap[b]? = w.heap[b]?) {ts : List Ty} {v : Value} (h : RepL w S ts v) : RepL w' S' ts v := by
  obtain ⟨a, cap, hv, hcap, hj⟩ := h
  refine ⟨a, cap, hv, hcap, fun j T hT => ?_⟩
  obtain ⟨ad, x, h1, h2, h3, h4⟩ := hj j T hT
  exact ⟨ad, x, h1, hS _ h2, h3.kept (hw _ h2 h3.lt), h4.kept hS hw⟩
theorem Rep.lift {w w' : World} {S : Nat → Prop} {T : Ty} {v : Value} (h : Rep w S T v) (hb : Below w.heap.size w w') : Rep w' S T v := h.kept (fun _ h => h) (fun b _ hl => hb.block b hl)
theorem RepL.lift {w w' : World} {S : Nat → Prop} {ts : List Ty} {v : Value} (h : RepL w S ts v) (hb : Below w.heap.size w w') : RepL w' S ts v := h.kept (fun _ h => h) (fun b _ hl => hb.block b hl)
theorem Rep.imp {w : World} {S S' : Nat → Prop} (hS : ∀ b, S b → S' b) {T : Ty} {v : Value} (h : Rep w S T v) : Rep w S' T v := h.kept hS fun _ _ _ => rfl
theorem RepL.imp {w : World} {S S' : Nat → Prop} (hS : ∀ b, S b → S' b) {T : List Ty} {v : Value} (h : RepL w S T v) : RepL w S' T v := h.kept hS fun _ _ _ => rfl
/-- The five cells of an element, ts a walk meets them. -/
theorem five_at {w : World} {ad : Addr} {j : Nat} {k : Int} {n : ByteArray} {i h : Int} {s : Value} (h5 : Five w ad j (.agg #[.int .i64 k, .string n, .int .i64 i, .int .i64 h, s])) :
    w.cell? (ad.add (j * 5)) = some (.int .i64 k) ∧ w.cell? ⟨(ad.add (j * 5)).block, (ad.add (j * 5)).off + 1, none⟩ = some (.string n) ∧ w.cell? ⟨(ad.add (j * 5)).block, (ad.add (j * 5)).off + 2, none⟩ = some (.int .i64 i) ∧ w.cell? ⟨(ad.add (j * 5)).block, (ad.add (j * 5)).off + 3, none⟩ = some (.int .i64 h) ∧ w.cell? ⟨(ad.add (j * 5)).block, (ad.add (j * 5)).off + 4, none⟩ = some s := by
  obtain ⟨c0, c1, c2, c3, c4, hv, h⟩ := h5
  simp at hv
  obtain ⟨rfl, rfl, rfl, rfl, rfl⟩ := hv
  exact h
end Go.Proofs.Ytejlhfjhpminjaa
