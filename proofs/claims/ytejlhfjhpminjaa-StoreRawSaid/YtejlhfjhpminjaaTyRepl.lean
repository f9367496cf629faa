/- The contract of the package's Replace. -/
import Derived.Test.YtejlhfjhpminjaaTyWith
namespace Go.Proofs.Ytejlhfjhpminjaa
open Go.RowKit Go.Sort Go.Shelf Mth

def look (σ : List (Int × Ty)) (i : Int) : Option Ty := (σ.find? fun p => p.1 == i).map (·.2)
mutual
def repl (σ : List (Int × Ty)) : Ty → Ty
  | .mk k n i h ts => if k = 1 then (look σ i).getD (.mk k n i h ts) else .mk k n i h (replL σ ts)
def replL (σ : List (Int × Ty)) : List Ty → List Ty
  | [] => []
  | t :: l => repl σ t :: replL σ l
end
theorem replL_map (σ : List (Int × Ty)) : ∀ l : List Ty, replL σ l = l.map (repl σ) := by
  intro l
  induction l with
  | nil => rfl
  | cons t l ih => simp [replL, ih]
theorem len_nodesL : ∀ l : List Ty, l.length ≤ nodesL l := by
  intro l
  induction l with
  | nil => simp
  | cons t l ih => have := nodes_pos t; simp [nodesL]; omega
theorem ts_nodes (T : Ty) : T.ts.length < nodes T := by cases T; have := len_nodesL; simp only [nodes, Ty.ts]; have := this ‹_›; omega
theorem mem_nodes {T U : Ty} (h : U ∈ T.ts) : nodes U < nodes T := by
  have := nodesL_mem h
  cases T
  simp only [nodes, Ty.ts] at *
  omega
theorem look_step {σ : List (Int × Ty)} {j : Nat} {p : Int × Ty} (h : σ[j]? = some p) (i : Int) : look (σ.drop j) i = if p.1 == i then some p.2 else look (σ.drop (j + 1)) i := by
  obtain ⟨hl, e⟩ := List.getElem?_eq_some_iff.1 h
  rw [List.drop_eq_getElem_cons hl, e]
  unfold look
  rw [List.find?_cons]
  split <;> simp_all

/-- Six cells that hold an assignment. -/
def Six (w : World) (a : Addr) (j : Nat) (x : Int) (k : Int) (n : ByteArray) (i h : Int) (s : Value) : Prop :=
  w.cell? (a.add (j * 6)) = some (.int .i64 x) ∧ w.cell? ⟨(a.add (j * 6)).block, (a.add (j * 6)).off + 1, none⟩ = some (.int .i64 k) ∧ w.cell? ⟨(a.add (j * 6)).block, (a.add (j * 6)).off + 2, none⟩ = some (.string n) ∧
    w.cell? ⟨(a.add (j * 6)).block, (a.add (j * 6)).off + 3, none⟩ = some (.int .i64 i) ∧ w.cell? ⟨(a.add (j * 6)).block, (a.add (j * 6)).off + 4, none⟩ = some (.int .i64 h) ∧ w.cell? ⟨(a.add (j * 6)).block, (a.add (j * 6)).off + 5, none⟩ = some s
theorem Six.kept {w w' : World} {a : Addr} {j : Nat} {x k : Int} {n : ByteArray} {i h : Int} {s : Value} (hs : Six w a j x k n i h s) (hb : w'.heap[a.block]? = w.heap[a.block]?) : Six w' a j x k n i h s := by
  obtain ⟨h0, h1, h2, h3, h4, h5⟩ := hs
  have e : w'.cell? (a.add (j * 6)) = w.cell? (a.add (j * 6)) := World.cell?_of_block (by rw [add_block]; exact hb)
  have e' : ∀ n, w'.cell? ⟨(a.add (j * 6)).block, n, none⟩ = w.cell? ⟨(a.add (j * 6)).block, n, none⟩ := fun n => World.cell?_of_block (by show w'.heap[(a.add (j * 6)).block]? = _; rw [add_block]; exact hb)
  exact ⟨by rw [e, h0], by rw [e', h1], by rw [e', h2], by rw [e', h3], by rw [e', h4], by rw [e', h5]⟩
theorem Six.lt {w : World} {a : Addr} {j : Nat} {x k : Int} {n : ByteArray} {i h : Int} {s : Value} (hs : Six w a j x k n i h s) : a.block < w.heap.size := by
  have := World.block_lt_of_cell? _ _ hs.1
  rwa [add_block] at this
/-- The slice stands for the list of assignments. -/
def AsL (w : World) (S : Nat → Prop) (σ : List (Int × Ty)) (v : Value) : Prop :=
  ∃ a cap, v = .slice a σ.length cap ∧ (σ.length ≤ cap ∧ cap ≤ maxLen) ∧ ∀ (j : Nat) (p : Int × Ty), σ[j]? = some p → ∃ ad k n i h s, a = some ad ∧ S ad.block ∧ Six w ad j p.1 k n i h s ∧ Rep w S p.2 (.agg #[.int .i64 k, .string n, .int .i64 i, .int .i64 h, s])
theorem AsL.kept {w w' : World} {S S' : Nat → Prop} (hS : ∀ b, S b → S' b) (hw : ∀ b, S b → b < w.heap.size → w'.heap[b]? = w.heap[b]?) {σ : List (Int × Ty)} {v : Value} (h : AsL w S σ v) : AsL w' S' σ v := by
  obtain ⟨a, cap, hv, hcap, hj⟩ := h
  refine ⟨a, cap, hv, hcap, fun j p hp => ?_⟩
  obtain ⟨ad, k, n, i, h, s, h1, h2, h3, h4⟩ := hj j p hp
  exact ⟨ad, k, n, i, h, s, h1, hS _ h2, h3.kept (hw _ h2 h3.lt), h4.kept hS hw⟩
theorem AsL.lift {w w' : World} {S : Nat → Prop} {σ : List (Int × Ty)} {v : Value} (h : AsL w S σ v) (hb : Below w.heap.size w w') : AsL w' S σ v := h.kept (fun _ h => h) (fun b _ hl => hb.block b hl)
theorem AsL.slice {w : World} {S : Nat → Prop} {σ : List (Int × Ty)} {v : Value} (h : AsL w S σ v) : ∃ a cap, v = .slice a σ.length cap ∧ cap ≤ maxLen := by
  obtain ⟨a, cap, hv, hcap, _⟩ := h
  exact ⟨a, cap, hv, hcap.2⟩
theorem asL_nil (w : World) (S : Nat → Prop) : AsL w S [] (.slice none 0 0) := ⟨none, 0, rfl, ⟨Nat.le_refl _, by simp⟩, fun j T h => by simp at h⟩

/-- What the contract of a replacement says. -/
def ReplAt (P : Program) (f : Nat) (σ : List (Int × Ty)) (T : Ty) : Prop := ∀ (v sv : Value) (S S0 : Nat → Prop) (w : World), nodes T ≤ 1000000 → AsL w S0 σ sv → (∀ b, S0 b → S b ∧ b < w.heap.size) → (∀ b, w.heap.size ≤ b → S b) → Rep w S T v →
  Calls P f #[v, sv] w fun e w' => ∃ u, e = .returned u ∧ Rep w' S (repl σ T) u ∧ Below w.heap.size w w'

end Go.Proofs.Ytejlhfjhpminjaa
