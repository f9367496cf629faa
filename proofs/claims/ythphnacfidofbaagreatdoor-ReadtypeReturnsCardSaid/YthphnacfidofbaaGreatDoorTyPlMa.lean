import Derived.Test.YthphnacfidofbaaGreatDoorTyCon
/- Valid types: what is of no function. -/
namespace Go.Proofs.YthphnacfidofbaaGreatDoor.S3
open Go.RowKit Go.Maps Mth

def conOk (n : ByteArray) (c : Nat) : Bool := if n.toList == [45, 62] then c == 2 else if n.toList == [73, 110, 116] then c == 0 else isUp (bl n) && decide (c ≤ 4)
def idOk (i : Int) : Bool := decide (0 ≤ i) && decide (i ≤ 1000000)
def homeOk (i : Int) : Bool := decide (-1 ≤ i) && decide (i ≤ 1000000)
mutual
def valid : Ty → Bool
  | .mk k n i h ts =>
    if k = 1 ∨ k = 2 then idOk i && n.toList == [] && h == 0 && decide (ts.length = 0)
    else if k = 3 then idOk i && homeOk h && n.toList == [] && decide (ts.length = 0)
    else if k = 4 then i == 0 && h == 0 && conOk n ts.length && validL ts
    else if k = 5 then isLo (bl n) && i == 0 && h == 0 && decide (ts.length = 0)
    else false
def validL : List Ty → Bool
  | [] => true
  | t :: l => valid t && validL l
end
theorem validL_any : ∀ l : List Ty, validL l = !l.any fun T => !valid T := by
  intro l
  induction l with
  | nil => rfl
  | cons t l ih => simp [validL, ih]
theorem validL_mem {l : List Ty} (h : validL l = true) {T : Ty} (hT : T ∈ l) : valid T = true := by
  rw [validL_any] at h
  simp at h
  exact h T hT
theorem Ty.induct {p : Ty → Prop} (h : ∀ T, (∀ U ∈ T.ts, p U) → p T) : ∀ T, p T := by
  have : ∀ (m : Nat) (T : Ty), nodes T ≤ m → p T := by
    intro m
    induction m with
    | zero => intro T h; have := nodes_pos T; omega
    | succ m ih =>
      intro T hm
      refine h T fun U hU => ih U ?_
      have := nodesL_mem hU
      cases T
      simp only [nodes, Ty.ts] at *
      omega
  exact fun T => this _ T (Nat.le_refl _)

theorem validL_step {l : List Ty} {j : Nat} {t : Ty} (h : l[j]? = some t) : validL (l.drop j) = (valid t && validL (l.drop (j + 1))) := by
  obtain ⟨hl, e⟩ := List.getElem?_eq_some_iff.1 h
  rw [List.drop_eq_getElem_cons hl, e]
  rfl
theorem box_cell {w wr : World} {X : Array Value} {Z : TypeId} (hb : Below (w.heap.size + 1) (w.alloc (.cells X Z)) wr) (m : Nat) (v : Value) (h : (w.alloc (.cells X Z)).cell? ⟨w.heap.size, m, none⟩ = some v) : wr.cell? ⟨w.heap.size, m, none⟩ = some v :=
  (hb.cell (p := ⟨w.heap.size, m, none⟩) (Nat.lt_succ_self _)).trans h
theorem box_below {w wr : World} {X : Array Value} {Z : TypeId} (hb : Below (w.heap.size + 1) (w.alloc (.cells X Z)) wr) : Below w.heap.size w wr :=
  ((Below.refl _ w).alloc (Nat.le_refl _) _).trans (hb.mono (Nat.le_succ _))

end Go.Proofs.YthphnacfidofbaaGreatDoor.S3

/- Plain facts: types that can be written, with short names. -/
namespace Go.Proofs.YthphnacfidofbaaGreatDoor
open Go.RowKit Mth

/-! Every part is a constructor or a name, and every name is short. -/
mutual
def wr : Ty → Bool
  | .mk k n _ _ ts => (k == 4 || k == 5) && decide (n.size ≤ 6) && wrL ts
def wrL : List Ty → Bool
  | [] => true
  | t :: l => wr t && wrL l
end
theorem wrL_of : ∀ {l : List Ty}, (∀ T ∈ l, wr T = true) → wrL l = true := by
  intro l
  induction l with
  | nil => intro _; rfl
  | cons t l ih => intro h; simp [wrL, h t (by simp), ih fun T hT => h T (by simp [hT])]
theorem wrL_mem : ∀ {l : List Ty}, wrL l = true → ∀ {T : Ty}, T ∈ l → wr T = true := by
  intro l
  induction l with
  | nil => intro _ T h; simp at h
  | cons t l ih =>
    intro h T hT
    simp only [wrL, Bool.and_eq_true] at h
    rcases List.mem_cons.1 hT with rfl | hT
    · exact h.1
    · exact ih h.2 hT
theorem wr_con {n : ByteArray} {ts : List Ty} (hn : n.size ≤ 6) (h : ∀ T ∈ ts, wr T = true) : wr (con n ts) = true := by
  unfold con
  simp [wr, wrL_of h, hn]
end Go.Proofs.YthphnacfidofbaaGreatDoor
