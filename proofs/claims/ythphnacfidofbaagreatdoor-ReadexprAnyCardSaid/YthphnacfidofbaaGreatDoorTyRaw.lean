/- Slices of tokens of any make. -/
import Derived.Test.YthphnacfidofbaaGreatDoorTySwMa
import Derived.Deep.CutBlock
namespace Go.Proofs.YthphnacfidofbaaGreatDoor
open Go.RowKit Go.Maps Mth

/-- A token of any make. -/
structure Raw where
  k : Int
  x : ByteArray
  p : Int
def rawC (r : Raw) : List Value := [.int .i64 r.k, .string r.x, .int .i64 r.p]
def rawRow (l : List Raw) : List Value := (l.map rawC).flatten
def tokRaw (t : Tok) : Raw := ⟨t.kind, ⟨t.text.toArray⟩, t.pos⟩
theorem row3_raw (ts : List Tok) : row3 ts = rawRow (ts.map tokRaw) := by
  rw [row3_flat]
  unfold rawRow
  rw [List.map_map]
  rfl
theorem rawRow_append (l m : List Raw) : rawRow (l ++ m) = rawRow l ++ rawRow m := by simp [rawRow]
theorem rawRow_len (l : List Raw) : (rawRow l).length = l.length * 3 := by
  induction l with
  | nil => rfl
  | cons r l ih => rw [show r :: l = [r] ++ l from rfl, rawRow_append, List.length_append, ih]; simp [rawRow, rawC]; omega
theorem rawRow_get (l : List Raw) (j m : Nat) (r : Raw) (u : Value) (ht : l[j]? = some r) (hu : (rawC r)[m]? = some u) : (rawRow l)[j * 3 + m]? = some u :=
  flat_get 3 _ (fun c hc => by simp at hc; obtain ⟨t, _, rfl⟩ := hc; rfl) j m _ u (by rw [List.getElem?_map, ht]; rfl) hu
/-- The tokens of a slice, cell by cell. -/
def RawAt (w : World) (v : Value) (rs : List Raw) : Prop :=
  ∃ a cap, v = .slice a rs.length cap ∧ (rs.length ≤ cap ∧ cap ≤ maxLen) ∧ ∀ (j : Nat) (r : Raw), rs[j]? = some r → ∃ ad, a = some ad ∧
    w.cell? (ad.add (j * 3)) = some (.int .i64 r.k) ∧ w.cell? ⟨(ad.add (j * 3)).block, (ad.add (j * 3)).off + 1, none⟩ = some (.string r.x) ∧ w.cell? ⟨(ad.add (j * 3)).block, (ad.add (j * 3)).off + 2, none⟩ = some (.int .i64 r.p)
theorem RawAt.lift {w w' : World} {v : Value} {rs : List Raw} (h : RawAt w v rs) (hb : Below w.heap.size w w') : RawAt w' v rs := by
  obtain ⟨a, cap, hv, hcap, hc⟩ := h
  refine ⟨a, cap, hv, hcap, fun j r hr => ?_⟩
  obtain ⟨ad, ha, h1, h2, h3⟩ := hc j r hr
  have k : ∀ p v, w.cell? p = some v → w'.cell? p = some v := fun p v h => by rw [hb.cell (World.block_lt_of_cell? _ _ h)]; exact h
  exact ⟨ad, ha, k _ _ h1, k _ _ h2, k _ _ h3⟩
theorem rawAt_of_row {w : World} {base : Nat} {v : Value} {rs : List Raw} (h : w.ownsRow base 44 3 v rs.length (rawRow rs)) : RawAt w v rs := by
  have hc := fun g (hv : v.ownBlock = some g) => h.cells (g := g) hv
  obtain ⟨-, hh⟩ := h
  rcases hh with ⟨rfl, h0⟩ | ⟨g, cap, cur, rfl, hg, hb, hn, hm, _⟩
  · have : rs = [] := List.eq_nil_of_length_eq_zero h0
    subst this
    exact ⟨none, 0, rfl, ⟨Nat.le_refl _, Nat.zero_le _⟩, fun j t h => by simp at h⟩
  · refine ⟨some ⟨g, 0, none⟩, cap, rfl, ⟨hn, hm⟩, fun j r hr => ⟨_, rfl, ?_, ?_, ?_⟩⟩
    · exact hc g rfl _ _ (rawRow_get rs j 0 r _ hr rfl)
    · rw [add_add' _ _ _ (by omega)]; exact hc g rfl _ _ (rawRow_get rs j 1 r _ hr rfl)
    · rw [add_add' _ _ _ (by omega)]; exact hc g rfl _ _ (rawRow_get rs j 2 r _ hr rfl)
theorem six_new {w : World} {Z : TypeId} {n : Nat} (hn : n = w.heap.size) (r s : Raw) : ∀ (j : Nat) (u : Value), (rawRow [r, s])[j]? = some u → (w.alloc (.cells #[.int .i64 r.k, .string r.x, .int .i64 r.p, .int .i64 s.k, .string s.x, .int .i64 s.p] Z)).cell? ((⟨n, 0, none⟩ : Addr).add j) = some u := by
  subst hn
  intro j u hj
  have hl := (List.getElem?_eq_some_iff.1 hj).1
  rw [rawRow_len] at hl
  have hc : j = 0 ∨ j = 1 ∨ j = 2 ∨ j = 3 ∨ j = 4 ∨ j = 5 := by simp at hl; omega
  rcases hc with rfl | rfl | rfl | rfl | rfl | rfl
  all_goals
    simp [rawRow, rawC] at hj
    subst hj
    simp [Addr.add]
theorem six_one (r s : Raw) : ∀ u ∈ rawRow [r, s], u.oneCell' = true := by
  intro u hu
  simp [rawRow, rawC] at hu
  rcases hu with h | h | h | h | h | h <;> subst h <;> rfl
theorem ints_one {w : World} {Z : TypeId} {n : Nat} (hn : n = w.heap.size) (z : Int) : Ints (w.alloc (.cells #[.int .i64 z] Z)) (.slice (some ⟨n, 0, none⟩) 1 1) [z] := by
  subst hn
  refine ⟨_, 1, rfl, Nat.le_refl _, by simp [maxLen], fun i x hx => ⟨_, rfl, ?_⟩⟩
  rcases i with _ | i
  · simp at hx; subst hx; simp [Addr.add]
  · simp at hx
def RawOk (R : List Raw) : Prop := R.length ≤ 200000 ∧ ∀ r ∈ R, r.x.size ≤ maxLen
theorem row_raw {w : World} {base : Nat} {v : Value} {ts : List Tok} (r s : Raw) (h : w.ownsRow base 44 3 v (ts.length + 2) (row3 ts ++ rawRow [r, s])) (hok : TkOk ts) (hr : r.x.size ≤ maxLen) (hs : s.x.size ≤ maxLen) : ∃ (R : List Raw) (a : Option Addr) (cap : Nat), v = .slice a R.length cap ∧ RawAt w (.slice a R.length cap) R ∧ RawOk R := by
  have e : (ts.map tokRaw ++ [r, s]).length = ts.length + 2 := by simp
  rw [row3_raw, ← rawRow_append, ← e] at h
  have h' := rawAt_of_row h
  obtain ⟨a, cap, hv, rest⟩ := h'
  refine ⟨_, a, cap, hv, ⟨a, cap, rfl, rest⟩, by rw [e]; have := hok.1; omega, fun q hq => ?_⟩
  rcases List.mem_append.1 hq with hq | hq
  · obtain ⟨t, ht, rfl⟩ := List.mem_map.1 hq
    have := (hok.2 t ht).1
    show (⟨t.text.toArray⟩ : ByteArray).size ≤ maxLen
    have e2 : (⟨t.text.toArray⟩ : ByteArray).size = t.text.length := by rw [← bl_len, bl_mk]
    rw [e2]; unfold maxLen; omega
  · simp at hq
    rcases hq with rfl | rfl
    · exact hr
    · exact hs
end Go.Proofs.YthphnacfidofbaaGreatDoor
