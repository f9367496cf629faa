/- Lists of tokens appended to lists of tokens. -/
import Derived.Test.YthphnacfidofbaaGreatDoorTySwMa
import Derived.Laws.AppendOwnNone
namespace Go.Proofs.YthphnacfidofbaaGreatDoor
open Go.RowKit Go.Maps Mth

/-- A list of tokens that is read, nil or not. -/
def SrcTk (w : World) (us : List Tok) (x : Value) : Prop := (x = .slice none 0 0 ∧ us = []) ∨ ∃ ad c, x = .slice (some ad) us.length c ∧ ∀ (j : Nat) (u : Value), (row3 us)[j]? = some u → w.cell? (ad.add j) = some u
theorem SrcTk.of_row {w : World} {base : Nat} {us : List Tok} {x : Value} (h : w.ownsRow base 44 3 x us.length (row3 us)) : SrcTk w us x := by
  have hc := fun g (hv : x.ownBlock = some g) => h.cells (g := g) hv
  rcases h.2 with ⟨rfl, h0⟩ | ⟨g, cap, cur, rfl, -⟩
  · exact .inl ⟨rfl, List.eq_nil_of_length_eq_zero h0⟩
  · exact .inr ⟨_, cap, rfl, hc g rfl⟩
theorem SrcTk.lift {w w' : World} {us : List Tok} {x : Value} (h : SrcTk w us x) (hb : Below w.heap.size w w') : SrcTk w' us x := by
  rcases h with h | ⟨ad, c, e, hc⟩
  · exact .inl h
  · exact .inr ⟨ad, c, e, fun j u hu => by
      have := hc j u hu
      rw [hb.cell (World.block_lt_of_cell? _ _ this)]; exact this⟩
theorem SrcTk.one {w : World} {Z : TypeId} {n : Nat} (hn : n = w.heap.size) (k : Int) (x : List UInt8) (p : Nat) : SrcTk (w.alloc (.cells #[.int .i64 k, .string ⟨x.toArray⟩, .int .i64 p] Z)) [⟨k, x, p⟩] (.slice (some ⟨n, 0, none⟩) 1 1) := by
  subst hn
  refine .inr ⟨_, 1, rfl, fun j u hu => ?_⟩
  have hl := (List.getElem?_eq_some_iff.1 hu).1
  have hc : j = 0 ∨ j = 1 ∨ j = 2 := by simp [row3, cells3] at hl; omega
  rcases hc with rfl | rfl | rfl
  all_goals
    simp [row3, cells3] at hu
    subst hu
    simp [Addr.add]
theorem row3_app (a b : List Tok) : row3 (a ++ b) = row3 a ++ row3 b := by simp [row3]
theorem row3_len (l : List Tok) : (row3 l).length = l.length * 3 := by
  induction l with
  | nil => rfl
  | cons t l ih => have : row3 (t :: l) = cells3 t ++ row3 l := rfl; rw [this, List.length_append, ih]; simp [cells3]; omega
theorem row3_one (l : List Tok) : ∀ u ∈ row3 l, u.oneCell' = true := by
  intro u hu
  unfold row3 at hu
  obtain ⟨t, -, ht⟩ := List.mem_flatMap.1 hu
  simp [cells3] at ht
  rcases ht with h | h | h <;> subst h <;> rfl
theorem wpList_pushTk {w : World} {ops : Array Oper} {rest : List Oper} {o : Oper} {a : Act} {Q : Exit → Act → World → Prop} (hgd : o.guard = none) (s x : Operand)
    (ho : o.op = .call { callee := .builtin .append, args := #[s, x], argTypes := #[35, 35] }) (base : Nat) (v : Value) (ts us : List Tok) (hs : a.eval s = v) (hown : w.ownsRow base 44 3 v ts.length (row3 ts))
    (xv : Value) (hx : a.eval x = xv) (hu : SrcTk w us xv) (hl : ts.length + us.length ≤ 1000000) (hbase : base ≤ w.heap.size)
    (hK : ∀ v' w', w'.ownsRow base 44 3 v' (ts ++ us).length (row3 (ts ++ us)) → w.grownBy w' v.ownBlock → wpList Tryz.prog ops Q rest (a.put o.dst v') w') :
    wpList Tryz.prog ops Q (o :: rest) a w := by
  obtain ⟨i, hi, hz, h1, h2⟩ := info_parts Tryz.info44
  rw [List.length_append, row3_app] at hK
  rcases hu with ⟨rfl, rfl⟩ | ⟨ad, c, rfl, hc⟩
  · exact wpList_append_own_none hgd s x 35 ho base 44 i 3 Tryz.underlying35 hi v ts.length (row3 ts) hs hown hx (hK v w (by simpa [row3] using hown) (World.grownBy.refl w _))
  · exact wpList_append_own w hgd s x 35 ho base 44 i _ 3 32 Tryz.underlying35 hi hz h1 h2 rfl (by decide) v ts.length (row3 ts) hs hown ad us.length c (row3 us) hx (row3_len us) hc (row3_one us) (by unfold maxLen; omega) (by omega) hbase
      fun v' w' h3 h4 _ => hK v' w' h3 h4
/-- Appended to nil. -/
theorem wpList_copyTk {w : World} {ops : Array Oper} {rest : List Oper} {o : Oper} {a : Act} {Q : Exit → Act → World → Prop} (hgd : o.guard = none) (s x : Operand)
    (ho : o.op = .call { callee := .builtin .append, args := #[s, x], argTypes := #[35, 35] }) (us : List Tok) (hs : a.eval s = .slice none 0 0)
    (xv : Value) (hx : a.eval x = xv) (hu : SrcTk w us xv) (hl : us.length ≤ 1000000)
    (hK : ∀ v' w', w'.ownsRow w.heap.size 44 3 v' us.length (row3 us) → Below w.heap.size w w' → wpList Tryz.prog ops Q rest (a.put o.dst v') w') :
    wpList Tryz.prog ops Q (o :: rest) a w := by
  refine wpList_pushTk hgd s x ho w.heap.size (.slice none 0 0) [] us hs (World.ownsRow_nil _ _ _ _) xv hx hu (by simpa using hl) (Nat.le_refl _) fun v' w' h1 h2 => ?_
  exact hK v' w' (by simpa using h1) ⟨h2.os, h2.tape, h2.output, h2.size, fun k hk => h2.block k hk (by simp [Value.ownBlock])⟩
theorem own_ge {w : World} {base : Nat} {e : TypeId} {size : Nat} {v : Value} {n : Nat} {xs : List Value} (h : w.ownsRow base e size v n xs) : ∀ k, v.ownBlock = some k → base ≤ k := by
  intro k hk
  rcases h.2 with ⟨rfl, -⟩ | ⟨g, cap, cur, rfl, hg, -⟩
  · cases hk
  · cases hk; exact hg
end Go.Proofs.YthphnacfidofbaaGreatDoor
