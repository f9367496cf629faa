/- Rows of numbers that a call owns; maps from numbers to true that it makes. -/
import Derived.Test.YtejlhfjhpminjaaTyBox
import Derived.Maps.OwnOps
import Derived.Maps.Views
namespace Go.Proofs.Ytejlhfjhpminjaa
open Go.RowKit Go.Maps Mth

theorem Try.info3 : (Try.prog.info? 3).map (fun i => (i.zero, i.size, i.bytes)) = some (some (.int .i64 0), 1, 8) := by kernel_rfl
def intV (z : Int) : Value := .int .i64 z
/-- The call owns the row, and it holds these numbers. -/
def RowI (w : World) (base : Nat) (v : Value) (zs : List Int) : Prop := w.ownsRow base 3 1 v zs.length (zs.map intV)
theorem rowI_nil (w : World) (base : Nat) : RowI w base (.slice none 0 0) [] := World.ownsRow_nil _ _ _ _
theorem RowI.kept {w w' : World} {base : Nat} {v : Value} {zs : List Int} {row : Option Nat} (h : RowI w base v zs) (hg : w.grownBy w' row) (hv : v.ownBlock = none ∨ v.ownBlock ≠ row) : RowI w' base v zs := World.ownsRow.kept h hg hv
theorem RowI.off {w : World} {base : Nat} {v : Value} {zs : List Int} (h : RowI w base v zs) {k : Nat} (hk : k < base) : v.ownBlock = none ∨ v.ownBlock ≠ some k := by
  cases hv : v.ownBlock with
  | none => exact .inl rfl
  | some b => have := (World.ownsRow.lt h b hv).1; exact .inr (by intro e; cases e; omega)
theorem RowI.slice {w : World} {base : Nat} {v : Value} {zs : List Int} (h : RowI w base v zs) : ∃ a cap, v = .slice a zs.length cap ∧ zs.length ≤ cap ∧ cap ≤ maxLen := by
  rcases h.2 with ⟨rfl, h0⟩ | ⟨g, cap, cur, rfl, _, _, hn, hm, _⟩
  · exact ⟨none, 0, by rw [h0], by omega, by simp⟩
  · exact ⟨_, cap, rfl, hn, hm⟩
/-- A slice of numbers, cell by cell. -/
def Ints (w : World) (v : Value) (zs : List Int) : Prop := ∃ a cap, v = .slice a zs.length cap ∧ zs.length ≤ cap ∧ cap ≤ maxLen ∧ ∀ (i : Nat) (x : Int), zs[i]? = some x → ∃ ad, a = some ad ∧ w.cell? (ad.add i) = some (.int .i64 x)
theorem RowI.ints {w : World} {base : Nat} {v : Value} {zs : List Int} (h : RowI w base v zs) : Ints w v zs := by
  rcases h.2 with ⟨rfl, h0⟩ | ⟨g, cap, cur, rfl, hg, hc, hn, hm, _⟩
  · have : zs = [] := List.eq_nil_of_length_eq_zero h0
    subst this
    exact ⟨none, 0, rfl, by simp, by simp, fun i x hx => by simp at hx⟩
  · refine ⟨_, cap, rfl, hn, hm, fun i x hx => ⟨_, rfl, World.ownsRow.cells h (g := g) rfl i _ ?_⟩⟩
    rw [List.getElem?_map, hx]; rfl
theorem Ints.lift {w w' : World} {v : Value} {zs : List Int} (h : Ints w v zs) (hb : Below w.heap.size w w') : Ints w' v zs := by
  obtain ⟨a, cap, hv, h1, h2, hc⟩ := h
  refine ⟨a, cap, hv, h1, h2, fun i x hx => ?_⟩
  obtain ⟨ad, ha, hcell⟩ := hc i x hx
  exact ⟨ad, ha, (hb.cell (World.block_lt_of_cell? _ _ hcell)).trans hcell⟩
theorem wpList_pushI {W : World} {Z : TypeId} {z : Int} {ops : Array Oper} {rest : List Oper} {o : Oper} {a : Act} {Q : Exit → Act → World → Prop} (hgd : o.guard = none) (s x : Operand)
    (ho : o.op = .call { callee := .builtin .append, args := #[s, x], argTypes := #[45, 45] })
    (base : Nat) (v : Value) (zs : List Int) (hs : a.eval s = v) (hrow : RowI W base v zs)
    (nn : Nat) (hnn : nn = W.heap.size) (hx : a.eval x = .slice (some ⟨nn, 0, none⟩) 1 1)
    (N : Nat) (hN : N = zs.length + 1) (hb : N ≤ 1000000) (hbase : base ≤ W.heap.size)
    (hK : ∀ (a' : Option Addr) (c' : Nat) (w' : World), RowI w' base (.slice a' N c') (zs ++ [z]) → W.grownBy w' v.ownBlock → wpList Try.prog ops Q rest (a.put o.dst (.slice a' N c')) w') :
    wpList Try.prog ops Q (o :: rest) a (W.alloc (.cells #[.int .i64 z] Z)) := by
  obtain ⟨i, hi, hz0, hz1, hz2⟩ := info_parts Try.info3
  subst hnn
  refine wpList_append_own_at _ hgd s x 45 ho base 3 i _ 1 8 Try.underlying45 hi hz0 hz1 hz2 rfl (by decide) v zs.length (zs.map intV) hs (World.ownsRow.alloc hrow _) ⟨W.heap.size, 0, none⟩ 1 1 [intV z] hx rfl (fun j u hj => ?_) (fun u hu => ?_) (by unfold maxLen; omega) (by omega) (by simp; omega) ?_
  · cases j with
    | zero => simp at hj; subst hj; simp [Addr.add, intV]
    | succ j => simp at hj
  · simp at hu; subst hu; rfl
  intro v' w' hown' hg _ _
  have hrow' : RowI w' base v' (zs ++ [z]) := by
    unfold RowI
    rw [List.length_append, List.map_append]
    exact hown'
  obtain ⟨a', c', rfl, _⟩ := hrow'.slice
  have e : (zs ++ [z]).length = N := by rw [List.length_append, hN]; rfl
  rw [e] at hrow' ⊢
  exact hK a' c' w' hrow' (grown_trans (World.grownBy_alloc W _ _) hg)

/-- The map of a list of numbers. -/
def setM (acc : List Int) : DataW Unit := acc.foldl (fun m x => m.put (.int .i64 x) (.lit (.bool true))) (.map [])
theorem atKey_fold (x : Int) (z : DataW Unit) : ∀ (acc : List Int) (m : DataW Unit), IsMap m →
    (acc.foldl (fun m y => m.put (.int .i64 y) (.lit (.bool true))) m).atKey (.int .i64 x) z = if acc.contains x then .lit (.bool true) else m.atKey (.int .i64 x) z := by
  intro acc
  induction acc with
  | nil => intro m _; rfl
  | cons y acc ih =>
    intro m hm
    rw [List.foldl_cons, ih _ (hm.put _ _)]
    by_cases hc : acc.contains x
    · have : (y :: acc).contains x = true := by simp at hc ⊢; exact .inr hc
      rw [if_pos hc, if_pos this]
    · rw [if_neg hc]
      by_cases hy : x = y
      · subst hy
        have : (x :: acc).contains x = true := by simp
        rw [if_pos this, atKey_put_same hm (by simp [WideAt.IsKeyLit])]
      · have : ¬ (y :: acc).contains x = true := by simp at hc ⊢; exact ⟨hy, hc⟩
        rw [if_neg this, atKey_put_other (by simp; exact hy)]
theorem atKey_setM (x : Int) (acc : List Int) : (setM acc).atKey (.int .i64 x) (.lit (.bool false)) = .lit (.bool (acc.contains x)) := by
  unfold setM
  rw [atKey_fold x _ acc _ isMap_empty]
  split
  · rename_i h; rw [h]
  · rename_i h
    have : acc.contains x = false := by simpa using h
    rw [this]; rfl
theorem setM_snoc (acc : List Int) (x : Int) : setM (acc ++ [x]) = (setM acc).put (.int .i64 x) (.lit (.bool true)) := by simp [setM, List.foldl_append]

/-- A look-up in such a map. -/
theorem wpList_lookup_bool {H : Type} {P : Program} (w : World) {ops : Array Oper} {rest : List Oper} {o : Oper} {a : Act} {Q : Exit → Act → World → Prop}
    (hg : o.guard = none) (m x : Operand) (t : TypeId) (hop : o.op = Op.lookup t m x false)
    (k e : TypeId) (K : Keyed P k) (ht : P.underlying t = some (.map k e)) (he : P.underlying e = some .bool) (hz : (zeroValue e).run P w = .ok (.bool false) w) (b n : Nat) (D : DataW H)
    (hm : a.eval m = .map (some b)) (hown : w.ownsMap P k (plainElem P e) b n D) (key : Value) (kl : Lit) (hx : a.eval x = key) (hkey : keyOf P k key = some kl)
    (c : Bool) (hD : D.atKey kl (.lit (.bool false)) = .lit (.bool c)) (hK : wpList P ops Q rest (a.put o.dst (.bool c)) w) :
    wpList P ops Q (o :: rest) a w := by
  refine wpList_plain hg fun K' hK' => ?_
  obtain ⟨v, ps, hrun, hv⟩ := hown.lookup K ht hz (plainElem_bool he false) hkey
  rw [hD] at hv
  have hvc : v = .bool c := by
    unfold plainElem at hv
    rw [he] at hv
    cases v <;> simp at hv
    obtain ⟨rfl, _⟩ := hv
    rfl
  subst hvc
  unfold Oper.wp
  simp [execOp, hop, hm, hx, hrun, Result.andThen]
  exact hK' _ _ hK
end Go.Proofs.Ytejlhfjhpminjaa
