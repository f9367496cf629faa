/- Schemes: what the reference asks of a type: the kinds and the TypeBound that occur. Schemes: a struct of six cells in a block of its own; schemes as values and as elements of rows; Mono and Equal of the reference. Schemes: the reference's Valid. Schemes: the reference's Close. Schemes: the reference's Free. -/
import Derived.Test.YtahiefgfhpkoeaaQN
import Derived.Test.YtahiefgfhpkoeaaQC
import Derived.Test.YtahiefgfhpkoeaaQD
namespace Go.Proofs.Ytahiefgfhpkoeaa
open Go.RowKit Go.Sort Go.Shelf Go.Maps Mth

mutual
/-- A node of this kind occurs. -/
def hasK (K : Int) : Ty → Bool
  | .mk k _ _ _ ts => k == K || hasKL K ts
def hasKL (K : Int) : List Ty → Bool
  | [] => false
  | t :: l => hasK K t || hasKL K l
end
theorem hasKL_step {K : Int} {l : List Ty} {j : Nat} {t : Ty} (h : l[j]? = some t) : hasKL K (l.drop j) = (hasK K t || hasKL K (l.drop (j + 1))) := by
  obtain ⟨hl, e⟩ := List.getElem?_eq_some_iff.1 h
  rw [List.drop_eq_getElem_cons hl, e]
  rfl
def ConAt (K : Int) (U : Ty) : Prop := ∀ (v : Value) (S : Nat → Prop) (w : World), Rep w S U v → Calls Try.prog 50 #[v, .int .i64 K] w fun e w' => e = .returned (.bool (hasK K U)) ∧ Below w.heap.size w w'
set_option maxHeartbeats 3200000 in
theorem contains_of (K : Int) (T : Ty) (H : ∀ U ∈ T.ts, ConAt K U) : ConAt K T := by
  intro v S w h
  obtain ⟨k, n, i, hm, s, eT, rfl, hn, hs⟩ := h.open
  have hb0 : ∀ X Z, Below w.heap.size w (w.alloc (.cells X Z)) := fun X Z => (Below.refl _ w).alloc (Nat.le_refl _) _
  obtain ⟨sa, sc, rfl, ⟨hc1, hc2⟩, hj⟩ := hs
  have HJ := Lib.hid hj
  have HH := Lib.hid H
  have HE : Hid (hasK K T = (k == K || hasKL K T.ts)) := by
    show _ = _
    conv => lhs; rw [eT]
    rfl
  clear h eT hn H hj
  unfold maxLen at hc2
  obtain ⟨l, hl⟩ : ∃ l, l = T.ts := ⟨_, rfl⟩
  rw [← hl] at HJ HH HE hc1 ⊢
  clear hl
  cases hk : (k == K) with
  | true =>
    rw [hk] at HE
    go_enter Try.func50, Try.ntmps50
    go_wp2
    go_ret
    exact ⟨ret_bool (by rw [HE.out]; rfl), hb0 _ _⟩
  | false =>
    rw [hk] at HE
    have HE0 : Hid (hasKL K l = hasKL K (l.drop 0)) := by show _ = _; simp
    obtain ⟨m, hmm⟩ : ∃ m, m = l.length := ⟨_, rfl⟩
    rw [← hmm] at hc1 ⊢
    have HM := Lib.hid hmm
    clear hmm
    go_enter Try.func50, Try.ntmps50
    go_wp2
    go_loopw [5] (fun x wr => ∃ j : Nat, j ≤ m ∧ x = .int .i64 j ∧ Hid (hasKL K l = hasKL K (l.drop j)) ∧ Below (w.heap.size + 1) (w.alloc (.cells #[.int .i64 k, .string n, .int .i64 i, .int .i64 hm, .slice sa m sc] 25)) wr) (fun x _ => m - (intOf x).toNat)
    case atStart => exact ⟨0, Nat.zero_le _, rfl, HE0, Below.refl _ _⟩
    case round =>
      obtain ⟨j, hj, rfl, HT, hb⟩ := hrel
      have b4 := box_cell hb 4 (.slice sa m sc) (by simp)
      have hbw := box_below hb
      have hsz := hb.size
      by_cases hlt : j < m
      · obtain ⟨T, hT⟩ : ∃ x, l[j]? = some x := ⟨_, List.getElem?_eq_getElem (by rw [← HM.out]; exact hlt)⟩
        have HTm : Hid (T ∈ l) := List.mem_of_getElem? hT
        obtain ⟨ad, x, rfl, hS, h5, hx⟩ := HJ.out j T hT
        have HS := Lib.hid (hasKL_step (K := K) hT)
        clear hT
        have hx' := hx.lift hbw
        have g5 := h5.kept (hbw.block _ h5.lt)
        obtain ⟨k', n', i', h', s', eT, rfl, hn2, hs2⟩ := hx'.open
        obtain ⟨q0, q1, q2, q3, q4⟩ := five_at g5
        obtain ⟨sa', sc', rfl, -⟩ := hs2
        clear h5 hx g5 eT hn2 hS
        have HX := Lib.hid hx'
        clear hx'
        have hji : (j : Int) < (m : Int) := by omega
        generalize T.ts.length = sn' at *
        have HC := Lib.hid (HH.out T HTm.out _ S wr HX.out)
        cases hq : hasK K T with
        | false =>
          rw [hq] at HC
          have HS2 : Hid (hasKL K l = hasKL K (l.drop (j + 1))) := by
            show _ = _
            rw [HT.out, HS.out, hq]; rfl
          clear hq
          go_wp2_with (go_at_call 50; refine HC.out.mono ?_; rintro e w1 ⟨rfl, hb1⟩)
          go_roundw
          case rel => exact ⟨j + 1, hlt, by go_num, HS2, hb.trans (hb1.mono (by simp at hsz; omega))⟩
          case measure => simp [intOf]; omega
        | true =>
          rw [hq] at HC
          have HS2 : Hid (hasKL K l = true) := by
            show _ = _
            rw [HT.out, HS.out, hq]; rfl
          clear hq
          go_wp2_with (go_at_call 50; refine HC.out.mono ?_; rintro e w1 ⟨rfl, hb1⟩)
          go_ret
          exact ⟨ret_bool (by rw [HE.out, HS2.out]; simp), hbw.trans (hb1.mono hbw.size)⟩
      · have HS2 : Hid (hasKL K l = false) := by
          show _ = _
          rw [HT.out, List.drop_eq_nil_of_le (by rw [← HM.out]; omega)]; rfl
        go_wp2
        go_ret
        exact ⟨ret_bool (by rw [HE.out, HS2.out]; simp), hbw⟩
theorem contains_any (K : Int) : ∀ T : Ty, ConAt K T := Ty.induct fun T ih => contains_of K T ih

mutual
/-- The numbers of the TypeBound, each once. -/
def bdn : List Int → Ty → List Int
  | A, .mk k _ i _ ts => bdnL (if (k == 2 && !A.contains i) = true then A ++ [i] else A) ts
def bdnL : List Int → List Ty → List Int
  | A, [] => A
  | A, t :: l => bdnL (bdn A t) l
end
theorem bdnL_append : ∀ (l : List Ty) (A : List Int) (m : List Ty), bdnL A (l ++ m) = bdnL (bdnL A l) m := by
  intro l
  induction l with
  | nil => intro A m; rw [List.nil_append, bdnL]
  | cons t l ih => intro A m; rw [List.cons_append, bdnL, ih, bdnL]
def BdnLen (T : Ty) : Prop := ∀ A : List Int, (bdn A T).length ≤ A.length + nodes T
theorem bdnL_len : ∀ (l : List Ty), (∀ U ∈ l, BdnLen U) → ∀ A : List Int, (bdnL A l).length ≤ A.length + nodesL l := by
  intro l
  induction l with
  | nil => intro _ A; rw [bdnL]; omega
  | cons t l ih =>
    intro hm A
    rw [bdnL]
    have h1 := ih (fun U hU => hm U (by simp [hU])) (bdn A t)
    have h2 := hm t (by simp) A
    have h3 : nodesL (t :: l) = nodes t + nodesL l := rfl
    omega
theorem bdn_len : ∀ T : Ty, BdnLen T := Ty.induct fun T ih A => by
  obtain ⟨k, n, i, h, ts⟩ := T
  rw [bdn]
  have h1 := bdnL_len ts ih (if (k == 2 && !A.contains i) = true then A ++ [i] else A)
  have h2 : nodes (.mk k n i h ts) = nodesL ts + 1 := rfl
  split at h1
  · simp at h1; rw [if_pos (by assumption)]; omega
  · rw [if_neg (by assumption)]; omega
theorem bdnL_len' (l : List Ty) (A : List Int) : (bdnL A l).length ≤ A.length + nodesL l := bdnL_len l (fun U _ => bdn_len U) A
theorem RowI.lift {w w' : World} {base : Nat} {v : Value} {zs : List Int} (h : RowI w base v zs) (hb : Below w.heap.size w w') : RowI w' base v zs := h.kept (below_gr hb none) (by cases v.ownBlock <;> simp)
/-- One append of one number; whose row it is. -/
theorem wpList_pushIo {W : World} {Z : TypeId} {z : Int} {ops : Array Oper} {rest : List Oper} {o : Oper} {a : Act} {Q : Exit → Act → World → Prop} (hgd : o.guard = none) (s x : Operand)
    (ho : o.op = .call { callee := .builtin .append, args := #[s, x], argTypes := #[22, 22] })
    (base : Nat) (v : Value) (zs : List Int) (hs : a.eval s = v) (hrow : RowI W base v zs)
    (nn : Nat) (hnn : nn = W.heap.size) (hx : a.eval x = .slice (some ⟨nn, 0, none⟩) 1 1)
    (N : Nat) (hN : N = zs.length + 1) (hb : N ≤ 1000000) (hbase : base ≤ W.heap.size)
    (hK : ∀ (a' : Option Addr) (c' : Nat) (w' : World), RowI w' base (.slice a' N c') (zs ++ [z]) → W.grownBy w' v.ownBlock → Own W v (.slice a' N c') → wpList Try.prog ops Q rest (a.put o.dst (.slice a' N c')) w') :
    wpList Try.prog ops Q (o :: rest) a (W.alloc (.cells #[.int .i64 z] Z)) := by
  obtain ⟨i, hi, hz0, hz1, hz2⟩ := info_parts Try.info3
  subst hnn
  refine wpList_append_own_at _ hgd s x 22 ho base 3 i _ 1 8 Try.underlying22 hi hz0 hz1 hz2 rfl (by decide) v zs.length (zs.map intV) hs (World.ownsRow.alloc hrow _) ⟨W.heap.size, 0, none⟩ 1 1 [intV z] hx rfl (fun j u hj => ?_) (fun u hu => ?_) (by unfold maxLen; omega) (by omega) (by simp; omega) ?_
  · cases j with
    | zero => simp at hj; subst hj; simp [Addr.add, intV]
    | succ j => simp at hj
  · simp at hu; subst hu; rfl
  intro v' w' hown' hg _ hloc
  have hrow' : RowI w' base v' (zs ++ [z]) := by
    unfold RowI
    rw [List.length_append, List.map_append]
    exact hown'
  obtain ⟨a', c', rfl, _⟩ := hrow'.slice
  have e : (zs ++ [z]).length = N := by rw [List.length_append, hN]; rfl
  rw [e] at hrow' hloc ⊢
  refine hK a' c' w' hrow' (grown_trans (World.grownBy_alloc W _ _) hg) fun b hb' => ?_
  rcases hloc with h | h
  · exact .inl (h ▸ hb')
  · rw [hb'] at h
    have := Option.some.inj h
    right
    rw [this]; simp
set_option maxRecDepth 100000 in
set_option maxHeartbeats 6400000 in
theorem bounds_any : ∀ (m : Nat) (T : Ty), nodes T ≤ m → ∀ (base : Nat) (S : Nat → Prop) (found u : Value) (acc : List Int) (w : World), base ≤ w.heap.size → acc.length + nodes T ≤ 1000000 → (∀ b, S b → b < base) → RowI w base found acc → Rep w S T u →
    Calls Try.prog 51 #[found, u] w fun e w' => ∃ v', e = .returned v' ∧ RowI w' base v' (bdn acc T) ∧ w.grownBy w' found.ownBlock ∧ Own w found v' := by
  intro m
  induction m with
  | zero => intro T hm; have := nodes_pos T; omega
  | succ m ih =>
    intro T hm base S found u acc w hbase hN hS hrow h
    obtain ⟨k, n, i, hh, s, eT, rfl, hn, hs⟩ := h.open
    have HI := Lib.hid hrow.ints
    obtain ⟨fa, fc, rfl, hfc, -⟩ := hrow.slice
    have HA := Lib.hid hs
    obtain ⟨sa, sc, rfl, ⟨hsc, hsc2⟩, -⟩ := hs
    have hnT : nodes T = nodesL T.ts + 1 := by cases T; rfl
    obtain ⟨A1, hA1⟩ : ∃ A1, A1 = if (k == 2 && !acc.contains i) = true then acc ++ [i] else acc := ⟨_, rfl⟩
    have HE : Hid (bdn acc T = bdnL A1 T.ts) := by
      show _ = _
      rw [hA1]
      conv => lhs; rw [eT]
      rfl
    have hA1n : A1.length ≤ acc.length + 1 := by rw [hA1]; split <;> simp
    have HO := Lib.hid (fun b (e : (Value.slice fa acc.length fc).ownBlock = some b) => World.ownsRow.lt hrow b e)
    have hIH : ∀ (j : Nat) (U : Ty), T.ts[j]? = some U → ∀ (f x : Value) (w' : World), base ≤ w'.heap.size → RowI w' base f (bdnL A1 (T.ts.take j)) → Rep w' S U x →
        Calls Try.prog 51 #[f, x] w' fun e w'' => ∃ v', e = .returned v' ∧ RowI w'' base v' (bdnL A1 (T.ts.take (j + 1))) ∧ w'.grownBy w'' f.ownBlock ∧ Own w' f v' := by
      intro j U hU f x w' hb' hr' hx'
      have e : bdnL A1 (T.ts.take (j + 1)) = bdn (bdnL A1 (T.ts.take j)) U := by rw [List.take_add_one, hU, bdnL_append]; rfl
      have h1 := nodesL_take_add hU
      have h2 := bdnL_len' (T.ts.take j) A1
      rw [e]
      exact ih U (by omega) base S f x _ w' hb' (by omega) hS hr' hx'
    have HIH := Lib.hid hIH
    have hsnN : T.ts.length ≤ 1000000 := by have := len_nodesL T.ts; omega
    have hlen : acc.length + 1 ≤ 1000000 := by omega
    obtain ⟨sn, hsn⟩ : ∃ c, c = T.ts.length := ⟨_, rfl⟩
    have HSN := Lib.hid hsn
    rw [← hsn] at HA hsnN ⊢
    have hba : ∀ X, Below w.heap.size w (w.alloc (.cells X 25)) := fun X => (Below.refl _ w).alloc (Nat.le_refl _) _
    obtain ⟨V, hV⟩ : ∃ V, V = w.alloc (.cells #[.int .i64 k, .string n, .int .i64 i, .int .i64 hh, .slice sa sn sc] 25) := ⟨_, rfl⟩
    have hVB : Below w.heap.size w V := hV ▸ hba _
    have HRow0 : Hid (RowI V base (.slice fa acc.length fc) acc) := hrow.lift hVB
    have HVB := Lib.hid hVB
    have HI1 : Hid (Ints V (.slice fa acc.length fc) acc) := HI.out.lift hVB
    have HB4 : Hid (V.cell? ⟨w.heap.size, 4, none⟩ = some (.slice sa sn sc)) := by show _ = _; rw [hV]; simp
    have hVs : V.heap.size = w.heap.size + 1 := by rw [hV]; simp
    have HVs := Lib.hid hVs
    have HHas : Hid (Calls Try.prog 23 #[.slice fa acc.length fc, .int .i64 i] V fun e w' => e = .returned (.bool (acc.contains i)) ∧ V = w') := has_any _ _ _ _ HI1.out
    have HVe := Lib.hid hV
    have HNA : (k == 2 && !acc.contains i) = false → Hid (A1 = acc) := fun h => by show _ = _; rw [hA1, h]; rfl
    have HYA : (k == 2 && !acc.contains i) = true → Hid (A1 = acc ++ [i]) := fun h => by show _ = _; rw [hA1, h]; rfl
    clear hV hrow h eT hn hsc hsc2 hIH ih hA1 hsn hnT hba hVs hVB HI
    obtain ⟨c, hcc⟩ : ∃ c, c = acc.length := ⟨_, rfl⟩
    rw [← hcc] at hfc HO HRow0 HI1 HHas hlen hA1n ⊢
    have HC := Lib.hid hcc
    clear hcc
    have tail : True := trivial
    cases hk : (k == 2) with
    | false =>
      have HA2 := HNA (by rw [hk]; rfl)
      clear HNA HYA tail
      go_enter Try.func51, Try.ntmps51
      go_upto_region 3 with fail
      have HRow2 : Hid (RowI V base (.slice fa c fc) A1) := by rw [HA2.out]; exact HRow0.out
      rw [← HVe.out]
      go_wp2
      go_loopw [0, 5] (fun f x wr => ∃ j : Nat, j ≤ sn ∧ x = .int .i64 j ∧ Hid (RowI wr base f (bdnL A1 (T.ts.take j))) ∧ Hid (V.grownBy wr (Value.slice fa c fc).ownBlock) ∧ Hid (Own V (.slice fa c fc) f)) (fun _ x _ => sn - (intOf x).toNat)
      case atStart => exact ⟨0, Nat.zero_le _, rfl, HRow2, World.grownBy.refl _ _, Own.refl _ _⟩
      case round =>
        obtain ⟨j, hj, rfl, HRow, HGr, HOw⟩ := hrel
        have hlt0 : w.heap.size < V.heap.size := by rw [HVs.out]; omega
        have hb4 : wr.cell? ⟨w.heap.size, 4, none⟩ = some (.slice sa sn sc) := (HGr.out.cell_far ⟨w.heap.size, 4, none⟩ hlt0 (fun e => Nat.lt_irrefl _ (HO.out _ e.symm).2)).trans HB4.out
        have hVb : w.heap.size ≤ V.heap.size := by rw [HVs.out]; omega
        have hbase' := Nat.le_trans hbase (Nat.le_trans hVb HGr.out.size)
        by_cases hlt : j < sn
        · obtain ⟨U, hU⟩ : ∃ x, T.ts[j]? = some x := ⟨_, List.getElem?_eq_getElem (by rw [← HSN.out]; exact hlt)⟩
          have HB : Below base w wr := Below.grown (HVB.out.mono hbase) HGr.out (Nat.le_trans hbase hVb) (fun b e => (HO.out b e).1)
          have HC2 := Lib.hid (HIH.out j U hU)
          obtain ⟨a2, c2, hv2, -, hj2⟩ := HA.out
          obtain ⟨ad, x, had, hSa, h5, hx⟩ := hj2 j U hU
          have hbS : ∀ b, S b → b < w.heap.size → wr.heap[b]? = w.heap[b]? := fun b hb' _ => HB.block b (hS b hb')
          have HXr := Lib.hid (hx.kept (fun _ h => h) hbS)
          have g5 := h5.kept (hbS _ hSa h5.lt)
          have hsa : sa = some ad := by simp at hv2; rw [hv2.1, had]
          subst hsa
          obtain ⟨yk, yn, yi, yh, ys, -, rfl, -, hys⟩ := hx.open
          obtain ⟨ya, yc, rfl, -⟩ := hys
          obtain ⟨q0, q1, q2, q3, q4⟩ := five_at g5
          clear hU h5 hx hj2 hv2 had hbS HB g5 hSa
          generalize U.ts.length = yn' at *
          have hji : (j : Int) < (sn : Int) := by omega
          go_wp2_with (go_at_call 51; refine (HC2.out u0 _ wr hbase' HRow.out HXr.out).mono ?_; rintro e w2 ⟨v', rfl, hrow2, hg2, how2⟩)
          have HRow3 := Lib.hid hrow2
          have HG3 : Hid (V.grownBy w2 (Value.slice fa c fc).ownBlock) := HGr.out.andThen hg2 (fun b e => (HOw.out b e).symm)
          have HO3 : Hid (Own V (.slice fa c fc) v') := fun b e => (how2 b e).elim (HOw.out b) (fun h => .inr (Nat.le_trans HGr.out.size h))
          clear hrow2 hg2 how2
          go_roundw
          case rel => exact ⟨j + 1, hlt, by go_num, HRow3, HG3, HO3⟩
          case measure => simp [intOf]; omega
        · have HRow3 : Hid (RowI wr base u0 (bdnL A1 T.ts)) := by
            show RowI _ _ _ _
            have := HRow.out
            rwa [List.take_of_length_le (by rw [← HSN.out]; omega)] at this
          go_wp2
          go_ret
          exact ⟨_, rfl, by rw [HE.out]; exact HRow3.out, grown_trans (below_gr HVB.out _) HGr.out, fun b e => (HOw.out b e).imp id (Nat.le_trans hVb)⟩
    | true =>
      cases hq : acc.contains i with
      | true =>
        have HA2 := HNA (by rw [hk, hq]; rfl)
        rw [hq] at HHas
        clear HNA HYA tail hq
        have HRow2 : Hid (RowI V base (.slice fa c fc) A1) := by rw [HA2.out]; exact HRow0.out
        have HHas' : Hid (Calls Try.prog 23 #[.slice fa c fc, .int .i64 i] (w.alloc (.cells #[.int .i64 k, .string n, .int .i64 i, .int .i64 hh, .slice sa sn sc] 25)) fun e w' => e = .returned (.bool true) ∧ V = w') := by rw [← HVe.out]; exact HHas.out
        go_enter Try.func51, Try.ntmps51
        go_upto_region 3 with (go_at_call 23; refine HHas'.out.mono ?_; rintro e w2 ⟨rfl, rfl⟩)
        go_wp2
        go_loopw [0, 5] (fun f x wr => ∃ j : Nat, j ≤ sn ∧ x = .int .i64 j ∧ Hid (RowI wr base f (bdnL A1 (T.ts.take j))) ∧ Hid (V.grownBy wr (Value.slice fa c fc).ownBlock) ∧ Hid (Own V (.slice fa c fc) f)) (fun _ x _ => sn - (intOf x).toNat)
        case atStart => exact ⟨0, Nat.zero_le _, rfl, HRow2, World.grownBy.refl _ _, Own.refl _ _⟩
        case round =>
          obtain ⟨j, hj, rfl, HRow, HGr, HOw⟩ := hrel
          have hlt0 : w.heap.size < V.heap.size := by rw [HVs.out]; omega
          have hb4 : wr.cell? ⟨w.heap.size, 4, none⟩ = some (.slice sa sn sc) := (HGr.out.cell_far ⟨w.heap.size, 4, none⟩ hlt0 (fun e => Nat.lt_irrefl _ (HO.out _ e.symm).2)).trans HB4.out
          have hVb : w.heap.size ≤ V.heap.size := by rw [HVs.out]; omega
          have hbase' := Nat.le_trans hbase (Nat.le_trans hVb HGr.out.size)
          by_cases hlt : j < sn
          · obtain ⟨U, hU⟩ : ∃ x, T.ts[j]? = some x := ⟨_, List.getElem?_eq_getElem (by rw [← HSN.out]; exact hlt)⟩
            have HB : Below base w wr := Below.grown (HVB.out.mono hbase) HGr.out (Nat.le_trans hbase hVb) (fun b e => (HO.out b e).1)
            have HC2 := Lib.hid (HIH.out j U hU)
            obtain ⟨a2, c2, hv2, -, hj2⟩ := HA.out
            obtain ⟨ad, x, had, hSa, h5, hx⟩ := hj2 j U hU
            have hbS : ∀ b, S b → b < w.heap.size → wr.heap[b]? = w.heap[b]? := fun b hb' _ => HB.block b (hS b hb')
            have HXr := Lib.hid (hx.kept (fun _ h => h) hbS)
            have g5 := h5.kept (hbS _ hSa h5.lt)
            have hsa : sa = some ad := by simp at hv2; rw [hv2.1, had]
            subst hsa
            obtain ⟨yk, yn, yi, yh, ys, -, rfl, -, hys⟩ := hx.open
            obtain ⟨ya, yc, rfl, -⟩ := hys
            obtain ⟨q0, q1, q2, q3, q4⟩ := five_at g5
            clear hU h5 hx hj2 hv2 had hbS HB g5 hSa
            generalize U.ts.length = yn' at *
            have hji : (j : Int) < (sn : Int) := by omega
            go_wp2_with (go_at_call 51; refine (HC2.out u0 _ wr hbase' HRow.out HXr.out).mono ?_; rintro e w2 ⟨v', rfl, hrow2, hg2, how2⟩)
            have HRow3 := Lib.hid hrow2
            have HG3 : Hid (V.grownBy w2 (Value.slice fa c fc).ownBlock) := HGr.out.andThen hg2 (fun b e => (HOw.out b e).symm)
            have HO3 : Hid (Own V (.slice fa c fc) v') := fun b e => (how2 b e).elim (HOw.out b) (fun h => .inr (Nat.le_trans HGr.out.size h))
            clear hrow2 hg2 how2
            go_roundw
            case rel => exact ⟨j + 1, hlt, by go_num, HRow3, HG3, HO3⟩
            case measure => simp [intOf]; omega
          · have HRow3 : Hid (RowI wr base u0 (bdnL A1 T.ts)) := by
              show RowI _ _ _ _
              have := HRow.out
              rwa [List.take_of_length_le (by rw [← HSN.out]; omega)] at this
            go_wp2
            go_ret
            exact ⟨_, rfl, by rw [HE.out]; exact HRow3.out, grown_trans (below_gr HVB.out _) HGr.out, fun b e => (HOw.out b e).imp id (Nat.le_trans hVb)⟩
      | false =>
        have HA2 := HYA (by rw [hk, hq]; rfl)
        rw [hq] at HHas
        clear HNA HYA tail hq
        have HHas' : Hid (Calls Try.prog 23 #[.slice fa c fc, .int .i64 i] (w.alloc (.cells #[.int .i64 k, .string n, .int .i64 i, .int .i64 hh, .slice sa sn sc] 25)) fun e w' => e = .returned (.bool false) ∧ V = w') := by rw [← HVe.out]; exact HHas.out
        have HB2 : Hid (V.cell? ⟨w.heap.size, 2, none⟩ = some (.int .i64 i)) := by show _ = _; rw [HVe.out]; simp
        have hb2 := HB2.out
        have hN1 : c + 1 = acc.length + 1 := by rw [HC.out]
        have HNN := Lib.hid hN1
        have hbV : base ≤ V.heap.size := by rw [HVs.out]; omega
        clear hN1
        go_enter Try.func51, Try.ntmps51
        go_upto_region 3 with (first
          | (go_at_call 23; refine HHas'.out.mono ?_; rintro e w2 ⟨rfl, rfl⟩)
          | (at_builtin; refine wpList_pushIo rfl _ _ rfl base (.slice fa c fc) acc rfl HRow0.out V.heap.size rfl rfl (c + 1) HNN.out hlen hbV ?_; intro a1 c1 V1 hrow1 hg1 how1))
        have HRow2 : Hid (RowI V1 base (.slice a1 (c + 1) c1) A1) := by rw [HA2.out]; exact hrow1
        have HG1 := Lib.hid hg1
        have HO1 := Lib.hid how1
        clear hrow1 hg1 how1
        go_wp2
        go_loopw [0, 5] (fun f x wr => ∃ j : Nat, j ≤ sn ∧ x = .int .i64 j ∧ Hid (RowI wr base f (bdnL A1 (T.ts.take j))) ∧ Hid (V.grownBy wr (Value.slice fa c fc).ownBlock) ∧ Hid (Own V (.slice fa c fc) f)) (fun _ x _ => sn - (intOf x).toNat)
        case atStart => exact ⟨0, Nat.zero_le _, rfl, HRow2, HG1, HO1⟩
        case round =>
          obtain ⟨j, hj, rfl, HRow, HGr, HOw⟩ := hrel
          have hlt0 : w.heap.size < V.heap.size := by rw [HVs.out]; omega
          have hb4 : wr.cell? ⟨w.heap.size, 4, none⟩ = some (.slice sa sn sc) := (HGr.out.cell_far ⟨w.heap.size, 4, none⟩ hlt0 (fun e => Nat.lt_irrefl _ (HO.out _ e.symm).2)).trans HB4.out
          have hVb : w.heap.size ≤ V.heap.size := by rw [HVs.out]; omega
          have hbase' := Nat.le_trans hbase (Nat.le_trans hVb HGr.out.size)
          by_cases hlt : j < sn
          · obtain ⟨U, hU⟩ : ∃ x, T.ts[j]? = some x := ⟨_, List.getElem?_eq_getElem (by rw [← HSN.out]; exact hlt)⟩
            have HB : Below base w wr := Below.grown (HVB.out.mono hbase) HGr.out (Nat.le_trans hbase hVb) (fun b e => (HO.out b e).1)
            have HC2 := Lib.hid (HIH.out j U hU)
            obtain ⟨a2, c2, hv2, -, hj2⟩ := HA.out
            obtain ⟨ad, x, had, hSa, h5, hx⟩ := hj2 j U hU
            have hbS : ∀ b, S b → b < w.heap.size → wr.heap[b]? = w.heap[b]? := fun b hb' _ => HB.block b (hS b hb')
            have HXr := Lib.hid (hx.kept (fun _ h => h) hbS)
            have g5 := h5.kept (hbS _ hSa h5.lt)
            have hsa : sa = some ad := by simp at hv2; rw [hv2.1, had]
            subst hsa
            obtain ⟨yk, yn, yi, yh, ys, -, rfl, -, hys⟩ := hx.open
            obtain ⟨ya, yc, rfl, -⟩ := hys
            obtain ⟨q0, q1, q2, q3, q4⟩ := five_at g5
            clear hU h5 hx hj2 hv2 had hbS HB g5 hSa
            generalize U.ts.length = yn' at *
            have hji : (j : Int) < (sn : Int) := by omega
            go_wp2_with (go_at_call 51; refine (HC2.out u0 _ wr hbase' HRow.out HXr.out).mono ?_; rintro e w2 ⟨v', rfl, hrow2, hg2, how2⟩)
            have HRow3 := Lib.hid hrow2
            have HG3 : Hid (V.grownBy w2 (Value.slice fa c fc).ownBlock) := HGr.out.andThen hg2 (fun b e => (HOw.out b e).symm)
            have HO3 : Hid (Own V (.slice fa c fc) v') := fun b e => (how2 b e).elim (HOw.out b) (fun h => .inr (Nat.le_trans HGr.out.size h))
            clear hrow2 hg2 how2
            go_roundw
            case rel => exact ⟨j + 1, hlt, by go_num, HRow3, HG3, HO3⟩
            case measure => simp [intOf]; omega
          · have HRow3 : Hid (RowI wr base u0 (bdnL A1 T.ts)) := by
              show RowI _ _ _ _
              have := HRow.out
              rwa [List.take_of_length_le (by rw [← HSN.out]; omega)] at this
            go_wp2
            go_ret
            exact ⟨_, rfl, by rw [HE.out]; exact HRow3.out, grown_trans (below_gr HVB.out _) HGr.out, fun b e => (HOw.out b e).imp id (Nat.le_trans hVb)⟩
end Go.Proofs.Ytahiefgfhpkoeaa

namespace Go.Proofs.Ytahiefgfhpkoeaa
open Go.RowKit Go.Sort Go.Shelf Go.Maps Mth

/-- A value that is a scheme. -/
def RepC (w : World) (S : Nat → Prop) (c : Int × Ty) (v : Value) : Prop := ∃ k n i h s, v = .agg #[.int .i64 c.1, .int .i64 k, .string n, .int .i64 i, .int .i64 h, s] ∧ Rep w S c.2 (.agg #[.int .i64 k, .string n, .int .i64 i, .int .i64 h, s])
theorem RepC.kept {w w' : World} {S S' : Nat → Prop} (hS : ∀ b, S b → S' b) (hw : ∀ b, S b → b < w.heap.size → w'.heap[b]? = w.heap[b]?) {c : Int × Ty} {v : Value} (h : RepC w S c v) : RepC w' S' c v := by
  obtain ⟨k, n, i, hh, s, e, h⟩ := h
  exact ⟨k, n, i, hh, s, e, h.kept hS hw⟩
theorem RepC.lift {w w' : World} {S : Nat → Prop} {c : Int × Ty} {v : Value} (h : RepC w S c v) (hb : Below w.heap.size w w') : RepC w' S c v := h.kept (fun _ h => h) fun b _ hl => hb.block b hl
theorem RepC.imp {w : World} {S S' : Nat → Prop} (hS : ∀ b, S b → S' b) {c : Int × Ty} {v : Value} (h : RepC w S c v) : RepC w S' c v := h.kept hS fun _ _ _ => rfl
theorem RepC.bound {w : World} {S : Nat → Prop} {c : Int × Ty} {v : Value} (h : RepC w S c v) : RepC w (fun b => S b ∧ b < w.heap.size) c v := by
  obtain ⟨k, n, i, hh, s, e, h⟩ := h
  exact ⟨k, n, i, hh, s, e, h.bound⟩
theorem RepC.form {w : World} {S : Nat → Prop} {c : Int × Ty} {v : Value} (h : RepC w S c v) : ∃ k n i h a m q, v = .agg #[.int .i64 c.1, .int .i64 k, .string n, .int .i64 i, .int .i64 h, .slice a m q] ∧ Rep w S c.2 (.agg #[.int .i64 k, .string n, .int .i64 i, .int .i64 h, .slice a m q]) := by
  obtain ⟨k, n, i, hh, s, e, h⟩ := h
  obtain ⟨k', n', i', h', a, m, q, e'⟩ := h.form
  have e2 := e'
  simp only [Value.agg.injEq, Array.mk.injEq, List.cons.injEq] at e2
  obtain ⟨r0, r1, r2, r3, r4, -⟩ := e2
  rw [r4] at e h
  exact ⟨k, n, i, hh, a, m, q, e, h⟩
theorem elInfo_sc : (Try.prog.info? 27).map (fun i => (i.zero, i.size, i.bytes)) = some (some (.agg #[.int .i64 0, .int .i64 0, .string ByteArray.empty, .int .i64 0, .int .i64 0, .slice none 0 0]), 6, 72) := by kernel_rfl
/-- Schemes as elements. -/
def ScE : El (Int × Ty) where
  k := 6
  by_ := 72
  e := 27
  t := 57
  rep w S p c := ∃ c', c = .int .i64 p.1 :: c' ∧ Rep w S p.2 (.agg c'.toArray)
  hk := by decide
  und := Try.underlying57
  info := by obtain ⟨i, h0, h1, h2, h3⟩ := info_parts elInfo_sc; exact ⟨i, _, h0, h1, h2, h3, rfl⟩
  hby := by decide
  len h := by
    obtain ⟨c', rfl, h⟩ := h
    obtain ⟨h1, h2⟩ := h.cells
    refine ⟨by simp [h1], fun u hu => ?_⟩
    rcases List.mem_cons.1 hu with rfl | hu
    · rfl
    · exact h2 u hu
  kept h1 h2 h := by
    obtain ⟨c', e, h⟩ := h
    exact ⟨c', e, h.kept h1 h2⟩
  bound h := by
    obtain ⟨c', e, h⟩ := h
    exact ⟨c', e, h.bound⟩
/-- Block B is a struct with these cells. -/
def BoxC (w : World) (B : Nat) (c0 c1 c2 c3 c4 c5 : Value) : Prop := w.heap[B]? = some (.cells #[c0, c1, c2, c3, c4, c5] 27 (0, 0))
theorem BoxC.cells {w : World} {B : Nat} {c0 c1 c2 c3 c4 c5 : Value} (h : BoxC w B c0 c1 c2 c3 c4 c5) :
    (w.cell? ⟨B, 0, none⟩ = some c0 ∧ w.cell? ⟨B, 1, none⟩ = some c1 ∧ w.cell? ⟨B, 2, none⟩ = some c2 ∧ w.cell? ⟨B, 3, none⟩ = some c3 ∧ w.cell? ⟨B, 4, none⟩ = some c4 ∧ w.cell? ⟨B, 5, none⟩ = some c5) := by
  unfold BoxC at h
  simp [World.cell?, h]
theorem BoxC.frozen {w : World} {B : Nat} {c0 c1 c2 c3 c4 c5 : Value} (h : BoxC w B c0 c1 c2 c3 c4 c5) :
    (w.frozen? ⟨B, 0, none⟩ = false ∧ w.frozen? ⟨B, 1, none⟩ = false ∧ w.frozen? ⟨B, 2, none⟩ = false ∧ w.frozen? ⟨B, 3, none⟩ = false ∧ w.frozen? ⟨B, 4, none⟩ = false ∧ w.frozen? ⟨B, 5, none⟩ = false) := by
  unfold BoxC at h
  simp [World.frozen?, h]
theorem BoxC.made (w : World) (c0 c1 c2 c3 c4 c5 : Value) : BoxC (w.alloc (.cells #[c0, c1, c2, c3, c4, c5] 27)) w.heap.size c0 c1 c2 c3 c4 c5 := heap_alloc_new w _
theorem BoxC.kept {w w' : World} {B : Nat} {c0 c1 c2 c3 c4 c5 : Value} (h : BoxC w B c0 c1 c2 c3 c4 c5) (hb : w'.heap[B]? = w.heap[B]?) : BoxC w' B c0 c1 c2 c3 c4 c5 := by unfold BoxC at *; rw [hb, h]
theorem BoxC.lt {w : World} {B : Nat} {c0 c1 c2 c3 c4 c5 : Value} (h : BoxC w B c0 c1 c2 c3 c4 c5) : B < w.heap.size := (Array.getElem?_eq_some_iff.1 h).1
theorem BoxC.lift {w w' : World} {B : Nat} {c0 c1 c2 c3 c4 c5 : Value} (h : BoxC w B c0 c1 c2 c3 c4 c5) (hb : Below w.heap.size w w') : BoxC w' B c0 c1 c2 c3 c4 c5 := h.kept (hb.block _ h.lt)
theorem BoxC.grown {w w' : World} {B : Nat} {c0 c1 c2 c3 c4 c5 : Value} {r : Option Nat} (h : BoxC w B c0 c1 c2 c3 c4 c5) (hg : w.grownBy w' r) (hr : some B ≠ r) : BoxC w' B c0 c1 c2 c3 c4 c5 := h.kept (hg.block _ h.lt hr)
/-- Block B is a scheme of zeros. -/
def Zero6 (w : World) (B : Nat) : Prop := BoxC w B (.int .i64 0) (.int .i64 0) (.string ⟨#[]⟩) (.int .i64 0) (.int .i64 0) (.slice none 0 0)
theorem set6 {w : World} {B : Nat} {c0 c1 c2 c3 c4 c5 : Value} (h : BoxC w B c0 c1 c2 c3 c4 c5) (v0 v1 v2 v3 v4 v5 : Value) :
    BoxC ((((((w.setCell ⟨B, 0, none⟩ v0).setCell ⟨B, 1, none⟩ v1).setCell ⟨B, 2, none⟩ v2).setCell ⟨B, 3, none⟩ v3).setCell ⟨B, 4, none⟩ v4).setCell ⟨B, 5, none⟩ v5) B v0 v1 v2 v3 v4 v5 ∧
    w.grownBy ((((((w.setCell ⟨B, 0, none⟩ v0).setCell ⟨B, 1, none⟩ v1).setCell ⟨B, 2, none⟩ v2).setCell ⟨B, 3, none⟩ v3).setCell ⟨B, 4, none⟩ v4).setCell ⟨B, 5, none⟩ v5) (some B) ∧
    ((((((w.setCell ⟨B, 0, none⟩ v0).setCell ⟨B, 1, none⟩ v1).setCell ⟨B, 2, none⟩ v2).setCell ⟨B, 3, none⟩ v3).setCell ⟨B, 4, none⟩ v4).setCell ⟨B, 5, none⟩ v5).heap.size = w.heap.size := by
  obtain ⟨a0, g0, s0⟩ := set1 h 0 v0
  obtain ⟨a1, g1, s1⟩ := set1 a0 1 v1
  obtain ⟨a2, g2, s2⟩ := set1 a1 2 v2
  obtain ⟨a3, g3, s3⟩ := set1 a2 3 v3
  obtain ⟨a4, g4, s4⟩ := set1 a3 4 v4
  obtain ⟨a5, g5, s5⟩ := set1 a4 5 v5
  refine ⟨?_, grown_trans (grown_trans (grown_trans (grown_trans (grown_trans g0 g1) g2) g3) g4) g5, by rw [s5, s4, s3, s2, s1, s0]⟩
  unfold BoxC
  rw [a5]
  simp
theorem wpList_store6 {w : World} {ops : Array Oper} {rest : List Oper} {o : Oper} {a : Act} {Q : Exit → Act → World → Prop} (hgd : o.guard = none) (p x : Operand) (ho : o.op = Op.store 27 p x)
    (B : Nat) (c0 c1 c2 c3 c4 c5 : Value) (hB : BoxC w B c0 c1 c2 c3 c4 c5) (hp : a.eval p = .pointer (some ⟨B, 0, none⟩)) (c k : Int) (n : ByteArray) (i h : Int) (sa : Option Addr) (sn sc : Nat)
    (hx : a.eval x = .agg #[.int .i64 c, .int .i64 k, .string n, .int .i64 i, .int .i64 h, .slice sa sn sc])
    (hK : ∀ w', BoxC w' B (.int .i64 c) (.int .i64 k) (.string n) (.int .i64 i) (.int .i64 h) (.slice sa sn sc) → w.grownBy w' (some B) → w'.heap.size = w.heap.size → wpList Try.prog ops Q rest (a.put o.dst undef) w') :
    wpList Try.prog ops Q (o :: rest) a w := by
  obtain ⟨h0, h1, h2, h3, h4, h5⟩ := hB.cells
  obtain ⟨f0, f1, f2, f3, f4, f5⟩ := hB.frozen
  refine wpList_plain hgd fun K hK' => ?_
  unfold Oper.wp
  simp only [execOp, ho, hp, hx]
  simp [go_sem, h0, h1, h2, h3, h4, h5, f0, f1, f2, f3, f4, f5]
  exact hK' _ _ (hK _ (set6 hB _ _ _ _ _ _).1 (set6 hB _ _ _ _ _ _).2.1 (set6 hB _ _ _ _ _ _).2.2)
/-- A store and a load of a scheme at a step of a region that draws its order. -/
theorem monoX_any (T : Ty) (v : Value) (S : Nat → Prop) (w : World) (h : Rep w S T v) :
    Calls Try.prog 27 #[v] w fun e w' => ∃ u, e = .returned u ∧ RepC w' S (0, T) u ∧ Below w.heap.size w w' := by
  obtain ⟨k, n, i, hh, s, eT, rfl, hn, hs⟩ := h.open
  obtain ⟨sa, sc, rfl, -⟩ := hs
  have HX := Lib.hid h
  have hb0 : ∀ X Y, Below w.heap.size w ((w.alloc (.cells X 25)).alloc (.cells Y 27)) := fun X Y => ((Below.refl _ w).alloc (Nat.le_refl _) _).alloc (by simp) _
  have HB := Lib.hid hb0
  have HZ : Hid (∀ X, Zero6 ((w.alloc (.cells X 25)).alloc (.cells #[.int .i64 0, .int .i64 0, .string ⟨#[]⟩, .int .i64 0, .int .i64 0, .slice none 0 0] 27)) (w.heap.size + 1)) := fun X => by
    show BoxC _ _ _ _ _ _ _ _
    unfold BoxC; rw [heap_at, if_pos (by simp)]
  clear h eT hn hb0
  generalize T.ts.length = sn at *
  go_enter Try.func27, Try.ntmps27
  go_wp2_with (refine wpList_store6 rfl _ _ rfl _ _ _ _ _ _ _ (HZ.out _) rfl _ _ _ _ _ _ _ _ rfl ?_; intro w2 hB2 hg2 hs2)
  obtain ⟨c0, c1, c2, c3, c4, c5⟩ := hB2.cells
  refine bodyPost_ret (v := .agg #[.int .i64 0, .int .i64 k, .string n, .int .i64 i, .int .i64 hh, .slice sa sn sc]) (by simp [results, Try.results27, go_sem, c0, c1, c2, c3, c4, c5]; try rfl) rfl ?_
  have hb2 := Below.grown (HB.out _ _) hg2 (HB.out _ _).size (fun j hj => by cases hj; omega)
  exact ⟨_, rfl, ⟨k, n, i, hh, _, rfl, HX.out.kept (fun _ h => h) fun b _ hl => hb2.block b hl⟩, hb2⟩
def eqC (a b : Int × Ty) : Bool := a.1 == b.1 && teq a.2 b.2
theorem eqC_iff (a b : Int × Ty) : eqC a b = true ↔ a = b := by
  unfold eqC
  rw [Bool.and_eq_true]
  constructor
  · rintro ⟨h1, h2⟩
    have h1' : a.1 = b.1 := by simpa using h1
    exact Prod.ext h1' (teq_eq _ _ h2)
  · rintro rfl
    exact ⟨by simp, teq_id _⟩
theorem refEqualS_any (a b : Int × Ty) (u v : Value) (S S' : Nat → Prop) (w : World) (h : RepC w S a u) (h' : RepC w S' b v) :
    Calls Try.prog 24 #[u, v] w fun e w' => e = .returned (.bool (eqC a b)) ∧ Below w.heap.size w w' := by
  obtain ⟨k, n, i, hh, sa, sn, sc, rfl, hx⟩ := h.form
  obtain ⟨k', n', i', hh', sa', sn', sc', rfl, hx'⟩ := h'.form
  have hb0 : ∀ X Y, Below w.heap.size w ((w.alloc (.cells X 27)).alloc (.cells Y 27)) := fun X Y => ((Below.refl _ w).alloc (Nat.le_refl _) _).alloc (by simp) _
  have HB := Lib.hid hb0
  have HC := Lib.hid (fun X Y => refEqual_any _ a.2 (Nat.le_refl _) b.2 _ _ _ _ _ (hx.lift (hb0 X Y)) (hx'.lift (hb0 X Y)))
  have HE : Hid (eqC a b = (a.1 == b.1 && teq a.2 b.2)) := rfl
  clear hx hx' h h' hb0
  generalize teq a.2 b.2 = q at *
  cases hc : (a.1 == b.1) with
  | false =>
    rw [hc] at HE
    go_enter Try.func24, Try.ntmps24
    go_wp2
    go_ret
    exact ⟨ret_bool (by rw [HE.out]; rfl), HB.out _ _⟩
  | true =>
    rw [hc] at HE
    go_enter Try.func24, Try.ntmps24
    go_wp2_with (go_at_call 39; refine (HC.out _ _).mono ?_; rintro e w1 ⟨rfl, hb1⟩)
    go_ret
    exact ⟨ret_bool (by rw [HE.out]; simp), (HB.out _ _).trans (hb1.mono (HB.out _ _).size)⟩
end Go.Proofs.Ytahiefgfhpkoeaa

namespace Go.Proofs.Ytahiefgfhpkoeaa
open Go.RowKit Go.Sort Go.Shelf Go.Maps Mth

/-- Is it a valid scheme? -/
def schV (c : Int) (T : Ty) : Bool := valid T && !hasK 5 T && (bdn [] T == (List.range (bdn [] T).length).map Int.ofNat) && (((bdn [] T).length : Int) == c)
def ValSAt (P : Program) (f : Nat) : Prop := ∀ (c : Int) (T : Ty) (v : Value) (S : Nat → Prop) (w : World), nodes T ≤ 1000000 → RepC w S (c, T) v → Calls P f #[v] w fun e w' => e = .returned (.bool (schV c T)) ∧ Below w.heap.size w w'
theorem range_not {L : List Int} {j : Nat} {z : Int} (h : L[j]? = some z) (hz : (z == (j : Int)) = false) : (L == (List.range L.length).map Int.ofNat) = false := by
  rw [beq_eq_false_iff_ne]
  intro e
  have hl := (List.getElem?_eq_some_iff.1 h).1
  have h2 : L[j]? = some (Int.ofNat j) := by
    conv => lhs; rw [e]
    rw [List.getElem?_map, List.getElem?_range hl]; rfl
  rw [h] at h2
  cases h2
  simp at hz
theorem range_yes {L : List Int} (h : ∀ j, j < L.length → L[j]? = some (j : Int)) : (L == (List.range L.length).map Int.ofNat) = true := by
  rw [beq_iff_eq]
  refine List.ext_getElem? fun j => ?_
  by_cases hj : j < L.length
  · rw [h j hj, List.getElem?_map, List.getElem?_range hj]; rfl
  · rw [List.getElem?_eq_none (by omega), List.getElem?_eq_none (by simp; omega)]
set_option maxHeartbeats 3200000 in
theorem refValidS_any : ValSAt Try.prog 19 := by
  intro c T v S w hN h
  obtain ⟨k, n, i, hh, sa, sn, sc, rfl, hx⟩ := h.form
  have HX : Hid (Rep w (fun b => b < w.heap.size) T (.agg #[.int .i64 k, .string n, .int .i64 i, .int .i64 hh, .slice sa sn sc])) := hx.bound.imp fun b hb => hb.2
  obtain ⟨V, hV⟩ : ∃ V, V = w.alloc (.cells #[.int .i64 c, .int .i64 k, .string n, .int .i64 i, .int .i64 hh, .slice sa sn sc] 27) := ⟨_, rfl⟩
  have hb0 : Below w.heap.size w V := hV ▸ (Below.refl _ w).alloc (Nat.le_refl _) _
  have hBox : BoxC V w.heap.size (.int .i64 c) (.int .i64 k) (.string n) (.int .i64 i) (.int .i64 hh) (.slice sa sn sc) := hV ▸ BoxC.made _ _ _ _ _ _ _
  have HBx := Lib.hid hBox
  have HB0 := Lib.hid hb0
  have HVe := Lib.hid hV
  have HVal : Hid (Calls Try.prog 49 #[.agg #[.int .i64 k, .string n, .int .i64 i, .int .i64 hh, .slice sa sn sc]] V fun e w' => e = .returned (.bool (valid T)) ∧ Below V.heap.size V w') := refValid_any T _ _ V (HX.out.lift hb0)
  have HCon := Lib.hid (fun W (hb : Below w.heap.size w W) => contains_any 5 T _ _ W (HX.out.lift hb))
  have HBnd : Hid (∀ W, Below w.heap.size w W → Calls Try.prog 51 #[.slice none 0 0, .agg #[.int .i64 k, .string n, .int .i64 i, .int .i64 hh, .slice sa sn sc]] W fun e w' => ∃ v', e = .returned v' ∧ RowI w' W.heap.size v' (bdn [] T) ∧ Below W.heap.size W w') := fun W hb => by
    refine (bounds_any _ T (Nat.le_refl _) W.heap.size _ (.slice none 0 0) _ [] W (Nat.le_refl _) (by simpa using hN) (fun b hb' => Nat.lt_of_lt_of_le hb' hb.size) (rowI_nil _ _) (HX.out.lift hb)).mono ?_
    rintro e w' ⟨v', rfl, h1, h2, -⟩
    exact ⟨v', rfl, h1, ⟨h2.os, h2.tape, h2.output, h2.size, fun q hq => h2.block q hq (by simp [Value.ownBlock])⟩⟩
  have HE : Hid (schV c T = (valid T && !hasK 5 T && (bdn [] T == (List.range (bdn [] T).length).map Int.ofNat) && (((bdn [] T).length : Int) == c))) := rfl
  have HLn : Hid ((bdn [] T).length ≤ 1000000) := by have := bdn_len T []; simp at this; exact Nat.le_trans this hN
  clear hx h hb0 hBox hV hN
  cases hv : valid T with
  | false =>
    rw [hv] at HE HVal
    clear hv
    go_enter Try.func19, Try.ntmps19
    go_upto_region 1 with fail
    rw [← HVe.out]
    obtain ⟨b0, b1, b2, b3, b4, b5⟩ := HBx.out.cells
    go_wp2_with (go_at_call 49; refine HVal.out.mono ?_; rintro e w1 ⟨rfl, hb1⟩)
    go_ret
    exact ⟨ret_bool (by rw [HE.out]; rfl), HB0.out.trans (hb1.mono HB0.out.size)⟩
  | true =>
    rw [hv] at HE HVal
    clear hv
    cases hc : hasK 5 T with
    | true =>
      rw [hc] at HE HCon
      clear hc
      go_enter Try.func19, Try.ntmps19
      go_upto_region 1 with fail
      rw [← HVe.out]
      obtain ⟨b0, b1, b2, b3, b4, b5⟩ := HBx.out.cells
      go_wp2_with (first
        | (go_at_call 49; refine HVal.out.mono ?_; rintro e w1 ⟨rfl, hb1⟩; have HB1 := Lib.hid (HB0.out.trans (hb1.mono HB0.out.size)); obtain ⟨e0, e1, e2, e3, e4, e5⟩ := (HBx.out.lift hb1).cells)
        | (go_at_call 50; refine (HCon.out _ HB1.out).mono ?_; rintro e w2 ⟨rfl, hb2⟩; have HB2 := Lib.hid (HB1.out.trans (hb2.mono HB1.out.size))))
      go_ret
      exact ⟨ret_bool (by rw [HE.out]; rfl), HB2.out⟩
    | false =>
      rw [hc] at HE HCon
      clear hc
      obtain ⟨L, hL⟩ : ∃ L, L = bdn [] T := ⟨_, rfl⟩
      rw [← hL] at HE HBnd HLn
      clear hL
      go_enter Try.func19, Try.ntmps19
      go_upto_region 1 with fail
      rw [← HVe.out]
      obtain ⟨b0, b1, b2, b3, b4, b5⟩ := HBx.out.cells
      go_upto_region 4 with (first
        | (go_at_call 49; refine HVal.out.mono ?_; rintro e w1 ⟨rfl, hb1⟩; have HB1 := Lib.hid (HB0.out.trans (hb1.mono HB0.out.size)); have HBx1 := Lib.hid (HBx.out.lift hb1); obtain ⟨e0, e1, e2, e3, e4, e5⟩ := HBx1.out.cells)
        | (go_at_call 50; refine (HCon.out _ HB1.out).mono ?_; rintro e w2 ⟨rfl, hb2⟩; have HB2 := Lib.hid (HB1.out.trans (hb2.mono HB1.out.size)); have HBx2 := Lib.hid (HBx1.out.lift hb2); obtain ⟨f0, f1, f2, f3, f4, f5⟩ := HBx2.out.cells)
        | (go_at_call 51; refine (HBnd.out _ HB2.out).mono ?_; rintro e w3 ⟨v3, rfl, hrow3, hb3⟩; have HB3 := Lib.hid (HB2.out.trans (hb3.mono HB2.out.size)); have HBx3 := Lib.hid (HBx2.out.lift hb3); have HRow := Lib.hid hrow3.ints; obtain ⟨la, lc, rfl, hl1, hl2⟩ := hrow3.slice))
      obtain ⟨m, hm⟩ : ∃ m, m = L.length := ⟨_, rfl⟩
      have HM := Lib.hid hm
      obtain ⟨ja, jc, hjv, -, -, hj⟩ := HRow.out
      have HJ := Lib.hid hj
      simp only [Value.slice.injEq] at hjv
      obtain ⟨rfl, -, rfl⟩ := hjv
      rw [← hm] at hl1 HE HLn ⊢
      have hmn := HLn.out
      have HS3 := Lib.hid HB3.out.size
      obtain ⟨d0, -⟩ := HBx3.out.cells
      clear hm hj hrow3 hb1 hb2 hb3 HRow b0 b1 b2 b3 b4 b5 e0 e1 e2 e3 e4 e5 f0 f1 f2 f3 f4 f5
      go_wp2
      go_loopw [4] (fun x wr => ∃ j : Nat, j ≤ m ∧ x = .int .i64 j ∧ Hid (∀ p, p < j → L[p]? = some (p : Int)) ∧ wr = w3) (fun x _ => m - (intOf x).toNat)
      case atStart => exact ⟨0, Nat.zero_le _, rfl, fun p hp => by omega, rfl⟩
      case round =>
        obtain ⟨j, hj, rfl, HT, rfl⟩ := hrel
        by_cases hlt : j < m
        · obtain ⟨z, hz⟩ : ∃ z, L[j]? = some z := ⟨_, List.getElem?_eq_getElem (by rw [← HM.out]; exact hlt)⟩
          obtain ⟨ad, rfl, hc⟩ := HJ.out j z hz
          have hji : (j : Int) < (m : Int) := by omega
          cases hq : (z == (j : Int)) with
          | false =>
            have HF : Hid (schV c T = false) := by
              show _ = _
              rw [HE.out, HM.out, range_not hz hq]; rfl
            have hq' : (z != (j : Int)) = true := by rw [bne, hq]; rfl
            clear hz hq
            go_wp2
            go_ret
            exact ⟨ret_bool (by rw [HF.out]), HB3.out⟩
          | true =>
            have hq' : (z != (j : Int)) = false := by rw [bne, hq]; rfl
            have HT2 : Hid (∀ p, p < j + 1 → L[p]? = some (p : Int)) := fun p hp => by
              by_cases e : p = j
              · subst e
                rw [hz, show z = (p : Int) by simpa using hq]
              · exact HT.out p (by omega)
            clear hz hq
            go_wp2
            go_roundw
            case rel => exact ⟨j + 1, hlt, by go_num, HT2, by first | rfl | trivial⟩
            case measure => simp [intOf]; omega
        · have HF : Hid (schV c T = ((m : Int) == c)) := by
            show _ = _
            rw [HE.out, HM.out, range_yes (fun p hp => HT.out p (by rw [HM.out] at hlt; omega))]; simp
          go_wp2
          go_ret
          exact ⟨ret_bool (by rw [HF.out]), HB3.out⟩
end Go.Proofs.Ytahiefgfhpkoeaa

namespace Go.Proofs.Ytahiefgfhpkoeaa
open Go.RowKit Go.Sort Go.Shelf Go.Maps Mth

theorem clF_len : ∀ (L : List Int) (j : Int), (clF L j).length = L.length := by
  intro L
  induction L with
  | nil => intro j; rfl
  | cons v L ih => intro j; rw [clF, List.length_cons, ih, List.length_cons]
theorem clF_snoc (v : Int) : ∀ (L : List Int) (j : Int), clF (L ++ [v]) j = clF L j ++ [(v, bd (j + L.length))] := by
  intro L
  induction L with
  | nil => intro j; simp [clF]
  | cons u L ih =>
    intro j
    rw [List.cons_append, clF, ih, clF, List.cons_append, List.length_cons]
    rw [show j + 1 + (L.length : Int) = j + ((L.length + 1 : Nat) : Int) by push_cast; omega]
theorem plain_nk1 : ∀ T : Ty, plainV T = true → (nk 1 T).map Ty.i = vids T := Ty.induct fun T ih hp => by
  obtain ⟨k, n, i, h, ts⟩ := T
  have hL : ∀ l : List Ty, (∀ U ∈ l, U ∈ ts) → plainVL l = true → (nkL 1 l).map Ty.i = vidsL l := by
    intro l
    induction l with
    | nil => intro _ _; rfl
    | cons t l ihl =>
      intro hm hpl
      rw [nkL, List.map_append, ih t (hm t (by simp)) (plainVL_mem hpl (by simp)), ihl (fun U hU => hm U (by simp [hU])) (by simp only [plainVL, Bool.and_eq_true] at hpl; exact hpl.2), vidsL]
  by_cases hk : k = 1
  · subst hk
    obtain ⟨-, -, rfl⟩ := plain_leaf hp
    rfl
  · rw [nk, if_neg hk, vids, if_neg (by simpa using hk), List.nil_append]
    exact hL ts (fun _ h => h) (plain_kids hk hp)
theorem varsOf_one {T : Ty} (hp : plainV T = true) : varsOf [T] = ded [] (vids T) := by
  unfold varsOf
  rw [nkL, nkL, List.append_nil, plain_nk1 T hp]
theorem filterTk {α : Type} (q : α → Bool) {l : List α} {j : Nat} {x : α} (h : l[j]? = some x) : (l.take (j + 1)).filter q = if q x then (l.take j).filter q ++ [x] else (l.take j).filter q := by
  rw [List.take_add_one, h]
  simp only [Option.toList_some, List.filter_append, List.filter_cons, List.filter_nil]
  split <;> simp
theorem ded_le : ∀ (l acc : List Int), (ded acc l).length ≤ acc.length + l.length := by
  intro l
  induction l with
  | nil => intro acc; rw [ded]; omega
  | cons y l ih =>
    intro acc
    rw [ded]
    split
    · have := ih acc; simp; omega
    · have := ih (acc ++ [y]); simp at this ⊢; omega
/-- A slice of one value that was just laid. -/
theorem repL_one {W : World} {T : Ty} {k : Int} {n : ByteArray} {i h : Int} {s : Value} {S : Nat → Prop} (Z : TypeId) (hS : S W.heap.size) (hx : Rep W S T (.agg #[.int .i64 k, .string n, .int .i64 i, .int .i64 h, s])) :
    RepL (W.alloc (.cells #[.int .i64 k, .string n, .int .i64 i, .int .i64 h, s] Z)) S [T] (.slice (some ⟨W.heap.size, 0, none⟩) 1 1) := by
  refine ⟨some ⟨W.heap.size, 0, none⟩, 1, rfl, ⟨Nat.le_refl _, by unfold maxLen; omega⟩, fun j U hj => ?_⟩
  cases j with
  | zero =>
    simp at hj; subst hj
    exact ⟨_, _, rfl, hS, one_new Z _ rfl, hx.lift ((Below.refl _ W).alloc (Nat.le_refl _) _)⟩
  | succ j => simp at hj
/-- What a loop that gathers assignments holds. -/
structure ClSt (w : World) (sv : Value) (xs : List (Int × Ty)) (v : World) : Prop where
  row : RowG AsE v w.heap.size (fun c => w.heap.size ≤ c) sv xs
  low : Below w.heap.size w v
theorem ClSt.lift {w v v' : World} {sv : Value} {xs : List (Int × Ty)} (h : ClSt w sv xs v) (hb : Below v.heap.size v v') : ClSt w sv xs v' := ⟨h.row.lift hb, h.low.trans (hb.mono h.low.size)⟩
theorem ClSt.push {w v v' : World} {sv sv' : Value} {xs xs' : List (Int × Ty)} (h : ClSt w sv xs v) (hr : RowG AsE v' w.heap.size (fun c => w.heap.size ≤ c) sv' xs') (hg : v.grownBy v' sv.ownBlock) : ClSt w sv' xs' v' :=
  ⟨hr, Below.grown h.low hg h.low.size (fun k hk => (h.row.lt k hk).1)⟩
theorem ClSt.asL {w v : World} {sv : Value} {xs : List (Int × Ty)} (h : ClSt w sv xs v) : AsL v (fun b => w.heap.size ≤ b ∧ b < v.heap.size) xs sv := (slG_asL (h.row.slG (fun _ h => h) (fun _ h => h))).bound
def CloAt (P : Program) (f : Nat) : Prop := ∀ (T : Ty) (ids : List Int) (tv iv : Value) (S : Nat → Prop) (w : World), valid T = true → plainV T = true → nodes T ≤ 100000 → (∀ b, w.heap.size ≤ b → S b) → Rep w S T tv → Ints w iv ids →
  Calls P f #[tv, iv] w fun e w' => ∃ u, e = .returned u ∧ RepC w' S (((clV ids T).length : Int), clT ids T) u ∧ Below w.heap.size w w'
set_option maxRecDepth 100000 in
set_option maxHeartbeats 6400000 in
theorem refClose_any : CloAt Try.prog 25 := by
  intro T ids tv iv S w hv hp hN hf h hi
  obtain ⟨k, n, i, hh, sa, sn, sc, rfl⟩ := h.form
  obtain ⟨ia, ic, rfl, hic1, hic2, hic⟩ := hi
  have hi : Ints w (.slice ia ids.length ic) ids := ⟨ia, ic, rfl, hic1, hic2, hic⟩
  have HX := Lib.hid h
  have HIds := Lib.hid hi
  obtain ⟨V, hV⟩ : ∃ V, V = (w.alloc (.cells #[.int .i64 k, .string n, .int .i64 i, .int .i64 hh, .slice sa sn sc] 25)).alloc (.cells #[.int .i64 0, .int .i64 0, .string ⟨#[]⟩, .int .i64 0, .int .i64 0, .slice none 0 0] 27) := ⟨_, rfl⟩
  have hVb : Below w.heap.size w V := by rw [hV]; exact ((Below.refl _ w).alloc (Nat.le_refl _) _).alloc (by simp) _
  have hVs : V.heap.size = w.heap.size + 2 := by rw [hV]; simp
  have HBx : Hid (Box V w.heap.size (.int .i64 k) (.string n) (.int .i64 i) (.int .i64 hh) (.slice sa sn sc)) := by
    show Box _ _ _ _ _ _ _
    unfold Box; rw [hV, heap_at, if_neg (by simp), heap_at, if_pos rfl]
  have HZ : Hid (Zero6 V (w.heap.size + 1)) := by
    show BoxC _ _ _ _ _ _ _ _
    unfold BoxC; rw [hV, heap_at, if_pos (by simp)]
  have HVe := Lib.hid hV
  have HVb := Lib.hid hVb
  have HVs := Lib.hid hVs
  obtain ⟨vs, hvs⟩ : ∃ vs, vs = ded [] (vids T) := ⟨_, rfl⟩
  have HVars : Hid (Calls Try.prog 35 #[.slice (some ⟨V.heap.size, 0, none⟩) 1 1] (V.alloc (.cells #[.int .i64 k, .string n, .int .i64 i, .int .i64 hh, .slice sa sn sc] 25)) fun e w' => ∃ u, e = .returned u ∧ Ints w' u vs ∧ Below (V.alloc (.cells #[.int .i64 k, .string n, .int .i64 i, .int .i64 hh, .slice sa sn sc] 25)).heap.size (V.alloc (.cells #[.int .i64 k, .string n, .int .i64 i, .int .i64 hh, .slice sa sn sc] 25)) w') := by
    rw [hvs, ← varsOf_one hp]
    exact m28 (S := fun _ => True) (fun U hU => by simp at hU; subst hU; exact hv) (by have : nodesL [T] = nodes T := rfl; omega) (repL_one _ trivial ((h.imp fun _ _ => trivial).lift hVb))
  have HBd := Lib.hid (fun i w => refBound_any i w)
  obtain ⟨q, hq⟩ : ∃ q : Int → Bool, q = fun v => ids.contains v := ⟨_, rfl⟩
  have HQ : Hid (∀ z, ids.contains z = q z) := fun z => by rw [hq]
  have HcV : Hid (clV ids T = vs.filter q) := by show _ = _; rw [hvs, hq]; rfl
  have HHas : Hid (∀ z W, Below w.heap.size w W → Calls Try.prog 23 #[.slice ia ids.length ic, .int .i64 z] W fun e w' => e = .returned (.bool (q z)) ∧ W = w') := fun z W hb => by
    rw [hq]; exact has_any _ _ _ _ (hi.lift hb)
  have hvl : vs.length ≤ 100000 := by
    rw [hvs, ← varsOf_one hp]
    unfold varsOf
    have h1 := ded_le ((nkL 1 [T]).map Ty.i) []
    have h2 := nkL_len 1 [T]
    have h3 : nodesL [T] = nodes T := rfl
    simp only [List.length_nil, List.length_map] at h1
    omega
  obtain ⟨m, hm⟩ : ∃ m, m = vs.length := ⟨_, rfl⟩
  rw [← hm] at hvl
  have HM := Lib.hid hm
  clear hV h hi hic hvs hq hm hVb hVs hic1 hic2
  generalize ids.length = il at *
  go_enter Try.func25, Try.ntmps25
  go_upto_region 1 with fail
  rw [← HVe.out]
  obtain ⟨b0, b1, b2, b3, b4⟩ := HBx.out.cells
  go_upto_region 3 with (go_at_call 35; refine HVars.out.mono ?_; rintro e w1 ⟨v1, rfl, hiv, hb1⟩)
  have HB1 : Hid (Below V.heap.size V w1) := ((Below.refl _ V).alloc (Nat.le_refl _) _).trans (hb1.mono (by simp))
  have HWB1 : Hid (Below w.heap.size w w1) := HVb.out.trans (HB1.out.mono HVb.out.size)
  obtain ⟨va, vc, rfl, -, hvc2, hvj⟩ := hiv
  have HVJ := Lib.hid hvj
  rw [← HM.out]
  clear hb1 hvj b0 b1 b2 b3 b4 HVars
  have HB : Hid (Box w1 w.heap.size (.int .i64 k) (.string n) (.int .i64 i) (.int .i64 hh) (.slice sa sn sc)) := HBx.out.lift HB1.out
  have HZ1 : Hid (Zero6 w1 (w.heap.size + 1)) := BoxC.lift HZ.out HB1.out
  have hs1 : w.heap.size + 2 ≤ w1.heap.size := by have := HB1.out.size; have := HVs.out; omega
  have HS1 := Lib.hid hs1
  have HIV : Hid (∀ (j : Nat) (z : Int), vs[j]? = some z → ∀ W, Below w1.heap.size w1 W → ∃ ad, va = some ad ∧ W.cell? (ad.add j) = some (.int .i64 z)) := fun j z hz W hb => by
    obtain ⟨ad, e, hc⟩ := HVJ.out j z hz
    exact ⟨ad, e, (hb.cell (World.block_lt_of_cell? _ _ hc)).trans hc⟩
  have H0 : Hid (ClSt w1 (.slice none 0 0) (clF ((vs.take 0).filter q) 0) w1) := ⟨by simp [clF]; exact rowG_nil _ _ _ _, Below.refl _ _⟩
  clear hs1 HBx HZ HVJ
  go_wp2
  go_loopw [6, 7] (fun y x wr => ∃ (j : Nat) (ya : Option Addr) (n yc : Nat), j ≤ m ∧ x = .int .i64 j ∧ y = .slice ya n yc ∧ Hid (n = ((vs.take j).filter q).length) ∧ Hid (ClSt w1 (.slice ya n yc) (clF ((vs.take j).filter q) 0) wr)) (fun _ x _ => m - (intOf x).toNat)
  case atStart => exact ⟨0, none, 0, 0, Nat.zero_le _, rfl, rfl, by show _ = _; simp, H0⟩
  case round =>
    clear H0
    obtain ⟨j, ya, nn, yc, hj, rfl, rfl, HNn, HSt⟩ := hrel
    by_cases hlt : j < m
    · obtain ⟨z, hz⟩ : ∃ x, vs[j]? = some x := ⟨_, List.getElem?_eq_getElem (by rw [← HM.out]; exact hlt)⟩
      have HFt := Lib.hid (filterTk q hz)
      obtain ⟨ad, e, hc0⟩ := HIV.out j z hz wr HSt.out.low
      subst e
      have HS6 : Hid (∀ W, Below w1.heap.size w1 W → W.cell? (ad.add j) = some (.int .i64 z)) := fun W hb => by
        obtain ⟨ad', e, hc⟩ := HIV.out j z hz W hb
        cases e; exact hc
      have hji : (j : Int) < (m : Int) := by omega
      have hnb : nn ≤ j := by
        have h1 := HNn.out
        have h2 := List.length_filter_le q (vs.take j)
        have h3 := List.length_take_le j vs
        omega
      have HH1 := HHas.out z wr (HWB1.out.trans (HSt.out.low.mono HWB1.out.size))
      clear hz
      cases hq : q z with
      | false =>
        rw [hq] at HH1
        have HT1 : Hid ((vs.take (j + 1)).filter q = (vs.take j).filter q) := by show _ = _; rw [HFt.out, hq]; rfl
        clear hq
        go_wp2_with (go_at_call 23; refine HH1.mono ?_; rintro e w3 ⟨rfl, rfl⟩)
        go_roundw
        case rel => exact ⟨j + 1, _, nn, yc, hlt, by go_num, rfl, by show _ = _; rw [HT1.out]; exact HNn.out, by show ClSt _ _ _ _; rw [HT1.out]; exact HSt.out⟩
        case measure => simp [intOf]; omega
      | true =>
        rw [hq] at HH1
        have HT1 : Hid ((vs.take (j + 1)).filter q = (vs.take j).filter q ++ [z]) := by show _ = _; rw [HFt.out, hq]; rfl
        have HT2 : Hid (clF ((vs.take (j + 1)).filter q) 0 = clF ((vs.take j).filter q) 0 ++ [(z, bd (nn : Int))]) := by
          show _ = _; rw [HT1.out, clF_snoc, ← HNn.out]; simp
        have HLen : Hid (nn + 1 = (clF ((vs.take j).filter q) 0).length + 1) := by show _ = _; rw [clF_len, ← HNn.out]
        have hN1 : nn + 1 ≤ 1000000 := by omega
        have HStD := Lib.hid (HSt.out.lift (Below.refl _ wr).drew)
        have HC : Hid (Calls Try.prog 15 #[.int .i64 (nn : Int)] wr.drew fun e w' => e = .returned (.agg #[.int .i64 2, .string ⟨#[]⟩, .int .i64 (nn : Int), .int .i64 0, .slice none 0 0]) ∧ Below wr.drew.heap.size wr.drew w') := HBd.out _ _
        have HP : Hid (∀ W, Rep W (fun c => w1.heap.size ≤ c ∧ some c ≠ (Value.slice ya nn yc).ownBlock) (bd (nn : Int)) (.agg #[.int .i64 2, .string ⟨#[]⟩, .int .i64 (nn : Int), .int .i64 0, .slice none 0 0])) := fun W => rep_leaf W _ 2 ⟨#[]⟩ _ 0 (Nat.zero_le _)
        clear hq
        go_wp2_with (go_at_call 23; refine HH1.mono ?_; rintro e w3 ⟨rfl, rfl⟩)
        go_region_held3 (fun w' => w'.cell? (ad.add j) = some (.int .i64 z))
          (first
            | with_reducible exact HS6.out _ HSt4.out.low
            | with_reducible exact HS6.out _ HSt3.out.low
            | with_reducible exact HS6.out _ (HSt3.out.low.alloc HSt3.out.low.size _)
            | with_reducible exact HS6.out _ HStD.out.low)
          (first
            | (go_at_call 15; (with_reducible refine HC.out.mono ?_); rintro e w3 ⟨rfl, hb⟩; have HSt3 := Lib.hid (HStD.out.lift hb); clear hb)
            | ((refine step_pushAs HSt3.out.row (HP.out _) rfl _ _ rfl rfl rfl (nn + 1) HLen.out hN1 HSt3.out.low.size ?_); intro a' c' w4 hrow hg _; have HSt4 := Lib.hid (HSt3.out.push hrow hg); clear hrow hg))
        all_goals
          go_wp2
          go_roundw
          case rel => exact ⟨j + 1, a', nn + 1, c', hlt, by go_num, rfl, by show _ = _; rw [HT1.out, List.length_append, ← HNn.out]; rfl, by show ClSt _ _ _ _; rw [HT2.out]; exact HSt4.out⟩
          case measure => simp [intOf]; omega
    · obtain rfl : j = m := by omega
      have hT : (vs.take j).filter q = vs.filter q := by rw [List.take_of_length_le (by rw [← HM.out]; exact Nat.le_refl _)]
      rw [hT] at HNn HSt
      have HLx : Hid (nn = (clV ids T).length ∧ clF (vs.filter q) 0 = clF (clV ids T) 0) := by show _ ∧ _; rw [HcV.out]; exact ⟨HNn.out, rfl⟩
      have HBr : Hid (Box wr w.heap.size (.int .i64 k) (.string n) (.int .i64 i) (.int .i64 hh) (.slice sa sn sc)) := HB.out.lift HSt.out.low
      have HZr : Hid (Zero6 wr (w.heap.size + 1)) := BoxC.lift HZ1.out HSt.out.low
      have HWr : Hid (Below w.heap.size w wr) := HWB1.out.trans (HSt.out.low.mono HWB1.out.size)
      have HR : Hid (Calls Try.prog 26 #[.agg #[.int .i64 k, .string n, .int .i64 i, .int .i64 hh, .slice sa sn sc], .slice ya nn yc] wr fun e w' => ∃ u, e = .returned u ∧ Rep w' (fun b => S b ∧ b ≠ w.heap.size + 1) (clT ids T) u ∧ Below wr.heap.size wr w') := by
        have := refRepl_any (clF (vs.filter q) 0) T _ _ (fun b => S b ∧ b ≠ w.heap.size + 1) _ wr (by omega) HSt.out.asL (fun b hb => ⟨⟨hf b (by have := HS1.out; omega), by have := HS1.out; omega⟩, hb.2⟩) (fun b hb => ⟨hf b (by have := HS1.out; have := HSt.out.low.size; omega), by have := HS1.out; have := HSt.out.low.size; omega⟩) ((HX.out.bound.lift HWr.out).imp fun b hb => ⟨hb.1, by omega⟩)
        rwa [HLx.out.2] at this
      obtain ⟨b0, b1, b2, b3, b4⟩ := HBr.out.cells
      clear hT
      go_wp2_with fail
      go_at_call 26
      refine HR.out.mono ?_
      rintro e w2 ⟨u, rfl, hrep, hb2⟩
      have HZ2 : Hid (Zero6 w2 (w.heap.size + 1)) := BoxC.lift HZr.out hb2
      have HW2 : Hid (Below w.heap.size w w2) := HWr.out.trans (hb2.mono HWr.out.size)
      obtain ⟨uk, un, ui, uh, ua, um, uc, rfl⟩ := hrep.form
      have HRep := Lib.hid hrep
      clear hrep hb2
      go_wp2_with (refine wpList_store6 rfl _ _ rfl _ _ _ _ _ _ _ HZ2.out rfl _ _ _ _ _ _ _ _ rfl ?_; intro w3 hB3 hg3 hs3)
      obtain ⟨c0, c1, c2, c3, c4, c5⟩ := hB3.cells
      refine bodyPost_ret (v := .agg #[.int .i64 (nn : Int), .int .i64 uk, .string un, .int .i64 ui, .int .i64 uh, .slice ua um uc]) (by simp [results, Try.results25, go_sem, c0, c1, c2, c3, c4, c5]; try rfl) rfl ?_
      refine ⟨_, rfl, ⟨uk, un, ui, uh, _, by rw [HLx.out.1], ?_⟩, Below.grown HW2.out hg3 HW2.out.size (fun j hj => by cases hj; omega)⟩
      exact HRep.out.kept (fun b hb => hb.1) (fun b hb hlt => hg3.block b hlt (by intro e; cases e; exact hb.2 rfl))
end Go.Proofs.Ytahiefgfhpkoeaa

namespace Go.Proofs.Ytahiefgfhpkoeaa
open Go.RowKit Go.Sort Go.Shelf Go.Maps Mth

def FreAt (P : Program) (f : Nat) : Prop := ∀ (cs : List (Int × Ty)) (lv : Value) (S : Nat → Prop) (w : World), (∀ p ∈ cs, valid p.2 = true) → nodesL (cs.map Prod.snd) ≤ 100000 → cs.length ≤ 1000 → SlG ScE w S cs lv →
  Calls P f #[lv] w fun e w' => ∃ u, e = .returned u ∧ Ints w' u (varsOf (cs.map Prod.snd)) ∧ Below w.heap.size w w'
theorem mapTk {α β : Type} (f : α → β) {l : List α} {j : Nat} {x : α} (h : l[j]? = some x) : (l.take (j + 1)).map f = (l.take j).map f ++ [f x] := by
  rw [List.take_add_one, h]; simp
/-- The six cells of an element that is a scheme. -/
theorem slG_six {w : World} {S : Nat → Prop} {cs : List (Int × Ty)} {a : Option Addr} {n c : Nat} (h : SlG ScE w S cs (.slice a n c)) {j : Nat} {p : Int × Ty} (hp : cs[j]? = some p) :
    ∃ ad k nm i hh sa sn sc, a = some ad ∧ Six w ad j p.1 k nm i hh (.slice sa sn sc) ∧ Rep w (fun b => S b ∧ b < w.heap.size) p.2 (.agg #[.int .i64 k, .string nm, .int .i64 i, .int .i64 hh, .slice sa sn sc]) := by
  obtain ⟨a', cap, hv, hc, hj⟩ := h
  obtain ⟨ad, c, h1, h2, h3, c', rfl, h4⟩ := hj j p hp
  obtain ⟨k, n, i, hm, sa, sn, sc, e⟩ := h4.form
  have e' : c' = [.int .i64 k, .string n, .int .i64 i, .int .i64 hm, .slice sa sn sc] := by simpa using e
  subst e'
  simp only [Value.slice.injEq] at hv
  refine ⟨ad, k, n, i, hm, sa, sn, sc, by rw [hv.1, h1], ⟨h3 0 _ rfl, ?_, ?_, ?_, ?_, ?_⟩, h4.bound⟩
  · rw [add_add' _ _ _ (by omega)]; exact h3 1 _ rfl
  · rw [add_add' _ _ _ (by omega)]; exact h3 2 _ rfl
  · rw [add_add' _ _ _ (by omega)]; exact h3 3 _ rfl
  · rw [add_add' _ _ _ (by omega)]; exact h3 4 _ rfl
  · rw [add_add' _ _ _ (by omega)]; exact h3 5 _ rfl
set_option maxRecDepth 100000 in
set_option maxHeartbeats 6400000 in
theorem refFree_any : FreAt Try.prog 37 := by
  intro cs lv S w hv hN hl h
  obtain ⟨la, lc, rfl, -⟩ := h.slice
  have HL := Lib.hid h
  obtain ⟨m, hm⟩ : ∃ m, m = cs.length := ⟨_, rfl⟩
  rw [← hm] at hl HL ⊢
  have HM := Lib.hid hm
  have H0 : Hid (RowG TyE w w.heap.size (fun c => c < w.heap.size) (.slice none 0 0) ((cs.take 0).map Prod.snd)) := rowG_nil _ _ _ _
  have HVars : Hid (∀ W v, RepL W (fun _ => True) (cs.map Prod.snd) v → Calls Try.prog 35 #[v] W fun e w' => ∃ u, e = .returned u ∧ Ints w' u (varsOf (cs.map Prod.snd)) ∧ Below W.heap.size W w') := fun W v h => m28 (fun U hU => by
    obtain ⟨p, hp, rfl⟩ := List.mem_map.1 hU
    exact hv p hp) (by omega) h
  clear hm h hv hN
  go_enter Try.func37, Try.ntmps37
  go_wp2
  go_loopw [3, 4] (fun y x wr => ∃ (j : Nat) (ya : Option Addr) (yc : Nat), j ≤ m ∧ x = .int .i64 j ∧ y = .slice ya j yc ∧ Hid (RowG TyE wr w.heap.size (fun c => c < w.heap.size) (.slice ya j yc) ((cs.take j).map Prod.snd)) ∧ Below w.heap.size w wr) (fun _ x _ => m - (intOf x).toNat)
  case atStart => exact ⟨0, none, 0, Nat.zero_le _, rfl, rfl, H0, Below.refl _ _⟩
  case round =>
    clear H0
    obtain ⟨j, ya, yc, hj, rfl, rfl, HRow, hlow⟩ := hrel
    by_cases hlt : j < m
    · obtain ⟨p, hp⟩ : ∃ x, cs[j]? = some x := ⟨_, List.getElem?_eq_getElem (by rw [← HM.out]; exact hlt)⟩
      have HMt := Lib.hid (mapTk Prod.snd hp)
      have HLen : Hid (j + 1 = ((cs.take j).map Prod.snd).length + 1) := by show _ = _; rw [List.length_map, List.length_take, ← HM.out]; omega
      obtain ⟨ad, k, nm, i, hh, sa, sn, sc, e, h6, hx⟩ := slG_six HL.out hp
      subst e
      obtain ⟨q0, q1, q2, q3, q4, q5⟩ := h6.kept (hlow.block _ h6.lt)
      have HX : Hid (Rep wr (fun c => c < w.heap.size ∧ some c ≠ (Value.slice ya j yc).ownBlock) p.2 (.agg #[.int .i64 k, .string nm, .int .i64 i, .int .i64 hh, .slice sa sn sc])) := (hx.lift hlow).imp fun c hc => ⟨hc.2, fun e => by have := (HRow.out.lt c e.symm).1; omega⟩
      have HRw := Lib.hid (fun o => HRow.out.lift ((Below.refl _ wr).alloc (Nat.le_refl _) o))
      clear h6 hx hp
      have hji : (j : Int) < (m : Int) := by omega
      have hN1 : j + 1 ≤ 1000000 := by omega
      go_wp2_with (at_builtin; refine wpList_pushG TyE rfl _ _ rfl w.heap.size (fun c => c < w.heap.size) _ _ rfl (HRw.out _) wr.heap.size _ [.int .i64 k, .string nm, .int .i64 i, .int .i64 hh, .slice sa sn sc] (heap_alloc_new wr _) rfl p.2 (HX.out.lift ((Below.refl _ wr).alloc (Nat.le_refl _) _)) (j + 1) HLen.out hN1 (Nat.le_trans hlow.size (by simp)) ?_; intro a4 c4 w4 hrow4 hg4)
      have HR4 := Lib.hid hrow4
      have HG4 : Below w.heap.size w w4 := Below.grown (hlow.alloc hlow.size _) hg4 (Nat.le_trans hlow.size (by simp)) (fun b hb => (HRow.out.lt b hb).1)
      clear hrow4 hg4
      go_roundw
      case rel => exact ⟨j + 1, a4, c4, hlt, by go_num, rfl, by show RowG _ _ _ _ _ _; rw [HMt.out]; exact HR4.out, HG4⟩
      case measure => simp [intOf]; omega
    · obtain rfl : j = m := by omega
      have hT : cs.take j = cs := List.take_of_length_le (by rw [← HM.out]; exact Nat.le_refl _)
      rw [hT] at HRow
      have HV := Lib.hid (HVars.out wr _ (slG_repL (HRow.out.slG (fun _ _ => trivial) (fun _ _ => trivial))))
      clear hT
      go_wp2_with (go_at_call 35; refine HV.out.mono ?_; rintro e w3 ⟨u, rfl, hi, hb⟩)
      go_ret
      exact ⟨_, rfl, hi, hlow.trans (hb.mono hlow.size)⟩
end Go.Proofs.Ytahiefgfhpkoeaa
