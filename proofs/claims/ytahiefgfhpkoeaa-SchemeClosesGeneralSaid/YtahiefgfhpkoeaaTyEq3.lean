/- The contract of the package's Equal. -/
import Derived.Test.YtahiefgfhpkoeaaTyEq2
import Derived.Shelf.Abstract
namespace Go.Proofs.Ytahiefgfhpkoeaa
open Go.RowKit Go.Sort Go.Shelf Mth

theorem keep_alloc {w : World} {p : Addr} {v : Value} (o : Obj) (h : w.cell? p = some v) : (w.alloc o).cell? p = some v :=
  (((Below.refl w.heap.size w).alloc (Nat.le_refl _) o).cell (World.block_lt_of_cell? _ _ h)).trans h
set_option maxHeartbeats 1600000 in
theorem eqFunc_of (l l' : List Ty) (H : ∀ T ∈ l, EqAt Try.prog 58 T) (v u : Value) (S S' : Nat → Prop) (w : World) (h : RepL w S l v) (h' : RepL w S' l' u) :
    Calls Try.prog 73 #[v, u, .func (.func 58) #[] #[]] w fun e w' => e = .returned (.bool (teqL l l')) ∧ Below w.heap.size w w' := by
  have eg : ∀ args w, (callFunc 58 args).run Try.prog w = .ok (.enter 58 args) w := enters_of Try.func58 (by kernel_rfl) rfl
  obtain ⟨a, cap, rfl, ⟨hc1, hc2⟩, hj⟩ := h
  obtain ⟨a', cap', rfl, ⟨hc1', hc2'⟩, hj'⟩ := h'
  have HJ := Lib.hid hj
  have HJ' := Lib.hid hj'
  have HH := Lib.hid H
  clear hj hj' H
  unfold maxLen at hc2 hc2'
  cases hlen : ((l.length : Int) != (l'.length : Int)) with
  | true =>
    have HE : Hid (teqL l l' = false) := by
      show _ = _
      cases ht : teqL l l' with
      | false => rfl
      | true => have := teqL_len ht; simp [this] at hlen
    go_enter Try.func73, Try.ntmps73
    go_wp2
    go_ret
    exact ⟨ret_bool HE.out.symm, Below.refl _ _⟩
  | false =>
    have hl : l'.length = l.length := by simp at hlen; omega
    rw [hl] at hc1' hlen ⊢
    have HE : Hid (teqL l l' = teqL (l.drop 0) (l'.drop 0)) := by show _ = _; simp
    have HN : Hid (l'.length = l.length) := hl
    clear hl
    obtain ⟨m, hm⟩ : ∃ m, m = l.length := ⟨_, rfl⟩
    rw [← hm] at hc1 hc1' hlen ⊢
    have HM := Lib.hid hm
    clear hm
    go_enter Try.func73, Try.ntmps73
    go_wp2
    go_loopw [17] (fun i wr => ∃ j : Nat, j ≤ m ∧ i = .int .i64 j ∧ Hid (teqL l l' = teqL (l.drop j) (l'.drop j)) ∧ Below w.heap.size w wr) (fun i _ => m - (intOf i).toNat)
    case atStart => exact ⟨0, Nat.zero_le _, rfl, HE, Below.refl _ _⟩
    case round =>
      obtain ⟨j, hj, rfl, HT, hb⟩ := hrel
      by_cases hlt : j < m
      · obtain ⟨T, hT⟩ : ∃ x, l[j]? = some x := ⟨_, List.getElem?_eq_getElem (by rw [← HM.out]; exact hlt)⟩
        obtain ⟨U, hU⟩ : ∃ x, l'[j]? = some x := ⟨_, List.getElem?_eq_getElem (by rw [HN.out, ← HM.out]; exact hlt)⟩
        have HTm : Hid (T ∈ l) := List.mem_of_getElem? hT
        obtain ⟨ad, x, rfl, hS, h5, hx⟩ := HJ.out j T hT
        obtain ⟨ad', y, rfl, hS', h5', hy⟩ := HJ'.out j U hU
        have HS := Lib.hid (teqL_step hT hU)
        clear hT hU
        have hx' := hx.lift (hb.mono (Nat.le_refl _))
        have hy' := hy.lift (hb.mono (Nat.le_refl _))
        have g5 := h5.kept (hb.block _ h5.lt)
        have g5' := h5'.kept (hb.block _ h5'.lt)
        obtain ⟨k, n, i, h, s, eT, rfl, hn, hs⟩ := hx'.open
        obtain ⟨k', n', i', h', s', eU, rfl, hn', hs'⟩ := hy'.open
        obtain ⟨q0, q1, q2, q3, q4⟩ := five_at g5
        obtain ⟨r0, r1, r2, r3, r4⟩ := five_at g5'
        obtain ⟨sa, sc, rfl, -⟩ := hs
        obtain ⟨sa', sc', rfl, -⟩ := hs'
        clear h5 h5' hx hy g5 g5' eT eU hn hn' hS hS'
        have HX := Lib.hid hx'
        have HY := Lib.hid hy'
        clear hx' hy'
        have hji : (j : Int) < (m : Int) := by omega
        generalize T.ts.length = sn at *
        generalize U.ts.length = sn' at *
        have HC : Hid (∀ w' : World, Below wr.heap.size wr w' → Calls Try.prog 58 #[.agg #[.int .i64 k, .string n, .int .i64 i, .int .i64 h, .slice sa sn sc], .agg #[.int .i64 k', .string n', .int .i64 i', .int .i64 h', .slice sa' sn' sc']] w' fun e w'' => e = .returned (.bool (teq T U)) ∧ Below w'.heap.size w' w'') :=
          fun w' hb' => HH.out T HTm.out U _ _ S S' w' (HX.out.lift hb') (HY.out.lift hb')
        have A0 : ∀ o, (wr.alloc o).cell? _ = _ := fun o => keep_alloc o r0
        have A1 : ∀ o, (wr.alloc o).cell? _ = _ := fun o => keep_alloc o r1
        have A2 : ∀ o, (wr.alloc o).cell? _ = _ := fun o => keep_alloc o r2
        have A3 : ∀ o, (wr.alloc o).cell? _ = _ := fun o => keep_alloc o r3
        have A4 : ∀ o, (wr.alloc o).cell? _ = _ := fun o => keep_alloc o r4
        have hb2 : ∀ X Y Z Z', Below w.heap.size w ((wr.alloc (.cells X Z)).alloc (.cells Y Z')) := fun X Y Z Z' => (hb.alloc hb.size _).alloc (by have := hb.size; simp; omega) _
        cases hq : teq T U with
        | true =>
          have HS2 : Hid (teqL l l' = teqL (l.drop (j + 1)) (l'.drop (j + 1))) := by
            show _ = _
            rw [HT.out, HS.out, hq]; rfl
          rw [hq] at HC
          clear hq
          go_wp2_with (go_at_call 58; refine (HC.out _ (((Below.refl _ _).alloc (Nat.le_refl _) _).alloc (by simp) _)).mono ?_; rintro e w1 ⟨rfl, hb1⟩)
          go_roundw
          case rel => exact ⟨j + 1, hlt, by go_num, HS2, (hb2 _ _ _ _).trans (hb1.mono (hb2 _ _ _ _).size)⟩
          case measure => simp [intOf]; omega
        | false =>
          have HS2 : Hid (teqL l l' = false) := by
            show _ = _
            rw [HT.out, HS.out, hq]; rfl
          rw [hq] at HC
          clear hq
          go_wp2_with (go_at_call 58; refine (HC.out _ (((Below.refl _ _).alloc (Nat.le_refl _) _).alloc (by simp) _)).mono ?_; rintro e w1 ⟨rfl, hb1⟩)
          go_ret
          exact ⟨ret_bool HS2.out.symm, (hb2 _ _ _ _).trans (hb1.mono (hb2 _ _ _ _).size)⟩
      · have HS2 : Hid (teqL l l' = true) := by
          show _ = _
          rw [HT.out, List.drop_eq_nil_of_le (by rw [← HM.out]; omega), List.drop_eq_nil_of_le (by rw [HN.out, ← HM.out]; omega)]; rfl
        go_wp2
        go_ret
        exact ⟨ret_bool HS2.out.symm, hb⟩
set_option maxHeartbeats 1600000 in
theorem equal_of (T : Ty) (H : ∀ U ∈ T.ts, EqAt Try.prog 58 U) : EqAt Try.prog 58 T := by
  intro U v u S S' w h h'
  obtain ⟨k, n, i, hm, s, eT, rfl, hn, hs⟩ := h.open
  obtain ⟨k', n', i', hm', s', eU, rfl, hn', hs'⟩ := h'.open
  clear h h'
  have HS := Lib.hid hs
  have HS' := Lib.hid hs'
  have HH : Hid (∀ (w w' : World), Below w.heap.size w w' → RepL w S T.ts s → RepL w S' U.ts s' → Calls Try.prog 73 #[s, s', .func (.func 58) #[] #[]] w' fun e w'' => e = .returned (.bool (teqL T.ts U.ts)) ∧ Below w'.heap.size w' w'') :=
    fun w w' hb h1 h2 => eqFunc_of T.ts U.ts H s s' S S' w' (h1.lift hb) (h2.lift hb)
  have HE : Hid (teq T U = (k == k' && n.toList == n'.toList && i == i' && hm == hm' && teqL T.ts U.ts)) := by
    show _ = _
    conv => lhs; rw [eT, eU]
    rfl
  clear eT eU hs hs' H hn hn'
  generalize teqL T.ts U.ts = q at *
  have hb0 : ∀ X Y Z Z', Below w.heap.size w ((w.alloc (.cells X Z)).alloc (.cells Y Z')) := fun X Y Z Z' => ((Below.refl _ w).alloc (Nat.le_refl _) _).alloc (by simp) _
  go_enter Try.func58, Try.ntmps58
  go_wp2_with (go_at_call 73; refine (HH.out w _ (hb0 _ _ _ _) HS.out HS'.out).mono ?_; rintro e w1 ⟨rfl, hb1⟩)
  all_goals
    go_ret
    refine ⟨ret_bool (by rw [HE.out]; simp_all), ?_⟩
    first
      | exact hb0 _ _ _ _
      | exact (hb0 _ _ _ _).trans (hb1.mono (by simp; omega))
theorem equal_any : ∀ (m : Nat) (T : Ty), nodes T ≤ m → EqAt Try.prog 58 T := by
  intro m
  induction m with
  | zero => intro T h; have := nodes_pos T; omega
  | succ m ih =>
    intro T h
    refine equal_of T fun U hU => ih U ?_
    have := nodesL_mem hU
    cases T
    simp only [nodes, Ty.ts] at *
    omega
end Go.Proofs.Ytahiefgfhpkoeaa
