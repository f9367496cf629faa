/- The contract of the reference's Open. -/
import Derived.Test.YtahiefgfhpkoeaaTyRefRepl
namespace Go.Proofs.Ytahiefgfhpkoeaa
open Go.RowKit Go.Sort Go.Shelf Go.Maps Mth

/-- Is it a quantified variable with an element of the list? -/
def opens (gs : List Ty) (k i : Int) : Bool := k == 2 && decide (0 ≤ i) && decide (i < (gs.length : Int))
mutual
def opn (gs : List Ty) : Ty → Ty
  | .mk k n i h ts => if opens gs k i = true then (gs[i.toNat]?).getD (.mk k n i h ts) else .mk k n i h (opnL gs ts)
def opnL (gs : List Ty) : List Ty → List Ty
  | [] => []
  | t :: l => opn gs t :: opnL gs l
end
theorem opnL_map (gs : List Ty) : ∀ l : List Ty, opnL gs l = l.map (opn gs) := by
  intro l
  induction l with
  | nil => rfl
  | cons t l ih => simp [opnL, ih]
/-- What the contract of an opening says. -/
def OpenAt (P : Program) (f : Nat) (gs : List Ty) (T : Ty) : Prop := ∀ (v av : Value) (S S0 : Nat → Prop) (w : World), nodes T ≤ 1000000 → RepL w S0 gs av → (∀ b, S0 b → S b ∧ b < w.heap.size) → (∀ b, w.heap.size ≤ b → S b) → Rep w S T v →
  Calls P f #[v, av] w fun e w' => ∃ u, e = .returned u ∧ Rep w' S (opn gs T) u ∧ Below w.heap.size w w'
/-- The three ways in which it is none. -/
theorem opens_no {gs : List Ty} {k i : Int} {m : Nat} (hm : m = gs.length) (h : opens gs k i = false) : (k == 2) = false ∨ ((k == 2) = true ∧ decide (0 ≤ i) = false) ∨ ((k == 2) = true ∧ 0 ≤ i ∧ decide (i < (m : Int)) = false) := by
  subst hm
  unfold opens at h
  cases h1 : (k == 2) with
  | false => exact .inl rfl
  | true =>
    by_cases h2 : 0 ≤ i
    · right; right
      refine ⟨rfl, h2, ?_⟩
      rw [h1] at h
      simpa [h2] using h
    · exact .inr (.inl ⟨rfl, by simpa using h2⟩)
theorem opens_yes {gs : List Ty} {k i : Int} (h : opens gs k i = true) : k = 2 ∧ 0 ≤ i ∧ i < (gs.length : Int) := by
  unfold opens at h
  simp only [Bool.and_eq_true, decide_eq_true_eq, beq_iff_eq] at h
  exact ⟨h.1.1, h.1.2, h.2⟩
theorem enterOpen (v u : Value) (w : World) : (callFunc 57 #[v, u]).run Try.prog w = .ok (.enter 57 #[v, u]) w := by kernel_rfl
set_option maxRecDepth 100000 in
set_option maxHeartbeats 6400000 in
theorem refOpen_of (σ : List Ty) (T : Ty) (H : ∀ U ∈ T.ts, OpenAt Try.prog 57 σ U) : OpenAt Try.prog 57 σ T := by
  intro v sv S S0 w hN hA h0 hf h
  have HA := Lib.hid hA
  obtain ⟨a, cap, rfl, ⟨hc1, hc2⟩, hj⟩ := hA
  have HJ := Lib.hid hj
  have HH := Lib.hid H
  obtain ⟨k, n, i, hm, s, eT, rfl, hn, hs⟩ := h.open
  have HR := Lib.hid h
  have HS := Lib.hid hs
  obtain ⟨sa, sc, rfl, ⟨hsc1, hsc2⟩, -⟩ := hs
  have hb2 : Below w.heap.size w ((w.alloc (.cells #[.int .i64 k, .string n, .int .i64 i, .int .i64 hm, .slice sa T.ts.length sc] 25)).alloc (.cells #[.int .i64 0, .string ⟨#[]⟩, .int .i64 0, .int .i64 0, .slice none 0 0] 25)) := ((Below.refl _ w).alloc (Nat.le_refl _) _).alloc (by simp) _
  have HBT : Hid (Box ((w.alloc (.cells #[.int .i64 k, .string n, .int .i64 i, .int .i64 hm, .slice sa T.ts.length sc] 25)).alloc (.cells #[.int .i64 0, .string ⟨#[]⟩, .int .i64 0, .int .i64 0, .slice none 0 0] 25)) w.heap.size (.int .i64 k) (.string n) (.int .i64 i) (.int .i64 hm) (.slice sa T.ts.length sc)) := by
    show Box _ _ _ _ _ _ _
    unfold Box; rw [heap_at, if_neg (by simp), heap_at, if_pos rfl]
  have HBZ : Hid (Zero ((w.alloc (.cells #[.int .i64 k, .string n, .int .i64 i, .int .i64 hm, .slice sa T.ts.length sc] 25)).alloc (.cells #[.int .i64 0, .string ⟨#[]⟩, .int .i64 0, .int .i64 0, .slice none 0 0] 25)) (w.heap.size + 1)) := by
    show Box _ _ _ _ _ _ _
    unfold Box; rw [heap_at, if_pos (by simp)]
  have hs2 : ((w.alloc (.cells #[.int .i64 k, .string n, .int .i64 i, .int .i64 hm, .slice sa T.ts.length sc] 25)).alloc (.cells #[.int .i64 0, .string ⟨#[]⟩, .int .i64 0, .int .i64 0, .slice none 0 0] 25)).heap.size = w.heap.size + 2 := by simp
  have HS2 := Lib.hid hs2
  have HB2 := Lib.hid hb2
  clear hs2 hb2
  cases hk : opens σ k i with
  | false =>
    have HE : Hid (opn σ T = .mk k n i hm (T.ts.map (opn σ))) := by
      show _ = _
      conv => lhs; rw [eT]
      unfold opn
      rw [if_neg (by rw [hk]; simp), opnL_map]
    have hnN := ts_nodes T
    have HNd : Hid (∀ U ∈ T.ts, nodes U ≤ 1000000) := fun U hU => by have := mem_nodes hU; omega
    have HNm := Lib.hid hn
    obtain ⟨l, hl⟩ : ∃ l, l = T.ts := ⟨_, rfl⟩
    rw [← hl] at HH HE HNd hnN hsc1 HBT HBZ HS2 HB2 HS ⊢
    have hA0 : ∀ v, Below w.heap.size w v → RepL v S0 σ (.slice a σ.length cap) := fun v hb => HA.out.lift hb
    have HAv := Lib.hid hA0
    obtain ⟨m, hm'⟩ : ∃ m, m = l.length := ⟨_, rfl⟩
    rw [← hm'] at hnN hsc1 HBT HBZ HS2 HB2 HS ⊢
    have HM := Lib.hid hm'
    obtain ⟨sl, hsl⟩ : ∃ m, m = σ.length := ⟨_, rfl⟩
    have hno := opens_no hsl hk
    rw [← hsl] at HAv hc1 ⊢
    clear hm' hl eT hn hj H h hk hA0 HA HJ hc1 hc2 hsc2 hsl
    go_enter Try.func57, Try.ntmps57
    go_upto_region 1 with fail
    generalize ((w.alloc (.cells #[.int .i64 k, .string n, .int .i64 i, .int .i64 hm, .slice sa m sc] 25)).alloc (.cells #[.int .i64 0, .string ⟨#[]⟩, .int .i64 0, .int .i64 0, .slice none 0 0] 25)) = W2 at *
    obtain ⟨b0, b1, b2, b3, b4⟩ := HBT.out.cells
    go_cut [21] (fun s21 wx => s21 = .bool false ∧ wx = W2)
    case first =>
      rcases hno with h1 | ⟨h1, h2⟩ | ⟨h1, h2, h3⟩
      all_goals
        go_wp2_with fail
        go_meet
        exact ⟨rfl, rfl⟩
    obtain ⟨rfl, hwc⟩ := hcut
    obtain rfl : W2 = wc := hwc.symm
    clear hno
    go_upto_region 3 with fail
    have HBM : Hid (∀ w : World, Zero (w.alloc (.cells #[.int .i64 0, .string ⟨#[]⟩, .int .i64 0, .int .i64 0, .slice none 0 0] 25)) w.heap.size) := fun w => Box.made _ _ _ _ _ _
    have HAl : Hid (∀ w : World, Below w.heap.size w (w.alloc (.cells #[.int .i64 0, .string ⟨#[]⟩, .int .i64 0, .int .i64 0, .slice none 0 0] 25))) := fun w => (Below.refl _ w).alloc (Nat.le_refl _) _
    go_upto_region 4 with (refine wpList_store5 rfl _ _ rfl _ _ _ _ _ _ (HBM.out _) rfl _ _ _ _ _ _ _ rfl ?_; intro w3 hB3 hg3 hs3)
    have e2 := HS2.out
    have h3 : w3.heap.size = w.heap.size + 3 := by rw [hs3]; simp [e2]
    rw [e2] at hB3 hg3
    have HO3 : Hid (OSt w (fun c => S c ∧ c ≠ w.heap.size + 1 ∧ c ≠ w.heap.size + 2) (.int .i64 k) (.string n) (.int .i64 i) (.int .i64 hm) (.slice sa m sc) (.int .i64 k) (.string n) (.int .i64 i) (.int .i64 hm) (.slice sa m sc) (.slice none 0 0) [] w3) :=
      ⟨Box.grown (Box.lift HBT.out (HAl.out W2)) hg3 (by intro e; have := Option.some.inj e; omega), Box.grown (Box.lift HBZ.out (HAl.out W2)) hg3 (by intro e; have := Option.some.inj e; omega), hB3, rowG_nil _ _ _ _, Below.grown (HB2.out.trans ((HAl.out W2).mono HB2.out.size)) hg3 (Nat.le_trans HB2.out.size (HAl.out W2).size) (fun k hk => by cases hk; omega), by omega⟩
    clear hs3 h3 hB3 hg3 HBT HBZ HB2 b0 b1 b2 b3 b4
    clear e2
    generalize W2.heap.size = D at *
    obtain rfl : D = w.heap.size + 2 := HS2.out
    clear HS2
    have hz := HO3.out.cell
    have hzf := HO3.out.frozen
    go_upto_region 5 with fail
    have HO4 := Lib.hid (HO3.out.stored (fun h => h.2.2 rfl))
    generalize w3.setCell _ _ = w4 at *
    clear hz hzf HO3 HAl HBM
    go_wp2
    go_loopw [6] (fun x wr => ∃ (j : Nat) (ya : Option Addr) (yc : Nat), j ≤ m ∧ x = .int .i64 j ∧ Hid (OSt w (fun c => S c ∧ c ≠ w.heap.size + 1 ∧ c ≠ w.heap.size + 2) (.int .i64 k) (.string n) (.int .i64 i) (.int .i64 hm) (.slice sa m sc) (.int .i64 k) (.string n) (.int .i64 i) (.int .i64 hm) (.slice ya j yc) (.slice ya j yc) ((l.take j).map (opn σ)) wr)) (fun x _ => m - (intOf x).toNat)
    case atStart => exact ⟨0, none, 0, Nat.zero_le _, rfl, HO4⟩
    case round =>
      obtain ⟨j, ya, yc, hj, rfl, HO⟩ := hrel
      have zarg := HO.out.arg
      have hsw := HO.out.size
      by_cases hlt : j < m
      · obtain ⟨U, hU⟩ : ∃ x, l[j]? = some x := ⟨_, List.getElem?_eq_getElem (by rw [← HM.out]; exact hlt)⟩
        have HUm : Hid (U ∈ l) := List.mem_of_getElem? hU
        have HStep := Lib.hid (map_take_succ (opn σ) hU)
        have hlow := HO.out.low
        obtain ⟨sad, scap, hv, -, hsj⟩ := HS.out
        simp only [Value.slice.injEq] at hv
        obtain ⟨rfl, -, rfl⟩ := hv
        obtain ⟨ad, x, rfl, hSa, h5, hx⟩ := hsj j U hU
        have hltd := h5.lt
        clear hsj hU
        have hbd : Below wr.heap.size wr wr.drew := (Below.refl _ wr).drew
        have hlowd := hlow.trans (hbd.mono hlow.size)
        have HOd := Lib.hid (HO.out.lift hbd)
        have g5 := h5.kept (hlowd.block _ hltd)
        have hxd := hx.bound.lift hlowd
        obtain ⟨k', n', i', h', s', eU, rfl, hn2, hs2⟩ := hxd.open
        obtain ⟨q0, q1, q2, q3, q4⟩ := five_at g5
        obtain ⟨sa', sc', rfl, -⟩ := hs2
        have HX := Lib.hid hxd
        have hji : (j : Int) < (m : Int) := by omega
        clear h5 hx g5 eU hn2 hSa hxd
        go_upto_region 8 with fail
        clear zarg
        have hlen : j + 1 = ((l.take j).map (opn σ)).length + 1 := by rw [List.length_map, List.length_take, ← HM.out]; omega
        have HLen := Lib.hid hlen
        clear hlen
        have hNb : j + 1 ≤ 1000000 := by omega
        generalize U.ts.length = sn' at *
        have HLow : Hid (∀ c, (Value.slice ya j yc).ownBlock = some c → w.heap.size + 3 ≤ c ∧ c < wr.drew.heap.size) := fun c e => RowG.lt HOd.out.row c e
        have HC : Hid (Calls Try.prog 57 #[.agg #[.int .i64 k', .string n', .int .i64 i', .int .i64 h', .slice sa' sn' sc'], .slice a sl cap] wr.drew fun e w' => ∃ u, e = .returned u ∧ AfterR w (fun c => S c ∧ c ≠ w.heap.size + 1 ∧ c ≠ w.heap.size + 2) (.int .i64 k) (.string n) (.int .i64 i) (.int .i64 hm) (.slice (some ad) m sc) (.int .i64 k) (.string n) (.int .i64 i) (.int .i64 hm) (.slice ya j yc) (.slice ya j yc) ((l.take j).map (opn σ)) (opn σ U) u w') :=
          (HH.out U HUm.out _ _ (fun c => S c ∧ (c < w.heap.size ∨ wr.drew.heap.size ≤ c)) S0 wr.drew (HNd.out U HUm.out) (HAv.out _ hlowd) (fun c hc => ⟨⟨(h0 c hc).1, .inl (h0 c hc).2⟩, Nat.lt_of_lt_of_le (h0 c hc).2 hlowd.size⟩) (fun c hc => ⟨hf c (Nat.le_trans hlowd.size hc), .inr hc⟩) (HX.out.imp fun c hc => ⟨hc.1, .inl hc.2⟩)).mono
            fun e w' ⟨u, h1, h2, h3⟩ => ⟨u, h1, HOd.out.lift h3, h2.imp fun c hc => ⟨⟨hc.1, by rcases hc.2 with h | h <;> have := HOd.out.size <;> omega, by rcases hc.2 with h | h <;> have := HOd.out.size <;> omega⟩, fun e => by have := HLow.out c e.symm; rcases hc.2 with h | h <;> omega⟩⟩
        have zd := HOd.out.cell
        have zarg := HOd.out.arg
        clear hlow hlowd hbd HX HLow HO HOd HH
        go_wp2_with fail
        go_region_law
          (first
            | ((with_reducible refine step_call2 57 enterOpen (.agg #[.int .i64 k', .string n', .int .i64 i', .int .i64 h', .slice sa' sn' sc']) (.slice a sl cap) (fun u w' => AfterR w (fun c => S c ∧ c ≠ w.heap.size + 1 ∧ c ≠ w.heap.size + 2) (.int .i64 k) (.string n) (.int .i64 i) (.int .i64 hm) (.slice (some ad) m sc) (.int .i64 k) (.string n) (.int .i64 i) (.int .i64 hm) (.slice ya j yc) (.slice ya j yc) ((l.take j).map (opn σ)) (opn σ U) u w') ?_ ?_ ?_ ?_); (rfl); (rfl); (exact HC.out); (rintro u v2 hF); (have HF := Lib.hid hF); (obtain ⟨uk, un, ui, uh, ua, un', uc, rfl⟩ := hF.rep.form); (have z4 := hF.o.cell); (have z4o := hF.o.cellA); (have z4d := (hF.lift (Below.refl _ v2).drew).o.cell); (have z4do := (hF.lift (Below.refl _ v2).drew).o.cellA); clear hF zd zarg)
            | ((with_reducible refine fitA v2 _ ?_); (refine step_pushO HF.out.o (opn σ U) [.int .i64 uk, .string un, .int .i64 ui, .int .i64 uh, .slice ua un' uc] HF.out.rep _ rfl _ (by rfl) _ _ (by rfl) (by rfl) _ rfl (by rfl) (j + 1) HLen.out hNb ?_); (intro a' c' v3 hP); (have HP3 := Lib.hid hP); (have c4 := hP.cell); (have f4 := hP.frozen); clear hP z4 z4o z4d z4do)
            | ((with_reducible refine fitA v2.drew _ ?_); (refine step_pushO (HF.out.lift (Below.refl _ v2).drew).o (opn σ U) [.int .i64 uk, .string un, .int .i64 ui, .int .i64 uh, .slice ua un' uc] (HF.out.lift (Below.refl _ v2).drew).rep _ rfl _ (by rfl) _ _ (by rfl) (by rfl) _ rfl (by rfl) (j + 1) HLen.out hNb ?_); (intro a' c' v3 hP); (have HP3 := Lib.hid hP); (have c4 := hP.cell); (have f4 := hP.frozen); clear hP z4 z4o z4d z4do))
        all_goals
          have HP4 := Lib.hid (HP3.out.stored (fun h => h.2.2 rfl))
          rw [← HStep.out] at HP4
          clear HP3 c4 f4 HF HC
          go_wp2
          go_roundw
          case rel => exact ⟨j + 1, a', c', hlt, by go_num, HP4⟩
          case measure => simp [intOf]; omega
      · obtain rfl : j = m := by omega
        have hjf : ¬ (j : Int) < (j : Int) := by omega
        obtain ⟨d0, d1, d2, d3, d4⟩ := HO.out.box.cells
        have HZ9 := Lib.hid HO.out.r
        have hnm := HNm.out
        go_wp2_with (refine wpList_store5 rfl _ _ rfl _ _ _ _ _ _ HZ9.out rfl _ _ _ _ _ _ _ rfl ?_; intro w9 hB9 hg9 hs9)
        obtain ⟨c0, c1, c2, c3, c4⟩ := hB9.cells
        refine bodyPost_ret (by simp [results, Try.results57, go_sem, c0, c1, c2, c3, c4]; try rfl) rfl ?_
        refine ⟨_, rfl, ?_, Below.grown HO.out.low hg9 HO.out.low.size (fun k hk => by cases hk; omega)⟩
        have hrow := HO.out.row
        rw [List.take_of_length_le (by rw [← HM.out]; exact Nat.le_refl _)] at hrow
        have hl := slG_repL (hrow.slG (S' := fun c => S c ∧ c ≠ w.heap.size + 1) (fun c hc => ⟨hc.1, hc.2.1⟩) (fun c hc => ⟨hf c (by omega), by omega⟩))
        rw [HE.out]
        exact (Rep.close hnm hl).kept (fun c hc => hc.1) (fun c hc hlt => hg9.block c hlt (by intro e; have := Option.some.inj e; exact hc.2 this))
  | true =>
    obtain ⟨rfl, hi0, hil⟩ := opens_yes hk
    obtain ⟨X, hX⟩ : ∃ x, σ[i.toNat]? = some x := ⟨_, List.getElem?_eq_getElem (by omega)⟩
    have HE : Hid (opn σ T = X) := by
      show _ = _
      conv => lhs; rw [eT]
      unfold opn
      rw [if_pos hk, hX]
      rfl
    obtain ⟨ad, x, rfl, hS, h5, hx⟩ := hj _ X hX
    obtain ⟨m, hmm⟩ : ∃ m, m = σ.length := ⟨_, rfl⟩
    rw [← hmm] at hc1 hil ⊢
    have g5 := h5.kept (HB2.out.block _ h5.lt)
    have HX := Lib.hid hx.bound
    obtain ⟨k', n', i', h', s', -, rfl, hn2, hs2⟩ := hx.open
    obtain ⟨q0, q1, q2, q3, q4⟩ := five_at g5
    obtain ⟨sa', sc', rfl, -⟩ := hs2
    obtain ⟨q, rfl⟩ : ∃ q : Nat, i = q := ⟨i.toNat, by omega⟩
    simp only [Int.toNat_natCast] at q0 q1 q2 q3 q4
    clear HA HH H hj HJ h eT hn hk HS hsc1 hsc2 hmm hX h5 g5 hx hn2 hS
    generalize X.ts.length = sn' at *
    generalize T.ts.length = sn at *
    have hqi : (q : Int) < (m : Int) := hil
    go_enter Try.func57, Try.ntmps57
    go_upto_region 1 with fail
    generalize ((w.alloc (.cells #[.int .i64 2, .string n, .int .i64 q, .int .i64 hm, .slice sa sn sc] 25)).alloc (.cells #[.int .i64 0, .string ⟨#[]⟩, .int .i64 0, .int .i64 0, .slice none 0 0] 25)) = W at *
    obtain ⟨b0, b1, b2, b3, b4⟩ := HBT.out.cells
    go_wp2_with (refine wpList_store5 rfl _ _ rfl _ _ _ _ _ _ HBZ.out rfl _ _ _ _ _ _ _ rfl ?_; intro w2 hB2 hg2 hs2)
    obtain ⟨c0, c1, c2, c3, c4⟩ := hB2.cells
    refine bodyPost_ret (by simp [results, Try.results57, go_sem, c0, c1, c2, c3, c4]; try rfl) rfl ?_
    refine ⟨_, rfl, ?_, Below.grown HB2.out hg2 HB2.out.size (fun j hj => by cases hj; omega)⟩
    rw [HE.out]
    exact (HX.out.lift HB2.out).kept (fun b hb => (h0 b hb.1).1) (fun b hb hlt => hg2.block b hlt (by intro e; have := Option.some.inj e; have := hb.2; omega))
theorem refOpen_any (gs : List Ty) (T : Ty) : OpenAt Try.prog 57 gs T := Ty.induct (refOpen_of gs) T
end Go.Proofs.Ytahiefgfhpkoeaa
