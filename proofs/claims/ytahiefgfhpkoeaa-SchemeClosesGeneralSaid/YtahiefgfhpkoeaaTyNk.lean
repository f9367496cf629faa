/- The contract of nodesOfKind. -/
import Derived.Test.YtahiefgfhpkoeaaTyCon
import Derived.Test.YtahiefgfhpkoeaaTyRepl
namespace Go.Proofs.Ytahiefgfhpkoeaa
open Go.RowKit Go.Sort Go.Shelf Mth

mutual
def nk (K : Int) : Ty → List Ty
  | .mk k n i h ts => (if k = K then [.mk k n i h ts] else []) ++ nkL K ts
def nkL (K : Int) : List Ty → List Ty
  | [] => []
  | t :: l => nk K t ++ nkL K l
end
theorem nkL_append (K : Int) : ∀ l l' : List Ty, nkL K (l ++ l') = nkL K l ++ nkL K l' := by
  intro l l'
  induction l with
  | nil => rfl
  | cons t l ih => simp [nkL, ih]
theorem nkL_flat (K : Int) : ∀ l : List Ty, nkL K l = l.flatMap (nk K) := by
  intro l
  induction l with
  | nil => rfl
  | cons t l ih => simp [nkL, ih]
theorem nk_len (K : Int) (T : Ty) : (nk K T).length ≤ nodes T := by
  have : ∀ T, (nk K T).length ≤ nodes T := by
    intro T
    refine Ty.induct (p := fun T => (nk K T).length ≤ nodes T) (fun T ih => ?_) T
    have hl : ∀ l : List Ty, (∀ U ∈ l, (nk K U).length ≤ nodes U) → (nkL K l).length ≤ nodesL l := by
      intro l
      induction l with
      | nil => intro _; simp [nkL]
      | cons t l ih => intro h; have := h t (by simp); have := ih fun U hU => h U (by simp [hU]); simp [nkL, nodesL]; omega
    cases T with
    | mk k n i h ts =>
      have := hl ts ih
      simp only [nk, nodes, List.length_append]
      split <;> simp <;> omega
  exact this T
theorem nkL_len (K : Int) : ∀ l : List Ty, (nkL K l).length ≤ nodesL l := by
  intro l
  induction l with
  | nil => simp [nkL]
  | cons t l ih => have := nk_len K t; simp [nkL, nodesL]; omega
theorem nodesL_take (l : List Ty) (j : Nat) : nodesL (l.take j) ≤ nodesL l := by
  induction l generalizing j with
  | nil => simp
  | cons t l ih => cases j with
    | zero => simp [nodesL]
    | succ j => have := ih j; simp [nodesL]; omega
theorem nodesL_take_add {l : List Ty} {j : Nat} {T : Ty} (h : l[j]? = some T) : nodesL (l.take j) + nodes T ≤ nodesL l := by
  induction l generalizing j with
  | nil => simp at h
  | cons t l ih => cases j with
    | zero => simp at h; subst h; simp [nodesL]
    | succ j => have := ih (j := j) (by simpa using h); simp [nodesL]; omega
set_option maxHeartbeats 3200000 in
theorem nodesOfKind_any (K : Int) : ∀ (m : Nat) (l : List Ty), nodesL l ≤ m → ∀ (base : Nat) (S : Nat → Prop) (found lv : Value) (ts : List Ty) (w : World), base ≤ w.heap.size → ts.length + nodesL l ≤ 1000000 → (∀ b, S b → b < base) → RowT w base S found ts → RepL w S l lv →
    Calls Try.prog 68 #[.int .i64 K, found, lv] w fun e w' => ∃ v', e = .returned v' ∧ RowT w' base S v' (ts ++ nkL K l) ∧ Below base w w' := by
  intro m
  induction m with
  | zero =>
    intro l hm base S found lv ts w hbase hN hS hrow h
    have hl0 : l = [] := by
      cases l with
      | nil => rfl
      | cons t l => have := nodes_pos t; simp [nodesL] at hm; omega
    subst hl0
    obtain ⟨a, cap, rfl, _, _⟩ := h
    have HR := Lib.hid hrow
    clear hrow
    go_enter Try.func68, Try.ntmps68
    go_wp2
    go_rounds 1
    go_ret
    exact ⟨_, rfl, by simpa [nkL] using HR.out, Below.refl _ _⟩
  | succ m ih =>
    intro l hm base S found lv ts w hbase hN hS hrow h
    obtain ⟨a, cap, rfl, ⟨hc1, hc2⟩, hj⟩ := h
    have HJ := Lib.hid hj
    have HIH := Lib.hid ih
    have HR : Hid (RowT w base S found (ts ++ nkL K (l.take 0))) := by show RowT _ _ _ _ _; simpa [nkL] using hrow
    have hcapN := len_nodesL l
    clear hj ih hrow hc2
    obtain ⟨c, hcc⟩ : ∃ c, c = l.length := ⟨_, rfl⟩
    rw [← hcc] at hc1 hcapN ⊢
    have HM := Lib.hid hcc
    clear hcc
    go_enter Try.func68, Try.ntmps68
    go_wp2
    go_loopw [1, 11] (fun f x wr => ∃ j : Nat, j ≤ c ∧ x = .int .i64 j ∧ Hid (RowT wr base S f (ts ++ nkL K (l.take j))) ∧ Below base w wr) (fun _ x _ => c - (intOf x).toNat)
    case atStart => exact ⟨0, Nat.zero_le _, rfl, HR, Below.refl _ _⟩
    case round =>
      obtain ⟨j, hj, rfl, HRow, hb⟩ := hrel
      by_cases hlt : j < c
      · obtain ⟨T, hT⟩ : ∃ x, l[j]? = some x := ⟨_, List.getElem?_eq_getElem (by rw [← HM.out]; exact hlt)⟩
        have HNk : Hid (nkL K (l.take (j + 1)) = nkL K (l.take j) ++ nk K T) := by show _ = _; rw [List.take_add_one, hT, nkL_append]; simp [nkL]
        have hnt := nodesL_take_add hT
        have hlk := nkL_len K (l.take j)
        obtain ⟨ad, x, rfl, hSa, h5, hx⟩ := HJ.out j T hT
        clear hT
        have hbS : ∀ b, S b → b < w.heap.size → wr.heap[b]? = w.heap[b]? := fun b hb' _ => hb.block b (hS b hb')
        have hxr := hx.kept (fun _ h => h) hbS
        have g5 := h5.kept (hbS _ hSa h5.lt)
        obtain ⟨k, n, i, h, s, eT, rfl, hn, hs⟩ := hxr.open
        obtain ⟨q0, q1, q2, q3, q4⟩ := five_at g5
        have HX := Lib.hid hxr
        have HA := Lib.hid hs
        obtain ⟨sa, sc, rfl, -⟩ := hs
        have hnT : nodes T = nodesL T.ts + 1 := by cases T; rfl
        have HN : Hid (nk K T = (if k = K then [T] else []) ++ nkL K T.ts) := by
          show _ = _
          conv => lhs; rw [eT]
          conv => rhs; rw [eT]
          rfl
        clear h5 hx g5 eT hn hSa hxr hbS
        have hji : (j : Int) < (c : Int) := by omega
        have hbr : ∀ X, Below base w (wr.alloc (.cells X 25)) := fun X => hb.alloc (Nat.le_trans hbase hb.size) _
        have hbr2 : ∀ X, Below wr.heap.size wr (wr.alloc (.cells X 25)) := fun X => (Below.refl _ wr).alloc (Nat.le_refl _) _
        have hsz := hb.size
        have HIH2 : Hid (∀ (f : Value) (us : List Ty) (w' : World), us.length = (ts ++ nkL K (l.take j)).length ∨ us.length = (ts ++ nkL K (l.take j)).length + 1 → Below base wr w' → RowT w' base S f us → Calls Try.prog 68 #[.int .i64 K, f, .slice sa T.ts.length sc] w' fun e w'' => ∃ v', e = .returned v' ∧ RowT w'' base S v' (us ++ nkL K T.ts) ∧ Below base w' w'') := by
          intro f us w' hu hbw' hr'
          refine HIH.out T.ts (by omega) base S f _ us w' (Nat.le_trans hbase (Nat.le_trans hsz hbw'.size)) ?_ hS hr' (HA.out.kept (fun _ h => h) fun b hb' _ => hbw'.block b (hS b hb'))
          rw [List.length_append] at hu
          omega
        generalize T.ts.length = sn at *
        have hbase' := Nat.le_trans hbase hsz
        cases hk : (k == K) with
        | false =>
          have HN2 : Hid (ts ++ nkL K (l.take (j + 1)) = (ts ++ nkL K (l.take j)) ++ nkL K T.ts) := by
            show _ = _
            rw [HNk.out, HN.out, if_neg (by simpa using hk)]; simp
          go_wp2_with (go_at_call 68; refine (HIH2.out _ _ _ (.inl rfl) ((hbr2 _).mono hbase') (HRow.out.lift (hbr2 _))).mono ?_; rintro e w1 ⟨v', rfl, hrow1, hb1⟩)
          have HRow1 : Hid (RowT w1 base S v' (ts ++ nkL K (l.take (j + 1)))) := by show RowT _ _ _ _ _; rw [HN2.out]; exact hrow1
          go_roundw
          case rel => exact ⟨j + 1, hlt, by go_num, HRow1, (hbr _).trans hb1⟩
          case measure => simp [intOf]; omega
        | true =>
          have HN2 : Hid (ts ++ nkL K (l.take (j + 1)) = ((ts ++ nkL K (l.take j)) ++ [T]) ++ nkL K T.ts) := by
            show _ = _
            rw [HNk.out, HN.out, if_pos (by simpa using hk)]; simp
          have hlen2 : ts.length + (nkL K (l.take j)).length + 1 ≤ 1000000 := by omega
          have HP : Hid (∀ X, RowT (wr.alloc (.cells X 25)) base S u1 (ts ++ nkL K (l.take j))) := fun X => HRow.out.lift (hbr2 X)
          have HQ : Hid (∀ X, Rep (wr.alloc (.cells X 25)) (fun b => S b ∧ some b ≠ u1.ownBlock) T (.agg #[.int .i64 k, .string n, .int .i64 i, .int .i64 h, .slice sa sn sc])) := fun X =>
            (HX.out.lift (hbr2 X)).imp fun b hb => ⟨hb, by intro e; have := (HRow.out.lt b e.symm).1; have := hS b hb; omega⟩
          have HO := Lib.hid (fun b (e : u1.ownBlock = some b) => (HRow.out.lt b e).1)
          have HO2 := Lib.hid (fun b (e : u1.ownBlock = some b) => (HRow.out.lt b e).2)
          go_wp2_with (first
            | (at_builtin; refine wpList_push1 rfl _ _ rfl base S u1 _ rfl (HP.out _) (wr.heap.size + 1) (by simp) rfl T (HQ.out _) (ts.length + (nkL K (l.take j)).length + 1) (by simp) hlen2 (by simp; omega) ?_; intro a1 c1 w1 hrow1 hg1; have HRow1 := Lib.hid hrow1; have hc4 : w1.cell? ⟨wr.heap.size, 4, none⟩ = some (.slice sa sn sc) := hg1.cell (by simp) (by intro e; have := HO2.out _ e.symm; exact absurd this (Nat.lt_irrefl _)); have hb1 : Below base wr w1 := Below.grown ((hbr2 _).mono hbase') hg1 (by simp; omega) (fun b e => HO.out b e); clear hrow1 hg1)
            | (go_at_call 68; refine (HIH2.out _ _ _ (.inr (by simp; omega)) hb1 HRow1.out).mono ?_; rintro e w2 ⟨v', rfl, hrow2, hb2⟩))
          have HRow3 : Hid (RowT w2 base S v' (ts ++ nkL K (l.take (j + 1)))) := by show RowT _ _ _ _ _; rw [HN2.out]; exact hrow2
          go_roundw
          case rel => exact ⟨j + 1, hlt, by go_num, HRow3, (hb.trans hb1).trans hb2⟩
          case measure => simp [intOf]; omega
      · have HRow3 : Hid (RowT wr base S u1 (ts ++ nkL K l)) := by
          show RowT _ _ _ _ _
          have := HRow.out
          rwa [List.take_of_length_le (by rw [← HM.out]; omega)] at this
        go_wp2
        go_ret
        exact ⟨_, rfl, HRow3.out, hb⟩
end Go.Proofs.Ytahiefgfhpkoeaa
