/- Stores: the reference's cyclic comes to an end. -/
import Derived.Test.YtejlhfjhpminjaaStBk
import Derived.Test.YtejlhfjhpminjaaMsAll
import Derived.Test.YtejlhfjhpminjaaTyVal3
namespace Go.Proofs.Ytejlhfjhpminjaa
open Go.RowKit Go.Sort Go.Shelf Go.Maps Mth

theorem RowI.base {w : World} {b1 b2 : Nat} {v : Value} {zs : List Int} (h : RowI w b1 v zs) (hb : b2 ≤ b1) : RowI w b2 v zs := by
  refine ⟨h.1, ?_⟩
  rcases h.2 with h | ⟨g, cap, cur, hv, hg, rest⟩
  · exact .inl h
  · exact .inr ⟨g, cap, cur, hv, Nat.le_trans hb hg, rest⟩
set_option maxRecDepth 100000 in
set_option maxHeartbeats 3200000 in
theorem varR_row (l : List Ty) (lv : Value) (S : Nat → Prop) (w : World) (hN : nodesL l ≤ 1000000) (h : RepL w S l lv) :
    Calls Try.prog 32 #[lv] w fun e w' => ∃ v, e = .returned v ∧ RowI w' w.heap.size v (ded [] ((lvL 1 [] l).map Ty.i)) ∧ Below w.heap.size w w' := by
  have HR : Hid (RepL w (fun b => b < w.heap.size) l lv) := h.bound.imp fun b hb => hb.2
  obtain ⟨a, cap, rfl, ⟨hc1, hc2⟩, -⟩ := h
  have hll : l.length ≤ 1000000 := by have := len_nodesL l; omega
  have hlvn : (lvL 1 [] l).length ≤ 1000000 := by have := lvL_len 1 l []; simp at this; omega
  clear hc2
  obtain ⟨c, hcc⟩ : ∃ c, c = l.length := ⟨_, rfl⟩
  have HM := Lib.hid hcc
  rw [← hcc] at hc1 hll HR ⊢
  clear hcc
  go_enter Try.func32, Try.ntmps32
  go_wp2
  go_loopw [3, 4] (fun f x wr => ∃ j : Nat, j ≤ c ∧ x = .int .i64 j ∧ Hid (RowT wr w.heap.size (fun b => b < w.heap.size) f (lvL 1 [] (l.take j))) ∧ Below w.heap.size w wr) (fun _ x _ => c - (intOf x).toNat)
  case atStart => exact ⟨0, Nat.zero_le _, rfl, rowT_nil _ _ _, Below.refl _ _⟩
  case round =>
    obtain ⟨j, hj, rfl, HRow, hb⟩ := hrel
    by_cases hlt : j < c
    · obtain ⟨U, hU⟩ : ∃ x, l[j]? = some x := ⟨_, List.getElem?_eq_getElem (by rw [← HM.out]; exact hlt)⟩
      have HC := Lib.hid (fun f x w' => leaves_step 1 hU hN f x w' (B := w.heap.size))
      obtain ⟨a2, c2, hv2, -, hj2⟩ := HR.out.lift hb
      obtain ⟨ad, x, had, hSa, h5, hx⟩ := hj2 j U hU
      have HXr := Lib.hid hx
      have hsa : a = some ad := by simp at hv2; rw [hv2.1, had]
      subst hsa
      obtain ⟨yk, yn, yi, yh, ys, -, rfl, -, hys⟩ := hx.open
      obtain ⟨ya, yc, rfl, -⟩ := hys
      obtain ⟨q0, q1, q2, q3, q4⟩ := five_at h5
      clear hU h5 hx hj2 hv2 had hSa
      generalize U.ts.length = yn' at *
      have hji : (j : Int) < (c : Int) := by omega
      go_wp2_with (go_at_call 46; refine (HC.out u3 _ wr hb.size HRow.out HXr.out).mono ?_; rintro e w2 ⟨v', rfl, hrow2, hb2⟩)
      have HRow3 := Lib.hid hrow2
      clear hrow2
      go_roundw
      case rel => exact ⟨j + 1, hlt, by go_num, HRow3, hb.trans hb2⟩
      case measure => simp [intOf]; omega
    · obtain ⟨ns, hns⟩ : ∃ ns, ns = lvL 1 [] l := ⟨_, rfl⟩
      have hrow3 : RowT wr w.heap.size (fun b => b < w.heap.size) u3 ns := by
        have := HRow.out
        rw [hns]
        rwa [List.take_of_length_le (by rw [← HM.out]; omega)] at this
      rw [← hns] at hlvn
      have HNS := Lib.hid hns
      clear hns
      have hrep := (hrow3.repL (S' := fun _ => True) (fun _ _ => trivial) (fun _ _ => trivial)).bound.imp fun b hb => hb.2
      have HRN := Lib.hid hrep
      obtain ⟨a3, c3, rfl, ⟨hd1, hd2⟩, -⟩ := hrep
      clear hrow3 HRow
      obtain ⟨m, hmm⟩ : ∃ m, m = ns.length := ⟨_, rfl⟩
      have HM2 := Lib.hid hmm
      rw [← hmm] at hd1 hlvn HRN
      try rw [← hmm]
      clear hmm hd2
      have hsz := hb.size
      obtain ⟨W3, rfl⟩ : ∃ W3, W3 = wr := ⟨_, rfl⟩
      go_wp2
      go_loopw [5, 6] (fun f x wq => ∃ (i : Nat) (ids : List Int), i ≤ m ∧ x = .int .i64 i ∧ Hid (ids = ded [] ((ns.take i).map Ty.i)) ∧ ids.length ≤ i ∧ Hid (RowI wq W3.heap.size f ids) ∧ Below W3.heap.size W3 wq) (fun _ x _ => m - (intOf x).toNat)
      case atStart => exact ⟨0, [], Nat.zero_le _, rfl, rfl, Nat.le_refl _, rowI_nil _ _, Below.refl _ _⟩
      case round =>
        obtain ⟨i, ids, hi, rfl, HD, hil, HRow, hbq⟩ := hrel
        by_cases hlt2 : i < m
        · obtain ⟨T, hT⟩ : ∃ x, ns[i]? = some x := ⟨_, List.getElem?_eq_getElem (by rw [← HM2.out]; exact hlt2)⟩
          have HS := Lib.hid (ids_snoc hT)
          obtain ⟨a2, c2, hv2, -, hj2⟩ := HRN.out.lift hbq
          obtain ⟨ad, x, had, hSa, h5, hx⟩ := hj2 i T hT
          have hsa : a3 = some ad := by simp at hv2; rw [hv2.1, had]
          subst hsa
          obtain ⟨yk, yn, yi, yh, ys, eT, rfl, -, hys⟩ := hx.open
          obtain ⟨ya, yc, rfl, -⟩ := hys
          obtain ⟨q0, q1, q2, q3, q4⟩ := five_at h5
          have hTi : T.i = yi := by rw [eT]; rfl
          rw [hTi] at HS
          clear hT h5 hx hj2 hv2 had hSa eT hTi
          generalize T.ts.length = yn' at *
          have hji : (i : Int) < (m : Int) := by omega
          have HHas : Hid (Calls Try.prog 47 #[u5, .int .i64 yi] wr fun e w' => e = .returned (.bool (ids.contains yi)) ∧ wr = w') := has_any _ _ _ _ HRow.out.ints
          cases hq : ids.contains yi with
          | true =>
            have HD2 : Hid (ids = ded [] ((ns.take (i + 1)).map Ty.i)) := by
              show _ = _
              rw [HS.out, ← HD.out, hq]; rfl
            rw [hq] at HHas
            clear hq
            go_wp2_with (go_at_call 47; refine HHas.out.mono ?_; rintro e w2 ⟨rfl, rfl⟩)
            go_roundw
            case rel => exact ⟨i + 1, ids, hlt2, by go_num, HD2, by omega, HRow, hbq⟩
            case measure => simp [intOf]; omega
          | false =>
            have HD2 : Hid (ids ++ [yi] = ded [] ((ns.take (i + 1)).map Ty.i)) := by
              show _ = _
              rw [HS.out, ← HD.out, hq]; rfl
            rw [hq] at HHas
            clear hq
            have HO := Lib.hid (fun b (e : u5.ownBlock = some b) => World.ownsRow.lt HRow.out b e)
            go_wp2_with (first
              | (go_at_call 47; refine HHas.out.mono ?_; rintro e w2 ⟨rfl, rfl⟩)
              | (at_builtin; refine wpList_pushI rfl _ _ rfl W3.heap.size u5 ids rfl HRow.out wr.heap.size rfl rfl (ids.length + 1) rfl (by omega) hbq.size ?_; intro a4 c4 w4 hrow4 hg4; have HRow4 := Lib.hid hrow4; clear hrow4))
            go_roundw
            case rel => exact ⟨i + 1, ids ++ [yi], hlt2, by go_num, HD2, by simp; omega, by simpa using HRow4, Below.grown hbq hg4 hbq.size (fun b e => (HO.out b e).1)⟩
            case measure => simp [intOf]; omega
        · have HV2 : Hid (ids = ded [] (ns.map Ty.i)) := by
            show _ = _
            rw [HD.out, List.take_of_length_le (by rw [← HM2.out]; omega)]
          go_wp2
          go_ret
          exact ⟨_, rfl, by rw [← HNS.out, ← HV2.out]; exact HRow.out.base hsz, hb.trans (hbq.mono hsz)⟩

/-- The type variables of a type. -/
def vids (T : Ty) : List Int := ded [] ((lvL 1 [] [T]).map Ty.i)
theorem lv_nonneg : ∀ T : Ty, valid T = true → ∀ acc : List Ty, (∀ U ∈ acc, 0 ≤ U.i) → ∀ U ∈ lv 1 acc T, 0 ≤ U.i := by
  refine Ty.induct fun T ih => ?_
  obtain ⟨k, n, i, h, ts⟩ := T
  intro hv acc ha
  rw [lv]
  split
  · next hc =>
    obtain ⟨hk, -⟩ := hc
    subst hk
    have hi : 0 ≤ i := by
      rw [valid] at hv
      simp [idOk] at hv
      exact hv.1.1.1.1
    unfold stq
    split
    · exact ha
    · intro U hU
      rcases List.mem_append.1 hU with hU | hU
      · exact ha U hU
      · simp at hU; subst hU; exact hi
  · have hkids : ∀ U ∈ ts, valid U = true := by
      intro U hU
      rw [valid] at hv
      have hne : ¬ ts.length = 0 := by intro e; rw [List.eq_nil_of_length_eq_zero e] at hU; cases hU
      by_cases h1 : k = 1 ∨ k = 2
      · rw [if_pos h1] at hv; simp [hne] at hv
      · rw [if_neg h1] at hv
        by_cases h2 : k = 3
        · rw [if_pos h2] at hv; simp [hne] at hv
        · rw [if_neg h2] at hv
          by_cases h3 : k = 4
          · rw [if_pos h3] at hv
            simp only [Bool.and_eq_true] at hv
            exact validL_mem hv.2 hU
          · rw [if_neg h3] at hv
            by_cases h4 : k = 5
            · rw [if_pos h4] at hv; simp [hne] at hv
            · rw [if_neg h4] at hv; cases hv
    have key : ∀ l : List Ty, (∀ U ∈ l, (∀ acc : List Ty, (∀ U ∈ acc, 0 ≤ U.i) → ∀ V ∈ lv 1 acc U, 0 ≤ V.i)) → ∀ acc : List Ty, (∀ U ∈ acc, 0 ≤ U.i) → ∀ U ∈ lvL 1 acc l, 0 ≤ U.i := by
      intro l
      induction l with
      | nil => intro _ acc ha; rw [lvL]; exact ha
      | cons t l ihl =>
        intro hm acc ha
        rw [lvL]
        exact ihl (fun U hU => hm U (by simp [hU])) _ (hm t (by simp) acc ha)
    exact key ts (fun U hU => ih U hU (hkids U hU)) acc ha
theorem vids_nonneg {T : Ty} (h : valid T = true) : ∀ i ∈ vids T, 0 ≤ i := by
  intro i hi
  unfold vids at hi
  rcases (ded_mem _ _ _).1 hi with hi | hi
  · cases hi
  · obtain ⟨U, hU, rfl⟩ := List.mem_map.1 hi
    rw [lvL, lvL] at hU
    exact lv_nonneg T h [] (by simp) U hU
theorem list_one {w : World} {S : Nat → Prop} {T : Ty} {c0 c1 c2 c3 c4 : Value} (Z : TypeId) (h : Rep w S T (.agg #[c0, c1, c2, c3, c4])) : RepL (w.alloc (.cells #[c0, c1, c2, c3, c4] Z)) (fun _ => True) [T] (.slice (some ⟨w.heap.size, 0, none⟩) 1 1) := by
  refine ⟨_, 1, rfl, ⟨Nat.le_refl _, by unfold maxLen; decide⟩, fun i U hU => ?_⟩
  cases i with
  | zero => simp at hU; subst hU; exact ⟨_, _, rfl, trivial, one_new Z _ rfl, (h.imp fun _ _ => trivial).lift ((Below.refl _ w).alloc (Nat.le_refl _) _)⟩
  | succ i => simp at hU
def zeros (zs : List Int) : Nat := zs.countP (· == 0)
theorem zeros_set {zs : List Int} {j : Nat} (h : zs[j]? = some 0) : zeros (zs.set j 1) + 1 = zeros zs := by
  unfold zeros
  induction zs generalizing j with
  | nil => cases h
  | cons z zs ih =>
    cases j with
    | zero => simp at h; subst h; simp
    | succ j =>
      have := ih (j := j) (by simpa using h)
      simp only [List.set_cons_succ, List.countP_cons]
      omega
/-- Slots whose variables have slots. -/
def VarsIn (sl : List Slt) : Prop := ∀ x ∈ sl, x.bound = true → nodes x.ty ≤ 1000 ∧ ∀ v ∈ vids x.ty, 0 ≤ v ∧ v < (sl.length : Int)
/-- What the contract of cyclic says. -/
def CyAt (P : Program) (f : Nat) (sl : List Slt) (z : Nat) : Prop := ∀ (zs : List Int) (i : Nat) (sa : Option Addr) (sc : Nat) (ta : Option Addr) (tn tc g : Nat) (fr : Int) (w : World), zeros zs ≤ z → zs.length = sl.length → i < sl.length → SlG SltE w (fun b => b ≠ g) sl (.slice sa sl.length sc) → BoxC 3 w g (zs.map intV) →
  Calls P f #[.agg #[.slice sa sl.length sc, .slice ta tn tc], .int .i64 (i : Int), .slice (some ⟨g, 0, none⟩) sl.length sl.length, .int .i64 fr] w fun e w' => ∃ (b : Bool) (zs' : List Int), e = .returned (.bool b) ∧ zs'.length = sl.length ∧ zeros zs' ≤ zeros zs ∧ BoxC 3 w' g (zs'.map intV) ∧ w.grownBy w' (some g)
/-- What its loop holds. -/
structure CySt (w : World) (sl : List Slt) (n : Nat) (sa : Option Addr) (sc : Nat) (tv : Value) (g : Nat) (v : Value) (ids : List Int) (zs zs' : List Int) (wr : World) : Prop where
  seen : BoxC 3 wr g (zs'.map intV)
  len : zs'.length = n
  le : zeros zs' ≤ zeros zs
  row : RowI wr (g + 1) v ids
  box : BoxC 27 wr w.heap.size [.slice sa n sc, tv]
  slots : SlG SltE wr (fun b => b ≠ g) sl (.slice sa n sc)
  grown : w.grownBy wr (some g)
  lt : g < w.heap.size
theorem CySt.step {w : World} {sl : List Slt} {n : Nat} {sa : Option Addr} {sc : Nat} {tv : Value} {g : Nat} {v : Value} {ids : List Int} {zs zs' zs2 : List Int} {wr w2 : World} (H : CySt w sl n sa sc tv g v ids zs zs' wr) (hs : BoxC 3 w2 g (zs2.map intV)) (hl : zs2.length = n) (hz : zeros zs2 ≤ zeros zs') (hg : wr.grownBy w2 (some g)) : CySt w sl n sa sc tv g v ids zs zs2 w2 := by
  have hlt := H.lt
  refine ⟨hs, hl, Nat.le_trans hz H.le, RowI.kept H.row hg ?_, H.box.grown hg (fun e => by have := Option.some.inj e; omega), SlG.kept (fun _ h => h) (fun b hb hl => hg.block b hl (fun e => hb (Option.some.inj e))) H.slots, grown_trans H.grown hg, hlt⟩
  exact RowI.off H.row (Nat.lt_succ_self g)
end Go.Proofs.Ytejlhfjhpminjaa
