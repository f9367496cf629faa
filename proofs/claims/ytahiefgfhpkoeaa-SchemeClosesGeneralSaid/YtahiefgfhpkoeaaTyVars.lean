/- The contract of the package's Vars. -/
import Derived.Test.YtahiefgfhpkoeaaTyNk
import Derived.Test.YtahiefgfhpkoeaaTyInts
namespace Go.Proofs.Ytahiefgfhpkoeaa
open Go.RowKit Go.Sort Go.Shelf Go.Maps Mth

/-- Each once, in the order in which they occur first. -/
def ded : List Int → List Int → List Int
  | acc, [] => acc
  | acc, x :: l => if acc.contains x then ded acc l else ded (acc ++ [x]) l
def varsOf (l : List Ty) : List Int := ded [] ((nkL 1 l).map Ty.i)
theorem ded_snoc (x : Int) : ∀ (l acc : List Int), ded acc (l ++ [x]) = if (ded acc l).contains x then ded acc l else ded acc l ++ [x] := by
  intro l
  induction l with
  | nil => intro acc; rfl
  | cons y l ih => intro acc; simp only [List.cons_append, ded]; split <;> exact ih _
theorem ded_len (l : List Int) : ∀ acc, (ded acc l).length ≤ acc.length + l.length := by
  induction l with
  | nil => intro acc; simp [ded]
  | cons x l ih =>
    intro acc
    simp only [ded]
    split
    · have := ih acc; simp; omega
    · have := ih (acc ++ [x]); simp at this ⊢; omega

theorem Try.intKey : Keyed Try.prog 3 := int_keyed Try.underlying3
theorem Try.zeroBool (w : World) : (zeroValue 4).run Try.prog w = .ok (.bool false) w := by kernel_rfl
theorem ids_snoc {l : List Ty} {j : Nat} {T : Ty} (h : l[j]? = some T) : ded [] ((l.take (j + 1)).map Ty.i) = if (ded [] ((l.take j).map Ty.i)).contains T.i then ded [] ((l.take j).map Ty.i) else ded [] ((l.take j).map Ty.i) ++ [T.i] := by
  rw [List.take_add_one, h, Option.toList, List.map_append, List.map_singleton, ded_snoc]

theorem grown_fresh {a b c : World} {r row : Option Nat} (h : a.grownBy b r) (k : b.grownBy c row) (hr : ∀ i, row = some i → a.heap.size ≤ i) : a.grownBy c r :=
  ⟨k.os.trans h.os, k.tape.trans h.tape, k.output.trans h.output, Nat.le_trans h.size k.size, fun i hi hne => (k.block i (Nat.lt_of_lt_of_le hi h.size) (fun e => by have := hr i e.symm; omega)).trans (h.block i hi hne)⟩
theorem RepL.bound {w : World} {S : Nat → Prop} {l : List Ty} {v : Value} (h : RepL w S l v) : RepL w (fun b => S b ∧ b < w.heap.size) l v := by
  obtain ⟨a, cap, hv, hc, hj⟩ := h
  refine ⟨a, cap, hv, hc, fun j T hT => ?_⟩
  obtain ⟨ad, x, h1, h2, h3, h4⟩ := hj j T hT
  exact ⟨ad, x, h1, ⟨h2, h3.lt⟩, h3, h4.bound⟩
set_option maxHeartbeats 3200000 in
set_option maxRecDepth 100000 in
theorem vars_any (l : List Ty) (lv : Value) (S : Nat → Prop) (w : World) (hN : nodesL l ≤ 1000000) (hi : ∀ T ∈ nkL 1 l, 0 ≤ T.i ∧ T.i ≤ 1000000) (h : RepL w S l lv) :
    Calls Try.prog 52 #[lv] w fun e w' => ∃ v, e = .returned v ∧ Ints w' v (varsOf l) ∧ Below w.heap.size w w' := by
  have hmm := @run_makeMap Try.prog
  have HR : Hid (RepL w (fun b => b < w.heap.size) l lv) := h.bound.imp fun b hb => hb.2
  obtain ⟨a, cap, rfl, -⟩ := h
  have hba : ∀ o, Below w.heap.size w (w.alloc o) := fun o => (Below.refl _ w).alloc (Nat.le_refl _) o
  have hlen := nkL_len 1 l
  obtain ⟨ns, hns⟩ : ∃ ns, ns = nkL 1 l := ⟨_, rfl⟩
  have HC : Hid (∀ o, Calls Try.prog 68 #[.int .i64 1, .slice none 0 0, .slice a l.length cap] (w.alloc o) fun e w' => ∃ v', e = .returned v' ∧ RowT w' (w.heap.size + 1) (fun b => b < w.heap.size) v' ns ∧ Below (w.heap.size + 1) (w.alloc o) w') := by
    intro o
    have := nodesOfKind_any 1 _ l (Nat.le_refl _) (w.heap.size + 1) (fun b => b < w.heap.size) (.slice none 0 0) (.slice a l.length cap) [] (w.alloc o) (by simp) (by simpa using hN) (fun b hb => Nat.lt_succ_of_lt hb) (rowT_nil _ _ _) (HR.out.lift (hba o))
    rw [hns]
    simpa using this
  have HV : Hid (varsOf l = ded [] (ns.map Ty.i)) := by show _ = _; rw [hns]; rfl
  have HI : Hid (∀ T ∈ ns, 0 ≤ T.i ∧ T.i ≤ 1000000) := by show ∀ _ ∈ _, _; rw [hns]; exact hi
  rw [← hns] at hlen
  clear hns hi
  generalize l.length = ll at *
  go_enter Try.func52, Try.ntmps52
  go_wp2_with fail
  go_at_call 68
  refine (HC.out _).mono ?_
  rintro e w1 ⟨v1, rfl, hrow1, hb1⟩
  have hmap : w1.ownsMap Try.prog 3 (plainElem Try.prog 4) w.heap.size 0 (setM []) := (World.ownsMap_made w Try.prog 3 _).kept (grown_of_below (hb1.mono (by simp)) none) (by simp)
  have hrep1 := (hrow1.repL (S' := fun b => b ≠ w.heap.size) (fun b hb => by omega) (fun b hb => by omega)).bound
  have hsz1 := hb1.size
  simp at hsz1
  have hbw1 : Below w.heap.size w w1 := (hba _).trans (hb1.mono (Nat.le_succ _))
  clear hrow1 hb1 hmm
  obtain ⟨a1, c1, rfl, ⟨hc1, hc2⟩, hj1⟩ := hrep1
  have HJ := Lib.hid hj1
  clear hj1 hc2
  obtain ⟨m, hmm⟩ : ∃ m, m = ns.length := ⟨_, rfl⟩
  rw [← hmm] at hc1 hlen ⊢
  have HM := Lib.hid hmm
  clear hmm
  go_wp2
  go_loopw [3, 11] (fun f x wr => ∃ (j : Nat) (ids : List Int), j ≤ m ∧ x = .int .i64 j ∧ Hid (ids = ded [] ((ns.take j).map Ty.i)) ∧ ids.length ≤ j ∧ Hid (RowI wr w1.heap.size f ids) ∧ wr.ownsMap Try.prog 3 (plainElem Try.prog 4) w.heap.size j (setM ids) ∧ w1.grownBy wr (some w.heap.size)) (fun _ x _ => m - (intOf x).toNat)
  case atStart => exact ⟨0, [], Nat.zero_le _, rfl, rfl, Nat.le_refl _, rowI_nil _ _, hmap, ⟨rfl, rfl, rfl, Nat.le_refl _, fun _ _ _ => rfl⟩⟩
  case round =>
    obtain ⟨j, ids, hj, rfl, HD, hil, HRow, hown, hg⟩ := hrel
    have hsz := hg.size
    by_cases hlt : j < m
    · obtain ⟨T, hT⟩ : ∃ x, ns[j]? = some x := ⟨_, List.getElem?_eq_getElem (by rw [← HM.out]; exact hlt)⟩
      have HS := Lib.hid (ids_snoc hT)
      obtain ⟨hi0, hi1⟩ := HI.out T (List.mem_of_getElem? hT)
      obtain ⟨ad, x, rfl, hSa, h5, hx⟩ := HJ.out j T hT
      clear hT
      have g5 := h5.kept (hg.block _ h5.lt (by intro e; exact hSa.1 (Option.some.inj e)))
      obtain ⟨k, n, i, h, s, eT, rfl, hn, hs⟩ := hx.open
      obtain ⟨q0, q1, q2, q3, q4⟩ := five_at g5
      obtain ⟨sa, sc, rfl, -⟩ := hs
      have hTi : T.i = i := by rw [eT]; rfl
      rw [hTi] at HS hi0 hi1
      clear h5 hx g5 eT hn hSa hTi
      have hji : (j : Int) < (m : Int) := by omega
      generalize T.ts.length = sn at *
      have hkey : keyOf Try.prog 3 (.int .i64 i) = some (.int .i64 i) := keyOf_int_mk Try.underlying3 (WalkArith.wf_i64 (by omega))
      have hat := atKey_setM i ids
      have HRowA := Lib.hid (fun o => RowI.kept HRow.out (World.grownBy_alloc wr o none) (by cases u3.ownBlock <;> simp))
      have HA := Lib.hid (fun o => hown.alloc o)
      have hg3 : ∀ o, w1.grownBy (wr.alloc o) (some w.heap.size) := fun o => grown_trans hg (World.grownBy_alloc wr o _)
      clear hown
      cases hq : ids.contains i with
      | true =>
        have HD2 : Hid (ids = ded [] ((ns.take (j + 1)).map Ty.i)) := by
          show _ = _
          rw [HS.out, ← HD.out, hq]; rfl
        rw [hq] at hat
        clear hq
        go_wp2_with (at_lookup; refine wpList_lookup_bool _ rfl _ _ 98 rfl 3 4 Try.intKey Try.underlying98 Try.underlying4 (Try.zeroBool _) w.heap.size j _ rfl (HA.out _) _ _ rfl hkey true hat ?_)
        go_roundw
        case rel => exact ⟨j + 1, ids, hlt, by go_num, HD2, by omega, HRowA.out _, (HA.out _).mono (Nat.le_succ _), hg3 _⟩
        case measure => simp [intOf]; omega
      | false =>
        have HD2 : Hid (ids ++ [i] = ded [] ((ns.take (j + 1)).map Ty.i)) := by
          show _ = _
          rw [HS.out, ← HD.out, hq]; rfl
        have HM2 := Lib.hid (setM_snoc ids i)
        have HO := Lib.hid (fun b (e : u3.ownBlock = some b) => World.ownsRow.lt HRow.out b e)
        rw [hq] at hat
        clear hq
        go_wp2_with (first
          | (at_lookup; refine wpList_lookup_bool _ rfl _ _ 98 rfl 3 4 Try.intKey Try.underlying98 Try.underlying4 (Try.zeroBool _) w.heap.size j _ rfl (HA.out _) _ _ rfl hkey false hat ?_)
          | (at_mapUpdate; (refine wpList_mapUpdate_own (H := Unit) _ rfl _ _ _ 98 rfl 3 4 Try.intKey Try.underlying98 (plainElem Try.prog 4) w.heap.size j (setM ids) rfl (HA.out _) (by unfold maxLen; omega) (.int .i64 i) (.bool true) (.int .i64 i) rfl rfl hkey (.lit (.bool true)) [] (plainElem_bool Try.underlying4 true) ?_; intro w2 hown2 hg2; have hc2 : w2.cell? ⟨wr.heap.size, 2, none⟩ = some (.int .i64 i) := hg2.cell (by simp) (by simp; omega); have HRow2 := Lib.hid (RowI.kept (HRowA.out _) hg2 (RowI.off HRow.out (by omega))); have Hown2 := Lib.hid hown2; have hg12 := grown_trans (hg3 _) hg2; have hs2 := hg2.size; clear hown2 hg2))
          | (at_builtin; refine wpList_pushI rfl _ _ rfl w1.heap.size u3 ids rfl HRow2.out w2.heap.size rfl rfl (ids.length + 1) rfl (by omega) hg12.size ?_; intro a3 c3 w3 hrow3 hg4; have HRow3 := Lib.hid hrow3; clear hrow3))
        have hown3 : w3.ownsMap Try.prog 3 (plainElem Try.prog 4) w.heap.size (j + 1) (setM (ids ++ [i])) := by
          rw [HM2.out]
          exact Hown2.out.kept hg4 (by intro e; have := (HO.out _ e.symm).1; omega)
        go_roundw
        case rel => exact ⟨j + 1, ids ++ [i], hlt, by go_num, HD2, by simp; omega, by simpa using HRow3, hown3, grown_fresh hg12 hg4 fun b e => (HO.out b e).1⟩
        case measure => simp [intOf]; omega
    · have HV2 : Hid (ids = varsOf l) := by
        show _ = _
        rw [HV.out, HD.out, List.take_of_length_le (by rw [← HM.out]; omega)]
      go_wp2
      go_ret
      exact ⟨_, rfl, by rw [← HV2.out]; exact HRow.out.ints, Below.grown hbw1 hg hbw1.size (fun k hk => by cases hk; exact Nat.le_refl _)⟩
end Go.Proofs.Ytahiefgfhpkoeaa
