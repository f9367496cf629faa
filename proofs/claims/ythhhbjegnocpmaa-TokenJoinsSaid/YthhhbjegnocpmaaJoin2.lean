/- The contract of token.Join, where every token is valid. -/
import Derived.Test.YthhhbjegnocpmaaJoin
import Derived.Test.YthhhbjegnocpmaaRefScan
namespace Go.Proofs.Ythhhbjegnocpmaa
open Go.RowKit Mth

theorem Try.info9 : (Try.prog.info? 9).map (fun i => (i.zero, i.size, i.bytes)) = some (some (.string ByteArray.empty), 1, 16) := by kernel_rfl
/-- A token's text as a cell. -/
def tx (t : Tok) : Value := .string ⟨t.text.toArray⟩
theorem joined_join (l : List (List UInt8)) : Lib.join l [32] = joined l := by
  cases l with
  | nil => rfl
  | cons y l =>
    rw [Lib.join_cons]
    unfold joined
    congr 1
    induction l with
    | nil => rfl
    | cons z l ih =>
      simp only [Lib.joinTail, before, List.map_cons, List.flatten_cons, List.flatMap_cons] at ih ⊢
      rw [ih]
theorem joined_len : ∀ (l : List Tok), (∀ t ∈ l, Vt t) → (joined (l.map (·.text))).length ≤ 15 * l.length := by
  have hb : ∀ (l : List Tok), (∀ t ∈ l, Vt t) → (before ((l.map (·.text)).map fun x => (([32] : List UInt8), x))).length ≤ 15 * l.length := by
    intro l
    induction l with
    | nil => intro _; simp [before]
    | cons y l ih =>
      intro h
      have hy := (h y (by simp)).2.2.2
      have := ih (fun t ht => h t (by simp [ht]))
      simp only [before, List.map_cons, List.flatMap_cons, List.length_append, List.length_cons, List.length_nil] at this ⊢
      omega
  intro l h
  cases l with
  | nil => simp [joined]
  | cons y l =>
    have hy := (h y (by simp)).2.2.2
    have := hb l (fun t ht => h t (by simp [ht]))
    simp only [List.map_cons, joined, List.length_append, List.length_cons]
    omega

set_option maxHeartbeats 3200000 in
theorem join_any (v : Value) (ts : List Tok) (w : World) (hl : ts.length ≤ 100) (ht : Toks w v ts) (hv : ∀ t ∈ ts, Vt t) :
    Calls Try.prog 15 #[v] w fun e w' => e = .returned (.string ⟨(joined (ts.map (·.text))).toArray⟩) ∧ Below w.heap.size w w' := by
  obtain ⟨i0, hi, hz0, hz1, hz2⟩ := info_parts Try.info9
  have hjl := joined_len ts hv
  rcases ht with ⟨rfl, rfl⟩ | ⟨g, cap, rfl, hn, hc⟩
  · go_enter Try.func15, Try.ntmps15
    go_wp2
    go_rounds 1
    go_wp2_with (go_at_call 25; refine (Try.strings_Join_none _ _ _ _).mono ?_; rintro e w' ⟨rfl, rfl⟩)
    go_ret
    exact ⟨rfl, Below.refl _ _⟩
  have HC := Lib.hid hc
  have HV := Lib.hid hv
  clear hc hv
  obtain ⟨n, hN⟩ : ∃ n, n = ts.length := ⟨_, rfl⟩
  rw [← hN] at hl hn hjl ⊢
  have HN := Lib.hid hN
  clear hN
  go_enter Try.func15, Try.ntmps15
  go_wp2
  go_loopw [3, 8] (fun v i wr => ∃ k : Nat, k ≤ n ∧ i = .int .i64 k ∧ wr.ownsRow w.heap.size 9 1 v k ((ts.take k).map tx) ∧ Below w.heap.size w wr) (fun _ i _ => n - (intOf i).toNat)
  case atStart => exact ⟨0, Nat.zero_le _, rfl, World.ownsRow_nil _ _ _ _, Below.refl _ _⟩
  case round =>
    obtain ⟨k, hk, rfl, hown, hb⟩ := hrel
    by_cases hlt : k < n
    · obtain ⟨t, hx⟩ : ∃ t, ts[k]? = some t := ⟨_, List.getElem?_eq_getElem (by rw [← HN.out]; exact hlt)⟩
      obtain ⟨c0, c1, c2⟩ := HC.out k t hx
      have d0 := (hb.cell (World.block_lt_of_cell? _ _ c0)).trans c0
      have d1 := (hb.cell (World.block_lt_of_cell? _ _ c1)).trans c1
      have d2 := (hb.cell (World.block_lt_of_cell? _ _ c2)).trans c2
      have HT : Hid ((ts.take (k + 1)).map tx = (ts.take k).map tx ++ [tx t]) := by
        show _ = _
        rw [List.take_add_one, hx]; simp
      have HVt := Lib.hid (HV.out t (List.mem_of_getElem? hx))
      clear hx c0 c1 c2
      go_wp2_with fail
      go_at_call 24
      refine (valid_any t HVt.out _).mono ?_
      rintro e w1 ⟨rfl, hb1⟩
      have f1 : w1.cell? ⟨wr.heap.size, 1, none⟩ = some (.string ⟨t.text.toArray⟩) := by rw [hb1.cell (p := ⟨wr.heap.size, 1, none⟩) (by simp)]; simp
      have hown1 := ownsRow_below (hown.alloc (.cells #[.int .i64 t.kind, .string ⟨t.text.toArray⟩, .int .i64 t.pos] 40)) hb1
      have hb2 : Below w.heap.size w w1 := (hb.alloc hb.size _).trans (hb1.mono (by have := hb.size; simp; omega))
      have hsz := hb2.size
      clear hb1
      go_wp2_with (at_builtin; refine wpList_append_own _ rfl _ _ 25 rfl w.heap.size 9 i0 _ 1 16 Try.underlying25 hi hz0 hz1 hz2 rfl (by decide) _ _ _ rfl (hown1.alloc _) ⟨w1.heap.size, 0, none⟩ 1 1 [.string ⟨t.text.toArray⟩] rfl rfl (cell_one_new _ _ _) (fun x hx => by simp at hx; subst hx; rfl) (by unfold maxLen; omega) (by omega) (by simp; omega) ?_)
      intro v' w2 hown' hgrow _
      have R1 : w2.ownsRow w.heap.size 9 1 v' (k + 1) ((ts.take (k + 1)).map tx) := by rw [HT.out, List.map_take]; exact hown'
      have R2 : Below w.heap.size w w2 := Below.grown (hb2.alloc hsz _) hgrow (by simp; omega) (fun j hj => (hown.lt j hj).1)
      clear hown' hgrow hown hown1 hb hb2 f1 d0 d1 d2
      go_wp2
      go_roundw
      case rel => exact ⟨k + 1, hlt, by go_num, R1, R2⟩
      case measure => simp [intOf]; omega
    · obtain rfl : k = n := by omega
      have hall : ts.take k = ts := List.take_of_length_le (by rw [← HN.out]; exact Nat.le_refl _)
      rw [hall] at hown
      have hjj := joined_join (ts.map (·.text))
      rcases hown.2 with ⟨rfl, h0⟩ | ⟨g', cap', cur, rfl, hg', hcur, hnc, _, _, _⟩
      · have hz : ts = [] := List.eq_nil_of_length_eq_zero (by rw [← HN.out]; exact h0)
        subst hz
        subst h0
        go_wp2_with (go_at_call 25; refine (Try.strings_Join_none _ _ _ _).mono ?_; rintro e w' ⟨rfl, rfl⟩)
        go_ret
        exact ⟨rfl, hb⟩
      · have hlt' : g' < wr.heap.size := by
          by_cases h : g' < wr.heap.size
          · exact h
          · rw [Array.getElem?_eq_none (by omega)] at hcur; simp at hcur
        have hcl : ∀ (j : Nat) (x : ByteArray), (ts.map fun t => (⟨t.text.toArray⟩ : ByteArray))[j]? = some x → wr.cell? ⟨g', 0 + j, none⟩ = some (.string x) := by
          intro j x hx
          have h := hown.cells (g := g') rfl j (.string x) (by
            rw [List.getElem?_map] at hx ⊢
            obtain ⟨t, ht, rfl⟩ := Option.map_eq_some_iff.1 hx
            rw [ht]; rfl)
          have e : (⟨g', 0, none⟩ : Addr).add j = ⟨g', j, none⟩ := by unfold Addr.add; split <;> simp_all
          rw [Nat.zero_add]
          rwa [e] at h
        have hmm : (ts.map fun t => (⟨t.text.toArray⟩ : ByteArray)).map (·.data.toList) = ts.map (·.text) := by
          rw [List.map_map]; apply List.map_congr_left; intro t _; exact bl_mk _
        have hlen : (ts.map fun t => (⟨t.text.toArray⟩ : ByteArray)).length = k := by rw [List.length_map, ← HN.out]
        have HJ := Try.strings_Join g' 0 cap' (ts.map fun t => (⟨t.text.toArray⟩ : ByteArray)) ⟨#[32]⟩ wr hcl hlt' (by rw [hlen]; omega) (by rw [hlen]; exact hnc)
          (by rw [hmm, show (⟨#[32]⟩ : ByteArray).data.toList = [32] from rfl, hjj]; omega)
        rw [hlen, hmm, show (⟨#[32]⟩ : ByteArray).data.toList = [32] from rfl, hjj] at HJ
        have HJJ := Lib.hid HJ
        clear HJ hcl hmm hlen hcur
        go_wp2_with (go_at_call 25; refine HJJ.out.mono ?_; rintro e w5 ⟨rfl, hb5⟩)
        go_ret
        exact ⟨rfl, hb.trans (hb5.mono hb.size)⟩

theorem joined_snoc (l : List (List UInt8)) (y : List UInt8) : joined (l ++ [y]) = if l = [] then y else joined l ++ ([32] ++ y) := by
  cases l with
  | nil => simp [joined, before]
  | cons x l => simp [joined, before]
set_option maxHeartbeats 3200000 in
theorem refJoin_any (v : Value) (ts : List Tok) (w : World) (hl : ts.length ≤ 100) (ht : Toks w v ts) (hv : ∀ t ∈ ts, Vt t) :
    Calls Try.prog 16 #[v] w fun e w' => e = .returned (.string ⟨(joined (ts.map (·.text))).toArray⟩) ∧ Below w.heap.size w w' := by
  have HJL : Hid (∀ k, (joined ((ts.take k).map (·.text))).length ≤ 1500) := fun k => by
    have := joined_len (ts.take k) (fun t ht => hv t (List.mem_of_mem_take ht))
    rw [List.length_take] at this
    omega
  rcases ht with ⟨rfl, rfl⟩ | ⟨g, cap, rfl, hn, hc⟩
  · go_enter Try.func16, Try.ntmps16
    go_wp2
    go_rounds 1
    go_ret
    exact ⟨rfl, Below.refl _ _⟩
  have HC := Lib.hid hc
  have HV := Lib.hid hv
  clear hc hv
  obtain ⟨n, hN⟩ : ∃ n, n = ts.length := ⟨_, rfl⟩
  rw [← hN] at hl hn ⊢
  have HN := Lib.hid hN
  clear hN
  go_enter Try.func16, Try.ntmps16
  go_wp2
  go_loopw [3, 4] (fun s i wr => ∃ k : Nat, k ≤ n ∧ i = .int .i64 k ∧ s = .string ⟨(joined ((ts.take k).map (·.text))).toArray⟩ ∧ Below w.heap.size w wr) (fun _ i _ => n - (intOf i).toNat)
  case atStart => exact ⟨0, Nat.zero_le _, rfl, rfl, Below.refl _ _⟩
  case round =>
    obtain ⟨k, hk, rfl, rfl, hb⟩ := hrel
    have hjl := HJL.out k
    by_cases hlt : k < n
    · obtain ⟨t, hx⟩ : ∃ t, ts[k]? = some t := ⟨_, List.getElem?_eq_getElem (by rw [← HN.out]; exact hlt)⟩
      obtain ⟨c0, c1, c2⟩ := HC.out k t hx
      have hVt := HV.out t (List.mem_of_getElem? hx)
      have htl := hVt.2.2.2
      have HVt := Lib.hid hVt
      clear hVt
      have d0 := (hb.cell (World.block_lt_of_cell? _ _ c0)).trans c0
      have d1 := (hb.cell (World.block_lt_of_cell? _ _ c1)).trans c1
      have d2 := (hb.cell (World.block_lt_of_cell? _ _ c2)).trans c2
      have HT : Hid (joined ((ts.take (k + 1)).map (·.text)) = if k = 0 then t.text else joined ((ts.take k).map (·.text)) ++ ([32] ++ t.text)) := by
        show _ = _
        have e : (ts.take (k + 1)).map (·.text) = (ts.take k).map (·.text) ++ [t.text] := by rw [List.take_add_one, hx]; simp
        rw [e, joined_snoc]
        have hz : ((ts.take k).map (·.text) = []) ↔ k = 0 := by
          rw [List.map_eq_nil_iff]
          refine ⟨fun h => ?_, fun h => by subst h; simp⟩
          have := congrArg List.length h
          rw [List.length_take, ← HN.out] at this
          simp at this
          omega
        simp only [hz]
      clear hx c0 c2
      have HD1 := Lib.hid d1
      by_cases hk0 : k = 0
      · subst hk0
        have hj0 : joined ((ts.take 0).map (·.text)) = [] := rfl
        rw [hj0]
        have t1 : ¬ 9223372036854775807 < t.text.length := by omega
        go_wp2_with (go_at_call 26; refine (refValid_any t HVt.out _).mono ?_; rintro e w1 ⟨rfl, hb1⟩; have g1 := (hb1.cell (World.block_lt_of_cell? _ _ HD1.out)).trans HD1.out)
        go_roundw
        case rel => exact ⟨0 + 1, hlt, by go_num, by rw [HT.out]; simp; apply ByteArray.ext; simp, hb.trans (hb1.mono hb.size)⟩
        case measure => simp [intOf]; omega
      · have HT2 : Hid (joined ((ts.take (k + 1)).map (·.text)) = joined ((ts.take k).map (·.text)) ++ ([32] ++ t.text)) := by rw [HT.out, if_neg hk0]; exact rfl
        clear HT
        have hkp : (0 : Int) < (k : Int) := by omega
        generalize joined ((ts.take k).map (·.text)) = J at *
        have t1 : ¬ 9223372036854775807 < J.length + 1 := by omega
        have t2 : ¬ 9223372036854775807 < J.length + 1 + t.text.length := by omega
        go_wp2_with (go_at_call 26; refine (refValid_any t HVt.out _).mono ?_; rintro e w1 ⟨rfl, hb1⟩; have g1 := (hb1.cell (World.block_lt_of_cell? _ _ HD1.out)).trans HD1.out)
        go_roundw
        case rel => exact ⟨k + 1, hlt, by go_num, by rw [HT2.out]; congr 1; apply ByteArray.ext; simp, hb.trans (hb1.mono hb.size)⟩
        case measure => simp [intOf]; omega
    · obtain rfl : k = n := by omega
      have hall : ts.take k = ts := List.take_of_length_le (by rw [← HN.out]; exact Nat.le_refl _)
      rw [hall]
      go_wp2
      go_ret
      exact ⟨rfl, hb⟩
end Go.Proofs.Ythhhbjegnocpmaa
