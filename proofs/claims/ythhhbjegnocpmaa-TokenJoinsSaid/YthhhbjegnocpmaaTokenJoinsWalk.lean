/- The walk of the law TokenJoins. -/
import Derived.Test.YthhhbjegnocpmaaJoin2
import Derived.Test.YthhhbjegnocpmaaTokenSpacesWalk
namespace Go.Proofs.Ythhhbjegnocpmaa.tokenJoins
open Go.RowKit Mth

set_option maxHeartbeats 3200000 in
theorem walk (v1 : Value) (zs : List Int) (w : World) (hz : Ints w v1 zs) (hzl : zs.length ≤ maxLen) :
    Calls Try.prog 5 #[v1] w fun e w' => e = .returned (.bool true) ∧ Below w.heap.size w w' := by
  unfold maxLen at hzl
  obtain ⟨i0, hi, hz0, hz1, hz2⟩ := info_parts Try.info40
  obtain ⟨a1, cap1, rfl, hn1, hc1⟩ := tokenSpaces.ints_opt hz
  have HC1 := Lib.hid hc1
  clear hz hc1
  by_cases hbig : 80 < zs.length
  · go_enter Try.func5, Try.ntmps5
    go_wp2_with (go_at_call 7; refine (lawFirst_any _).mono ?_; rintro e w1 ⟨rfl, hb1⟩)
    go_ret
    exact ⟨rfl, hb1⟩
  obtain ⟨n, hN⟩ : ∃ n, n = zs.length := ⟨_, rfl⟩
  rw [← hN] at hn1 hbig hzl ⊢
  have HN := Lib.hid hN
  clear hN
  go_enter Try.func5, Try.ntmps5
  go_wp2_with fail
  go_at_call 7
  refine (lawFirst_any _).mono ?_
  rintro e w1 ⟨rfl, hb1⟩
  go_wp2
  go_loopw [3, 4] (fun v i wr => ∃ (k : Nat) (acc : List Tok), k ≤ n ∧ i = .int .i64 k ∧ acc.length ≤ k ∧ Hid (∀ t ∈ acc, Vt t) ∧ wr.ownsRow w.heap.size 40 3 v acc.length (row3 acc) ∧ Below w.heap.size w wr) (fun _ i _ => n - (intOf i).toNat)
  case atStart => exact ⟨0, [], Nat.zero_le _, rfl, Nat.le_refl _, fun t ht => by simp at ht, World.ownsRow_nil _ _ _ _, hb1⟩
  case round =>
    clear hb1
    obtain ⟨k, acc, hk, rfl, hL, HG, hown, hb⟩ := hrel
    by_cases hlt : k < n
    · obtain ⟨x, hx⟩ : ∃ x, zs[k]? = some x := ⟨_, List.getElem?_eq_getElem (by rw [← HN.out]; exact hlt)⟩
      obtain ⟨ad1, rfl, hcx⟩ := HC1.out k x hx
      have hcell := (hb.cell (World.block_lt_of_cell? _ _ hcx)).trans hcx
      clear hx hcx
      have hwx := wtxt_len x
      generalize hX : wtxt x = X at *
      have HX : Hid (∀ w, Calls Try.prog 13 #[.int .i64 x] w fun e w' => e = .returned (.string ⟨X.toArray⟩) ∧ Below w.heap.size w w') := fun w => by
        have := word_any x w
        rwa [hX] at this
      clear hX
      have HKd : Hid (∀ w, Calls Try.prog 14 #[.string ⟨X.toArray⟩] w fun e w' => e = .returned (.int .i64 (rkind X)) ∧ Below w.heap.size w w') := fun w => by
        have hb : bl ⟨X.toArray⟩ = X := bl_mk X
        have := kind_any ⟨X.toArray⟩ w (by rw [← bl_len, hb]; omega)
        rwa [hb] at this
      by_cases hK0 : rkind X = 0
      · rw [hK0] at HKd
        go_wp2_with (first
          | (go_at_call 13; refine (HX.out _).mono ?_; rintro e w3 ⟨rfl, hb3⟩)
          | (go_at_call 14; refine (HKd.out _).mono ?_; rintro e w4 ⟨rfl, hb4⟩))
        have hb34 := hb3.trans (hb4.mono hb3.size)
        go_roundw
        case rel => exact ⟨k + 1, acc, hlt, by go_num, by omega, HG, ownsRow_below hown hb34, hb.trans (hb34.mono hb.size)⟩
        case measure => simp [intOf]; omega
      · have HGS : Hid (∀ t ∈ acc ++ [Tok.mk (rkind X) X k], Vt t) := by
          intro t ht
          rcases List.mem_append.1 ht with ht | ht
          · exact HG.out t ht
          · simp at ht; subst ht; exact ⟨rfl, hK0, by show k < 4000; omega, hwx⟩
        have hKb : (rkind X == 0) = false := by simpa using hK0
        clear hK0
        generalize rkind X = K at *
        go_wp2_with (first
          | (go_at_call 13; refine (HX.out _).mono ?_; rintro e w3 ⟨rfl, hb3⟩)
          | (go_at_call 14; refine (HKd.out _).mono ?_; rintro e w4 ⟨rfl, hb4⟩; have hb34 := hb3.trans (hb4.mono hb3.size); have hown4 := ownsRow_below hown hb34; have hb5 := hb.trans (hb34.mono hb.size); have hsz5 := hb5.size)
          | (at_builtin; refine wpList_append_own _ rfl _ _ 26 rfl w.heap.size 40 i0 _ 3 32 Try.underlying26 hi hz0 hz1 hz2 rfl (by decide) _ _ _ rfl (hown4.alloc _) ⟨w4.heap.size, 0, none⟩ 1 1 [.int .i64 K, .string ⟨X.toArray⟩, .int .i64 k] rfl rfl three_new three_one (by unfold maxLen; omega) (by omega) (by simp; omega) ?_))
        intro v' w5 hown' hgrow _
        have R1 : w5.ownsRow w.heap.size 40 3 v' (acc ++ [Tok.mk K X k]).length (row3 (acc ++ [Tok.mk K X k])) := by
          rw [row3_snoc, List.length_append]; exact hown'
        have R2 : Below w.heap.size w w5 := Below.grown (hb5.alloc hsz5 _) hgrow (by simp; omega) (fun j hj => (hown.lt j hj).1)
        clear hown' hgrow hown hown4 hb hb3 hb4 hb34 hb5
        go_wp2
        go_roundw
        case rel => exact ⟨k + 1, _, hlt, by go_num, by simp; omega, HGS, R1, R2⟩
        case measure => simp [intOf]; omega
    · obtain rfl : k = n := by omega
      have hT := toks_of_row hown
      obtain ⟨av, cv, rfl⟩ := tokenSpaces.toks_len hT
      have hJ := sc_joined (acc.map (·.text)) 0 (fun x hx => by obtain ⟨t, ht, rfl⟩ := List.mem_map.1 hx; rw [(HG.out t ht).1]; exact (HG.out t ht).2.1)
      have hlJ := joined_len acc HG.out
      have hkt : kt acc = (acc.map (·.text)).map (fun x => (rkind x, x)) := by
        unfold kt
        rw [List.map_map]
        apply List.map_congr_left
        intro t ht
        show (t.kind, t.text) = (rkind t.text, t.text)
        rw [(HG.out t ht).1]
      rw [← hkt] at hJ
      have nJ : (sc (joined (acc.map (·.text))) 0).1.length = acc.length := kt_len hJ.1
      have HA := Lib.hid (fun w => tokenSpaces.scan_ok _ acc.length w (by omega) hJ.2 nJ)
      have HJ1 := Lib.hid (join_any _ acc wr (by omega) hT HG.out)
      have HJ2 := Lib.hid (fun w' (h : Toks w' (.slice av acc.length cv) acc) => refJoin_any _ acc w' (by omega) h HG.out)
      have HKT := Lib.hid hJ.1
      have HNS : Hid ((sc (joined (acc.map (·.text))) 0).1.length ≤ 1000000) := by show _ ≤ _; omega
      clear hJ nJ hlJ hkt hown
      generalize (sc (joined (acc.map (·.text))) 0).1 = ts1 at *
      generalize (⟨(joined (acc.map (·.text))).toArray⟩ : ByteArray) = S at *
      go_wp2_with fail
      go_at_call 15
      refine HJ1.out.mono ?_
      rintro e w3 ⟨rfl, hb3⟩
      go_wp2_with fail
      go_at_call 9
      refine (HA.out _).mono ?_
      rintro e w4 ⟨aa, ca, rfl, T1, hb4⟩
      have hb34 : Below wr.heap.size wr (w4.alloc (.cells #[.int .i64 0, .int .i64 0] 29)) := (hb3.trans (hb4.mono hb3.size)).alloc (Nat.le_trans hb3.size hb4.size) _
      have hT4 := toks_below hT hb34
      go_wp2_with fail
      go_at_call 16
      refine (HJ2.out _ hT4).mono ?_
      rintro e w5 ⟨rfl, hb5⟩
      have f0 : w5.cell? ⟨w4.heap.size, 0, none⟩ = some (.int .i64 0) := by rw [hb5.cell (p := ⟨w4.heap.size, 0, none⟩) (by simp)]; simp
      have A1 := toks_below T1 (((Below.refl _ _).alloc (Nat.le_refl _) (.cells #[.int .i64 0, .int .i64 0] 29)).trans (hb5.mono (by simp)))
      have A2 := toks_below hT4 hb5
      have hbx : Below w.heap.size w w5 := hb.trans ((hb34.trans (hb5.mono hb34.size)).mono hb.size)
      have HC := Lib.hid (same_any _ _ false ts1 acc _ HNS.out A1 A2 HKT.out (fun h => by cases h))
      clear T1 A1 A2 hT hT4 hb3 hb4 hb5 hb34 hb
      go_wp2_with (go_at_call 11; refine HC.out.mono ?_; rintro e w6 ⟨rfl, hb6⟩)
      go_ret
      exact ⟨rfl, hbx.trans (hb6.mono hbx.size)⟩
end Go.Proofs.Ythhhbjegnocpmaa.tokenJoins
