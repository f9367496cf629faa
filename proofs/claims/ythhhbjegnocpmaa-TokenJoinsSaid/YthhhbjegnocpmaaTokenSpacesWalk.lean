/- The walk of the law TokenSpaces. -/
import Derived.Test.YthhhbjegnocpmaaLaw2
namespace Go.Proofs.Ythhhbjegnocpmaa.tokenSpaces
open Go.RowKit Mth

/-- A slice of numbers, nil or not. -/
theorem ints_opt {w : World} {v : Value} {zs : List Int} (h : Ints w v zs) : ∃ a cap, v = .slice a zs.length cap ∧ zs.length ≤ cap ∧ ∀ i x, zs[i]? = some x → ∃ ad, a = some ad ∧ w.cell? (ad.add i) = some (.int .i64 x) := by
  rcases h with ⟨rfl, rfl⟩ | ⟨ad, cap, rfl, hn, hc⟩
  · exact ⟨none, 0, rfl, Nat.le_refl _, fun i x hx => by simp at hx⟩
  · exact ⟨some ad, cap, rfl, hn, fun i x hx => ⟨ad, rfl, hc i x hx⟩⟩
theorem toks_len {w : World} {v : Value} {ts : List Tok} (h : Toks w v ts) : ∃ a cap, v = .slice a ts.length cap := by
  rcases h with ⟨rfl, rfl⟩ | ⟨g, cap, rfl, _, _⟩
  · exact ⟨none, 0, rfl⟩
  · exact ⟨_, cap, rfl⟩
/-- A text whose every byte belongs to a token or stands between tokens. -/
theorem scan_ok (l : List UInt8) (n : Nat) (w : World) (hl : l.length ≤ 4000) (h : (sc l 0).2 = none) (hn : (sc l 0).1.length = n) :
    Calls Try.prog 9 #[.string ⟨l.toArray⟩] w fun e w' => ∃ a cap, e = .returned (.tuple #[.slice a n cap, .agg #[.int .i64 0, .int .i64 0]]) ∧ Toks w' (.slice a n cap) (sc l 0).1 ∧ Below w.heap.size w w' := by
  have hb : bl ⟨l.toArray⟩ = l := bl_mk l
  have hsz : (⟨l.toArray⟩ : ByteArray).size = l.length := by rw [← bl_len, hb]
  refine (scan_any ⟨l.toArray⟩ w (by rw [hsz]; omega)).mono ?_
  rintro e w' ⟨v, rfl, hown, hbl⟩
  rw [hb] at hown ⊢
  have h1 : ferr l = 0 := by unfold ferr; rw [if_neg (by omega), h]
  have h2 : fpos l = 0 := by unfold fpos; rw [if_neg (by omega), h]
  have h3 : ftoks l = (sc l 0).1 := by unfold ftoks; rw [if_neg (by omega), h]
  rw [h3] at hown
  have ht := toks_of_row hown
  obtain ⟨a, cap, rfl⟩ := toks_len ht
  rw [hn] at ht ⊢
  exact ⟨a, cap, by rw [h1, h2], ht, hbl⟩

/-- What the loop has put together: pieces, each with white space. -/
def Good (L : List (List UInt8 × List UInt8)) : Prop := ∀ x ∈ L, x.1 ∈ whs ∧ rkind x.2 ≠ 0 ∧ x.2.length ≤ 14
theorem whs_len : ∀ x ∈ whs, x.length ≤ 11 := by decide +kernel
theorem good_before {L : List (List UInt8 × List UInt8)} (h : Good L) : (before L).length ≤ 25 * L.length := by
  induction L with
  | nil => simp [before]
  | cons y l ih =>
    have hy := h y (by simp)
    have := whs_len y.1 hy.1
    have := ih (fun x hx => h x (by simp [hx]))
    have e : before (y :: l) = y.1 ++ (y.2 ++ before l) := by simp [before]
    rw [e]
    simp only [List.length_append, List.length_cons]
    omega
theorem good_behind {L : List (List UInt8 × List UInt8)} (h : Good L) : (behind (L.map (·.2))).length ≤ 15 * L.length := by
  induction L with
  | nil => simp [behind]
  | cons y l ih =>
    have hy := h y (by simp)
    have := ih (fun x hx => h x (by simp [hx]))
    have e : behind ((y :: l).map (·.2)) = y.2 ++ (32 :: behind (l.map (·.2))) := by simp [behind]
    rw [e]
    simp only [List.length_append, List.length_cons]
    omega
theorem before_snoc (L : List (List UInt8 × List UInt8)) (b t : List UInt8) : before (L ++ [(b, t)]) = before L ++ (b ++ t) := by simp [before]
theorem behind_snoc (L : List (List UInt8 × List UInt8)) (b t : List UInt8) : behind ((L ++ [(b, t)]).map (·.2)) = behind (L.map (·.2)) ++ (t ++ [32]) := by simp [behind]
theorem good_snoc {L : List (List UInt8 × List UInt8)} (h : Good L) {b t : List UInt8} (hb : b ∈ whs) (ht : rkind t ≠ 0) (hl : t.length ≤ 14) : Good (L ++ [(b, t)]) := by
  intro x hx
  rcases List.mem_append.1 hx with hx | hx
  · exact h x hx
  · simp at hx; subst hx; exact ⟨hb, ht, hl⟩
theorem wht_cell (w : World) (m : Nat) (h : m < 6) : ∃ b ∈ whs, (w.alloc (.cells #[.string ⟨#[32]⟩, .string ⟨#[10]⟩, .string ⟨#[9, 32, 13]⟩, .string ⟨#[32, 35, 32, 120, 32, 45, 62, 32, 52, 120, 10]⟩, .string ⟨#[10, 10]⟩, .string ⟨#[35, 10]⟩] 9)).cell? ⟨w.heap.size, m, none⟩ = some (.string ⟨b.toArray⟩) := by
  rcases m with _ | _ | _ | _ | _ | _ | m
  · exact ⟨[32], by decide, by simp⟩
  · exact ⟨[10], by decide, by simp⟩
  · exact ⟨[9, 32, 13], by decide, by simp⟩
  · exact ⟨[32, 35, 32, 120, 32, 45, 62, 32, 52, 120, 10], by decide, by simp⟩
  · exact ⟨[10, 10], by decide, by simp⟩
  · exact ⟨[35, 10], by decide, by simp⟩
  · omega

theorem mod6 (kk : Int) : ∃ m : Nat, m < 6 ∧ Hid (∀ w, Calls Try.prog 12 #[.int .i64 kk, .int .i64 6] w fun e w' => e = .returned (.int .i64 m) ∧ w' = w) := by
  refine ⟨(kk % 6).toNat, by omega, fun w => ?_⟩
  have e : ((kk % 6).toNat : Int) = kk % 6 := by omega
  rw [e]
  exact (mod_any kk 6 w (by omega) (by omega)).mono fun _ _ ⟨h, k⟩ => ⟨h, k.symm⟩
theorem str3 (a b : List UInt8) : (⟨(a ++ (b ++ [32])).toArray⟩ : ByteArray) = ⟨a.toArray⟩ ++ ⟨b.toArray⟩ ++ ⟨#[32]⟩ := by apply ByteArray.ext; simp
theorem str3' (a b c : List UInt8) : (⟨(a ++ (b ++ c)).toArray⟩ : ByteArray) = ⟨a.toArray⟩ ++ ⟨b.toArray⟩ ++ ⟨c.toArray⟩ := by apply ByteArray.ext; simp

set_option maxHeartbeats 3200000 in
theorem walk (v1 v2 : Value) (zs ys : List Int) (w : World) (hz : Ints w v1 zs) (hzl : zs.length ≤ maxLen) (hy : Ints w v2 ys) (hyl : ys.length ≤ maxLen) :
    Calls Try.prog 6 #[v1, v2] w fun e w' => e = .returned (.bool true) ∧ Below w.heap.size w w' := by
  unfold maxLen at hzl hyl
  obtain ⟨a1, cap1, rfl, hn1, hc1⟩ := ints_opt hz
  obtain ⟨a2, cap2, rfl, hn2, hc2⟩ := ints_opt hy
  have HC1 := Lib.hid hc1
  have HC2 := Lib.hid hc2
  clear hz hy hc1 hc2
  by_cases hbig : 60 < zs.length
  · go_enter Try.func6, Try.ntmps6
    go_wp2_with (go_at_call 7; refine (lawFirst_any _).mono ?_; rintro e w1 ⟨rfl, hb1⟩)
    go_ret
    exact ⟨rfl, hb1⟩
  by_cases hbig2 : 60 < ys.length
  · go_enter Try.func6, Try.ntmps6
    go_wp2_with (go_at_call 7; refine (lawFirst_any _).mono ?_; rintro e w1 ⟨rfl, hb1⟩)
    go_ret
    exact ⟨rfl, hb1⟩
  obtain ⟨n1, hN1⟩ : ∃ n, n = zs.length := ⟨_, rfl⟩
  obtain ⟨n2, hN2⟩ : ∃ n, n = ys.length := ⟨_, rfl⟩
  rw [← hN1] at hn1 hbig hzl ⊢
  rw [← hN2] at hn2 hbig2 hyl ⊢
  have HN1 := Lib.hid hN1
  have HN2 := Lib.hid hN2
  clear hN1 hN2
  go_enter Try.func6, Try.ntmps6
  go_wp2_with fail
  go_at_call 7
  refine (lawFirst_any _).mono ?_
  rintro e w1 ⟨rfl, hb1⟩
  have HW := Lib.hid (wht_cell w1)
  have hb2 : Below w.heap.size w (w1.alloc (.cells #[.string ⟨#[32]⟩, .string ⟨#[10]⟩, .string ⟨#[9, 32, 13]⟩, .string ⟨#[32, 35, 32, 120, 32, 45, 62, 32, 52, 120, 10]⟩, .string ⟨#[10, 10]⟩, .string ⟨#[35, 10]⟩] 9)) := hb1.alloc hb1.size _
  go_wp2
  generalize (w1.alloc (.cells #[.string ⟨#[32]⟩, .string ⟨#[10]⟩, .string ⟨#[9, 32, 13]⟩, .string ⟨#[32, 35, 32, 120, 32, 45, 62, 32, 52, 120, 10]⟩, .string ⟨#[10, 10]⟩, .string ⟨#[35, 10]⟩] 9)) = W at *
  generalize w1.heap.size = b at *
  clear hb1
  go_loopw [6, 7, 8, 9] (fun s t n i wr => ∃ (k : Nat) (L : List (List UInt8 × List UInt8)), k ≤ n1 ∧ i = .int .i64 k ∧ L.length ≤ k ∧ Hid (Good L) ∧ s = .string ⟨(behind (L.map (·.2))).toArray⟩ ∧ t = .string ⟨(before L).toArray⟩ ∧ n = .int .i64 L.length ∧ Below W.heap.size W wr) (fun _ _ _ i _ => n1 - (intOf i).toNat)
  case atStart => exact ⟨0, [], Nat.zero_le _, rfl, Nat.le_refl _, fun x hx => by simp at hx, rfl, rfl, rfl, Below.refl _ _⟩
  case round =>
    obtain ⟨k, L, hk, rfl, hL, HG, rfl, rfl, rfl, hbr⟩ := hrel
    by_cases hlt : k < n1
    · obtain ⟨x, hx⟩ : ∃ x, zs[k]? = some x := ⟨_, List.getElem?_eq_getElem (by rw [← HN1.out]; exact hlt)⟩
      obtain ⟨ad1, rfl, hcx⟩ := HC1.out k x hx
      have hbw : Below w.heap.size w wr := hb2.trans (hbr.mono hb2.size)
      have hcell := (hbw.cell (World.block_lt_of_cell? _ _ hcx)).trans hcx
      clear hx hcx
      have hwx := wtxt_len x
      generalize hX : wtxt x = X at *
      have HX : Hid (∀ w, Calls Try.prog 13 #[.int .i64 x] w fun e w' => e = .returned (.string ⟨X.toArray⟩) ∧ Below w.heap.size w w') := fun w => by
        have := word_any x w
        rwa [hX] at this
      clear hX
      have HKd : Hid (∀ w, Calls Try.prog 14 #[.string ⟨X.toArray⟩] w fun e w' => e = .returned (.int .i64 (rkind X)) ∧ Below w.heap.size w w') := fun w => by
        have hb : bl ⟨X.toArray⟩ = X := bl_mk X
        have := kind_any ⟨X.toArray⟩ w (by rw [← bl_len, hb]; omega)
        rwa [hb] at this
      by_cases hK0 : rkind X = 0
      · rw [hK0] at HKd
        go_wp2_with (first
          | (go_at_call 13; refine (HX.out _).mono ?_; rintro e w3 ⟨rfl, hb3⟩)
          | (go_at_call 14; refine (HKd.out _).mono ?_; rintro e w4 ⟨rfl, hb4⟩))
        go_roundw
        case rel => exact ⟨k + 1, L, hlt, by go_num, by omega, HG, rfl, rfl, rfl, hbr.trans ((hb3.trans (hb4.mono hb3.size)).mono hbr.size)⟩
        case measure => simp [intOf]; omega
      · have HGS : Hid (∀ B, B ∈ whs → Good (L ++ [(B, X)])) := fun B hB => good_snoc HG.out hB hK0 hwx
        have hKb : (rkind X == 0) = false := by simpa using hK0
        clear hK0
        generalize rkind X = K at *
        have hbS := good_behind HG.out
        have hbT := good_before HG.out
        have E1 : Hid (∀ B : List UInt8, (behind (L.map (·.2))) ++ (X ++ [32]) = behind ((L ++ [(B, X)]).map (·.2))) := fun B => (behind_snoc L B X).symm
        have E2 : Hid (∀ B : List UInt8, before L ++ (B ++ X) = before (L ++ [(B, X)])) := fun B => (before_snoc L B X).symm
        generalize behind (L.map (·.2)) = S at *
        generalize before L = Tt at *
        have t1 : ¬ 9223372036854775807 < S.length + X.length := by omega
        have t2 : ¬ 9223372036854775807 < S.length + X.length + 1 := by omega
        by_cases hk2 : k < n2
        · obtain ⟨y, hyy⟩ : ∃ y, ys[k]? = some y := ⟨_, List.getElem?_eq_getElem (by rw [← HN2.out]; exact hk2)⟩
          obtain ⟨ad2, rfl, hcy⟩ := HC2.out k y hyy
          have HCY := Lib.hid hcy
          clear hyy hcy
          obtain ⟨m, hm, HM⟩ := mod6 y
          obtain ⟨B, hBm, hBc⟩ := HW.out m hm
          have hBl := whs_len B hBm
          have HBm := Lib.hid hBm
          have HBc := Lib.hid hBc
          clear hBm hBc
          have t3 : ¬ 9223372036854775807 < Tt.length + B.length := by omega
          have t4 : ¬ 9223372036854775807 < Tt.length + B.length + X.length := by omega
          have hmi : (m : Int) < 6 := by omega
          go_wp2_with (first
            | (go_at_call 13; refine (HX.out _).mono ?_; rintro e w3 ⟨rfl, hb3⟩)
            | (go_at_call 14; refine (HKd.out _).mono ?_; rintro e w4 ⟨rfl, hb4⟩; have hb34 := hb3.trans (hb4.mono hb3.size); have hy2 := ((hbw.trans (hb34.mono hbw.size)).cell (World.block_lt_of_cell? _ _ HCY.out)).trans HCY.out; have hB2 := ((hbr.trans (hb34.mono hbr.size)).cell (World.block_lt_of_cell? _ _ HBc.out)).trans HBc.out))
          go_quiet ((go_at_call 12; exact Calls.quiet_of_same (HM.out _)))
          go_wp2
          go_roundw
          case rel => exact ⟨k + 1, L ++ [(B, X)], hlt, by go_num, by simp; omega, HGS.out B HBm.out, by rw [← E1.out, str3], by rw [← E2.out, str3'], by simp, below_drewN (hbr.trans (hb34.mono hbr.size)) _⟩
          case measure => simp [intOf]; omega
        · obtain ⟨m, hm, HM⟩ := mod6 k
          obtain ⟨B, hBm, hBc⟩ := HW.out m hm
          have hBl := whs_len B hBm
          have HBm := Lib.hid hBm
          have HBc := Lib.hid hBc
          clear hBm hBc
          have t3 : ¬ 9223372036854775807 < Tt.length + B.length := by omega
          have t4 : ¬ 9223372036854775807 < Tt.length + B.length + X.length := by omega
          have hmi : (m : Int) < 6 := by omega
          go_wp2_with (first
            | (go_at_call 13; refine (HX.out _).mono ?_; rintro e w3 ⟨rfl, hb3⟩)
            | (go_at_call 14; refine (HKd.out _).mono ?_; rintro e w4 ⟨rfl, hb4⟩; have hb34 := hb3.trans (hb4.mono hb3.size); have hB2 := ((hbr.trans (hb34.mono hbr.size)).cell (World.block_lt_of_cell? _ _ HBc.out)).trans HBc.out))
          go_quiet ((go_at_call 12; exact Calls.quiet_of_same (HM.out _)))
          go_wp2
          go_roundw
          case rel => exact ⟨k + 1, L ++ [(B, X)], hlt, by go_num, by simp; omega, HGS.out B HBm.out, by rw [← E1.out, str3], by rw [← E2.out, str3'], by simp, below_drewN (hbr.trans (hb34.mono hbr.size)) _⟩
          case measure => simp [intOf]; omega
    · obtain rfl : k = n1 := by omega
      have hS := sc_behind (L.map (·.2)) 0 (fun x hx => by obtain ⟨z, hz, rfl⟩ := List.mem_map.1 hx; exact (HG.out z hz).2.1)
      have hT := sc_before L 0 (fun x hx => ⟨(HG.out x hx).1, (HG.out x hx).2.1⟩)
      have hlS := good_behind HG.out
      have hlT := good_before HG.out
      rw [List.map_map] at hS
      have nS : (sc (behind (L.map (·.2))) 0).1.length = L.length := by have := congrArg List.length hS.1; simpa [kt] using this
      have nT : (sc (before L) 0).1.length = L.length := by have := congrArg List.length hT.1; simpa [kt] using this
      have HA := fun w => Lib.hid (scan_ok _ L.length w (by omega) hS.2 nS)
      have HB := fun w => Lib.hid (scan_ok _ L.length w (by omega) hT.2 nT)
      have HAA := Lib.hid HA
      have HBB := Lib.hid HB
      have HKT : Hid (kt (sc (behind (L.map (·.2))) 0).1 = kt (sc (before L) 0).1) := by show _ = _; rw [hS.1, hT.1]; rfl
      have HNS : Hid ((sc (behind (L.map (·.2))) 0).1.length ≤ 1000000) := by show _ ≤ _; omega
      clear HA HB hS hT nS nT hlS hlT
      generalize (sc (behind (L.map (·.2))) 0).1 = ts1 at *
      generalize (sc (before L) 0).1 = ts2 at *
      generalize behind (L.map (·.2)) = S at *
      generalize before L = Tt at *
      have hbw : Below w.heap.size w wr := hb2.trans (hbr.mono hb2.size)
      go_wp2_with fail
      go_at_call 9
      refine (HAA.out _).out.mono ?_
      rintro e w3 ⟨aa, ca, rfl, T1, hb3⟩
      go_wp2_with fail
      go_at_call 9
      refine (HBB.out _).out.mono ?_
      rintro e w4 ⟨ab, cb, rfl, T2, hb4⟩
      have hbe : Below w3.heap.size w3 w4 := ((Below.refl _ _).alloc (Nat.le_refl _) _).trans (hb4.mono (by simp))
      have f0 : w4.cell? ⟨w3.heap.size, 0, none⟩ = some (.int .i64 0) := by rw [hb4.cell (p := ⟨w3.heap.size, 0, none⟩) (by simp)]; simp
      have hg1 : w3.heap.size < w4.heap.size := by have := hb4.size; simp at this; omega
      have hbx : Below w.heap.size w w4 := (hbw.trans (hb3.mono hbw.size)).trans (hbe.mono (Nat.le_trans hbw.size hb3.size))
      have A1 := toks_below (toks_below T1 hbe) ((Below.refl _ _).alloc (Nat.le_refl _) (.cells #[.int .i64 0, .int .i64 0] 29))
      have A2 := toks_below T2 ((Below.refl _ _).alloc (Nat.le_refl _) (.cells #[.int .i64 0, .int .i64 0] 29))
      have HC := Lib.hid (same_any _ _ false ts1 ts2 _ HNS.out A1 A2 HKT.out (fun h => by cases h))
      clear T1 T2 A1 A2 hb3 hb4 hbe hbr hb2 hbw
      go_wp2_with (go_at_call 11; refine HC.out.mono ?_; rintro e w6 ⟨rfl, hb6⟩)
      go_ret
      exact ⟨rfl, (hbx.alloc hbx.size _).trans (hb6.mono (by have := hbx.size; simp; omega))⟩
end Go.Proofs.Ythhhbjegnocpmaa.tokenSpaces
