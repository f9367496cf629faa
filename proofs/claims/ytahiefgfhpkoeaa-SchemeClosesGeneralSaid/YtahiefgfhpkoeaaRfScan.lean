/- The contract of the reference's Scan. -/
import Derived.Test.YtahiefgfhpkoeaaRfRow
namespace Go.Proofs.Ytahiefgfhpkoeaa
open Go.RowKit Mth

theorem ownsRow_below {w w' : World} {base : Nat} {e : TypeId} {size : Nat} {v : Value} {n : Nat} {xs : List Value} (h : w.ownsRow base e size v n xs) (hb : Below w.heap.size w w') : w'.ownsRow base e size v n xs := by
  refine ⟨h.1, ?_⟩
  rcases h.2 with h2 | ⟨g, cap, cur, hv, hg, hc, hr⟩
  · exact .inl h2
  · refine .inr ⟨g, cap, cur, hv, hg, ?_, hr⟩
    have hlt : g < w.heap.size := by
      by_cases h : g < w.heap.size
      · exact h
      · rw [Array.getElem?_eq_none (by omega)] at hc; simp at hc
    rw [hb.block g hlt]; exact hc
theorem drop_cons (s : ByteArray) (k : Nat) (h : k < s.size) : (bl s).drop k = s[k] :: (bl s).drop (k + 1) := by
  rw [List.drop_eq_getElem_cons (by rw [bl_len]; exact h)]; rfl
theorem drop_get (s : ByteArray) (k j : Nat) (h : k + j < s.size) : ((bl s).drop k)[j]'(by rw [List.length_drop, bl_len]; omega) = s[k + j] := by
  rw [List.getElem_drop]; rfl
theorem head_drop (s : ByteArray) (k : Nat) (h : k + 1 < s.size) : ((bl s).drop (k + 1)).head? = some (s[k + 1]) := by
  rw [drop_cons s (k + 1) h]; rfl
theorem head_none (s : ByteArray) (k : Nat) (h : ¬ k + 1 < s.size) : ((bl s).drop (k + 1)).head? = none := by
  rw [List.drop_eq_nil_of_le (by rw [bl_len]; omega)]; rfl
theorem u8_ten {c : UInt8} (h : (c.toNat : Int) = 10) : c = 10 := UInt8.toNat_inj.1 (by show c.toNat = 10; omega)
theorem u8_of {c : UInt8} {n : Nat} (h : c.toNat = n) (hn : n < 256) : c = UInt8.ofNat n := UInt8.toNat_inj.1 (by rw [h]; simp; omega)
/-- Of a byte that is neither white space nor the start of a comment: what the reference takes. -/
theorem ref_step {s : ByteArray} {k : Nat} (hk : k < s.size) (h35 : s[k].toNat ≠ 35) (hw : wht s[k] = false) :
    (stp ((bl s).drop k)).1 = rkind (((bl s).drop k).take (rsize ((bl s).drop k))) ∧ (rkind (((bl s).drop k).take (rsize ((bl s).drop k))) ≠ 0 → (stp ((bl s).drop k)).2 = rsize ((bl s).drop k)) := by
  rw [drop_cons s k hk]
  exact stp_ref (fun e => h35 (by rw [e]; rfl)) hw
theorem rsize_word {s : ByteArray} {k : Nat} (hk : k < s.size) (h : inn s[k] = true) : rsize ((bl s).drop k) = wsize ((bl s).drop k) := by
  rw [drop_cons s k hk]
  unfold rsize
  dsimp only
  rw [if_pos h]
theorem rsize_two {s : ByteArray} {k : Nat} (hk : k + 1 < s.size) (h : inn s[k] = false) (h1 : s[k].toNat = 45) (h2 : s[k + 1].toNat = 62) : rsize ((bl s).drop k) = 2 := by
  rw [drop_cons s k (by omega)]
  unfold rsize
  dsimp only
  rw [if_neg (by simp [h]), head_drop s k hk, if_pos ⟨UInt8.toNat_inj.1 h1, by rw [show s[k + 1] = 62 from UInt8.toNat_inj.1 h2]⟩]
theorem rsize_one {s : ByteArray} {k : Nat} (hk : k < s.size) (h : inn s[k] = false) (h1 : ¬ (s[k].toNat = 45 ∧ ∃ h : k + 1 < s.size, s[k + 1].toNat = 62)) : rsize ((bl s).drop k) = 1 := by
  rw [drop_cons s k hk]
  unfold rsize
  dsimp only
  rw [if_neg (by simp [h]), if_neg]
  rintro ⟨e1, e2⟩
  refine h1 ⟨by rw [e1]; rfl, ?_⟩
  by_cases hl : k + 1 < s.size
  · refine ⟨hl, ?_⟩
    rw [head_drop s k hl] at e2
    simp at e2
    rw [e2]; rfl
  · rw [head_none s k hl] at e2; cases e2
/-- What Kind says of the part. -/
theorem ref_kind {s : ByteArray} {k n : Nat} (hs : s.size ≤ 140737488355328) : Hid (∀ w, Calls Try.prog 92 #[.string (s.extract k (k + n))] w fun e w' => e = .returned (.int .i64 (rkind (((bl s).drop k).take n))) ∧ Below w.heap.size w w') := fun w => by
  have h := kind_any (s.extract k (k + n)) w (by simp; omega)
  rw [bl_extract, Nat.add_sub_cancel_left] at h
  exact h
/-- How far the bytes from k on meet p, by places of the whole text. -/
theorem seg_step (p : UInt8 → Bool) (s : ByteArray) (k : Nat) : ∀ (m : Nat) (hm : m < s.size), k ≤ m → m ≤ k + tw p ((bl s).drop k) →
    (p s[m] = true → m + 1 ≤ k + tw p ((bl s).drop k)) ∧ (p s[m] = false → m = k + tw p ((bl s).drop k)) := by
  intro m hm hk hle
  obtain ⟨j, rfl⟩ : ∃ j, m = k + j := ⟨m - k, by omega⟩
  have := tw_step p ((bl s).drop k) j (by rw [List.length_drop, bl_len]; omega) (by omega)
  rw [drop_get s k j hm] at this
  exact ⟨fun h => by have := this.1 h; omega, fun h => by have := this.2 h; omega⟩
theorem seg_le (p : UInt8 → Bool) (s : ByteArray) (k : Nat) (hk : k ≤ s.size) : k + tw p ((bl s).drop k) ≤ s.size := by
  have := tw_le p ((bl s).drop k)
  rw [List.length_drop, bl_len] at this
  omega
theorem rsize_fits {s : ByteArray} {k : Nat} (hk : k < s.size) : 1 ≤ rsize ((bl s).drop k) ∧ k + rsize ((bl s).drop k) ≤ s.size := by
  have hl : ((bl s).drop k).length = s.size - k := by rw [List.length_drop, bl_len]
  have hw := wsize_le ((bl s).drop k)
  rw [drop_cons s k hk] at *
  unfold rsize
  dsimp only
  simp only [List.length_cons] at hl hw
  split
  · rename_i h
    rw [wsize_cons h] at *
    omega
  · split
    · rename_i h
      have : ((bl s).drop (k + 1)).length ≠ 0 := fun e => by rw [List.eq_nil_of_length_eq_zero e] at h; simp at h
      omega
    · omega
set_option maxRecDepth 4000 in
set_option maxHeartbeats 4000000 in
theorem refScan_any (s : ByteArray) (w : World) (hs : s.size ≤ 140737488355328) : Calls Try.prog 74 #[.string s] w (ScanOut (bl s) w) := by
  obtain ⟨i0, hi, hz0, hz1, hz2⟩ := info_parts Try.info126
  by_cases hbig : 4000 < s.size
  · have HE := Lib.hid (inv_big (l := bl s) (by rw [bl_len]; exact hbig))
    go_enter Try.func74, Try.ntmps74
    go_wp2
    go_returns
    exact ⟨.slice none 0 0, by rw [HE.out.1, HE.out.2.1], by rw [HE.out.2.2]; exact World.ownsRow_nil _ _ _ _, (Below.refl _ _).alloc (Nat.le_refl _) _⟩
  · go_enter Try.func74, Try.ntmps74
    go_wp2
    go_loopw [4, 5] (fun v p wr => ∃ (k : Nat) (acc : List Tok), k ≤ s.size ∧ p = .int .i64 k ∧ Hid (Inv (bl s) k acc) ∧ wr.ownsRow (w.heap.size + 1) 126 3 v acc.length (row3 acc) ∧ Below (w.heap.size + 1) (w.alloc (.cells #[.int .i64 0, .int .i64 0] 91)) wr) (fun _ p _ => s.size - (intOf p).toNat)
    case atStart => exact ⟨0, [], Nat.zero_le _, rfl, inv_start _, World.ownsRow_nil _ _ _ _, Below.refl _ _⟩
    case round =>
      obtain ⟨k, acc, hk, rfl, HI, hown, hbl⟩ := hrel
      obtain ⟨hc0, hc1, hf0, hf1⟩ := fault_cells hbl
      have hll : ¬ 4000 < (bl s).length := by rw [bl_len]; exact hbig
      have HL := Lib.hid hll
      clear hll
      by_cases hlt : k < s.size
      · by_cases hw : s[k].toNat = 32 ∨ s[k].toNat = 9 ∨ s[k].toNat = 13 ∨ s[k].toNat = 10
        · have HE : Hid (Inv (bl s) (k + 1) acc) := inv_blank HI.out (by
            rw [drop_cons s k hlt]
            have hc : s[k] = 32 ∨ s[k] = 9 ∨ s[k] = 13 ∨ s[k] = 10 := by
              rcases hw with h | h | h | h
              · exact .inl (UInt8.toNat_inj.1 h)
              · exact .inr (.inl (UInt8.toNat_inj.1 h))
              · exact .inr (.inr (.inl (UInt8.toNat_inj.1 h)))
              · exact .inr (.inr (.inr (UInt8.toNat_inj.1 h)))
            rcases hc with h | h | h | h <;> rw [h] <;> rfl)
          have h3 : (s[k].toNat : Int) = 32 ∨ (s[k].toNat : Int) = 9 ∨ (s[k].toNat : Int) = 13 ∨ (s[k].toNat : Int) = 10 := by omega
          clear hw
          rcases h3 with h3 | h3 | h3 | h3
          all_goals
            go_wp2
            go_roundw
            case rel => exact ⟨k + 1, acc, hlt, by go_num, HE, hown, hbl⟩
            case measure => simp [intOf]; omega
        by_cases h35 : s[k].toNat = 35
        · have HE : Hid (Inv (bl s) (k + tw (fun c => !decide (c = 10)) ((bl s).drop k)) acc) := inv_blank HI.out (by
            rw [drop_cons s k hlt, show s[k] = 35 from UInt8.toNat_inj.1 h35]; rfl)
          have HN := Lib.hid (seg_step (fun c => !decide (c = 10)) s k)
          have hN := seg_le (fun c => !decide (c = 10)) s k hk
          have hpos : 1 ≤ tw (fun c => !decide (c = 10)) ((bl s).drop k) := by
            rw [drop_cons s k hlt, show s[k] = 35 from UInt8.toNat_inj.1 h35]; simp [tw]
          have h36 : (s[k].toNat : Int) = 35 := by omega
          clear hw h35
          generalize tw (fun c => !decide (c = 10)) ((bl s).drop k) = n at *
          go_wp2
          clear h36
          go_loop [5] (fun i => ∃ m : Nat, k ≤ m ∧ m ≤ k + n ∧ i = .int .i64 m) (fun i => s.size - (intOf i).toNat)
          case atStart => exact ⟨k, Nat.le_refl _, by omega, rfl⟩
          case round =>
            obtain ⟨m, hm1, hm2, rfl⟩ := hrel
            by_cases hms : m < s.size
            · by_cases h10 : (s[m].toNat : Int) = 10
              · have hmn : Hid (m = k + n) := (HN.out m hms hm1 hm2).2 (by rw [u8_ten h10]; rfl)
                go_wp2
                go_roundw
                case rel => exact ⟨k + n, acc, hN, by rw [hmn.out], HE, hown, hbl⟩
                case measure => have := hmn.out; simp [intOf]; omega
              · have hmn : m + 1 ≤ k + n := (HN.out m hms hm1 hm2).1 (by simp; intro e; apply h10; rw [e]; rfl)
                go_wp2
                go_round
                case rel => exact ⟨m + 1, by omega, hmn, by go_num⟩
                case measure => simp [intOf]; omega
            · have hmn : Hid (m = k + n) := by show _ = _; omega
              go_wp2
              go_roundw
              case rel => exact ⟨k + n, acc, hN, by rw [hmn.out], HE, hown, hbl⟩
              case measure => have := hmn.out; simp [intOf]; omega
        · have hst := ref_step hlt h35 (by
            unfold wht
            rw [decide_eq_false_iff_not]
            simp only [List.mem_cons, List.not_mem_nil, or_false]
            rintro (e | e | e | e) <;> rw [e] at hw <;> exact hw (by decide))
          have hfit := rsize_fits hlt
          have a1 : ((s[k].toNat : Int) == 32) = false := by rw [beq_eq_false_iff_ne]; omega
          have a2 : ((s[k].toNat : Int) == 9) = false := by rw [beq_eq_false_iff_ne]; omega
          have a3 : ((s[k].toNat : Int) == 13) = false := by rw [beq_eq_false_iff_ne]; omega
          have a4 : ((s[k].toNat : Int) == 10) = false := by rw [beq_eq_false_iff_ne]; omega
          have a5 : ((s[k].toNat : Int) == 35) = false := by rw [beq_eq_false_iff_ne]; omega
          clear hw h35
          have HW := fun (h : inn s[k] = true) => Lib.hid (rsize_word hlt h)
          have H2 := fun (hk : k + 1 < s.size) (h : inn s[k] = false) (h1 : s[k].toNat = 45) (h2 : s[k + 1].toNat = 62) => Lib.hid (rsize_two hk h h1 h2)
          have H1 := fun (h : inn s[k] = false) (h1 : ¬ (s[k].toNat = 45 ∧ ∃ h : k + 1 < s.size, s[k + 1].toNat = 62)) => Lib.hid (rsize_one hlt h h1)
          have HWB := Lib.hid HW
          have H2B := Lib.hid H2
          have H1B := Lib.hid H1
          clear HW H2 H1
          obtain ⟨n, hn⟩ : ∃ n, n = rsize ((bl s).drop k) := ⟨_, rfl⟩
          rw [← hn] at hst hfit HWB H2B H1B
          have HF := ref_kind (s := s) (k := k) (n := n) hs
          have hcases := rkind_cases (((bl s).drop k).take n)
          have hC := cells3_ext s k n (rkind (((bl s).drop k).take n))
          obtain ⟨K, hK⟩ : ∃ K, K = rkind (((bl s).drop k).take n) := ⟨_, rfl⟩
          rw [← hK] at hst HF hcases hC
          have HC := Lib.hid hC
          obtain ⟨hn1, hkn⟩ := hfit
          clear hn hK hC
          have hac := HI.out.1
          have hsz : w.heap.size + 1 ≤ wr.heap.size := by simpa using hbl.size
          have HErr := fun (h : K = 0) => Lib.hid (inv_err (n := (stp ((bl s).drop k)).2) HI.out (Prod.ext (hst.1.trans h) rfl) (by rw [bl_len]; exact hlt) HL.out)
          have HTok := fun (h : K ≠ 0) => Lib.hid (inv_tok (n := n) HI.out (Prod.ext hst.1 (hst.2 h)) h (by omega))
          have HErrB := Lib.hid HErr
          have HTokB := Lib.hid HTok
          clear HErr HTok hst
          have hK1 : ¬ K = -1 := by omega
          clear hcases
          cases hi1 : inn s[k] with
          | true =>
            have hnw : n = tw inn ((bl s).drop k) := (HWB.out hi1).out
            have HN := Lib.hid (seg_step inn s k)
            rw [← hnw] at HN
            clear HWB H2B H1B hnw
            by_cases hK0 : K = 0
            · subst hK0
              have HE := HErrB.out rfl
              go_wp2_with (go_at_call 91; refine (inn_any _ _).mono ?_; rintro e w' ⟨rfl, rfl⟩)
              go_loop [7] (fun i => ∃ m : Nat, k + 1 ≤ m ∧ m ≤ k + n ∧ i = .int .i64 m) (fun i => s.size - (intOf i).toNat)
              case atStart => exact ⟨k + 1, Nat.le_refl _, by omega, by go_num⟩
              case round =>
                obtain ⟨m, hm1, hm2, rfl⟩ := hrel
                by_cases hms : m < s.size
                · cases hi2 : inn s[m] with
                  | true =>
                    have hmn : m + 1 ≤ k + n := (HN.out m hms (by omega) hm2).1 hi2
                    go_wp2_with (go_at_call 91; refine (inn_any _ _).mono ?_; rintro e w' ⟨rfl, rfl⟩)
                    go_round
                    case rel => exact ⟨m + 1, by omega, hmn, by go_num⟩
                    case measure => simp [intOf]; omega
                  | false =>
                    obtain rfl : m = k + n := (HN.out m hms (by omega) hm2).2 hi2
                    go_wp2_with (first
                      | (go_at_call 91; refine (inn_any _ _).mono ?_; rintro e w' ⟨rfl, rfl⟩)
                      | (go_at_call 92; refine (HF.out _).mono ?_; rintro e w1 ⟨rfl, hb1⟩; have hbl1 := hbl.trans (hb1.mono hsz); obtain ⟨gc0, gc1, gf0, gf1⟩ := fault_cells hbl1))
                    refine bodyPost_ret (by simp [results, Try.results74, go_sem, fault_read0 gc0, fault_read1 gc1]; try rfl) rfl ?_
                    exact ⟨.slice none 0 0, by rw [HE.out.1, HE.out.2.1], by rw [HE.out.2.2]; exact World.ownsRow_nil _ _ _ _, ((fault_below hbl1).setCell (Nat.le_refl _) _).setCell (Nat.le_refl _) _⟩
                · obtain rfl : m = k + n := by omega
                  go_wp2_with (first
                    | (go_at_call 91; refine (inn_any _ _).mono ?_; rintro e w' ⟨rfl, rfl⟩)
                    | (go_at_call 92; refine (HF.out _).mono ?_; rintro e w1 ⟨rfl, hb1⟩; have hbl1 := hbl.trans (hb1.mono hsz); obtain ⟨gc0, gc1, gf0, gf1⟩ := fault_cells hbl1))
                  refine bodyPost_ret (by simp [results, Try.results74, go_sem, fault_read0 gc0, fault_read1 gc1]; try rfl) rfl ?_
                  exact ⟨.slice none 0 0, by rw [HE.out.1, HE.out.2.1], by rw [HE.out.2.2]; exact World.ownsRow_nil _ _ _ _, ((fault_below hbl1).setCell (Nat.le_refl _) _).setCell (Nat.le_refl _) _⟩
            · have HE := HTokB.out hK0
              go_wp2_with (go_at_call 91; refine (inn_any _ _).mono ?_; rintro e w' ⟨rfl, rfl⟩)
              go_loop [7] (fun i => ∃ m : Nat, k + 1 ≤ m ∧ m ≤ k + n ∧ i = .int .i64 m) (fun i => s.size - (intOf i).toNat)
              case atStart => exact ⟨k + 1, Nat.le_refl _, by omega, by go_num⟩
              case round =>
                obtain ⟨m, hm1, hm2, rfl⟩ := hrel
                by_cases hms : m < s.size
                · cases hi2 : inn s[m] with
                  | true =>
                    have hmn : m + 1 ≤ k + n := (HN.out m hms (by omega) hm2).1 hi2
                    go_wp2_with (go_at_call 91; refine (inn_any _ _).mono ?_; rintro e w' ⟨rfl, rfl⟩)
                    go_round
                    case rel => exact ⟨m + 1, by omega, hmn, by go_num⟩
                    case measure => simp [intOf]; omega
                  | false =>
                    obtain rfl : m = k + n := (HN.out m hms (by omega) hm2).2 hi2
                    go_wp2_with (first
                      | (go_at_call 91; refine (inn_any _ _).mono ?_; rintro e w' ⟨rfl, rfl⟩)
                      | (go_at_call 92; refine (HF.out _).mono ?_; rintro e w1 ⟨rfl, hb1⟩; have hown1 := ownsRow_below hown hb1; have hsz1 := hb1.size)
                      | (at_builtin; refine wpList_append_own _ rfl _ _ 103 rfl (w.heap.size + 1) 126 i0 _ 3 32 Try.underlying103 hi hz0 hz1 hz2 rfl (by decide) _ _ _ rfl (hown1.alloc _) ⟨w1.heap.size, 0, none⟩ 1 1 [.int .i64 K, .string (s.extract k (k + n)), .int .i64 k] rfl rfl three_new three_one (by unfold maxLen; omega) (by omega) (by simp; omega) ?_))
                    intro v' w2 hown' hgrow _
                    have R1 : w2.ownsRow (w.heap.size + 1) 126 3 v' (acc ++ [Tok.mk K (((bl s).drop k).take n) k]).length (row3 (acc ++ [Tok.mk K (((bl s).drop k).take n) k])) := by
                      rw [row3_snoc, HC.out, List.length_append]; exact hown'
                    have R2 : Below (w.heap.size + 1) (w.alloc (.cells #[.int .i64 0, .int .i64 0] 91)) w2 :=
                      Below.grown ((hbl.trans (hb1.mono hsz)).alloc (by omega) _) hgrow (by simp; omega) (fun j hj => (hown.lt j hj).1)
                    clear hown' hgrow hown hbl hown1 hb1 hc0 hc1 hf0 hf1
                    go_wp2
                    go_roundw
                    case rel => exact ⟨k + n, _, hkn, by go_num, HE, R1, R2⟩
                    case measure => simp [intOf]; omega
                · obtain rfl : m = k + n := by omega
                  go_wp2_with (first
                    | (go_at_call 91; refine (inn_any _ _).mono ?_; rintro e w' ⟨rfl, rfl⟩)
                    | (go_at_call 92; refine (HF.out _).mono ?_; rintro e w1 ⟨rfl, hb1⟩; have hown1 := ownsRow_below hown hb1; have hsz1 := hb1.size)
                    | (at_builtin; refine wpList_append_own _ rfl _ _ 103 rfl (w.heap.size + 1) 126 i0 _ 3 32 Try.underlying103 hi hz0 hz1 hz2 rfl (by decide) _ _ _ rfl (hown1.alloc _) ⟨w1.heap.size, 0, none⟩ 1 1 [.int .i64 K, .string (s.extract k (k + n)), .int .i64 k] rfl rfl three_new three_one (by unfold maxLen; omega) (by omega) (by simp; omega) ?_))
                  intro v' w2 hown' hgrow _
                  have R1 : w2.ownsRow (w.heap.size + 1) 126 3 v' (acc ++ [Tok.mk K (((bl s).drop k).take n) k]).length (row3 (acc ++ [Tok.mk K (((bl s).drop k).take n) k])) := by
                    rw [row3_snoc, HC.out, List.length_append]; exact hown'
                  have R2 : Below (w.heap.size + 1) (w.alloc (.cells #[.int .i64 0, .int .i64 0] 91)) w2 :=
                    Below.grown ((hbl.trans (hb1.mono hsz)).alloc (by omega) _) hgrow (by simp; omega) (fun j hj => (hown.lt j hj).1)
                  clear hown' hgrow hown hbl hown1 hb1 hc0 hc1 hf0 hf1
                  go_wp2
                  go_roundw
                  case rel => exact ⟨k + n, _, hkn, by go_num, HE, R1, R2⟩
                  case measure => simp [intOf]; omega
          | false =>
          have hcs : (((s[k].toNat : Int) == 45) = true ∧ ∃ h : k + 1 < s.size, ((s[k + 1].toNat : Int) == 62) = true) ∨ ((s[k].toNat : Int) == 45) = false ∨ (((s[k].toNat : Int) == 45) = true ∧ ¬ k + 1 < s.size) ∨
              (((s[k].toNat : Int) == 45) = true ∧ ∃ h : k + 1 < s.size, ((s[k + 1].toNat : Int) == 62) = false) := by
            cases h1 : ((s[k].toNat : Int) == 45) with
            | false => exact .inr (.inl rfl)
            | true =>
              by_cases h2 : k + 1 < s.size
              · cases h3 : ((s[k + 1].toNat : Int) == 62) with
                | true => exact .inl ⟨rfl, h2, h3⟩
                | false => exact .inr (.inr (.inr ⟨rfl, h2, h3⟩))
              · exact .inr (.inr (.inl ⟨rfl, h2⟩))
          rcases hcs with ⟨c1, c2, c3⟩ | hcs
          · obtain rfl : n = 2 := (H2B.out c2 hi1 (by rw [beq_iff_eq] at c1; omega) (by rw [beq_iff_eq] at c3; omega)).out
            clear HWB H2B H1B
            by_cases hK0 : K = 0
            · subst hK0
              have HE := HErrB.out rfl
              go_wp2_with (first
                | (go_at_call 91; refine (inn_any _ _).mono ?_; rintro e w' ⟨rfl, rfl⟩)
                | (go_at_call 92; refine (HF.out _).mono ?_; rintro e w1 ⟨rfl, hb1⟩; have hbl1 := hbl.trans (hb1.mono hsz); obtain ⟨gc0, gc1, gf0, gf1⟩ := fault_cells hbl1))
              refine bodyPost_ret (by simp [results, Try.results74, go_sem, fault_read0 gc0, fault_read1 gc1]; try rfl) rfl ?_
              exact ⟨.slice none 0 0, by rw [HE.out.1, HE.out.2.1], by rw [HE.out.2.2]; exact World.ownsRow_nil _ _ _ _, ((fault_below hbl1).setCell (Nat.le_refl _) _).setCell (Nat.le_refl _) _⟩
            have HE := HTokB.out hK0
            go_wp2_with (first
              | (go_at_call 91; refine (inn_any _ _).mono ?_; rintro e w' ⟨rfl, rfl⟩)
              | (go_at_call 92; refine (HF.out _).mono ?_; rintro e w1 ⟨rfl, hb1⟩; have hown1 := ownsRow_below hown hb1; have hsz1 := hb1.size)
              | (at_builtin; refine wpList_append_own _ rfl _ _ 103 rfl (w.heap.size + 1) 126 i0 _ 3 32 Try.underlying103 hi hz0 hz1 hz2 rfl (by decide) _ _ _ rfl (hown1.alloc _) ⟨w1.heap.size, 0, none⟩ 1 1 [.int .i64 K, .string (s.extract k (k + 2)), .int .i64 k] rfl rfl three_new three_one (by unfold maxLen; omega) (by omega) (by simp; omega) ?_))
            intro v' w2 hown' hgrow _
            have R1 : w2.ownsRow (w.heap.size + 1) 126 3 v' (acc ++ [Tok.mk K (((bl s).drop k).take 2) k]).length (row3 (acc ++ [Tok.mk K (((bl s).drop k).take 2) k])) := by
              rw [row3_snoc, HC.out, List.length_append]; exact hown'
            have R2 : Below (w.heap.size + 1) (w.alloc (.cells #[.int .i64 0, .int .i64 0] 91)) w2 :=
              Below.grown ((hbl.trans (hb1.mono hsz)).alloc (by omega) _) hgrow (by simp; omega) (fun j hj => (hown.lt j hj).1)
            clear hown' hgrow hown hbl hown1 hb1 hc0 hc1 hf0 hf1
            go_wp2
            go_roundw
            case rel => exact ⟨k + 2, _, hkn, by go_num, HE, R1, R2⟩
            case measure => simp [intOf]; omega
          have h1n : n = 1 := by
            refine (H1B.out hi1 ?_).out
            rintro ⟨e1, e2, e3⟩
            rcases hcs with h | ⟨h, h'⟩ | ⟨h, h', h''⟩
            · rw [beq_eq_false_iff_ne] at h; omega
            · exact h' e2
            · rw [beq_eq_false_iff_ne] at h''; omega
          subst h1n
          clear HWB H2B H1B
          rcases hcs with c1 | ⟨c1, c2⟩ | ⟨c1, c2, c3⟩
          all_goals
            by_cases hK0 : K = 0
            · subst hK0
              have HE := HErrB.out rfl
              go_wp2_with (first
                | (go_at_call 91; refine (inn_any _ _).mono ?_; rintro e w' ⟨rfl, rfl⟩)
                | (go_at_call 92; refine (HF.out _).mono ?_; rintro e w1 ⟨rfl, hb1⟩; have hbl1 := hbl.trans (hb1.mono hsz); obtain ⟨gc0, gc1, gf0, gf1⟩ := fault_cells hbl1))
              refine bodyPost_ret (by simp [results, Try.results74, go_sem, fault_read0 gc0, fault_read1 gc1]; try rfl) rfl ?_
              exact ⟨.slice none 0 0, by rw [HE.out.1, HE.out.2.1], by rw [HE.out.2.2]; exact World.ownsRow_nil _ _ _ _, ((fault_below hbl1).setCell (Nat.le_refl _) _).setCell (Nat.le_refl _) _⟩
            have HE := HTokB.out hK0
            go_wp2_with (first
              | (go_at_call 91; refine (inn_any _ _).mono ?_; rintro e w' ⟨rfl, rfl⟩)
              | (go_at_call 92; refine (HF.out _).mono ?_; rintro e w1 ⟨rfl, hb1⟩; have hown1 := ownsRow_below hown hb1; have hsz1 := hb1.size)
              | (at_builtin; refine wpList_append_own _ rfl _ _ 103 rfl (w.heap.size + 1) 126 i0 _ 3 32 Try.underlying103 hi hz0 hz1 hz2 rfl (by decide) _ _ _ rfl (hown1.alloc _) ⟨w1.heap.size, 0, none⟩ 1 1 [.int .i64 K, .string (s.extract k (k + 1)), .int .i64 k] rfl rfl three_new three_one (by unfold maxLen; omega) (by omega) (by simp; omega) ?_))
            intro v' w2 hown' hgrow _
            have R1 : w2.ownsRow (w.heap.size + 1) 126 3 v' (acc ++ [Tok.mk K (((bl s).drop k).take 1) k]).length (row3 (acc ++ [Tok.mk K (((bl s).drop k).take 1) k])) := by
              rw [row3_snoc, HC.out, List.length_append]; exact hown'
            have R2 : Below (w.heap.size + 1) (w.alloc (.cells #[.int .i64 0, .int .i64 0] 91)) w2 :=
              Below.grown ((hbl.trans (hb1.mono hsz)).alloc (by omega) _) hgrow (by simp; omega) (fun j hj => (hown.lt j hj).1)
            clear hown' hgrow hown hbl hown1 hb1 hc0 hc1 hf0 hf1
            go_wp2
            go_roundw
            case rel => exact ⟨k + 1, _, hkn, by go_num, HE, R1, R2⟩
            case measure => simp [intOf]; omega
      · obtain rfl : k = s.size := by omega
        have HE := Lib.hid (inv_end HI.out (bl_len s).symm (by rw [bl_len]; exact hbig))
        go_wp2
        refine bodyPost_ret (by simp [results, Try.results74, go_sem, fault_read0 hc0, fault_read1 hc1]; try rfl) rfl ?_
        exact ⟨_, by rw [HE.out.1, HE.out.2.1], by rw [HE.out.2.2]; exact ownsRow_setCell_below (ownsRow_setCell_below hown (by simp) _) (by simp) _, ((fault_below hbl).setCell (Nat.le_refl _) _).setCell (Nat.le_refl _) _⟩
end Go.Proofs.Ytahiefgfhpkoeaa
