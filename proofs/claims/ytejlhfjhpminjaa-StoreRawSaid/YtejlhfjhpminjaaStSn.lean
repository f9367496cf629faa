/- Stores: the law's same, of two values of one store. -/
import Derived.Test.YtejlhfjhpminjaaStSm
namespace Go.Proofs.Ytejlhfjhpminjaa
open Go.RowKit Go.Sort Go.Shelf Go.Maps Mth

set_option maxRecDepth 100000 in
set_option maxHeartbeats 12000000 in
theorem same16_any (s : Sto) (v v' : Value) (S : Nat → Prop) (w : World) (h : StoR w S s v) (h' : StoR w S s v') (h1 : s.slots.length ≤ 1000000000) (h2 : s.trail.length ≤ 1000000000) : Calls Try.prog 17 #[v, v'] w fun e w' => e = .returned (.bool true) ∧ Below w.heap.size w w' := by
  obtain ⟨sa, sc, ta, tc, rfl, hsl, htr⟩ := h
  obtain ⟨sb, sd, tb, td, rfl, hsl', htr'⟩ := h'
  obtain ⟨V, hV⟩ : ∃ V, V = (w.alloc (.cells #[.slice sa s.slots.length sc, .slice ta s.trail.length tc] 27)).alloc (.cells #[.slice sb s.slots.length sd, .slice tb s.trail.length td] 27) := ⟨_, rfl⟩
  have hVb : Below w.heap.size w V := by rw [hV]; exact ((Below.refl _ w).alloc (Nat.le_refl _) _).alloc (by simp) _
  have hB1 : BoxC 27 V w.heap.size [.slice sa s.slots.length sc, .slice ta s.trail.length tc] := by unfold BoxC; rw [hV, heap_at, if_neg (by simp), heap_at, if_pos rfl]
  have hB2 : BoxC 27 V (w.heap.size + 1) [.slice sb s.slots.length sd, .slice tb s.trail.length td] := by unfold BoxC; rw [hV, heap_at, if_pos (by simp)]
  obtain ⟨n, hn⟩ : ∃ n, n = s.slots.length := ⟨_, rfl⟩
  obtain ⟨m, hm⟩ : ∃ n, n = s.trail.length := ⟨_, rfl⟩
  rw [← hn] at h1 hsl hsl' hV hB1 hB2 ⊢
  rw [← hm] at h2 htr htr' hV hB1 hB2 ⊢
  have HB1 := Lib.hid hB1
  have HB2 := Lib.hid hB2
  have HVb := Lib.hid hVb
  have HS := Lib.hid (hsl.up hVb)
  have HT := Lib.hid (htr.up hVb)
  have HS' := Lib.hid (hsl'.up hVb)
  have HT' := Lib.hid (htr'.up hVb)
  have HN := Lib.hid hn
  have HM := Lib.hid hm
  have c0 := hB1.cell 0 _ rfl
  have c1 := hB1.cell 1 _ rfl
  have d0 := hB2.cell 0 _ rfl
  have d1 := hB2.cell 1 _ rfl
  clear hB1 hB2 hsl htr hsl' htr' hn hm
  go_enter Try.func17, Try.ntmps17
  go_upto_region 1 with fail
  rw [← hV]
  clear hV
  go_wp2
  clear c0 c1 d0 d1
  go_loopw [5] (fun x wr => ∃ j : Nat, j ≤ n ∧ x = .int .i64 j ∧ Hid (Below V.heap.size V wr)) (fun x _ => n - (intOf x).toNat)
  case atStart => exact ⟨0, Nat.zero_le _, rfl, Below.refl _ _⟩
  case round =>
    obtain ⟨j, hj, rfl, HD⟩ := hrel
    have c0 := (HB1.out.lift HD.out).cell 0 _ rfl
    have d0 := (HB2.out.lift HD.out).cell 0 _ rfl
    have hVs := HVb.out.size
    by_cases hlt : j < n
    · have hji : (j : Int) < (n : Int) := by omega
      obtain ⟨x, hx⟩ : ∃ x, s.slots[j]? = some x := ⟨_, List.getElem?_eq_getElem (by rw [← HN.out]; exact hlt)⟩
      obtain ⟨ad, pk, pn, pi, ph, pa, pm, pc, rfl, -, hr, g0, g1, g2, g3, g4, g5, g6, g7⟩ := slt_at (HS.out.up HD.out) hx
      obtain ⟨bd, qk, qn, qi, qh, qa, qm, qc, rfl, -, hr', k0, k1, k2, k3, k4, k5, k6, k7⟩ := slt_at (HS'.out.up HD.out) hx
      have HC : Hid (∀ W, Below wr.heap.size wr W → Calls Try.prog 36 #[.agg #[.bool x.bound, .int .i64 pk, .string pn, .int .i64 pi, .int .i64 ph, .slice pa pm pc, .int .i64 x.home, .bool x.base], .agg #[.bool x.bound, .int .i64 qk, .string qn, .int .i64 qi, .int .i64 qh, .slice qa qm qc, .int .i64 x.home, .bool x.base]] W fun e w' => e = .returned (.bool true) ∧ Below W.heap.size W w') := fun W hb => sameSlot_any x S W pk qk pn qn pi qi ph qh pa qa pm qm pc qc (hr.lift hb) (hr'.lift hb)
      have HK : Hid (∀ W', Below wr.heap.size wr W' → W'.cell? ⟨w.heap.size, 0, none⟩ = some (.slice (some ad) n sc) ∧ W'.cell? ⟨w.heap.size + 1, 0, none⟩ = some (.slice (some bd) n sd) ∧ W'.cell? (ad.add (j * 8)) = some (.bool x.bound) ∧ W'.cell? ⟨(ad.add (j * 8)).block, (ad.add (j * 8)).off + 1, none⟩ = some (.int .i64 pk) ∧ W'.cell? ⟨(ad.add (j * 8)).block, (ad.add (j * 8)).off + 2, none⟩ = some (.string pn) ∧ W'.cell? ⟨(ad.add (j * 8)).block, (ad.add (j * 8)).off + 3, none⟩ = some (.int .i64 pi) ∧ W'.cell? ⟨(ad.add (j * 8)).block, (ad.add (j * 8)).off + 4, none⟩ = some (.int .i64 ph) ∧ W'.cell? ⟨(ad.add (j * 8)).block, (ad.add (j * 8)).off + 5, none⟩ = some (.slice pa pm pc) ∧ W'.cell? ⟨(ad.add (j * 8)).block, (ad.add (j * 8)).off + 6, none⟩ = some (.int .i64 x.home) ∧ W'.cell? ⟨(ad.add (j * 8)).block, (ad.add (j * 8)).off + 7, none⟩ = some (.bool x.base) ∧ W'.cell? (bd.add (j * 8)) = some (.bool x.bound) ∧ W'.cell? ⟨(bd.add (j * 8)).block, (bd.add (j * 8)).off + 1, none⟩ = some (.int .i64 qk) ∧ W'.cell? ⟨(bd.add (j * 8)).block, (bd.add (j * 8)).off + 2, none⟩ = some (.string qn) ∧ W'.cell? ⟨(bd.add (j * 8)).block, (bd.add (j * 8)).off + 3, none⟩ = some (.int .i64 qi) ∧ W'.cell? ⟨(bd.add (j * 8)).block, (bd.add (j * 8)).off + 4, none⟩ = some (.int .i64 qh) ∧ W'.cell? ⟨(bd.add (j * 8)).block, (bd.add (j * 8)).off + 5, none⟩ = some (.slice qa qm qc) ∧ W'.cell? ⟨(bd.add (j * 8)).block, (bd.add (j * 8)).off + 6, none⟩ = some (.int .i64 x.home) ∧ W'.cell? ⟨(bd.add (j * 8)).block, (bd.add (j * 8)).off + 7, none⟩ = some (.bool x.base)) := fun W' hb => by
        have kk : ∀ p v, wr.cell? p = some v → W'.cell? p = some v := fun p v h => (hb.cell (World.block_lt_of_cell? _ _ h)).trans h
        exact ⟨kk _ _ c0, kk _ _ d0, kk _ _ g0, kk _ _ g1, kk _ _ g2, kk _ _ g3, kk _ _ g4, kk _ _ g5, kk _ _ g6, kk _ _ g7, kk _ _ k0, kk _ _ k1, kk _ _ k2, kk _ _ k3, kk _ _ k4, kk _ _ k5, kk _ _ k6, kk _ _ k7⟩
      have HE0 : Hid (Below wr.heap.size wr wr.drew) := (Below.refl _ wr).drew
      clear hx hr hr' g0 g1 g2 g3 g4 g5 g6 g7 k0 k1 k2 k3 k4 k5 k6 k7
      go_upto_region 6 with fail
      clear c0 d0
      go_region_held3 (fun W' => W'.cell? ⟨w.heap.size, 0, none⟩ = some (.slice (some ad) n sc) ∧ W'.cell? ⟨w.heap.size + 1, 0, none⟩ = some (.slice (some bd) n sd) ∧ W'.cell? (ad.add (j * 8)) = some (.bool x.bound) ∧ W'.cell? ⟨(ad.add (j * 8)).block, (ad.add (j * 8)).off + 1, none⟩ = some (.int .i64 pk) ∧ W'.cell? ⟨(ad.add (j * 8)).block, (ad.add (j * 8)).off + 2, none⟩ = some (.string pn) ∧ W'.cell? ⟨(ad.add (j * 8)).block, (ad.add (j * 8)).off + 3, none⟩ = some (.int .i64 pi) ∧ W'.cell? ⟨(ad.add (j * 8)).block, (ad.add (j * 8)).off + 4, none⟩ = some (.int .i64 ph) ∧ W'.cell? ⟨(ad.add (j * 8)).block, (ad.add (j * 8)).off + 5, none⟩ = some (.slice pa pm pc) ∧ W'.cell? ⟨(ad.add (j * 8)).block, (ad.add (j * 8)).off + 6, none⟩ = some (.int .i64 x.home) ∧ W'.cell? ⟨(ad.add (j * 8)).block, (ad.add (j * 8)).off + 7, none⟩ = some (.bool x.base) ∧ W'.cell? (bd.add (j * 8)) = some (.bool x.bound) ∧ W'.cell? ⟨(bd.add (j * 8)).block, (bd.add (j * 8)).off + 1, none⟩ = some (.int .i64 qk) ∧ W'.cell? ⟨(bd.add (j * 8)).block, (bd.add (j * 8)).off + 2, none⟩ = some (.string qn) ∧ W'.cell? ⟨(bd.add (j * 8)).block, (bd.add (j * 8)).off + 3, none⟩ = some (.int .i64 qi) ∧ W'.cell? ⟨(bd.add (j * 8)).block, (bd.add (j * 8)).off + 4, none⟩ = some (.int .i64 qh) ∧ W'.cell? ⟨(bd.add (j * 8)).block, (bd.add (j * 8)).off + 5, none⟩ = some (.slice qa qm qc) ∧ W'.cell? ⟨(bd.add (j * 8)).block, (bd.add (j * 8)).off + 6, none⟩ = some (.int .i64 x.home) ∧ W'.cell? ⟨(bd.add (j * 8)).block, (bd.add (j * 8)).off + 7, none⟩ = some (.bool x.base))
        (first
          | with_reducible exact HK.out y1 HE1.out
          | with_reducible exact HK.out wr.drew HE0.out)
        (first
          | (go_at_call 36; (with_reducible refine (HC.out wr.drew HE0.out).mono ?_); rintro e y1 ⟨rfl, hb⟩; have HE1 := Lib.hid (RowKit.Below.trans HE0.out (RowKit.Below.mono hb (RowKit.Below.size HE0.out))); clear hb))
      all_goals
        go_wp2
        go_roundw
        case rel => exact ⟨j + 1, hlt, by go_num, HD.out.trans (HE1.out.mono HD.out.size)⟩
        case measure => simp [intOf]; omega
    · go_wp2
      clear c0 d0
      generalize wr = wo at *
      go_loopw [6] (fun x wx => ∃ j : Nat, j ≤ m ∧ x = .int .i64 j ∧ Hid (Below V.heap.size V wx)) (fun x _ => m - (intOf x).toNat)
      case atStart => exact ⟨0, Nat.zero_le _, rfl, HD⟩
      case round =>
        clear HD
        obtain ⟨j, hj, rfl, HD⟩ := hrel
        have c1 := (HB1.out.lift HD.out).cell 1 _ rfl
        have d1 := (HB2.out.lift HD.out).cell 1 _ rfl
        by_cases hlt2 : j < m
        · have hji : (j : Int) < (m : Int) := by omega
          obtain ⟨x, hx⟩ : ∃ x, s.trail[j]? = some x := ⟨_, List.getElem?_eq_getElem (by rw [← HM.out]; exact hlt2)⟩
          obtain ⟨ad, pk, pn, pi, ph, pa, pm, pc, rfl, -, hr, g0, g1, g2, g3, g4, g5, g6, g7, g8, g9⟩ := chg_at (HT.out.up HD.out) hx
          obtain ⟨bd, qk, qn, qi, qh, qa, qm, qc, rfl, -, hr', k0, k1, k2, k3, k4, k5, k6, k7, k8, k9⟩ := chg_at (HT'.out.up HD.out) hx
          have HC : Hid (∀ W, Below wr.heap.size wr W → Calls Try.prog 36 #[.agg #[.bool x.old.bound, .int .i64 pk, .string pn, .int .i64 pi, .int .i64 ph, .slice pa pm pc, .int .i64 x.old.home, .bool x.old.base], .agg #[.bool x.old.bound, .int .i64 qk, .string qn, .int .i64 qi, .int .i64 qh, .slice qa qm qc, .int .i64 x.old.home, .bool x.old.base]] W fun e w' => e = .returned (.bool true) ∧ Below W.heap.size W w') := fun W hb => sameSlot_any x.old S W pk qk pn qn pi qi ph qh pa qa pm qm pc qc (hr.lift hb) (hr'.lift hb)
          have HK : Hid (∀ W', Below wr.heap.size wr W' → W'.cell? ⟨w.heap.size, 1, none⟩ = some (.slice (some ad) m tc) ∧ W'.cell? ⟨w.heap.size + 1, 1, none⟩ = some (.slice (some bd) m td) ∧ W'.cell? (ad.add (j * 10)) = some (.int .i64 x.id) ∧ W'.cell? ⟨(ad.add (j * 10)).block, (ad.add (j * 10)).off + 1, none⟩ = some (.bool x.old.bound) ∧ W'.cell? ⟨(ad.add (j * 10)).block, (ad.add (j * 10)).off + 2, none⟩ = some (.int .i64 pk) ∧ W'.cell? ⟨(ad.add (j * 10)).block, (ad.add (j * 10)).off + 3, none⟩ = some (.string pn) ∧ W'.cell? ⟨(ad.add (j * 10)).block, (ad.add (j * 10)).off + 4, none⟩ = some (.int .i64 pi) ∧ W'.cell? ⟨(ad.add (j * 10)).block, (ad.add (j * 10)).off + 5, none⟩ = some (.int .i64 ph) ∧ W'.cell? ⟨(ad.add (j * 10)).block, (ad.add (j * 10)).off + 6, none⟩ = some (.slice pa pm pc) ∧ W'.cell? ⟨(ad.add (j * 10)).block, (ad.add (j * 10)).off + 7, none⟩ = some (.int .i64 x.old.home) ∧ W'.cell? ⟨(ad.add (j * 10)).block, (ad.add (j * 10)).off + 8, none⟩ = some (.bool x.old.base) ∧ W'.cell? ⟨(ad.add (j * 10)).block, (ad.add (j * 10)).off + 9, none⟩ = some (.bool x.new) ∧ W'.cell? (bd.add (j * 10)) = some (.int .i64 x.id) ∧ W'.cell? ⟨(bd.add (j * 10)).block, (bd.add (j * 10)).off + 1, none⟩ = some (.bool x.old.bound) ∧ W'.cell? ⟨(bd.add (j * 10)).block, (bd.add (j * 10)).off + 2, none⟩ = some (.int .i64 qk) ∧ W'.cell? ⟨(bd.add (j * 10)).block, (bd.add (j * 10)).off + 3, none⟩ = some (.string qn) ∧ W'.cell? ⟨(bd.add (j * 10)).block, (bd.add (j * 10)).off + 4, none⟩ = some (.int .i64 qi) ∧ W'.cell? ⟨(bd.add (j * 10)).block, (bd.add (j * 10)).off + 5, none⟩ = some (.int .i64 qh) ∧ W'.cell? ⟨(bd.add (j * 10)).block, (bd.add (j * 10)).off + 6, none⟩ = some (.slice qa qm qc) ∧ W'.cell? ⟨(bd.add (j * 10)).block, (bd.add (j * 10)).off + 7, none⟩ = some (.int .i64 x.old.home) ∧ W'.cell? ⟨(bd.add (j * 10)).block, (bd.add (j * 10)).off + 8, none⟩ = some (.bool x.old.base) ∧ W'.cell? ⟨(bd.add (j * 10)).block, (bd.add (j * 10)).off + 9, none⟩ = some (.bool x.new)) := fun W' hb => by
            have kk : ∀ p v, wr.cell? p = some v → W'.cell? p = some v := fun p v h => (hb.cell (World.block_lt_of_cell? _ _ h)).trans h
            exact ⟨kk _ _ c1, kk _ _ d1, kk _ _ g0, kk _ _ g1, kk _ _ g2, kk _ _ g3, kk _ _ g4, kk _ _ g5, kk _ _ g6, kk _ _ g7, kk _ _ g8, kk _ _ g9, kk _ _ k0, kk _ _ k1, kk _ _ k2, kk _ _ k3, kk _ _ k4, kk _ _ k5, kk _ _ k6, kk _ _ k7, kk _ _ k8, kk _ _ k9⟩
          have HE0 : Hid (Below wr.heap.size wr wr.drew) := (Below.refl _ wr).drew
          clear hx hr hr' g0 g1 g2 g3 g4 g5 g6 g7 g8 g9 k0 k1 k2 k3 k4 k5 k6 k7 k8 k9
          go_upto_region 11 with fail
          clear c1 d1
          go_region_held3 (fun W' => W'.cell? ⟨w.heap.size, 1, none⟩ = some (.slice (some ad) m tc) ∧ W'.cell? ⟨w.heap.size + 1, 1, none⟩ = some (.slice (some bd) m td) ∧ W'.cell? (ad.add (j * 10)) = some (.int .i64 x.id) ∧ W'.cell? ⟨(ad.add (j * 10)).block, (ad.add (j * 10)).off + 1, none⟩ = some (.bool x.old.bound) ∧ W'.cell? ⟨(ad.add (j * 10)).block, (ad.add (j * 10)).off + 2, none⟩ = some (.int .i64 pk) ∧ W'.cell? ⟨(ad.add (j * 10)).block, (ad.add (j * 10)).off + 3, none⟩ = some (.string pn) ∧ W'.cell? ⟨(ad.add (j * 10)).block, (ad.add (j * 10)).off + 4, none⟩ = some (.int .i64 pi) ∧ W'.cell? ⟨(ad.add (j * 10)).block, (ad.add (j * 10)).off + 5, none⟩ = some (.int .i64 ph) ∧ W'.cell? ⟨(ad.add (j * 10)).block, (ad.add (j * 10)).off + 6, none⟩ = some (.slice pa pm pc) ∧ W'.cell? ⟨(ad.add (j * 10)).block, (ad.add (j * 10)).off + 7, none⟩ = some (.int .i64 x.old.home) ∧ W'.cell? ⟨(ad.add (j * 10)).block, (ad.add (j * 10)).off + 8, none⟩ = some (.bool x.old.base) ∧ W'.cell? ⟨(ad.add (j * 10)).block, (ad.add (j * 10)).off + 9, none⟩ = some (.bool x.new) ∧ W'.cell? (bd.add (j * 10)) = some (.int .i64 x.id) ∧ W'.cell? ⟨(bd.add (j * 10)).block, (bd.add (j * 10)).off + 1, none⟩ = some (.bool x.old.bound) ∧ W'.cell? ⟨(bd.add (j * 10)).block, (bd.add (j * 10)).off + 2, none⟩ = some (.int .i64 qk) ∧ W'.cell? ⟨(bd.add (j * 10)).block, (bd.add (j * 10)).off + 3, none⟩ = some (.string qn) ∧ W'.cell? ⟨(bd.add (j * 10)).block, (bd.add (j * 10)).off + 4, none⟩ = some (.int .i64 qi) ∧ W'.cell? ⟨(bd.add (j * 10)).block, (bd.add (j * 10)).off + 5, none⟩ = some (.int .i64 qh) ∧ W'.cell? ⟨(bd.add (j * 10)).block, (bd.add (j * 10)).off + 6, none⟩ = some (.slice qa qm qc) ∧ W'.cell? ⟨(bd.add (j * 10)).block, (bd.add (j * 10)).off + 7, none⟩ = some (.int .i64 x.old.home) ∧ W'.cell? ⟨(bd.add (j * 10)).block, (bd.add (j * 10)).off + 8, none⟩ = some (.bool x.old.base) ∧ W'.cell? ⟨(bd.add (j * 10)).block, (bd.add (j * 10)).off + 9, none⟩ = some (.bool x.new))
            (first
              | with_reducible exact HK.out y1 HE1.out
              | with_reducible exact HK.out wr.drew HE0.out)
            (first
              | (go_at_call 36; (with_reducible refine (HC.out wr.drew HE0.out).mono ?_); rintro e y1 ⟨rfl, hb⟩; have HE1 := Lib.hid (RowKit.Below.trans HE0.out (RowKit.Below.mono hb (RowKit.Below.size HE0.out))); clear hb))
          all_goals
            go_wp2
            go_roundw
            case rel => exact ⟨j + 1, hlt2, by go_num, HD.out.trans (HE1.out.mono HD.out.size)⟩
            case measure => simp [intOf]; omega
        · go_wp2
          go_ret
          exact ⟨rfl, HVb.out.trans (HD.out.mono hVs)⟩
end Go.Proofs.Ytejlhfjhpminjaa
