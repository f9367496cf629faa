/- Stores: the reference's cyclic, walked. -/
import Derived.Test.YtejlhfjhpminjaaStCy
namespace Go.Proofs.Ytejlhfjhpminjaa
open Go.RowKit Go.Sort Go.Shelf Go.Maps Mth

set_option maxRecDepth 100000 in
set_option maxHeartbeats 12000000 in
theorem cyclic_of (sl : List Slt) (_hn9 : sl.length ≤ 1000) (hV : VarsIn sl) (z : Nat) (ih : ∀ y, y < z → CyAt Try.prog 33 sl y) : CyAt Try.prog 33 sl z := by
  intro zs i sa sc ta tn tc g fr w hz hzl hi hs hg
  obtain ⟨n, hn⟩ : ∃ n, n = sl.length := ⟨_, rfl⟩
  rw [← hn] at hzl hi hs _hn9 ⊢
  obtain ⟨V, hVe⟩ : ∃ V, V = w.alloc (.cells #[.slice sa n sc, .slice ta tn tc] 27) := ⟨_, rfl⟩
  have hVb : Below w.heap.size w V := by rw [hVe]; exact (Below.refl _ w).alloc (Nat.le_refl _) _
  have hB1 : BoxC 27 V w.heap.size [.slice sa n sc, .slice ta tn tc] := by rw [hVe]; exact BoxC.made _ w _
  have HB := Lib.hid hB1
  have HVb := Lib.hid hVb
  have HS := Lib.hid (hs.up hVb)
  have HG := Lib.hid (hg.lift hVb)
  have HGl : Hid (g < w.heap.size) := hg.lt
  have HN := Lib.hid hn
  have HZl := Lib.hid hzl
  have HIH : Hid (∀ y, y < z → CyAt Try.prog 33 sl y) := ih
  have HVi : Hid (VarsIn sl) := hV
  have HZz := Lib.hid hz
  have hii : (i : Int) < (n : Int) := by omega
  obtain ⟨x, hx⟩ : ∃ x, sl[i]? = some x := ⟨_, List.getElem?_eq_getElem (by rw [← hn]; exact hi)⟩
  obtain ⟨ad, k', nm', i', hm', a', n', c', rfl, -, hr, g0, g1, g2, g3, g4, g5, -, -⟩ := slt_at HS.out hx
  have HR := Lib.hid hr
  have c0 := hB1.cell 0 _ rfl
  have c1 := hB1.cell 1 _ rfl
  have HXv := Lib.hid (HVi.out x (List.mem_of_getElem? hx))
  clear hs hg hB1 hx hr ih hV hn hzl hz hi
  cases hxb : x.bound with
  | false =>
    rw [hxb] at g0
    clear hxb
    go_enter Try.func33, Try.ntmps33
    go_upto_region 1 with fail
    rw [← hVe]
    clear hVe
    go_wp2
    go_ret
    exact ⟨false, zs, rfl, HZl.out, Nat.le_refl _, HG.out, grown_of_below hVb _⟩
  | true =>
    rw [hxb] at g0
    have HXv2 := Lib.hid (HXv.out hxb)
    clear hxb HXv
    go_enter Try.func33, Try.ntmps33
    go_upto_region 1 with fail
    rw [← hVe]
    clear hVe
    have HL1 := Lib.hid (fun Z => list_one (T := x.ty) Z HR.out)
    have hal : ∀ o, Below V.heap.size V (V.alloc o) := fun o => (Below.refl _ V).alloc (Nat.le_refl _) o
    have HVr : Hid (∀ Z, Calls Try.prog 32 #[.slice (some ⟨V.heap.size, 0, none⟩) 1 1] (V.alloc (.cells #[.int .i64 k', .string nm', .int .i64 i', .int .i64 hm', .slice a' n' c'] Z)) fun e w' => ∃ v, e = .returned v ∧ RowI w' (V.alloc (.cells #[.int .i64 k', .string nm', .int .i64 i', .int .i64 hm', .slice a' n' c'] Z)).heap.size v (vids x.ty) ∧ Below (V.alloc (.cells #[.int .i64 k', .string nm', .int .i64 i', .int .i64 hm', .slice a' n' c'] Z)).heap.size (V.alloc (.cells #[.int .i64 k', .string nm', .int .i64 i', .int .i64 hm', .slice a' n' c'] Z)) w') := fun Z => varR_row [x.ty] _ _ _ (by simp [nodesL]; have := HXv2.out.1; omega) (HL1.out Z)
    have hVs := HVb.out.size
    go_wp2_with fail
    go_at_call 32
    refine (HVr.out _).mono ?_
    rintro e w1 ⟨v, rfl, hrow, hb1⟩
    have hb01 : Below V.heap.size V w1 := (hal _).trans (hb1.mono (hal _).size)
    have hsl := hrow.slice
    obtain ⟨va, vc, rfl, hvl, hvc⟩ := hsl
    have HW0 : Hid (CySt w sl n (some ad) sc (.slice ta tn tc) g (.slice va (vids x.ty).length vc) (vids x.ty) zs zs w1) := ⟨HG.out.lift hb01, HZl.out, Nat.le_refl _, hrow.base (by have := HGl.out; have := (hal (.cells #[.int .i64 k', .string nm', .int .i64 i', .int .i64 hm', .slice a' n' c'] 31)).size; simp; omega), HB.out.lift hb01, HS.out.up hb01, grown_of_below (HVb.out.trans (hb01.mono hVs)) _, HGl.out⟩
    clear hb01 hrow hb1 hvl hvc g0 g1 g2 g3 g4 g5 c0 c1 hal HR HL1 HVr HG HB HS
    obtain ⟨ids, hids⟩ : ∃ l, l = vids x.ty := ⟨_, rfl⟩
    rw [← hids] at HW0 HXv2 ⊢
    obtain ⟨vn, hvn⟩ : ∃ n, n = ids.length := ⟨_, rfl⟩
    rw [← hvn] at HW0 ⊢
    have HVn := Lib.hid hvn
    clear hids hvn
    have hvmx : vn ≤ 9223372036854775807 := by
      obtain ⟨a, c, e, h1, h2⟩ := HW0.out.row.slice
      have := HVn.out
      unfold maxLen at h2
      omega
    go_wp2
    go_loopw [10] (fun y wr => ∃ (k : Nat) (zs' : List Int), k ≤ vn ∧ y = .int .i64 k ∧ Hid (CySt w sl n (some ad) sc (.slice ta tn tc) g (.slice va vn vc) ids zs zs' wr)) (fun y _ => vn - (intOf y).toNat)
    case atStart => exact ⟨0, zs, Nat.zero_le _, rfl, HW0⟩
    case round =>
      clear HW0
      obtain ⟨k, zs', hk, rfl, HC⟩ := hrel
      by_cases hlt : k < vn
      · have hki : (k : Int) < (vn : Int) := by omega
        obtain ⟨u, hu⟩ : ∃ u, ids[k]? = some u := ⟨_, List.getElem?_eq_getElem (by rw [← HVn.out]; exact hlt)⟩
        obtain ⟨hu0, hu1⟩ := HXv2.out.2 u (List.mem_of_getElem? hu)
        rw [← HN.out] at hu1
        obtain ⟨q, hq⟩ : ∃ q : Nat, u = (q : Int) := ⟨u.toNat, by omega⟩
        subst hq
        have hqn : q < n := by omega
        obtain ⟨va', vc', e', -, -, hvj⟩ := HC.out.row.ints
        simp only [Value.slice.injEq] at e'
        obtain ⟨rfl, -, rfl⟩ := e'
        obtain ⟨vad, rfl, hvk⟩ := hvj k _ hu
        obtain ⟨y0, hy0⟩ : ∃ y, zs'[q]? = some y := ⟨_, List.getElem?_eq_getElem (by rw [HC.out.len]; exact hqn)⟩
        have hseen : wr.cell? ⟨g, q, none⟩ = some (.int .i64 y0) := HC.out.seen.cell q _ (by rw [List.getElem?_map, hy0]; rfl)
        have hfree := HC.out.seen.free q
        have HY := Lib.hid hy0
        have HU := Lib.hid hu
        clear hvj hu hy0 hu0
        by_cases hfr : (q : Int) = fr
        · go_wp2
          go_ret
          exact ⟨true, zs', rfl, HC.out.len, HC.out.le, HC.out.seen, HC.out.grown⟩
        · by_cases hy : y0 = 0
          · subst hy
            have hzz := zeros_set HY.out
            have HCx : Hid (CySt w sl n (some ad) sc (.slice ta tn tc) g (.slice (some vad) vn vc) ids zs (zs'.set q 1) (wr.setCell ⟨g, q, none⟩ (.int .i64 1))) := by
              obtain ⟨h1, h2, h3⟩ := HC.out.seen.set q (.int .i64 1)
              refine HC.out.step ?_ (by rw [List.length_set]; exact HC.out.len) (by omega) h2
              rw [List.map_set]
              exact h1
            have hzlt : zeros (zs'.set q 1) < z := by have := HC.out.le; have := HZz.out; omega
            go_upto_region 11 with fail
            clear hseen hfree hvk HC HY hzz
            generalize (wr.setCell ⟨g, q, none⟩ (.int .i64 1)) = x1 at *
            generalize zs'.set q 1 = zs2 at *
            have HD0 : Hid (CySt w sl n (some ad) sc (.slice ta tn tc) g (.slice (some vad) vn vc) ids zs zs2 x1.drew) := by
              have hb : Below x1.heap.size x1 x1.drew := (Below.refl _ x1).drew
              exact HCx.out.step (HCx.out.seen.lift hb) HCx.out.len (Nat.le_refl _) (grown_of_below hb _)
            have hkid : Hid (ids[k]? = some (q : Int)) := HU.out
            have hvk2 : Hid (∀ W zs3, CySt w sl n (some ad) sc (.slice ta tn tc) g (.slice (some vad) vn vc) ids zs zs3 W → W.cell? ⟨w.heap.size, 0, none⟩ = some (.slice (some ad) n sc) ∧ W.cell? ⟨w.heap.size, 1, none⟩ = some (.slice ta tn tc) ∧ W.cell? (vad.add k) = some (.int .i64 (q : Int))) := fun W zs3 h => by
              obtain ⟨va', vc', e', -, -, hvj⟩ := h.row.ints
              simp only [Value.slice.injEq] at e'
              obtain ⟨rfl, -, -⟩ := e'
              obtain ⟨vad', e2, hvk⟩ := hvj k _ hkid.out
              cases e2
              exact ⟨h.box.cell 0 _ rfl, h.box.cell 1 _ rfl, hvk⟩
            have HCall : Hid (Calls Try.prog 33 #[.agg #[.slice (some ad) n sc, .slice ta tn tc], .int .i64 (q : Int), .slice (some ⟨g, 0, none⟩) n n, .int .i64 fr] x1.drew fun e w' => ∃ (b : Bool) (zs' : List Int), e = .returned (.bool b) ∧ zs'.length = n ∧ zeros zs' ≤ zeros zs2 ∧ BoxC 3 w' g (zs'.map intV) ∧ x1.drew.grownBy w' (some g)) := by
              have := HIH.out _ hzlt zs2 q (some ad) sc ta tn tc g fr x1.drew (Nat.le_refl _) (by rw [← HN.out]; exact HD0.out.len) (by rw [← HN.out]; exact hqn) (by rw [← HN.out]; exact HD0.out.slots) HD0.out.seen
              rwa [← HN.out] at this
            go_region_held3 (fun W' => W'.cell? ⟨w.heap.size, 0, none⟩ = some (.slice (some ad) n sc) ∧ W'.cell? ⟨w.heap.size, 1, none⟩ = some (.slice ta tn tc) ∧ W'.cell? (vad.add k) = some (.int .i64 (q : Int)))
              (first
                | with_reducible exact hvk2.out y1 zs3 HD1.out
                | with_reducible exact hvk2.out x1.drew zs2 HD0.out)
              (first
                | (go_at_call 33; (with_reducible refine HCall.out.mono ?_); rintro e y1 ⟨b, zs3, rfl, hl3, hz3, hb3, hg3⟩; have HD1 := Lib.hid (CySt.step HD0.out hb3 hl3 hz3 hg3); clear hl3 hz3 hb3 hg3))
            all_goals
              cases b
              · go_wp2
                go_roundw
                case rel => exact ⟨k + 1, zs3, hlt, by go_num, HD1⟩
                case measure => simp [intOf]; omega
              · go_wp2
                go_ret
                exact ⟨true, zs3, rfl, HD1.out.len, HD1.out.le, HD1.out.seen, HD1.out.grown⟩
          · go_wp2
            go_roundw
            case rel => exact ⟨k + 1, zs', hlt, by go_num, HC⟩
            case measure => simp [intOf]; omega
      · go_wp2
        go_ret
        exact ⟨false, zs', rfl, HC.out.len, HC.out.le, HC.out.seen, HC.out.grown⟩
theorem cyclic_any (sl : List Slt) (hn9 : sl.length ≤ 1000) (hV : VarsIn sl) : ∀ z, CyAt Try.prog 33 sl z := by
  intro z
  induction z using Nat.strongRecOn with
  | _ z ih => exact cyclic_of sl hn9 hV z ih
end Go.Proofs.Ytejlhfjhpminjaa
