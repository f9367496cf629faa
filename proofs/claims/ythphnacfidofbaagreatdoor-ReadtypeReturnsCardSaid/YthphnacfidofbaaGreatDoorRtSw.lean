/- The reference's Type at an application; at every written type. -/
import Derived.Test.YthphnacfidofbaaGreatDoorRtSy
namespace Go.Proofs.YthphnacfidofbaaGreatDoor
open Go.RowKit Go.Maps Mth

set_option maxRecDepth 100000 in
set_option maxHeartbeats 6400000 in
theorem show_app (T : Ty) (h4 : T.k = 4) (hA : isArr T = false) (H : ∀ U ∈ T.ts, ShAt U) (hs : src T = true) (hn : nodes T ≤ 1000) (v : Value) (S : Nat → Prop) (w : World) (h : Rep w S T v) :
    Calls Tryz.prog 14 #[v] w (ShEnd w (shT T)) := by
  have HArg : Hid (∀ U ∈ T.ts, ∀ v S V, Rep V S U v → Calls Tryz.prog 42 #[v] V (ShEnd V (brk (conArgs U) (shT U)))) := fun U hU v S V hr => argument_of U (H U hU) (src_ts hs hU) (by have := nodes_ts hU; omega) v S V hr
  have HIs : Hid (∀ V, Below w.heap.size w V → Calls Tryz.prog 41 #[v] V (IsArrEnd V S T)) := fun V hV => isArrow_any T (fun ha => by rw [hA] at ha; cases ha) v S V (h.lift hV)
  have HE := Lib.hid (shT_app h4 hA)
  have HL := Lib.hid (sh_len hs hn)
  have HAr := Lib.hid hA
  have HLa : Hid (∀ U ∈ T.ts, (brk (conArgs U) (shT U)).length ≤ 23002) := fun U hU => by
    have h1 := sh_len (src_ts hs hU) (by have := nodes_ts hU; omega)
    have h2 := brk_len (conArgs U) (shT U)
    omega
  obtain ⟨k, n, i, hm, s, eT, rfl, -, sa, sc, rfl, ⟨hc1, hc2⟩, hj⟩ := h.open
  obtain rfl : k = 4 := by rw [← h4, eT]; rfl
  have hnn : T.n = n := by rw [eT]; rfl
  rw [hnn] at HE
  have HR := Lib.hid h
  have HJ := Lib.hid hj
  have hb1 : ∀ X, Below w.heap.size w (w.alloc (.cells X 30)) := fun X => (Below.refl _ w).alloc (Nat.le_refl _) _
  have HB := Lib.hid hb1
  have HX0 := Lib.hid (Box.made w (.int .i64 4) (.string n) (.int .i64 i) (.int .i64 hm) (.slice sa T.ts.length sc))
  clear hb1 h hA H hs hn eT h4 hj hnn
  unfold maxLen at hc2
  obtain ⟨ts, hts⟩ : ∃ ts, ts = T.ts := ⟨_, rfl⟩
  rw [← hts] at HArg HJ HE HX0 HLa hc1 HIs ⊢
  clear hts
  obtain ⟨m, hm'⟩ : ∃ m, m = ts.length := ⟨_, rfl⟩
  rw [← hm'] at HX0 hc1 HIs ⊢
  have HM := Lib.hid hm'
  clear hm' HR
  go_enter Tryz.func14, Tryz.ntmps14
  go_wp2_with fail
  go_at_call 41
  refine (HIs.out _ (HB.out _)).mono ?_
  rintro e w1 ⟨k0, n0, i0, m0, a0, l0, p0, k1, n1, i1, m1, a1, l1, p1, rfl, hb1, -⟩
  rw [HAr.out]
  have HX1 := Lib.hid (Box.lift HX0.out hb1)
  have HL1 := Lib.hid ((HB.out _).trans (hb1.mono (HB.out _).size))
  clear hb1 HIs HX0
  go_upto_region 11 with fail
  have hV : Below w1.heap.size w1 ((w1.alloc (.cells #[.int .i64 k0, .string n0, .int .i64 i0, .int .i64 m0, .slice a0 l0 p0] 30)).alloc (.cells #[.int .i64 k1, .string n1, .int .i64 i1, .int .i64 m1, .slice a1 l1 p1] 30)) := ((Below.refl _ w1).alloc (Nat.le_refl _) _).alloc (by simp) _
  have HX := Lib.hid (Box.lift HX1.out hV)
  have HLV := Lib.hid (HL1.out.trans (hV.mono HL1.out.size))
  clear hV HX1 HL1
  generalize ((w1.alloc (.cells #[.int .i64 k0, .string n0, .int .i64 i0, .int .i64 m0, .slice a0 l0 p0] 30)).alloc (.cells #[.int .i64 k1, .string n1, .int .i64 i1, .int .i64 m1, .slice a1 l1 p1] 30)) = V at *
  obtain ⟨c0, c1, c2, c3, c4⟩ := HX.out.cells
  go_wp2
  clear c0 c1 c2 c3 c4
  go_loopw [10, 11] (fun y x wr => ∃ (j : Nat) (s : ByteArray), j ≤ m ∧ x = .int .i64 j ∧ y = .string s ∧ s.size ≤ 23000 ∧ Hid (bl s = bl n ++ shA (ts.take j)) ∧ Hid (Box wr w.heap.size (.int .i64 4) (.string n) (.int .i64 i) (.int .i64 hm) (.slice sa m sc)) ∧ Hid (Below w.heap.size w wr)) (fun _ x _ => m - (intOf x).toNat)
  case atStart => exact ⟨0, n, Nat.zero_le _, rfl, rfl, by have := HL.out; rw [HE.out, List.length_append, bl_len] at this; omega, by show _ = _; simp [shA], HX.out, HLV.out⟩
  case round =>
    obtain ⟨j, s, hj, rfl, rfl, hsz, HS, HBx, HLo⟩ := hrel
    obtain ⟨c0, c1, c2, c3, c4⟩ := HBx.out.cells
    by_cases hlt : j < m
    · obtain ⟨U, hU⟩ : ∃ x, ts[j]? = some x := ⟨_, List.getElem?_eq_getElem (by rw [← HM.out]; exact hlt)⟩
      have HUm : Hid (U ∈ ts) := List.mem_of_getElem? hU
      have HSt : Hid (shA (ts.take (j + 1)) = shA (ts.take j) ++ (32 :: brk (conArgs U) (shT U))) := by
        show _ = _
        rw [List.take_add_one, hU, shA_app]; simp [shA]
      obtain ⟨ad, x, rfl, hS, h5, hx⟩ := HJ.out j U hU
      clear hU
      have hx' := hx.lift HLo.out
      have g5 := h5.kept (HLo.out.block _ h5.lt)
      obtain ⟨k', n', i', h', s', eU, rfl, hn2, hs2⟩ := hx'.open
      obtain ⟨q0, q1, q2, q3, q4⟩ := five_at g5
      obtain ⟨sa', sc', rfl, -⟩ := hs2
      have HXr := Lib.hid hx'
      clear h5 hx g5 eU hn2 hS hx'
      have hji : (j : Int) < (m : Int) := by omega
      have HC := Lib.hid (HArg.out U HUm.out _ S wr HXr.out)
      have HLu := Lib.hid (HLa.out U HUm.out)
      generalize U.ts.length = sn' at *
      go_wp2_with fail
      go_at_call 42
      refine HC.out.mono ?_
      rintro e w2 ⟨r, rfl, hr, hb2⟩
      have hrz : r.size ≤ 23002 := by rw [← bl_len, hr]; exact HLu.out
      have HS2 : Hid (bl (s ++ (⟨#[32]⟩ ++ r)) = bl n ++ shA (ts.take (j + 1))) := by
        show _ = _
        rw [bl_app, bl_app, HS.out, hr, HSt.out]; simp [bl]
      have hz2 : (s ++ (⟨#[32]⟩ ++ r)).size ≤ 23000 := by
        have h1 := HL.out
        have h2 := shA_take ts (j + 1)
        rw [← bl_len, HS2.out]
        rw [HE.out, List.length_append] at h1
        rw [List.length_append]
        omega
      have HZ2 := Lib.hid hz2
      have HBx2 := Lib.hid (Box.lift HBx.out hb2)
      have HLo2 := Lib.hid (HLo.out.trans (hb2.mono HLo.out.size))
      clear hr hb2 hz2 c0 c1 c2 c3 c4 q0 q1 q2 q3 q4
      go_wp2
      go_roundw
      case rel => exact ⟨j + 1, _, hlt, by go_num, rfl, HZ2.out, HS2, HBx2, HLo2⟩
      case measure => simp [intOf]; omega
    · have HF : Hid (bl s = shT T) := by
        show _ = _
        rw [HS.out, HE.out, List.take_of_length_le (by rw [← HM.out]; omega)]
      go_wp2
      go_ret
      exact ⟨_, rfl, HF.out, HLo.out⟩
theorem show_of (T : Ty) (H : ∀ U ∈ T.ts, ShAt U) : ShAt T := by
  intro hs hn v S w h
  rcases src_k hs with h5 | h4
  · exact show_name T h5 v S w h
  · cases hA : isArr T with
    | false => exact show_app T h4 hA H hs hn v S w h
    | true =>
      obtain ⟨a, c, hts⟩ := src_arr hs hA
      exact show_arr T a c hA hts (H a (by rw [hts]; simp)) (H c (by rw [hts]; simp)) hs hn v S w h
/-- The text of a written type. -/
theorem showT_any (T : Ty) : ShAt T := tyInd show_of T
end Go.Proofs.YthphnacfidofbaaGreatDoor
