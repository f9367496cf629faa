import Derived.Test.YtfkbifbodpelmaaDoorVR0
import Derived.Deep.LoopGhost
/- The canonical text of a written type: the reference's Type and argument return it. -/
namespace Go.Proofs.YtfkbifbodpelmaaDoor
open Go.RowKit Go.Maps Mth

theorem bl_app (s t : ByteArray) : bl (s ++ t) = bl s ++ bl t := by unfold bl; simp [ByteArray.data_append]
def ShEnd (w : World) (l : List UInt8) (e : Ending) (w' : World) : Prop := ∃ s, e = .returned (.string s) ∧ bl s = l ∧ Below w.heap.size w w'
def ShAt (T : Ty) : Prop := src T = true → nodes T ≤ 100000 → ∀ (v : Value) (S : Nat → Prop) (w : World), Rep w S T v → Calls Tryd.prog 35 #[v] w (ShEnd w (shT T))
theorem shA_app (x y : List Ty) : shA (x ++ y) = shA x ++ shA y := by
  induction x with
  | nil => rfl
  | cons t x ih => simp only [List.cons_append, shA, ih, List.append_assoc]
theorem src_k {T : Ty} (h : src T = true) : T.k = 5 ∨ T.k = 4 := by
  cases T with
  | mk k n i h ts =>
    simp only [src, Bool.and_eq_true] at h
    obtain ⟨⟨-, hk⟩, -⟩ := h
    by_cases h5 : k = 5
    · exact .inl h5
    · have e : (k == 5) = false := by simpa using h5
      rw [e] at hk
      simp only [Bool.false_eq_true, if_false, Bool.and_eq_true, beq_iff_eq] at hk
      exact .inr hk.1
theorem shT_5 {T : Ty} (h : T.k = 5) : shT T = bl T.n := by
  cases T with
  | mk k n i hm ts => obtain rfl : k = 5 := h; rfl
theorem shT_arr {T a c : Ty} (h : isArr T = true) (hts : T.ts = [a, c]) : shT T = brk (isArr a) (shT a) ++ (32 :: ([45, 62] ++ 32 :: shT c)) := by
  cases T with
  | mk k n i hm ts =>
    obtain rfl : ts = [a, c] := hts
    simp only [isArr, Ty.k, Ty.n, Bool.and_eq_true, beq_iff_eq] at h
    obtain ⟨rfl, hn⟩ := h
    simp only [shT]
    rw [if_neg (by decide), if_pos (by simp [hn])]
    simp [shH, shB]
theorem shT_app {T : Ty} (h4 : T.k = 4) (h : isArr T = false) : shT T = bl T.n ++ shA T.ts := by
  cases T with
  | mk k n i hm ts =>
    obtain rfl : k = 4 := h4
    simp only [isArr, Ty.k, Ty.n] at h
    have hn : (n.toList == [45, 62]) = false := by simpa using h
    simp only [shT, Ty.n, Ty.ts]
    rw [if_neg (by decide), hn]
    rfl
theorem src_ts {T : Ty} (h : src T = true) {U : Ty} (hU : U ∈ T.ts) : src U = true := by
  cases T with
  | mk k n i hm ts =>
    simp only [src, Bool.and_eq_true] at h
    exact srcL_mem h.2 hU
theorem conArgs_of {T : Ty} {k : Int} {m : Nat} (hk : T.k = k) (hm : T.ts.length = m) : conArgs T = (k == 4 && m != 0) := by unfold conArgs; rw [hk, hm]
theorem par_bl (s : ByteArray) (l : List UInt8) (h : bl s = l) : bl (⟨#[40]⟩ ++ s ++ ⟨#[41]⟩) = 40 :: (l ++ [41]) := by
  rw [bl_app, bl_app, h]; rfl
theorem sh_len {T : Ty} (hs : src T = true) (hn : nodes T ≤ 100000) : (shT T).length ≤ 2300000 := by
  have := shT_len2 T hs
  omega
theorem shA_take (l : List Ty) (j : Nat) : (shA (l.take j)).length ≤ (shA l).length := by
  have := congrArg List.length (shA_app (l.take j) (l.drop j))
  rw [List.take_append_drop, List.length_append] at this
  omega
theorem nodes_ts {T U : Ty} (hU : U ∈ T.ts) : nodes U ≤ nodes T := by
  cases T with
  | mk k n i h ts =>
    have := nodesL_mem (l := ts) hU
    simp only [nodes]
    omega
set_option maxHeartbeats 1600000 in
theorem argument_of (T : Ty) (H : ShAt T) (hs : src T = true) (hn : nodes T ≤ 100000) (v : Value) (S : Nat → Prop) (w : World) (h : Rep w S T v) :
    Calls Tryd.prog 60 #[v] w (ShEnd w (brk (conArgs T) (shT T))) := by
  have HC : Hid (∀ V, Below w.heap.size w V → Calls Tryd.prog 35 #[v] V (ShEnd V (shT T))) := fun V hV => H hs hn v S V (h.lift hV)
  have HL := Lib.hid (sh_len hs hn)
  obtain ⟨k, n, i, hm, s, eT, rfl, -, sa, sc, rfl, hcap, hj⟩ := h.open
  have hk : T.k = k := by rw [eT]; rfl
  have HCA := Lib.hid (conArgs_of hk rfl)
  have HK := Lib.hid (src_k hs)
  rw [hk] at HK
  clear h H hs eT hn hk hj hcap
  generalize T.ts.length = m at *
  have hb1 : ∀ X, Below w.heap.size w (w.alloc (.cells X 35)) := fun X => (Below.refl _ w).alloc (Nat.le_refl _) _
  have HB := Lib.hid hb1
  clear hb1
  rcases HK.out with rfl | rfl
  · have HE : Hid (conArgs T = false) := by show _ = _; rw [HCA.out]; rfl
    clear HCA HK
    rw [HE.out]
    go_enter Tryd.func60, Tryd.ntmps60
    go_wp2_with fail
    go_at_call 35
    refine (HC.out _ (HB.out _)).mono ?_
    rintro e w1 ⟨s, rfl, hs, hb⟩
    go_wp2
    go_ret
    exact ⟨_, rfl, hs, (HB.out _).trans (hb.mono (HB.out _).size)⟩
  · by_cases h0 : m = 0
    · subst h0
      have HE : Hid (conArgs T = false) := by show _ = _; rw [HCA.out]; rfl
      clear HCA HK
      rw [HE.out]
      go_enter Tryd.func60, Tryd.ntmps60
      go_wp2_with fail
      go_at_call 35
      refine (HC.out _ (HB.out _)).mono ?_
      rintro e w1 ⟨s, rfl, hs, hb⟩
      go_wp2
      go_ret
      exact ⟨_, rfl, hs, (HB.out _).trans (hb.mono (HB.out _).size)⟩
    · have HE : Hid (conArgs T = true) := by show _ = _; rw [HCA.out]; simp [h0]
      have hpos : 0 < m := by omega
      have hp2 : decide ((0 : Int) < (m : Int)) = true := by simpa using hpos
      clear HCA HK h0
      rw [HE.out]
      go_enter Tryd.func60, Tryd.ntmps60
      go_wp2_with fail
      go_at_call 35
      refine (HC.out _ (HB.out _)).mono ?_
      rintro e w1 ⟨s, rfl, hs, hb⟩
      have hz : s.size ≤ 2300000 := by rw [← bl_len, hs]; exact HL.out
      have HS := Lib.hid hs
      clear hs HL
      go_wp2
      go_ret
      exact ⟨_, rfl, par_bl _ _ HS.out, (HB.out _).trans (hb.mono (HB.out _).size)⟩

set_option maxHeartbeats 3200000 in
theorem show_name (T : Ty) (h5 : T.k = 5) (v : Value) (S : Nat → Prop) (w : World) (h : Rep w S T v) : Calls Tryd.prog 35 #[v] w (ShEnd w (shT T)) := by
  obtain ⟨k, n, i, hm, s, eT, rfl, -, sa, sc, rfl, hcap, hj⟩ := h.open
  obtain rfl : k = 5 := by rw [← h5, eT]; rfl
  have HE : Hid (bl n = shT T) := by show _ = _; rw [shT_5 h5, eT]; rfl
  clear h h5 hj hcap eT
  generalize T.ts.length = m at *
  go_enter Tryd.func35, Tryd.ntmps35
  go_wp2
  go_ret
  exact ⟨_, rfl, HE.out, (Below.refl _ w).alloc (Nat.le_refl _) _⟩
set_option maxRecDepth 100000 in
set_option maxHeartbeats 6400000 in
theorem show_arr (T a c : Ty) (hA : isArr T = true) (hts : T.ts = [a, c]) (Ha : ShAt a) (Hc : ShAt c) (hs : src T = true) (hn : nodes T ≤ 100000) (v : Value) (S : Nat → Prop) (w : World) (h : Rep w S T v) :
    Calls Tryd.prog 35 #[v] w (ShEnd w (shT T)) := by
  have hsa := src_ts hs (U := a) (by rw [hts]; simp)
  have hsc := src_ts hs (U := c) (by rw [hts]; simp)
  have hna := nodes_ts (T := T) (U := a) (by rw [hts]; simp)
  have hnc := nodes_ts (T := T) (U := c) (by rw [hts]; simp)
  have HCa : Hid (∀ v S V, Rep V S a v → Calls Tryd.prog 35 #[v] V (ShEnd V (shT a))) := fun v S V hr => Ha hsa (by omega) v S V hr
  have HCc : Hid (∀ v S V, Rep V S c v → Calls Tryd.prog 35 #[v] V (ShEnd V (shT c))) := fun v S V hr => Hc hsc (by omega) v S V hr
  have HIs : Hid (∀ V, Below w.heap.size w V → Calls Tryd.prog 59 #[v] V (IsArrEnd V S T)) := fun V hV => isArrow_any T (fun _ => ⟨a, c, hts⟩) v S V (h.lift hV)
  have HIa : Hid (∀ v S V, Rep V S a v → Calls Tryd.prog 59 #[v] V (IsArrEnd V S a)) := fun v S V hr => isArrow_any a (fun ha => src_arr hsa ha) v S V hr
  have HLa := Lib.hid (sh_len hsa (by omega))
  have HLc := Lib.hid (sh_len hsc (by omega))
  have HE := Lib.hid (shT_arr hA hts)
  have HTs := Lib.hid hts
  have HAr := Lib.hid hA
  obtain ⟨k, n, i, hm, s, eT, rfl, -, sa, sc, rfl, hcap, hj⟩ := h.open
  obtain rfl : k = 4 := by
    rw [eT] at hA
    simp only [isArr, Ty.k, Bool.and_eq_true, beq_iff_eq] at hA
    exact hA.1
  have hb1 : ∀ X, Below w.heap.size w (w.alloc (.cells X 35)) := fun X => (Below.refl _ w).alloc (Nat.le_refl _) _
  have HB := Lib.hid hb1
  clear hb1 h hA hts Ha Hc hs hn hsa hsc hna hnc eT hcap hj
  generalize T.ts.length = m at *
  go_enter Tryd.func35, Tryd.ntmps35
  go_wp2_with fail
  go_at_call 59
  refine (HIs.out _ (HB.out _)).mono ?_
  rintro e w1 ⟨k0, n0, i0, m0, a0, l0, p0, k1, n1, i1, m1, a1, l1, p1, rfl, hb1, hr⟩
  obtain ⟨hr0, hr1⟩ := hr HAr.out a c HTs.out
  rw [HAr.out]
  have HR0 := Lib.hid hr0
  have HR1 := Lib.hid hr1
  have HL1 := Lib.hid ((HB.out _).trans (hb1.mono (HB.out _).size))
  clear hr0 hr1 hr hb1 HIs
  go_upto_region 11 with fail
  have hV : Below w1.heap.size w1 ((w1.alloc (.cells #[.int .i64 k0, .string n0, .int .i64 i0, .int .i64 m0, .slice a0 l0 p0] 35)).alloc (.cells #[.int .i64 k1, .string n1, .int .i64 i1, .int .i64 m1, .slice a1 l1 p1] 35)) := ((Below.refl _ w1).alloc (Nat.le_refl _) _).alloc (by simp) _
  have hX0 : Box ((w1.alloc (.cells #[.int .i64 k0, .string n0, .int .i64 i0, .int .i64 m0, .slice a0 l0 p0] 35)).alloc (.cells #[.int .i64 k1, .string n1, .int .i64 i1, .int .i64 m1, .slice a1 l1 p1] 35)) w1.heap.size (.int .i64 k0) (.string n0) (.int .i64 i0) (.int .i64 m0) (.slice a0 l0 p0) := by unfold Box; rw [heap_at, if_neg (by simp), heap_at, if_pos rfl]
  have hX1 : Box ((w1.alloc (.cells #[.int .i64 k0, .string n0, .int .i64 i0, .int .i64 m0, .slice a0 l0 p0] 35)).alloc (.cells #[.int .i64 k1, .string n1, .int .i64 i1, .int .i64 m1, .slice a1 l1 p1] 35)) (w1.heap.size + 1) (.int .i64 k1) (.string n1) (.int .i64 i1) (.int .i64 m1) (.slice a1 l1 p1) := by unfold Box; rw [heap_at, if_pos (by simp)]
  have HR0V := Lib.hid (HR0.out.lift hV)
  have HR1V := Lib.hid (HR1.out.lift hV)
  have HLV := Lib.hid (HL1.out.trans (hV.mono HL1.out.size))
  have HX1 := Lib.hid hX1
  clear hV HR0 HR1 HL1 hX1
  generalize ((w1.alloc (.cells #[.int .i64 k0, .string n0, .int .i64 i0, .int .i64 m0, .slice a0 l0 p0] 35)).alloc (.cells #[.int .i64 k1, .string n1, .int .i64 i1, .int .i64 m1, .slice a1 l1 p1] 35)) = V at *
  generalize w1.heap.size = N at *
  obtain ⟨c0, c1, c2, c3, c4⟩ := hX0.cells
  have HX0 := Lib.hid hX0
  clear hX0
  go_wp2_with fail
  go_at_call 35
  refine (HCa.out _ _ _ HR0V.out).mono ?_
  rintro e w2 ⟨s, rfl, hs, hb2⟩
  have hsz : s.size ≤ 2300000 := by rw [← bl_len, hs]; exact HLa.out
  have HS := Lib.hid hs
  have HX0' := Lib.hid (Box.lift HX0.out hb2)
  have HX1' := Lib.hid (Box.lift HX1.out hb2)
  have HR0' := Lib.hid (HR0V.out.lift hb2)
  have HR1' := Lib.hid (HR1V.out.lift hb2)
  have HL2 := Lib.hid (HLV.out.trans (hb2.mono HLV.out.size))
  clear c0 c1 c2 c3 c4 hs hb2 HX0 HX1 HR0V HR1V HLV
  obtain ⟨c0, c1, c2, c3, c4⟩ := HX0'.out.cells
  go_wp2_with fail
  go_at_call 59
  refine (HIa.out _ _ _ HR0'.out).mono ?_
  rintro e w3 ⟨k2, n2, i2, m2, a2, l2, p2, k3, n3, i3, m3, a3, l3, p3, rfl, hb3, -⟩
  have HX1w := Lib.hid (Box.lift HX1'.out hb3)
  have HR1w := Lib.hid (HR1'.out.lift hb3)
  have HL3 := Lib.hid (HL2.out.trans (hb3.mono HL2.out.size))
  clear c0 c1 c2 c3 c4 hb3 HX0' HX1' HR0' HR1' HL2 HIa HCa
  go_upto_region 14 with fail
  have hV2 : Below w3.heap.size w3 ((w3.alloc (.cells #[.int .i64 k2, .string n2, .int .i64 i2, .int .i64 m2, .slice a2 l2 p2] 35)).alloc (.cells #[.int .i64 k3, .string n3, .int .i64 i3, .int .i64 m3, .slice a3 l3 p3] 35)) := ((Below.refl _ w3).alloc (Nat.le_refl _) _).alloc (by simp) _
  have HX1z := Lib.hid (Box.lift HX1w.out hV2)
  have HR1z := Lib.hid (HR1w.out.lift hV2)
  have HLz := Lib.hid (HL3.out.trans (hV2.mono HL3.out.size))
  clear hV2 HX1w HR1w HL3
  generalize ((w3.alloc (.cells #[.int .i64 k2, .string n2, .int .i64 i2, .int .i64 m2, .slice a2 l2 p2] 35)).alloc (.cells #[.int .i64 k3, .string n3, .int .i64 i3, .int .i64 m3, .slice a3 l3 p3] 35)) = V2 at *
  obtain ⟨c0, c1, c2, c3, c4⟩ := HX1z.out.cells
  cases hx : isArr a with
  | false =>
    go_wp2_with fail
    go_at_call 35
    refine (HCc.out _ _ _ HR1z.out).mono ?_
    rintro e w4 ⟨s', rfl, hs', hb4⟩
    have hsz' : s'.size ≤ 2300000 := by rw [← bl_len, hs']; exact HLc.out
    have HS' := Lib.hid hs'
    have HX := Lib.hid hx
    clear hs' hx c0 c1 c2 c3 c4
    go_wp2
    go_ret
    exact ⟨_, rfl, by rw [HE.out, HX.out, bl_app, bl_app, HS.out, HS'.out]; simp [brk, bl], HLz.out.trans (hb4.mono HLz.out.size)⟩
  | true =>
    go_wp2_with fail
    go_at_call 35
    refine (HCc.out _ _ _ HR1z.out).mono ?_
    rintro e w4 ⟨s', rfl, hs', hb4⟩
    have hsz' : s'.size ≤ 2300000 := by rw [← bl_len, hs']; exact HLc.out
    have HS' := Lib.hid hs'
    have HX := Lib.hid hx
    clear hs' hx c0 c1 c2 c3 c4
    go_wp2
    go_ret
    exact ⟨_, rfl, by rw [HE.out, HX.out, bl_app, bl_app, par_bl _ _ HS.out, HS'.out]; simp [brk, bl], HLz.out.trans (hb4.mono HLz.out.size)⟩
end Go.Proofs.YtfkbifbodpelmaaDoor

/- The reference's Type at an application; at every written type. -/
namespace Go.Proofs.YtfkbifbodpelmaaDoor
open Go.RowKit Go.Maps Mth

set_option maxRecDepth 100000 in
set_option maxHeartbeats 6400000 in
theorem show_app (T : Ty) (h4 : T.k = 4) (hA : isArr T = false) (H : ∀ U ∈ T.ts, ShAt U) (hs : src T = true) (hn : nodes T ≤ 100000) (v : Value) (S : Nat → Prop) (w : World) (h : Rep w S T v) :
    Calls Tryd.prog 35 #[v] w (ShEnd w (shT T)) := by
  have HArg : Hid (∀ U ∈ T.ts, ∀ v S V, Rep V S U v → Calls Tryd.prog 60 #[v] V (ShEnd V (brk (conArgs U) (shT U)))) := fun U hU v S V hr => argument_of U (H U hU) (src_ts hs hU) (by have := nodes_ts hU; omega) v S V hr
  have HIs : Hid (∀ V, Below w.heap.size w V → Calls Tryd.prog 59 #[v] V (IsArrEnd V S T)) := fun V hV => isArrow_any T (fun ha => by rw [hA] at ha; cases ha) v S V (h.lift hV)
  have HE := Lib.hid (shT_app h4 hA)
  have HL := Lib.hid (sh_len hs hn)
  have HAr := Lib.hid hA
  have HLa : Hid (∀ U ∈ T.ts, (brk (conArgs U) (shT U)).length ≤ 2300002) := fun U hU => by
    have h1 := sh_len (src_ts hs hU) (by have := nodes_ts hU; omega)
    have h2 := brk_len (conArgs U) (shT U)
    omega
  obtain ⟨k, n, i, hm, s, eT, rfl, -, sa, sc, rfl, ⟨hc1, hc2⟩, hj⟩ := h.open
  obtain rfl : k = 4 := by rw [← h4, eT]; rfl
  have hnn : T.n = n := by rw [eT]; rfl
  rw [hnn] at HE
  have HR := Lib.hid h
  have HJ := Lib.hid hj
  have hb1 : ∀ X, Below w.heap.size w (w.alloc (.cells X 35)) := fun X => (Below.refl _ w).alloc (Nat.le_refl _) _
  have HB := Lib.hid hb1
  have HX0 := Lib.hid (Box.made w (.int .i64 4) (.string n) (.int .i64 i) (.int .i64 hm) (.slice sa T.ts.length sc))
  clear hb1 h hA H hs hn eT h4 hj hnn
  unfold maxLen at hc2
  obtain ⟨ts, hts⟩ : ∃ ts, ts = T.ts := ⟨_, rfl⟩
  rw [← hts] at HArg HJ HE HX0 HLa hc1 HIs ⊢
  clear hts
  obtain ⟨m, hm'⟩ : ∃ m, m = ts.length := ⟨_, rfl⟩
  rw [← hm'] at HX0 hc1 HIs ⊢
  have HM := Lib.hid hm'
  clear hm' HR
  go_enter Tryd.func35, Tryd.ntmps35
  go_wp2_with fail
  go_at_call 59
  refine (HIs.out _ (HB.out _)).mono ?_
  rintro e w1 ⟨k0, n0, i0, m0, a0, l0, p0, k1, n1, i1, m1, a1, l1, p1, rfl, hb1, -⟩
  rw [HAr.out]
  have HX1 := Lib.hid (Box.lift HX0.out hb1)
  have HL1 := Lib.hid ((HB.out _).trans (hb1.mono (HB.out _).size))
  clear hb1 HIs HX0
  go_upto_region 11 with fail
  have hV : Below w1.heap.size w1 ((w1.alloc (.cells #[.int .i64 k0, .string n0, .int .i64 i0, .int .i64 m0, .slice a0 l0 p0] 35)).alloc (.cells #[.int .i64 k1, .string n1, .int .i64 i1, .int .i64 m1, .slice a1 l1 p1] 35)) := ((Below.refl _ w1).alloc (Nat.le_refl _) _).alloc (by simp) _
  have HX := Lib.hid (Box.lift HX1.out hV)
  have HLV := Lib.hid (HL1.out.trans (hV.mono HL1.out.size))
  clear hV HX1 HL1
  generalize ((w1.alloc (.cells #[.int .i64 k0, .string n0, .int .i64 i0, .int .i64 m0, .slice a0 l0 p0] 35)).alloc (.cells #[.int .i64 k1, .string n1, .int .i64 i1, .int .i64 m1, .slice a1 l1 p1] 35)) = V at *
  obtain ⟨c0, c1, c2, c3, c4⟩ := HX.out.cells
  go_wp2
  clear c0 c1 c2 c3 c4
  go_loopw [10, 11] (fun y x wr => ∃ (j : Nat) (s : ByteArray), j ≤ m ∧ x = .int .i64 j ∧ y = .string s ∧ s.size ≤ 2300000 ∧ Hid (bl s = bl n ++ shA (ts.take j)) ∧ Hid (Box wr w.heap.size (.int .i64 4) (.string n) (.int .i64 i) (.int .i64 hm) (.slice sa m sc)) ∧ Hid (Below w.heap.size w wr)) (fun _ x _ => m - (intOf x).toNat)
  case atStart => exact ⟨0, n, Nat.zero_le _, rfl, rfl, by have := HL.out; rw [HE.out, List.length_append, bl_len] at this; omega, by show _ = _; simp [shA], HX.out, HLV.out⟩
  case round =>
    obtain ⟨j, s, hj, rfl, rfl, hsz, HS, HBx, HLo⟩ := hrel
    obtain ⟨c0, c1, c2, c3, c4⟩ := HBx.out.cells
    by_cases hlt : j < m
    · obtain ⟨U, hU⟩ : ∃ x, ts[j]? = some x := ⟨_, List.getElem?_eq_getElem (by rw [← HM.out]; exact hlt)⟩
      have HUm : Hid (U ∈ ts) := List.mem_of_getElem? hU
      have HSt : Hid (shA (ts.take (j + 1)) = shA (ts.take j) ++ (32 :: brk (conArgs U) (shT U))) := by
        show _ = _
        rw [List.take_add_one, hU, shA_app]; simp [shA]
      obtain ⟨ad, x, rfl, hS, h5, hx⟩ := HJ.out j U hU
      clear hU
      have hx' := hx.lift HLo.out
      have g5 := h5.kept (HLo.out.block _ h5.lt)
      obtain ⟨k', n', i', h', s', eU, rfl, hn2, hs2⟩ := hx'.open
      obtain ⟨q0, q1, q2, q3, q4⟩ := five_at g5
      obtain ⟨sa', sc', rfl, -⟩ := hs2
      have HXr := Lib.hid hx'
      clear h5 hx g5 eU hn2 hS hx'
      have hji : (j : Int) < (m : Int) := by omega
      have HC := Lib.hid (HArg.out U HUm.out _ S wr HXr.out)
      have HLu := Lib.hid (HLa.out U HUm.out)
      generalize U.ts.length = sn' at *
      go_wp2_with fail
      go_at_call 60
      refine HC.out.mono ?_
      rintro e w2 ⟨r, rfl, hr, hb2⟩
      have hrz : r.size ≤ 2300002 := by rw [← bl_len, hr]; exact HLu.out
      have HS2 : Hid (bl (s ++ (⟨#[32]⟩ ++ r)) = bl n ++ shA (ts.take (j + 1))) := by
        show _ = _
        rw [bl_app, bl_app, HS.out, hr, HSt.out]; simp [bl]
      have hz2 : (s ++ (⟨#[32]⟩ ++ r)).size ≤ 2300000 := by
        have h1 := HL.out
        have h2 := shA_take ts (j + 1)
        rw [← bl_len, HS2.out]
        rw [HE.out, List.length_append] at h1
        rw [List.length_append]
        omega
      have HZ2 := Lib.hid hz2
      have HBx2 := Lib.hid (Box.lift HBx.out hb2)
      have HLo2 := Lib.hid (HLo.out.trans (hb2.mono HLo.out.size))
      clear hr hb2 hz2 c0 c1 c2 c3 c4 q0 q1 q2 q3 q4
      go_wp2
      go_roundw
      case rel => exact ⟨j + 1, _, hlt, by go_num, rfl, HZ2.out, HS2, HBx2, HLo2⟩
      case measure => simp [intOf]; omega
    · have HF : Hid (bl s = shT T) := by
        show _ = _
        rw [HS.out, HE.out, List.take_of_length_le (by rw [← HM.out]; omega)]
      go_wp2
      go_ret
      exact ⟨_, rfl, HF.out, HLo.out⟩
theorem show_of (T : Ty) (H : ∀ U ∈ T.ts, ShAt U) : ShAt T := by
  intro hs hn v S w h
  rcases src_k hs with h5 | h4
  · exact show_name T h5 v S w h
  · cases hA : isArr T with
    | false => exact show_app T h4 hA H hs hn v S w h
    | true =>
      obtain ⟨a, c, hts⟩ := src_arr hs hA
      exact show_arr T a c hA hts (H a (by rw [hts]; simp)) (H c (by rw [hts]; simp)) hs hn v S w h
/-- The text of a written type. -/
theorem showT_any (T : Ty) : ShAt T := tyInd show_of T
end Go.Proofs.YtfkbifbodpelmaaDoor
