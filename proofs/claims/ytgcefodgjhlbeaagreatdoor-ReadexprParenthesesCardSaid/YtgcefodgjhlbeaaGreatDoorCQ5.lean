import Derived.Test.YtgcefodgjhlbeaaGreatDoorCB6
/- Chapter 4's reference: Equal on expressions that are the same up to places. -/
namespace Go.Proofs.YtgcefodgjhlbeaaGreatDoor
open Go.RowKit Go.Maps Mth

theorem keepC {W a b : World} (h1 : Below W.heap.size W a) (h2 : Below a.heap.size a b) : Below W.heap.size W b := h1.trans (h2.mono h1.size)
/-- The two variables. -/
structure B2 (w V : World) (B : Nat) (c d : List Value) : Prop where
  one : BoxC 34 V B c
  two : BoxC 34 V (B + 1) d
  low : Below w.heap.size w V
theorem B2.lift {w V V' : World} {B : Nat} {c d : List Value} (h : B2 w V B c d) (hb : Below V.heap.size V V') : B2 w V' B c d := ⟨h.one.lift hb, h.two.lift hb, h.low.trans (hb.mono h.low.size)⟩
theorem b2_new (w : World) (c d : List Value) (V : World) (hV : V = (w.alloc (.cells c.toArray 34)).alloc (.cells d.toArray 34)) : B2 w V w.heap.size c d := by
  subst hV
  have h2 : Below (w.alloc (.cells c.toArray 34)).heap.size (w.alloc (.cells c.toArray 34)) ((w.alloc (.cells c.toArray 34)).alloc (.cells d.toArray 34)) := (Below.refl _ _).alloc (Nat.le_refl _) _
  refine ⟨(BoxC.made _ w c).lift h2, ?_, ((Below.refl _ w).alloc (Nat.le_refl _) _).alloc (by simp) _⟩
  have := BoxC.made 34 (w.alloc (.cells c.toArray 34)) d
  simpa using this
/-- The arm's own cells, as a walk meets them. -/
theorem arm3 {w : World} {ad : Addr} {j : Nat} {v0 v1 v2 : Value} {cb : List Value} (h : ∀ (m : Nat) (u : Value), (v0 :: v1 :: v2 :: cb)[m]? = some u → w.cell? (ad.add (j * 14 + m)) = some u) :
    w.cell? (ad.add (j * 14)) = some v0 ∧ w.cell? ⟨(ad.add (j * 14)).block, (ad.add (j * 14)).off + 1, none⟩ = some v1 ∧ w.cell? ⟨(ad.add (j * 14)).block, (ad.add (j * 14)).off + 2, none⟩ = some v2 := by
  refine ⟨h 0 _ rfl, ?_, ?_⟩
  all_goals rw [add_add' _ _ _ (by omega)]
  · exact h 1 _ rfl
  · exact h 2 _ rfl
set_option maxRecDepth 100000 in
set_option maxHeartbeats 12800000 in
theorem equal4_of (T : Ex) (H : ∀ x ∈ chd T, EqE 14 x) : EqE 14 T := by
  intro U hst hbT hbU c d S S' w h h'
  have hs := str_of hst
  have HCh := Lib.hid hs.ch
  have HAr := Lib.hid hs.arm
  have HLc : Hid ((chd U).length = (chd T).length) := by show _ = _; rw [chd_len, chd_len, hs.lk, hs.la]
  have HEA : Hid (∀ (v u : Value) (W : World), SlG ExE W (fun _ => True) (chd T) v → SlG ExE W (fun _ => True) (chd U) u → Calls Tryz.prog 35 #[v, u] W fun e w' => e = .returned (.bool true) ∧ Below W.heap.size W w') := fun v u W h1 h2 =>
    equalAll_of (chd T) (chd U) (fun j x y hx hy c d S S' w hc hd => H x (List.mem_of_getElem? hx) y (HCh.out j x y hx hy) (chd_bnd hbT (List.mem_of_getElem? hx)) (chd_bnd hbU (List.mem_of_getElem? hy)) c d S S' w hc hd) HLc.out v u _ _ W h1 h2
  obtain ⟨kvT, avT, tcT, hcT, -, -, haT, htT⟩ := h.open
  obtain ⟨kvU, avU, tcU, hcU, -, -, haU, htU⟩ := h'.open
  obtain ⟨ka, kc, aa, ac, tk, tn, ti, th, ta, tl, tc, rfl⟩ := h.form
  obtain ⟨ka2, kc2, aa2, ac2, tk2, tn2, ti2, th2, ta2, tl2, tc2, rfl⟩ := h'.form
  simp only [List.cons.injEq] at hcT hcU
  obtain ⟨-, -, -, -, rfl, rfl, rfl⟩ := hcT
  obtain ⟨-, -, -, -, rfl, rfl, rfl⟩ := hcU
  rw [hs.t] at htU
  obtain ⟨V, hV⟩ : ∃ V, V = (w.alloc (.cells #[.int .i64 T.k, .int .i64 T.p, .string T.n, .int .i64 T.m, .slice ka T.kids.length kc, .slice aa T.arms.length ac, .int .i64 tk, .string tn, .int .i64 ti, .int .i64 th, .slice ta tl tc] 34)).alloc (.cells #[.int .i64 U.k, .int .i64 U.p, .string U.n, .int .i64 U.m, .slice ka2 U.kids.length kc2, .slice aa2 U.arms.length ac2, .int .i64 tk2, .string tn2, .int .i64 ti2, .int .i64 th2, .slice ta2 tl2 tc2] 34) := ⟨_, rfl⟩
  have HB2 := Lib.hid (b2_new w [.int .i64 T.k, .int .i64 T.p, .string T.n, .int .i64 T.m, .slice ka T.kids.length kc, .slice aa T.arms.length ac, .int .i64 tk, .string tn, .int .i64 ti, .int .i64 th, .slice ta tl tc] [.int .i64 U.k, .int .i64 U.p, .string U.n, .int .i64 U.m, .slice ka2 U.kids.length kc2, .slice aa2 U.arms.length ac2, .int .i64 tk2, .string tn2, .int .i64 ti2, .int .i64 th2, .slice ta2 tl2 tc2] V hV)
  have HA1 := Lib.hid (slG_lift haT HB2.out.low)
  have HA2 := Lib.hid (slG_lift haU HB2.out.low)
  have HTy : Hid (∀ W, Below V.heap.size V W → Calls Tryz.prog 33 #[.agg #[.int .i64 tk, .string tn, .int .i64 ti, .int .i64 th, .slice ta tl tc], .agg #[.int .i64 tk2, .string tn2, .int .i64 ti2, .int .i64 th2, .slice ta2 tl2 tc2]] W fun e w' => e = .returned (.bool true) ∧ Below W.heap.size W w') := fun W hW => same_ty T.t _ _ S S' W ((htT.lift HB2.out.low).lift hW) ((htU.lift HB2.out.low).lift hW)
  have HC1 : Hid (∀ W, Below V.heap.size V W → Calls Tryz.prog 36 #[.agg #[.int .i64 T.k, .int .i64 T.p, .string T.n, .int .i64 T.m, .slice ka T.kids.length kc, .slice aa T.arms.length ac, .int .i64 tk, .string tn, .int .i64 ti, .int .i64 th, .slice ta tl tc]] W fun e w' => ∃ a cp, e = .returned (.slice a (chd T).length cp) ∧ SlG ExE w' (fun _ => True) (chd T) (.slice a (chd T).length cp) ∧ Below W.heap.size W w') := fun W hW => children_any T (bnd_len hbT) S _ W ((h.lift HB2.out.low).lift hW)
  have HC2 : Hid (∀ W, Below V.heap.size V W → Calls Tryz.prog 36 #[.agg #[.int .i64 U.k, .int .i64 U.p, .string U.n, .int .i64 U.m, .slice ka2 U.kids.length kc2, .slice aa2 U.arms.length ac2, .int .i64 tk2, .string tn2, .int .i64 ti2, .int .i64 th2, .slice ta2 tl2 tc2]] W fun e w' => ∃ a cp, e = .returned (.slice a (chd U).length cp) ∧ SlG ExE w' (fun _ => True) (chd U) (.slice a (chd U).length cp) ∧ Below W.heap.size W w') := fun W hW => children_any U (bnd_len hbU) S' _ W ((h'.lift HB2.out.low).lift hW)
  have hab := (bnd_len hbT).2
  have ek := hs.k
  have en := hs.n
  have em := hs.m
  have el := hs.lk
  have ea := hs.la
  clear h h' haT haU htT htU H hst hbT hbU HCh HLc hs
  have HE : Hid (U.arms.length = T.arms.length) := ea
  generalize U.k = uk at *
  generalize U.n = un at *
  generalize U.m = um at *
  generalize U.kids.length = ul at *
  generalize hua : U.arms.length = ua at *
  subst ek en em el ea
  go_enter Tryz.func14, Tryz.ntmps14
  go_upto_region 1 with fail
  rw [← hV]
  clear hV
  have HV0 := Lib.hid HB2.out.low
  generalize w.heap.size = B at *
  obtain ⟨b0, b1, b2, b3, b4, b5, b6, b7, b8, b9, b10⟩ := HB2.out.one.all11
  obtain ⟨d0, d1, d2, d3, d4, d5, d6, d7, d8, d9, d10⟩ := HB2.out.two.all11
  go_wp2_with fail
  refine (HTy.out _ (Below.refl _ _)).mono ?_
  rintro e V1 ⟨rfl, hb1⟩
  have HL1 := Lib.hid hb1
  clear b0 b1 b2 b3 b4 b5 b6 b7 b8 b9 b10 d0 d1 d2 d3 d4 d5 d6 d7 d8 d9 d10 HTy
  obtain ⟨b0, b1, b2, b3, b4, b5, b6, b7, b8, b9, b10⟩ := (HB2.out.lift hb1).one.all11
  obtain ⟨d0, d1, d2, d3, d4, d5, d6, d7, d8, d9, d10⟩ := (HB2.out.lift hb1).two.all11
  clear hb1
  generalize hn : T.arms.length = n at *
  have HN := Lib.hid hn
  have HUa := Lib.hid hua
  clear hn hua HE
  go_wp2
  clear b0 b1 b2 b3 b4 b5 b6 b7 b8 b9 b10 d0 d1 d2 d3 d4 d5 d6 d7 d8 d9 d10
  go_loopw [5] (fun i wr => ∃ j : Nat, j ≤ n ∧ i = .int .i64 j ∧ Hid (Below V.heap.size V wr)) (fun i _ => n - (intOf i).toNat)
  case atStart => exact ⟨0, Nat.zero_le _, rfl, HL1⟩
  case round =>
    clear HL1
    obtain ⟨j, hj, rfl, HBr⟩ := hrel
    have HBw := Lib.hid (HB2.out.lift HBr.out)
    obtain ⟨b0, b1, b2, b3, b4, b5, b6, b7, b8, b9, b10⟩ := HBw.out.one.all11
    obtain ⟨d0, d1, d2, d3, d4, d5, d6, d7, d8, d9, d10⟩ := HBw.out.two.all11
    by_cases hlt : j < n
    · obtain ⟨A, hA⟩ : ∃ x, T.arms[j]? = some x := ⟨_, List.getElem?_eq_getElem (by rw [HN.out]; exact hlt)⟩
      obtain ⟨M, hM⟩ : ∃ x, U.arms[j]? = some x := ⟨_, List.getElem?_eq_getElem (by rw [HUa.out]; exact hlt)⟩
      obtain ⟨xa, xc, exa, -, hja⟩ := HA1.out
      simp only [Value.slice.injEq] at exa
      obtain ⟨rfl, -, rfl⟩ := exa
      obtain ⟨ya, yc, eya, -, hjb⟩ := HA2.out
      simp only [Value.slice.injEq] at eya
      obtain ⟨rfl, -, rfl⟩ := eya
      obtain ⟨ad, c, rfl, -, hcells, ⟨vv, cb, rfl, hvv, -⟩⟩ := hja j A hA
      obtain ⟨ad', c', rfl, -, hcells', ⟨vv', cb', rfl, hvv', -⟩⟩ := hjb j M hM
      obtain ⟨hcon, hvars⟩ := HAr.out j A M hA hM
      rw [hvars] at hvv'
      have hq := arm3 (w := wr) (ad := ad) (j := j) (v0 := .int .i64 A.1.pos) (v1 := .string A.1.con) (v2 := vv) (cb := cb) (fun m u hu => by
        have h1 : V.cell? (ad.add (j * 14 + m)) = some u := hcells m u hu
        rw [HBr.out.cell (World.block_lt_of_cell? _ _ h1)]; exact h1)
      have hr := arm3 (w := wr) (ad := ad') (j := j) (v0 := .int .i64 M.1.pos) (v1 := .string M.1.con) (v2 := vv') (cb := cb') (fun m u hu => by
        have h1 : V.cell? (ad'.add (j * 14 + m)) = some u := hcells' m u hu
        rw [HBr.out.cell (World.block_lt_of_cell? _ _ h1)]; exact h1)
      rw [hcon] at hr
      obtain ⟨va, vc, rfl, -⟩ := hvv.slice
      obtain ⟨va', vc', rfl, -⟩ := hvv'.slice
      have HWd : Hid (∀ W, Below V.heap.size V W → Calls Tryz.prog 34 #[.slice va A.1.vars.length vc, .slice va' A.1.vars.length vc'] W fun e w' => e = .returned (.bool true) ∧ Below W.heap.size W w') := fun W hW => words_same A.1.vars _ _ S S' W (slG_lift hvv hW) (slG_lift hvv' hW)
      obtain ⟨q0, q1, q2⟩ := hq
      obtain ⟨r0, r1, r2⟩ := hr
      clear hA hM hja hjb hcells hcells' hvv hvv' hcon hvars q0 r0 b0 b1 b2 b3 b4 b6 b7 b8 b9 b10 d0 d1 d2 d3 d4 d6 d7 d8 d9 d10
      have hxx : (A.1.con.toList == A.1.con.toList) = true := by simp
      have hji : (j : Int) < (n : Int) := by omega
      generalize A.1.con = an at *
      generalize A.1.vars.length = vl at *
      have Q1 := cell_regrown q1
      have Q2 := cell_regrown q2
      have R1 := cell_regrown r1
      have R2 := cell_regrown r2
      have B5 := cell_regrown b5
      have D5 := cell_regrown d5
      go_wp2
      refine wp_region_quiet_below (by kernel_rfl) (by kernel_rfl) ?_
      repeat (quiet_step ((go_at_call 34; exact Calls.regrown_of (HWd.out _ (keepC HBr.out (below_regrown _ _ _))))))
      refine wpQuiet_nil ?_
      intro _ hw'
      obtain ⟨⟨dq, osq⟩, hw''⟩ := hw'
      subst hw''
      have HBn := Lib.hid (keepC HBr.out (below_regrown wr dq osq))
      clear q1 q2 r1 r2 b5 d5 Q1 Q2 R1 R2 B5 D5 hxx
      go_wp2
      go_roundw
      case rel => exact ⟨j + 1, hlt, by go_num, HBn⟩
      case measure => simp [intOf]; omega
    · clear HA1 HA2 HAr
      go_wp2
      have HS : Hid (∀ v, Below V.heap.size V v → ((fun v => v.cell? ⟨B, 0, none⟩ = some (.int .i64 T.k) ∧ v.cell? ⟨B, 1, none⟩ = some (.int .i64 T.p) ∧ v.cell? ⟨B, 2, none⟩ = some (.string T.n) ∧ v.cell? ⟨B, 3, none⟩ = some (.int .i64 T.m) ∧ v.cell? ⟨B, 4, none⟩ = some (.slice ka T.kids.length kc) ∧ v.cell? ⟨B, 5, none⟩ = some (.slice aa n ac) ∧ v.cell? ⟨B, 6, none⟩ = some (.int .i64 tk) ∧ v.cell? ⟨B, 7, none⟩ = some (.string tn) ∧ v.cell? ⟨B, 8, none⟩ = some (.int .i64 ti) ∧ v.cell? ⟨B, 9, none⟩ = some (.int .i64 th) ∧ v.cell? ⟨B, 10, none⟩ = some (.slice ta tl tc) ∧ v.cell? ⟨B + 1, 0, none⟩ = some (.int .i64 T.k) ∧ v.cell? ⟨B + 1, 1, none⟩ = some (.int .i64 U.p) ∧ v.cell? ⟨B + 1, 2, none⟩ = some (.string T.n) ∧ v.cell? ⟨B + 1, 3, none⟩ = some (.int .i64 T.m) ∧ v.cell? ⟨B + 1, 4, none⟩ = some (.slice ka2 T.kids.length kc2) ∧ v.cell? ⟨B + 1, 5, none⟩ = some (.slice aa2 n ac2) ∧ v.cell? ⟨B + 1, 6, none⟩ = some (.int .i64 tk2) ∧ v.cell? ⟨B + 1, 7, none⟩ = some (.string tn2) ∧ v.cell? ⟨B + 1, 8, none⟩ = some (.int .i64 ti2) ∧ v.cell? ⟨B + 1, 9, none⟩ = some (.int .i64 th2) ∧ v.cell? ⟨B + 1, 10, none⟩ = some (.slice ta2 tl2 tc2) ∧ Below V.heap.size V v)) v) := fun v hv => by
        obtain ⟨b0, b1, b2, b3, b4, b5, b6, b7, b8, b9, b10⟩ := (HB2.out.lift hv).one.all11
        obtain ⟨d0, d1, d2, d3, d4, d5, d6, d7, d8, d9, d10⟩ := (HB2.out.lift hv).two.all11
        exact ⟨b0, b1, b2, b3, b4, b5, b6, b7, b8, b9, b10, d0, d1, d2, d3, d4, d5, d6, d7, d8, d9, d10, hv⟩
      have HLw := Lib.hid HB2.out.low
      clear HBw HB2
      go_region_held3 (fun v => v.cell? ⟨B, 0, none⟩ = some (.int .i64 T.k) ∧ v.cell? ⟨B, 1, none⟩ = some (.int .i64 T.p) ∧ v.cell? ⟨B, 2, none⟩ = some (.string T.n) ∧ v.cell? ⟨B, 3, none⟩ = some (.int .i64 T.m) ∧ v.cell? ⟨B, 4, none⟩ = some (.slice ka T.kids.length kc) ∧ v.cell? ⟨B, 5, none⟩ = some (.slice aa n ac) ∧ v.cell? ⟨B, 6, none⟩ = some (.int .i64 tk) ∧ v.cell? ⟨B, 7, none⟩ = some (.string tn) ∧ v.cell? ⟨B, 8, none⟩ = some (.int .i64 ti) ∧ v.cell? ⟨B, 9, none⟩ = some (.int .i64 th) ∧ v.cell? ⟨B, 10, none⟩ = some (.slice ta tl tc) ∧ v.cell? ⟨B + 1, 0, none⟩ = some (.int .i64 T.k) ∧ v.cell? ⟨B + 1, 1, none⟩ = some (.int .i64 U.p) ∧ v.cell? ⟨B + 1, 2, none⟩ = some (.string T.n) ∧ v.cell? ⟨B + 1, 3, none⟩ = some (.int .i64 T.m) ∧ v.cell? ⟨B + 1, 4, none⟩ = some (.slice ka2 T.kids.length kc2) ∧ v.cell? ⟨B + 1, 5, none⟩ = some (.slice aa2 n ac2) ∧ v.cell? ⟨B + 1, 6, none⟩ = some (.int .i64 tk2) ∧ v.cell? ⟨B + 1, 7, none⟩ = some (.string tn2) ∧ v.cell? ⟨B + 1, 8, none⟩ = some (.int .i64 ti2) ∧ v.cell? ⟨B + 1, 9, none⟩ = some (.int .i64 th2) ∧ v.cell? ⟨B + 1, 10, none⟩ = some (.slice ta2 tl2 tc2) ∧ Below V.heap.size V v)
        (first
          | exact HS.out _ (keepC HBr.out (Below.refl _ _).drew)
          | (go_split_ands; exact HS.out _ (keepC (by assumption) hb)))
        (first
          | (go_at_call 36; (with_reducible refine (HC1.out _ ?_).mono ?_); (go_split_ands; assumption); rintro e w' ⟨a1, p1, rfl, hs1, hb⟩; have HS1 := Lib.hid hs1; clear hs1)
          | (go_at_call 36; (with_reducible refine (HC2.out _ ?_).mono ?_); (go_split_ands; assumption); rintro e w' ⟨a2, p2, rfl, hs2, hb⟩; have HS2 := Lib.hid hs2; clear hs2)
          | (go_at_call 35; (with_reducible refine (HEA.out _ _ _ ?_ ?_).mono ?_); (first | exact HS1.out | exact slG_lift HS1.out (by assumption)); (first | exact HS2.out | exact slG_lift HS2.out (by assumption)); rintro e w' ⟨rfl, hb⟩))
      all_goals
        go_split_ands
        have hl : Below V.heap.size V w' := by assumption
        go_wp2
        go_ret
        exact ⟨rfl, HLw.out.trans (hl.mono HLw.out.size)⟩
theorem equal4_any (T : Ex) : EqE 14 T := by
  refine Ex.induct (fun T hk ha => equal4_of T fun x hx => ?_) T
  rcases List.mem_append.1 hx with h | h
  · exact hk x h
  · obtain ⟨A, hA, rfl⟩ := List.mem_map.1 h
    exact ha A hA
end Go.Proofs.YtgcefodgjhlbeaaGreatDoor
