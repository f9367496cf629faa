import Derived.Test.YtfkbifbodpelmaaQF
import Derived.Test.YtfkbifbodpelmaaQT
/- The law DeclareFormed returns true at every input. -/
namespace Go.Proofs.Ytfkbifbodpelmaa
open Go.RowKit Go.Sort Go.Shelf Go.Maps Mth

theorem bars_at (w : World) (Z : TypeId) (S : Nat → Prop) : ∀ (j : Nat) (y : Dat), [goneD, barD][j]? = some y → ∃ c : List Value, (∀ (m : Nat) (u : Value), c[m]? = some u → (w.alloc (.cells #[.int .i64 0, .string ⟨#[71, 111, 110, 101]⟩, .slice none 0 0, .slice none 0 0, .int .i64 0, .string ⟨#[76, 105, 115, 116]⟩, .slice none 0 0, .slice none 0 0] Z)).cell? ((⟨w.heap.size, 0, none⟩ : Addr).add (j * DatE.k + m)) = some u) ∧
    DatE.rep (w.alloc (.cells #[.int .i64 0, .string ⟨#[71, 111, 110, 101]⟩, .slice none 0 0, .slice none 0 0, .int .i64 0, .string ⟨#[76, 105, 115, 116]⟩, .slice none 0 0, .slice none 0 0] Z)) S y c := by
  intro j y h
  have hn : ∀ (α : Type) (E : El α) (V : World), SlG E V S ([] : List α) (.slice none 0 0) := fun α E V => ⟨none, 0, rfl, by simp, fun j x hx => by simp at hx⟩
  match j, h with
  | 0, h =>
    simp at h; subst h
    refine ⟨[.int .i64 0, .string ⟨#[71, 111, 110, 101]⟩, .slice none 0 0, .slice none 0 0], fun m u hu => ?_, ⟨_, _, rfl, hn _ _ _, hn _ _ _⟩⟩
    match m, hu with
    | 0, hu => simp at hu; subst hu; simp [Addr.add]
    | 1, hu => simp at hu; subst hu; simp [Addr.add]
    | 2, hu => simp at hu; subst hu; simp [Addr.add]
    | 3, hu => simp at hu; subst hu; simp [Addr.add]
  | 1, h =>
    simp at h; subst h
    refine ⟨[.int .i64 0, .string ⟨#[76, 105, 115, 116]⟩, .slice none 0 0, .slice none 0 0], fun m u hu => ?_, ⟨_, _, rfl, hn _ _ _, hn _ _ _⟩⟩
    match m, hu with
    | 0, hu => simp at hu; subst hu; simp [Addr.add, show DatE.k = 4 from rfl]
    | 1, hu => simp at hu; subst hu; simp [Addr.add, show DatE.k = 4 from rfl]
    | 2, hu => simp at hu; subst hu; simp [Addr.add, show DatE.k = 4 from rfl]
    | 3, hu => simp at hu; subst hu; simp [Addr.add, show DatE.k = 4 from rfl]
theorem dsOf_sized (bits : Int) : Sized (dsOf bits) := by
  have := dsOf_good bits
  exact this.sized

set_option maxRecDepth 100000 in
set_option maxHeartbeats 16000000 in
theorem declareFormed_any (bits : Int) (cv : Value) (zs : List Int) (nv : Value) (ids : List Int) (w : World) (hz : Ints w cv zs) (hi : Ints w nv ids) :
    Calls Try.prog 3 #[.int .i64 bits, cv, nv] w fun e w' => e = .returned (.bool true) ∧ Below w.heap.size w w' := by
  have HFi := Lib.hid (fun w => first9_any w)
  have HFw : Hid (∀ w', Below w.heap.size w w' → Calls Try.prog 10 #[cv] w' fun e w'' => e = .returned (.bool (decide (zs.length ≤ 60))) ∧ w' = w'') := fun w' hb => few_any cv zs w' (hz.lift hb)
  have HZ := Lib.hid hz
  have HCi : Hid (∀ (i : Nat) (x : Int), ids[i]? = some x → ∃ ad, (∃ c, nv = .slice (some ad) ids.length c) ∧ w.cell? (ad.add i) = some (.int .i64 x)) := fun i x hx => by
    obtain ⟨a, c, e, -, -, hj⟩ := hi
    obtain ⟨ad, rfl, h⟩ := hj i x hx
    exact ⟨ad, ⟨c, e⟩, h⟩
  obtain ⟨ca, cc, rfl, -, -, -⟩ := hz
  obtain ⟨na, nc, rfl, -, -, -⟩ := hi
  obtain ⟨zn, hzn⟩ : ∃ n, n = zs.length := ⟨_, rfl⟩
  obtain ⟨m, hm⟩ : ∃ n, n = ids.length := ⟨_, rfl⟩
  rw [← hzn] at HFw ⊢
  rw [← hm] at HCi ⊢
  have HZn := Lib.hid hzn
  have HM := Lib.hid hm
  rw [← hzn] at HZ
  clear hzn hm
  cases hfw : decide (zn ≤ 60) <;> by_cases h4 : (4 : Int) < (m : Int)
  all_goals
    rw [hfw] at HFw
    have HFwp := Lib.hid hfw
    clear hfw
    go_enter Try.func3, Try.ntmps3
    go_wp2_with fail
    go_at_call 9
    refine (HFi.out _).mono ?_
    rintro e w1 ⟨rfl, hb1, hs1⟩
    go_wp2_with (go_at_call 10; refine (HFw.out _ hb1).mono ?_; rintro e w2 ⟨rfl, rfl⟩)
  any_goals (go_ret; exact ⟨rfl, hb1⟩)
  have hm4 : m ≤ 4 := by omega
  have HB1 := Lib.hid hb1
  have HS1 := Lib.hid hs1
  clear h4 HFi HFw hb1 hs1
  go_loopw [7, 8] (fun y x wr => ∃ (j : Nat) (ns : List ByteArray), j ≤ m ∧ x = .int .i64 j ∧ Hid (RowG StrE wr w1.heap.size (fun c => w1.heap.size ≤ c) y ns) ∧ Hid (ns.length = j ∧ ∀ s ∈ ns, s.size ≤ 1) ∧ Below w1.heap.size w1 wr) (fun _ x _ => m - (intOf x).toNat)
  case atStart => exact ⟨0, [], Nat.zero_le _, rfl, rowG_nil _ _ _ _, ⟨rfl, fun s h => by simp at h⟩, Below.refl _ _⟩
  case round =>
    obtain ⟨j, ns, hj, rfl, HRow, HNs, hb⟩ := hrel
    by_cases hlt : j < m
    · obtain ⟨z, hzj⟩ : ∃ x, ids[j]? = some x := ⟨_, List.getElem?_eq_getElem (by rw [← HM.out]; exact hlt)⟩
      obtain ⟨iad, ⟨c', e'⟩, hzc⟩ := HCi.out j z hzj
      have e1 := (Value.slice.injEq _ _ _ _ _ _).mp e'
      obtain ⟨rfl, -, -⟩ := e1
      obtain ⟨q, s, hq, hs, hsz⟩ := nm4_at (Int.emod_nonneg z (b := 4) (by omega)) (Int.emod_lt_of_pos z (b := 4) (by omega))
      have HMod : Hid (∀ W, Calls Try.prog 11 #[.int .i64 z, .int .i64 4] W fun e W' => e = .returned (.int .i64 (q : Int)) ∧ W = W') := fun W => by
        have := mod_any z 4 W (by decide) (by decide)
        rwa [hq] at this
      have hbr : Below wr.heap.size wr (wr.alloc (.cells #[.string ⟨#[97]⟩, .string ⟨#[98]⟩, .string ⟨#[99]⟩, .string ⟨#[120]⟩] 9)) := (Below.refl _ wr).alloc (Nat.le_refl _) _
      have hzc' : (wr.alloc (.cells #[.string ⟨#[97]⟩, .string ⟨#[98]⟩, .string ⟨#[99]⟩, .string ⟨#[120]⟩] 9)).cell? (iad.add j) = some (.int .i64 z) := by
        have l1 := World.block_lt_of_cell? _ _ hzc
        have k1 := (HB1.out.trans (hb.mono HB1.out.size))
        rw [hbr.cell (Nat.lt_of_lt_of_le l1 k1.size), k1.cell l1]; exact hzc
      have hq4 : q < 4 := by have := (List.getElem?_eq_some_iff.1 hs).1; simpa [nm4] using this
      have hqi : (q : Int) < 4 := by omega
      have hsc := nm4_cell wr 9 hs
      have hji : (j : Int) < (m : Int) := by omega
      have HN : Hid (∀ X Z, ((wr.alloc (.cells #[.string ⟨#[97]⟩, .string ⟨#[98]⟩, .string ⟨#[99]⟩, .string ⟨#[120]⟩] 9)).alloc (.cells X Z)).heap[wr.heap.size + 1]? = some (.cells X Z (0, 0))) := fun X Z => by
        have := heap_alloc_new (wr.alloc (.cells #[.string ⟨#[97]⟩, .string ⟨#[98]⟩, .string ⟨#[99]⟩, .string ⟨#[120]⟩] 9)) (.cells X Z)
        simpa using this
      have HBw : Hid (∀ X, Below wr.heap.size wr ((wr.alloc (.cells #[.string ⟨#[97]⟩, .string ⟨#[98]⟩, .string ⟨#[99]⟩, .string ⟨#[120]⟩] 9)).alloc X)) := fun X => hbr.trans (((Below.refl _ _).alloc (Nat.le_refl _) X).mono hbr.size)
      have hnl := HNs.out.1
      have hwr := hb.size
      have HLow : Hid (∀ k, u7.ownBlock = some k → w1.heap.size ≤ k) := fun k hk => (RowG.lt HRow.out k hk).1
      have HRowA := Lib.hid (fun X => HRow.out.lift (HBw.out X))
      have HSt : Hid (∀ V S, StrE.rep V S s [.string s]) := fun _ _ => rfl
      have HNl := Lib.hid hnl
      have HWr := Lib.hid hwr
      have HBr := Lib.hid hb
      clear hs hzc hzj e' hq hnl hwr hbr hb HRow
      go_wp2_with (first
        | (go_at_call 11; refine (HMod.out _).mono ?_; rintro e w' ⟨rfl, rfl⟩)
        | (at_builtin; refine wpList_pushG StrE rfl _ _ rfl w1.heap.size (fun c => w1.heap.size ≤ c) u7 ns rfl (HRowA.out _) (wr.heap.size + 1) _ [.string s] (HN.out _ _) rfl s (HSt.out _ _) (j + 1) (by rw [HNl.out]) (by omega) (Nat.le_trans HWr.out (HBw.out _).size) ?_; intro a3 c3 w3 hrow3 hg3; have HRow3 := Lib.hid hrow3; have hb3 := Below.grown (HBr.out.trans ((HBw.out _).mono HWr.out)) hg3 (Nat.le_trans HWr.out (HBw.out _).size) HLow.out; clear hrow3 hg3))
      go_roundw
      case rel => exact ⟨j + 1, ns ++ [s], hlt, by go_num, HRow3, ⟨by rw [List.length_append, HNl.out]; rfl, fun x hx => by
        rcases List.mem_append.1 hx with h | h
        · exact HNs.out.2 x h
        · simp at h; subst h; exact hsz⟩, hb3⟩
      case measure => simp [intOf]; omega
    · obtain rfl : m = j := by omega
      obtain ⟨sa, sc, hsv, -, -⟩ := HRow.out.slice
      subst hsv
      rw [HNs.out.1] at HRow ⊢
      have hnm : ns.length ≤ 4 := by rw [HNs.out.1]; exact hm4
      have HNS := Lib.hid (HRow.out.slG (S' := fun _ => True) (fun _ _ => trivial) (fun _ _ => trivial))
      clear HRow
      have HBw : Hid (Below w.heap.size w wr) := HB1.out.trans (hb.mono HB1.out.size)
      have HSw : Hid (w.heap.size < wr.heap.size) := Nat.lt_of_lt_of_le HS1.out hb.size
      have hz60 : zn ≤ 60 := of_decide_eq_true HFwp.out
      have HT0 : Hid (Tq (wr.alloc (.cells #[.slice ca zn cc, .int .i64 0] 29)) wr.heap.size) := tape_new HZn.out (by rw [← HZn.out]; omega) HZ.out HBw.out HSw.out
      have hal : Below wr.heap.size wr (wr.alloc (.cells #[.slice ca zn cc, .int .i64 0] 29)) := (Below.refl _ wr).alloc (Nat.le_refl _) _
      have HNSl : Hid (∀ V, Below wr.heap.size wr V → SlG StrE V (fun _ => True) ns (.slice sa m sc)) := fun V hV => HNS.out.lift' hV
      have HAl0 := Lib.hid hal
      have HB0 := Lib.hid (HBw.out.trans (hal.mono HBw.out.size))
      have hsz0 : (wr.alloc (.cells #[.slice ca zn cc, .int .i64 0] 29)).heap.size = wr.heap.size + 1 := by simp
      have HSz0 := Lib.hid hsz0
      have hbw : w.heap.size ≤ wr.heap.size := HBw.out.size
      have HD := Lib.hid (fun w => datasB_any bits w)
      have HD0 := Lib.hid (fun w => datasB_any bits w)
      have HLv := Lib.hid (fun w => mkLeaves_any w)
      have HNm := Lib.hid (fun w => mkNamed_any w)
      have HMk := Lib.hid (mkType_any 3)
      have HSg := Lib.hid (someG_two bits)
      have HGd := Lib.hid (dsOf_good bits)
      have hdl : (dsOf bits).length ≤ 9 := by have := (dsOf_some bits).1; omega
      clear hal hsz0 HZ HCi HM HNs HNS hb HB1 HS1 HBw HSw HFwp hj hlt hm4
      go_wp2_with fail
      go_at_call 13
      generalize (wr.alloc (.cells #[.slice ca zn cc, .int .i64 0] 29)) = w0 at *
      generalize wr.heap.size = b at *
      refine (HD.out w0).mono ?_
      rintro e w1 ⟨dv, rfl, ho, hb1⟩
      generalize dsOf bits = ds at *
      obtain ⟨da, dc, rfl, -⟩ := slice_form ho.slG
      obtain ⟨base, k1, k2, hrow⟩ := ho
      have HRw := Lib.hid hrow
      have hrlt := Lib.hid (fun k e => RowG.lt hrow k e)
      have HB1 := Lib.hid hb1
      have HBar := Lib.hid (fun V Z S => bars_at V Z S)
      have HAl : Hid (∀ X, Below w1.heap.size w1 (w1.alloc X)) := fun X => (Below.refl _ w1).alloc (Nat.le_refl _) X
      have HRwA := Lib.hid (fun X => HRw.out.lift (HAl.out X))
      obtain ⟨dn, hdn⟩ : ∃ n, n = ds.length := ⟨_, rfl⟩
      have HDn := Lib.hid hdn
      rw [← hdn] at hdl HRw HRwA hrlt ⊢
      have hk2 : base ≤ (w1.heap.size + 1) := by omega
      have HK2 := Lib.hid hk2
      have HK1 := Lib.hid k1
      clear hrow hb1 hdn k1 k2 hk2
      go_wp2_with (first
        | (at_builtin; refine wpList_pushM DatE rfl _ _ rfl base (fun c => w0.heap.size ≤ c) (.slice da dn dc) ds rfl (HRwA.out _) ⟨w1.heap.size, 0, none⟩ 2 2 rfl [goneD, barD] rfl (HBar.out _ _ _) (dn + 2) (by rw [HDn.out]) (by omega) (by have := HK2.out; simp; omega) ?_; intro a2 c2 w2 hrow2 hg2; have HRow2 := Lib.hid hrow2; have hb2 := Below.grown (HB1.out.trans ((HAl.out _).mono HB1.out.size)) hg2 (Nat.le_trans HB1.out.size (HAl.out _).size) (fun k e => Nat.le_trans HK1.out (hrlt.out k e).1); clear hrow2 hg2))
      go_at_call 14
      refine (HLv.out _).mono ?_
      rintro e w3 ⟨v, rfl, hrow, hb3⟩
      have HRow := Lib.hid hrow
      have hrlt3 := Lib.hid (fun k e => RowG.lt hrow k e)
      clear hrow HRw HRwA HBar HAl HD HLv
      go_wp2_with fail
      go_at_call 15
      refine (HNm.out _).mono ?_
      rintro e w4 ⟨nv, rfl, hsl, hb4⟩
      obtain ⟨na4, nc4, rfl⟩ := slG_some hsl
      have HNews := Lib.hid (slG_repL (SlG.kept (S' := fun c => w2.heap.size ≤ c ∧ some c ≠ v.ownBlock) (fun c hc => ⟨Nat.le_trans hb3.size hc, fun e => by have := (hrlt3.out c e.symm).2; omega⟩) (fun _ _ _ => rfl) hsl))
      have HRow4 := Lib.hid (HRow.out.lift hb4)
      have h12 := hb2.size
      have h23 := hb3.size
      have h34 := hb4.size
      have HB24 := Lib.hid (hb3.trans (hb4.mono h23))
      clear hsl hb3 hb4 HRow HNm
      go_wp2_with (at_builtin; refine wpList_pushT rfl _ _ rfl w2.heap.size (fun c => w2.heap.size ≤ c) v leavesL rfl (rowT_of HRow4.out) na4 3 nc4 rfl namedL rfl (repL_at HNews.out) 11 rfl (by decide) HB24.out.size ?_; intro a5 c5 w5 hrow5 hg5 _; have HRow5 := Lib.hid hrow5; have HG5 := Lib.hid hg5; clear hrow5 hg5)
      go_at_call 12
      have hb25 : Below w2.heap.size w2 w5 := Below.grown HB24.out HG5.out HB24.out.size (fun k hk => (hrlt3.out k hk).1)
      have hb05 : Below w0.heap.size w0 w5 := hb2.trans (hb25.mono h12)
      have h25 := hb25.size
      have hs0 : w0.heap.size = b + 1 := HSz0.out
      have hd5 : SlG DatE w5 (fun c => b < c) (ds ++ [goneD, barD]) (.slice a2 (dn + 2) c2) := SlG.kept (fun c hc => by omega) (fun c hc hlt => hb25.block c hlt) ((HRow2.out.slG (S' := fun c => w0.heap.size ≤ c) (fun _ h => h) (fun c hc => Nat.le_trans HK1.out hc)).bound)
      have hl5 : SlG TyE w5 (fun c => b < c) (leavesL ++ namedL) (.slice a5 11 c5) := (rowG_of HRow5.out).slG (fun c hc => by omega) (fun c hc => by omega)
      refine (HMk.out 3 (ds ++ [goneD, barD]) _ (leavesL ++ namedL) _ (fun c => b < c) b w5.heap.size w5 rfl (by decide) HSg.out bothL_ok hd5 hl5 (fun c hc => Nat.ne_of_gt hc) (HT0.out.lift hb05) (Nat.le_refl _)).mono ?_
      rintro e w6 ⟨u, rfl, T, hrep, hok, htq, hg6⟩
      obtain ⟨uk, un, ui, uh, ua, um, uc, rfl⟩ := hrep.form
      have HX := Lib.hid (md_new (HB0.out.trans (hb05.mono HB0.out.size)) hbw hrep hok hg6)
      have hb06 : Below b w0 w6 := Below.grown (hb05.mono (by omega)) hg6 (by omega) (fun k hk => by cases hk; exact Nat.le_refl _)
      clear hrep hok htq hg6 hd5 hl5 hb25 hb05 HRow5 HG5 HB24 HRow4 HNews HRow2 hb2 HK1 HK2 hrlt hrlt3 HMk HT0 h12 h23 h34 h25 hs0
      have HNSw := Lib.hid (HNSl.out w6 (HAl0.out.trans hb06))
      have hal : Below w6.heap.size w6 (w6.alloc (.cells #[.int .i64 uk, .string un, .int .i64 ui, .int .i64 uh, .slice ua um uc] 32)) := (Below.refl _ w6).alloc (Nat.le_refl _) _
      have HNS := Lib.hid (HNSw.out.lift' hal)
      clear HNSw hal hb06 HNSl HAl0
      go_upto_region 12 with fail
      generalize (w6.alloc (.cells #[.int .i64 uk, .string un, .int .i64 ui, .int .i64 uh, .slice ua um uc] 32)) = W at *
      generalize w6.heap.size = A at *
      have HD2 : Hid (∀ V, Calls Try.prog 13 #[.int .i64 bits] V fun e w' => ∃ a c, e = .returned (.slice a dn c) ∧ SlG DatE w' (fun _ => True) ds (.slice a dn c) ∧ Below V.heap.size V w') := fun V => (HD0.out V).mono fun e w' ⟨dv, h1, h2, h3⟩ => by
        obtain ⟨a, c, rfl, -⟩ := slice_form h2.slG
        rw [← HDn.out] at h1 h2
        obtain ⟨_, _, _, hr⟩ := h2
        exact ⟨a, c, h1, hr.slG (fun _ _ => trivial) (fun _ _ => trivial), h3⟩
      have hfl := valid_flat T HX.out.ok.1
      have hfe := frm_eq ds ns T hfl.1
      have HF1 : Hid (∀ V a c, Below W.heap.size W V → SlG DatE V (fun _ => True) ds (.slice a dn c) → Calls Try.prog 16 #[.slice a dn c, .agg #[.int .i64 uk, .string un, .int .i64 ui, .int .i64 uh, .slice ua um uc], .slice sa m sc] V fun e w' => e = .returned (.int .i64 (frmR ds ns T)) ∧ Below V.heap.size V w') := fun V a c hV hd => by
        have := pkFormed_any ds HGd.out.sized ns T _ _ _ _ _ _ V hd (HNS.out.lift' hV) (HX.out.rep.lift hV)
        rwa [hfe] at this
      have HF2 : Hid (∀ V a c, Below W.heap.size W V → SlG DatE V (fun _ => True) ds (.slice a dn c) → Calls Try.prog 17 #[.slice a dn c, .agg #[.int .i64 uk, .string un, .int .i64 ui, .int .i64 uh, .slice ua um uc], .slice sa m sc] V fun e w' => e = .returned (.int .i64 (frmR ds ns T)) ∧ Below V.heap.size V w') := fun V a c hV hd =>
        refFormed_any ds ns T _ _ _ _ _ _ V hd (HNS.out.lift' hV) (HX.out.rep.lift hV)
      have HK : Hid (∀ V, Below W.heap.size W V → V.cell? ⟨A, 0, none⟩ = some (.int .i64 uk) ∧ V.cell? ⟨A, 1, none⟩ = some (.string un) ∧ V.cell? ⟨A, 2, none⟩ = some (.int .i64 ui) ∧ V.cell? ⟨A, 3, none⟩ = some (.int .i64 uh) ∧ V.cell? ⟨A, 4, none⟩ = some (.slice ua um uc) ∧ Below W.heap.size W V) := fun V hV => by
        obtain ⟨l0, l1, l2, l3, l4⟩ := (HX.out.box.lift hV).cells
        exact ⟨l0, l1, l2, l3, l4, hV⟩
      have HLow := Lib.hid HX.out.low
      generalize frmR ds ns T = fr at *
      have hfr : (fr == fr) = true := by simp
      have hdr : Below W.heap.size W W.drew := (Below.refl _ W).drew
      have tok1 : True := trivial
      have tok2 : True := trivial
      clear HX hfl hfe HNS
      go_region_held3 (fun V => V.cell? ⟨A, 0, none⟩ = some (.int .i64 uk) ∧ V.cell? ⟨A, 1, none⟩ = some (.string un) ∧ V.cell? ⟨A, 2, none⟩ = some (.int .i64 ui) ∧ V.cell? ⟨A, 3, none⟩ = some (.int .i64 uh) ∧ V.cell? ⟨A, 4, none⟩ = some (.slice ua um uc) ∧ Below W.heap.size W V)
        (with_reducible exact HK.out _ (by assumption))
        (first
          | (go_at_call 13; have _t := tok1; (with_reducible refine (HD2.out _).mono ?_); rintro e w' ⟨da1, dc1, rfl, ho, hb⟩; have HO1 := Lib.hid ho; have hk := keepCall' (W := W) (by assumption) hb; clear ho tok1)
          | (go_at_call 16; (with_reducible refine (HF1.out _ _ _ (by assumption) HO1.out).mono ?_); rintro e w' ⟨rfl, hb⟩; have hk := keepCall' (W := W) (by assumption) hb)
          | (go_at_call 13; have _t := tok2; (with_reducible refine (HD2.out _).mono ?_); rintro e w' ⟨da2, dc2, rfl, ho, hb⟩; have HO2 := Lib.hid ho; have hk := keepCall' (W := W) (by assumption) hb; clear ho tok2)
          | (go_at_call 17; (with_reducible refine (HF2.out _ _ _ (by assumption) HO2.out).mono ?_); rintro e w' ⟨rfl, hb⟩; have hk := keepCall' (W := W) (by assumption) hb))
      all_goals
        have hfin : Below W.heap.size W w' := by assumption
        go_wp2
        go_ret
        exact ⟨rfl, HLow.out.trans (hfin.mono HLow.out.size)⟩
end Go.Proofs.Ytfkbifbodpelmaa

/- The law DeclareFormed returns true at every input, and every argument reads behind the call as it read before. No condition. -/
namespace Go.Proofs.Ytfkbifbodpelmaa.declareFormed
open Go.ChangeShapes Go.WideShapes Go.ChangeAt Go.ChangeMaps Go.RowKit

set_option maxRecDepth 100000 in
/-- What the walk gives for every argument and every world. -/
theorem contract (H : Type) (enc : TypeId × Value → H) (W : World) (base : Nat) (args : Array Value) (ds gs : List (DataW H)) (before : List MemPlace)
    (hval : ∀ (j : Nat) t v, Try.f3.params[j]? = some t → args[j]? = some v → Value.okWide Try.prog W .any base t v)
    (hW : DataW.Whole enc Try.prog Try.f3.params.toList Rows.declareFormedSpec.vars false W args.toList ds gs before) :
    Calls Try.prog 3 args W fun e W' => ∃ v, e = .returned v ∧ Rows.declareFormedSpec.post enc Try.prog Try.f3 false true false false W args v W' := by
  have hW' := hW
  obtain ⟨p, q, hA0, hV, rfl, hfz, hnd⟩ := hW
  have hA : DataW.TrodAll enc Try.prog W 0 (fun _ => true) true Try.f3.params.toList args.toList ds p := hA0
  rw [Try.params3] at hA hval
  obtain ⟨v0, vs0, d0, ds0, p0, q0, hargs, rfl, rfl, h0, r0⟩ := trodAll_cons hA
  obtain ⟨v1, vs1, d1, ds1, p1, q1, rfl, rfl, rfl, h1, r1⟩ := trodAll_cons r0
  obtain ⟨v2, vs2, d2, ds2, p2, q2, rfl, rfl, rfl, h2, r2⟩ := trodAll_cons r1
  obtain ⟨rfl, rfl, rfl⟩ := trodAll_nil r2
  obtain rfl : args = #[v0, v1, v2] := by cases args; simp_all
  obtain ⟨rfl, rfl⟩ := trodVars_none hV
  obtain ⟨bits, rfl, rfl, rfl, wbits⟩ := open_int Try.underlying3 (hval 0 3 v0 rfl rfl) h0
  obtain ⟨zs, wzs⟩ := ints_open (hval 1 22 v1 rfl rfl) h1
  obtain ⟨ids, wids⟩ := ints_open (hval 2 22 v2 rfl rfl) h2
  refine (declareFormed_any bits v1 zs v2 ids W wzs wids).mono fun e W' ⟨he, hb⟩ => ?_
  subst he
  exact law_post rfl (by kernel_rfl) rfl hW' rfl rfl rfl hb

set_option maxRecDepth 100000 in
theorem lifted (os : Os) (started : os.Started) (H : Type) (enc : TypeId × Value → H) :
    ReturnsInHanded {} Try.checked os 3 .any (Rows.declareFormedSpec.pre6 enc Try.prog Try.f3 Rows.declareFormedRow.domain false) (Rows.declareFormedSpec.post enc Try.prog Try.f3 false true false false) := by
  refine returnsInHanded_of_change (C := Try.checked) Try.own started (by kernel_rfl) Try.func3
    (ChangeSpec.witness6 (enc := enc) (C := Try.checked) false ⟨#[], #[.int .i64 0, .slice none 0 0, .slice none 0 0], []⟩ 8 (by kernel_rfl) (by kernel_rfl) (by kernel_rfl) (by kernel_rfl)) ?_
  intro W base args ds gs before hval hW _ _
  exact contract H enc W base args ds gs before hval hW

theorem said : Rows.DeclareFormedSaid :=
  OpenClaim.holds_of_wide 3 Try.f3 rfl rfl rfl rfl rfl rfl rfl ⟨rfl, rfl, rfl, rfl, rfl⟩ rfl rfl rfl rfl rfl (by kernel_rfl) Try.func3 (by kernel_rfl)
    (of_decide_eq_true (by kernel_rfl)) (by unfold Func.isWrapper; first | (rw [if_pos (by decide +kernel)]; kernel_rfl) | (rw [if_neg (by decide +kernel)]; exact ⟨rfl, rfl⟩))
    (fun os started H enc _ => lifted os started H enc)

#print axioms said
end Go.Proofs.Ytfkbifbodpelmaa.declareFormed
