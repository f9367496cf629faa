import Derived.Test.YtfkbifbodpelmaaQG
import Derived.Test.YtfkbifbodpelmaaQT
/- The law DeclareFinds returns true at every input, if the law's made does as it is to do. -/
namespace Go.Proofs.Ytfkbifbodpelmaa
open Go.RowKit Go.Sort Go.Shelf Go.Maps Mth

def nm8 : List ByteArray := [⟨#[65]⟩, ⟨#[66]⟩, ⟨#[78, 105, 108]⟩, ⟨#[67, 111, 110, 115]⟩, ⟨#[84, 114, 117, 101]⟩, ⟨#[80, 97, 105, 114]⟩, ⟨#[66, 111, 116, 104]⟩, ⟨#[70, 117, 110]⟩]
theorem nm8_at {i : Int} (h1 : 0 ≤ i) (h2 : i < 8) : ∃ (k : Nat) (s : ByteArray), i = k ∧ nm8[k]? = some s := by
  obtain ⟨k, rfl⟩ : ∃ k : Nat, i = k := ⟨i.toNat, by omega⟩
  have hk : k < nm8.length := by show k < 8; omega
  exact ⟨k, nm8[k], rfl, List.getElem?_eq_getElem hk⟩
theorem nm8_cell (w : World) (Z : TypeId) {k : Nat} {s : ByteArray} (h : nm8[k]? = some s) : (w.alloc (.cells #[.string ⟨#[65]⟩, .string ⟨#[66]⟩, .string ⟨#[78, 105, 108]⟩, .string ⟨#[67, 111, 110, 115]⟩, .string ⟨#[84, 114, 117, 101]⟩, .string ⟨#[80, 97, 105, 114]⟩, .string ⟨#[66, 111, 116, 104]⟩, .string ⟨#[70, 117, 110]⟩] Z)).cell? ⟨w.heap.size, k, none⟩ = some (.string s) := by
  have hk : k < 8 := (List.getElem?_eq_some_iff.1 h).1
  have hk' : k = 0 ∨ k = 1 ∨ k = 2 ∨ k = 3 ∨ k = 4 ∨ k = 5 ∨ k = 6 ∨ k = 7 := by omega
  unfold nm8 at h
  rcases hk' with rfl | rfl | rfl | rfl | rfl | rfl | rfl | rfl
  all_goals
    simp at h
    subst h
    simp
/-- A row of two lists. -/
structure TwoD (A : Nat) (V : World) : Prop where
  row : ∀ j : Nat, j < 2 → ∃ (a : Option Addr) (m c : Nat) (ds : List Dat), V.cell? ⟨A, j, none⟩ = some (.slice a m c) ∧ SlG DatE V (fun _ => True) ds (.slice a m c) ∧ GoodD ds
theorem TwoD.lift {A : Nat} {V V' : World} (h : TwoD A V) (hb : Below V.heap.size V V') : TwoD A V' := ⟨fun j hj => by
  obtain ⟨a, m, c, ds, h1, h2, h3⟩ := h.row j hj
  exact ⟨a, m, c, ds, (hb.cell (World.block_lt_of_cell? _ _ h1)).trans h1, h2.lift' hb, h3⟩⟩
theorem two_str (w : World) (Z : TypeId) (s t : ByteArray) (j : Nat) (hj : j < 2) : ∃ u, (w.alloc (.cells #[.string s, .string t] Z)).cell? ⟨w.heap.size, j, none⟩ = some (.string u) := by
  have : j = 0 ∨ j = 1 := by omega
  rcases this with rfl | rfl
  · exact ⟨s, by simp⟩
  · exact ⟨t, by simp⟩
set_option maxRecDepth 100000 in
set_option maxHeartbeats 3200000 in
theorem declareFinds_of (HMA : MadeAt) (cv : Value) (zs : List Int) (bits : Int) (nm : ByteArray) (n : Int) (w : World) (hz : Ints w cv zs) (hnm : nm.size ≤ maxLen) :
    Calls Try.prog 5 #[cv, .int .i64 bits, .string nm, .int .i64 n] w fun e w' => e = .returned (.bool true) ∧ Below w.heap.size w w' := by
  have HFi := Lib.hid (fun w => first9_any w)
  have HFw : Hid (∀ w', Below w.heap.size w w' → Calls Try.prog 10 #[cv] w' fun e w'' => e = .returned (.bool (decide (zs.length ≤ 60))) ∧ w' = w'') := fun w' hb => few_any cv zs w' (hz.lift hb)
  have HMd : Hid (zs.length ≤ 60 → ∀ V, Below w.heap.size w V → w.heap.size < V.heap.size → Calls Try.prog 18 #[cv] V fun e w' => ∃ a m c ds, e = .returned (.slice a m c) ∧ GoodD ds ∧ SlG DatE w' (fun _ => True) ds (.slice a m c) ∧ Below V.heap.size V w') := fun h V hV hl => (HMA cv zs V w (by omega) hz hV hl).mono fun e w' ⟨v, ds, h1, h2, h3, h4⟩ => by
    obtain ⟨a, c, rfl, -⟩ := slice_form h3
    exact ⟨a, _, c, ds, h1, h2.good, h3, h4⟩
  obtain ⟨ca, cc, rfl, -, -, -⟩ := hz
  generalize zs.length = zn at *
  unfold maxLen at hnm
  clear HMA
  cases hfw : decide (zn ≤ 60) <;> by_cases h20 : (20 : Int) < (nm.size : Int)
  all_goals
    rw [hfw] at HFw
    have HFwp := Lib.hid hfw
    clear hfw
    go_enter Try.func5, Try.ntmps5
    go_wp2_with fail
    go_at_call 9
    refine (HFi.out _).mono ?_
    rintro e w1 ⟨rfl, hb1, hs1⟩
    go_wp2_with (first
      | (go_at_call 10; refine (HFw.out _ hb1).mono ?_; rintro e w2 ⟨rfl, rfl⟩))
  any_goals (go_ret; exact ⟨rfl, hb1⟩)
  refine (HMd.out (of_decide_eq_true HFwp.out) w1 hb1 hs1).mono ?_
  rintro e w2 ⟨a1, m1, c1, ds1, rfl, hg1, hd1, hb2⟩
  have HB2 := Lib.hid (hb1.trans (hb2.mono hb1.size))
  have HG1 := Lib.hid hg1
  have HD1 := Lib.hid hd1
  have HD := Lib.hid (fun w => datasB_any bits w)
  have HGd := Lib.hid (dsOf_good bits)
  obtain ⟨r, s, hr, hs⟩ := nm8_at (Int.emod_nonneg n (b := 8) (by omega)) (Int.emod_lt_of_pos n (b := 8) (by omega))
  have HMod2 : Hid (∀ W, Calls Try.prog 11 #[.int .i64 n, .int .i64 8] W fun e W' => e = .returned (.int .i64 (r : Int)) ∧ W = W') := fun W => by
    have := mod_any n 8 W (by decide) (by decide)
    rwa [hr] at this
  have hr8 : r < 8 := (List.getElem?_eq_some_iff.1 hs).1
  have hr8i : (r : Int) < 8 := by omega
  have HSc := Lib.hid (fun w => nm8_cell w 9 hs)
  clear hg1 hd1 hb1 hs1 hb2 HMd HFw HFwp HFi hr hs h20 hnm
  go_wp2_with fail
  go_at_call 13
  refine (HD.out w2).mono ?_
  rintro e w3 ⟨dv, rfl, ho, hb3⟩
  generalize dsOf bits = ds2 at *
  obtain ⟨a2, c2, rfl, -⟩ := slice_form ho.slG
  obtain ⟨base, -, -, hrow⟩ := ho
  have hal : Below w3.heap.size w3 (w3.alloc (.cells #[.slice a1 m1 c1, .slice a2 ds2.length c2] 34)) := (Below.refl _ w3).alloc (Nat.le_refl _) _
  have HB3 := Lib.hid (HB2.out.trans ((hb3.trans (hal.mono hb3.size)).mono HB2.out.size))
  have HTw : Hid (TwoD w3.heap.size (w3.alloc (.cells #[.slice a1 m1 c1, .slice a2 ds2.length c2] 34))) := ⟨fun j hj => by
    have : j = 0 ∨ j = 1 := by omega
    rcases this with rfl | rfl
    · exact ⟨a1, m1, c1, ds1, by simp, HD1.out.lift' (hb3.trans (hal.mono hb3.size)), HG1.out⟩
    · exact ⟨a2, _, c2, ds2, by simp, (hrow.slG (fun _ _ => trivial) (fun _ _ => trivial)).lift' hal, HGd.out⟩⟩
  clear hrow hb3 hal HB2 HD1 HG1 HD HGd
  generalize ds2.length = dn2 at *
  go_wp2_with fail
  generalize (w3.alloc (.cells #[.slice a1 m1 c1, .slice a2 dn2 c2] 34)) = W at *
  generalize w3.heap.size = A at *
  have HR0 : Hid (Below W.heap.size W W) := Below.refl _ W
  go_loopw [39] (fun x wr => ∃ j : Nat, j ≤ 2 ∧ x = .int .i64 j ∧ Below W.heap.size W wr) (fun x _ => 2 - (intOf x).toNat)
  case atStart => exact ⟨0, by decide, rfl, HR0.out⟩
  case round =>
    obtain ⟨j, hj, rfl, hB⟩ := hrel
    by_cases hj2 : j < 2
    · obtain ⟨a, m, c, ds, hcell, hsl, hgd⟩ := (HTw.out.lift hB).row j hj2
      have HSl := Lib.hid hsl
      have HGd := Lib.hid hgd
      have hji : (j : Int) < 2 := by omega
      have hsc := HSc.out wr
      have hA1 : ∀ X, Below wr.heap.size wr (wr.alloc X) := fun X => (Below.refl _ wr).alloc (Nat.le_refl _) X
      have HA1 := Lib.hid hA1
      clear hsl hgd hA1
      go_wp2_with (go_at_call 11; refine (HMod2.out _).mono ?_; rintro e w4 ⟨rfl, rfl⟩)
      have HSt2 : Hid (∀ i : Nat, i < 2 → ∃ u, ((wr.alloc (.cells #[.string ⟨#[65]⟩, .string ⟨#[66]⟩, .string ⟨#[78, 105, 108]⟩, .string ⟨#[67, 111, 110, 115]⟩, .string ⟨#[84, 114, 117, 101]⟩, .string ⟨#[80, 97, 105, 114]⟩, .string ⟨#[66, 111, 116, 104]⟩, .string ⟨#[70, 117, 110]⟩] 9)).alloc (.cells #[.string nm, .string s] 9)).cell? ⟨wr.heap.size + 1, i, none⟩ = some (.string u)) := fun i hi => by
        have := two_str (wr.alloc (.cells #[.string ⟨#[65]⟩, .string ⟨#[66]⟩, .string ⟨#[78, 105, 108]⟩, .string ⟨#[67, 111, 110, 115]⟩, .string ⟨#[84, 114, 117, 101]⟩, .string ⟨#[80, 97, 105, 114]⟩, .string ⟨#[66, 111, 116, 104]⟩, .string ⟨#[70, 117, 110]⟩] 9)) 9 nm s i hi
        have e : (wr.alloc (.cells #[.string ⟨#[65]⟩, .string ⟨#[66]⟩, .string ⟨#[78, 105, 108]⟩, .string ⟨#[67, 111, 110, 115]⟩, .string ⟨#[84, 114, 117, 101]⟩, .string ⟨#[80, 97, 105, 114]⟩, .string ⟨#[66, 111, 116, 104]⟩, .string ⟨#[70, 117, 110]⟩] 9)).heap.size = wr.heap.size + 1 := by simp
        rw [e] at this
        exact this
      have hA2 : Below wr.heap.size wr ((wr.alloc (.cells #[.string ⟨#[65]⟩, .string ⟨#[66]⟩, .string ⟨#[78, 105, 108]⟩, .string ⟨#[67, 111, 110, 115]⟩, .string ⟨#[84, 114, 117, 101]⟩, .string ⟨#[80, 97, 105, 114]⟩, .string ⟨#[66, 111, 116, 104]⟩, .string ⟨#[70, 117, 110]⟩] 9)).alloc (.cells #[.string nm, .string s] 9)) := (HA1.out _).trans (((Below.refl _ _).alloc (Nat.le_refl _) _).mono (HA1.out _).size)
      have HSl2 := Lib.hid (HSl.out.lift' hA2)
      have HBo := Lib.hid (hB.trans (hA2.mono hB.size))
      clear hcell hsc HSl hB hA2
      generalize ((wr.alloc (.cells #[.string ⟨#[65]⟩, .string ⟨#[66]⟩, .string ⟨#[78, 105, 108]⟩, .string ⟨#[67, 111, 110, 115]⟩, .string ⟨#[84, 114, 117, 101]⟩, .string ⟨#[80, 97, 105, 114]⟩, .string ⟨#[66, 111, 116, 104]⟩, .string ⟨#[70, 117, 110]⟩] 9)).alloc (.cells #[.string nm, .string s] 9)) = W2 at *
      generalize wr.heap.size + 1 = A2 at *
      have HR2 : Hid (Below W2.heap.size W2 W2) := Below.refl _ W2
      go_loopw [51] (fun x wr => ∃ i : Nat, i ≤ 2 ∧ x = .int .i64 i ∧ Below W2.heap.size W2 wr) (fun x _ => 2 - (intOf x).toNat)
      case atStart => exact ⟨0, by decide, rfl, HR2.out⟩
      case round =>
        obtain ⟨i, hi, rfl, hB⟩ := hrel
        by_cases hi2 : i < 2
        · obtain ⟨u, hu⟩ := HSt2.out i hi2
          have hu' := (hB.cell (World.block_lt_of_cell? _ _ hu)).trans hu
          have hii : (i : Int) < 2 := by omega
          have HSq := Lib.hid (HSl2.out.lift' hB)
          have HFa : Hid (Calls Try.prog 21 #[.slice a m c, .string u] wr fun e w' => e = .returned (.tuple #[.int .i64 (fa (fnd ds u)), .int .i64 (fb (fnd ds u)), .bool (fnd ds u).isSome]) ∧ Below wr.heap.size wr w') := by
            have := find_any ds u _ _ wr HSq.out
            rwa [fndV_form] at this
          have HFb : Hid (∀ V, Below wr.heap.size wr V → Calls Try.prog 22 #[.slice a m c, .string u] V fun e w' => e = .returned (.tuple #[.int .i64 (fa (fnd ds u)), .int .i64 (fb (fnd ds u)), .bool (fnd ds u).isSome]) ∧ V = w') := fun V hV => by
            have := refFind_any ds u _ _ V (HSq.out.lift' hV)
            rwa [fndV_form] at this
          have HCa : Hid (∀ V, Below wr.heap.size wr V → Calls Try.prog 23 #[.slice a m c, .string u] V fun e w' => SchE w' (fun _ => True) (sch ds u) e ∧ Below V.heap.size V w') := fun V hV => constructor_any ds HGd.out u _ _ V (HSq.out.lift' hV)
          have HCb : Hid (∀ V, Below wr.heap.size wr V → Calls Try.prog 24 #[.slice a m c, .string u] V fun e w' => SchE w' (fun _ => True) (sch ds u) e ∧ Below V.heap.size V w') := fun V hV => refConstructor_any ds HGd.out u _ _ V (HSq.out.lift' hV)
          generalize fa (fnd ds u) = qa at *
          generalize fb (fnd ds u) = qb at *
          generalize (fnd ds u).isSome = qc at *
          generalize sch ds u = o at *
          clear hu HSq
          go_wp2_with (first
            | (go_at_call 21; refine HFa.out.mono ?_; rintro e w4 ⟨rfl, hb4⟩)
            | (go_at_call 22; refine (HFb.out _ hb4).mono ?_; rintro e w5 ⟨rfl, rfl⟩))
          refine (HCa.out _ hb4).mono ?_
          rintro e w5 ⟨h1, hb5⟩
          obtain ⟨k1, n1, i1, hh1, x1, y1, z1, rfl, hr1⟩ := schE_form h1
          have HRc1 := Lib.hid hr1
          have HB5 := Lib.hid (hb4.trans (hb5.mono hb4.size))
          clear h1 hr1 hb4 hb5 HFa HFb HCa
          go_wp2_with fail
          go_at_call 24
          have hal5 : Below w5.heap.size w5 (w5.alloc (.cells #[.int .i64 (schN o), .int .i64 k1, .string n1, .int .i64 i1, .int .i64 hh1, .slice x1 y1 z1] 52)) := (Below.refl _ w5).alloc (Nat.le_refl _) _
          have HBx : Hid (BoxC 52 (w5.alloc (.cells #[.int .i64 (schN o), .int .i64 k1, .string n1, .int .i64 i1, .int .i64 hh1, .slice x1 y1 z1] 52)) w5.heap.size [.int .i64 (schN o), .int .i64 k1, .string n1, .int .i64 i1, .int .i64 hh1, .slice x1 y1 z1]) := BoxC.made _ w5 _
          have HRc2 := Lib.hid (HRc1.out.lift hal5)
          have HB6 := Lib.hid (HB5.out.trans (hal5.mono HB5.out.size))
          clear HRc1 HB5 hal5
          generalize (w5.alloc (.cells #[.int .i64 (schN o), .int .i64 k1, .string n1, .int .i64 i1, .int .i64 hh1, .slice x1 y1 z1] 52)) = W5 at *
          generalize w5.heap.size = B5 at *
          refine (HCb.out W5 HB6.out).mono ?_
          rintro e w6 ⟨h2, hb6⟩
          obtain ⟨k2, n2, i2, hh2, x2, y2, z2, rfl, hr2⟩ := schE_form h2
          have hal6 : Below w6.heap.size w6 (w6.alloc (.cells #[.int .i64 (schN o), .int .i64 k2, .string n2, .int .i64 i2, .int .i64 hh2, .slice x2 y2 z2] 52)) := (Below.refl _ w6).alloc (Nat.le_refl _) _
          have HBy : Hid (BoxC 52 (w6.alloc (.cells #[.int .i64 (schN o), .int .i64 k2, .string n2, .int .i64 i2, .int .i64 hh2, .slice x2 y2 z2] 52)) w6.heap.size [.int .i64 (schN o), .int .i64 k2, .string n2, .int .i64 i2, .int .i64 hh2, .slice x2 y2 z2]) := BoxC.made _ w6 _
          have HBx2 := Lib.hid ((HBx.out.lift hb6).lift hal6)
          have HRd1 := Lib.hid ((HRc2.out.lift hb6).lift hal6)
          have HRd2 := Lib.hid (hr2.lift hal6)
          have HB7 := Lib.hid (HB6.out.trans ((hb6.trans (hal6.mono hb6.size)).mono HB6.out.size))
          clear h2 hr2 hb6 hal6 HBx HRc2 HB6 HCb
          go_upto_region 15 with fail
          generalize (w6.alloc (.cells #[.int .i64 (schN o), .int .i64 k2, .string n2, .int .i64 i2, .int .i64 hh2, .slice x2 y2 z2] 52)) = W6 at *
          generalize w6.heap.size = B6 at *
          have p0 := HBx2.out.cell 0 _ rfl; have p1 := HBx2.out.cell 1 _ rfl; have p2 := HBx2.out.cell 2 _ rfl; have p3 := HBx2.out.cell 3 _ rfl; have p4 := HBx2.out.cell 4 _ rfl; have p5 := HBx2.out.cell 5 _ rfl
          have q0 := HBy.out.cell 0 _ rfl; have q1 := HBy.out.cell 1 _ rfl; have q2 := HBy.out.cell 2 _ rfl; have q3 := HBy.out.cell 3 _ rfl; have q4 := HBy.out.cell 4 _ rfl; have q5 := HBy.out.cell 5 _ rfl
          have HEq := Lib.hid (schEqual_any (schN o) (schT o) k1 n1 i1 hh1 x1 y1 z1 k2 n2 i2 hh2 x2 y2 z2 _ _ W6 HRd1.out HRd2.out)
          generalize o.isSome = ob at *
          generalize ((schN o : Nat) : Int) = on at *
          clear HRd1 HRd2 HBx2 HBy
          go_wp2_with (go_at_call 25; refine HEq.out.mono ?_; rintro e w7 ⟨rfl, hb7⟩; have HB8 := Lib.hid (hB.trans ((HB7.out.trans (hb7.mono HB7.out.size)).mono hB.size)))
          go_roundw
          case rel => exact ⟨i + 1, hi2, by go_num, HB8.out⟩
          case measure => simp [intOf]; omega
        · go_wp2
          go_roundw
          case rel => exact ⟨j + 1, hj2, by go_num, HBo.out.trans (hB.mono HBo.out.size)⟩
          case measure => simp [intOf]; omega
    · go_wp2
      go_ret
      exact ⟨rfl, HB3.out.trans (hB.mono HB3.out.size)⟩
end Go.Proofs.Ytfkbifbodpelmaa

/- The law DeclareFinds returns true at every input, and every argument reads behind the call as it read before. No condition. -/
namespace Go.Proofs.Ytfkbifbodpelmaa.declareFinds
open Go.ChangeShapes Go.WideShapes Go.ChangeAt Go.ChangeMaps Go.RowKit

set_option maxRecDepth 100000 in
/-- What the walk gives for every argument and every world. -/
theorem contract (H : Type) (enc : TypeId × Value → H) (W : World) (base : Nat) (args : Array Value) (ds gs : List (DataW H)) (before : List MemPlace)
    (hval : ∀ (j : Nat) t v, Try.f5.params[j]? = some t → args[j]? = some v → Value.okWide Try.prog W .any base t v)
    (hW : DataW.Whole enc Try.prog Try.f5.params.toList Rows.declareFindsSpec.vars false W args.toList ds gs before) :
    Calls Try.prog 5 args W fun e W' => ∃ v, e = .returned v ∧ Rows.declareFindsSpec.post enc Try.prog Try.f5 false true false false W args v W' := by
  have hW' := hW
  obtain ⟨p, q, hA0, hV, rfl, hfz, hnd⟩ := hW
  have hA : DataW.TrodAll enc Try.prog W 0 (fun _ => true) true Try.f5.params.toList args.toList ds p := hA0
  rw [Try.params5] at hA hval
  obtain ⟨v0, vs0, d0, ds0, p0, q0, hargs, rfl, rfl, h0, r0⟩ := trodAll_cons hA
  obtain ⟨v1, vs1, d1, ds1, p1, q1, rfl, rfl, rfl, h1, r1⟩ := trodAll_cons r0
  obtain ⟨v2, vs2, d2, ds2, p2, q2, rfl, rfl, rfl, h2, r2⟩ := trodAll_cons r1
  obtain ⟨v3, vs3, d3, ds3, p3, q3, rfl, rfl, rfl, h3, r3⟩ := trodAll_cons r2
  obtain ⟨rfl, rfl, rfl⟩ := trodAll_nil r3
  obtain rfl : args = #[v0, v1, v2, v3] := by cases args; simp_all
  obtain ⟨rfl, rfl⟩ := trodVars_none hV
  obtain ⟨zs, wzs⟩ := ints_open (hval 0 22 v0 rfl rfl) h0
  obtain ⟨bits, rfl, rfl, rfl, wbits⟩ := open_int Try.underlying3 (hval 1 3 v1 rfl rfl) h1
  obtain ⟨nm, rfl, rfl, rfl, wnm⟩ := open_string Try.underlying9 (hval 2 9 v2 rfl rfl) h2
  obtain ⟨n, rfl, rfl, rfl, wn⟩ := open_int Try.underlying3 (hval 3 3 v3 rfl rfl) h3
  refine (declareFinds_of made9_any v0 zs bits nm n W wzs wnm).mono fun e W' ⟨he, hb⟩ => ?_
  subst he
  exact law_post rfl (by kernel_rfl) rfl hW' rfl rfl rfl hb

set_option maxRecDepth 100000 in
theorem lifted (os : Os) (started : os.Started) (H : Type) (enc : TypeId × Value → H) :
    ReturnsInHanded {} Try.checked os 5 .any (Rows.declareFindsSpec.pre6 enc Try.prog Try.f5 Rows.declareFindsRow.domain false) (Rows.declareFindsSpec.post enc Try.prog Try.f5 false true false false) := by
  refine returnsInHanded_of_change (C := Try.checked) Try.own started (by kernel_rfl) Try.func5
    (ChangeSpec.witness6 (enc := enc) (C := Try.checked) false ⟨#[], #[.slice none 0 0, .int .i64 0, .string ⟨#[]⟩, .int .i64 0], []⟩ 8 (by kernel_rfl) (by kernel_rfl) (by kernel_rfl) (by kernel_rfl)) ?_
  intro W base args ds gs before hval hW _ _
  exact contract H enc W base args ds gs before hval hW

theorem said : Rows.DeclareFindsSaid :=
  OpenClaim.holds_of_wide 5 Try.f5 rfl rfl rfl rfl rfl rfl rfl ⟨rfl, rfl, rfl, rfl, rfl⟩ rfl rfl rfl rfl rfl (by kernel_rfl) Try.func5 (by kernel_rfl)
    (of_decide_eq_true (by kernel_rfl)) (by unfold Func.isWrapper; first | (rw [if_pos (by decide +kernel)]; kernel_rfl) | (rw [if_neg (by decide +kernel)]; exact ⟨rfl, rfl⟩))
    (fun os started H enc _ => lifted os started H enc)

#print axioms said
end Go.Proofs.Ytfkbifbodpelmaa.declareFinds
