/- Stores: the package's Size, as far as it counts without remembering. -/
import Derived.Test.YtejlhfjhpminjaaStWl
namespace Go.Proofs.Ytejlhfjhpminjaa
open Go.RowKit Go.Sort Go.Shelf Go.Maps Mth

def SzAt (P : Program) (f : Nat) (sl : List Slt) (n : Nat) (wk : Ty → Ty) (m : Nat) : Prop := ∀ (T : Ty) (sa : Option Addr) (sc : Nat) (ta : Option Addr) (tn tc : Nat) (v : Value) (S : Nat → Prop) (w : World), SlG SltE w S sl (.slice sa n sc) → Rep w S T v →
  Calls P f #[.agg #[.slice sa n sc, .slice ta tn tc], v, .int .i64 (m : Int)] w fun e w' => e = .returned (.int .i64 ((szF wk (m + 1) T m : Nat) : Int)) ∧ Below w.heap.size w w'
theorem szL_step {g : Ty → Nat → Nat} {ts : List Ty} {j q m : Nat} {t : Ty} (h : ts[j]? = some t) (hq : q ≤ m) : szL g (ts.drop j) q m = szL g (ts.drop (j + 1)) (q + g t (m - q)) m := by
  obtain ⟨hl, e⟩ := List.getElem?_eq_some_iff.1 h
  rw [List.drop_eq_getElem_cons hl, e, szL, if_pos hq]
set_option maxRecDepth 100000 in
set_option maxHeartbeats 6400000 in
theorem sizeSmall_of (sl : List Slt) (n : Nat) (hn : n = sl.length) (hm : n ≤ 1000000) (m : Nat) (hm4 : m ≤ 100000) (ih : ∀ k, k < m → SzAt Try.prog 28 sl n (walkF sl n) k) : SzAt Try.prog 28 sl n (walkF sl n) m := by
  intro T sa sc ta tn tc v S w hs hv
  obtain ⟨nm, xa, xn, xc, rfl, -, -⟩ := hv.frm
  have HW : Hid (∀ W, Below w.heap.size w W → Calls Try.prog 38 #[.agg #[.slice sa n sc, .slice ta tn tc], .agg #[.int .i64 T.k, .string nm, .int .i64 T.i, .int .i64 T.h, .slice xa xn xc]] W _) := fun W hb => walk_any sl T sa n sc ta tn tc _ S W hn hm (hs.up hb) (hv.lift hb)
  generalize T.k = k at *
  generalize T.i = i at *
  generalize T.h = hh at *
  obtain ⟨V, hV⟩ : ∃ V, V = (w.alloc (.cells #[.slice sa n sc, .slice ta tn tc] 27)).alloc (.cells #[.int .i64 k, .string nm, .int .i64 i, .int .i64 hh, .slice xa xn xc] 31) := ⟨_, rfl⟩
  have hVb : Below w.heap.size w V := by rw [hV]; exact ((Below.refl _ w).alloc (Nat.le_refl _) _).alloc (by simp) _
  have hB1 : BoxC 27 V w.heap.size [.slice sa n sc, .slice ta tn tc] := by unfold BoxC; rw [hV, heap_at, if_neg (by simp), heap_at, if_pos rfl]
  have hB2 : Box V (w.heap.size + 1) (.int .i64 k) (.string nm) (.int .i64 i) (.int .i64 hh) (.slice xa xn xc) := by unfold Box; rw [hV, heap_at, if_pos (by simp)]
  have HB1 := Lib.hid hB1
  have HVb := Lib.hid hVb
  have HSl := Lib.hid hs.bound
  have HBM : Hid (∀ w : World, Zero (w.alloc (.cells #[.int .i64 0, .string ⟨#[]⟩, .int .i64 0, .int .i64 0, .slice none 0 0] 31)) w.heap.size) := fun w => Box.made _ _ _ _ _ _
  have HIH : Hid (∀ q : Nat, 1 ≤ q → q ≤ m → ∀ (U : Ty) (v : Value) (S : Nat → Prop) (W : World), SlG SltE W S sl (.slice sa n sc) → Rep W S U v → Calls Try.prog 28 #[.agg #[.slice sa n sc, .slice ta tn tc], v, .int .i64 ((m : Int) - (q : Int))] W fun e w' => e = .returned (.int .i64 ((szF (walkF sl n) m U (m - q) : Nat) : Int)) ∧ Below W.heap.size W w') := fun q h1 h2 U v S W hsl hr => by
    have := ih (m - q) (by omega) U sa sc ta tn tc v S W hsl hr
    rw [szF_fuel (walkF sl n) (m - q) (m - q + 1) m U (by omega) (by omega), Int.ofNat_sub h2] at this
    exact this
  obtain ⟨c0, c1⟩ : V.cell? ⟨w.heap.size, 0, none⟩ = some (.slice sa n sc) ∧ V.cell? ⟨w.heap.size, 1, none⟩ = some (.slice ta tn tc) := ⟨hB1.cell 0 _ rfl, hB1.cell 1 _ rfl⟩
  obtain ⟨d0, d1, d2, d3, d4⟩ := hB2.cells
  obtain ⟨Q, hQ⟩ : ∃ Q, Q = walkF sl n T := ⟨_, rfl⟩
  have HR : Hid (szF (walkF sl n) (m + 1) T m = szL (szF (walkF sl n) m) Q.ts 1 m) := by show _ = _; rw [szF, hQ]
  rw [← hQ] at HW
  have HN := Lib.hid hn
  clear hB1 hB2 hv hs ih hQ hn
  generalize szF (walkF sl n) (m + 1) T m = R at *
  have hfld : ∀ (k : Int) (n : ByteArray) (i h : Int) (s : Value) (W : World), (Instr.field 31 (.agg #[.int .i64 k, .string n, .int .i64 i, .int .i64 h, s]) 4).run Try.prog W = .ok s W := fun k n i h s W => by kernel_rfl
  go_enter Try.func28, Try.ntmps28
  go_upto_region 1 with fail
  rw [← hV]
  clear hV
  go_wp2_with fail
  go_at_call 38
  refine (HW.out V hVb).mono ?_
  rintro e w1 ⟨⟨u, rfl, hr⟩, hb1⟩
  obtain ⟨un, ua, um, uc, rfl, -, hum⟩ := hr.frm
  generalize Q.k = uk at *
  generalize Q.i = ui at *
  generalize Q.h = uh at *
  have hw1 := hVb.trans (hb1.mono hVb.size)
  have HL : Hid (RepL w1 (fun b => S b ∧ b < V.heap.size) Q.ts (.slice ua um uc)) := by
    obtain ⟨_, _, _, _, _, eT, e, -, hl⟩ := hr.open
    simp at e
    obtain ⟨-, -, -, -, rfl⟩ := e
    exact hl
  have HB11 := Lib.hid (HB1.out.lift hb1)
  have HSl1 := Lib.hid (HSl.out.up hw1)
  have HW1 := Lib.hid hw1
  generalize hts : Q.ts = ts at *
  have HUm := Lib.hid hum
  have hmx : um ≤ 9223372036854775807 := by
    obtain ⟨a, cap, e, ⟨h1, h2⟩, -⟩ := HL.out
    unfold maxLen at h2
    omega
  have H0 : Hid (szL (szF (walkF sl n) m) (ts.drop 0) 1 m = R) := by show _ = _; rw [HR.out]; rfl
  clear hr hb1 hw1 c0 c1 d0 d1 d2 d3 d4 HB1 HSl HVb hVb HW hum hts HR
  go_wp2
  clear hfld
  go_loopw [7, 15] (fun y x wr => ∃ j q : Nat, j ≤ um ∧ x = .int .i64 j ∧ y = .int .i64 q ∧ 1 ≤ q ∧ q ≤ m + 1 ∧ Hid (szL (szF (walkF sl n) m) (ts.drop j) q m = R) ∧ Hid (Below w1.heap.size w1 wr)) (fun _ x _ => um - (intOf x).toNat)
  case atStart => exact ⟨0, 1, Nat.zero_le _, rfl, rfl, Nat.le_refl _, by omega, H0, Below.refl _ _⟩
  case round =>
    clear H0
    obtain ⟨j, q, hj, rfl, rfl, hq1, hq2, HE, HB⟩ := hrel
    have hbw := HB.out
    have hws := hbw.size
    by_cases hlt : j < um
    · have hji : (j : Int) < (um : Int) := by omega
      obtain ⟨U, hU⟩ : ∃ U, ts[j]? = some U := ⟨_, List.getElem?_eq_getElem (by rw [← HUm.out]; exact hlt)⟩
      obtain ⟨a', cap', e', -, hjj⟩ := HL.out
      simp only [Value.slice.injEq] at e'
      obtain ⟨rfl, -, rfl⟩ := e'
      obtain ⟨ad, x, rfl, hS, h5, hx⟩ := hjj j U hU
      obtain ⟨xn', xa', xm', xc', rfl, -, -⟩ := hx.frm
      obtain ⟨p0, p1, p2, p3, p4⟩ := five_at (h5.kept (hbw.block _ h5.lt))
      have HX : Hid (Rep wr (fun b => (S b ∧ b < V.heap.size) ∧ b < w1.heap.size) U _) := hx.bound.lift hbw
      clear hjj h5 hx hS
      have hstep : q ≤ m → szL (szF (walkF sl n) m) (ts.drop j) q m = szL (szF (walkF sl n) m) (ts.drop (j + 1)) (q + szF (walkF sl n) m U (m - q)) m := fun h => szL_step hU h
      have HSt := Lib.hid hstep
      have HLe := Lib.hid (szF_le (walkF sl n) m U (m - q))
      clear hU hstep
      have HZ := Lib.hid (HBM.out wr)
      generalize U.k = k' at *
      generalize U.i = i' at *
      generalize U.h = h' at *
      have hal := (Below.refl _ wr).alloc (Nat.le_refl _) (.cells #[.int .i64 0, .string ⟨#[]⟩, .int .i64 0, .int .i64 0, .slice none 0 0] 31)
      by_cases hqm : q ≤ m
      · have hqi : (q : Int) ≤ (m : Int) := by omega
        have HC := Lib.hid (HIH.out q hq1 hqm U)
        have HLq := HLe.out
        have HSq := Lib.hid (HSt.out hqm)
        clear HLe HSt
        go_upto_region 5 with (refine wpList_store5 rfl _ _ rfl _ _ _ _ _ _ HZ.out rfl _ _ _ _ _ _ _ rfl ?_; intro w2 hB2 hg2 hs2)
        have hb2 : Below wr.heap.size wr w2 := Below.grown hal hg2 hal.size (fun z hz => by cases hz; exact Nat.le_refl _)
        have HX2 := Lib.hid (Rep.imp (S' := fun _ => True) (fun _ _ => trivial) (HX.out.lift hb2))
        have hb12 := hbw.trans (hb2.mono hws)
        have HSl2 := Lib.hid (SlG.kept (S' := fun _ => True) (fun _ _ => trivial) (fun _ _ _ => rfl) (HSl1.out.up hb12))
        obtain ⟨f0, f1, f2, f3, f4⟩ := hB2.cells
        obtain ⟨c0, c1⟩ : w2.cell? ⟨w.heap.size, 0, none⟩ = some (.slice sa n sc) ∧ w2.cell? ⟨w.heap.size, 1, none⟩ = some (.slice ta tn tc) := ⟨(HB11.out.lift hb12).cell 0 _ rfl, (HB11.out.lift hb12).cell 1 _ rfl⟩
        have HB12 := Lib.hid hb12
        have hs12 := hb12.size
        clear hB2 hg2 hs2 hal hb2 p0 p1 p2 p3 p4 HX hb12
        go_wp2_with fail
        go_at_call 28
        refine (HC.out _ _ w2 HSl2.out HX2.out).mono ?_
        rintro e w3 ⟨rfl, hb3⟩
        have HB13 := Lib.hid (HB12.out.trans (hb3.mono hs12))
        generalize szF (walkF sl n) m U (m - q) = r at *
        clear hb3 f0 f1 f2 f3 f4 c0 c1
        go_wp2
        go_roundw
        case rel => exact ⟨j + 1, q + r, hlt, by go_num, by go_num, by omega, by omega, by show _ = _; rw [← HSq.out]; exact HE.out, HB13⟩
        case measure => simp [intOf]; omega
      · have hqi : (m : Int) < (q : Int) := by omega
        have HF : Hid (R = q) := by show _ = _; rw [← HE.out]; exact szL_done hqm _
        go_upto_region 5 with (refine wpList_store5 rfl _ _ rfl _ _ _ _ _ _ HZ.out rfl _ _ _ _ _ _ _ rfl ?_; intro w2 hB2 hg2 hs2)
        have hb2 : Below wr.heap.size wr w2 := Below.grown hal hg2 hal.size (fun z hz => by cases hz; exact Nat.le_refl _)
        have HB12 := Lib.hid (HW1.out.trans ((hbw.trans (hb2.mono hws)).mono HW1.out.size))
        clear hB2 hg2 hs2 hal hb2 p0 p1 p2 p3 p4 HX
        go_wp2
        go_ret
        exact ⟨ret_int (by rw [HF.out]), HB12.out⟩
    · have HF : Hid (R = q) := by
        show _ = _
        rw [← HE.out, List.drop_eq_nil_of_le (by rw [← HUm.out]; omega)]; rfl
      go_wp2
      go_ret
      exact ⟨ret_int (by rw [HF.out]), HW1.out.trans (hbw.mono HW1.out.size)⟩
theorem sizeSmall_any (sl : List Slt) (n : Nat) (hn : n = sl.length) (hm : n ≤ 1000000) : ∀ m, m ≤ 100000 → SzAt Try.prog 28 sl n (walkF sl n) m := by
  intro m
  induction m using Nat.strongRecOn with
  | _ m ih => exact fun h => sizeSmall_of sl n hn hm m h fun k hk => ih k hk (by omega)
set_option maxHeartbeats 3200000 in
/-- Size, for bounds up to 4000 that it counts plainly. -/
theorem size_any (sl : List Slt) (n : Nat) (hn : n = sl.length) (hm : n ≤ 1000000) (m : Nat) (hm4 : m ≤ 4000) : SzAt Try.prog 13 sl n (walkF sl n) m := by
  intro T sa sc ta tn tc v S w hs hv
  obtain ⟨nm, xa, xn, xc, rfl, -, -⟩ := hv.frm
  have HC : Hid (∀ W, Below w.heap.size w W → Calls Try.prog 28 #[.agg #[.slice sa n sc, .slice ta tn tc], .agg #[.int .i64 T.k, .string nm, .int .i64 T.i, .int .i64 T.h, .slice xa xn xc], .int .i64 (m : Int)] W _) := fun W hb => sizeSmall_any sl n hn hm m (by omega) T sa sc ta tn tc _ S W (hs.up hb) (hv.lift hb)
  generalize T.k = k at *
  generalize T.i = i at *
  generalize T.h = hh at *
  obtain ⟨V, hV⟩ : ∃ V, V = (w.alloc (.cells #[.slice sa n sc, .slice ta tn tc] 27)).alloc (.cells #[.int .i64 k, .string nm, .int .i64 i, .int .i64 hh, .slice xa xn xc] 31) := ⟨_, rfl⟩
  have hVb : Below w.heap.size w V := by rw [hV]; exact ((Below.refl _ w).alloc (Nat.le_refl _) _).alloc (by simp) _
  have hB1 : BoxC 27 V w.heap.size [.slice sa n sc, .slice ta tn tc] := by unfold BoxC; rw [hV, heap_at, if_neg (by simp), heap_at, if_pos rfl]
  have hB2 : Box V (w.heap.size + 1) (.int .i64 k) (.string nm) (.int .i64 i) (.int .i64 hh) (.slice xa xn xc) := by unfold Box; rw [hV, heap_at, if_pos (by simp)]
  obtain ⟨c0, c1⟩ : V.cell? ⟨w.heap.size, 0, none⟩ = some (.slice sa n sc) ∧ V.cell? ⟨w.heap.size, 1, none⟩ = some (.slice ta tn tc) := ⟨hB1.cell 0 _ rfl, hB1.cell 1 _ rfl⟩
  obtain ⟨d0, d1, d2, d3, d4⟩ := hB2.cells
  generalize szF (walkF sl n) (m + 1) T m = R at *
  clear hB1 hB2 hv hs hn
  have hmi : (m : Int) ≤ 4000 := by omega
  go_enter Try.func13, Try.ntmps13
  go_upto_region 1 with fail
  rw [← hV]
  clear hV

  go_wp2_with (go_at_call 28; refine (HC.out V hVb).mono ?_; rintro e w1 ⟨rfl, hb1⟩)
  go_ret
  exact ⟨rfl, hVb.trans (hb1.mono hVb.size)⟩
end Go.Proofs.Ytejlhfjhpminjaa
