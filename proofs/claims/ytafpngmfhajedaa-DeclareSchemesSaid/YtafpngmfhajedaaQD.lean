import Derived.RangeFuncNested
import Derived.RangeFuncBound
import Derived.RangeFuncCalls
import Derived.RangeFuncLeaves
import Derived.Shelf.Abstract
import Derived.Shelf.RegionOpen
import Derived.WalkKit
import Derived.OwnWalkIn
import Derived.TacticsInMore
import Derived.LoopNIn
import Derived.LoopIn
import Derived.Test.YtafpngmfhajedaaQB
/- The library's Backward over a slice of types: what it hands a loop. -/
namespace Go.Proofs.Ytafpngmfhajedaa
open Go.RowKit Go.Sort Go.Shelf Go.Maps Mth
attribute [local go_sem] Oper.semAt_some

/-- What a turn of a block that is no cells leaves. -/
theorem Five.own {W W' : World} {row : Option Nat} (hg : W.grownBy W' row) (hr : ∀ r, row = some r → ∃ o : Obj, W.heap[r]? = some o ∧ o.isCells = false) {a : Addr} {j : Nat} {v : Value} (h : Five W a j v) : Five W' a j v := by
  obtain ⟨c0, c1, c2, c3, c4, hv, h0, h1, h2, h3, h4⟩ := h
  exact ⟨c0, c1, c2, c3, c4, hv, cell_kept h0 hg hr, cell_kept h1 hg hr, cell_kept h2 hg hr, cell_kept h3 hg hr, cell_kept h4 hg hr⟩
theorem Rep.own {W W' : World} {row : Option Nat} (hg : W.grownBy W' row) (hr : ∀ r, row = some r → ∃ o : Obj, W.heap[r]? = some o ∧ o.isCells = false) {S : Nat → Prop} {T : Ty} {v : Value} (h : Rep W S T v) : Rep W' S T v := by
  induction h with
  | mk k n i h ts a cap f hn hcap hc _ ih =>
    refine .mk k n i h ts a cap f hn hcap (fun j T hj => ?_) ih
    obtain ⟨ad, ha, hs, h5⟩ := hc j T hj
    exact ⟨ad, ha, hs, h5.own hg hr⟩
theorem BoxC.own {W W' : World} {row : Option Nat} (hg : W.grownBy W' row) (hr : ∀ r, row = some r → ∃ o : Obj, W.heap[r]? = some o ∧ o.isCells = false) {t : TypeId} {B : Nat} {c : List Value} (h : BoxC t W B c) : BoxC t W' B c :=
  h.grown hg (by
    intro e
    obtain ⟨o, ho, hc⟩ := hr B e.symm
    unfold BoxC at h
    rw [h] at ho
    cases ho
    cases hc)
theorem Box.own {W W' : World} {row : Option Nat} (hg : W.grownBy W' row) (hr : ∀ r, row = some r → ∃ o : Obj, W.heap[r]? = some o ∧ o.isCells = false) {B : Nat} {c0 c1 c2 c3 c4 : Value} (h : Box W B c0 c1 c2 c3 c4) : Box W' B c0 c1 c2 c3 c4 :=
  BoxC.own (t := 39) (c := [c0, c1, c2, c3, c4]) hg hr h
/-- What comes: a place and the value there. -/
abbrev Fd (w : World) (S : Nat → Prop) (fs : List Ty) := { p : Nat × Value // ∃ U, fs[p.1]? = some U ∧ Rep w S U p.2 }
def Fd.enc {w : World} {S : Nat → Prop} {fs : List Ty} (x : Fd w S fs) : Array Value := #[.int .i64 (x.1.1 : Int), x.1.2]
theorem range_rev (k : Nat) : (List.range (k + 1)).reverse = k :: (List.range k).reverse := by rw [List.range_succ, List.reverse_append]; rfl
/-- What a round keeps: what lay below, and the slice's box. -/
def KpB (n₀ Bs : Nat) (A B : World) : Prop := Below n₀ A B ∧ B.heap[Bs]? = A.heap[Bs]?
set_option maxRecDepth 100000 in
set_option maxHeartbeats 2000000 in
theorem bw1_in (n l Bs n₀ : Nat) (hn : 1 ≤ n) (w : World) (hn₀ : n₀ = w.heap.size) (S : Nat → Prop) (fs : List Ty) (fa : Option Addr) (fl fc : Nat) (hfn : fl = fs.length) (hfl : fl ≤ 1000) (hf : RepL w S fs (.slice fa fl fc)) (J Jx : List (Fd w S fs) → World → Prop)
    (hY : ∀ pre x W, J pre W → pre.length < fl → YieldAt Fence.wide (n - 1) Try.prog l (Fd.enc x) W fun e W' =>
      (e = .returned (.bool true) ∧ J (pre ++ [x]) W' ∧ KpB n₀ Bs W W') ∨ (e = .returned (.bool false) ∧ Jx (pre ++ [x]) W'))
    (W : World) (hW : Below n₀ w W) (hBs : BoxC 37 W Bs [.slice fa fl fc]) (h0 : J [] W) :
    CallsIn Fence.wide n Try.prog 75 #[.func (.yield l) #[] #[], .pointer (some ⟨Bs, 0, none⟩)] W fun e W' => (∃ v, e = .returned v) ∧
      ((∃ ys : List (Fd w S fs), ys.map (fun x => x.1.1) = (List.range fl).reverse ∧ J ys W') ∨ (∃ pre, True ∧ Jx pre W')) := by
  subst hn₀
  refine callsIn_of_wp Try.func75 rfl trivial ?_ rfl
  simp only [Try.ntmps75, List.size_toArray, List.length_cons, List.length_nil, Nat.reduceAdd, Nat.reduceSub, Array.replicate_succ, Array.replicate_zero, List.push_toArray, List.append_toArray, List.nil_append, List.cons_append]
  have hc0 := hBs.cell 0 _ rfl
  have HY := Lib.hid hY
  have HF := Lib.hid hf
  have HFn := Lib.hid hfn
  clear hY hf hfn
  gi_wp2
  gi_loopw [3] (fun i wr => ∃ (k : Nat) (pre : List (Fd w S fs)), k ≤ fl ∧ i = .int .i64 ((k : Int) - 1) ∧ Hid (pre.map (fun x => x.1.1) ++ (List.range k).reverse = (List.range fl).reverse) ∧ J pre wr ∧ Hid (Below w.heap.size w wr) ∧ BoxC 37 wr Bs [.slice fa fl fc])
    (fun i _ => (intOf i + 1).toNat)
  case atStart => exact ⟨fl, [], Nat.le_refl _, by go_num, rfl, h0, hW, hBs⟩
  case round =>
    clear hc0 hBs hW h0
    obtain ⟨k, pre, hk, rfl, HP, hJ, HB, hBx⟩ := hrel
    have hc0 := hBx.cell 0 _ rfl
    cases k with
    | zero =>
      gi_wp2
      go_end0
      exact ⟨⟨_, rfl⟩, .inl ⟨pre, by have := HP.out; simpa using this, hJ⟩⟩
    | succ k =>
      have hx : ((k + 1 : Nat) : Int) - 1 = (k : Int) := by omega
      rw [hx]
      obtain ⟨U, hU⟩ : ∃ x, fs[k]? = some x := ⟨_, List.getElem?_eq_getElem (by rw [← HFn.out]; omega)⟩
      obtain ⟨fa', fc', e, -, hj⟩ := HF.out
      simp only [Value.slice.injEq] at e
      obtain ⟨rfl, -, rfl⟩ := e
      obtain ⟨ad, x, rfl, hS, h5, hr⟩ := hj k U hU
      have g5 := h5.kept (HB.out.block _ h5.lt)
      obtain ⟨k', n', i', h', s', -, rfl, -, hs'⟩ := hr.open
      obtain ⟨q0, q1, q2, q3, q4⟩ := five_at g5
      obtain ⟨ua, uc, rfl, -⟩ := hs'
      have hlen : pre.length + (k + 1) = fl := by
        have := congrArg List.length HP.out
        simpa using this
      obtain ⟨f1, tmps, assign, body, hy, hR⟩ := HY.out pre ⟨(k, _), U, hU, hr⟩ wr hJ (by omega)
      unfold Fd.enc at hy
      dsimp only at hy
      have hki : (k : Int) < (fl : Int) := by omega
      have hk0 : (0 : Int) ≤ (k : Int) := by omega
      clear h5 g5 hj hS hx
      gi_wp2
      refine hR.mono ?_
      rintro e W3 (⟨rfl, hJ3, hk3⟩ | ⟨rfl, hJx3⟩)
      · have hB3 : BoxC 37 W3 Bs [.slice (some ad) fl fc] := hBx.kept hk3.2
        have HB3 := Lib.hid (HB.out.trans hk3.1)
        gi_wp2
        go_roundw
        case rel => exact ⟨k, _, by omega, by go_num, by show _ = _; rw [← HP.out, range_rev]; simp, hJ3, HB3, hB3⟩
        case measure => simp [intOf]
      · gi_wp2
        refine bodyPost_ret (results_none rfl _ _ _) rfl ?_
        exact ⟨⟨_, rfl⟩, .inr ⟨_, trivial, hJx3⟩⟩
theorem bw_any (a : Option Addr) (m c : Nat) (w : World) :
    Calls Try.prog 44 #[.slice a m c] w fun e w' => e = .returned (.func (.func 75) #[] #[.pointer (some ⟨w.heap.size, 0, none⟩)]) ∧ w' = w.alloc (.cells #[.slice a m c] 37) := by
  go_enter Try.func44, Try.ntmps44
  go_wp2
  go_ret
  exact ⟨rfl, rfl⟩
theorem bw_stops (n Bs : Nat) (hn : 1 ≤ n) (w W : World) (S : Nat → Prop) (fs : List Ty) (fa : Option Addr) (fl fc : Nat) (hfn : fl = fs.length) (hfl : fl ≤ 1000) (hf : RepL w S fs (.slice fa fl fc)) (hW : Below w.heap.size w W) (hBs : BoxC 37 W Bs [.slice fa fl fc]) :
    SeqStopsK Fence.wide n Try.prog 75 #[.pointer (some ⟨Bs, 0, none⟩)] (fun x : Fd w S fs => Fd.enc x) (KpB w.heap.size Bs) (fun ys => ys.map (fun x => x.1.1) = (List.range fl).reverse) (fun _ => True) fl W := fun l J Jx W' hb _ _ hY h0 =>
  bw1_in n l Bs w.heap.size hn w rfl S fs fa fl fc hfn hfl hf J Jx hY W' (hW.trans (hb.mono hW.size)) (hBs.kept (hb.block _ hBs.lt)) h0
end Go.Proofs.Ytafpngmfhajedaa

/- The package's Constructor. -/
namespace Go.Proofs.Ytafpngmfhajedaa
open Go.RowKit Go.Sort Go.Shelf Go.Maps Mth
attribute [local go_sem] Oper.semAt_some

theorem CoSt.own {w : World} {D : Nat} {T : Ty} {W W' : World} {row : Option Nat} (H : CoSt w D T W) (hg : W.grownBy W' row) (hr : ∀ r, row = some r → w.heap.size ≤ r ∧ ∃ o : Obj, W.heap[r]? = some o ∧ o.isCells = false) : CoSt w D T W' := by
  obtain ⟨⟨k, n, i, h, s, m, c, hB, hR⟩, hS, hL, hlt⟩ := H
  have hr' : ∀ r, row = some r → ∃ o : Obj, W.heap[r]? = some o ∧ o.isCells = false := fun r e => (hr r e).2
  exact ⟨⟨k, n, i, h, s, m, c, hB.own hg hr', hR.own hg hr'⟩, hS.own hg hr', Below.grown hL hg hL.size (fun r e => (hr r e).1), hlt⟩
theorem CoSt.lift {w : World} {D : Nat} {T : Ty} {W W' : World} (H : CoSt w D T W) (hb : Below W.heap.size W W') : CoSt w D T W' := by
  obtain ⟨⟨k, n, i, h, s, m, c, hB, hR⟩, hS, hL, hlt⟩ := H
  exact ⟨⟨k, n, i, h, s, m, c, Box.lift hB hb, hR.lift hb⟩, hS.lift hb, hL.trans (hb.mono hL.size), hlt⟩
theorem keepsOthers_below {W W' : World} (hb : Below W.heap.size W W') : KeepsOthers W W' := ⟨hb.size, fun k _ hk _ => (hb.block k (Array.getElem?_eq_some_iff.1 hk).1).trans hk⟩
/-- The type when these have come. -/
def tpS (d : Dat) (fs : List Ty) (t : Ty) (j : Nat) : Ty := con arrN [bnd d.params (fs[j]?.getD default), t]
def tp {w : World} {S : Nat → Prop} (d : Dat) (fs : List Ty) (pre : List (Fd w S fs)) : Ty := (pre.map (fun x => x.1.1)).foldl (tpS d fs) (resT d)
theorem tp_snoc {w : World} {S : Nat → Prop} (d : Dat) (fs : List Ty) (pre : List (Fd w S fs)) (x : Fd w S fs) {U : Ty} (hU : fs[x.1.1]? = some U) : tp d fs (pre ++ [x]) = con arrN [bnd d.params U, tp d fs pre] := by
  unfold tp
  rw [List.map_append, List.foldl_append]
  simp [tpS, hU]
theorem tp_fold (d : Dat) (fs : List Ty) : ∀ k, k ≤ fs.length → (List.range k).reverse.foldl (tpS d fs) (conT d (fs.drop k)) = conT d fs := by
  intro k
  induction k with
  | zero => intro _; simp
  | succ k ih =>
    intro h
    rw [range_rev, List.foldl_cons]
    have hU : fs[k]? = some (fs[k]'h) := List.getElem?_eq_getElem _
    have e : tpS d fs (conT d (fs.drop (k + 1))) k = conT d (fs.drop k) := by rw [conT_drop d hU]; unfold tpS; rw [hU]; rfl
    rw [e]
    exact ih (by omega)
theorem tp_all {w : World} {S : Nat → Prop} (d : Dat) (fs : List Ty) (pre : List (Fd w S fs)) (h : pre.map (fun x => x.1.1) = (List.range fs.length).reverse) : tp d fs pre = conT d fs := by
  unfold tp
  rw [h]
  have := tp_fold d fs fs.length (Nat.le_refl _)
  rwa [conT_end] at this
set_option maxRecDepth 100000 in
set_option maxHeartbeats 6400000 in
theorem constructor_any (ds : List Dat) (hds : GoodD ds) (s : ByteArray) (v : Value) (S : Nat → Prop) (w : World) (h : SlG DatE w S ds v) :
    Calls Try.prog 13 #[v, .string s] w fun e w' => SchE w' (fun _ => True) (sch ds s) e ∧ Below w.heap.size w w' := by
  have hal : Below w.heap.size w (w.alloc (.cells #[.int .i64 0, .int .i64 0, .string ⟨#[]⟩, .int .i64 0, .int .i64 0, .slice none 0 0] 41)) := (Below.refl _ w).alloc (Nat.le_refl _) _
  have HSc : Hid (BoxC 41 (w.alloc (.cells #[.int .i64 0, .int .i64 0, .string ⟨#[]⟩, .int .i64 0, .int .i64 0, .slice none 0 0] 41)) w.heap.size [.int .i64 0, .int .i64 0, .string ⟨#[]⟩, .int .i64 0, .int .i64 0, .slice none 0 0]) := BoxC.made _ w _
  have HFn : Hid (∀ V, Below w.heap.size w V → Calls Try.prog 41 #[v, .string s] V fun e w' => e = .returned (fndV (fnd ds s)) ∧ Below V.heap.size V w') := fun V hb => find_any ds s v S V (h.lift' hb)
  have HB := Lib.hid hal
  have HD := Lib.hid h
  obtain ⟨da, dc, rfl, hle⟩ := slice_form h
  obtain ⟨dn, hdn⟩ : ∃ n, n = ds.length := ⟨_, rfl⟩
  rw [← hdn] at HD HFn hle ⊢
  have HDn := Lib.hid hdn
  have hl := hds.1
  rw [← hdn] at hl
  clear hal h hdn hle
  cases hf : fnd ds s with
  | none =>
    have HR := Lib.hid (sch_none hf)
    rw [hf] at HFn
    clear hf
    go_enter Try.func13, Try.ntmps13
    go_upto_region 1 with fail
    generalize (w.alloc (.cells #[.int .i64 0, .int .i64 0, .string ⟨#[]⟩, .int .i64 0, .int .i64 0, .slice none 0 0] 41)) = V at *
    go_wp2_with (first
      | (go_at_call 41; refine (HFn.out V HB.out).mono ?_; rintro e w1 ⟨rfl, hb1⟩; have HSc1 := Lib.hid (HSc.out.lift hb1); have HB1 := Lib.hid (HB.out.trans (hb1.mono HB.out.size)); clear hb1; unfold fndV)
      | (refine wpList_storeC rfl _ _ rfl _ _ [.int .i64 0, .int .i64 0, .string ⟨#[]⟩, .int .i64 0, .int .i64 0, .slice none 0 0] HSc1.out rfl rfl (by kernel_rfl) rfl (by intro u hu; simp at hu; rcases hu with rfl | rfl | rfl | rfl | rfl | rfl <;> rfl) ?_; intro w2 hB2 hg2 hs2))
    have c0 := hB2.cell 0 _ rfl; have c1 := hB2.cell 1 _ rfl; have c2 := hB2.cell 2 _ rfl; have c3 := hB2.cell 3 _ rfl; have c4 := hB2.cell 4 _ rfl; have c5 := hB2.cell 5 _ rfl
    refine bodyPost_ret (by simp [results, Try.results13, go_sem, c0, c1, c2, c3, c4, c5]; try rfl) rfl ?_
    refine ⟨by rw [HR.out]; rfl, Below.grown HB1.out hg2 HB1.out.size (fun k hk => by have := Option.some.inj hk; omega)⟩
  | some p =>
    obtain ⟨i, k⟩ := p
    obtain ⟨d, c, hd, hc⟩ := fnd_some hf
    have HR := Lib.hid (sch_some hf hd hc)
    rw [hf] at HFn
    have hgd := hds.2 d (List.mem_of_getElem? hd)
    have hgc := hgd.2.2.2 c (List.mem_of_getElem? hc)
    have HGf := Lib.hid hgc.2
    have hfl := hgc.1
    have hil : i < dn := by rw [HDn.out]; exact (List.getElem?_eq_some_iff.1 hd).1
    have hkl := (List.getElem?_eq_some_iff.1 hc).1
    have hcl := hgd.2.2.1
    have hpl := hgd.1
    have HNm := Lib.hid hgd.2.1
    obtain ⟨ad, pa, pc, ca, cc, rfl, hp, hct, q0, q1, q2, q3⟩ := dat_at HD.out hd
    obtain ⟨ad2, fa, fc, rfl, hfs, r0, r1, r2⟩ := ctor_at hct hc
    have HP := Lib.hid hp
    have HFs := Lib.hid (slG_repL hfs)
    have kW : ∀ {p : Addr} {u : Value}, w.cell? p = some u → ∀ V, Below w.heap.size w V → V.cell? p = some u := fun {p u} h V hb => (hb.cell (World.block_lt_of_cell? _ _ h)).trans h
    have Q0 := Lib.hid (kW q0); have Q1 := Lib.hid (kW q1); have Q2 := Lib.hid (kW q2); have Q3 := Lib.hid (kW q3); have R2 := Lib.hid (kW r2)
    have HBB := Lib.hid (fun i W => bound_any i W)
    have HBw := Lib.hid (fun a m c W => bw_any a m c W)
    clear hf hgd hgc hp hct hfs r0 r1 r2 q0 q1 q2 q3 kW hds
    obtain ⟨fl, hfn⟩ : ∃ n, n = c.fields.length := ⟨_, rfl⟩
    rw [← hfn] at HFs R2 hfl
    have HFl := Lib.hid hfn
    clear hfn
    have HRt : Hid (resT d = con d.name (bndTs d.params.length)) := rfl
    generalize d.params.length = pn at *
    generalize d.ctors.length = cn at *
    have hii : (i : Int) < (dn : Int) := by omega
    have hki : (k : Int) < (cn : Int) := by omega
    refine (callsIn_wide (n := 9)).1 (callsIn_of_wp_marks Try.func13 rfl trivial (wpIn_wide.2 ?_) rfl)
    simp only [Try.ntmps13, List.size_toArray, List.length_cons, List.length_nil, Nat.reduceAdd, Nat.reduceSub, Array.replicate_succ, Array.replicate_zero, List.push_toArray, List.append_toArray, List.nil_append, List.cons_append]
    go_upto_region 1 with fail
    generalize (w.alloc (.cells #[.int .i64 0, .int .i64 0, .string ⟨#[]⟩, .int .i64 0, .int .i64 0, .slice none 0 0] 41)) = V at *
    have hVs := HB.out.size
    have hVl := HSc.out.lt
    go_upto_region 4 with (go_at_call 41; refine (HFn.out V HB.out).mono ?_; rintro e w1 ⟨rfl, hb1⟩; have HSc1 := Lib.hid (HSc.out.lift hb1); have HB1 := Lib.hid (HB.out.trans (hb1.mono HB.out.size)); have h1s := hb1.size; clear hb1; unfold fndV)
    have q0 := Q0.out _ HB1.out; have q1 := Q1.out _ HB1.out; have q2 := Q2.out _ HB1.out; have q3 := Q3.out _ HB1.out
    have hal1 : Below w1.heap.size w1 (w1.alloc (.cells #[.int .i64 d.pos, .string d.name, .slice pa pn pc, .slice (some ad2) cn cc] 36)) := (Below.refl _ w1).alloc (Nat.le_refl _) _
    have HDt : Hid (BoxC 36 (w1.alloc (.cells #[.int .i64 d.pos, .string d.name, .slice pa pn pc, .slice (some ad2) cn cc] 36)) w1.heap.size [.int .i64 d.pos, .string d.name, .slice pa pn pc, .slice (some ad2) cn cc]) := BoxC.made _ w1 _
    have HSc2 := Lib.hid (HSc1.out.lift hal1)
    have HB2 := Lib.hid (HB1.out.trans (hal1.mono HB1.out.size))
    have hEl : w.heap.size < w1.heap.size := Nat.lt_of_lt_of_le hVl h1s
    have hEs : w1.heap.size < (w1.alloc (.cells #[.int .i64 d.pos, .string d.name, .slice pa pn pc, .slice (some ad2) cn cc] 36)).heap.size := by simp
    go_upto_region 5 with fail
    clear HSc1 HB1 hal1 h1s hVs hVl HB HSc q0 q1 q2 q3 HFn
    generalize (w1.alloc (.cells #[.int .i64 d.pos, .string d.name, .slice pa pn pc, .slice (some ad2) cn cc] 36)) = Wd at *
    generalize w1.heap.size = E at *
    clear w1 V
    have d2 := HDt.out.cell 2 _ rfl
    have HBV : Hid (Below Wd.heap.size Wd Wd) := Below.refl _ _
    have hWl := HB2.out.size
    go_wp2
    go_loopw [10, 32] (fun y x wr => ∃ j : Nat, j ≤ pn ∧ x = .int .i64 j ∧ Hid (RowG TyE wr Wd.heap.size (fun c => Wd.heap.size ≤ c) y (bndTs j)) ∧ Hid (Below Wd.heap.size Wd wr)) (fun _ x _ => pn - (intOf x).toNat)
    case atStart => exact ⟨0, Nat.zero_le _, rfl, rowG_nil _ _ _ _, HBV⟩
    case round =>
      obtain ⟨j, hj, rfl, HRow, HBr⟩ := hrel
      have hbs := HBr.out.size
      clear d2
      by_cases hlt : j < pn
      · have hji : (j : Int) < (pn : Int) := by omega
        go_wp2_with fail
        go_at_call 42
        refine (HBB.out (j : Int) wr).mono ?_
        rintro e w1 ⟨rfl, hb1⟩
        have HRow1 := Lib.hid (HRow.out.lift hb1)
        have hbw := HBr.out.trans (hb1.mono hbs)
        have HN : Hid (∀ X Z, (w1.alloc (.cells X Z)).heap[w1.heap.size]? = some (.cells X Z (0, 0))) := fun X Z => heap_alloc_new w1 _
        have HAl : Hid (∀ X, Below w1.heap.size w1 (w1.alloc X)) := fun X => (Below.refl _ w1).alloc (Nat.le_refl _) X
        have HRowA := Lib.hid (fun X => HRow1.out.lift (HAl.out X))
        have hsz1 : Wd.heap.size ≤ w1.heap.size := hbw.size
        have HLow : Hid (∀ k, u10.ownBlock = some k → Wd.heap.size ≤ k) := fun k hk => (RowG.lt HRow.out k hk).1
        clear hb1 HRow HRow1
        unfold leafV
        go_wp2_with (at_builtin; refine wpList_pushG TyE rfl _ _ rfl Wd.heap.size (fun c => Wd.heap.size ≤ c) u10 _ rfl (HRowA.out _) w1.heap.size _ [.int .i64 2, .string ⟨#[]⟩, .int .i64 j, .int .i64 0, .slice none 0 0] (HN.out _ _) rfl (bndTy j) (bndE _ _ _) (j + 1) (by rw [bndTs_len]) (by omega) (Nat.le_trans hsz1 (HAl.out _).size) ?_; intro a3 c3 w3 hrow3 hg3; have HRow3 := Lib.hid hrow3; have HB3 := Lib.hid (Below.grown (hbw.trans ((HAl.out _).mono hsz1)) hg3 (Nat.le_trans hsz1 (HAl.out _).size) HLow.out); clear hrow3 hg3)
        have HRow4 : Hid (RowG TyE w3 Wd.heap.size (fun c => Wd.heap.size ≤ c) (.slice a3 (j + 1) c3) (bndTs (j + 1))) := by
          show RowG _ _ _ _ _ _
          rw [bndTs_succ]
          exact HRow3.out
        go_roundw
        case rel => exact ⟨j + 1, hlt, by go_num, HRow4, HB3⟩
        case measure => simp [intOf]; omega
      · obtain rfl : pn = j := by omega
        clear hlt
        have d1 := (HDt.out.lift HBr.out).cell 1 _ rfl
        have HC := Lib.hid (con_any' d.name (bndTs pn) (by rw [bndTs_len]; omega) HNm.out u10 (fun c => Wd.heap.size ≤ c) wr (fun b hb => Nat.le_trans hbs hb) (slG_repL (HRow.out.slG (S' := fun c => Wd.heap.size ≤ c) (fun _ h => h) (fun _ h => h))))
        have HDr := Lib.hid (HDt.out.lift HBr.out)
        have HSr := Lib.hid (HSc2.out.lift HBr.out)
        have HBt := Lib.hid (HB2.out.trans (HBr.out.mono hWl))
        clear HRow HDt HSc2 HB2 HBV HBB
        go_wp2_with fail
        go_at_call 43
        refine HC.out.mono ?_
        rintro e w1 ⟨u, rfl, hr, hb1⟩
        obtain ⟨uk, un, ui, uh, ua, um, uc, rfl⟩ := hr.form
        have hlz := (Below.refl _ w1).alloc (Nat.le_refl _) (.cells #[.int .i64 0, .string ⟨#[]⟩, .int .i64 0, .int .i64 0, .slice none 0 0] 39)
        have h1s := hb1.size
        have HZ1 : Hid (Zero (w1.alloc (.cells #[.int .i64 0, .string ⟨#[]⟩, .int .i64 0, .int .i64 0, .slice none 0 0] 39)) w1.heap.size) := Box.made _ _ _ _ _ _
        have HRp := Lib.hid ((hr.bound.imp (S' := fun b => b ≠ w.heap.size ∧ b ≠ w1.heap.size) fun b hb => by have h1 := hb.1; have h2 := hb.2; omega).lift hlz)
        have HD1 := Lib.hid ((HDr.out.lift hb1).lift hlz)
        have HS1 := Lib.hid ((HSr.out.lift hb1).lift hlz)
        have HBo := Lib.hid ((HBt.out.trans (hb1.mono HBt.out.size)).trans (hlz.mono (Nat.le_trans HBt.out.size h1s)))
        have hD : E < w1.heap.size := by omega
        clear d1 hr hb1 hlz HC HDr HSr HBt
        go_wp2_with (refine wpList_store5 rfl _ _ rfl _ _ _ _ _ _ HZ1.out rfl _ _ _ _ _ _ _ rfl ?_; intro w3 hB3 hg3 hs3; have HD3 := Lib.hid (HD1.out.grown hg3 (by intro e; have := Option.some.inj e; omega)); have HS3 := Lib.hid (HS1.out.grown hg3 (by intro e; have := Option.some.inj e; omega)); have HB3 := Lib.hid (Below.grown HBo.out hg3 HBo.out.size (fun k hk => by have := Option.some.inj hk; omega)); have r2 := R2.out w3 HB3.out; have e3 := HD3.out.cell 3 _ rfl)
        go_at_call 44
        refine (HBw.out _ _ _ w3).mono ?_
        rintro e w4 ⟨rfl, rfl⟩
        have H0 : CoSt w w1.heap.size (resT d) w3 := ⟨⟨_, _, _, _, _, _, _, hB3, by rw [HRt.out]; exact HRp.out.kept (fun _ h => h) (fun b hb hlt => hg3.block b hlt (by intro e; exact hb.2 (Option.some.inj e)))⟩, HS3.out, HB3.out, by omega⟩
        have H0' := Lib.hid H0
        have hDw : w1.heap.size < w3.heap.size := hB3.lt
        clear hB3 hg3 hs3 HZ1 HRp HD1 HS1 HBo h1s HBw HS3 HRt H0 r2 e3
        generalize w1.heap.size = D at *
        go_upto_region 99 with fail
        refine (?_ : ∀ A : Act, A = _ → Code.wp _ _ _ A _) _ rfl
        intro A hA
        have hn4 : Below w3.heap.size w3 (w3.alloc (.cells #[.slice fa fl fc] 37)) := (Below.refl _ w3).alloc (Nat.le_refl _) _
        have HBs : BoxC 37 (w3.alloc (.cells #[.slice fa fl fc] 37)) w3.heap.size [.slice fa fl fc] := BoxC.made _ w3 _
        have h4s : (w3.alloc (.cells #[.slice fa fl fc] 37)).heap.size = w3.heap.size + 1 := by simp
        have hI0 : CoSt w D (resT d) (w3.alloc (.cells #[.slice fa fl fc] 37)) := by
          obtain ⟨⟨k, n, i, h, s, m, c, hB, hR⟩, hS, hL, hlt⟩ := H0'.out
          exact ⟨⟨k, n, i, h, s, m, c, hB.lift hn4, hR.lift hn4⟩, hS.lift hn4, hL.trans (hn4.mono hL.size), hlt⟩
        have hDt4 := HD3.out.lift hn4
        have h3s := HB3.out.size
        have hlD := H0'.out.lt
        refine (wpIn_wide (n := 9)).1 ?_
        refine wpIn_rangeFunc_ownH (F := Fence.wide) (α := Fd w S c.fields) rfl (by omega) (gf := 75) (lb := #[.pointer (some ⟨w3.heap.size, 0, none⟩)]) (by rw [hA]; rfl) trivial (enters_of Try.func75 (by kernel_rfl) rfl)
          (bw_stops 8 w3.heap.size (by omega) w _ S c.fields fa fl fc HFl.out hfl HFs.out hI0.low HBs) (fun h k => ⟨h.1.trans k.1, k.2.trans h.2⟩) (fun W l o o' hl h h1 h2 => ⟨belowK_b (w := w3) h3s W l o o' (by omega) h h1 h2, World.putObj_heap_other (by omega)⟩) (Below.refl _ _) (fun _ => rfl)
          (fun pre W => CoSt w D (tp d c.fields pre) W ∧ BoxC 36 W E [.int .i64 d.pos, .string d.name, .slice pa pn pc, .slice (some ad2) cn cc] ∧ BoxC 37 W w3.heap.size [.slice fa fl fc]) (fun _ _ _ => False)
          (fun s W W' row hs hg hr => ⟨hs.1.own hg (fun r e => ⟨by have := (hr r e).1; omega, (hr r e).2⟩), hs.2.1.own hg (fun r e => (hr r e).2), hs.2.2.own hg (fun r e => (hr r e).2)⟩) (fun _ _ _ _ _ hs _ _ => hs) ⟨hI0, hDt4, HBs⟩
          (fun x a' W => ∃ (Bx : Nat) (k : Int) (n : ByteArray) (i h : Int) (sa : Option Addr) (m cc : Nat), D < Bx ∧ x.1.2 = .agg #[.int .i64 k, .string n, .int .i64 i, .int .i64 h, .slice sa m cc] ∧ Box W Bx (.int .i64 k) (.string n) (.int .i64 i) (.int .i64 h) (.slice sa m cc) ∧ a' = { tmps := ((A.tmps.setIfInBounds 52 (.int .i64 (x.1.1 : Int))).setIfInBounds 53 x.1.2).setIfInBounds 14 (.pointer (some ⟨Bx, 0, none⟩)), defers := [] })
          (fun x a' s W W' row hs hg hr => by obtain ⟨Bx, k, n, i, h, sa, m, cc, h1, h2, h3, h4⟩ := hs; exact ⟨Bx, k, n, i, h, sa, m, cc, h1, h2, h3.own hg (fun r e => (hr r e).2), h4⟩) ?assign ?body ?done ?stop
        case stop => rintro Dm c' pre W _ _ h _; exact h.elim
        case assign =>
          rintro l pre ⟨⟨j, v⟩, U, hU, hrv⟩ W K ⟨hI, hDt, hBs⟩ hK
          obtain ⟨k', n', i', h', a', m', c', rfl⟩ := hrv.form
          subst hA
          unfold Fd.enc
          have hWs : D < W.heap.size := by obtain ⟨⟨k, n, i, h, s, m, c, hB, hR⟩, hS, hL, hlt⟩ := hI; exact hB.lt
          gi_wp2
          have hal : ∀ o, Below W.heap.size W (W.alloc o) := fun o => (Below.refl _ W).alloc (Nat.le_refl _) o
          have hls := hI.low.size
          exact hK _ _ ((KeepsOthers.alloc _ _).from _) ⟨(hal _).mono hls, (hal _).block _ hBs.lt⟩ ⟨hI.lift (hal _), hDt.lift (hal _), hBs.lift (hal _)⟩ ⟨W.heap.size, k', n', i', h', a', m', c', hWs, rfl, Box.made _ _ _ _ _ _, rfl⟩
        case body =>
          rintro l pre ⟨⟨j, v⟩, U, hU, hrv⟩ a' W hl ⟨rr, hrr⟩ ⟨hI, hDt, hBs⟩ ⟨Bx, k', n', i', h', sa, m', cc', hBx, hv, hbx, rfl⟩ hltp
          subst hA
          dsimp only at hv
          subst hv
          have HUm := HGf.out U (List.mem_of_getElem? hU)
          have HTp := Lib.hid (tp_snoc d c.fields pre ⟨(j, .agg #[.int .i64 k', .string n', .int .i64 i', .int .i64 h', .slice sa m' cc']), U, hU, hrv⟩ hU)
          obtain ⟨⟨tk, tn, ti, th, ts, tm, tc, hB, hR⟩, hS, hL, hlt2⟩ := hI
          have hDw4 := hB.lt
          generalize tp d c.fields pre = T' at *
          have hdr : Below W.heap.size W W.drew := (Below.refl _ W).drew
          have hds := hdr.size
          have HC : Hid (Calls Try.prog 46 #[.agg #[.int .i64 k', .string n', .int .i64 i', .int .i64 h', .slice sa m' cc'], .slice pa pn pc] W.drew fun e w' => ∃ u, e = .returned u ∧ BdSt w D T' (bnd d.params U) u tk tn ti th ts tm tc w' ∧ Below W.heap.size W w') :=
            (bind_any d.params U _ _ (fun b => b ≠ w.heap.size ∧ b ≠ D) S W.drew HUm (HP.out.lift' (hL.trans (hdr.mono hL.size))) (fun b hb => by show b ≠ w.heap.size ∧ b ≠ D; omega) ((hrv.bound.imp (S' := fun b => b ≠ w.heap.size ∧ b ≠ D) fun b hb => by have := hb.2; omega).lift (hL.trans (hdr.mono hL.size)))).mono fun _ _ ⟨u, h1, h2, h3⟩ => ⟨u, h1, ⟨h2, Box.lift (Box.lift hB hdr) h3, (hR.lift hdr).lift h3, (hS.lift hdr).lift h3, hL.trans ((hdr.trans (h3.mono hds)).mono hL.size), hlt2⟩, hdr.trans (h3.mono hds)⟩
          have HAr : Hid (∀ u v2, BdSt w D T' (bnd d.params U) u tk tn ti th ts tm tc v2 → Calls Try.prog 45 #[u, .agg #[.int .i64 tk, .string tn, .int .i64 ti, .int .i64 th, .slice ts tm tc]] v2 fun e w' => ∃ a c, e = .returned (.agg #[.int .i64 4, .string arrN, .int .i64 0, .int .i64 0, .slice a 2 c]) ∧ RepL w' (fun b => b ≠ w.heap.size ∧ b ≠ D) [bnd d.params U, T'] (.slice a 2 c) ∧ Below v2.heap.size v2 w') :=
            fun u v2 h => pkArr_any (bnd d.params U) T' u _ (fun b => b ≠ w.heap.size ∧ b ≠ D) v2 (fun b hb' => by have := h.box.lt; have := h.lt; show b ≠ w.heap.size ∧ b ≠ D; omega) h.left h.right
          obtain ⟨b0, b1, b2, b3, b4⟩ := hbx.cells
          obtain ⟨y0, y1, y2, y3, y4⟩ := hB.cells
          have p2 := hDt.cell 2 _ rfl
          generalize bnd d.params U = U' at *
          have hmx : Try.prog.follows .mixedOrders = true := by kernel_rfl
          simp only [List.setIfInBounds_toArray, List.set_cons_succ, List.set_cons_zero]
          gi_wp2
          gi_region_with_o (first
            | ((try refine ⟨trivial, ?_⟩); gi_at_call 46; refine (CallsIn.inRound l (callsIn_wide.2 HC.out)).mono ?_; rintro e w2 ⟨u, rfl, hF, hbF⟩; have HF := Lib.hid hF; have HbF := Lib.hid hbF; obtain ⟨z0, z1, z2, z3, z4⟩ := hF.box.cells; clear hF hbF)
            | ((try refine ⟨trivial, ?_⟩); gi_at_call 45; refine (CallsIn.inRound l (callsIn_wide.2 (HAr.out _ _ HF.out))).mono ?_; rintro e w5 ⟨ra, rc, rfl, hrl, hb5⟩; have HB5 := Lib.hid hb5; have HR5 := Lib.hid hrl; obtain ⟨c0, c1, c2, c3, c4⟩ := (HF.out.lift hb5).box.cells; obtain ⟨f0, f1, f2, f3, f4⟩ := (HF.out.lift hb5).box.frozen; clear hb5 hrl))
          all_goals gi_wp2
          all_goals (try go_bits)
          all_goals
            obtain ⟨hB6, hG6, -⟩ := set5 (HF.out.lift HB5.out).box (.int .i64 4) (.string arrN) (.int .i64 0) (.int .i64 0) (.slice ra 2 rc)
            clear c0 c1 c2 c3 c4 f0 f1 f2 f3 f4
            generalize (((((w5.setCell ⟨D, 0, none⟩ (.int .i64 4)).setCell ⟨D, 1, none⟩ (.string arrN)).setCell ⟨D, 2, none⟩ (.int .i64 0)).setCell ⟨D, 3, none⟩ (.int .i64 0)).setCell ⟨D, 4, none⟩ (.slice ra 2 rc)) = w6 at *
            have hb := HbF.out.trans (HB5.out.mono HbF.out.size)
            have hbs := hb.size
            have hLs := hL.size
            have hbx5 := (HF.out.lift HB5.out).box
            have hKO : KeepsOthers W w6 := (keepsOthers_below hb).trans (KeepsOthers.of_grownBy hG6 (fun q o e ho => by
              have e' := Option.some.inj e
              subst e'
              unfold Box at hbx5
              rw [hbx5] at ho
              cases ho
              rfl))
            refine ⟨hKO.from _, ⟨Below.grown (hb.mono hLs) hG6 (Nat.le_trans hLs hbs) (fun k hk => by have := Option.some.inj hk; omega), (hG6.block _ (Nat.lt_of_lt_of_le hBs.lt hbs) (by intro e; have := Option.some.inj e; omega)).trans (hb.block _ hBs.lt)⟩, ?_, (hDt.lift hb).grown hG6 (by intro e; have := Option.some.inj e; omega), (hBs.lift hb).grown hG6 (by intro e; have := Option.some.inj e; omega)⟩
            show CoSt w D _ w6
            rw [HTp.out]
            exact HF.out.done HR5.out HB5.out hB6 hG6
        case done =>
          rintro Dm xs W hDm hSx ⟨hI, hDt, hBs⟩ hK
          subst hA
          have hT : tp d c.fields xs = conT d c.fields := tp_all d c.fields xs (by rw [← HFl.out]; exact hSx)
          rw [hT] at hI
          obtain ⟨⟨k0, n0, i0, h0, s0, m0, c0, hbx, hrT⟩, hst, hlow, hlt2⟩ := hI
          obtain ⟨y0, y1, y2, y3, y4⟩ := hbx.cells
          have p2 := hDt.cell 2 _ rfl
          have e0 := hst.cell 0 _ rfl; have e1 := hst.cell 1 _ rfl; have e2 := hst.cell 2 _ rfl; have e3 := hst.cell 3 _ rfl; have e4 := hst.cell 4 _ rfl; have e5 := hst.cell 5 _ rfl
          have f0 := hst.free 0; have f1 := hst.free 1; have f2 := hst.free 2; have f3 := hst.free 3; have f4 := hst.free 4; have f5 := hst.free 5
          go_wp2
          obtain ⟨hB6, hg6⟩ := set6 hst (.int .i64 pn) (.int .i64 k0) (.string n0) (.int .i64 i0) (.int .i64 h0) (.slice s0 m0 c0)
          generalize ((((((W.setCell ⟨w.heap.size, 0, none⟩ (.int .i64 pn)).setCell ⟨w.heap.size, 1, none⟩ (.int .i64 k0)).setCell ⟨w.heap.size, 2, none⟩ (.string n0)).setCell ⟨w.heap.size, 3, none⟩ (.int .i64 i0)).setCell ⟨w.heap.size, 4, none⟩ (.int .i64 h0)).setCell ⟨w.heap.size, 5, none⟩ (.slice s0 m0 c0)) = w6 at *
          clear e0 e1 e2 e3 e4 e5 f0 f1 f2 f3 f4 f5 y0 y1 y2 y3 y4 p2
          have hDl := (Array.getElem?_eq_some_iff.1 hK).1
          have hK6 : w6.heap[Dm]? = some (.deferred (some [])) := (hg6.block Dm hDl (by intro e; have := Option.some.inj e; omega)).trans hK
          have g7 := grownBy_putObj' w6 Dm (.deferred none)
          have hr7 : ∀ r, some Dm = some r → ∃ o : Obj, w6.heap[r]? = some o ∧ o.isCells = false := fun r e => by cases e; exact ⟨_, hK6, rfl⟩
          have hB7 := hB6.own g7 hr7
          have c0 := hB7.cell 0 _ rfl; have c1 := hB7.cell 1 _ rfl; have c2 := hB7.cell 2 _ rfl; have c3 := hB7.cell 3 _ rfl; have c4 := hB7.cell 4 _ rfl; have c5 := hB7.cell 5 _ rfl
          have hlow6 : Below w.heap.size w w6 := Below.grown hlow hg6 hlow.size (fun k hk => by have := Option.some.inj hk; omega)
          have hr6 := (hrT.kept (S' := fun _ => True) (fun _ _ => trivial) (fun b hb hlt => hg6.block b hlt (by intro e; exact hb.1 (Option.some.inj e)))).own g7 hr7
          refine ⟨by simp, .inl ⟨_, _, rfl, run_takeDeferred hK6, ?_⟩⟩
          refine ⟨.tuple #[.agg #[.int .i64 pn, .int .i64 k0, .string n0, .int .i64 i0, .int .i64 h0, .slice s0 m0 _], .bool true], by simp [results, Try.results13, go_sem, c0, c1, c2, c3, c4, c5]; try rfl, ?_, Below.grown hlow6 g7 hlow6.size (fun k hk => by have := Option.some.inj hk; omega)⟩
          rw [HR.out]
          exact ⟨_, rfl, _, _, _, _, _, rfl, hr6⟩
end Go.Proofs.Ytafpngmfhajedaa
