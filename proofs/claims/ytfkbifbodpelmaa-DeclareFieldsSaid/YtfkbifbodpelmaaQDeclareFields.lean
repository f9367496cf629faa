import Derived.Test.YtfkbifbodpelmaaQB
import Derived.Test.YtfkbifbodpelmaaQE
import Derived.Test.YtfkbifbodpelmaaQR
import Derived.Deep.RegionHeld3
import Derived.Test.YtfkbifbodpelmaaQF
import Derived.Test.YtfkbifbodpelmaaQT
/- The fields of a constructor at arguments: the package's Fields and the reference's. -/
namespace Go.Proofs.Ytfkbifbodpelmaa
open Go.RowKit Go.Sort Go.Shelf Go.Maps Mth

def fldA (d : Dat) (xs : List Ty) (f : Ty) : Ty := opn xs (bnd d.params f)
def fldB (ds : List Dat) (xs : List Ty) : Option (Nat × Nat) → Option (List Ty)
  | none => none
  | some (i, k) => match ds[i]? with
    | none => none
    | some d => match d.ctors[k]? with
      | none => none
      | some c => if xs.length = d.params.length then some (c.fields.map (fldA d xs)) else none
def flds (ds : List Dat) (s : ByteArray) (xs : List Ty) : Option (List Ty) := fldB ds xs (fnd ds s)
theorem flds_none {ds : List Dat} {s : ByteArray} {xs : List Ty} (h : fnd ds s = none) : flds ds s xs = none := by unfold flds; rw [h]; rfl
theorem flds_some {ds : List Dat} {s : ByteArray} {xs : List Ty} {i k : Nat} {d : Dat} {c : Ctor} (h : fnd ds s = some (i, k)) (hd : ds[i]? = some d) (hc : d.ctors[k]? = some c) : flds ds s xs = if xs.length = d.params.length then some (c.fields.map (fldA d xs)) else none := by
  unfold flds fldB; rw [h]; simp only [hd, hc]
def FldE (w : World) : Option (List Ty) → Ending → Prop
  | none, e => e = .returned (.tuple #[.slice none 0 0, .bool false])
  | some ys, e => ∃ a c, e = .returned (.tuple #[.slice a ys.length c, .bool true]) ∧ RepL w (fun _ => True) ys (.slice a ys.length c)
theorem bnd_nodes (ns : List ByteArray) (T : Ty) : nodes (bnd ns T) ≤ nodes T := by
  refine Ty.induct (p := fun T => nodes (bnd ns T) ≤ nodes T) (fun T ih => ?_) T
  cases T with
  | mk k n i h ts =>
    have key : ∀ l : List Ty, (∀ U ∈ l, nodes (bnd ns U) ≤ nodes U) → nodesL (bndL ns l) ≤ nodesL l := by
      intro l
      induction l with
      | nil => intro _; simp [bndL]
      | cons t l ihl => intro hl; have h1 := hl t (by simp); have h2 := ihl fun U hU => hl U (by simp [hU]); simp only [bndL, nodesL]; omega
    unfold bnd
    split
    · simp [nodes, nodesL]
    · have := key ts ih
      simp only [nodes]; omega
/-- A type that a call of the loop gives. -/
def TypE (w : World) (S : Nat → Prop) (T : Ty) (e : Ending) : Prop := ∃ (k : Int) (n : ByteArray) (i h : Int) (a : Option Addr) (m c : Nat), e = .returned (.agg #[.int .i64 k, .string n, .int .i64 i, .int .i64 h, .slice a m c]) ∧ Rep w S T (.agg #[.int .i64 k, .string n, .int .i64 i, .int .i64 h, .slice a m c])
theorem typE_of {w : World} {S : Nat → Prop} {T : Ty} {e : Ending} {u : Value} (h : e = .returned u) (hr : Rep w S T u) : TypE w S T e := by
  obtain ⟨k, n, i, hh, a, m, c, rfl⟩ := hr.form
  exact ⟨k, n, i, hh, a, m, c, h, hr⟩
theorem map_take_step {f : Ty → Ty} {l : List Ty} {j : Nat} {U : Ty} (h : l[j]? = some U) : (l.take j).map f ++ [f U] = (l.take (j + 1)).map f := by
  rw [List.take_add_one, h]; simp

set_option maxRecDepth 100000 in
set_option maxHeartbeats 3200000 in
theorem fields_any (ds : List Dat) (hds : GoodD ds) (s : ByteArray) (xs : List Ty) (dv xv : Value) (S S' : Nat → Prop) (w : World) (h : SlG DatE w S ds dv) (hx : RepL w S' xs xv) :
    Calls Try.prog 26 #[dv, .string s, xv] w fun e w' => FldE w' (flds ds s xs) e ∧ Below w.heap.size w w' := by
  have HFi := Lib.hid (find_any ds s dv S w h)
  have HD := Lib.hid h
  have HX := Lib.hid hx
  obtain ⟨da, dc, rfl, hdl⟩ := slice_form h
  obtain ⟨xa, xc, rfl, ⟨hx1, hx2⟩, -⟩ := hx
  obtain ⟨xn, hxn⟩ : ∃ n, n = xs.length := ⟨_, rfl⟩
  rw [← hxn] at HX hx1 ⊢
  have HXn := Lib.hid hxn
  clear h hxn hx1 hx2
  cases hf : fnd ds s with
  | none =>
    have HR := Lib.hid (flds_none (xs := xs) hf)
    rw [hf] at HFi
    clear hf
    generalize ds.length = dn at *
    go_enter Try.func26, Try.ntmps26
    go_wp2_with (go_at_call 21; refine HFi.out.mono ?_; rintro e w1 ⟨rfl, hb1⟩; unfold fndV)
    go_returns
    exact ⟨by rw [HR.out]; rfl, hb1⟩
  | some p =>
    obtain ⟨i, k⟩ := p
    obtain ⟨d, c, hd, hc⟩ := fnd_some hf
    have HR := Lib.hid (flds_some (xs := xs) hf hd hc)
    rw [hf] at HFi
    have hgd := hds.2 d (List.mem_of_getElem? hd)
    have hgc := hgd.2.2.2 c (List.mem_of_getElem? hc)
    have hil : i < ds.length := (List.getElem?_eq_some_iff.1 hd).1
    have hkl : k < d.ctors.length := (List.getElem?_eq_some_iff.1 hc).1
    have HDt : Hid (ds[i]? = some d) := hd
    have HCt : Hid (d.ctors[k]? = some c) := hc
    have hpn := hgd.1
    have hfn := hgc.1
    have HGc := Lib.hid hgc.2
    obtain ⟨dn, hdn⟩ : ∃ n, n = ds.length := ⟨_, rfl⟩
    rw [← hdn] at HD HFi hil hdl ⊢
    obtain ⟨cn, hcn⟩ : ∃ n, n = d.ctors.length := ⟨_, rfl⟩
    rw [← hcn] at hkl
    have HCn := Lib.hid hcn
    clear hf hd hc hgd hgc hdn hcn
    unfold maxLen at hdl
    by_cases hlen : xn = d.params.length
    · obtain ⟨pn, hpe⟩ : ∃ n, n = d.params.length := ⟨_, rfl⟩
      have HPn := Lib.hid hpe
      have hR2 : flds ds s xs = some (c.fields.map (fldA d xs)) := by rw [HR.out, if_pos (by rw [← HXn.out]; exact hlen)]
      have HR2 := Lib.hid hR2
      rw [← hpe] at hlen hpn
      subst hlen
      have hii : (i : Int) < (dn : Int) := by omega
      have hki : (k : Int) < (cn : Int) := by omega
      clear hR2 HR hpe
      obtain ⟨fn, hfe⟩ : ∃ n, n = c.fields.length := ⟨_, rfl⟩
      rw [← hfe] at hfn
      have HFn := Lib.hid hfe
      clear hfe
      go_enter Try.func26, Try.ntmps26
      go_wp2_with (go_at_call 21; refine HFi.out.mono ?_; rintro e w1 ⟨rfl, hb1⟩; unfold fndV; obtain ⟨ad, pa, pc, ca, cc, rfl, hps, hct, q0, q1, q2, q3⟩ := dat_at (HD.out.lift' hb1) HDt.out; obtain ⟨ad2, fa, fc, rfl, hfl, r0, r1, r2⟩ := ctor_at hct HCt.out; rw [← HPn.out] at q2; rw [← HCn.out] at q3; rw [← HFn.out] at r2; have HPs := Lib.hid hps; have HFl := Lib.hid (slG_repL hfl); have HB1 := Lib.hid hb1; have hq2 := q2; clear hps hct hfl hb1)
      have HQ2 := Lib.hid hq2
      have HZ : Hid (Below w1.heap.size w1 w1) := Below.refl _ w1
      clear q0 q1 q2 q3 r0 r1 r2 hq2 HFi
      go_loopw [11, 44] (fun y x wr => ∃ (j : Nat) (ya : Option Addr) (yc : Nat), j ≤ fn ∧ x = .int .i64 j ∧ y = .slice ya j yc ∧ Hid (RowG TyE wr w1.heap.size (fun _ => True) (.slice ya j yc) ((c.fields.take j).map (fldA d xs))) ∧ Hid (Below w1.heap.size w1 wr)) (fun _ x _ => fn - (intOf x).toNat)
      case atStart => exact ⟨0, none, 0, Nat.zero_le _, rfl, rfl, rowG_nil _ _ _ _, HZ.out⟩
      case round =>
        obtain ⟨j, ya, yc, hj, rfl, rfl, HRow, HB⟩ := hrel
        by_cases hjt : j < fn
        · obtain ⟨U, hU⟩ : ∃ x, c.fields[j]? = some x := ⟨_, List.getElem?_eq_getElem (by rw [← HFn.out]; exact hjt)⟩
          have HStep := Lib.hid (map_take_step (f := fldA d xs) hU)
          have HUg := Lib.hid (HGc.out U (List.mem_of_getElem? hU))
          obtain ⟨fad, fcap, hv, -, hfj⟩ := HFl.out
          obtain ⟨rfl, -, rfl⟩ := (Value.slice.injEq _ _ _ _ _ _).mp hv
          obtain ⟨ad3, ux, rfl, hSa, h5, hux⟩ := hfj j U hU
          have g5 := h5.kept (HB.out.block _ h5.lt)
          have hub := hux.bound
          have HAd : Hid ((ad3.add (j * 5)).block < w1.heap.size) := by show _ < _; rw [add_block]; exact h5.lt
          obtain ⟨k', n', i', h', s', -, rfl, hn', hs'⟩ := hux.open
          obtain ⟨q0, q1, q2, q3, q4⟩ := five_at g5
          obtain ⟨ua, uc, rfl, -⟩ := hs'
          have HUb := Lib.hid hub
          have hpc := (HB.out.cell (World.block_lt_of_cell? _ _ HQ2.out)).trans HQ2.out
          have hji : (j : Int) < (fn : Int) := by omega
          have HOwn : Hid (∀ g, (Value.slice ya j yc).ownBlock = some g → w1.heap.size ≤ g ∧ g < wr.heap.size) := fun g e => RowG.lt HRow.out g e
          have hLen : j + 1 = ((c.fields.take j).map (fldA d xs)).length + 1 := by rw [List.length_map, List.length_take, ← HFn.out]; omega
          have HLen := Lib.hid hLen
          have hwr := HB.out.size
          clear hU hfj hSa h5 g5 hux hub hn' hv hLen
          generalize U.ts.length = un at *
          have hal : Below wr.heap.size wr (wr.alloc (.cells #[.int .i64 k', .string n', .int .i64 i', .int .i64 h', .slice ua un uc] 32)) := (Below.refl _ wr).alloc (Nat.le_refl _) _
          have HBU : Hid (Box (wr.alloc (.cells #[.int .i64 k', .string n', .int .i64 i', .int .i64 h', .slice ua un uc] 32)) wr.heap.size (.int .i64 k') (.string n') (.int .i64 i') (.int .i64 h') (.slice ua un uc)) := Box.made _ _ _ _ _ _
          have hpcW := (hal.cell (World.block_lt_of_cell? _ _ hpc)).trans hpc
          have HWr := Lib.hid hal
          clear hal
          go_upto_region 8 with fail
          generalize (wr.alloc (.cells #[.int .i64 k', .string n', .int .i64 i', .int .i64 h', .slice ua un uc] 32)) = W at *
          clear q0 q1 q2 q3 q4 hpc
          have HBi : Hid (∀ V, Below W.heap.size W V → Calls Try.prog 32 #[.agg #[.int .i64 k', .string n', .int .i64 i', .int .i64 h', .slice ua un uc], .slice pa xn pc] V fun e w' => TypE w' (fun b => b < w1.heap.size ∨ wr.heap.size ≤ b) (bnd d.params U) e ∧ Below V.heap.size V w') := fun V hV =>
            (bind_any d.params U _ _ (fun b => b < w1.heap.size ∨ wr.heap.size ≤ b) _ V HUg.out (by have := HPs.out.lift' (HB.out.trans ((HWr.out.trans (hV.mono HWr.out.size)).mono hwr)); rw [← HPn.out] at this; exact this) (fun b hb => .inr (Nat.le_trans HWr.out.size (Nat.le_trans hV.size hb))) (HUb.out.kept (fun b hb => .inl hb.2) (fun b hb _ => (HB.out.trans ((HWr.out.trans (hV.mono HWr.out.size)).mono hwr)).block b hb.2))).mono fun e w' ⟨u, h1, h2, h3⟩ => ⟨typE_of h1 h2, h3⟩
          have HOp : Hid (∀ V v, Below W.heap.size W V → Rep V (fun b => b < w1.heap.size ∨ wr.heap.size ≤ b) (bnd d.params U) v → Calls Try.prog 58 #[v, .slice xa xn xc] V fun e w' => TypE w' (fun b => b < w1.heap.size ∨ wr.heap.size ≤ b) (fldA d xs U) e ∧ Below V.heap.size V w') := fun V v hV hr =>
            (open_any xs (bnd d.params U) _ _ (fun b => b < w1.heap.size ∨ wr.heap.size ≤ b) (fun b => b < w.heap.size) V (Nat.le_trans (bnd_nodes _ _) HUg.out.1) (HX.out.bound.kept (fun b hb => hb.2) (fun b hb _ => (HB1.out.trans ((HB.out.trans ((HWr.out.trans (hV.mono HWr.out.size)).mono hwr)).mono HB1.out.size)).block b hb.2)) (fun b hb => ⟨.inl (Nat.lt_of_lt_of_le hb HB1.out.size), Nat.lt_of_lt_of_le hb (HB1.out.trans ((HB.out.trans ((HWr.out.trans (hV.mono HWr.out.size)).mono hwr)).mono HB1.out.size)).size⟩) (fun b hb => .inr (Nat.le_trans HWr.out.size (Nat.le_trans hV.size hb))) hr).mono fun e w' ⟨u, h1, h2, h3⟩ => ⟨typE_of h1 h2, h3⟩
          have HPc := Lib.hid hpcW
          have HK : Hid (∀ V, Below W.heap.size W V → V.cell? ⟨wr.heap.size, 0, none⟩ = some (.int .i64 k') ∧ V.cell? ⟨wr.heap.size, 1, none⟩ = some (.string n') ∧ V.cell? ⟨wr.heap.size, 2, none⟩ = some (.int .i64 i') ∧ V.cell? ⟨wr.heap.size, 3, none⟩ = some (.int .i64 h') ∧ V.cell? ⟨wr.heap.size, 4, none⟩ = some (.slice ua un uc) ∧ V.cell? ⟨(ad.add (i * 4)).block, (ad.add (i * 4)).off + 2, none⟩ = some (.slice pa xn pc) ∧ Below w1.heap.size w1 V) := fun V hV => by
            obtain ⟨l0, l1, l2, l3, l4⟩ := (HBU.out.lift hV).cells
            exact ⟨l0, l1, l2, l3, l4, (hV.cell (World.block_lt_of_cell? _ _ HPc.out)).trans HPc.out, (HB.out.trans (HWr.out.mono hwr)).trans (hV.mono (Nat.le_trans hwr HWr.out.size))⟩
          have hdr : Below W.heap.size W W.drew := (Below.refl _ W).drew
          have hNb : j + 1 ≤ 1000000 := by omega
          have hw1 : w1.heap.size ≤ W.heap.size := Nat.le_trans hwr HWr.out.size
          have HW1 := Lib.hid hw1
          have HLw := Lib.hid (HB.out.trans (HWr.out.mono hwr))
          generalize fldA d xs U = OT at *
          generalize bnd d.params U = BT at *
          clear HUb HUg
          go_region_held3 (fun V => V.cell? ⟨wr.heap.size, 0, none⟩ = some (.int .i64 k') ∧ V.cell? ⟨wr.heap.size, 1, none⟩ = some (.string n') ∧ V.cell? ⟨wr.heap.size, 2, none⟩ = some (.int .i64 i') ∧ V.cell? ⟨wr.heap.size, 3, none⟩ = some (.int .i64 h') ∧ V.cell? ⟨wr.heap.size, 4, none⟩ = some (.slice ua un uc) ∧ V.cell? ⟨(ad.add (i * 4)).block, (ad.add (i * 4)).off + 2, none⟩ = some (.slice pa xn pc) ∧ Below w1.heap.size w1 V)
            (first | with_reducible exact HK.out _ (by assumption) | with_reducible exact HK.out _ (HkA.out _) | with_reducible exact HKf.out)
            (first
              | (go_at_call 32; (with_reducible refine (HBi.out _ (by assumption)).mono ?_); rintro e w' ⟨⟨k1, n1, i1, h1, a1, m1, c1, rfl, hr1⟩, hb⟩; have HR1 := Lib.hid hr1; have hk := keepCall' (W := W) (by assumption) hb; clear hr1)
              | (go_at_call 58; (with_reducible refine (HOp.out _ _ (by assumption) HR1.out).mono ?_); rintro e w' ⟨⟨k2, n2, i2, h2, a2, m2, c2, rfl, hr2⟩, hb⟩; have HR4 := Lib.hid hr2; have hk := keepCall' (W := W) (by assumption) hb; have HkA : Hid (∀ X, Below W.heap.size W (w'.alloc X)) := fun X => hk.alloc hk.size X; have HN : Hid (∀ X Z, (w'.alloc (.cells X Z)).heap[w'.heap.size]? = some (.cells X Z (0, 0))) := fun X Z => heap_alloc_new w' _; have HRX : Hid (∀ X, RowG TyE (w'.alloc X) w1.heap.size (fun _ => True) (.slice ya j yc) ((c.fields.take j).map (fldA d xs))) := fun X => HRow.out.lift ((HWr.out.trans (hk.mono HWr.out.size)).trans (((Below.refl _ w').alloc (Nat.le_refl _) X).mono (Nat.le_trans HWr.out.size hk.size))); have HEl : Hid (∀ X, TyE.rep (w'.alloc X) (fun b => True ∧ some b ≠ (Value.slice ya j yc).ownBlock) OT [.int .i64 k2, .string n2, .int .i64 i2, .int .i64 h2, .slice a2 m2 c2]) := fun X => (HR4.out.lift ((Below.refl _ w').alloc (Nat.le_refl _) X)).imp (fun b hb => ⟨trivial, fun e => by have h1 := HOwn.out b e.symm; rcases hb with h | h <;> omega⟩); clear hr2)
              | ((refine step_pushG TyE (by rfl) _ _ rfl w1.heap.size (fun _ => True) (.slice ya j yc) _ rfl (HRX.out _) w'.heap.size _ [.int .i64 k2, .string n2, .int .i64 i2, .int .i64 h2, .slice a2 m2 c2] (HN.out _ _) rfl OT (HEl.out _) (j + 1) HLen.out hNb (Nat.le_trans HW1.out (HkA.out _).size) ?_); intro a' c' w3 hrw hg; have HRw := Lib.hid hrw; have HBf : Hid (Below w1.heap.size w1 w3) := Below.grown (HLw.out.trans ((HkA.out _).mono HW1.out)) hg (Nat.le_trans HW1.out (HkA.out _).size) (fun g e => (HOwn.out g e).1); have HKf : Hid (w3.cell? ⟨wr.heap.size, 0, none⟩ = some (.int .i64 k') ∧ w3.cell? ⟨wr.heap.size, 1, none⟩ = some (.string n') ∧ w3.cell? ⟨wr.heap.size, 2, none⟩ = some (.int .i64 i') ∧ w3.cell? ⟨wr.heap.size, 3, none⟩ = some (.int .i64 h') ∧ w3.cell? ⟨wr.heap.size, 4, none⟩ = some (.slice ua un uc) ∧ w3.cell? ⟨(ad.add (i * 4)).block, (ad.add (i * 4)).off + 2, none⟩ = some (.slice pa xn pc) ∧ Below w1.heap.size w1 w3) := by
                    have hkk := HK.out _ (HkA.out (.cells #[.int .i64 k2, .string n2, .int .i64 i2, .int .i64 h2, .slice a2 m2 c2] 32))
                    obtain ⟨l0, l1, l2, l3, l4, l5, -⟩ := hkk
                    have k : ∀ p v, p.block < w1.heap.size ∨ p.block = wr.heap.size → (w'.alloc (.cells #[.int .i64 k2, .string n2, .int .i64 i2, .int .i64 h2, .slice a2 m2 c2] 32)).cell? p = some v → w3.cell? p = some v := fun p v hp h => hg.cell h (fun e => by have h1 := HOwn.out _ e.symm; rcases hp with h2 | h2 <;> omega)
                    exact ⟨k _ _ (.inr rfl) l0, k _ _ (.inr rfl) l1, k _ _ (.inr rfl) l2, k _ _ (.inr rfl) l3, k _ _ (.inr rfl) l4, k _ _ (.inl (World.block_lt_of_cell? _ _ HQ2.out)) l5, HBf.out⟩))
          all_goals
            have HRw2 : Hid (RowG TyE w3 w1.heap.size (fun _ => True) (.slice a' (j + 1) c') ((c.fields.take (j + 1)).map (fldA d xs))) := by
              show RowG _ _ _ _ _ _
              rw [← HStep.out]; exact HRw.out
            clear hrw hg
            go_wp2
            go_roundw
            case rel => exact ⟨j + 1, a', c', hjt, by go_num, rfl, HRw2, HBf⟩
            case measure => simp [intOf]; omega
        · have hj2 : c.fields.take j = c.fields := List.take_of_length_le (by rw [← HFn.out]; omega)
          obtain rfl : fn = j := by omega
          have hrr := HRow.out
          rw [hj2] at hrr
          have HRr := Lib.hid (slG_repL (hrr.slG (S' := fun _ => True) (fun _ h => h) (fun _ _ => trivial)))
          have hln : (c.fields.map (fldA d xs)).length = fn := by rw [List.length_map, HFn.out]
          have HLn := Lib.hid hln
          clear hrr hln
          go_wp2
          go_returns
          refine ⟨?_, HB1.out.trans (HB.out.mono HB1.out.size)⟩
          rw [HR2.out]
          refine ⟨ya, yc, ?_, ?_⟩
          · rw [HLn.out]; rfl
          · rw [HLn.out]; exact HRr.out
    · have hR2 : flds ds s xs = none := by rw [HR.out, if_neg (by rw [← HXn.out]; exact hlen)]
      have HR2 := Lib.hid hR2
      have hii : (i : Int) < (dn : Int) := by omega
      have hln : ¬ (xn : Int) = (d.params.length : Int) := by omega
      clear hR2 HR
      go_enter Try.func26, Try.ntmps26
      go_wp2_with (go_at_call 21; refine HFi.out.mono ?_; rintro e w1 ⟨rfl, hb1⟩; unfold fndV; obtain ⟨ad, pa, pc, ca, cc, rfl, hps, hct, q0, q1, q2, q3⟩ := dat_at (HD.out.lift' hb1) HDt.out)
      go_returns
      exact ⟨by rw [HR2.out]; rfl, hb1⟩
set_option maxRecDepth 100000 in
set_option maxHeartbeats 3200000 in
theorem refFields_any (ds : List Dat) (hds : GoodD ds) (s : ByteArray) (xs : List Ty) (dv xv : Value) (S S' : Nat → Prop) (w : World) (h : SlG DatE w S ds dv) (hx : RepL w S' xs xv) :
    Calls Try.prog 27 #[dv, .string s, xv] w fun e w' => FldE w' (flds ds s xs) e ∧ Below w.heap.size w w' := by
  have HFi : Hid (Calls Try.prog 22 #[dv, .string s] w fun e w' => e = .returned (fndV (fnd ds s)) ∧ Below w.heap.size w w') := (refFind_any ds s dv S w h).mono fun e w' ⟨h1, h2⟩ => ⟨h1, h2 ▸ Below.refl _ _⟩
  have HD := Lib.hid h
  have HX := Lib.hid hx
  obtain ⟨da, dc, rfl, hdl⟩ := slice_form h
  obtain ⟨xa, xc, rfl, ⟨hx1, hx2⟩, -⟩ := hx
  obtain ⟨xn, hxn⟩ : ∃ n, n = xs.length := ⟨_, rfl⟩
  rw [← hxn] at HX hx1 ⊢
  have HXn := Lib.hid hxn
  clear h hxn hx1 hx2
  cases hf : fnd ds s with
  | none =>
    have HR := Lib.hid (flds_none (xs := xs) hf)
    rw [hf] at HFi
    clear hf
    generalize ds.length = dn at *
    go_enter Try.func27, Try.ntmps27
    go_wp2_with (go_at_call 22; refine HFi.out.mono ?_; rintro e w1 ⟨rfl, hb1⟩; unfold fndV)
    go_returns
    exact ⟨by rw [HR.out]; rfl, hb1⟩
  | some p =>
    obtain ⟨i, k⟩ := p
    obtain ⟨d, c, hd, hc⟩ := fnd_some hf
    have HR := Lib.hid (flds_some (xs := xs) hf hd hc)
    rw [hf] at HFi
    have hgd := hds.2 d (List.mem_of_getElem? hd)
    have hgc := hgd.2.2.2 c (List.mem_of_getElem? hc)
    have hil : i < ds.length := (List.getElem?_eq_some_iff.1 hd).1
    have hkl : k < d.ctors.length := (List.getElem?_eq_some_iff.1 hc).1
    have HDt : Hid (ds[i]? = some d) := hd
    have HCt : Hid (d.ctors[k]? = some c) := hc
    have hpn := hgd.1
    have hfn := hgc.1
    have HGc := Lib.hid hgc.2
    obtain ⟨dn, hdn⟩ : ∃ n, n = ds.length := ⟨_, rfl⟩
    rw [← hdn] at HD HFi hil hdl ⊢
    obtain ⟨cn, hcn⟩ : ∃ n, n = d.ctors.length := ⟨_, rfl⟩
    rw [← hcn] at hkl
    have HCn := Lib.hid hcn
    clear hf hd hc hgd hgc hdn hcn
    unfold maxLen at hdl
    by_cases hlen : xn = d.params.length
    · obtain ⟨pn, hpe⟩ : ∃ n, n = d.params.length := ⟨_, rfl⟩
      have HPn := Lib.hid hpe
      have hR2 : flds ds s xs = some (c.fields.map (fldA d xs)) := by rw [HR.out, if_pos (by rw [← HXn.out]; exact hlen)]
      have HR2 := Lib.hid hR2
      rw [← hpe] at hlen hpn
      subst hlen
      have hii : (i : Int) < (dn : Int) := by omega
      have hki : (k : Int) < (cn : Int) := by omega
      clear hR2 HR hpe
      obtain ⟨fn, hfe⟩ : ∃ n, n = c.fields.length := ⟨_, rfl⟩
      rw [← hfe] at hfn
      have HFn := Lib.hid hfe
      clear hfe
      go_enter Try.func27, Try.ntmps27
      go_wp2_with (go_at_call 22; refine HFi.out.mono ?_; rintro e w1 ⟨rfl, hb1⟩; unfold fndV; obtain ⟨ad, pa, pc, ca, cc, rfl, hps, hct, q0, q1, q2, q3⟩ := dat_at (HD.out.lift' hb1) HDt.out; obtain ⟨ad2, fa, fc, rfl, hfl, r0, r1, r2⟩ := ctor_at hct HCt.out; rw [← HPn.out] at q2; rw [← HCn.out] at q3; rw [← HFn.out] at r2; have HPs := Lib.hid hps; have HFl := Lib.hid (slG_repL hfl); have HB1 := Lib.hid hb1; have hq2 := q2; clear hps hct hfl hb1)
      have HQ2 := Lib.hid hq2
      have HZ : Hid (Below w1.heap.size w1 w1) := Below.refl _ w1
      clear q0 q1 q2 q3 r0 r1 r2 hq2 HFi
      go_loopw [11, 13] (fun y x wr => ∃ (j : Nat) (ya : Option Addr) (yc : Nat), j ≤ fn ∧ x = .int .i64 j ∧ y = .slice ya j yc ∧ Hid (RowG TyE wr w1.heap.size (fun _ => True) (.slice ya j yc) ((c.fields.take j).map (fldA d xs))) ∧ Hid (Below w1.heap.size w1 wr)) (fun _ x _ => fn - (intOf x).toNat)
      case atStart => exact ⟨0, none, 0, Nat.zero_le _, rfl, rfl, rowG_nil _ _ _ _, HZ.out⟩
      case round =>
        obtain ⟨j, ya, yc, hj, rfl, rfl, HRow, HB⟩ := hrel
        by_cases hjt : j < fn
        · obtain ⟨U, hU⟩ : ∃ x, c.fields[j]? = some x := ⟨_, List.getElem?_eq_getElem (by rw [← HFn.out]; exact hjt)⟩
          have HStep := Lib.hid (map_take_step (f := fldA d xs) hU)
          have HUg := Lib.hid (HGc.out U (List.mem_of_getElem? hU))
          obtain ⟨fad, fcap, hv, -, hfj⟩ := HFl.out
          obtain ⟨rfl, -, rfl⟩ := (Value.slice.injEq _ _ _ _ _ _).mp hv
          obtain ⟨ad3, ux, rfl, hSa, h5, hux⟩ := hfj j U hU
          have g5 := h5.kept (HB.out.block _ h5.lt)
          have hub := hux.bound
          have HAd : Hid ((ad3.add (j * 5)).block < w1.heap.size) := by show _ < _; rw [add_block]; exact h5.lt
          obtain ⟨k', n', i', h', s', -, rfl, hn', hs'⟩ := hux.open
          obtain ⟨q0, q1, q2, q3, q4⟩ := five_at g5
          obtain ⟨ua, uc, rfl, -⟩ := hs'
          have HUb := Lib.hid hub
          have hpc := (HB.out.cell (World.block_lt_of_cell? _ _ HQ2.out)).trans HQ2.out
          have hji : (j : Int) < (fn : Int) := by omega
          have HOwn : Hid (∀ g, (Value.slice ya j yc).ownBlock = some g → w1.heap.size ≤ g ∧ g < wr.heap.size) := fun g e => RowG.lt HRow.out g e
          have hLen : j + 1 = ((c.fields.take j).map (fldA d xs)).length + 1 := by rw [List.length_map, List.length_take, ← HFn.out]; omega
          have HLen := Lib.hid hLen
          have hwr := HB.out.size
          clear hU hfj hSa h5 g5 hux hub hn' hv hLen
          generalize U.ts.length = un at *
          obtain ⟨W, hW⟩ : ∃ W : World, W = wr := ⟨_, rfl⟩
          have HWr : Hid (Below wr.heap.size wr W) := by subst hW; exact Below.refl _ _
          have HWe := Lib.hid hW
          clear hW
          go_upto_region 9 with fail
          have HBi : Hid (∀ V, Below W.heap.size W V → Calls Try.prog 33 #[.agg #[.int .i64 k', .string n', .int .i64 i', .int .i64 h', .slice ua un uc], .slice pa xn pc] V fun e w' => TypE w' (fun b => b < w1.heap.size ∨ wr.heap.size ≤ b) (bnd d.params U) e ∧ Below V.heap.size V w') := fun V hV =>
            (refBind_any d.params U _ _ (fun b => b < w1.heap.size ∨ wr.heap.size ≤ b) _ V HUg.out (by have := HPs.out.lift' (HB.out.trans ((HWr.out.trans (hV.mono HWr.out.size)).mono hwr)); rw [← HPn.out] at this; exact this) (fun b hb => .inr (Nat.le_trans HWr.out.size (Nat.le_trans hV.size hb))) (HUb.out.kept (fun b hb => .inl hb.2) (fun b hb _ => (HB.out.trans ((HWr.out.trans (hV.mono HWr.out.size)).mono hwr)).block b hb.2))).mono fun e w' ⟨u, h1, h2, h3⟩ => ⟨typE_of h1 h2, h3⟩
          have HOp : Hid (∀ V v, Below W.heap.size W V → Rep V (fun b => b < w1.heap.size ∨ wr.heap.size ≤ b) (bnd d.params U) v → Calls Try.prog 59 #[v, .slice xa xn xc] V fun e w' => TypE w' (fun b => b < w1.heap.size ∨ wr.heap.size ≤ b) (fldA d xs U) e ∧ Below V.heap.size V w') := fun V v hV hr =>
            (refOpen_any xs (bnd d.params U) _ _ (fun b => b < w1.heap.size ∨ wr.heap.size ≤ b) (fun b => b < w.heap.size) V (Nat.le_trans (bnd_nodes _ _) HUg.out.1) (HX.out.bound.kept (fun b hb => hb.2) (fun b hb _ => (HB1.out.trans ((HB.out.trans ((HWr.out.trans (hV.mono HWr.out.size)).mono hwr)).mono HB1.out.size)).block b hb.2)) (fun b hb => ⟨.inl (Nat.lt_of_lt_of_le hb HB1.out.size), Nat.lt_of_lt_of_le hb (HB1.out.trans ((HB.out.trans ((HWr.out.trans (hV.mono HWr.out.size)).mono hwr)).mono HB1.out.size)).size⟩) (fun b hb => .inr (Nat.le_trans HWr.out.size (Nat.le_trans hV.size hb))) hr).mono fun e w' ⟨u, h1, h2, h3⟩ => ⟨typE_of h1 h2, h3⟩
          have HPc := Lib.hid hpc
          have HQs := Lib.hid (show _ ∧ _ ∧ _ ∧ _ ∧ _ from ⟨q0, q1, q2, q3, q4⟩)
          have hWe := HWe.out
          subst hWe
          have HK : Hid (∀ V, Below W.heap.size W V → V.cell? (ad3.add (j * 5)) = some (.int .i64 k') ∧ V.cell? ⟨(ad3.add (j * 5)).block, (ad3.add (j * 5)).off + 1, none⟩ = some (.string n') ∧ V.cell? ⟨(ad3.add (j * 5)).block, (ad3.add (j * 5)).off + 2, none⟩ = some (.int .i64 i') ∧ V.cell? ⟨(ad3.add (j * 5)).block, (ad3.add (j * 5)).off + 3, none⟩ = some (.int .i64 h') ∧ V.cell? ⟨(ad3.add (j * 5)).block, (ad3.add (j * 5)).off + 4, none⟩ = some (.slice ua un uc) ∧ V.cell? ⟨(ad.add (i * 4)).block, (ad.add (i * 4)).off + 2, none⟩ = some (.slice pa xn pc) ∧ Below w1.heap.size w1 V) := fun V hV => by
            have k : ∀ p v, W.cell? p = some v → V.cell? p = some v := fun p v h => (hV.cell (World.block_lt_of_cell? _ _ h)).trans h
            obtain ⟨l0, l1, l2, l3, l4⟩ := HQs.out
            exact ⟨k _ _ l0, k _ _ l1, k _ _ l2, k _ _ l3, k _ _ l4, k _ _ HPc.out, HB.out.trans (hV.mono hwr)⟩
          have hdr : Below W.heap.size W W.drew := (Below.refl _ W).drew
          have hNb : j + 1 ≤ 1000000 := by omega
          have hw1 : w1.heap.size ≤ W.heap.size := Nat.le_trans hwr HWr.out.size
          have HW1 := Lib.hid hw1
          have HLw := Lib.hid (HB.out.trans (HWr.out.mono hwr))
          generalize fldA d xs U = OT at *
          generalize bnd d.params U = BT at *
          clear HUb HUg
          go_region_held3 (fun V => V.cell? (ad3.add (j * 5)) = some (.int .i64 k') ∧ V.cell? ⟨(ad3.add (j * 5)).block, (ad3.add (j * 5)).off + 1, none⟩ = some (.string n') ∧ V.cell? ⟨(ad3.add (j * 5)).block, (ad3.add (j * 5)).off + 2, none⟩ = some (.int .i64 i') ∧ V.cell? ⟨(ad3.add (j * 5)).block, (ad3.add (j * 5)).off + 3, none⟩ = some (.int .i64 h') ∧ V.cell? ⟨(ad3.add (j * 5)).block, (ad3.add (j * 5)).off + 4, none⟩ = some (.slice ua un uc) ∧ V.cell? ⟨(ad.add (i * 4)).block, (ad.add (i * 4)).off + 2, none⟩ = some (.slice pa xn pc) ∧ Below w1.heap.size w1 V)
            (first | with_reducible exact HK.out _ (by assumption) | with_reducible exact HK.out _ (HkA.out _) | with_reducible exact HKf.out)
            (first
              | (go_at_call 33; (with_reducible refine (HBi.out _ (by assumption)).mono ?_); rintro e w' ⟨⟨k1, n1, i1, h1, a1, m1, c1, rfl, hr1⟩, hb⟩; have HR1 := Lib.hid hr1; have hk := keepCall' (W := W) (by assumption) hb; clear hr1)
              | (go_at_call 59; (with_reducible refine (HOp.out _ _ (by assumption) HR1.out).mono ?_); rintro e w' ⟨⟨k2, n2, i2, h2, a2, m2, c2, rfl, hr2⟩, hb⟩; have HR4 := Lib.hid hr2; have hk := keepCall' (W := W) (by assumption) hb; have HkA : Hid (∀ X, Below W.heap.size W (w'.alloc X)) := fun X => hk.alloc hk.size X; have HN : Hid (∀ X Z, (w'.alloc (.cells X Z)).heap[w'.heap.size]? = some (.cells X Z (0, 0))) := fun X Z => heap_alloc_new w' _; have HRX : Hid (∀ X, RowG TyE (w'.alloc X) w1.heap.size (fun _ => True) (.slice ya j yc) ((c.fields.take j).map (fldA d xs))) := fun X => HRow.out.lift ((HWr.out.trans (hk.mono HWr.out.size)).trans (((Below.refl _ w').alloc (Nat.le_refl _) X).mono (Nat.le_trans HWr.out.size hk.size))); have HEl : Hid (∀ X, TyE.rep (w'.alloc X) (fun b => True ∧ some b ≠ (Value.slice ya j yc).ownBlock) OT [.int .i64 k2, .string n2, .int .i64 i2, .int .i64 h2, .slice a2 m2 c2]) := fun X => (HR4.out.lift ((Below.refl _ w').alloc (Nat.le_refl _) X)).imp (fun b hb => ⟨trivial, fun e => by have h1 := HOwn.out b e.symm; rcases hb with h | h <;> omega⟩); clear hr2)
              | ((refine step_pushG TyE (by rfl) _ _ rfl w1.heap.size (fun _ => True) (.slice ya j yc) _ rfl (HRX.out _) w'.heap.size _ [.int .i64 k2, .string n2, .int .i64 i2, .int .i64 h2, .slice a2 m2 c2] (HN.out _ _) rfl OT (HEl.out _) (j + 1) HLen.out hNb (Nat.le_trans HW1.out (HkA.out _).size) ?_); intro a' c' w3 hrw hg; have HRw := Lib.hid hrw; have HBf : Hid (Below w1.heap.size w1 w3) := Below.grown (HLw.out.trans ((HkA.out _).mono HW1.out)) hg (Nat.le_trans HW1.out (HkA.out _).size) (fun g e => (HOwn.out g e).1); have HKf : Hid (w3.cell? (ad3.add (j * 5)) = some (.int .i64 k') ∧ w3.cell? ⟨(ad3.add (j * 5)).block, (ad3.add (j * 5)).off + 1, none⟩ = some (.string n') ∧ w3.cell? ⟨(ad3.add (j * 5)).block, (ad3.add (j * 5)).off + 2, none⟩ = some (.int .i64 i') ∧ w3.cell? ⟨(ad3.add (j * 5)).block, (ad3.add (j * 5)).off + 3, none⟩ = some (.int .i64 h') ∧ w3.cell? ⟨(ad3.add (j * 5)).block, (ad3.add (j * 5)).off + 4, none⟩ = some (.slice ua un uc) ∧ w3.cell? ⟨(ad.add (i * 4)).block, (ad.add (i * 4)).off + 2, none⟩ = some (.slice pa xn pc) ∧ Below w1.heap.size w1 w3) := by
                    have hkk := HK.out _ (HkA.out (.cells #[.int .i64 k2, .string n2, .int .i64 i2, .int .i64 h2, .slice a2 m2 c2] 32))
                    obtain ⟨l0, l1, l2, l3, l4, l5, -⟩ := hkk
                    have k : ∀ p v, p.block < w1.heap.size → (w'.alloc (.cells #[.int .i64 k2, .string n2, .int .i64 i2, .int .i64 h2, .slice a2 m2 c2] 32)).cell? p = some v → w3.cell? p = some v := fun p v hp h => hg.cell h (fun e => by have h1 := HOwn.out _ e.symm; omega)
                    exact ⟨k _ _ HAd.out l0, k _ _ HAd.out l1, k _ _ HAd.out l2, k _ _ HAd.out l3, k _ _ HAd.out l4, k _ _ (World.block_lt_of_cell? _ _ HQ2.out) l5, HBf.out⟩))
          all_goals
            have HRw2 : Hid (RowG TyE w3 w1.heap.size (fun _ => True) (.slice a' (j + 1) c') ((c.fields.take (j + 1)).map (fldA d xs))) := by
              show RowG _ _ _ _ _ _
              rw [← HStep.out]; exact HRw.out
            clear hrw hg
            go_wp2
            go_roundw
            case rel => exact ⟨j + 1, a', c', hjt, by go_num, rfl, HRw2, HBf⟩
            case measure => simp [intOf]; omega
        · have hj2 : c.fields.take j = c.fields := List.take_of_length_le (by rw [← HFn.out]; omega)
          obtain rfl : fn = j := by omega
          have hrr := HRow.out
          rw [hj2] at hrr
          have HRr := Lib.hid (slG_repL (hrr.slG (S' := fun _ => True) (fun _ h => h) (fun _ _ => trivial)))
          have hln : (c.fields.map (fldA d xs)).length = fn := by rw [List.length_map, HFn.out]
          have HLn := Lib.hid hln
          clear hrr hln
          go_wp2
          go_returns
          refine ⟨?_, HB1.out.trans (HB.out.mono HB1.out.size)⟩
          rw [HR2.out]
          refine ⟨ya, yc, ?_, ?_⟩
          · rw [HLn.out]; rfl
          · rw [HLn.out]; exact HRr.out
    · have hR2 : flds ds s xs = none := by rw [HR.out, if_neg (by rw [← HXn.out]; exact hlen)]
      have HR2 := Lib.hid hR2
      have hii : (i : Int) < (dn : Int) := by omega
      have hln : ¬ (xn : Int) = (d.params.length : Int) := by omega
      clear hR2 HR
      go_enter Try.func27, Try.ntmps27
      go_wp2_with (go_at_call 22; refine HFi.out.mono ?_; rintro e w1 ⟨rfl, hb1⟩; unfold fndV; obtain ⟨ad, pa, pc, ca, cc, rfl, hps, hct, q0, q1, q2, q3⟩ := dat_at (HD.out.lift' hb1) HDt.out)
      go_returns
      exact ⟨by rw [HR2.out]; rfl, hb1⟩
end Go.Proofs.Ytfkbifbodpelmaa

/- The law DeclareFields returns true at every input. -/
namespace Go.Proofs.Ytfkbifbodpelmaa
open Go.RowKit Go.Sort Go.Shelf Go.Maps Mth

def nm10 : List ByteArray := [⟨#[78, 111, 110, 101]⟩, ⟨#[83, 111, 109, 101]⟩, ⟨#[78, 105, 108]⟩, ⟨#[67, 111, 110, 115]⟩, ⟨#[84, 114, 117, 101]⟩, ⟨#[80, 97, 105, 114]⟩, ⟨#[66, 111, 116, 104]⟩, ⟨#[70, 117, 110]⟩, ⟨#[79, 110, 101]⟩, ⟨#[71, 111, 110, 101]⟩]
theorem nm10_at {i : Int} (h1 : 0 ≤ i) (h2 : i < 10) : ∃ (k : Nat) (s : ByteArray), i = k ∧ nm10[k]? = some s := by
  obtain ⟨k, rfl⟩ : ∃ k : Nat, i = k := ⟨i.toNat, by omega⟩
  have hk : k < nm10.length := by show k < 10; omega
  exact ⟨k, nm10[k], rfl, List.getElem?_eq_getElem hk⟩
theorem nm10_cell (w : World) (Z : TypeId) {k : Nat} {s : ByteArray} (h : nm10[k]? = some s) : (w.alloc (.cells #[.string ⟨#[78, 111, 110, 101]⟩, .string ⟨#[83, 111, 109, 101]⟩, .string ⟨#[78, 105, 108]⟩, .string ⟨#[67, 111, 110, 115]⟩, .string ⟨#[84, 114, 117, 101]⟩, .string ⟨#[80, 97, 105, 114]⟩, .string ⟨#[66, 111, 116, 104]⟩, .string ⟨#[70, 117, 110]⟩, .string ⟨#[79, 110, 101]⟩, .string ⟨#[71, 111, 110, 101]⟩] Z)).cell? ⟨w.heap.size, k, none⟩ = some (.string s) := by
  have hk : k < 10 := (List.getElem?_eq_some_iff.1 h).1
  have hk' : k = 0 ∨ k = 1 ∨ k = 2 ∨ k = 3 ∨ k = 4 ∨ k = 5 ∨ k = 6 ∨ k = 7 ∨ k = 8 ∨ k = 9 := by omega
  unfold nm10 at h
  rcases hk' with rfl | rfl | rfl | rfl | rfl | rfl | rfl | rfl | rfl | rfl
  all_goals
    simp at h
    subst h
    simp
theorem Tq.row {w w' : World} {b : Nat} {r : Option Nat} (h : Tq w b) (hg : w.grownBy w' r) (hr : ∀ k, r = some k → b < k) : Tq w' b := by
  cases r with
  | some k => exact h.other (hr k rfl) hg
  | none => exact h.other (Nat.lt_succ_self b) ⟨hg.os, hg.tape, hg.output, hg.size, fun k hk _ => hg.block k hk (by simp)⟩
theorem teqL_self (l : List Ty) : teqL l l = true := by
  have hr : ∀ T : Ty, teq T T = true := fun T => by
    refine Ty.induct (p := fun T => teq T T = true) (fun T ih => ?_) T
    cases T with
    | mk k n i h ts =>
      have : teqL ts ts = true := by
        have key : ∀ l : List Ty, (∀ U ∈ l, teq U U = true) → teqL l l = true := by
          intro l
          induction l with
          | nil => intro _; rfl
          | cons x l ihl => intro hl; simp [teqL, hl x (by simp), ihl fun U hU => hl U (by simp [hU])]
        exact key ts ih
      simp [teq, this]
  induction l with
  | nil => rfl
  | cons x l ih => simp [teqL, hr x, ih]
/-- The tape, the declarations and the row of types between two rounds. -/
structure FwSt (w0 : World) (b base : Nat) (ds : List Dat) (dv y : Value) (ys : List Ty) (wr : World) : Prop where
  tp : Tq wr b
  dat : SlG DatE wr (fun c => b < c ∧ c < base) ds dv
  row : RowG TyE wr base (fun c => base ≤ c) y ys
  low : Below b w0 wr
  bb : b < base
  size : base ≤ wr.heap.size
theorem FwSt.lift {w0 wr wr' : World} {b base : Nat} {ds : List Dat} {dv y : Value} {ys : List Ty} (h : FwSt w0 b base ds dv y ys wr) (hb : Below wr.heap.size wr wr') : FwSt w0 b base ds dv y ys wr' :=
  ⟨h.tp.lift hb, h.dat.lift' hb, h.row.lift hb, h.low.trans (hb.mono (Nat.le_trans (Nat.le_of_lt h.bb) h.size)), h.bb, Nat.le_trans h.size hb.size⟩
theorem FwSt.type {w0 wr wr' : World} {b base : Nat} {ds : List Dat} {dv y : Value} {ys : List Ty} (h : FwSt w0 b base ds dv y ys wr) (ht : Tq wr' b) (hg : wr.grownBy wr' (some b)) : FwSt w0 b base ds dv y ys wr' := by
  have hbb := h.bb
  refine ⟨ht, h.dat.kept (fun _ h => h) (fun c hc hl => hg.block c hl (by intro e; have := Option.some.inj e; omega)), h.row.kept hg (h.row.off hbb) (fun c hc => by intro e; have := Option.some.inj e; omega), Below.grown h.low hg (Nat.le_trans (Nat.le_of_lt hbb) h.size) (fun k hk => by cases hk; exact Nat.le_refl _), hbb, Nat.le_trans h.size hg.size⟩
theorem FwSt.push {w0 wr wr' : World} {b base : Nat} {ds : List Dat} {dv y y' : Value} {ys ys' : List Ty} (h : FwSt w0 b base ds dv y ys wr) (hr : RowG TyE wr' base (fun c => base ≤ c) y' ys') (hg : wr.grownBy wr' y.ownBlock) : FwSt w0 b base ds dv y' ys' wr' := by
  have hbb := h.bb
  have hl := fun k e => (RowG.lt h.row k e).1
  exact ⟨h.tp.row hg (fun k e => by have := hl k e; omega), h.dat.kept (fun _ h => h) (fun c hc hlt => hg.block c hlt (fun e => by have := hl c e.symm; omega)), hr, Below.grown h.low hg (Nat.le_trans (Nat.le_of_lt hbb) h.size) (fun k e => by have := hl k e; omega), hbb, Nat.le_trans h.size hg.size⟩

set_option maxRecDepth 100000 in
set_option maxHeartbeats 1600000 in
theorem declareFields_any (bits : Int) (cv : Value) (zs : List Int) (n m : Int) (w : World) (hz : Ints w cv zs) :
    Calls Try.prog 6 #[.int .i64 bits, cv, .int .i64 n, .int .i64 m] w fun e w' => e = .returned (.bool true) ∧ Below w.heap.size w w' := by
  have HFi := Lib.hid (fun w => first9_any w)
  have HFw : Hid (∀ w', Below w.heap.size w w' → Calls Try.prog 10 #[cv] w' fun e w'' => e = .returned (.bool (decide (zs.length ≤ 60))) ∧ w' = w'') := fun w' hb => few_any cv zs w' (hz.lift hb)
  have HZ := Lib.hid hz
  obtain ⟨ca, cc, rfl, -, -, -⟩ := hz
  obtain ⟨zn, hzn⟩ : ∃ n, n = zs.length := ⟨_, rfl⟩
  rw [← hzn] at HFw HZ ⊢
  have HZn := Lib.hid hzn
  clear hzn
  cases hfw : decide (zn ≤ 60)
  all_goals
    rw [hfw] at HFw
    have HFwp := Lib.hid hfw
    clear hfw
    go_enter Try.func6, Try.ntmps6
    go_wp2_with fail
    go_at_call 9
    refine (HFi.out _).mono ?_
    rintro e w1 ⟨rfl, hb1, hs1⟩
    go_wp2_with (first
      | (go_at_call 10; refine (HFw.out _ hb1).mono ?_; rintro e w2 ⟨rfl, rfl⟩))
  any_goals (go_ret; exact ⟨rfl, hb1⟩)
  have hz60 : zn ≤ 60 := of_decide_eq_true HFwp.out
  have HT0 : Hid (Tq (w1.alloc (.cells #[.slice ca zn cc, .int .i64 0] 29)) w1.heap.size) := tape_new HZn.out (by rw [← HZn.out]; omega) HZ.out hb1 hs1
  have hal : Below w1.heap.size w1 (w1.alloc (.cells #[.slice ca zn cc, .int .i64 0] 29)) := (Below.refl _ w1).alloc (Nat.le_refl _) _
  have HB0 := Lib.hid (hb1.trans (hal.mono hb1.size))
  have hsz0 : (w1.alloc (.cells #[.slice ca zn cc, .int .i64 0] 29)).heap.size = w1.heap.size + 1 := by simp
  have HSz0 := Lib.hid hsz0
  have hbw : w.heap.size ≤ w1.heap.size := hb1.size
  have HD := Lib.hid (fun w => datasB_any bits w)
  have HLv := Lib.hid (fun w => mkLeaves_any w)
  have HMk := Lib.hid (mkType_any 2)
  have HSg := Lib.hid (dsOf_some bits).g
  have HGd := Lib.hid (dsOf_good bits)
  obtain ⟨q, hq⟩ : ∃ q : Nat, m % 4 = q := ⟨(m % 4).toNat, by have := Int.emod_nonneg m (b := 4) (by omega); omega⟩
  have hq4 : q < 4 := by have := Int.emod_lt_of_pos m (b := 4) (by omega); omega
  have HMod : Hid (∀ W, Calls Try.prog 11 #[.int .i64 m, .int .i64 4] W fun e W' => e = .returned (.int .i64 (q : Int)) ∧ W = W') := fun W => by
    have := mod_any m 4 W (by decide) (by decide)
    rwa [hq] at this
  obtain ⟨r, s, hr, hs⟩ := nm10_at (Int.emod_nonneg n (b := 10) (by omega)) (Int.emod_lt_of_pos n (b := 10) (by omega))
  have HMod2 : Hid (∀ W, Calls Try.prog 11 #[.int .i64 n, .int .i64 10] W fun e W' => e = .returned (.int .i64 (r : Int)) ∧ W = W') := fun W => by
    have := mod_any n 10 W (by decide) (by decide)
    rwa [hr] at this
  have hr10 : r < 10 := (List.getElem?_eq_some_iff.1 hs).1
  have HSc := Lib.hid (fun w => nm10_cell w 9 hs)
  clear hal hsz0 HZ HZn hb1 hs1 HFwp hq hr hs HFw HFi hz60
  go_wp2_with fail
  go_at_call 13
  generalize (w1.alloc (.cells #[.slice ca zn cc, .int .i64 0] 29)) = w0 at *
  generalize w1.heap.size = b at *
  refine (HD.out w0).mono ?_
  rintro e w2 ⟨dv, rfl, ho, hb2⟩
  generalize dsOf bits = ds at *
  obtain ⟨da, dc, rfl, -⟩ := slice_form ho.slG
  have hw0 : w0.heap.size = b + 1 := HSz0.out
  have HF0 : Hid (FwSt w0 b w2.heap.size ds (.slice da ds.length dc) (.slice none 0 0) [] w2) := ⟨HT0.out.lift hb2, ho.slG.bound.kept (fun c hc => ⟨by omega, hc.2⟩) (fun _ _ _ => rfl), rowG_nil _ _ _ _, hb2.mono (by omega), by have := hb2.size; omega, Nat.le_refl _⟩
  clear ho hb2 HD HT0 hw0
  obtain ⟨dn, hdn⟩ : ∃ n, n = ds.length := ⟨_, rfl⟩
  rw [← hdn] at HF0 ⊢
  clear hdn
  go_wp2_with (go_at_call 11; refine (HMod.out _).mono ?_; rintro e w3 ⟨rfl, rfl⟩)
  go_loopw [11, 12] (fun y x wr => ∃ (j : Nat) (ya : Option Addr) (yc : Nat) (ys : List Ty), j ≤ q ∧ x = .int .i64 ((q - j : Nat) : Int) ∧ y = .slice ya j yc ∧ Hid (ys.length = j) ∧ Hid (FwSt w0 b w2.heap.size ds (.slice da dn dc) (.slice ya j yc) ys wr)) (fun _ x _ => (intOf x).toNat)
  case atStart => exact ⟨0, none, 0, [], Nat.zero_le _, rfl, rfl, rfl, HF0.out⟩
  case round =>
    obtain ⟨j, ya, yc, ys, hj, rfl, rfl, HYs, HF⟩ := hrel
    clear HF0
    by_cases hjq : j < q
    · have hji : (0 : Int) < ((q - j : Nat) : Int) := by omega
      go_wp2_with fail
      go_at_call 14
      refine (HLv.out _).mono ?_
      rintro e w4 ⟨lv, rfl, hrow, hb4⟩
      have HF4 := Lib.hid (HF.out.lift hb4)
      have hsr := HF.out.size
      have hbb := HF.out.bb
      have HL4 : Hid (SlG TyE w4 (fun c => b < c) leavesL lv) := RowG.slG hrow (fun c hc => by omega) (fun c hc => by omega)
      clear hrow hb4
      go_wp2_with fail
      go_at_call 12
      refine (HMk.out 2 ds _ leavesL lv (fun c => b < c) b w4.heap.size w4 rfl (by decide) HSg.out leavesL_ok (HF4.out.dat.kept (fun c hc => hc.1) (fun _ _ _ => rfl)) HL4.out (fun c hc => Nat.ne_of_gt hc) HF4.out.tp (Nat.le_refl _)).mono ?_
      rintro e w5 ⟨u, rfl, T, hrep, hok, htq, hg5⟩
      have HF5 := Lib.hid (HF4.out.type htq hg5)
      have HRp := Lib.hid hrep.bound
      have HOwn : Hid (∀ g, (Value.slice ya j yc).ownBlock = some g → w2.heap.size ≤ g ∧ g < w4.heap.size) := fun g e => RowG.lt HF4.out.row g e
      obtain ⟨uk, un, ui, uh, ua, um, uc, rfl⟩ := hrep.form
      have hw4 : w2.heap.size ≤ w4.heap.size := HF4.out.size
      have HAl : Hid (∀ X, Below w5.heap.size w5 (w5.alloc X)) := fun X => (Below.refl _ w5).alloc (Nat.le_refl _) X
      have HFX := Lib.hid (fun X => HF5.out.lift (HAl.out X))
      have HN : Hid (∀ X Z, (w5.alloc (.cells X Z)).heap[w5.heap.size]? = some (.cells X Z (0, 0))) := fun X Z => heap_alloc_new w5 _
      have HEl : Hid (∀ X, TyE.rep (w5.alloc X) (fun c => w2.heap.size ≤ c ∧ some c ≠ (Value.slice ya j yc).ownBlock) T [.int .i64 uk, .string un, .int .i64 ui, .int .i64 uh, .slice ua um uc]) := fun X => (HRp.out.lift (HAl.out X)).imp (fun c hc => ⟨Nat.le_trans hw4 hc.1, fun e => by have h1 := (HOwn.out c e.symm).2; have h2 := hc.1; omega⟩)
      have hNb : j + 1 ≤ 1000000 := by omega
      clear hrep hok htq hg5 HF4 HL4 hsr hbb
      go_wp2_with (at_builtin; refine wpList_pushG TyE rfl _ _ rfl w2.heap.size (fun c => w2.heap.size ≤ c) (.slice ya j yc) ys rfl (HFX.out _).row w5.heap.size _ [.int .i64 uk, .string un, .int .i64 ui, .int .i64 uh, .slice ua um uc] (HN.out _ _) rfl T (HEl.out _) (j + 1) (by rw [HYs.out]) hNb (HFX.out _).size ?_; intro a3 c3 w6 hrow6 hg6; have HF6 := Lib.hid ((HFX.out _).push hrow6 hg6); clear hrow6 hg6)
      go_roundw
      case rel => exact ⟨j + 1, a3, c3, ys ++ [T], hjq, by go_num, rfl, by show _ = _; rw [List.length_append, HYs.out]; rfl, HF6.out⟩
      case measure => simp [intOf]; omega
    · obtain rfl : q = j := by omega
      have hr10i : (r : Int) < 10 := by omega
      have hsc := HSc.out wr
      have HLow := Lib.hid (HB0.out.trans (HF.out.low.mono hbw))
      have HA : Hid (∀ X, Below wr.heap.size wr (wr.alloc X)) := fun X => (Below.refl _ wr).alloc (Nat.le_refl _) X
      have HFa : Hid (∀ V, Below wr.heap.size wr V → Calls Try.prog 26 #[.slice da dn dc, .string s, .slice ya q yc] V fun e w' => FldE w' (flds ds s ys) e ∧ Below V.heap.size V w') := fun V hV => fields_any ds HGd.out s ys _ _ _ (fun _ => True) V (HF.out.dat.lift' hV) ((slG_repL (HF.out.row.slG (fun _ _ => trivial) (fun _ _ => trivial))).lift hV)
      have HFb : Hid (∀ V, Below wr.heap.size wr V → Calls Try.prog 27 #[.slice da dn dc, .string s, .slice ya q yc] V fun e w' => FldE w' (flds ds s ys) e ∧ Below V.heap.size V w') := fun V hV => refFields_any ds HGd.out s ys _ _ _ (fun _ => True) V (HF.out.dat.lift' hV) ((slG_repL (HF.out.row.slG (fun _ _ => trivial) (fun _ _ => trivial))).lift hV)
      have HEq : Hid (∀ V v1 v2 (l : List Ty), RepL V (fun _ => True) l v1 → RepL V (fun _ => True) l v2 → Calls Try.prog 28 #[v1, v2] V fun e w' => e = .returned (.bool true) ∧ Below V.heap.size V w') := fun V v1 v2 l h1 h2 => by
        have := refEqAll_of l l (fun T _ => fun U v u S S' w h1 h2 => refEqual_any _ T (Nat.le_refl _) U v u S S' w h1 h2) v1 v2 _ _ V h1 h2
        rwa [teqL_self] at this
      clear HF HB0 HYs HMk HLv HSg HGd HSz0 HMod
      cases hfl : flds ds s ys with
      | none =>
        rw [hfl] at HFa HFb
        have HNl : Hid (∀ V, RepL V (fun _ => True) ([] : List Ty) (.slice none 0 0)) := fun V => ⟨none, 0, rfl, by simp, fun j T hj => by simp at hj⟩
        clear hfl
        go_wp2_with (first
          | (go_at_call 11; refine (HMod2.out _).mono ?_; rintro e w3 ⟨rfl, rfl⟩)
          | (go_at_call 26; refine (HFa.out _ (HA.out _)).mono ?_; rintro e w4 ⟨h1, hb4⟩; unfold FldE at h1; subst h1; have HW4 := Lib.hid ((HA.out _).trans (hb4.mono (HA.out _).size)); clear hb4 hsc)
          | (go_at_call 27; refine (HFb.out _ HW4.out).mono ?_; rintro e w5 ⟨h1, hb5⟩; unfold FldE at h1; subst h1; have HW5 := Lib.hid (HW4.out.trans (hb5.mono HW4.out.size)); clear hb5)
          | (go_at_call 28; refine (HEq.out _ _ _ [] (HNl.out _) (HNl.out _)).mono ?_; rintro e w6 ⟨rfl, hb6⟩; have HW6 := Lib.hid (HW5.out.trans (hb6.mono HW5.out.size)); clear hb6))
        go_ret
        exact ⟨rfl, HLow.out.trans (HW6.out.mono HLow.out.size)⟩
      | some vs =>
        rw [hfl] at HFa HFb
        clear hfl
        go_wp2_with (first
          | (go_at_call 11; refine (HMod2.out _).mono ?_; rintro e w3 ⟨rfl, rfl⟩)
          | (go_at_call 26; refine (HFa.out _ (HA.out _)).mono ?_; rintro e w4 ⟨h1, hb4⟩; obtain ⟨a4, c4, rfl, hr4⟩ := h1; have HR4 := Lib.hid hr4; have HW4 := Lib.hid ((HA.out _).trans (hb4.mono (HA.out _).size)); clear hb4 hsc hr4)
          | (go_at_call 27; refine (HFb.out _ HW4.out).mono ?_; rintro e w5 ⟨h1, hb5⟩; obtain ⟨a5, c5, rfl, hr5⟩ := h1; have HR5 := Lib.hid hr5; have HR6 := Lib.hid (HR4.out.lift hb5); have HW5 := Lib.hid (HW4.out.trans (hb5.mono HW4.out.size)); clear hb5 hr5)
          | (go_at_call 28; (with_reducible refine (HEq.out _ _ _ vs HR6.out HR5.out).mono ?_); rintro e w6 ⟨rfl, hb6⟩; have HW6 := Lib.hid (HW5.out.trans (hb6.mono HW5.out.size)); clear hb6))
        go_ret
        exact ⟨rfl, HLow.out.trans (HW6.out.mono HLow.out.size)⟩
end Go.Proofs.Ytfkbifbodpelmaa

/- The law DeclareFields returns true at every input, and every argument reads behind the call as it read before. No condition. -/
namespace Go.Proofs.Ytfkbifbodpelmaa.declareFields
open Go.ChangeShapes Go.WideShapes Go.ChangeAt Go.ChangeMaps Go.RowKit

set_option maxRecDepth 100000 in
/-- What the walk gives for every argument and every world. -/
theorem contract (H : Type) (enc : TypeId × Value → H) (W : World) (base : Nat) (args : Array Value) (ds gs : List (DataW H)) (before : List MemPlace)
    (hval : ∀ (j : Nat) t v, Try.f6.params[j]? = some t → args[j]? = some v → Value.okWide Try.prog W .any base t v)
    (hW : DataW.Whole enc Try.prog Try.f6.params.toList Rows.declareFieldsSpec.vars false W args.toList ds gs before) :
    Calls Try.prog 6 args W fun e W' => ∃ v, e = .returned v ∧ Rows.declareFieldsSpec.post enc Try.prog Try.f6 false true false false W args v W' := by
  have hW' := hW
  obtain ⟨p, q, hA0, hV, rfl, hfz, hnd⟩ := hW
  have hA : DataW.TrodAll enc Try.prog W 0 (fun _ => true) true Try.f6.params.toList args.toList ds p := hA0
  rw [Try.params6] at hA hval
  obtain ⟨v0, vs0, d0, ds0, p0, q0, hargs, rfl, rfl, h0, r0⟩ := trodAll_cons hA
  obtain ⟨v1, vs1, d1, ds1, p1, q1, rfl, rfl, rfl, h1, r1⟩ := trodAll_cons r0
  obtain ⟨v2, vs2, d2, ds2, p2, q2, rfl, rfl, rfl, h2, r2⟩ := trodAll_cons r1
  obtain ⟨v3, vs3, d3, ds3, p3, q3, rfl, rfl, rfl, h3, r3⟩ := trodAll_cons r2
  obtain ⟨rfl, rfl, rfl⟩ := trodAll_nil r3
  obtain rfl : args = #[v0, v1, v2, v3] := by cases args; simp_all
  obtain ⟨rfl, rfl⟩ := trodVars_none hV
  obtain ⟨bits, rfl, rfl, rfl, wbits⟩ := open_int Try.underlying3 (hval 0 3 v0 rfl rfl) h0
  obtain ⟨zs, wzs⟩ := ints_open (hval 1 22 v1 rfl rfl) h1
  obtain ⟨n, rfl, rfl, rfl, wn⟩ := open_int Try.underlying3 (hval 2 3 v2 rfl rfl) h2
  obtain ⟨m, rfl, rfl, rfl, wm⟩ := open_int Try.underlying3 (hval 3 3 v3 rfl rfl) h3
  refine (declareFields_any bits v1 zs n m W wzs).mono fun e W' ⟨he, hb⟩ => ?_
  subst he
  exact law_post rfl (by kernel_rfl) rfl hW' rfl rfl rfl hb

set_option maxRecDepth 100000 in
theorem lifted (os : Os) (started : os.Started) (H : Type) (enc : TypeId × Value → H) :
    ReturnsInHanded {} Try.checked os 6 .any (Rows.declareFieldsSpec.pre6 enc Try.prog Try.f6 Rows.declareFieldsRow.domain false) (Rows.declareFieldsSpec.post enc Try.prog Try.f6 false true false false) := by
  refine returnsInHanded_of_change (C := Try.checked) Try.own started (by kernel_rfl) Try.func6
    (ChangeSpec.witness6 (enc := enc) (C := Try.checked) false ⟨#[], #[.int .i64 0, .slice none 0 0, .int .i64 0, .int .i64 0], []⟩ 8 (by kernel_rfl) (by kernel_rfl) (by kernel_rfl) (by kernel_rfl)) ?_
  intro W base args ds gs before hval hW _ _
  exact contract H enc W base args ds gs before hval hW

theorem said : Rows.DeclareFieldsSaid :=
  OpenClaim.holds_of_wide 6 Try.f6 rfl rfl rfl rfl rfl rfl rfl ⟨rfl, rfl, rfl, rfl, rfl⟩ rfl rfl rfl rfl rfl (by kernel_rfl) Try.func6 (by kernel_rfl)
    (of_decide_eq_true (by kernel_rfl)) (by unfold Func.isWrapper; first | (rw [if_pos (by decide +kernel)]; kernel_rfl) | (rw [if_neg (by decide +kernel)]; exact ⟨rfl, rfl⟩))
    (fun os started H enc _ => lifted os started H enc)

#print axioms said
end Go.Proofs.Ytfkbifbodpelmaa.declareFields
