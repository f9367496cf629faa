import Derived.Test.YtljgpgmaceackaaQX04
import Derived.Test.YtljgpgmaceackaaQX02
import Derived.Deep.CutBlock
import Derived.Deep.LoopGhost
/- The package's errors of a type: all nodes. -/
namespace Go.Proofs.Ytljgpgmaceackaa
open Go.RowKit Go.Maps Mth S3

def FrmAt (ks : List (List UInt8 × Int)) (ns : List ByteArray) (T : Ty) : Prop := ∀ (b m : Nat) (v nv : Value) (S S' : Nat → Prop) (w : World), KM w b m ks → SlG StrE w S' ns nv → Rep w S T v →
  Calls Try.prog 80 #[.map (some b), v, nv] w fun e w' => e = .returned (.int .i64 (frm ks ns T)) ∧ Below w.heap.size w w'
theorem frmL_drop {ks : List (List UInt8 × Int)} {ns : List ByteArray} {l : List Ty} {j : Nat} {T : Ty} (h : l[j]? = some T) : frmL ks ns (l.drop j) = if frm ks ns T == 0 then frmL ks ns (l.drop (j + 1)) else frm ks ns T := by
  obtain ⟨hl, e⟩ := List.getElem?_eq_some_iff.1 h
  rw [List.drop_eq_getElem_cons hl, e]
  rfl
set_option maxRecDepth 100000 in
set_option maxHeartbeats 3200000 in
theorem formed_of (ks : List (List UInt8 × Int)) (ns : List ByteArray) (T : Ty) (H : ∀ U ∈ T.ts, FrmAt ks ns U) : FrmAt ks ns T := by
  intro b m v nv S S' w hK hN h
  have HE : Hid (∀ V u, Below w.heap.size w V → Rep V S T u → Calls Try.prog 92 #[.map (some b), u, nv] V fun e w' => e = .returned (.int .i64 (ndE ks ns T.k T.n T.ts.length)) ∧ Below V.heap.size V w') := fun V u hb hu => nodeErr_any T ks ns b m u nv S S' V (hK.lift hb) (hN.lift' hb) hu
  have HF : Hid (frm ks ns T = if ndE ks ns T.k T.n T.ts.length == 0 then frmL ks ns T.ts else ndE ks ns T.k T.n T.ts.length) := by cases T; rfl
  have HH := Lib.hid H
  have HK := Lib.hid hK
  have HN := Lib.hid hN
  obtain ⟨k, n, i, hm, s, eT, rfl, hn, hs⟩ := h.open
  have HR := Lib.hid h
  obtain ⟨sa, sc, rfl, ⟨hl1, hl2⟩, hj⟩ := hs
  have HJ := Lib.hid hj
  obtain ⟨na, nc, rfl, hle⟩ := slice_form hN
  have hlt : T.ts.length ≤ maxLen := by omega
  clear hK hN h H hj eT hl1 hl2
  generalize ndE ks ns T.k T.n T.ts.length = ev at *
  obtain ⟨tn, htn⟩ : ∃ n, n = T.ts.length := ⟨_, rfl⟩
  rw [← htn] at HR hlt ⊢
  have HTn := Lib.hid htn
  clear htn
  generalize ns.length = nn at *
  unfold maxLen at hlt hle
  have hal : Below w.heap.size w (w.alloc (.cells #[.int .i64 k, .string n, .int .i64 i, .int .i64 hm, .slice sa tn sc] 34)) := (Below.refl _ w).alloc (Nat.le_refl _) _
  have HBx : Hid (Box (w.alloc (.cells #[.int .i64 k, .string n, .int .i64 i, .int .i64 hm, .slice sa tn sc] 34)) w.heap.size (.int .i64 k) (.string n) (.int .i64 i) (.int .i64 hm) (.slice sa tn sc)) := Box.made _ _ _ _ _ _
  have HRV := Lib.hid (HR.out.lift hal)
  have HB := Lib.hid hal
  clear hal
  cases hq : (ev == 0) with
  | false =>
    have hq' : (ev != 0) = true := by rw [bne, hq]; rfl
    rw [hq] at HF
    clear hq
    go_enter Try.func80, Try.ntmps80
    go_upto_region 1 with fail
    generalize (w.alloc (.cells #[.int .i64 k, .string n, .int .i64 i, .int .i64 hm, .slice sa tn sc] 34)) = V at *
    obtain ⟨b0, b1, b2, b3, b4⟩ := HBx.out.cells
    go_wp2_with (go_at_call 92; refine (HE.out V _ HB.out HRV.out).mono ?_; rintro e w1 ⟨rfl, hb1⟩)
    go_ret
    exact ⟨by rw [HF.out]; rfl, HB.out.trans (hb1.mono HB.out.size)⟩
  | true =>
    have hq' : (ev != 0) = false := by rw [bne, hq]; rfl
    have HF2 : Hid (frm ks ns T = frmL ks ns T.ts) := by show _ = _; rw [HF.out, hq]; simp
    clear hq HF
    have HL : Hid (frmL ks ns T.ts = frmL ks ns (T.ts.drop 0)) := by show _ = _; simp
    go_enter Try.func80, Try.ntmps80
    go_upto_region 1 with fail
    generalize (w.alloc (.cells #[.int .i64 k, .string n, .int .i64 i, .int .i64 hm, .slice sa tn sc] 34)) = V at *
    obtain ⟨b0, b1, b2, b3, b4⟩ := HBx.out.cells
    go_wp2_with (go_at_call 92; refine (HE.out V _ HB.out HRV.out).mono ?_; rintro e w1 ⟨rfl, hb1⟩; have c4 := (HBx.out.lift hb1).cells.2.2.2.2; have HB1 := Lib.hid (HB.out.trans (hb1.mono HB.out.size)); clear hb1)
    clear b0 b1 b2 b3 b4 c4 HE HBx HRV HB
    go_loopw [21] (fun x wr => ∃ j : Nat, j ≤ tn ∧ x = .int .i64 j ∧ Hid (frmL ks ns T.ts = frmL ks ns (T.ts.drop j)) ∧ Hid (Below w.heap.size w wr)) (fun x _ => tn - (intOf x).toNat)
    case atStart => exact ⟨0, Nat.zero_le _, rfl, HL, HB1⟩
    case round =>
      obtain ⟨j, hj, rfl, HT, HBr⟩ := hrel
      by_cases hjt : j < tn
      · obtain ⟨U, hU⟩ : ∃ x, T.ts[j]? = some x := ⟨_, List.getElem?_eq_getElem (by rw [← HTn.out]; exact hjt)⟩
        have HS := Lib.hid (frmL_drop (ks := ks) (ns := ns) hU)
        obtain ⟨ad, x, rfl, hS, h5, hx⟩ := HJ.out j U hU
        have hx' := hx.lift HBr.out
        have g5 := h5.kept (HBr.out.block _ h5.lt)
        have HUm := Lib.hid (List.mem_of_getElem? hU)
        obtain ⟨k', n', i', h', s', -, rfl, hn', hs'⟩ := hx'.open
        obtain ⟨q0, q1, q2, q3, q4⟩ := five_at g5
        obtain ⟨ua, uc, rfl, -⟩ := hs'
        have hal : Below wr.heap.size wr (wr.alloc (.cells #[.int .i64 k', .string n', .int .i64 i', .int .i64 h', .slice ua U.ts.length uc] 34)) := (Below.refl _ wr).alloc (Nat.le_refl _) _
        have HBU : Hid (Box (wr.alloc (.cells #[.int .i64 k', .string n', .int .i64 i', .int .i64 h', .slice ua U.ts.length uc] 34)) wr.heap.size (.int .i64 k') (.string n') (.int .i64 i') (.int .i64 h') (.slice ua U.ts.length uc)) := Box.made _ _ _ _ _ _
        have HBa := Lib.hid (HBr.out.trans (hal.mono HBr.out.size))
        have HC := Lib.hid (HH.out U HUm.out b m _ _ S S' _ (HK.out.lift HBa.out) (HN.out.lift' HBa.out) (hx'.lift hal))
        have hji : (j : Int) < (tn : Int) := by omega
        clear hU hx hx' g5 h5 hS hn' hal
        generalize U.ts.length = un at *
        go_upto_region 7 with fail
        generalize (wr.alloc (.cells #[.int .i64 k', .string n', .int .i64 i', .int .i64 h', .slice ua un uc] 34)) = V at *
        generalize wr.heap.size = R at *
        clear q0 q1 q2 q3 q4
        obtain ⟨q0, q1, q2, q3, q4⟩ := HBU.out.cells
        generalize frm ks ns U = eu at *
        cases hq : (eu == 0) with
        | true =>
          have hqn : (eu != 0) = false := by rw [bne, hq]; rfl
          have HT2 : Hid (frmL ks ns T.ts = frmL ks ns (T.ts.drop (j + 1))) := by show _ = _; rw [HT.out, HS.out, hq]; rfl
          clear hq
          go_wp2_with (go_at_call 80; refine HC.out.mono ?_; rintro e w1 ⟨rfl, hb1⟩; have HB2 := Lib.hid (HBa.out.trans (hb1.mono HBa.out.size)); clear hb1)
          go_roundw
          case rel => exact ⟨j + 1, hjt, by go_num, HT2, HB2⟩
          case measure => simp [intOf]; omega
        | false =>
          have hqn : (eu != 0) = true := by rw [bne, hq]; rfl
          have HT2 : Hid (frmL ks ns T.ts = eu) := by show _ = _; rw [HT.out, HS.out, hq]; rfl
          clear hq
          go_wp2_with (go_at_call 80; refine HC.out.mono ?_; rintro e w1 ⟨rfl, hb1⟩; have HB2 := Lib.hid (HBa.out.trans (hb1.mono HBa.out.size)); clear hb1)
          go_ret
          exact ⟨by rw [HF2.out, HT2.out]; rfl, HB2.out⟩
      · have HT2 : Hid (frmL ks ns T.ts = 0) := by
          show _ = _
          rw [HT.out, List.drop_eq_nil_of_le (by rw [← HTn.out]; omega)]; rfl
        go_wp2
        go_ret
        exact ⟨by rw [HF2.out, HT2.out]; rfl, HBr.out⟩
theorem formed_any (ks : List (List UInt8 × Int)) (ns : List ByteArray) (T : Ty) : FrmAt ks ns T := Ty.induct (formed_of ks ns) T
end Go.Proofs.Ytljgpgmaceackaa
