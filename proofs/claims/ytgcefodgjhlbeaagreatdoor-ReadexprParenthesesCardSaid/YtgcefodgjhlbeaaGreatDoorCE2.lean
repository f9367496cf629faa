import Derived.Test.YtgcefodgjhlbeaaGreatDoorCA6
import Derived.Deep.RegionHeld3
import Derived.Test.YtgcefodgjhlbeaaGreatDoorCE1
/- The law's own sanity check is true. -/
namespace Go.Proofs.YtgcefodgjhlbeaaGreatDoor
open Go.RowKit Go.Maps Mth

theorem keepCall {W a b : World} (h1 : Below W.heap.size W a) (h2 : Below a.heap.size a b) : Below W.heap.size W b := h1.trans (h2.mono h1.size)
/-- What was read, kept. -/
structure FSt (w : World) (n1 : Nat) (c0 c1 c2 c3 c4 : Value) (T : Ty) (V : World) : Prop where
  box : Box V n1 c0 c1 c2 c3 c4
  flt : V.heap[n1 + 1]? = some (.cells #[.int .i64 0, .int .i64 0] 43 (0, 0))
  rep : Rep V (fun _ => True) T (.agg #[c0, c1, c2, c3, c4])
  low : Below w.heap.size w V
  gl : Gl V
theorem FSt.lift {w V V' : World} {n1 : Nat} {c0 c1 c2 c3 c4 : Value} {T : Ty} (h : FSt w n1 c0 c1 c2 c3 c4 T V) (hb : Below V.heap.size V V') : FSt w n1 c0 c1 c2 c3 c4 T V' :=
  ⟨Box.lift h.box hb, by rw [hb.block _ (Array.getElem?_eq_some_iff.1 h.flt).1]; exact h.flt, h.rep.lift hb, h.low.trans (hb.mono h.low.size), h.gl.lift hb⟩
end Go.Proofs.YtgcefodgjhlbeaaGreatDoor

/- The law's scan and words; the reference's Starts. -/
namespace Go.Proofs.YtgcefodgjhlbeaaGreatDoor
open Go.RowKit Go.Maps Mth

set_option maxHeartbeats 1600000 in
theorem scan6_any (s : ByteArray) (w : World) (hs : s.size ≤ 140737488355328) : Calls Tryz.prog 9 #[.string s] w (ScanEnd w (ftoks (bl s))) := by
  have HS := Lib.hid (refScan_any s w hs)
  go_enter Tryz.func9, Tryz.ntmps9
  go_wp2_with fail
  go_at_call 22
  refine HS.out.mono ?_
  rintro e w1 ⟨v, rfl, hrow, hb⟩
  have HR := Lib.hid (ownsRow_below (ownsRow_base hrow (Nat.le_succ _)) ((Below.refl _ w1).alloc (Nat.le_refl _) (.cells #[.int .i64 (ferr (bl s)), .int .i64 (fpos (bl s))] 43)))
  have HB := Lib.hid (hb.trans (((Below.refl _ w1).alloc (Nat.le_refl _) (.cells #[.int .i64 (ferr (bl s)), .int .i64 (fpos (bl s))] 43)).mono hb.size))
  clear hrow hb HS
  go_wp2
  go_ret
  exact ⟨v, rfl, HR.out, HB.out⟩
end Go.Proofs.YtgcefodgjhlbeaaGreatDoor

/- The law's own sanity check is true. -/
namespace Go.Proofs.YtgcefodgjhlbeaaGreatDoor
open Go.RowKit Go.Maps Mth

def e6src1 : ByteArray := ⟨#[102, 32, 120, 32, 40, 32, 92, 32, 121, 32, 46, 32, 121, 32, 41]⟩
def e6src2 : ByteArray := ⟨#[92, 32, 120, 32, 120]⟩
theorem noColon {ts : List Tok} (h : (ts.all fun t => !(t.kind == 5 && t.text == [58])) = true) (s : St) : yM ts s ⟨#[58]⟩ = false := by
  obtain ⟨i, q, p⟩ := s
  unfold yM yK yT
  cases q
  · simp only [Bool.false_eq_true, if_false]
    unfold tkK txt
    cases ht : ts[i]? with
    | none => rfl
    | some t =>
      have := List.all_eq_true.1 h t (List.mem_of_getElem? ht)
      have e : (⟨t.text.toArray⟩ : ByteArray).toList = t.text := by rw [Lib.toList_data]
      rw [e, show (⟨#[58]⟩ : ByteArray).toList = [58] from by decide +kernel]
      cases hq : (t.kind == 5 && t.text == [58]) with
      | false => rfl
      | true => rw [hq] at this; cases this
  · rfl
def e6ok1 : Bool := match yExpr 60 (ftoks (bl e6src1)) ⟨0, false, 0⟩ with
  | some (T, s) => !s.bad && s.i == 8 && T.k == 5 && (match T.kids with | [A, B] => A.k == 5 && B.k == 4 | _ => false)
  | none => false
def e6ok2 : Bool := match yExpr 60 (ftoks (bl e6src2)) ⟨0, false, 0⟩ with
  | some (_, s) => s.bad && s.p == 4
  | none => false
theorem e6one : e6ok1 = true := by decide +kernel
theorem e6two : e6ok2 = true := by decide +kernel
theorem e6col1 : ((ftoks (bl e6src1)).all fun t => !(t.kind == 5 && t.text == [58])) = true := by decide +kernel
theorem e6col2 : ((ftoks (bl e6src2)).all fun t => !(t.kind == 5 && t.text == [58])) = true := by decide +kernel
theorem startAt_zero (ts : List Tok) : startAt ts 0 = 0 := by unfold startAt; rw [if_neg (by omega)]; rfl
/-- The first example: its two kids, as the law looks at them. -/
theorem e6call1 (ea : Addr) (b : Nat) (v : Value) (V : World) (h : V.ownsRow b 76 3 v (ftoks (bl e6src1)).length (row3 (ftoks (bl e6src1)))) (hg : G2 ea V) :
    Calls Tryz.prog 11 #[v, .int .i64 0] V fun e w' => ∃ c ad cp, e = .returned (.tuple #[.agg (List.toArray c), .int .i64 8, .agg #[.int .i64 0, .int .i64 0]]) ∧ Below V.heap.size V w' ∧ (∃ (p : Int) (n : ByteArray) (m : Int) (aa : Option Addr) (al ac : Nat) (t0 : Int) (t1 : ByteArray) (t2 t3 : Int) (ta : Option Addr) (tl tc : Nat), c = [.int .i64 5, .int .i64 p, .string n, .int .i64 m, .slice (some ad) 2 cp, .slice aa al ac, .int .i64 t0, .string t1, .int .i64 t2, .int .i64 t3, .slice ta tl tc]) ∧
      w'.cell? (ad.add 0) = some (.int .i64 5) ∧ w'.cell? (ad.add 11) = some (.int .i64 4) := by
  have hok := e6one
  unfold e6ok1 at hok
  cases hE : yExpr 60 (ftoks (bl e6src1)) ⟨0, false, 0⟩ with
  | none => rw [hE] at hok; cases hok
  | some q =>
    obtain ⟨T, s⟩ := q
    rw [hE] at hok
    simp only [Bool.and_eq_true] at hok
    obtain ⟨⟨⟨h1, h2⟩, h3⟩, h4⟩ := hok
    obtain ⟨i, q, p⟩ := s
    simp at h1 h2
    subst h1 h2
    have hk : T.k = 5 := by simpa using h3
    obtain ⟨htk, htv⟩ := ftoks_ok (bl e6src1)
    have HY := yAll_any _ htv (fun s hs => by rw [noColon e6col1 s] at hs; cases hs) 60 (by omega)
    refine (yExprCall _ htk ea _ v 0 T ⟨8, false, p⟩ _ hE (by rw [startAt_zero]; exact HY.expr _) V (tokAt_of_row h) hg).mono ?_
    rintro e w' ⟨u, rfl, ⟨c, rfl, hrep⟩, hb⟩
    obtain ⟨kv, av, tc, rfl, -, hkids, harms, htc⟩ := hrep.open
    obtain ⟨aa, ac, rfl, -⟩ := harms.slice
    change SlG ExE _ _ T.kids kv at hkids
    obtain ⟨k0, n0, i0, h0, a0, m0, p0, rfl⟩ := rep_form htc
    cases hl : T.kids with
    | nil => rw [hl] at h4; cases h4
    | cons A l =>
      cases l with
      | nil => rw [hl] at h4; cases h4
      | cons B l =>
        cases l with
        | cons C l => rw [hl] at h4; cases h4
        | nil =>
          rw [hl] at h4 hkids
          simp only [Bool.and_eq_true, beq_iff_eq] at h4
          obtain ⟨a, cap, rfl, hc, hj⟩ := hkids
          obtain ⟨ad, cA, rfl, -, hcA, hrA⟩ := hj 0 A rfl
          obtain ⟨ad', cB, e', -, hcB, hrB⟩ := hj 1 B rfl
          obtain rfl : ad' = ad := by simpa using e'.symm
          obtain ⟨kvA, avA, tcA, rfl, -⟩ := RepE.open hrA
          obtain ⟨kvB, avB, tcB, rfl, -⟩ := RepE.open hrB
          refine ⟨_, ad', cap, rfl, hb, ⟨_, _, _, _, _, _, _, _, _, _, _, _, _, by show _ :: _ = _; rw [show (resY T ⟨8, false, p⟩).T.k = 5 from hk]; rfl⟩, ?_, ?_⟩
          · have := hcA 0 _ rfl
            rw [h4.1] at this
            exact this
          · have := hcB 0 _ rfl
            rw [h4.2] at this
            exact this
theorem e6call2 (ea : Addr) (b : Nat) (v : Value) (V : World) (h : V.ownsRow b 76 3 v (ftoks (bl e6src2)).length (row3 (ftoks (bl e6src2)))) (hg : G2 ea V) :
    Calls Tryz.prog 11 #[v, .int .i64 0] V fun e w' => ∃ c, e = .returned (.tuple #[.agg (List.toArray c), .int .i64 0, .agg #[.int .i64 3, .int .i64 4]]) ∧ Below V.heap.size V w' ∧ ∃ (a0 a1 : Int) (a2 : ByteArray) (a3 : Int) (k1 : Option Addr) (k2 k3 : Nat) (k4 : Option Addr) (k5 k6 : Nat) (a6 : Int) (a7 : ByteArray) (a8 a9 : Int) (k7 : Option Addr) (k8 k9 : Nat), c = [.int .i64 a0, .int .i64 a1, .string a2, .int .i64 a3, .slice k1 k2 k3, .slice k4 k5 k6, .int .i64 a6, .string a7, .int .i64 a8, .int .i64 a9, .slice k7 k8 k9] := by
  have hok := e6two
  unfold e6ok2 at hok
  cases hE : yExpr 60 (ftoks (bl e6src2)) ⟨0, false, 0⟩ with
  | none => rw [hE] at hok; cases hok
  | some q =>
    obtain ⟨T, s⟩ := q
    rw [hE] at hok
    simp only [Bool.and_eq_true] at hok
    obtain ⟨i, q, p⟩ := s
    simp at hok
    obtain ⟨rfl, rfl⟩ := hok
    obtain ⟨htk, htv⟩ := ftoks_ok (bl e6src2)
    have HY := yAll_any _ htv (fun s hs => by rw [noColon e6col2 s] at hs; cases hs) 60 (by omega)
    refine (yExprCall _ htk ea _ v 0 T ⟨i, true, 4⟩ _ hE (by rw [startAt_zero]; exact HY.expr _) V (tokAt_of_row h) hg).mono ?_
    rintro e w' ⟨u, rfl, ⟨c, rfl, hrep⟩, hb⟩
    obtain ⟨ka, kc, aa, ac, tk, tn, ti, th, ta, tl, tcap, rfl⟩ := hrep.form
    exact ⟨_, rfl, hb, _, _, _, _, _, _, _, _, _, _, _, _, _, _, _, _, _, rfl⟩
set_option maxRecDepth 100000 in
set_option maxHeartbeats 8000000 in
theorem first6_any (ea : Addr) (w : World) (hg : G2 ea w) : Calls Tryz.prog 5 #[] w fun e w' => e = .returned (.bool true) ∧ Below w.heap.size w w' := by
  have HG := Lib.hid hg
  have hsz1 : e6src1.size ≤ 140737488355328 := by decide +kernel
  have hsz2 : e6src2.size ≤ 140737488355328 := by decide +kernel
  have HSz1 := Lib.hid hsz1
  have HSz2 := Lib.hid hsz2
  clear hsz1 hsz2 hg
  have HS1 : Hid (Calls Tryz.prog 9 #[.string ⟨#[102, 32, 120, 32, 40, 32, 92, 32, 121, 32, 46, 32, 121, 32, 41]⟩] w (ScanEnd w (ftoks (bl e6src1)))) := scan6_any e6src1 w HSz1.out
  have HS2 : Hid (∀ V, Calls Tryz.prog 9 #[.string ⟨#[92, 32, 120, 32, 120]⟩] V (ScanEnd V (ftoks (bl e6src2)))) := fun V => scan6_any e6src2 V HSz2.out
  have HT1 := Lib.hid (fun (b : Nat) (v : Value) (V : World) (h : V.ownsRow b 76 3 v (ftoks (bl e6src1)).length (row3 (ftoks (bl e6src1)))) (hg : G2 ea V) => e6call1 ea b v V h hg)
  have HT2 := Lib.hid (fun (b : Nat) (v : Value) (V : World) (h : V.ownsRow b 76 3 v (ftoks (bl e6src2)).length (row3 (ftoks (bl e6src2)))) (hg : G2 ea V) => e6call2 ea b v V h hg)
  generalize ftoks (bl e6src1) = ts1 at *
  generalize ftoks (bl e6src2) = ts2 at *
  go_enter Tryz.func5, Tryz.ntmps5
  go_wp2_with fail
  go_at_call 9
  refine HS1.out.mono ?_
  rintro e w1 ⟨v1, rfl, hrow, hb1⟩
  have HR1 := Lib.hid hrow
  have HB1 := Lib.hid hb1
  clear hrow hb1 HS1
  go_wp2_with fail
  go_at_call 11
  refine (HT1.out _ v1 w1 HR1.out (HG.out.lift HB1.out)).mono ?_
  rintro e w2 ⟨c, ad, cp, rfl, hb2, ⟨p, n, m, aa, al, ac, t0, t1, t2, t3, ta, tl, tc, rfl⟩, hA, hB⟩
  have HB2 := Lib.hid (keepCall HB1.out hb2)
  have hba : Below w2.heap.size w2 ((w2.alloc (.cells #[.int .i64 5, .int .i64 p, .string n, .int .i64 m, .slice (some ad) 2 cp, .slice aa al ac, .int .i64 t0, .string t1, .int .i64 t2, .int .i64 t3, .slice ta tl tc] 34)).alloc (.cells #[.int .i64 0, .int .i64 0] 43)) := ((Below.refl _ w2).alloc (Nat.le_refl _) _).alloc (by simp) _
  have HX : Hid (∀ v, Below ((w2.alloc (.cells #[.int .i64 5, .int .i64 p, .string n, .int .i64 m, .slice (some ad) 2 cp, .slice aa al ac, .int .i64 t0, .string t1, .int .i64 t2, .int .i64 t3, .slice ta tl tc] 34)).alloc (.cells #[.int .i64 0, .int .i64 0] 43)).heap.size ((w2.alloc (.cells #[.int .i64 5, .int .i64 p, .string n, .int .i64 m, .slice (some ad) 2 cp, .slice aa al ac, .int .i64 t0, .string t1, .int .i64 t2, .int .i64 t3, .slice ta tl tc] 34)).alloc (.cells #[.int .i64 0, .int .i64 0] 43)) v → v.cell? ⟨w2.heap.size, 0, none⟩ = some (.int .i64 5) ∧ v.cell? ⟨w2.heap.size, 4, none⟩ = some (.slice (some ad) 2 cp) ∧ v.cell? ⟨w2.heap.size + 1, 0, none⟩ = some (.int .i64 0) ∧ v.cell? ad = some (.int .i64 5) ∧ v.cell? ⟨ad.block, ad.off + 11, none⟩ = some (.int .i64 4)) := fun v hv => by
    have hall := hba.trans (hv.mono hba.size)
    have hbx : BoxC 34 ((w2.alloc (.cells #[.int .i64 5, .int .i64 p, .string n, .int .i64 m, .slice (some ad) 2 cp, .slice aa al ac, .int .i64 t0, .string t1, .int .i64 t2, .int .i64 t3, .slice ta tl tc] 34)).alloc (.cells #[.int .i64 0, .int .i64 0] 43)) w2.heap.size (Array.toList #[.int .i64 5, .int .i64 p, .string n, .int .i64 m, .slice (some ad) 2 cp, .slice aa al ac, .int .i64 t0, .string t1, .int .i64 t2, .int .i64 t3, .slice ta tl tc]) := by
      show (_ : Array _)[_]? = _
      rw [heap_at, if_neg (by simp), heap_at, if_pos rfl]
    have hfx : BoxC 43 ((w2.alloc (.cells #[.int .i64 5, .int .i64 p, .string n, .int .i64 m, .slice (some ad) 2 cp, .slice aa al ac, .int .i64 t0, .string t1, .int .i64 t2, .int .i64 t3, .slice ta tl tc] 34)).alloc (.cells #[.int .i64 0, .int .i64 0] 43)) (w2.heap.size + 1) [.int .i64 0, .int .i64 0] := by
      show (_ : Array _)[_]? = _
      rw [heap_at, if_pos (by simp)]
    have hb' := hbx.lift hv
    have hf' := hfx.lift hv
    have hA' := (hall.cell (World.block_lt_of_cell? _ _ hA)).trans hA
    have hB' := (hall.cell (World.block_lt_of_cell? _ _ hB)).trans hB
    refine ⟨hb'.cell 0 _ rfl, hb'.cell 4 _ rfl, hf'.cell 0 _ rfl, ?_, ?_⟩
    · have e : ad.add 0 = ad := by simp [Addr.add]
      rw [e] at hA'; exact hA'
    · have e : ad.add 11 = ⟨ad.block, ad.off + 11, none⟩ := by simp [Addr.add]
      rw [e] at hB'; exact hB'
  have HBa := Lib.hid (keepCall HB2.out hba)
  clear hb2 hba hA hB HT1 HR1 HB1 HB2
  go_upto_region 2 with fail
  generalize ((w2.alloc (.cells #[.int .i64 5, .int .i64 p, .string n, .int .i64 m, .slice (some ad) 2 cp, .slice aa al ac, .int .i64 t0, .string t1, .int .i64 t2, .int .i64 t3, .slice ta tl tc] 34)).alloc (.cells #[.int .i64 0, .int .i64 0] 43)) = V at *
  generalize w2.heap.size = n1 at *
  go_wp2_with fail
  go_at_call 9
  refine (HS2.out V).mono ?_
  rintro e w3 ⟨v3, rfl, hrow, hb3⟩
  have HR3 := Lib.hid hrow
  have HB3 := Lib.hid hb3
  clear hrow hb3 HS2
  go_wp2_with fail
  go_at_call 11
  refine (HT2.out _ v3 w3 HR3.out (HG.out.lift (keepCall HBa.out HB3.out))).mono ?_
  rintro e w4 ⟨c, rfl, hb4, a0, a1, a2, a3, k1, k2, k3, k4, k5, k6, a6, a7, a8, a9, k7, k8, k9, rfl⟩
  have HB4 := Lib.hid (keepCall HB3.out hb4)
  have hba : Below w4.heap.size w4 ((w4.alloc (.cells #[.int .i64 a0, .int .i64 a1, .string a2, .int .i64 a3, .slice k1 k2 k3, .slice k4 k5 k6, .int .i64 a6, .string a7, .int .i64 a8, .int .i64 a9, .slice k7 k8 k9] 34)).alloc (.cells #[.int .i64 3, .int .i64 4] 43)) := ((Below.refl _ w4).alloc (Nat.le_refl _) _).alloc (by simp) _
  have hbV := keepCall HB4.out hba
  obtain ⟨q0, q1, q2, q3, q4⟩ := HX.out _ hbV
  have hfx : BoxC 43 ((w4.alloc (.cells #[.int .i64 a0, .int .i64 a1, .string a2, .int .i64 a3, .slice k1 k2 k3, .slice k4 k5 k6, .int .i64 a6, .string a7, .int .i64 a8, .int .i64 a9, .slice k7 k8 k9] 34)).alloc (.cells #[.int .i64 3, .int .i64 4] 43)) (w4.heap.size + 1) [.int .i64 3, .int .i64 4] := by
    show (_ : Array _)[_]? = _
    rw [heap_at, if_pos (by simp)]
  have q5 := hfx.cell 0 _ rfl
  have q6 := hfx.cell 1 _ rfl
  have HEnd := Lib.hid (keepCall HBa.out hbV)
  clear hb4 hba hbV hfx HX HR3 HB3 HB4 HT2 HBa HG
  go_upto_region 3 with fail
  generalize ((w4.alloc (.cells #[.int .i64 a0, .int .i64 a1, .string a2, .int .i64 a3, .slice k1 k2 k3, .slice k4 k5 k6, .int .i64 a6, .string a7, .int .i64 a8, .int .i64 a9, .slice k7 k8 k9] 34)).alloc (.cells #[.int .i64 3, .int .i64 4] 43)) = V5 at *
  generalize w4.heap.size = n5 at *
  go_wp2
  go_ret
  exact ⟨rfl, HEnd.out⟩
end Go.Proofs.YtgcefodgjhlbeaaGreatDoor
