/- The law's own sanity check is true. -/
import Derived.Test.YthphnacfidofbaaGreatDoorTySwMa
import Derived.Deep.RegionHeld3
namespace Go.Proofs.YthphnacfidofbaaGreatDoor
open Go.RowKit Go.Maps Mth

def src1 : ByteArray := ⟨#[76, 105, 115, 116, 32, 97, 32, 45, 62, 32, 73, 110, 116]⟩
def src2 : ByteArray := ⟨#[40, 32, 97, 32, 45, 62]⟩
def listN : ByteArray := ⟨#[76, 105, 115, 116]⟩
def nameA : Ty := .mk 5 ⟨#[97]⟩ 0 0 []
def tyOne : Ty := con arrN [con listN [nameA], con intN []]
theorem r1n : (rdT (ftoks (bl src1)) 0).n = 4 := by decide +kernel
theorem r1e : (rdT (ftoks (bl src1)) 0).e = 0 := by decide +kernel
theorem r1p : (rdT (ftoks (bl src1)) 0).p = 0 := by decide +kernel
theorem r1T : teq (rdT (ftoks (bl src1)) 0).T tyOne = true := by decide +kernel
theorem r2e : (rdT (ftoks (bl src2)) 0).e = 3 := by decide +kernel
theorem r2p : (rdT (ftoks (bl src2)) 0).p = 6 := by decide +kernel
theorem keepCall {W a b : World} (h1 : Below W.heap.size W a) (h2 : Below a.heap.size a b) : Below W.heap.size W b := h1.trans (h2.mono h1.size)
theorem keepAlloc {W a : World} (o : Obj) (h1 : Below W.heap.size W a) : Below W.heap.size W (a.alloc o) := h1.alloc h1.size o
theorem listN_ok : listN.size ≤ maxLen := by unfold maxLen; decide +kernel
theorem repL_one {x v : World} (hb : Below (x.alloc (.cells #[.int .i64 5, .string ⟨#[97]⟩, .int .i64 0, .int .i64 0, .slice none 0 0] 30)).heap.size (x.alloc (.cells #[.int .i64 5, .string ⟨#[97]⟩, .int .i64 0, .int .i64 0, .slice none 0 0] 30)) v) : RepL v (fun _ => True) [nameA] (.slice (some ⟨x.heap.size, 0, none⟩) 1 1) := by
  refine RepL.lift ?_ hb
  refine ⟨some ⟨x.heap.size, 0, none⟩, 1, rfl, ⟨Nat.le_refl _, by simp [maxLen]⟩, fun j T hj => ?_⟩
  rcases j with _ | j
  · simp at hj; subst hj
    exact ⟨_, _, rfl, trivial, one_new _ _ rfl, rep_leaf _ _ 5 ⟨#[97]⟩ 0 0 (by unfold maxLen; decide +kernel)⟩
  · simp at hj
theorem con1_any (ad : Addr) (w : World) (h : RepL w (fun _ => True) [nameA] (.slice (some ad) 1 1)) :
    Calls Tryz.prog 34 #[.string ⟨#[76, 105, 115, 116]⟩, .slice (some ad) 1 1] w fun e w' => ∃ a c, e = .returned (.agg #[.int .i64 4, .string ⟨#[76, 105, 115, 116]⟩, .int .i64 0, .int .i64 0, .slice a 1 c]) ∧ Rep w' (fun _ => True) (con listN [nameA]) (.agg #[.int .i64 4, .string ⟨#[76, 105, 115, 116]⟩, .int .i64 0, .int .i64 0, .slice a 1 c]) ∧ Below w.heap.size w w' := by
  refine (refCon_any listN [nameA] (by simp) ad 1 (fun _ => True) w (fun _ _ => trivial) h).mono ?_
  rintro e w' ⟨a, c, rfl, hr, hb⟩
  exact ⟨a, c, rfl, Rep.close listN_ok hr, hb⟩
theorem arr1_any (v u : Value) (w : World) (h : Rep w (fun _ => True) (con listN [nameA]) v) (h' : Rep w (fun _ => True) (con intN []) u) :
    Calls Tryz.prog 33 #[v, u] w fun e w' => ∃ a c, e = .returned (.agg #[.int .i64 4, .string arrN, .int .i64 0, .int .i64 0, .slice a 2 c]) ∧ Rep w' (fun _ => True) tyOne (.agg #[.int .i64 4, .string arrN, .int .i64 0, .int .i64 0, .slice a 2 c]) ∧ Below w.heap.size w w' := by
  refine (refArrow_any _ _ v u (fun _ => True) w (fun _ _ => trivial) h h').mono ?_
  rintro e w' ⟨a, c, rfl, hr, hb⟩
  exact ⟨a, c, rfl, Rep.close arrN_ok' hr, hb⟩
theorem int1 (w : World) : Rep w (fun _ => True) (con intN []) (.agg #[.int .i64 4, .string intN, .int .i64 0, .int .i64 0, .slice none 0 0]) := rep_leaf _ _ 4 intN 0 0 (by unfold maxLen; decide +kernel)
/-- What was read, kept. -/
structure FSt (w : World) (n1 : Nat) (c0 c1 c2 c3 c4 : Value) (T : Ty) (V : World) : Prop where
  box : Box V n1 c0 c1 c2 c3 c4
  flt : V.heap[n1 + 1]? = some (.cells #[.int .i64 0, .int .i64 0] 40 (0, 0))
  rep : Rep V (fun _ => True) T (.agg #[c0, c1, c2, c3, c4])
  low : Below w.heap.size w V
  gl : Gl V
theorem FSt.lift {w V V' : World} {n1 : Nat} {c0 c1 c2 c3 c4 : Value} {T : Ty} (h : FSt w n1 c0 c1 c2 c3 c4 T V) (hb : Below V.heap.size V V') : FSt w n1 c0 c1 c2 c3 c4 T V' :=
  ⟨Box.lift h.box hb, by rw [hb.block _ (Array.getElem?_eq_some_iff.1 h.flt).1]; exact h.flt, h.rep.lift hb, h.low.trans (hb.mono h.low.size), h.gl.lift hb⟩
theorem flt_cells {V : World} {n : Nat} {e p : Value} (h : V.heap[n]? = some (.cells #[e, p] 40 (0, 0))) : V.cell? ⟨n, 0, none⟩ = some e ∧ V.cell? ⟨n, 1, none⟩ = some p := by simp [World.cell?, h]
set_option maxRecDepth 100000 in
set_option maxHeartbeats 8000000 in
theorem first_any (w : World) (hg : Gl w) : Calls Tryz.prog 8 #[] w fun e w' => e = .returned (.bool true) ∧ Below w.heap.size w w' := by
  have HG := Lib.hid hg
  have hsz1 : src1.size ≤ 140737488355328 := by decide +kernel
  have hsz2 : src2.size ≤ 140737488355328 := by decide +kernel
  have HSz1 := Lib.hid hsz1
  have HSz2 := Lib.hid hsz2
  clear hsz1 hsz2 hg
  have HS1 : Hid (Calls Tryz.prog 13 #[.string ⟨#[76, 105, 115, 116, 32, 97, 32, 45, 62, 32, 73, 110, 116]⟩] w (ScanEnd w (ftoks (bl src1)))) := scan_any src1 w HSz1.out
  have HS2 : Hid (∀ V, Calls Tryz.prog 13 #[.string ⟨#[40, 32, 97, 32, 45, 62]⟩] V (ScanEnd V (ftoks (bl src2)))) := fun V => scan_any src2 V HSz2.out
  have HT1 : Hid (∀ (v : Value) (V : World), V.ownsRow w.heap.size 44 3 v (ftoks (bl src1)).length (row3 (ftoks (bl src1))) → Gl V → Calls Tryz.prog 15 #[v, .int .i64 0] V fun e w' => ∃ u, e = .returned (.tuple #[u, .int .i64 4, .agg #[.int .i64 0, .int .i64 0]]) ∧ Rep w' (fun _ => True) (rdT (ftoks (bl src1)) 0).T u ∧ Below V.heap.size V w') := fun v V h hg =>
    (pkType_any _ (ftoks_ok _).1 _ v 0 V (tokAt_of_row h) hg).mono fun e w' ⟨x, he, ⟨u, hx, hr⟩, hb⟩ => ⟨u, by rw [he, hx, r1n, r1e, r1p], hr.imp fun _ _ => trivial, hb⟩
  have HT2 : Hid (∀ (b : Nat) (v : Value) (V : World), V.ownsRow b 44 3 v (ftoks (bl src2)).length (row3 (ftoks (bl src2))) → Gl V → Calls Tryz.prog 15 #[v, .int .i64 0] V fun e w' => ∃ u n, e = .returned (.tuple #[u, .int .i64 n, .agg #[.int .i64 3, .int .i64 6]]) ∧ Rep w' (fun _ => True) (rdT (ftoks (bl src2)) 0).T u ∧ Below V.heap.size V w') := fun b v V h hg =>
    (pkType_any _ (ftoks_ok _).1 _ v 0 V (tokAt_of_row h) hg).mono fun e w' ⟨x, he, ⟨u, hx, hr⟩, hb⟩ => ⟨u, (rdT (ftoks (bl src2)) 0).n, by rw [he, hx, r2e, r2p], hr.imp fun _ _ => trivial, hb⟩
  have HEq : Hid (∀ (v u : Value) (V : World), Rep V (fun _ => True) (rdT (ftoks (bl src1)) 0).T v → Rep V (fun _ => True) tyOne u → Calls Tryz.prog 17 #[v, u] V fun e w' => e = .returned (.bool true) ∧ Below V.heap.size V w') := fun v u V h1 h2 => by
    have := refEqual_any _ _ (Nat.le_refl _) tyOne v u _ _ V h1 h2
    rwa [r1T] at this
  generalize (rdT (ftoks (bl src1)) 0).T = T1 at *
  generalize (rdT (ftoks (bl src2)) 0).T = T2 at *
  generalize ftoks (bl src1) = ts1 at *
  generalize ftoks (bl src2) = ts2 at *
  go_enter Tryz.func8, Tryz.ntmps8
  go_wp2_with fail
  go_at_call 13
  refine HS1.out.mono ?_
  rintro e w1 ⟨v1, rfl, hrow, hb1⟩
  have HR1 := Lib.hid hrow
  have HB1 := Lib.hid hb1
  clear hrow hb1 HS1
  go_wp2_with fail
  go_at_call 15
  refine (HT1.out v1 w1 HR1.out (HG.out.lift HB1.out)).mono ?_
  rintro e w2 ⟨u, rfl, hrep, hb2⟩
  have HB2 := Lib.hid (keepCall HB1.out hb2)
  have HP2 := Lib.hid hrep
  obtain ⟨uk, un, ui, uh, ua, um, uc, rfl⟩ := hrep.form
  clear hrep hb2 HT1 HR1 HB1
  have hba : Below w2.heap.size w2 ((w2.alloc (.cells #[.int .i64 uk, .string un, .int .i64 ui, .int .i64 uh, .slice ua um uc] 30)).alloc (.cells #[.int .i64 0, .int .i64 0] 40)) := ((Below.refl _ w2).alloc (Nat.le_refl _) _).alloc (by simp) _
  have HF : Hid (FSt w w2.heap.size (.int .i64 uk) (.string un) (.int .i64 ui) (.int .i64 uh) (.slice ua um uc) T1 ((w2.alloc (.cells #[.int .i64 uk, .string un, .int .i64 ui, .int .i64 uh, .slice ua um uc] 30)).alloc (.cells #[.int .i64 0, .int .i64 0] 40))) := by
    refine ⟨?_, ?_, HP2.out.lift hba, keepCall HB2.out hba, HG.out.lift (keepCall HB2.out hba)⟩
    · unfold Box; rw [heap_at, if_neg (by simp), heap_at, if_pos rfl]
    · rw [heap_at, if_pos (by simp)]
  clear hba HP2 HB2 HG
  go_upto_region 2 with fail
  generalize ((w2.alloc (.cells #[.int .i64 uk, .string un, .int .i64 ui, .int .i64 uh, .slice ua um uc] 30)).alloc (.cells #[.int .i64 0, .int .i64 0] 40)) = V at *
  generalize w2.heap.size = n1 at *
  go_wp2_with fail
  go_at_call 13
  refine (HS2.out V).mono ?_
  rintro e w3 ⟨v3, rfl, hrow, hb3⟩
  have HR3 := Lib.hid hrow
  have HF3 := Lib.hid (HF.out.lift hb3)
  clear hrow hb3 HS2 HF
  go_wp2_with fail
  go_at_call 15
  refine (HT2.out _ v3 w3 HR3.out HF3.out.gl).mono ?_
  rintro e w4 ⟨u4, n4, rfl, hrep, hb4⟩
  have HF4 := Lib.hid (HF3.out.lift hb4)
  obtain ⟨vk, vn, vi, vh, va, vm, vc, rfl⟩ := hrep.form
  clear hrep hb4 HT2 HR3 HF3
  have hba : Below w4.heap.size w4 ((w4.alloc (.cells #[.int .i64 vk, .string vn, .int .i64 vi, .int .i64 vh, .slice va vm vc] 30)).alloc (.cells #[.int .i64 3, .int .i64 6] 40)) := ((Below.refl _ w4).alloc (Nat.le_refl _) _).alloc (by simp) _
  have HF5 := Lib.hid (HF4.out.lift hba)
  have HQ5 : Hid (((w4.alloc (.cells #[.int .i64 vk, .string vn, .int .i64 vi, .int .i64 vh, .slice va vm vc] 30)).alloc (.cells #[.int .i64 3, .int .i64 6] 40)).heap[w4.heap.size + 1]? = some (.cells #[.int .i64 3, .int .i64 6] 40 (0, 0))) := by show _ = _; rw [heap_at, if_pos (by simp)]
  clear hba HF4
  go_upto_region 3 with fail
  generalize ((w4.alloc (.cells #[.int .i64 vk, .string vn, .int .i64 vi, .int .i64 vh, .slice va vm vc] 30)).alloc (.cells #[.int .i64 3, .int .i64 6] 40)) = V5 at *
  generalize w4.heap.size = n5 at *
  have HS : Hid (∀ v, Below V5.heap.size V5 v → v.cell? ⟨n1, 0, none⟩ = some (.int .i64 uk) ∧ v.cell? ⟨n1, 1, none⟩ = some (.string un) ∧ v.cell? ⟨n1, 2, none⟩ = some (.int .i64 ui) ∧ v.cell? ⟨n1, 3, none⟩ = some (.int .i64 uh) ∧ v.cell? ⟨n1, 4, none⟩ = some (.slice ua um uc) ∧ v.cell? ⟨n1 + 1, 0, none⟩ = some (.int .i64 0) ∧ v.cell? ⟨n5 + 1, 0, none⟩ = some (.int .i64 3) ∧ v.cell? ⟨n5 + 1, 1, none⟩ = some (.int .i64 6) ∧ Below V5.heap.size V5 v) := fun v hb => by
    have h := HF5.out.lift hb
    obtain ⟨a0, a1, a2, a3, a4⟩ := h.box.cells
    obtain ⟨b0, -⟩ := flt_cells h.flt
    have hq : v.heap[n5 + 1]? = some (.cells #[.int .i64 3, .int .i64 6] 40 (0, 0)) := by rw [hb.block _ (Array.getElem?_eq_some_iff.1 HQ5.out).1]; exact HQ5.out
    obtain ⟨d0, d1⟩ := flt_cells hq
    exact ⟨a0, a1, a2, a3, a4, b0, d0, d1, hb⟩
  have HN := Lib.hid (fun w => refNamed_any ⟨#[97]⟩ w)
  have HI := Lib.hid (fun w => refInt_any w)
  unfold leafV at HN HI
  go_region_held3 (fun v => v.cell? ⟨n1, 0, none⟩ = some (.int .i64 uk) ∧ v.cell? ⟨n1, 1, none⟩ = some (.string un) ∧ v.cell? ⟨n1, 2, none⟩ = some (.int .i64 ui) ∧ v.cell? ⟨n1, 3, none⟩ = some (.int .i64 uh) ∧ v.cell? ⟨n1, 4, none⟩ = some (.slice ua um uc) ∧ v.cell? ⟨n1 + 1, 0, none⟩ = some (.int .i64 0) ∧ v.cell? ⟨n5 + 1, 0, none⟩ = some (.int .i64 3) ∧ v.cell? ⟨n5 + 1, 1, none⟩ = some (.int .i64 6) ∧ Below V5.heap.size V5 v)
    (first
      | exact HS.out _ (Below.refl _ _).drew
      | (go_split_ands; exact HS.out _ (keepCall (by assumption) hb))
      | (go_split_ands; exact HS.out _ (keepAlloc _ (by assumption))))
    (first
      | (go_at_call 35; (with_reducible refine (HN.out _).mono ?_); rintro e w' ⟨rfl, hb⟩)
      | (go_at_call 36; (with_reducible refine (HI.out _).mono ?_); rintro e w' ⟨rfl, hb⟩)
      | (go_at_call 34; (with_reducible refine (con1_any _ _ ?_).mono ?_); (first | exact repL_one (Below.refl _ _) | exact repL_one (by assumption)); rintro e w' ⟨a3, c3, rfl, hr3, hb⟩; have HCn := Lib.hid hr3; clear hr3)
      | (go_at_call 33; (with_reducible refine (arr1_any _ _ _ ?_ (int1 _)).mono ?_); (first | exact HCn.out | exact HCn.out.lift (by assumption)); rintro e w' ⟨a6, c6, rfl, hr6, hb⟩; have HAr := Lib.hid hr6; clear hr6)
      | (go_at_call 17; (with_reducible refine (HEq.out _ _ _ ?_ HAr.out).mono ?_); (go_split_ands; exact (HF5.out.lift (by assumption)).rep); rintro e w' ⟨rfl, hb⟩))
  all_goals
    go_split_ands
    have hbA : Below V5.heap.size V5 w' := by assumption
    have HBA := Lib.hid (keepCall HF5.out.low hbA)
    clear hbA
    go_wp2
    go_ret
    exact ⟨rfl, HBA.out⟩
end Go.Proofs.YthphnacfidofbaaGreatDoor
