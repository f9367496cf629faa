/- The package's and the reference's Type and Atom: what they return, by one function. -/
import Derived.Test.YthphnacfidofbaaGreatDoorTyPRd
import Derived.Test.YthphnacfidofbaaGreatDoorTyQX
namespace Go.Proofs.YthphnacfidofbaaGreatDoor
open Go.RowKit Go.Maps Mth

def rdOf (ts : List Tok) : Option PR → Res
  | some R => resQ ts R
  | none => ⟨zeroT, 0, 0, 0⟩
def rdT (ts : List Tok) (k : Int) : Res := rdOf ts (qType (3 * ts.length + 3) ts (startAt ts k))
def rdA (ts : List Tok) (k : Int) : Res := rdOf ts (qAtom (3 * ts.length + 3) ts (startAt ts k))
theorem res_same (ts : List Tok) {R : PR} {T : Ty} {s : St} (h : RX ts R (T, s)) : resOf T s = resQ ts R := by
  cases R with
  | ok U j => cases h; rfl
  | bad p =>
    obtain ⟨h1, h2⟩ := h
    dsimp only at h1 h2
    unfold resOf resQ
    rw [if_pos h1, h2]
set_option maxHeartbeats 3200000 in
theorem pkType_any (ts : List Tok) (hok : TkOk ts) (S : Nat → Prop) (lv : Value) (k : Int) (w : World) (h : TokAt w S lv ts) (hgl : Gl w) :
    Calls Tryz.prog 15 #[lv, .int .i64 k] w fun e w' => ∃ v, e = .returned v ∧ ResAt w' (fun c => w.heap.size ≤ c) (rdT ts k) v ∧ Below w.heap.size w w' := by
  have HO : Hid (Outs w _) := outs_new w
  have hl := hok.1
  obtain ⟨R, hR⟩ := (ends_all ts (3 * ts.length + 3)).2.1 (startAt ts k) (startAt_le ts k) (by omega)
  have hrd : rdT ts k = resQ ts R := by unfold rdT; rw [hR]; rfl
  rw [hrd]
  have HC : Hid (∀ V, Below w.heap.size w V → Calls Tryz.prog 43 #[lv, .int .i64 k, .func (.func 44) #[] #[]] V fun e w' => ∃ v, e = .returned v ∧ ResAt w' (fun c => V.heap.size ≤ c) (resQ ts R) v ∧ Below V.heap.size V w') := fun V hb => typeRead ts hok S lv k (3 * ts.length + 3) (by omega) R hR V (h.lift hb) (hgl.lift hb)
  generalize resQ ts R = Q at *
  obtain ⟨QT, qn, qe, qp⟩ := Q
  obtain ⟨a, cap, rfl, -, -⟩ := h
  clear hR hrd hgl
  go_enter Tryz.func15, Tryz.ntmps15
  go_upto_region 1 with fail
  generalize ((w.alloc (.cells #[.int .i64 0, .string ⟨#[]⟩, .int .i64 0, .int .i64 0, .slice none 0 0] 30)).alloc (.cells #[.int .i64 0, .int .i64 0] 40)) = V at *
  have hs0 := HO.out.size
  go_wp2_with fail
  go_at_call 43
  refine (HC.out V HO.out.low).mono ?_
  rintro e w3 ⟨v, rfl, ⟨u3, rfl, hrep3⟩, hb3⟩
  have HO3 := Lib.hid (HO.out.lift hb3)
  have HP3 := Lib.hid hrep3
  obtain ⟨uk, un, ui, uh, ua, um, uc, rfl⟩ := hrep3.form
  clear hrep3 hb3 HO HC
  have HF := Lib.hid (HO3.out.fin (.int .i64 uk) (.string un) (.int .i64 ui) (.int .i64 uh) (.slice ua um uc) (.int .i64 qe) (.int .i64 qp))
  obtain ⟨f0, f1, k0, k1⟩ := HO3.out.fcells
  obtain ⟨t0, t1, t2, t3, t4⟩ := HO3.out.typ.cells
  obtain ⟨g0, g1, g2, g3, g4⟩ := HO3.out.typ.frozen
  go_wp2
  obtain ⟨hB, z0, z1, hL, hK⟩ := HF.out
  clear HF t0 t1 t2 t3 t4 g0 g1 g2 g3 g4 f0 f1 k0 k1
  generalize (((((((w3.setCell ⟨w.heap.size, 0, none⟩ (.int .i64 uk)).setCell ⟨w.heap.size, 1, none⟩ (.string un)).setCell ⟨w.heap.size, 2, none⟩ (.int .i64 ui)).setCell ⟨w.heap.size, 3, none⟩ (.int .i64 uh)).setCell ⟨w.heap.size, 4, none⟩ (.slice ua um uc)).setCell ⟨w.heap.size + 1, 0, none⟩ (.int .i64 qe)).setCell ⟨w.heap.size + 1, 1, none⟩ (.int .i64 qp)) = X at *
  obtain ⟨c0, c1, c2, c3, c4⟩ := hB.cells
  refine bodyPost_ret (by simp [results, Tryz.results15, go_sem, c0, c1, c2, c3, c4, z0, z1]; try rfl) rfl ?_
  exact ⟨_, rfl, ⟨_, rfl, HP3.out.kept (fun c hc => by omega) (fun c hc hlt => hK c (by omega) hlt)⟩, hL⟩
set_option maxHeartbeats 3200000 in
theorem pkAtom_any (ts : List Tok) (hok : TkOk ts) (S : Nat → Prop) (lv : Value) (k : Int) (w : World) (h : TokAt w S lv ts) (hgl : Gl w) :
    Calls Tryz.prog 19 #[lv, .int .i64 k] w fun e w' => ∃ v, e = .returned v ∧ ResAt w' (fun c => w.heap.size ≤ c) (rdA ts k) v ∧ Below w.heap.size w w' := by
  have HO : Hid (Outs w _) := outs_new w
  have hl := hok.1
  obtain ⟨R, hR⟩ := (ends_all ts (3 * ts.length + 3)).1 (startAt ts k) (startAt_le ts k) (by omega)
  have hrd : rdA ts k = resQ ts R := by unfold rdA; rw [hR]; rfl
  rw [hrd]
  have HC : Hid (∀ V, Below w.heap.size w V → Calls Tryz.prog 43 #[lv, .int .i64 k, .func (.func 46) #[] #[]] V fun e w' => ∃ v, e = .returned v ∧ ResAt w' (fun c => V.heap.size ≤ c) (resQ ts R) v ∧ Below V.heap.size V w') := fun V hb => atomRead ts hok S lv k (3 * ts.length + 3) (by omega) R hR V (h.lift hb) (hgl.lift hb)
  generalize resQ ts R = Q at *
  obtain ⟨QT, qn, qe, qp⟩ := Q
  obtain ⟨a, cap, rfl, -, -⟩ := h
  clear hR hrd hgl
  go_enter Tryz.func19, Tryz.ntmps19
  go_upto_region 1 with fail
  generalize ((w.alloc (.cells #[.int .i64 0, .string ⟨#[]⟩, .int .i64 0, .int .i64 0, .slice none 0 0] 30)).alloc (.cells #[.int .i64 0, .int .i64 0] 40)) = V at *
  have hs0 := HO.out.size
  go_wp2_with fail
  go_at_call 43
  refine (HC.out V HO.out.low).mono ?_
  rintro e w3 ⟨v, rfl, ⟨u3, rfl, hrep3⟩, hb3⟩
  have HO3 := Lib.hid (HO.out.lift hb3)
  have HP3 := Lib.hid hrep3
  obtain ⟨uk, un, ui, uh, ua, um, uc, rfl⟩ := hrep3.form
  clear hrep3 hb3 HO HC
  have HF := Lib.hid (HO3.out.fin (.int .i64 uk) (.string un) (.int .i64 ui) (.int .i64 uh) (.slice ua um uc) (.int .i64 qe) (.int .i64 qp))
  obtain ⟨f0, f1, k0, k1⟩ := HO3.out.fcells
  obtain ⟨t0, t1, t2, t3, t4⟩ := HO3.out.typ.cells
  obtain ⟨g0, g1, g2, g3, g4⟩ := HO3.out.typ.frozen
  go_wp2
  obtain ⟨hB, z0, z1, hL, hK⟩ := HF.out
  clear HF t0 t1 t2 t3 t4 g0 g1 g2 g3 g4 f0 f1 k0 k1
  generalize (((((((w3.setCell ⟨w.heap.size, 0, none⟩ (.int .i64 uk)).setCell ⟨w.heap.size, 1, none⟩ (.string un)).setCell ⟨w.heap.size, 2, none⟩ (.int .i64 ui)).setCell ⟨w.heap.size, 3, none⟩ (.int .i64 uh)).setCell ⟨w.heap.size, 4, none⟩ (.slice ua um uc)).setCell ⟨w.heap.size + 1, 0, none⟩ (.int .i64 qe)).setCell ⟨w.heap.size + 1, 1, none⟩ (.int .i64 qp)) = X at *
  obtain ⟨c0, c1, c2, c3, c4⟩ := hB.cells
  refine bodyPost_ret (by simp [results, Tryz.results19, go_sem, c0, c1, c2, c3, c4, z0, z1]; try rfl) rfl ?_
  exact ⟨_, rfl, ⟨_, rfl, HP3.out.kept (fun c hc => by omega) (fun c hc hlt => hK c (by omega) hlt)⟩, hL⟩
end Go.Proofs.YthphnacfidofbaaGreatDoor
