/- The reference's reader, whatever its state: Fail and what calls it. -/
import Derived.Test.YtbbplpmjpadgiaaGreatDoorTyX2
namespace Go.Proofs.YtbbplpmjpadgiaaGreatDoor
open Go.RowKit Go.Maps Mth

/-- What a method has done that leaves the reader in a state. -/
def XEnd (w : World) (b : Nat) (ts : List Tok) (s : St) (v : Value) (e : Ending) (w' : World) : Prop := e = .returned v ∧ RdX w' b ts s ∧ w.grownBy w' (some b)

/-- The reader's block after stores into it. -/
theorem RdX.stored {w w' : World} {b : Nat} {ts : List Tok} {s' : St} {lv : Value} (hT : TokAt w (fun g => g < b) lv ts) (hok : TkOk ts) (hi : s'.i ≤ ts.length) (hp : s'.bad = false → s'.p = 0) (hB : RdB w' b lv s') (hg : w.grownBy w' (some b)) : RdX w' b ts s' :=
  ⟨lv, hB, hT.grown (fun g hg => by omega) hg, hi, hp, hok⟩

theorem RdB.lift {w w' : World} {b : Nat} {lv : Value} {s : St} (h : RdB w b lv s) (hb : Below w.heap.size w w') : RdB w' b lv s := by
  unfold RdB at *
  rw [hb.block _ (Array.getElem?_eq_some_iff.1 h).1, h]
/-- The reader's block while it fails. -/
structure FX (w : World) (b : Nat) (a : Option Addr) (cap : Nat) (ts : List Tok) (s : St) (v : World) : Prop where
  blk : RdB v b (.slice a ts.length cap) s
  tok : TokAt v (fun g => g < b) (.slice a ts.length cap) ts
  grown : w.grownBy v (some b)
theorem FX.lift {w v v' : World} {b : Nat} {a : Option Addr} {cap : Nat} {ts : List Tok} {s : St} (h : FX w b a cap ts s v) (hb : Below v.heap.size v v') : FX w b a cap ts s v' :=
  ⟨h.blk.lift hb, h.tok.lift hb, grown_trans h.grown (below_grown_some hb b)⟩
theorem FX.three {w v : World} {b g : Nat} {cap : Nat} {ts : List Tok} {i : Nat} {q : Bool} {p : Int} {t : Tok} {j : Nat} (h : FX w b (some ⟨g, 0, none⟩) cap ts ⟨i, q, p⟩ v) (ht : ts[j]? = some t) :
    ∀ v', Below v.heap.size v v' → v'.cell? ⟨b, 0, none⟩ = some (.slice (some ⟨g, 0, none⟩) ts.length cap) ∧ v'.cell? ⟨b, 1, none⟩ = some (.int .i64 i) ∧ v'.cell? ⟨g, j * 3, none⟩ = some (.int .i64 t.kind) ∧ v'.cell? ⟨g, j * 3 + 1, none⟩ = some (.string ⟨t.text.toArray⟩) ∧ v'.cell? ⟨g, j * 3 + 2, none⟩ = some (.int .i64 t.pos) := by
  intro v' hb
  have h' := h.lift hb
  obtain ⟨c0, c1, _⟩ := h'.blk.cells
  obtain ⟨a, c, hv, -, hc⟩ := h'.tok
  obtain ⟨g', ha, -, d0, d1, d2⟩ := hc j t ht
  simp at hv
  obtain ⟨rfl, rfl⟩ := hv
  simp at ha
  subst ha
  exact ⟨c0, c1, d0, d1, d2⟩
theorem FX.set {w v : World} {b : Nat} {a : Option Addr} {cap : Nat} {ts : List Tok} {i : Nat} {p : Int} (h : FX w b a cap ts ⟨i, true, p⟩ v) (p' : Int) : FX w b a cap ts ⟨i, true, p'⟩ (v.setCell ⟨b, 3, none⟩ (.int .i64 p')) := by
  have hset := set1 h.blk 3 (.int .i64 p')
  refine ⟨?_, h.tok.grown (fun g hg => by omega) hset.2.1, grown_trans h.grown hset.2.1⟩
  unfold RdB
  rw [hset.1]
  simp
theorem FX.rdX {w v : World} {b : Nat} {a : Option Addr} {cap : Nat} {ts : List Tok} {i : Nat} {p : Int} (h : FX w b a cap ts ⟨i, true, p⟩ v) (hi : i ≤ ts.length) (hok : TkOk ts) : RdX v b ts ⟨i, true, p⟩ :=
  ⟨_, h.blk, h.tok, hi, (fun e => by cases e), hok⟩

set_option maxHeartbeats 3200000 in
theorem rdFail_any (b : Nat) (ts : List Tok) (st : St) (w : World) (h : RdX w b ts st) : Calls Tryz.prog 122 #[.pointer (some ⟨b, 0, none⟩)] w (XEnd w b ts (xFail ts st) (.tuple #[])) := by
  obtain ⟨i, q, p⟩ := st
  have HX := Lib.hid h
  obtain ⟨lv, hr, hT, hi, hp, hl⟩ := h
  obtain ⟨c0, c1, c2, c3, f1, f2, f3⟩ := hr.cells
  have hl1 := hl.1
  have HL := Lib.hid hl
  dsimp only at hi
  cases q
  · have hset := set1 hr 2 (.bool true)
    obtain ⟨a, cap, rfl, hcap, hc⟩ := hT
    have HF : Hid (FX w b a cap ts ⟨i, true, 0⟩ (w.setCell ⟨b, 2, none⟩ (.bool true))) := by
      refine ⟨?_, TokAt.grown ⟨a, cap, rfl, hcap, hc⟩ (fun g hg => by omega) hset.2.1, hset.2.1⟩
      unfold RdB
      rw [hset.1]
      have hp0 := hp rfl
      dsimp only at hp0
      subst hp0
      simp
    have hp0 := hp rfl
    dsimp only at hp0
    subst hp0
    clear hset hr hp hl
    by_cases hlt : i < ts.length
    · obtain ⟨t, ht⟩ : ∃ x, ts[i]? = some x := ⟨_, List.getElem?_eq_getElem hlt⟩
      have HE : Hid (xFail ts ⟨i, false, 0⟩ = ⟨i, true, t.pos⟩) := by show _ = _; unfold xFail posAt; simp only; rw [ht]; rfl
      have HTT := Lib.hid ht
      obtain ⟨g, rfl, -⟩ := hc i t ht
      clear ht hc
      have hli : ((i : Int) < (ts.length : Int)) := by omega
      go_enter Tryz.func122, Tryz.ntmps122
      go_upto_region 2 with fail
      clear c0 c1 c2 c3 f1 f2 f3
      generalize w.setCell ⟨b, 2, none⟩ (.bool true) = w1 at *
      obtain ⟨c0, c1, -, c3, -, -, f3⟩ := HF.out.blk.cells
      go_quiet (fail)
      have HF2 := Lib.hid (HF.out.lift (below_drewN (Below.refl _ w1) nq))
      clear HF c0 c1 c3 f3
      generalize w1.drewN nq = w2 at *
      have HS := Lib.hid (HF2.out.three HTT.out)
      have HF3 := Lib.hid (HF2.out.set t.pos)
      have HS' := Lib.hid (HF3.out.three HTT.out)
      obtain ⟨c0, c1, -, c3, -, -, f3⟩ := HF2.out.blk.cells
      go_wp2_with fail
      go_region_held3 (fun v => v.cell? ⟨b, 0, none⟩ = some (.slice (some ⟨g, 0, none⟩) ts.length cap) ∧ v.cell? ⟨b, 1, none⟩ = some (.int .i64 i) ∧ v.cell? ⟨g, i * 3 + 2, none⟩ = some (.int .i64 t.pos))
        (first
          | exact ⟨(HS.out _ (Below.refl _ _).drew).1, (HS.out _ (Below.refl _ _).drew).2.1, (HS.out _ (Below.refl _ _).drew).2.2.2.2⟩
          | exact ⟨(HS'.out _ (Below.refl _ _).drew).1, (HS'.out _ (Below.refl _ _).drew).2.1, (HS'.out _ (Below.refl _ _).drew).2.2.2.2⟩)
        (fail)
      all_goals
        go_wp2
        go_end0
        have HF4 := Lib.hid (HF3.out.lift (Below.refl _ _).drew)
        exact ⟨rfl, by rw [HE.out]; exact HF4.out.rdX hi HL.out, HF4.out.grown⟩
    · have hie : i = ts.length := by omega
      have hli : decide ((i : Int) < (ts.length : Int)) = false := by simpa using hlt
      cases hlast : ts[ts.length - 1]? with
      | none =>
        have h0 : ts.length = 0 := by rw [List.getElem?_eq_none_iff] at hlast; omega
        have HE : Hid (xFail ts ⟨i, false, 0⟩ = ⟨i, true, 0⟩) := by show _ = _; unfold xFail posAt; simp only; rw [List.getElem?_eq_none (by omega), hlast]; rfl
        have h00 : decide (0 < (ts.length : Int)) = false := by rw [h0]; rfl
        have h01 : decide (0 < ts.length) = false := by rw [h0]; rfl
        clear hlast hc
        go_enter Tryz.func122, Tryz.ntmps122
        go_upto_region 2 with fail
        clear c0 c1 c2 c3 f1 f2 f3
        generalize w.setCell ⟨b, 2, none⟩ (.bool true) = w1 at *
        obtain ⟨c0, c1, -, c3, -, -, f3⟩ := HF.out.blk.cells
        go_quiet (fail)
        have HF2 := Lib.hid (HF.out.lift (below_drewN (Below.refl _ w1) nq))
        clear HF c0 c1 c3 f3
        generalize w1.drewN nq = w2 at *
        obtain ⟨c0, c1, -, c3, -, -, f3⟩ := HF2.out.blk.cells
        go_wp2
        go_end0
        exact ⟨rfl, by rw [HE.out]; exact HF2.out.rdX hi HL.out, HF2.out.grown⟩
      | some t =>
        have h0 : 0 < ts.length := by have := (List.getElem?_eq_some_iff.1 hlast).1; omega
        have HE : Hid (xFail ts ⟨i, false, 0⟩ = ⟨i, true, (t.pos : Int) + t.text.length⟩) := by show _ = _; unfold xFail posAt; simp only; rw [List.getElem?_eq_none (by omega), hlast]; rfl
        have HTT := Lib.hid hlast
        obtain ⟨g, rfl, -⟩ := hc _ t hlast
        have htk := HL.out.2 t (List.mem_of_getElem? hlast)
        obtain ⟨tl, tp⟩ := htk
        have hsz : (⟨t.text.toArray⟩ : ByteArray).size = t.text.length := by rw [← bl_len, bl_mk]
        have HSz := Lib.hid hsz
        obtain ⟨m, hm⟩ : ∃ m, ts.length = m + 1 := ⟨ts.length - 1, by omega⟩
        have HM : Hid (ts.length = m + 1) := hm
        have HTm : Hid (ts[m]? = some t) := by show _ = _; rw [← hlast, hm]; rfl
        have hm1 : m < ts.length := by omega
        have hm2 : (m : Int) < (ts.length : Int) := by omega
        have hm0 : (0 : Int) ≤ (m : Int) := by omega
        have HWr : Hid (IntKind.i64.wrap ((ts.length : Int) - 1) = (m : Int)) := by show _ = _; rw [IntKind.wrap_i64]; omega
        clear hlast hc hsz hm
        go_enter Tryz.func122, Tryz.ntmps122
        go_upto_region 2 with fail
        clear c0 c1 c2 c3 f1 f2 f3
        generalize w.setCell ⟨b, 2, none⟩ (.bool true) = w1 at *
        obtain ⟨c0, c1, -, c3, -, -, f3⟩ := HF.out.blk.cells
        go_quiet (fail)
        have HF2 := Lib.hid (HF.out.lift (below_drewN (Below.refl _ w1) nq))
        clear HF c0 c1 c3 f3
        generalize w1.drewN nq = w2 at *
        have HS : Hid (∀ v', Below w2.heap.size w2 v' → v'.cell? ⟨b, 0, none⟩ = some (.slice (some ⟨g, 0, none⟩) ts.length cap) ∧ v'.cell? ⟨g, m * 3, none⟩ = some (.int .i64 t.kind) ∧ v'.cell? ⟨g, m * 3 + 1, none⟩ = some (.string ⟨t.text.toArray⟩) ∧ v'.cell? ⟨g, m * 3 + 2, none⟩ = some (.int .i64 t.pos)) := fun v' hb => by
          obtain ⟨a0, -, a1⟩ := HF2.out.three HTm.out v' hb
          exact ⟨a0, a1⟩
        obtain ⟨c0, c1, -, c3, -, -, f3⟩ := HF2.out.blk.cells
        generalize (⟨t.text.toArray⟩ : ByteArray) = tx at *
        go_wp2_with fail
        have hwr := HWr.out
        go_region_held3 (fun v => v.cell? ⟨b, 0, none⟩ = some (.slice (some ⟨g, 0, none⟩) ts.length cap) ∧ v.cell? ⟨g, m * 3, none⟩ = some (.int .i64 t.kind) ∧ v.cell? ⟨g, m * 3 + 1, none⟩ = some (.string tx) ∧ v.cell? ⟨g, m * 3 + 2, none⟩ = some (.int .i64 t.pos))
          (first
            | exact HS.out _ (Below.refl _ _).drew
            | exact HS.out _ ((Below.refl _ _).alloc (Nat.le_refl _) _).drew
            | exact HS.out _ ((Below.refl _ _).alloc (Nat.le_refl _) _))
          (fail)
        clear hwr c0 c1 c3 f3
        have hal : Below w2.heap.size w2 (w2.alloc (.cells #[.int .i64 t.kind, .string tx, .int .i64 t.pos] 44)).drew := ((Below.refl _ w2).alloc (Nat.le_refl _) _).drew
        have HF4 := Lib.hid (HF2.out.lift hal)
        have HF5 := Lib.hid (HF4.out.set ((t.pos : Int) + t.text.length))
        have n1 : (w2.alloc (.cells #[.int .i64 t.kind, .string tx, .int .i64 t.pos] 44)).drew.cell? ⟨w2.heap.size, 1, none⟩ = some (.string tx) := World.cell?_alloc_at _ _ _ _ rfl
        have n2 : (w2.alloc (.cells #[.int .i64 t.kind, .string tx, .int .i64 t.pos] 44)).drew.cell? ⟨w2.heap.size, 2, none⟩ = some (.int .i64 t.pos) := World.cell?_alloc_at _ _ _ _ rfl
        obtain ⟨c0, c1, -, c3, -, -, f3⟩ := HF4.out.blk.cells
        clear HF2 HS hal
        generalize (w2.alloc (.cells #[.int .i64 t.kind, .string tx, .int .i64 t.pos] 44)).drew = w4 at *
        generalize w2.heap.size = n at *
        have HW2 : Hid (IntKind.i64.wrap ((t.pos : Int) + (tx.size : Int)) = (t.pos : Int) + t.text.length) := by show _ = _; rw [HSz.out, IntKind.wrap_i64]; omega
        have hw2 := HW2.out
        have htx : tx.size ≤ 4000 := by rw [HSz.out]; exact tl
        go_wp2
        rw [HSz.out]
        go_end0
        exact ⟨rfl, by rw [HE.out]; exact HF5.out.rdX hi HL.out, HF5.out.grown⟩
  · go_enter Tryz.func122, Tryz.ntmps122
    go_wp2
    go_end0
    exact ⟨rfl, HX.out, below_grown_some (Below.refl _ w) b⟩
end Go.Proofs.YtbbplpmjpadgiaaGreatDoor
