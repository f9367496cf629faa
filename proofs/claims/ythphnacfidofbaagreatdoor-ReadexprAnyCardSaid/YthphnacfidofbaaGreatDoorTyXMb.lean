import Derived.Test.YthphnacfidofbaaGreatDoorTyXMa
/- The reference's reader, whatever its state: Fail and what calls it. -/
namespace Go.Proofs.YthphnacfidofbaaGreatDoor
open Go.RowKit Go.Maps Mth

/-- What a method has done that leaves the reader in a state. -/
def XEnd (w : World) (b : Nat) (ts : List Tok) (s : St) (v : Value) (e : Ending) (w' : World) : Prop := e = .returned v ∧ RdX w' b ts s ∧ w.grownBy w' (some b)

/-- The reader's block after stores into it. -/
theorem RdX.stored {w w' : World} {b : Nat} {ts : List Tok} {s' : St} {lv : Value} (hT : TokAt w (fun g => g < b) lv ts) (hok : TkOk ts) (hi : s'.i ≤ ts.length) (hp : s'.bad = false → s'.p = 0) (hB : RdB w' b lv s') (hg : w.grownBy w' (some b)) : RdX w' b ts s' :=
  ⟨lv, hB, hT.grown (fun g hg => by omega) hg, hi, hp, hok⟩

theorem RdB.lift {w w' : World} {b : Nat} {lv : Value} {s : St} (h : RdB w b lv s) (hb : Below w.heap.size w w') : RdB w' b lv s := by
  unfold RdB at *
  rw [hb.block _ (Array.getElem?_eq_some_iff.1 h).1, h]
/-- The reader's block while it fails. -/
structure FX (w : World) (b : Nat) (a : Option Addr) (cap : Nat) (ts : List Tok) (s : St) (v : World) : Prop where
  blk : RdB v b (.slice a ts.length cap) s
  tok : TokAt v (fun g => g < b) (.slice a ts.length cap) ts
  grown : w.grownBy v (some b)
theorem FX.lift {w v v' : World} {b : Nat} {a : Option Addr} {cap : Nat} {ts : List Tok} {s : St} (h : FX w b a cap ts s v) (hb : Below v.heap.size v v') : FX w b a cap ts s v' :=
  ⟨h.blk.lift hb, h.tok.lift hb, grown_trans h.grown (below_grown_some hb b)⟩
theorem FX.three {w v : World} {b g : Nat} {cap : Nat} {ts : List Tok} {i : Nat} {q : Bool} {p : Int} {t : Tok} {j : Nat} (h : FX w b (some ⟨g, 0, none⟩) cap ts ⟨i, q, p⟩ v) (ht : ts[j]? = some t) :
    ∀ v', Below v.heap.size v v' → v'.cell? ⟨b, 0, none⟩ = some (.slice (some ⟨g, 0, none⟩) ts.length cap) ∧ v'.cell? ⟨b, 1, none⟩ = some (.int .i64 i) ∧ v'.cell? ⟨g, j * 3, none⟩ = some (.int .i64 t.kind) ∧ v'.cell? ⟨g, j * 3 + 1, none⟩ = some (.string ⟨t.text.toArray⟩) ∧ v'.cell? ⟨g, j * 3 + 2, none⟩ = some (.int .i64 t.pos) := by
  intro v' hb
  have h' := h.lift hb
  obtain ⟨c0, c1, _⟩ := h'.blk.cells
  obtain ⟨a, c, hv, -, hc⟩ := h'.tok
  obtain ⟨g', ha, -, d0, d1, d2⟩ := hc j t ht
  simp at hv
  obtain ⟨rfl, rfl⟩ := hv
  simp at ha
  subst ha
  exact ⟨c0, c1, d0, d1, d2⟩
theorem FX.set {w v : World} {b : Nat} {a : Option Addr} {cap : Nat} {ts : List Tok} {i : Nat} {p : Int} (h : FX w b a cap ts ⟨i, true, p⟩ v) (p' : Int) : FX w b a cap ts ⟨i, true, p'⟩ (v.setCell ⟨b, 3, none⟩ (.int .i64 p')) := by
  have hset := set1 h.blk 3 (.int .i64 p')
  refine ⟨?_, h.tok.grown (fun g hg => by omega) hset.2.1, grown_trans h.grown hset.2.1⟩
  unfold RdB
  rw [hset.1]
  simp
theorem FX.rdX {w v : World} {b : Nat} {a : Option Addr} {cap : Nat} {ts : List Tok} {i : Nat} {p : Int} (h : FX w b a cap ts ⟨i, true, p⟩ v) (hi : i ≤ ts.length) (hok : TkOk ts) : RdX v b ts ⟨i, true, p⟩ :=
  ⟨_, h.blk, h.tok, hi, (fun e => by cases e), hok⟩

set_option maxHeartbeats 3200000 in
theorem rdFail_any (b : Nat) (ts : List Tok) (st : St) (w : World) (h : RdX w b ts st) : Calls Tryz.prog 121 #[.pointer (some ⟨b, 0, none⟩)] w (XEnd w b ts (xFail ts st) (.tuple #[])) := by
  obtain ⟨i, q, p⟩ := st
  have HX := Lib.hid h
  obtain ⟨lv, hr, hT, hi, hp, hl⟩ := h
  obtain ⟨c0, c1, c2, c3, f1, f2, f3⟩ := hr.cells
  have hl1 := hl.1
  have HL := Lib.hid hl
  dsimp only at hi
  cases q
  · have hset := set1 hr 2 (.bool true)
    obtain ⟨a, cap, rfl, hcap, hc⟩ := hT
    have HF : Hid (FX w b a cap ts ⟨i, true, 0⟩ (w.setCell ⟨b, 2, none⟩ (.bool true))) := by
      refine ⟨?_, TokAt.grown ⟨a, cap, rfl, hcap, hc⟩ (fun g hg => by omega) hset.2.1, hset.2.1⟩
      unfold RdB
      rw [hset.1]
      have hp0 := hp rfl
      dsimp only at hp0
      subst hp0
      simp
    have hp0 := hp rfl
    dsimp only at hp0
    subst hp0
    clear hset hr hp hl
    by_cases hlt : i < ts.length
    · obtain ⟨t, ht⟩ : ∃ x, ts[i]? = some x := ⟨_, List.getElem?_eq_getElem hlt⟩
      have HE : Hid (xFail ts ⟨i, false, 0⟩ = ⟨i, true, t.pos⟩) := by show _ = _; unfold xFail posAt; simp only; rw [ht]; rfl
      have HTT := Lib.hid ht
      obtain ⟨g, rfl, -⟩ := hc i t ht
      clear ht hc
      have hli : ((i : Int) < (ts.length : Int)) := by omega
      go_enter Tryz.func121, Tryz.ntmps121
      go_upto_region 2 with fail
      clear c0 c1 c2 c3 f1 f2 f3
      generalize w.setCell ⟨b, 2, none⟩ (.bool true) = w1 at *
      obtain ⟨c0, c1, -, c3, -, -, f3⟩ := HF.out.blk.cells
      go_quiet (fail)
      have HF2 := Lib.hid (HF.out.lift (below_drewN (Below.refl _ w1) nq))
      clear HF c0 c1 c3 f3
      generalize w1.drewN nq = w2 at *
      have HS := Lib.hid (HF2.out.three HTT.out)
      have HF3 := Lib.hid (HF2.out.set t.pos)
      have HS' := Lib.hid (HF3.out.three HTT.out)
      obtain ⟨c0, c1, -, c3, -, -, f3⟩ := HF2.out.blk.cells
      go_wp2_with fail
      go_region_held3 (fun v => v.cell? ⟨b, 0, none⟩ = some (.slice (some ⟨g, 0, none⟩) ts.length cap) ∧ v.cell? ⟨b, 1, none⟩ = some (.int .i64 i) ∧ v.cell? ⟨g, i * 3 + 2, none⟩ = some (.int .i64 t.pos))
        (first
          | exact ⟨(HS.out _ (Below.refl _ _).drew).1, (HS.out _ (Below.refl _ _).drew).2.1, (HS.out _ (Below.refl _ _).drew).2.2.2.2⟩
          | exact ⟨(HS'.out _ (Below.refl _ _).drew).1, (HS'.out _ (Below.refl _ _).drew).2.1, (HS'.out _ (Below.refl _ _).drew).2.2.2.2⟩)
        (fail)
      all_goals
        go_wp2
        go_end0
        have HF4 := Lib.hid (HF3.out.lift (Below.refl _ _).drew)
        exact ⟨rfl, by rw [HE.out]; exact HF4.out.rdX hi HL.out, HF4.out.grown⟩
    · have hie : i = ts.length := by omega
      have hli : decide ((i : Int) < (ts.length : Int)) = false := by simpa using hlt
      cases hlast : ts[ts.length - 1]? with
      | none =>
        have h0 : ts.length = 0 := by rw [List.getElem?_eq_none_iff] at hlast; omega
        have HE : Hid (xFail ts ⟨i, false, 0⟩ = ⟨i, true, 0⟩) := by show _ = _; unfold xFail posAt; simp only; rw [List.getElem?_eq_none (by omega), hlast]; rfl
        have h00 : decide (0 < (ts.length : Int)) = false := by rw [h0]; rfl
        have h01 : decide (0 < ts.length) = false := by rw [h0]; rfl
        clear hlast hc
        go_enter Tryz.func121, Tryz.ntmps121
        go_upto_region 2 with fail
        clear c0 c1 c2 c3 f1 f2 f3
        generalize w.setCell ⟨b, 2, none⟩ (.bool true) = w1 at *
        obtain ⟨c0, c1, -, c3, -, -, f3⟩ := HF.out.blk.cells
        go_quiet (fail)
        have HF2 := Lib.hid (HF.out.lift (below_drewN (Below.refl _ w1) nq))
        clear HF c0 c1 c3 f3
        generalize w1.drewN nq = w2 at *
        obtain ⟨c0, c1, -, c3, -, -, f3⟩ := HF2.out.blk.cells
        go_wp2
        go_end0
        exact ⟨rfl, by rw [HE.out]; exact HF2.out.rdX hi HL.out, HF2.out.grown⟩
      | some t =>
        have h0 : 0 < ts.length := by have := (List.getElem?_eq_some_iff.1 hlast).1; omega
        have HE : Hid (xFail ts ⟨i, false, 0⟩ = ⟨i, true, (t.pos : Int) + t.text.length⟩) := by show _ = _; unfold xFail posAt; simp only; rw [List.getElem?_eq_none (by omega), hlast]; rfl
        have HTT := Lib.hid hlast
        obtain ⟨g, rfl, -⟩ := hc _ t hlast
        have htk := HL.out.2 t (List.mem_of_getElem? hlast)
        obtain ⟨tl, tp⟩ := htk
        have hsz : (⟨t.text.toArray⟩ : ByteArray).size = t.text.length := by rw [← bl_len, bl_mk]
        have HSz := Lib.hid hsz
        obtain ⟨m, hm⟩ : ∃ m, ts.length = m + 1 := ⟨ts.length - 1, by omega⟩
        have HM : Hid (ts.length = m + 1) := hm
        have HTm : Hid (ts[m]? = some t) := by show _ = _; rw [← hlast, hm]; rfl
        have hm1 : m < ts.length := by omega
        have hm2 : (m : Int) < (ts.length : Int) := by omega
        have hm0 : (0 : Int) ≤ (m : Int) := by omega
        have HWr : Hid (IntKind.i64.wrap ((ts.length : Int) - 1) = (m : Int)) := by show _ = _; rw [IntKind.wrap_i64]; omega
        clear hlast hc hsz hm
        go_enter Tryz.func121, Tryz.ntmps121
        go_upto_region 2 with fail
        clear c0 c1 c2 c3 f1 f2 f3
        generalize w.setCell ⟨b, 2, none⟩ (.bool true) = w1 at *
        obtain ⟨c0, c1, -, c3, -, -, f3⟩ := HF.out.blk.cells
        go_quiet (fail)
        have HF2 := Lib.hid (HF.out.lift (below_drewN (Below.refl _ w1) nq))
        clear HF c0 c1 c3 f3
        generalize w1.drewN nq = w2 at *
        have HS : Hid (∀ v', Below w2.heap.size w2 v' → v'.cell? ⟨b, 0, none⟩ = some (.slice (some ⟨g, 0, none⟩) ts.length cap) ∧ v'.cell? ⟨g, m * 3, none⟩ = some (.int .i64 t.kind) ∧ v'.cell? ⟨g, m * 3 + 1, none⟩ = some (.string ⟨t.text.toArray⟩) ∧ v'.cell? ⟨g, m * 3 + 2, none⟩ = some (.int .i64 t.pos)) := fun v' hb => by
          obtain ⟨a0, -, a1⟩ := HF2.out.three HTm.out v' hb
          exact ⟨a0, a1⟩
        obtain ⟨c0, c1, -, c3, -, -, f3⟩ := HF2.out.blk.cells
        generalize (⟨t.text.toArray⟩ : ByteArray) = tx at *
        go_wp2_with fail
        have hwr := HWr.out
        go_region_held3 (fun v => v.cell? ⟨b, 0, none⟩ = some (.slice (some ⟨g, 0, none⟩) ts.length cap) ∧ v.cell? ⟨g, m * 3, none⟩ = some (.int .i64 t.kind) ∧ v.cell? ⟨g, m * 3 + 1, none⟩ = some (.string tx) ∧ v.cell? ⟨g, m * 3 + 2, none⟩ = some (.int .i64 t.pos))
          (first
            | exact HS.out _ (Below.refl _ _).drew
            | exact HS.out _ ((Below.refl _ _).alloc (Nat.le_refl _) _).drew
            | exact HS.out _ ((Below.refl _ _).alloc (Nat.le_refl _) _))
          (fail)
        clear hwr c0 c1 c3 f3
        have hal : Below w2.heap.size w2 (w2.alloc (.cells #[.int .i64 t.kind, .string tx, .int .i64 t.pos] 44)).drew := ((Below.refl _ w2).alloc (Nat.le_refl _) _).drew
        have HF4 := Lib.hid (HF2.out.lift hal)
        have HF5 := Lib.hid (HF4.out.set ((t.pos : Int) + t.text.length))
        have n1 : (w2.alloc (.cells #[.int .i64 t.kind, .string tx, .int .i64 t.pos] 44)).drew.cell? ⟨w2.heap.size, 1, none⟩ = some (.string tx) := World.cell?_alloc_at _ _ _ _ rfl
        have n2 : (w2.alloc (.cells #[.int .i64 t.kind, .string tx, .int .i64 t.pos] 44)).drew.cell? ⟨w2.heap.size, 2, none⟩ = some (.int .i64 t.pos) := World.cell?_alloc_at _ _ _ _ rfl
        obtain ⟨c0, c1, -, c3, -, -, f3⟩ := HF4.out.blk.cells
        clear HF2 HS hal
        generalize (w2.alloc (.cells #[.int .i64 t.kind, .string tx, .int .i64 t.pos] 44)).drew = w4 at *
        generalize w2.heap.size = n at *
        have HW2 : Hid (IntKind.i64.wrap ((t.pos : Int) + (tx.size : Int)) = (t.pos : Int) + t.text.length) := by show _ = _; rw [HSz.out, IntKind.wrap_i64]; omega
        have hw2 := HW2.out
        have htx : tx.size ≤ 4000 := by rw [HSz.out]; exact tl
        go_wp2
        rw [HSz.out]
        go_end0
        exact ⟨rfl, by rw [HE.out]; exact HF5.out.rdX hi HL.out, HF5.out.grown⟩
  · go_enter Tryz.func121, Tryz.ntmps121
    go_wp2
    go_end0
    exact ⟨rfl, HX.out, below_grown_some (Below.refl _ w) b⟩
end Go.Proofs.YthphnacfidofbaaGreatDoor

/- The reference's reader, whatever its state: Skip, Need, Word, Atoms. -/
namespace Go.Proofs.YthphnacfidofbaaGreatDoor
open Go.RowKit Go.Maps Mth

theorem xI_good {ts : List Tok} {s : St} {t : ByteArray} (h : xI ts s t = true) : s.bad = false ∧ s.i < ts.length ∧ rIs ts s.i t = true := by
  unfold xI at h
  simp at h
  exact ⟨h.1, rIs_lt h.2, h.2⟩
theorem xK_good {ts : List Tok} {s : St} {k : Int} (h : xK ts s k = true) : s.bad = false ∧ s.i < ts.length ∧ rKind ts s.i k = true := by
  unfold xK at h
  simp at h
  exact ⟨h.1, rKind_lt h.2, h.2⟩
/-- The reader after one step. -/
theorem RdX.step {w : World} {b : Nat} {ts : List Tok} {s : St} (h : RdX w b ts s) (hi : s.i < ts.length) :
    RdX (w.setCell ⟨b, 1, none⟩ (.int .i64 ((s.i : Int) + 1))) b ts (xStep s) ∧ w.grownBy (w.setCell ⟨b, 1, none⟩ (.int .i64 ((s.i : Int) + 1))) (some b) := by
  obtain ⟨lv, hr, ht, _, hp, hl⟩ := h
  have hset := set1 hr 1 (.int .i64 ((s.i : Int) + 1))
  refine ⟨⟨lv, ?_, ht.grown (fun g hg => by omega) hset.2.1, hi, hp, hl⟩, hset.2.1⟩
  unfold RdB
  rw [hset.1]
  simp [xStep]
set_option maxHeartbeats 1600000 in
theorem rdSkip_any (s : ByteArray) (b : Nat) (ts : List Tok) (st : St) (w : World) (h : RdX w b ts st) : Calls Tryz.prog 83 #[.pointer (some ⟨b, 0, none⟩), .string s] w (XEnd w b ts (xSkip ts st s) (.bool (xI ts st s))) := by
  cases hs : xI ts st s with
  | true =>
    obtain ⟨hq, hlt, -⟩ := xI_good hs
    have HE : Hid (xSkip ts st s = xStep st) := by show _ = _; unfold xSkip; rw [hs]; rfl
    have HI : Hid (∀ w, RdX w b ts st → Calls Tryz.prog 97 #[.pointer (some ⟨b, 0, none⟩), .string s] w fun e w' => e = .returned (.bool true) ∧ Below w.heap.size w w') := fun w h => by have := rdIs_any s b ts st w h; rwa [hs] at this
    have HR := Lib.hid h
    have hle := h.le.2
    clear h hs
    obtain ⟨i, q, p⟩ := st
    dsimp only at hq hlt
    subst hq
    go_enter Tryz.func83, Tryz.ntmps83
    go_wp2_with fail
    go_at_call 97
    refine (HI.out _ HR.out).mono ?_
    rintro e w1 ⟨rfl, hb1⟩
    have HR1 := Lib.hid (HR.out.lift hb1)
    obtain ⟨lv, hr, -⟩ := HR1.out
    obtain ⟨c0, c1, c2, c3, f1, f2, f3⟩ := hr.cells
    clear hr
    go_wp2
    go_ret
    have hst := HR1.out.step hlt
    exact ⟨rfl, by rw [HE.out]; exact hst.1, grown_trans (below_grown_some hb1 b) hst.2⟩
  | false =>
    have HE : Hid (xSkip ts st s = st) := by show _ = _; unfold xSkip; rw [hs]; rfl
    have HI : Hid (∀ w, RdX w b ts st → Calls Tryz.prog 97 #[.pointer (some ⟨b, 0, none⟩), .string s] w fun e w' => e = .returned (.bool false) ∧ Below w.heap.size w w') := fun w h => by have := rdIs_any s b ts st w h; rwa [hs] at this
    have HR := Lib.hid h
    clear h hs
    go_enter Tryz.func83, Tryz.ntmps83
    go_wp2_with (go_at_call 97; refine (HI.out _ HR.out).mono ?_; rintro e w1 ⟨rfl, hb1⟩)
    go_ret
    exact ⟨rfl, by rw [HE.out]; exact HR.out.lift hb1, below_grown_some hb1 b⟩
theorem rdNeed_any (s : ByteArray) (b : Nat) (ts : List Tok) (st : St) (w : World) (h : RdX w b ts st) : Calls Tryz.prog 85 #[.pointer (some ⟨b, 0, none⟩), .string s] w (XEnd w b ts (xNeed ts st s) (.tuple #[])) := by
  have HS := Lib.hid (rdSkip_any s b ts st w h)
  cases hs : xI ts st s with
  | true =>
    have HE : Hid (xNeed ts st s = xSkip ts st s) := by show _ = _; unfold xNeed xSkip; rw [hs]; rfl
    rw [hs] at HS
    clear h hs
    go_enter Tryz.func85, Tryz.ntmps85
    go_wp2_with (go_at_call 83; refine HS.out.mono ?_; rintro e w1 ⟨rfl, hr1, hg1⟩; have HR1 := Lib.hid hr1; clear hr1)
    go_end0
    exact ⟨rfl, by rw [HE.out]; exact HR1.out, hg1⟩
  | false =>
    have HE : Hid (xNeed ts st s = xFail ts st) := by show _ = _; unfold xNeed; rw [hs]; rfl
    have HE2 : Hid (xSkip ts st s = st) := by show _ = _; unfold xSkip; rw [hs]; rfl
    rw [hs] at HS
    clear h hs
    go_enter Tryz.func85, Tryz.ntmps85
    go_wp2_with fail
    go_at_call 83
    refine HS.out.mono ?_
    rintro e w1 ⟨rfl, hr1, hg1⟩
    rw [HE2.out] at hr1
    have HR1 := Lib.hid hr1
    clear hr1
    go_wp2_with fail
    go_at_call 121
    refine (rdFail_any b ts st _ HR1.out).mono ?_
    rintro e w2 ⟨rfl, hr2, hg2⟩
    have HR2 := Lib.hid hr2
    clear hr2
    go_wp2
    go_end0
    exact ⟨rfl, by rw [HE.out]; exact HR2.out, grown_trans hg1 hg2⟩
set_option maxHeartbeats 1600000 in
theorem rdWord_yes (k : Int) (b : Nat) (ts : List Tok) (st : St) (w : World) (h : RdX w b ts st) (hk : xK ts st k = true) : Calls Tryz.prog 84 #[.pointer (some ⟨b, 0, none⟩), .int .i64 k] w (XEnd w b ts (xStep st) (.string (txt ts st.i))) := by
  obtain ⟨hq, hlt, -⟩ := xK_good hk
  have HI : Hid (∀ w, RdX w b ts st → Calls Tryz.prog 94 #[.pointer (some ⟨b, 0, none⟩), .int .i64 k] w fun e w' => e = .returned (.bool true) ∧ Below w.heap.size w w') := fun w h => by have := rdKind_any k b ts st w h; rwa [hk] at this
  have HR := Lib.hid h
  have hle := h.le.2
  obtain ⟨t, ht⟩ : ∃ x, ts[st.i]? = some x := ⟨_, List.getElem?_eq_getElem hlt⟩
  rw [txt_some ht]
  have HT := Lib.hid ht
  clear h hk ht
  obtain ⟨i, q, p⟩ := st
  dsimp only at hq hlt HT
  subst hq
  go_enter Tryz.func84, Tryz.ntmps84
  go_wp2_with fail
  go_at_call 94
  refine (HI.out _ HR.out).mono ?_
  rintro e w1 ⟨rfl, hb1⟩
  have HR1 := Lib.hid (HR.out.lift hb1)
  obtain ⟨lv, hr, -⟩ := HR1.out
  obtain ⟨c0, c1, c2, c3, f1, f2, f3⟩ := hr.cells
  clear hr
  go_wp2
  have HS := Lib.hid (HR1.out.step hlt)
  have hg := grown_trans (below_grown_some hb1 b) HS.out.2
  clear c0 c1 c2 c3 f1 f2 f3
  have HS1 := Lib.hid HS.out.1
  clear HS
  dsimp only at HS1 hg
  generalize (w1.setCell ⟨b, 1, none⟩ (.int .i64 ((i : Int) + 1))) = W at *
  obtain ⟨lv2, hr2, ⟨a, cap, rfl, hcap, hc⟩, -⟩ := HS1.out
  unfold xStep at hr2
  obtain ⟨c0, c1, c2, c3, f1, f2, f3⟩ := hr2.cells
  obtain ⟨g, rfl, hgb, d0, d1, d2⟩ := hc i t HT.out
  clear hr2 hc
  have hwr : IntKind.i64.wrap (i : Int) = i := by rw [IntKind.wrap_i64]; omega
  have hli : ((i : Int) < (ts.length : Int)) := by omega
  go_quiet (fail)
  go_wp2
  go_ret
  have hb2 : Below W.heap.size W (W.drewN nq) := below_drewN (Below.refl _ W) nq
  exact ⟨rfl, HS1.out.lift hb2, grown_trans hg (below_grown_some hb2 b)⟩
theorem rdAtoms_any (b : Nat) (ts : List Tok) (i : St) (w : World) (h : RdX w b ts i) : Calls Tryz.prog 126 #[.pointer (some ⟨b, 0, none⟩)] w fun e w' => e = .returned (.bool (xK ts i 1 || xK ts i 2 || xI ts i ⟨#[40]⟩)) ∧ Below w.heap.size w w' := by
  have HR := Lib.hid h
  have H1 : Hid (∀ w, RdX w b ts i → Calls Tryz.prog 94 #[.pointer (some ⟨b, 0, none⟩), .int .i64 1] w fun e w' => e = .returned (.bool (xK ts i 1)) ∧ Below w.heap.size w w') := fun w h => rdKind_any 1 b ts i w h
  have H2 : Hid (∀ w, RdX w b ts i → Calls Tryz.prog 94 #[.pointer (some ⟨b, 0, none⟩), .int .i64 2] w fun e w' => e = .returned (.bool (xK ts i 2)) ∧ Below w.heap.size w w') := fun w h => rdKind_any 2 b ts i w h
  have H3 : Hid (∀ w, RdX w b ts i → Calls Tryz.prog 97 #[.pointer (some ⟨b, 0, none⟩), .string ⟨#[40]⟩] w fun e w' => e = .returned (.bool (xI ts i ⟨#[40]⟩)) ∧ Below w.heap.size w w') := fun w h => rdIs_any ⟨#[40]⟩ b ts i w h
  clear h
  generalize xK ts i 1 = q1 at *
  generalize xK ts i 2 = q2 at *
  generalize xI ts i ⟨#[40]⟩ = q3 at *
  cases q1 with
  | true =>
    go_enter Tryz.func126, Tryz.ntmps126
    go_wp2_with (go_at_call 94; refine (H1.out _ HR.out).mono ?_; rintro e w1 ⟨rfl, hb1⟩)
    go_ret
    exact ⟨rfl, hb1⟩
  | false =>
    cases q2 with
    | true =>
      go_enter Tryz.func126, Tryz.ntmps126
      go_wp2_with fail
      go_at_call 94
      refine (H1.out _ HR.out).mono ?_
      rintro e w1 ⟨rfl, hb1⟩
      have HR1 := Lib.hid (HR.out.lift hb1)
      go_wp2_with (go_at_call 94; refine (H2.out _ HR1.out).mono ?_; rintro e w2 ⟨rfl, hb2⟩)
      go_ret
      exact ⟨rfl, hb1.trans (hb2.mono hb1.size)⟩
    | false =>
      go_enter Tryz.func126, Tryz.ntmps126
      go_wp2_with fail
      go_at_call 94
      refine (H1.out _ HR.out).mono ?_
      rintro e w1 ⟨rfl, hb1⟩
      have HR1 := Lib.hid (HR.out.lift hb1)
      go_wp2_with fail
      go_at_call 94
      refine (H2.out _ HR1.out).mono ?_
      rintro e w2 ⟨rfl, hb2⟩
      have HR2 := Lib.hid (HR1.out.lift hb2)
      go_wp2_with (go_at_call 97; refine (H3.out _ HR2.out).mono ?_; rintro e w3 ⟨rfl, hb3⟩)
      go_ret
      exact ⟨rfl, (hb1.trans (hb2.mono hb1.size)).trans (hb3.mono (Nat.le_trans hb1.size hb2.size))⟩
end Go.Proofs.YthphnacfidofbaaGreatDoor
