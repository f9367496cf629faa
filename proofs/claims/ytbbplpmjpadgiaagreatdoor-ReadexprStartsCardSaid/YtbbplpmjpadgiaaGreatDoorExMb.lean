import Derived.Test.YtbbplpmjpadgiaaGreatDoorExMa
/- The package's reader of expressions: token, skip, fail, unexpected. -/
namespace Go.Proofs.YtbbplpmjpadgiaaGreatDoor
open Go.RowKit Go.Maps Mth

set_option maxHeartbeats 3200000 in
theorem yTok_any (ea : Addr) (b : Nat) (ts : List Tok) (s : St) (w : World) (h : RdY ea w b ts s) :
    Calls Tryz.prog 79 #[.pointer (some ⟨b, 0, none⟩)] w fun e w' => e = .returned (.agg #[.int .i64 (yK ts s), .string (yT ts s), .int .i64 (yP ts s)]) ∧ Below w.heap.size w w' := by
  have hbl := h.lt
  obtain ⟨hi, hl⟩ := h.le
  have hb : Below w.heap.size w (w.alloc (.cells #[.int .i64 0, .string ⟨#[]⟩, .int .i64 0] 44)) := (Below.refl _ w).alloc (Nat.le_refl _) _
  have HP := Lib.hid (h.lift hb)
  have hn : (w.alloc (.cells #[.int .i64 0, .string ⟨#[]⟩, .int .i64 0] 44)).heap[w.heap.size]? = some (.cells #[.int .i64 0, .string ⟨#[]⟩, .int .i64 0] 44 (0, 0)) := heap_alloc_new w _
  have HN := Lib.hid hn
  have HB := Lib.hid hb
  clear h hb hn
  obtain ⟨i, q, p⟩ := s
  dsimp only at hi
  have HZ : Hid (∀ V2, Below w.heap.size w V2 → V2.heap[w.heap.size]? = some (.cells #[.int .i64 0, .string ⟨#[]⟩, .int .i64 0] 44 (0, 0)) →
      Below w.heap.size w (((V2.setCell ⟨w.heap.size, 0, none⟩ (.int .i64 0)).setCell ⟨w.heap.size, 1, none⟩ (.string ⟨#[]⟩)).setCell ⟨w.heap.size, 2, none⟩ (.int .i64 0)) ∧
      (((V2.setCell ⟨w.heap.size, 0, none⟩ (.int .i64 0)).setCell ⟨w.heap.size, 1, none⟩ (.string ⟨#[]⟩)).setCell ⟨w.heap.size, 2, none⟩ (.int .i64 0)).heap[w.heap.size]? = some (.cells #[.int .i64 0, .string ⟨#[]⟩, .int .i64 0] 44 (0, 0))) := fun V2 h1 h2 => by
    obtain ⟨h3, h4⟩ := setTok h2 (.int .i64 0) (.string ⟨#[]⟩) (.int .i64 0)
    exact ⟨Below.grown h1 h4 h1.size (fun k hk => by have := Option.some.inj hk; omega), h3⟩
  cases q with
  | true =>
    have HI := Lib.hid (is_any ea true)
    go_enter Tryz.func79, Tryz.ntmps79
    go_upto_region 1 with fail
    generalize (w.alloc (.cells #[.int .i64 0, .string ⟨#[]⟩, .int .i64 0] 44)) = V at *
    obtain ⟨a, cap, ⟨c0, c1, c2, c3⟩, -⟩ := HP.out.cells
    have g0 := HP.out.g2.un
    go_quiet ((go_at_call 78; exact Calls.quiet_of_same (HI.out _)))
    have hq : Below V.heap.size V (V.drewN nq) := below_drewN (Below.refl _ V) nq
    have HB2 := Lib.hid (HB.out.trans (hq.mono HB.out.size))
    have HN2 : Hid ((V.drewN nq).heap[w.heap.size]? = some (.cells #[.int .i64 0, .string ⟨#[]⟩, .int .i64 0] 44 (0, 0))) := by show _ = _; rw [hq.block _ (Array.getElem?_eq_some_iff.1 HN.out).1]; exact HN.out
    clear hq HP HB HN c0 c1 c2 c3 g0
    generalize V.drewN nq = V2 at *
    obtain ⟨⟨n0, n1, n2⟩, m0, m1, m2⟩ := tok_cells HN2.out
    have HF := Lib.hid (HZ.out V2 HB2.out HN2.out)
    go_wp2
    generalize (((V2.setCell ⟨w.heap.size, 0, none⟩ (.int .i64 0)).setCell ⟨w.heap.size, 1, none⟩ (.string ⟨#[]⟩)).setCell ⟨w.heap.size, 2, none⟩ (.int .i64 0)) = V3 at *
    clear n0 n1 n2 m0 m1 m2
    obtain ⟨⟨n0, n1, n2⟩, -⟩ := tok_cells HF.out.2
    refine bodyPost_ret (by simp [results, Tryz.results79, go_sem, n0, n1, n2]; try rfl) rfl ?_
    exact ⟨rfl, HF.out.1⟩
  | false =>
    have HI := Lib.hid (is_any ea false)
    by_cases hlt : i < ts.length
    · obtain ⟨t, ht⟩ : ∃ x, ts[i]? = some x := ⟨_, List.getElem?_eq_getElem hlt⟩
      have HE : Hid ((yK ts ⟨i, false, p⟩, yT ts ⟨i, false, p⟩, yP ts ⟨i, false, p⟩) = (t.kind, ⟨t.text.toArray⟩, (t.pos : Int))) := by show _ = _; unfold yK yT yP tkK txt tkP; simp only [ht]; rfl
      have HT := Lib.hid ht
      clear ht
      have hli : ((i : Int) == (ts.length : Int)) = false := by simp; omega
      have hlj : (i == ts.length) = false := by simp; omega
      have hlk : ((i : Int) < (ts.length : Int)) := by omega
      go_enter Tryz.func79, Tryz.ntmps79
      go_upto_region 1 with fail
      generalize (w.alloc (.cells #[.int .i64 0, .string ⟨#[]⟩, .int .i64 0] 44)) = V at *
      obtain ⟨a, cap, ⟨c0, c1, c2, c3⟩, -, hcap, hT⟩ := HP.out.cells
      have g0 := HP.out.g2.un
      clear hT
      go_quiet ((go_at_call 78; exact Calls.quiet_of_same (HI.out _)))
      have hq : Below V.heap.size V (V.drewN nq) := below_drewN (Below.refl _ V) nq
      have HP2 := Lib.hid (HP.out.lift hq)
      have HB2 := Lib.hid (HB.out.trans (hq.mono HB.out.size))
      have HN2 : Hid ((V.drewN nq).heap[w.heap.size]? = some (.cells #[.int .i64 0, .string ⟨#[]⟩, .int .i64 0] 44 (0, 0))) := by show _ = _; rw [hq.block _ (Array.getElem?_eq_some_iff.1 HN.out).1]; exact HN.out
      clear hq HP HB HN c0 c1 c2 c3 g0 hcap
      generalize V.drewN nq = V2 at *
      obtain ⟨a, cap, ⟨c0, c1, c2, c3⟩, -, hcap, hT⟩ := HP2.out.cells
      obtain ⟨a', cap', hv, -, hc⟩ := hT
      obtain ⟨g, ha, hg, d0, d1, d2⟩ := hc i t HT.out
      have hva : a = some ⟨g, 0, none⟩ := by simp at hv; rw [hv.1, ha]
      subst hva
      clear hc hv ha c2 c3
      obtain ⟨⟨n0, n1, n2⟩, m0, m1, m2⟩ := tok_cells HN2.out
      have hne : w.heap.size ≠ g := by omega
      have hne2 : w.heap.size ≠ b := by omega
      obtain ⟨hn3, hg3⟩ := setTok HN2.out (.int .i64 t.kind) (.string ⟨t.text.toArray⟩) (.int .i64 t.pos)
      have HN3 := Lib.hid hn3
      have HG3 := Lib.hid hg3
      clear hn3 hg3
      go_wp2
      go_region
      all_goals
        generalize (((V2.setCell ⟨w.heap.size, 0, none⟩ (.int .i64 t.kind)).setCell ⟨w.heap.size, 1, none⟩ (.string ⟨t.text.toArray⟩)).setCell ⟨w.heap.size, 2, none⟩ (.int .i64 t.pos)) = V3 at *
        clear c0 c1 d0 d1 d2 n0 n1 n2 m0 m1 m2
        obtain ⟨⟨n0, n1, n2⟩, -⟩ := tok_cells HN3.out
        have n0' : V3.drew.cell? ⟨w.heap.size, 0, none⟩ = some (.int .i64 t.kind) := n0
        have n1' : V3.drew.cell? ⟨w.heap.size, 1, none⟩ = some (.string ⟨t.text.toArray⟩) := n1
        have n2' : V3.drew.cell? ⟨w.heap.size, 2, none⟩ = some (.int .i64 t.pos) := n2
        go_wp2
        refine bodyPost_ret (by simp [results, Tryz.results79, go_sem, n0', n1', n2']; try rfl) rfl ?_
        have he := HE.out
        simp only [Prod.mk.injEq] at he
        obtain ⟨e1, e2, e3⟩ := he
        exact ⟨by rw [e1, e2, e3], (Below.grown HB2.out HG3.out HB2.out.size (fun k hk => by have := Option.some.inj hk; omega)).drew⟩
    · have hie : i = ts.length := by omega
      have HE : Hid ((yK ts ⟨i, false, p⟩, yT ts ⟨i, false, p⟩, yP ts ⟨i, false, p⟩) = ((0 : Int), (⟨#[]⟩ : ByteArray), (0 : Int))) := by show _ = _; unfold yK yT yP tkK txt tkP; simp only [List.getElem?_eq_none (show ts.length ≤ i by omega)]; rfl
      have hli : ((i : Int) == (ts.length : Int)) = true := by simp; omega
      have hlj : (i == ts.length) = true := by simp; omega
      clear hlt
      go_enter Tryz.func79, Tryz.ntmps79
      go_upto_region 1 with fail
      generalize (w.alloc (.cells #[.int .i64 0, .string ⟨#[]⟩, .int .i64 0] 44)) = V at *
      obtain ⟨a, cap, ⟨c0, c1, c2, c3⟩, -, hcap, hT⟩ := HP.out.cells
      have g0 := HP.out.g2.un
      clear hT hie
      go_quiet ((go_at_call 78; exact Calls.quiet_of_same (HI.out _)))
      have hq : Below V.heap.size V (V.drewN nq) := below_drewN (Below.refl _ V) nq
      have HB2 := Lib.hid (HB.out.trans (hq.mono HB.out.size))
      have HN2 : Hid ((V.drewN nq).heap[w.heap.size]? = some (.cells #[.int .i64 0, .string ⟨#[]⟩, .int .i64 0] 44 (0, 0))) := by show _ = _; rw [hq.block _ (Array.getElem?_eq_some_iff.1 HN.out).1]; exact HN.out
      clear hq HP HB HN c0 c1 c2 c3 g0 hcap
      generalize V.drewN nq = V2 at *
      obtain ⟨⟨n0, n1, n2⟩, m0, m1, m2⟩ := tok_cells HN2.out
      have HF := Lib.hid (HZ.out V2 HB2.out HN2.out)
      go_wp2
      generalize (((V2.setCell ⟨w.heap.size, 0, none⟩ (.int .i64 0)).setCell ⟨w.heap.size, 1, none⟩ (.string ⟨#[]⟩)).setCell ⟨w.heap.size, 2, none⟩ (.int .i64 0)) = V3 at *
      clear n0 n1 n2 m0 m1 m2
      obtain ⟨⟨n0, n1, n2⟩, -⟩ := tok_cells HF.out.2
      refine bodyPost_ret (by simp [results, Tryz.results79, go_sem, n0, n1, n2]; try rfl) rfl ?_
      have he := HE.out
      simp only [Prod.mk.injEq] at he
      obtain ⟨e1, e2, e3⟩ := he
      exact ⟨by rw [e1, e2, e3], HF.out.1⟩

set_option maxHeartbeats 1600000 in
theorem ySkip_any (ea : Addr) (b : Nat) (ts : List Tok) (s : St) (w : World) (h : RdY ea w b ts s) (hlt : s.i < ts.length) :
    Calls Tryz.prog 91 #[.pointer (some ⟨b, 0, none⟩)] w (YEnd ea w b ts (xStep s) (.int .i64 (tkP ts s.i))) := by
  obtain ⟨t, ht⟩ : ∃ x, ts[s.i]? = some x := ⟨_, List.getElem?_eq_getElem hlt⟩
  obtain ⟨hi, hl⟩ := h.le
  obtain ⟨hs1, hs2⟩ := h.set (s.i + 1) hlt
  have e1 : ((s.i + 1 : Nat) : Int) = (s.i : Int) + 1 := by omega
  rw [e1] at hs1 hs2
  have HS1 := Lib.hid hs1
  have HS2 := Lib.hid hs2
  have HE : Hid (tkP ts s.i = t.pos) := by show _ = _; unfold tkP; rw [ht]
  have HT := Lib.hid ht
  have HX : Hid (xStep s = ⟨s.i + 1, s.bad, s.p⟩) := rfl
  obtain ⟨a, cap, ⟨c0, c1, -, -⟩, ⟨f1, -, -⟩, -⟩ := h.cells
  clear hs1 hs2 ht h
  obtain ⟨i, q, p⟩ := s
  dsimp only at *
  have hw1 : IntKind.i64.wrap ((i : Int) + 1) = (i : Int) + 1 := by rw [IntKind.wrap_i64]; omega
  go_enter Tryz.func91, Tryz.ntmps91
  go_upto_region 2 with fail
  generalize w.setCell ⟨b, 1, none⟩ (.int .i64 ((i : Int) + 1)) = V at *
  clear c0 c1 f1 hw1
  obtain ⟨a, cap, ⟨c0, c1, -, -⟩, -, hcap, hT⟩ := HS1.out.cells
  obtain ⟨a', cap', hv, -, hc⟩ := hT
  obtain ⟨g, ha, hg, d0, d1, d2⟩ := hc i t HT.out
  have hva : a = some ⟨g, 0, none⟩ := by simp at hv; rw [hv.1, ha]
  subst hva
  clear hc hv ha
  have hw2 : IntKind.i64.wrap ((i : Int) + 1 - 1) = (i : Int) := by rw [IntKind.wrap_i64]; omega
  have hli : (i : Int) < (ts.length : Int) := by omega
  have hl0 : (0 : Int) ≤ (i : Int) := by omega
  go_quiet (fail)
  have hq : Below V.heap.size V (V.drewN nq) := below_drewN (Below.refl _ V) nq
  have HF1 := Lib.hid (HS1.out.lift hq)
  have HF2 := Lib.hid (grown_trans HS2.out (below_grown_some hq b))
  clear hq HS1 HS2 c0 c1 d0 d1 d2
  generalize V.drewN nq = V2 at *
  go_wp2
  go_ret
  exact ⟨ret_int HE.out.symm, by rw [HX.out]; exact HF1.out, HF2.out⟩
/-- What fail makes of a state. -/
def yFl (s : St) (p : Int) : St := if s.bad then s else ⟨s.i, true, p⟩
set_option maxHeartbeats 1600000 in
theorem yFail_any (ea : Addr) (b : Nat) (ts : List Tok) (s : St) (p : Int) (w : World) (h : RdY ea w b ts s) :
    Calls Tryz.prog 123 #[.pointer (some ⟨b, 0, none⟩), .int .i64 p] w (YEnd ea w b ts (yFl s p) (.tuple #[])) := by
  obtain ⟨hs1, hs2⟩ := h.setErr p
  have HS1 := Lib.hid hs1
  have HS2 := Lib.hid hs2
  have HR := Lib.hid h
  obtain ⟨a, cap, ⟨c0, c1, c2, c3⟩, ⟨f1, f2, f3⟩, -⟩ := h.cells
  have g0 := h.g2.un
  clear hs1 hs2 h
  obtain ⟨i, q, p0⟩ := s
  dsimp only at *
  cases q with
  | true =>
    have HX : Hid (yFl ⟨i, true, p0⟩ p = ⟨i, true, p0⟩) := rfl
    unfold erV EV at c2
    simp only [if_true] at c2
    go_enter Tryz.func123, Tryz.ntmps123
    go_wp2
    go_end0
    exact ⟨rfl, by rw [HX.out]; exact HR.out, below_grown_some (Below.refl _ w) b⟩
  | false =>
    have HX : Hid (yFl ⟨i, false, p0⟩ p = ⟨i, true, p⟩) := rfl
    unfold erV at c2
    simp only [Bool.false_eq_true, if_false] at c2
    unfold EV at g0
    go_enter Tryz.func123, Tryz.ntmps123
    go_wp2
    go_end0
    exact ⟨rfl, by rw [HX.out]; exact HS1.out, HS2.out⟩
end Go.Proofs.YtbbplpmjpadgiaaGreatDoor

/- The package's reader of expressions: the end, the unexpected token, what is expected. -/
namespace Go.Proofs.YtbbplpmjpadgiaaGreatDoor
open Go.RowKit Go.Maps Mth

set_option maxHeartbeats 1600000 in
theorem yEndOf_any (ts : List Tok) (hok : TkOk ts) (S : Nat → Prop) (lv : Value) (w : World) (h : TokAt w S lv ts) :
    Calls Tryz.prog 124 #[lv] w fun e w' => e = .returned (.int .i64 (posAt ts ts.length)) ∧ Below w.heap.size w w' := by
  have HT := Lib.hid h
  have hl := hok.1
  obtain ⟨a, cap, rfl, hcap, hc⟩ := h
  have HC := Lib.hid hc
  clear hc
  cases hlast : ts[ts.length - 1]? with
  | none =>
    have h0 : ts.length = 0 := by rw [List.getElem?_eq_none_iff] at hlast; omega
    have HE : Hid (posAt ts ts.length = 0) := by show _ = _; unfold posAt; rw [List.getElem?_eq_none (by omega), hlast]
    have h00 : ((ts.length : Int) == 0) = true := by rw [h0]; rfl
    have h01 : (ts.length == 0) = true := by rw [h0]; rfl
    clear hlast h0
    go_enter Tryz.func124, Tryz.ntmps124
    go_wp2
    go_ret
    exact ⟨ret_int HE.out.symm, Below.refl _ w⟩
  | some t =>
    have h0 : 0 < ts.length := by have := (List.getElem?_eq_some_iff.1 hlast).1; omega
    have HE : Hid (posAt ts ts.length = (t.pos : Int) + t.text.length) := by show _ = _; unfold posAt; rw [List.getElem?_eq_none (Nat.le_refl _), hlast]
    obtain ⟨g, rfl, -⟩ := HC.out _ t hlast
    obtain ⟨tl, tp⟩ := hok.2 t (List.mem_of_getElem? hlast)
    have HSz : Hid ((⟨t.text.toArray⟩ : ByteArray).size = t.text.length) := by show _ = _; rw [← bl_len, bl_mk]
    obtain ⟨m, hm⟩ : ∃ m, ts.length = m + 1 := ⟨ts.length - 1, by omega⟩
    have HTm : Hid (ts[m]? = some t) := by show _ = _; rw [← hlast, hm]; rfl
    obtain ⟨g', hg', -, d0, d1, d2⟩ := HC.out m t HTm.out
    obtain rfl : g' = g := by simp at hg'; exact hg'.symm
    have hm1 : m < ts.length := by omega
    have hm2 : (m : Int) < (ts.length : Int) := by omega
    have hm0 : (0 : Int) ≤ (m : Int) := by omega
    have hWr : IntKind.i64.wrap ((ts.length : Int) - 1) = (m : Int) := by rw [IntKind.wrap_i64]; omega
    have h00 : ((ts.length : Int) == 0) = false := by rw [beq_eq_false_iff_ne]; omega
    have h01 : (ts.length == 0) = false := by rw [beq_eq_false_iff_ne]; omega
    have htp : 0 ≤ (t.pos : Int) ∧ (t.pos : Int) ≤ 1000000000 := by omega
    clear hlast hg' hm
    generalize (⟨t.text.toArray⟩ : ByteArray) = tx at *
    have htx : tx.size ≤ 4000 := by rw [HSz.out]; exact tl
    have hw2 : IntKind.i64.wrap ((t.pos : Int) + (tx.size : Int)) = (t.pos : Int) + (tx.size : Int) := by rw [IntKind.wrap_i64]; omega
    have hal : Below w.heap.size w (w.alloc (.cells #[.int .i64 t.kind, .string tx, .int .i64 t.pos] 44)) := (Below.refl _ w).alloc (Nat.le_refl _) _
    have HAl := Lib.hid hal
    clear hal
    go_enter Tryz.func124, Tryz.ntmps124
    go_wp2
    go_ret
    exact ⟨ret_int (by rw [HE.out, HSz.out]), HAl.out⟩
theorem yFl_fail (ts : List Tok) (s : St) : yFl s (posAt ts s.i) = xFail ts s := rfl
set_option maxHeartbeats 1600000 in
set_option maxRecDepth 100000 in
theorem yUnexp_any (ea : Addr) (b : Nat) (ts : List Tok) (s : St) (w : World) (h : RdY ea w b ts s) :
    Calls Tryz.prog 90 #[.pointer (some ⟨b, 0, none⟩)] w (YEnd ea w b ts (xFail ts s) (.tuple #[])) := by
  have HP := Lib.hid h
  obtain ⟨hi, hl⟩ := h.le
  have HFl : Hid (∀ V, RdY ea V b ts s → Calls Tryz.prog 123 #[.pointer (some ⟨b, 0, none⟩), .int .i64 (posAt ts s.i)] V (YEnd ea V b ts (xFail ts s) (.tuple #[]))) := fun V hV => yFail_any ea b ts s _ V hV
  clear h
  obtain ⟨a, cap, ⟨c0, c1, -, -⟩, -, hcap, hT⟩ := HP.out.cells
  by_cases hlt : s.i < ts.length
  · obtain ⟨t, ht⟩ : ∃ x, ts[s.i]? = some x := ⟨_, List.getElem?_eq_getElem hlt⟩
    have HE : Hid (posAt ts s.i = t.pos) := by show _ = _; unfold posAt; rw [ht]
    obtain ⟨a', cap', hv, -, hc⟩ := hT
    obtain ⟨g, ha, hg, d0, d1, d2⟩ := hc s.i t ht
    have hva : a = some ⟨g, 0, none⟩ := by simp at hv; rw [hv.1, ha]
    subst hva
    clear hc hv ha ht
    rw [HE.out] at HFl
    obtain ⟨i, q, p⟩ := s
    dsimp only at *
    have hlk : ((i : Int) < (ts.length : Int)) := by omega
    go_enter Tryz.func90, Tryz.ntmps90
    go_wp2
    go_quiet (fail)
    have hq : Below w.heap.size w (w.drewN nq) := below_drewN (Below.refl _ w) nq
    have HP2 := Lib.hid (HP.out.lift hq)
    have HQ := Lib.hid hq
    have k0 := (hq.cell (World.block_lt_of_cell? _ _ c0)).trans c0
    have k1 := (hq.cell (World.block_lt_of_cell? _ _ c1)).trans c1
    have k2 := (hq.cell (World.block_lt_of_cell? _ _ d2)).trans d2
    clear hq c0 c1 d0 d1 d2 HP
    generalize w.drewN nq = V at *
    go_wp2_with fail
    go_still_tail 12, (by kernel_rfl)
    change wpList _ _ _ _ _ V.drew
    have HP3 := Lib.hid (HP2.out.lift (Below.refl _ V).drew)
    have HG3 := Lib.hid (below_grown_some (HQ.out.trans ((Below.refl _ V).drew.mono HQ.out.size)) b)
    generalize V.drew = V2 at *
    go_wp2_with (go_at_call 123; refine (HFl.out _ HP3.out).mono ?_; rintro e w1 ⟨rfl, hr1, hg1⟩)
    go_end0
    exact ⟨rfl, hr1, grown_trans HG3.out hg1⟩
  · obtain ⟨i, q, p⟩ := s
    dsimp only at *
    obtain rfl : i = ts.length := by omega
    have HEn : Hid (∀ V, Below w.heap.size w V → Calls Tryz.prog 124 #[.slice a ts.length cap] V fun e w' => e = .returned (.int .i64 (posAt ts ts.length)) ∧ Below V.heap.size V w') := fun V hb => yEndOf_any ts HP.out.ok _ _ V (hT.lift hb)
    have HCl : Hid (∀ V, Below w.heap.size w V → V.cell? ⟨b, 0, none⟩ = some (.slice a ts.length cap)) := fun V hb => by
      have := hb.cell (p := ⟨b, 0, none⟩) HP.out.lt
      rw [this]; exact c0
    clear hT hlt
    have hlk : decide ((ts.length : Int) < (ts.length : Int)) = false := by simp
    go_enter Tryz.func90, Tryz.ntmps90
    go_wp2
    go_quiet (fail)
    have hq : Below w.heap.size w (w.drewN nq) := below_drewN (Below.refl _ w) nq
    have HQ := Lib.hid hq
    have hc0 := HCl.out _ hq
    clear hq c0 c1
    generalize w.drewN nq = V at *
    go_wp2_with fail
    go_at_call 124
    refine (HEn.out V HQ.out).mono ?_
    rintro e w1 ⟨rfl, hb1⟩
    have HP2 := Lib.hid (HP.out.lift (HQ.out.trans (hb1.mono HQ.out.size)))
    have HG2 := Lib.hid (below_grown_some (HQ.out.trans (hb1.mono HQ.out.size)) b)
    clear hb1
    go_wp2_with (go_at_call 123; refine (HFl.out _ HP2.out).mono ?_; rintro e w2 ⟨rfl, hr2, hg2⟩)
    go_end0
    exact ⟨rfl, hr2, grown_trans HG2.out hg2⟩
end Go.Proofs.YtbbplpmjpadgiaaGreatDoor
