import Derived.Test.YthphnacfidofbaaGreatDoorTyXMc
import Derived.Test.YthphnacfidofbaaGreatDoorTyAsMa
/- The package's reader: its memory, and what each small method does. -/
namespace Go.Proofs.YthphnacfidofbaaGreatDoor
open Go.RowKit Go.Maps Mth

/-- The kind and the offset of the token at an index; zero at the end. -/
def tkK (ts : List Tok) (i : Nat) : Int := match ts[i]? with | some t => t.kind | none => 0
def tkP (ts : List Tok) (i : Nat) : Int := match ts[i]? with | some t => t.pos | none => 0
/-- Is the next token a mark with this text? -/
def rMark (ts : List Tok) (i : Nat) (s : ByteArray) : Bool := tkK ts i == 5 && (txt ts i).toList == s.toList
def rStart (ts : List Tok) (i : Nat) : Bool := tkK ts i == 1 || tkK ts i == 2 || rMark ts i ⟨#[40]⟩
/-- The package's reader in its block, at a place. -/
def PkX (w : World) (b : Nat) (ts : List Tok) (i : Nat) : Prop := ∃ lv, w.heap[b]? = some (.cells #[lv, .int .i64 i] 111 (0, 0)) ∧ TokAt w (fun g => g < b) lv ts ∧ i ≤ ts.length ∧ TkOk ts
theorem PkX.lift {w w' : World} {b : Nat} {ts : List Tok} {i : Nat} (h : PkX w b ts i) (hb : Below w.heap.size w w') : PkX w' b ts i := by
  obtain ⟨lv, h1, h2, h3⟩ := h
  refine ⟨lv, ?_, h2.lift hb, h3⟩
  rw [hb.block _ (Array.getElem?_eq_some_iff.1 h1).1, h1]
theorem PkX.other {w w' : World} {b R : Nat} {ts : List Tok} {i : Nat} (h : PkX w b ts i) (hR : b < R) (hg : w.grownBy w' (some R)) : PkX w' b ts i := by
  obtain ⟨lv, h1, h2, h3⟩ := h
  refine ⟨lv, ?_, h2.grown (fun g hg => by omega) hg, h3⟩
  rw [hg.block b (Array.getElem?_eq_some_iff.1 h1).1 (by intro e; have := Option.some.inj e; omega), h1]
theorem PkX.lt {w : World} {b : Nat} {ts : List Tok} {i : Nat} (h : PkX w b ts i) : b < w.heap.size := by
  obtain ⟨lv, h1, _⟩ := h
  exact (Array.getElem?_eq_some_iff.1 h1).1
theorem PkX.le {w : World} {b : Nat} {ts : List Tok} {i : Nat} (h : PkX w b ts i) : i ≤ ts.length ∧ ts.length ≤ 100000 := by
  obtain ⟨lv, _, _, h3, h4⟩ := h
  exact ⟨h3, h4.1⟩
theorem PkX.ok {w : World} {b : Nat} {ts : List Tok} {i : Nat} (h : PkX w b ts i) : TkOk ts := by
  obtain ⟨lv, _, _, _, h4⟩ := h
  exact h4
theorem PkX.cells {w : World} {b : Nat} {ts : List Tok} {i : Nat} (h : PkX w b ts i) : ∃ a cap, w.cell? ⟨b, 0, none⟩ = some (.slice a ts.length cap) ∧ w.cell? ⟨b, 1, none⟩ = some (.int .i64 i) ∧ w.frozen? ⟨b, 1, none⟩ = false ∧ (ts.length ≤ cap ∧ cap ≤ maxLen) ∧ TokAt w (fun g => g < b) (.slice a ts.length cap) ts := by
  obtain ⟨lv, h1, h2, h3⟩ := h
  obtain ⟨a, cap, rfl, hcap, hc⟩ := h2
  exact ⟨a, cap, by simp [World.cell?, h1], by simp [World.cell?, h1], by simp [World.frozen?, h1], hcap, a, cap, rfl, hcap, hc⟩
theorem PkX.step {w : World} {b : Nat} {ts : List Tok} {i : Nat} (h : PkX w b ts i) (hi : i < ts.length) :
    PkX (w.setCell ⟨b, 1, none⟩ (.int .i64 ((i : Int) + 1))) b ts (i + 1) ∧ w.grownBy (w.setCell ⟨b, 1, none⟩ (.int .i64 ((i : Int) + 1))) (some b) := by
  obtain ⟨lv, hr, ht, _, hl⟩ := h
  have hset := set1 hr 1 (.int .i64 ((i : Int) + 1))
  refine ⟨⟨lv, ?_, ht.grown (fun g hg => by omega) hset.2.1, hi, hl⟩, hset.2.1⟩
  rw [hset.1]
  simp

theorem isMark_any (k : Int) (x : ByteArray) (p : Int) (s : ByteArray) (w : World) :
    Calls Tryz.prog 67 #[.agg #[.int .i64 k, .string x, .int .i64 p], .string s] w fun e w' => e = .returned (.bool (k == 5 && x.toList == s.toList)) ∧ Below w.heap.size w w' := by
  have hb : Below w.heap.size w (w.alloc (.cells #[.int .i64 k, .string x, .int .i64 p] 44)) := (Below.refl _ w).alloc (Nat.le_refl _) _
  have HB := Lib.hid hb
  clear hb
  cases h5 : (k == 5) <;> cases hs : (x.toList == s.toList)
  all_goals
    go_enter Tryz.func67, Tryz.ntmps67
    go_wp2
    go_ret
    exact ⟨rfl, HB.out⟩
theorem starts_any (k : Int) (x : ByteArray) (p : Int) (w : World) :
    Calls Tryz.prog 70 #[.agg #[.int .i64 k, .string x, .int .i64 p]] w fun e w' => e = .returned (.bool (k == 1 || k == 2 || (k == 5 && x.toList == (⟨#[40]⟩ : ByteArray).toList))) ∧ Below w.heap.size w w' := by
  have hb : Below w.heap.size w (w.alloc (.cells #[.int .i64 k, .string x, .int .i64 p] 44)) := (Below.refl _ w).alloc (Nat.le_refl _) _
  have HB := Lib.hid hb
  have HM := Lib.hid (fun w => isMark_any k x p ⟨#[40]⟩ w)
  clear hb
  generalize (k == 5 && x.toList == (⟨#[40]⟩ : ByteArray).toList) = m at *
  cases h1 : (k == 1)
  · cases h2 : (k == 2)
    · go_enter Tryz.func70, Tryz.ntmps70
      go_wp2_with (go_at_call 67; refine (HM.out _).mono ?_; rintro e w1 ⟨rfl, hb1⟩)
      go_ret
      exact ⟨rfl, HB.out.trans (hb1.mono HB.out.size)⟩
    · go_enter Tryz.func70, Tryz.ntmps70
      go_wp2
      go_ret
      exact ⟨rfl, HB.out⟩
  · go_enter Tryz.func70, Tryz.ntmps70
    go_wp2
    go_ret
    exact ⟨rfl, HB.out⟩
/-- A token's result. -/
theorem setTok {w : World} {n : Nat} {c0 c1 c2 : Value} (h : w.heap[n]? = some (.cells #[c0, c1, c2] 44 (0, 0))) (v0 v1 v2 : Value) :
    (((w.setCell ⟨n, 0, none⟩ v0).setCell ⟨n, 1, none⟩ v1).setCell ⟨n, 2, none⟩ v2).heap[n]? = some (.cells #[v0, v1, v2] 44 (0, 0)) ∧ w.grownBy (((w.setCell ⟨n, 0, none⟩ v0).setCell ⟨n, 1, none⟩ v1).setCell ⟨n, 2, none⟩ v2) (some n) := by
  obtain ⟨a0, g0, _⟩ := set1 h 0 v0
  obtain ⟨a1, g1, _⟩ := set1 a0 1 v1
  obtain ⟨a2, g2, _⟩ := set1 a1 2 v2
  refine ⟨?_, grown_trans (grown_trans g0 g1) g2⟩
  rw [a2]
  simp
theorem tok_cells {w : World} {n : Nat} {c0 c1 c2 : Value} (h : w.heap[n]? = some (.cells #[c0, c1, c2] 44 (0, 0))) : (w.cell? ⟨n, 0, none⟩ = some c0 ∧ w.cell? ⟨n, 1, none⟩ = some c1 ∧ w.cell? ⟨n, 2, none⟩ = some c2) ∧ w.frozen? ⟨n, 0, none⟩ = false ∧ w.frozen? ⟨n, 1, none⟩ = false ∧ w.frozen? ⟨n, 2, none⟩ = false := by
  simp [World.cell?, World.frozen?, h]
set_option maxHeartbeats 1600000 in
theorem pkTok_any (b : Nat) (ts : List Tok) (i : Nat) (w : World) (h : PkX w b ts i) :
    Calls Tryz.prog 68 #[.pointer (some ⟨b, 0, none⟩)] w fun e w' => e = .returned (.agg #[.int .i64 (tkK ts i), .string (txt ts i), .int .i64 (tkP ts i)]) ∧ Below w.heap.size w w' := by
  have hbl := h.lt
  obtain ⟨hi, hl⟩ := h.le
  have hb : Below w.heap.size w (w.alloc (.cells #[.int .i64 0, .string ⟨#[]⟩, .int .i64 0] 44)) := (Below.refl _ w).alloc (Nat.le_refl _) _
  have HP := Lib.hid (h.lift hb)
  have hn : (w.alloc (.cells #[.int .i64 0, .string ⟨#[]⟩, .int .i64 0] 44)).heap[w.heap.size]? = some (.cells #[.int .i64 0, .string ⟨#[]⟩, .int .i64 0] 44 (0, 0)) := heap_alloc_new w _
  have HN := Lib.hid hn
  have HB := Lib.hid hb
  clear h hb hn
  by_cases hlt : i < ts.length
  · obtain ⟨t, ht⟩ : ∃ x, ts[i]? = some x := ⟨_, List.getElem?_eq_getElem hlt⟩
    have HE : Hid ((tkK ts i, txt ts i, tkP ts i) = (t.kind, ⟨t.text.toArray⟩, (t.pos : Int))) := by show _ = _; unfold tkK txt tkP; rw [ht]
    have HT := Lib.hid ht
    clear ht
    have hli : ((i : Int) == (ts.length : Int)) = false := by simp; omega
    have hlj : (i == ts.length) = false := by simp; omega
    have hlk : ((i : Int) < (ts.length : Int)) := by omega
    go_enter Tryz.func68, Tryz.ntmps68
    go_upto_region 1 with fail
    generalize (w.alloc (.cells #[.int .i64 0, .string ⟨#[]⟩, .int .i64 0] 44)) = V at *
    obtain ⟨a, cap, c0, c1, f1, hcap, hT⟩ := HP.out.cells
    go_quiet (fail)
    have hq : Below V.heap.size V (V.drewN nq) := below_drewN (Below.refl _ V) nq
    have HP2 := Lib.hid (HP.out.lift hq)
    have HB2 := Lib.hid (HB.out.trans (hq.mono HB.out.size))
    have HN2 : Hid ((V.drewN nq).heap[w.heap.size]? = some (.cells #[.int .i64 0, .string ⟨#[]⟩, .int .i64 0] 44 (0, 0))) := by show _ = _; rw [hq.block _ (Array.getElem?_eq_some_iff.1 HN.out).1]; exact HN.out
    clear hq HP HB HN c0 c1 f1 hT hcap
    generalize V.drewN nq = V2 at *
    obtain ⟨a, cap, c0, c1, f1, hcap, hT⟩ := HP2.out.cells
    obtain ⟨a', cap', hv, -, hc⟩ := hT
    obtain ⟨g, ha, hg, d0, d1, d2⟩ := hc i t HT.out
    have hva : a = some ⟨g, 0, none⟩ := by simp at hv; rw [hv.1, ha]
    subst hva
    clear hc hv ha
    obtain ⟨⟨n0, n1, n2⟩, m0, m1, m2⟩ := tok_cells HN2.out
    have hne : w.heap.size ≠ g := by omega
    have hne2 : w.heap.size ≠ b := by omega
    obtain ⟨hn3, hg3⟩ := setTok HN2.out (.int .i64 t.kind) (.string ⟨t.text.toArray⟩) (.int .i64 t.pos)
    have HN3 := Lib.hid hn3
    have HG3 := Lib.hid hg3
    clear hn3 hg3
    go_wp2
    go_region
    all_goals
      generalize (((V2.setCell ⟨w.heap.size, 0, none⟩ (.int .i64 t.kind)).setCell ⟨w.heap.size, 1, none⟩ (.string ⟨t.text.toArray⟩)).setCell ⟨w.heap.size, 2, none⟩ (.int .i64 t.pos)) = V3 at *
      clear c0 c1 f1 d0 d1 d2 n0 n1 n2 m0 m1 m2
      obtain ⟨⟨n0, n1, n2⟩, -⟩ := tok_cells HN3.out
      have n0' : V3.drew.cell? ⟨w.heap.size, 0, none⟩ = some (.int .i64 t.kind) := n0
      have n1' : V3.drew.cell? ⟨w.heap.size, 1, none⟩ = some (.string ⟨t.text.toArray⟩) := n1
      have n2' : V3.drew.cell? ⟨w.heap.size, 2, none⟩ = some (.int .i64 t.pos) := n2
      go_wp2
      refine bodyPost_ret (by simp [results, Tryz.results68, go_sem, n0', n1', n2']; try rfl) rfl ?_
      have he := HE.out
      simp only [Prod.mk.injEq] at he
      obtain ⟨e1, e2, e3⟩ := he
      exact ⟨by rw [e1, e2, e3], (Below.grown HB2.out HG3.out HB2.out.size (fun k hk => by have := Option.some.inj hk; omega)).drew⟩
  · have hie : i = ts.length := by omega
    have HE : Hid ((tkK ts i, txt ts i, tkP ts i) = ((0 : Int), (⟨#[]⟩ : ByteArray), (0 : Int))) := by show _ = _; unfold tkK txt tkP; rw [List.getElem?_eq_none (by omega)]
    have hli : ((i : Int) == (ts.length : Int)) = true := by simp; omega
    have hlj : (i == ts.length) = true := by simp; omega
    clear hlt
    go_enter Tryz.func68, Tryz.ntmps68
    go_upto_region 1 with fail
    generalize (w.alloc (.cells #[.int .i64 0, .string ⟨#[]⟩, .int .i64 0] 44)) = V at *
    obtain ⟨a, cap, c0, c1, f1, hcap, hT⟩ := HP.out.cells
    clear hT hie
    go_quiet (fail)
    have hq : Below V.heap.size V (V.drewN nq) := below_drewN (Below.refl _ V) nq
    have HB2 := Lib.hid (HB.out.trans (hq.mono HB.out.size))
    have HN2 : Hid ((V.drewN nq).heap[w.heap.size]? = some (.cells #[.int .i64 0, .string ⟨#[]⟩, .int .i64 0] 44 (0, 0))) := by show _ = _; rw [hq.block _ (Array.getElem?_eq_some_iff.1 HN.out).1]; exact HN.out
    clear hq HP HB HN c0 c1 f1 hcap
    generalize V.drewN nq = V2 at *
    obtain ⟨⟨n0, n1, n2⟩, m0, m1, m2⟩ := tok_cells HN2.out
    obtain ⟨hn3, hg3⟩ := setTok HN2.out (.int .i64 0) (.string ⟨#[]⟩) (.int .i64 0)
    have HN3 := Lib.hid hn3
    have HG3 := Lib.hid hg3
    clear hn3 hg3
    go_wp2
    generalize (((V2.setCell ⟨w.heap.size, 0, none⟩ (.int .i64 0)).setCell ⟨w.heap.size, 1, none⟩ (.string ⟨#[]⟩)).setCell ⟨w.heap.size, 2, none⟩ (.int .i64 0)) = V3 at *
    clear n0 n1 n2 m0 m1 m2
    obtain ⟨⟨n0, n1, n2⟩, -⟩ := tok_cells HN3.out
    refine bodyPost_ret (by simp [results, Tryz.results68, go_sem, n0, n1, n2]; try rfl) rfl ?_
    have he := HE.out
    simp only [Prod.mk.injEq] at he
    obtain ⟨e1, e2, e3⟩ := he
    exact ⟨by rw [e1, e2, e3], Below.grown HB2.out HG3.out HB2.out.size (fun k hk => by have := Option.some.inj hk; omega)⟩
end Go.Proofs.YthphnacfidofbaaGreatDoor

/- The package's reader: the unexpected token; types.Con and types.Arrow. -/
namespace Go.Proofs.YthphnacfidofbaaGreatDoor
open Go.RowKit Go.Maps Mth

set_option maxHeartbeats 1600000 in
theorem end_any (ts : List Tok) (hok : TkOk ts) (S : Nat → Prop) (lv : Value) (w : World) (h : TokAt w S lv ts) :
    Calls Tryz.prog 113 #[lv] w fun e w' => e = .returned (.int .i64 (posAt ts ts.length)) ∧ Below w.heap.size w w' := by
  have HT := Lib.hid h
  have hl := hok.1
  obtain ⟨a, cap, rfl, hcap, hc⟩ := h
  have HC := Lib.hid hc
  clear hc
  cases hlast : ts[ts.length - 1]? with
  | none =>
    have h0 : ts.length = 0 := by rw [List.getElem?_eq_none_iff] at hlast; omega
    have HE : Hid (posAt ts ts.length = 0) := by show _ = _; unfold posAt; rw [List.getElem?_eq_none (by omega), hlast]
    have h00 : ((ts.length : Int) == 0) = true := by rw [h0]; rfl
    have h01 : (ts.length == 0) = true := by rw [h0]; rfl
    clear hlast h0
    go_enter Tryz.func113, Tryz.ntmps113
    go_wp2
    go_ret
    exact ⟨ret_int HE.out.symm, Below.refl _ w⟩
  | some t =>
    have h0 : 0 < ts.length := by have := (List.getElem?_eq_some_iff.1 hlast).1; omega
    have HE : Hid (posAt ts ts.length = (t.pos : Int) + t.text.length) := by show _ = _; unfold posAt; rw [List.getElem?_eq_none (Nat.le_refl _), hlast]
    obtain ⟨g, rfl, -⟩ := HC.out _ t hlast
    obtain ⟨tl, tp⟩ := hok.2 t (List.mem_of_getElem? hlast)
    have HSz : Hid ((⟨t.text.toArray⟩ : ByteArray).size = t.text.length) := by show _ = _; rw [← bl_len, bl_mk]
    obtain ⟨m, hm⟩ : ∃ m, ts.length = m + 1 := ⟨ts.length - 1, by omega⟩
    have HTm : Hid (ts[m]? = some t) := by show _ = _; rw [← hlast, hm]; rfl
    obtain ⟨g', hg', -, d0, d1, d2⟩ := HC.out m t HTm.out
    obtain rfl : g' = g := by simp at hg'; exact hg'.symm
    have hm1 : m < ts.length := by omega
    have hm2 : (m : Int) < (ts.length : Int) := by omega
    have hm0 : (0 : Int) ≤ (m : Int) := by omega
    have hWr : IntKind.i64.wrap ((ts.length : Int) - 1) = (m : Int) := by rw [IntKind.wrap_i64]; omega
    have h00 : ((ts.length : Int) == 0) = false := by rw [beq_eq_false_iff_ne]; omega
    have h01 : (ts.length == 0) = false := by rw [beq_eq_false_iff_ne]; omega
    have htp : 0 ≤ (t.pos : Int) ∧ (t.pos : Int) ≤ 1000000000 := by omega
    clear hlast hg' hm
    generalize (⟨t.text.toArray⟩ : ByteArray) = tx at *
    have htx : tx.size ≤ 4000 := by rw [HSz.out]; exact tl
    have hw2 : IntKind.i64.wrap ((t.pos : Int) + (tx.size : Int)) = (t.pos : Int) + (tx.size : Int) := by rw [IntKind.wrap_i64]; omega
    have hal : Below w.heap.size w (w.alloc (.cells #[.int .i64 t.kind, .string tx, .int .i64 t.pos] 44)) := (Below.refl _ w).alloc (Nat.le_refl _) _
    have HAl := Lib.hid hal
    clear hal
    go_enter Tryz.func113, Tryz.ntmps113
    go_wp2
    go_ret
    exact ⟨ret_int (by rw [HE.out, HSz.out]), HAl.out⟩
set_option maxHeartbeats 1600000 in
theorem unexpected_any (b : Nat) (ts : List Tok) (i : Nat) (w : World) (h : PkX w b ts i) :
    Calls Tryz.prog 71 #[.pointer (some ⟨b, 0, none⟩)] w fun e w' => e = .returned (.iface 150 (.agg #[.int .i64 (posAt ts i)])) ∧ Below w.heap.size w w' := by
  have HP := Lib.hid h
  obtain ⟨hi, hl⟩ := h.le
  clear h
  obtain ⟨a, cap, c0, c1, f1, hcap, hT⟩ := HP.out.cells
  by_cases hlt : i < ts.length
  · obtain ⟨t, ht⟩ : ∃ x, ts[i]? = some x := ⟨_, List.getElem?_eq_getElem hlt⟩
    have HE : Hid (posAt ts i = t.pos) := by show _ = _; unfold posAt; rw [ht]
    obtain ⟨a', cap', hv, -, hc⟩ := hT
    obtain ⟨g, ha, hg, d0, d1, d2⟩ := hc i t ht
    have hva : a = some ⟨g, 0, none⟩ := by simp at hv; rw [hv.1, ha]
    subst hva
    clear hc hv ha ht
    have hlk : ((i : Int) < (ts.length : Int)) := by omega
    go_enter Tryz.func71, Tryz.ntmps71
    go_wp2
    go_quiet (fail)
    go_wp2
    go_quiet (fail)
    go_wp2
    go_ret
    exact ⟨by rw [HE.out]; rfl, below_drewN (below_drewN (Below.refl _ w) _) _⟩
  · obtain rfl : i = ts.length := by omega
    have HEn : Hid (∀ V, Below w.heap.size w V → Calls Tryz.prog 113 #[.slice a ts.length cap] V fun e w' => e = .returned (.int .i64 (posAt ts ts.length)) ∧ Below V.heap.size V w') := fun V hb => end_any ts HP.out.ok _ _ V (hT.lift hb)
    have HCl : Hid (∀ V, Below w.heap.size w V → V.cell? ⟨b, 0, none⟩ = some (.slice a ts.length cap)) := fun V hb => by
      obtain ⟨a2, cap2, x0, -⟩ := (HP.out.lift hb).cells
      have := hb.cell (p := ⟨b, 0, none⟩) HP.out.lt
      rw [this]; exact c0
    clear hT hlt
    have hlk : decide ((ts.length : Int) < (ts.length : Int)) = false := by simp
    go_enter Tryz.func71, Tryz.ntmps71
    go_wp2
    go_quiet (fail)
    have hq : Below w.heap.size w (w.drewN nq) := below_drewN (Below.refl _ w) nq
    have HQ := Lib.hid hq
    have hc0 := HCl.out _ hq
    clear hq c0 c1 f1
    generalize w.drewN nq = V at *
    go_wp2_with fail
    go_at_call 113
    refine (HEn.out V HQ.out).mono ?_
    rintro e w1 ⟨rfl, hb1⟩
    go_wp2
    go_ret
    exact ⟨rfl, HQ.out.trans (hb1.mono HQ.out.size)⟩

/-- An empty row that was just laid. -/
theorem rowT_empty {w : World} {n : Nat} {Z : TypeId} (hZ : Z = 30) (hn : n = w.heap.size) (base : Nat) (hb : base ≤ n) (S : Nat → Prop) : RowT (w.alloc (.cells #[] Z)) base S (.slice (some ⟨n, 0, none⟩) 0 0) [] := by
  subst hn hZ
  exact ⟨[], ⟨rfl, .inr ⟨w.heap.size, 0, #[], rfl, hb, heap_alloc_new w _, Nat.le_refl _, Nat.zero_le _, rfl, rfl⟩⟩, rfl, fun j T h => by simp at h⟩
set_option maxRecDepth 100000 in
set_option maxHeartbeats 1600000 in
theorem clone_any (ts : List Ty) (hl : ts.length ≤ 1000000) (v : Value) (S : Nat → Prop) (w : World) (hS : ∀ b, w.heap.size ≤ b → S b) (h : RepL w S ts v) :
    Calls Tryz.prog 114 #[v] w fun e w' => ∃ a c, e = .returned (.slice a ts.length c) ∧ RepL w' S ts (.slice a ts.length c) ∧ Below w.heap.size w w' := by
  have HR := Lib.hid h
  obtain ⟨a, cap, rfl, hcap, hj⟩ := h
  clear hj
  cases a with
  | none =>
    obtain ⟨rfl, h0⟩ := repL_none HR.out
    clear h0
    have hq : ∀ w, (binOp .eql 28 (.slice none 0 cap) (.slice none 0 0)).run Tryz.prog w = .ok (.bool true) w := fun w => Lib.run_eql_slice_nil w 28 30 none 0 cap 0 0 Tryz.underlying28
    go_enter Tryz.func114, Tryz.ntmps114
    go_wp2
    go_ret
    exact ⟨none, 0, rfl, repL_nil _ _, Below.refl _ w⟩
  | some ad =>
    obtain ⟨m, hm⟩ : ∃ m, m = ts.length := ⟨_, rfl⟩
    rw [← hm] at hl hcap ⊢
    have HM := Lib.hid hm
    clear hm
    have hb0 : Below w.heap.size w (w.alloc (.cells #[] 30)) := (Below.refl _ w).alloc (Nat.le_refl _) _
    have hnews : ∀ j T, ts[j]? = some T → ∃ y, Five (w.alloc (.cells #[] 30)) ad j y ∧ Rep (w.alloc (.cells #[] 30)) (fun b => (b < w.heap.size ∧ S b) ∧ some b ≠ (Value.slice (some ⟨w.heap.size, 0, none⟩) 0 0).ownBlock) T y := by
      intro j T hj
      obtain ⟨a', c', hv', _, hr'⟩ := HR.out
      simp at hv'
      obtain ⟨rfl, rfl⟩ := hv'
      obtain ⟨ad', y, e, _, h5, hrep⟩ := hr' j T hj
      cases e
      exact ⟨y, h5.kept (hb0.block _ h5.lt), (hrep.bound.lift hb0).imp fun b hb => ⟨⟨hb.2, hb.1⟩, by simp [Value.ownBlock]; have := hb.2; omega⟩⟩
    have HN := Lib.hid hnews
    have HB0 := Lib.hid hb0
    have HRw : Hid (RowT (w.alloc (.cells #[] 30)) w.heap.size (fun b => b < w.heap.size ∧ S b) (.slice (some ⟨w.heap.size, 0, none⟩) 0 0) []) := rowT_empty rfl rfl _ (Nat.le_refl _) _
    have hsz : w.heap.size ≤ (w.alloc (.cells #[] 30)).heap.size := hb0.size
    clear hnews hb0
    have hq : ∀ w, (binOp .eql 28 (.slice (some ad) m cap) (.slice none 0 0)).run Tryz.prog w = .ok (.bool false) w := fun w => Lib.run_eql_slice_nil w 28 30 (some ad) m cap 0 0 Tryz.underlying28
    go_enter Tryz.func114, Tryz.ntmps114
    go_wp2_with (at_builtin; refine wpList_pushT rfl _ _ rfl w.heap.size (fun b => b < w.heap.size ∧ S b) (.slice (some ⟨w.heap.size, 0, none⟩) 0 0) [] rfl HRw.out _ _ _ rfl ts HM.out.symm HN.out m (by simp) hl hsz ?_; intro a1 c1 w1 hrow hg hloc)
    go_ret
    exact ⟨a1, c1, rfl, hrow.repL (fun b hb => hb.2) (fun b hb => hS b hb), Below.grown HB0.out hg HB0.out.size (fun k hk => by simp [Value.ownBlock] at hk; omega)⟩
end Go.Proofs.YthphnacfidofbaaGreatDoor

/- types.Con and types.Arrow. -/
namespace Go.Proofs.YthphnacfidofbaaGreatDoor
open Go.RowKit Go.Maps Mth

set_option maxHeartbeats 1600000 in
theorem con_any (n : ByteArray) (ts : List Ty) (hl : ts.length ≤ 1000000) (a : Option Addr) (cap : Nat) (S : Nat → Prop) (w : World) (hS : ∀ b, w.heap.size ≤ b → S b) (h : RepL w S ts (.slice a ts.length cap)) :
    Calls Tryz.prog 72 #[.string n, .slice a ts.length cap] w fun e w' => ∃ a c, e = .returned (.agg #[.int .i64 4, .string n, .int .i64 0, .int .i64 0, .slice a ts.length c]) ∧ RepL w' S ts (.slice a ts.length c) ∧ Below w.heap.size w w' := by
  have hb0 : Below w.heap.size w (w.alloc (.cells #[.int .i64 0, .string ⟨#[]⟩, .int .i64 0, .int .i64 0, .slice none 0 0] 30)) := (Below.refl _ w).alloc (Nat.le_refl _) _
  have HZ : Hid (Zero (w.alloc (.cells #[.int .i64 0, .string ⟨#[]⟩, .int .i64 0, .int .i64 0, .slice none 0 0] 30)) w.heap.size) := Box.made _ _ _ _ _ _
  have hsz : (w.alloc (.cells #[.int .i64 0, .string ⟨#[]⟩, .int .i64 0, .int .i64 0, .slice none 0 0] 30)).heap.size = w.heap.size + 1 := by simp
  have HC : Hid (Calls Tryz.prog 114 #[.slice a ts.length cap] (w.alloc (.cells #[.int .i64 0, .string ⟨#[]⟩, .int .i64 0, .int .i64 0, .slice none 0 0] 30)) fun e w' => ∃ a c, e = .returned (.slice a ts.length c) ∧ RepL w' (fun b => S b ∧ b ≠ w.heap.size) ts (.slice a ts.length c) ∧ Below (w.alloc (.cells #[.int .i64 0, .string ⟨#[]⟩, .int .i64 0, .int .i64 0, .slice none 0 0] 30)).heap.size (w.alloc (.cells #[.int .i64 0, .string ⟨#[]⟩, .int .i64 0, .int .i64 0, .slice none 0 0] 30)) w') :=
    clone_any ts hl _ (fun b => S b ∧ b ≠ w.heap.size) _ (fun b hb => by rw [hsz] at hb; exact ⟨hS b (by omega), by omega⟩) (by
      obtain ⟨a', cap', hv, hcap, hj⟩ := h
      refine ⟨a', cap', hv, hcap, fun j T hT => ?_⟩
      obtain ⟨ad, x, h1, h2, h3, h4⟩ := hj j T hT
      exact ⟨ad, x, h1, ⟨h2, by have := h3.lt; omega⟩, h3.kept (hb0.block _ h3.lt), (h4.bound.lift hb0).imp fun b hb => ⟨hb.1, by have := hb.2; omega⟩⟩)
  have HB0 := Lib.hid hb0
  clear h hb0 hsz
  generalize ts.length = m at *
  go_enter Tryz.func72, Tryz.ntmps72
  go_upto_region 1 with fail
  generalize (w.alloc (.cells #[.int .i64 0, .string ⟨#[]⟩, .int .i64 0, .int .i64 0, .slice none 0 0] 30)) = V at *
  go_wp2_with fail
  go_at_call 114
  refine HC.out.mono ?_
  rintro e w1 ⟨a1, c1, rfl, hrep, hb1⟩
  have HZ1 := Lib.hid (Box.lift HZ.out hb1)
  have HR1 := Lib.hid hrep
  have HB1 := Lib.hid (HB0.out.trans (hb1.mono HB0.out.size))
  clear hrep hb1 HZ HC
  go_wp2_with (refine wpList_store5 rfl _ _ rfl _ _ _ _ _ _ HZ1.out rfl _ _ _ _ _ _ _ rfl ?_; intro w2 hB2 hg2 hs2)
  obtain ⟨c0, c1', c2, c3, c4⟩ := hB2.cells
  refine bodyPost_ret (by simp [results, Tryz.results72, go_sem, c0, c1', c2, c3, c4]; try rfl) rfl ?_
  exact ⟨a1, c1, rfl, HR1.out.kept (fun b hb => hb.1) (fun b hb hlt => hg2.block b hlt (by intro e; have := Option.some.inj e; exact hb.2 this)), Below.grown HB1.out hg2 HB1.out.size (fun k hk => by have := Option.some.inj hk; omega)⟩
set_option maxHeartbeats 1600000 in
theorem arrow_any (T U : Ty) (v u : Value) (S : Nat → Prop) (w : World) (hS : ∀ b, w.heap.size ≤ b → S b) (h : Rep w S T v) (h' : Rep w S U u) :
    Calls Tryz.prog 69 #[v, u] w fun e w' => ∃ a c, e = .returned (.agg #[.int .i64 4, .string arrN, .int .i64 0, .int .i64 0, .slice a 2 c]) ∧ RepL w' S [T, U] (.slice a 2 c) ∧ Below w.heap.size w w' := by
  obtain ⟨k, n, i, hm, s, eT, rfl, hn, hs⟩ := h.open
  obtain ⟨k', n', i', hm', s', eU, rfl, hn', hs'⟩ := h'.open
  obtain ⟨sa, sc, rfl, -⟩ := hs
  obtain ⟨sa', sc', rfl, -⟩ := hs'
  have HR := Lib.hid h
  have HR' := Lib.hid h'
  clear h h' eT eU hn hn'
  generalize T.ts.length = sn at *
  generalize U.ts.length = sn' at *
  go_enter Tryz.func69, Tryz.ntmps69
  go_wp2_with fail
  go_at_call 72
  have hb3 : ∀ A B C, Below w.heap.size w (((w.alloc (.cells A 30)).alloc (.cells B 30)).alloc (.cells C 30)) := fun A B C => (((Below.refl _ w).alloc (Nat.le_refl _) _).alloc (by simp) _).alloc (by simp; omega) _
  refine (con_any arrN [T, U] (by simp) (some ⟨w.heap.size + 1 + 1 + 1, 0, none⟩) 2 (fun b => S b ∧ b ≠ w.heap.size + 1 + 1) _ (fun b hb => ⟨hS b (by simp at hb; omega), by simp at hb; omega⟩)
    (two_new (hb3 _ _ _) (HR.out.bound.imp fun b hb => ⟨hb.1, by omega⟩) (HR'.out.bound.imp fun b hb => ⟨hb.1, by omega⟩) _ _ (by simp) ⟨hS _ (by omega), by omega⟩)).mono ?_
  rintro e w1 ⟨a, c, rfl, hrep, hb1⟩
  have hbw := (((hb3 _ _ _).alloc (hb3 _ _ _).size _)).trans (hb1.mono (by simp; omega))
  have HB : Hid (Zero w1 (w.heap.size + 1 + 1)) := Box.lift (by unfold Box; rw [heap_at, if_neg (by simp), heap_at, if_pos (by simp)]) hb1
  have hsz := hb1.size
  clear hb1
  go_wp2_with (refine wpList_store5 rfl _ _ rfl _ _ _ _ _ _ HB.out rfl _ _ _ _ _ _ _ rfl ?_; intro w2 hB2 hg2 hs2)
  obtain ⟨c0, c1, c2, c3, c4⟩ := hB2.cells
  refine bodyPost_ret (by simp [results, Tryz.results69, go_sem, c0, c1, c2, c3, c4]; try rfl) rfl ?_
  exact ⟨a, c, rfl, hrep.kept (fun b hb => hb.1) (fun b hb hlt => hg2.block b hlt (by intro e; cases e; exact hb.2 rfl)), Below.grown hbw hg2 hbw.size (fun j hj => by cases hj; omega)⟩
end Go.Proofs.YthphnacfidofbaaGreatDoor
