import Derived.Test.YtgcefodgjhlbeaaGreatDoorCA3
import Derived.Deep.LoopGhost
/- The package's reader: its memory, and what each small method does. -/
namespace Go.Proofs.YtgcefodgjhlbeaaGreatDoor
open Go.RowKit Go.Maps Mth

/-- The kind and the offset of the token at an index; zero at the end. -/
def tkK (ts : List Tok) (i : Nat) : Int := match ts[i]? with | some t => t.kind | none => 0
def tkP (ts : List Tok) (i : Nat) : Int := match ts[i]? with | some t => t.pos | none => 0
/-- Is the next token a mark with this text? -/
def rMark (ts : List Tok) (i : Nat) (s : ByteArray) : Bool := tkK ts i == 5 && (txt ts i).toList == s.toList
def rStart (ts : List Tok) (i : Nat) : Bool := tkK ts i == 1 || tkK ts i == 2 || rMark ts i ⟨#[40]⟩
/-- The package's reader in its block, at a place. -/
def PkX (w : World) (b : Nat) (ts : List Tok) (i : Nat) : Prop := ∃ lv, w.heap[b]? = some (.cells #[lv, .int .i64 i] 167 (0, 0)) ∧ TokAt w (fun g => g < b) lv ts ∧ i ≤ ts.length ∧ TkOk ts
theorem PkX.lift {w w' : World} {b : Nat} {ts : List Tok} {i : Nat} (h : PkX w b ts i) (hb : Below w.heap.size w w') : PkX w' b ts i := by
  obtain ⟨lv, h1, h2, h3⟩ := h
  refine ⟨lv, ?_, h2.lift hb, h3⟩
  rw [hb.block _ (Array.getElem?_eq_some_iff.1 h1).1, h1]
theorem PkX.other {w w' : World} {b R : Nat} {ts : List Tok} {i : Nat} (h : PkX w b ts i) (hR : b < R) (hg : w.grownBy w' (some R)) : PkX w' b ts i := by
  obtain ⟨lv, h1, h2, h3⟩ := h
  refine ⟨lv, ?_, h2.grown (fun g hg => by omega) hg, h3⟩
  rw [hg.block b (Array.getElem?_eq_some_iff.1 h1).1 (by intro e; have := Option.some.inj e; omega), h1]
theorem PkX.lt {w : World} {b : Nat} {ts : List Tok} {i : Nat} (h : PkX w b ts i) : b < w.heap.size := by
  obtain ⟨lv, h1, _⟩ := h
  exact (Array.getElem?_eq_some_iff.1 h1).1
theorem PkX.le {w : World} {b : Nat} {ts : List Tok} {i : Nat} (h : PkX w b ts i) : i ≤ ts.length ∧ ts.length ≤ 100000 := by
  obtain ⟨lv, _, _, h3, h4⟩ := h
  exact ⟨h3, h4.1⟩
theorem PkX.ok {w : World} {b : Nat} {ts : List Tok} {i : Nat} (h : PkX w b ts i) : TkOk ts := by
  obtain ⟨lv, _, _, _, h4⟩ := h
  exact h4
theorem PkX.cells {w : World} {b : Nat} {ts : List Tok} {i : Nat} (h : PkX w b ts i) : ∃ a cap, w.cell? ⟨b, 0, none⟩ = some (.slice a ts.length cap) ∧ w.cell? ⟨b, 1, none⟩ = some (.int .i64 i) ∧ w.frozen? ⟨b, 1, none⟩ = false ∧ (ts.length ≤ cap ∧ cap ≤ maxLen) ∧ TokAt w (fun g => g < b) (.slice a ts.length cap) ts := by
  obtain ⟨lv, h1, h2, h3⟩ := h
  obtain ⟨a, cap, rfl, hcap, hc⟩ := h2
  exact ⟨a, cap, by simp [World.cell?, h1], by simp [World.cell?, h1], by simp [World.frozen?, h1], hcap, a, cap, rfl, hcap, hc⟩
theorem PkX.step {w : World} {b : Nat} {ts : List Tok} {i : Nat} (h : PkX w b ts i) (hi : i < ts.length) :
    PkX (w.setCell ⟨b, 1, none⟩ (.int .i64 ((i : Int) + 1))) b ts (i + 1) ∧ w.grownBy (w.setCell ⟨b, 1, none⟩ (.int .i64 ((i : Int) + 1))) (some b) := by
  obtain ⟨lv, hr, ht, _, hl⟩ := h
  have hset := set1 hr 1 (.int .i64 ((i : Int) + 1))
  refine ⟨⟨lv, ?_, ht.grown (fun g hg => by omega) hset.2.1, hi, hl⟩, hset.2.1⟩
  rw [hset.1]
  simp

theorem isMark_any (k : Int) (x : ByteArray) (p : Int) (s : ByteArray) (w : World) :
    Calls Tryz.prog 121 #[.agg #[.int .i64 k, .string x, .int .i64 p], .string s] w fun e w' => e = .returned (.bool (k == 5 && x.toList == s.toList)) ∧ Below w.heap.size w w' := by
  have hb : Below w.heap.size w (w.alloc (.cells #[.int .i64 k, .string x, .int .i64 p] 76)) := (Below.refl _ w).alloc (Nat.le_refl _) _
  have HB := Lib.hid hb
  clear hb
  cases h5 : (k == 5) <;> cases hs : (x.toList == s.toList)
  all_goals
    go_enter Tryz.func121, Tryz.ntmps121
    go_wp2
    go_ret
    exact ⟨rfl, HB.out⟩
theorem starts_any (k : Int) (x : ByteArray) (p : Int) (w : World) :
    Calls Tryz.prog 132 #[.agg #[.int .i64 k, .string x, .int .i64 p]] w fun e w' => e = .returned (.bool (k == 1 || k == 2 || (k == 5 && x.toList == (⟨#[40]⟩ : ByteArray).toList))) ∧ Below w.heap.size w w' := by
  have hb : Below w.heap.size w (w.alloc (.cells #[.int .i64 k, .string x, .int .i64 p] 76)) := (Below.refl _ w).alloc (Nat.le_refl _) _
  have HB := Lib.hid hb
  have HM := Lib.hid (fun w => isMark_any k x p ⟨#[40]⟩ w)
  clear hb
  generalize (k == 5 && x.toList == (⟨#[40]⟩ : ByteArray).toList) = m at *
  cases h1 : (k == 1)
  · cases h2 : (k == 2)
    · go_enter Tryz.func132, Tryz.ntmps132
      go_wp2_with (go_at_call 121; refine (HM.out _).mono ?_; rintro e w1 ⟨rfl, hb1⟩)
      go_ret
      exact ⟨rfl, HB.out.trans (hb1.mono HB.out.size)⟩
    · go_enter Tryz.func132, Tryz.ntmps132
      go_wp2
      go_ret
      exact ⟨rfl, HB.out⟩
  · go_enter Tryz.func132, Tryz.ntmps132
    go_wp2
    go_ret
    exact ⟨rfl, HB.out⟩
/-- A token's result. -/
theorem setTok {w : World} {n : Nat} {c0 c1 c2 : Value} (h : w.heap[n]? = some (.cells #[c0, c1, c2] 76 (0, 0))) (v0 v1 v2 : Value) :
    (((w.setCell ⟨n, 0, none⟩ v0).setCell ⟨n, 1, none⟩ v1).setCell ⟨n, 2, none⟩ v2).heap[n]? = some (.cells #[v0, v1, v2] 76 (0, 0)) ∧ w.grownBy (((w.setCell ⟨n, 0, none⟩ v0).setCell ⟨n, 1, none⟩ v1).setCell ⟨n, 2, none⟩ v2) (some n) := by
  obtain ⟨a0, g0, _⟩ := set1 h 0 v0
  obtain ⟨a1, g1, _⟩ := set1 a0 1 v1
  obtain ⟨a2, g2, _⟩ := set1 a1 2 v2
  refine ⟨?_, grown_trans (grown_trans g0 g1) g2⟩
  rw [a2]
  simp
theorem tok_cells {w : World} {n : Nat} {c0 c1 c2 : Value} (h : w.heap[n]? = some (.cells #[c0, c1, c2] 76 (0, 0))) : (w.cell? ⟨n, 0, none⟩ = some c0 ∧ w.cell? ⟨n, 1, none⟩ = some c1 ∧ w.cell? ⟨n, 2, none⟩ = some c2) ∧ w.frozen? ⟨n, 0, none⟩ = false ∧ w.frozen? ⟨n, 1, none⟩ = false ∧ w.frozen? ⟨n, 2, none⟩ = false := by
  simp [World.cell?, World.frozen?, h]
set_option maxHeartbeats 1600000 in
theorem pkTok_any (b : Nat) (ts : List Tok) (i : Nat) (w : World) (h : PkX w b ts i) :
    Calls Tryz.prog 122 #[.pointer (some ⟨b, 0, none⟩)] w fun e w' => e = .returned (.agg #[.int .i64 (tkK ts i), .string (txt ts i), .int .i64 (tkP ts i)]) ∧ Below w.heap.size w w' := by
  have hbl := h.lt
  obtain ⟨hi, hl⟩ := h.le
  have hb : Below w.heap.size w (w.alloc (.cells #[.int .i64 0, .string ⟨#[]⟩, .int .i64 0] 76)) := (Below.refl _ w).alloc (Nat.le_refl _) _
  have HP := Lib.hid (h.lift hb)
  have hn : (w.alloc (.cells #[.int .i64 0, .string ⟨#[]⟩, .int .i64 0] 76)).heap[w.heap.size]? = some (.cells #[.int .i64 0, .string ⟨#[]⟩, .int .i64 0] 76 (0, 0)) := heap_alloc_new w _
  have HN := Lib.hid hn
  have HB := Lib.hid hb
  clear h hb hn
  by_cases hlt : i < ts.length
  · obtain ⟨t, ht⟩ : ∃ x, ts[i]? = some x := ⟨_, List.getElem?_eq_getElem hlt⟩
    have HE : Hid ((tkK ts i, txt ts i, tkP ts i) = (t.kind, ⟨t.text.toArray⟩, (t.pos : Int))) := by show _ = _; unfold tkK txt tkP; rw [ht]
    have HT := Lib.hid ht
    clear ht
    have hli : ((i : Int) == (ts.length : Int)) = false := by simp; omega
    have hlj : (i == ts.length) = false := by simp; omega
    have hlk : ((i : Int) < (ts.length : Int)) := by omega
    go_enter Tryz.func122, Tryz.ntmps122
    go_upto_region 1 with fail
    generalize (w.alloc (.cells #[.int .i64 0, .string ⟨#[]⟩, .int .i64 0] 76)) = V at *
    obtain ⟨a, cap, c0, c1, f1, hcap, hT⟩ := HP.out.cells
    go_quiet (fail)
    have hq : Below V.heap.size V (V.drewN nq) := below_drewN (Below.refl _ V) nq
    have HP2 := Lib.hid (HP.out.lift hq)
    have HB2 := Lib.hid (HB.out.trans (hq.mono HB.out.size))
    have HN2 : Hid ((V.drewN nq).heap[w.heap.size]? = some (.cells #[.int .i64 0, .string ⟨#[]⟩, .int .i64 0] 76 (0, 0))) := by show _ = _; rw [hq.block _ (Array.getElem?_eq_some_iff.1 HN.out).1]; exact HN.out
    clear hq HP HB HN c0 c1 f1 hT hcap
    generalize V.drewN nq = V2 at *
    obtain ⟨a, cap, c0, c1, f1, hcap, hT⟩ := HP2.out.cells
    obtain ⟨a', cap', hv, -, hc⟩ := hT
    obtain ⟨g, ha, hg, d0, d1, d2⟩ := hc i t HT.out
    have hva : a = some ⟨g, 0, none⟩ := by simp at hv; rw [hv.1, ha]
    subst hva
    clear hc hv ha
    obtain ⟨⟨n0, n1, n2⟩, m0, m1, m2⟩ := tok_cells HN2.out
    have hne : w.heap.size ≠ g := by omega
    have hne2 : w.heap.size ≠ b := by omega
    obtain ⟨hn3, hg3⟩ := setTok HN2.out (.int .i64 t.kind) (.string ⟨t.text.toArray⟩) (.int .i64 t.pos)
    have HN3 := Lib.hid hn3
    have HG3 := Lib.hid hg3
    clear hn3 hg3
    go_wp2
    go_region
    all_goals
      generalize (((V2.setCell ⟨w.heap.size, 0, none⟩ (.int .i64 t.kind)).setCell ⟨w.heap.size, 1, none⟩ (.string ⟨t.text.toArray⟩)).setCell ⟨w.heap.size, 2, none⟩ (.int .i64 t.pos)) = V3 at *
      clear c0 c1 f1 d0 d1 d2 n0 n1 n2 m0 m1 m2
      obtain ⟨⟨n0, n1, n2⟩, -⟩ := tok_cells HN3.out
      have n0' : V3.drew.cell? ⟨w.heap.size, 0, none⟩ = some (.int .i64 t.kind) := n0
      have n1' : V3.drew.cell? ⟨w.heap.size, 1, none⟩ = some (.string ⟨t.text.toArray⟩) := n1
      have n2' : V3.drew.cell? ⟨w.heap.size, 2, none⟩ = some (.int .i64 t.pos) := n2
      go_wp2
      refine bodyPost_ret (by simp [results, Tryz.results122, go_sem, n0', n1', n2']; try rfl) rfl ?_
      have he := HE.out
      simp only [Prod.mk.injEq] at he
      obtain ⟨e1, e2, e3⟩ := he
      exact ⟨by rw [e1, e2, e3], (Below.grown HB2.out HG3.out HB2.out.size (fun k hk => by have := Option.some.inj hk; omega)).drew⟩
  · have hie : i = ts.length := by omega
    have HE : Hid ((tkK ts i, txt ts i, tkP ts i) = ((0 : Int), (⟨#[]⟩ : ByteArray), (0 : Int))) := by show _ = _; unfold tkK txt tkP; rw [List.getElem?_eq_none (by omega)]
    have hli : ((i : Int) == (ts.length : Int)) = true := by simp; omega
    have hlj : (i == ts.length) = true := by simp; omega
    clear hlt
    go_enter Tryz.func122, Tryz.ntmps122
    go_upto_region 1 with fail
    generalize (w.alloc (.cells #[.int .i64 0, .string ⟨#[]⟩, .int .i64 0] 76)) = V at *
    obtain ⟨a, cap, c0, c1, f1, hcap, hT⟩ := HP.out.cells
    clear hT hie
    go_quiet (fail)
    have hq : Below V.heap.size V (V.drewN nq) := below_drewN (Below.refl _ V) nq
    have HB2 := Lib.hid (HB.out.trans (hq.mono HB.out.size))
    have HN2 : Hid ((V.drewN nq).heap[w.heap.size]? = some (.cells #[.int .i64 0, .string ⟨#[]⟩, .int .i64 0] 76 (0, 0))) := by show _ = _; rw [hq.block _ (Array.getElem?_eq_some_iff.1 HN.out).1]; exact HN.out
    clear hq HP HB HN c0 c1 f1 hcap
    generalize V.drewN nq = V2 at *
    obtain ⟨⟨n0, n1, n2⟩, m0, m1, m2⟩ := tok_cells HN2.out
    obtain ⟨hn3, hg3⟩ := setTok HN2.out (.int .i64 0) (.string ⟨#[]⟩) (.int .i64 0)
    have HN3 := Lib.hid hn3
    have HG3 := Lib.hid hg3
    clear hn3 hg3
    go_wp2
    generalize (((V2.setCell ⟨w.heap.size, 0, none⟩ (.int .i64 0)).setCell ⟨w.heap.size, 1, none⟩ (.string ⟨#[]⟩)).setCell ⟨w.heap.size, 2, none⟩ (.int .i64 0)) = V3 at *
    clear n0 n1 n2 m0 m1 m2
    obtain ⟨⟨n0, n1, n2⟩, -⟩ := tok_cells HN3.out
    refine bodyPost_ret (by simp [results, Tryz.results122, go_sem, n0, n1, n2]; try rfl) rfl ?_
    have he := HE.out
    simp only [Prod.mk.injEq] at he
    obtain ⟨e1, e2, e3⟩ := he
    exact ⟨by rw [e1, e2, e3], Below.grown HB2.out HG3.out HB2.out.size (fun k hk => by have := Option.some.inj hk; omega)⟩
end Go.Proofs.YtgcefodgjhlbeaaGreatDoor

/- The package's reader: the unexpected token; types.Con and types.Arrow. -/
namespace Go.Proofs.YtgcefodgjhlbeaaGreatDoor
open Go.RowKit Go.Maps Mth

set_option maxHeartbeats 1600000 in
theorem end_any (ts : List Tok) (hok : TkOk ts) (S : Nat → Prop) (lv : Value) (w : World) (h : TokAt w S lv ts) :
    Calls Tryz.prog 144 #[lv] w fun e w' => e = .returned (.int .i64 (posAt ts ts.length)) ∧ Below w.heap.size w w' := by
  have HT := Lib.hid h
  have hl := hok.1
  obtain ⟨a, cap, rfl, hcap, hc⟩ := h
  have HC := Lib.hid hc
  clear hc
  cases hlast : ts[ts.length - 1]? with
  | none =>
    have h0 : ts.length = 0 := by rw [List.getElem?_eq_none_iff] at hlast; omega
    have HE : Hid (posAt ts ts.length = 0) := by show _ = _; unfold posAt; rw [List.getElem?_eq_none (by omega), hlast]
    have h00 : ((ts.length : Int) == 0) = true := by rw [h0]; rfl
    have h01 : (ts.length == 0) = true := by rw [h0]; rfl
    clear hlast h0
    go_enter Tryz.func144, Tryz.ntmps144
    go_wp2
    go_ret
    exact ⟨ret_int HE.out.symm, Below.refl _ w⟩
  | some t =>
    have h0 : 0 < ts.length := by have := (List.getElem?_eq_some_iff.1 hlast).1; omega
    have HE : Hid (posAt ts ts.length = (t.pos : Int) + t.text.length) := by show _ = _; unfold posAt; rw [List.getElem?_eq_none (Nat.le_refl _), hlast]
    obtain ⟨g, rfl, -⟩ := HC.out _ t hlast
    obtain ⟨tl, tp⟩ := hok.2 t (List.mem_of_getElem? hlast)
    have HSz : Hid ((⟨t.text.toArray⟩ : ByteArray).size = t.text.length) := by show _ = _; rw [← bl_len, bl_mk]
    obtain ⟨m, hm⟩ : ∃ m, ts.length = m + 1 := ⟨ts.length - 1, by omega⟩
    have HTm : Hid (ts[m]? = some t) := by show _ = _; rw [← hlast, hm]; rfl
    obtain ⟨g', hg', -, d0, d1, d2⟩ := HC.out m t HTm.out
    obtain rfl : g' = g := by simp at hg'; exact hg'.symm
    have hm1 : m < ts.length := by omega
    have hm2 : (m : Int) < (ts.length : Int) := by omega
    have hm0 : (0 : Int) ≤ (m : Int) := by omega
    have hWr : IntKind.i64.wrap ((ts.length : Int) - 1) = (m : Int) := by rw [IntKind.wrap_i64]; omega
    have h00 : ((ts.length : Int) == 0) = false := by rw [beq_eq_false_iff_ne]; omega
    have h01 : (ts.length == 0) = false := by rw [beq_eq_false_iff_ne]; omega
    have htp : 0 ≤ (t.pos : Int) ∧ (t.pos : Int) ≤ 1000000000 := by omega
    clear hlast hg' hm
    generalize (⟨t.text.toArray⟩ : ByteArray) = tx at *
    have htx : tx.size ≤ 4000 := by rw [HSz.out]; exact tl
    have hw2 : IntKind.i64.wrap ((t.pos : Int) + (tx.size : Int)) = (t.pos : Int) + (tx.size : Int) := by rw [IntKind.wrap_i64]; omega
    have hal : Below w.heap.size w (w.alloc (.cells #[.int .i64 t.kind, .string tx, .int .i64 t.pos] 76)) := (Below.refl _ w).alloc (Nat.le_refl _) _
    have HAl := Lib.hid hal
    clear hal
    go_enter Tryz.func144, Tryz.ntmps144
    go_wp2
    go_ret
    exact ⟨ret_int (by rw [HE.out, HSz.out]), HAl.out⟩
set_option maxHeartbeats 1600000 in
theorem unexpected_any (b : Nat) (ts : List Tok) (i : Nat) (w : World) (h : PkX w b ts i) :
    Calls Tryz.prog 137 #[.pointer (some ⟨b, 0, none⟩)] w fun e w' => e = .returned (.iface 200 (.agg #[.int .i64 (posAt ts i)])) ∧ Below w.heap.size w w' := by
  have HP := Lib.hid h
  obtain ⟨hi, hl⟩ := h.le
  clear h
  obtain ⟨a, cap, c0, c1, f1, hcap, hT⟩ := HP.out.cells
  by_cases hlt : i < ts.length
  · obtain ⟨t, ht⟩ : ∃ x, ts[i]? = some x := ⟨_, List.getElem?_eq_getElem hlt⟩
    have HE : Hid (posAt ts i = t.pos) := by show _ = _; unfold posAt; rw [ht]
    obtain ⟨a', cap', hv, -, hc⟩ := hT
    obtain ⟨g, ha, hg, d0, d1, d2⟩ := hc i t ht
    have hva : a = some ⟨g, 0, none⟩ := by simp at hv; rw [hv.1, ha]
    subst hva
    clear hc hv ha ht
    have hlk : ((i : Int) < (ts.length : Int)) := by omega
    go_enter Tryz.func137, Tryz.ntmps137
    go_wp2
    go_quiet (fail)
    go_wp2
    go_quiet (fail)
    go_wp2
    go_ret
    exact ⟨by rw [HE.out]; rfl, below_drewN (below_drewN (Below.refl _ w) _) _⟩
  · obtain rfl : i = ts.length := by omega
    have HEn : Hid (∀ V, Below w.heap.size w V → Calls Tryz.prog 144 #[.slice a ts.length cap] V fun e w' => e = .returned (.int .i64 (posAt ts ts.length)) ∧ Below V.heap.size V w') := fun V hb => end_any ts HP.out.ok _ _ V (hT.lift hb)
    have HCl : Hid (∀ V, Below w.heap.size w V → V.cell? ⟨b, 0, none⟩ = some (.slice a ts.length cap)) := fun V hb => by
      obtain ⟨a2, cap2, x0, -⟩ := (HP.out.lift hb).cells
      have := hb.cell (p := ⟨b, 0, none⟩) HP.out.lt
      rw [this]; exact c0
    clear hT hlt
    have hlk : decide ((ts.length : Int) < (ts.length : Int)) = false := by simp
    go_enter Tryz.func137, Tryz.ntmps137
    go_wp2
    go_quiet (fail)
    have hq : Below w.heap.size w (w.drewN nq) := below_drewN (Below.refl _ w) nq
    have HQ := Lib.hid hq
    have hc0 := HCl.out _ hq
    clear hq c0 c1 f1
    generalize w.drewN nq = V at *
    go_wp2_with fail
    go_at_call 144
    refine (HEn.out V HQ.out).mono ?_
    rintro e w1 ⟨rfl, hb1⟩
    go_wp2
    go_ret
    exact ⟨rfl, HQ.out.trans (hb1.mono HQ.out.size)⟩

/-- An empty row that was just laid. -/
theorem rowT_empty {w : World} {n : Nat} {Z : TypeId} (hZ : Z = 32) (hn : n = w.heap.size) (base : Nat) (hb : base ≤ n) (S : Nat → Prop) : RowT (w.alloc (.cells #[] Z)) base S (.slice (some ⟨n, 0, none⟩) 0 0) [] := by
  subst hn hZ
  exact ⟨[], ⟨rfl, .inr ⟨w.heap.size, 0, #[], rfl, hb, heap_alloc_new w _, Nat.le_refl _, Nat.zero_le _, rfl, rfl⟩⟩, rfl, fun j T h => by simp at h⟩
set_option maxRecDepth 100000 in
set_option maxHeartbeats 1600000 in
theorem clone_any (ts : List Ty) (hl : ts.length ≤ 1000000) (v : Value) (S : Nat → Prop) (w : World) (hS : ∀ b, w.heap.size ≤ b → S b) (h : RepL w S ts v) :
    Calls Tryz.prog 139 #[v] w fun e w' => ∃ a c, e = .returned (.slice a ts.length c) ∧ RepL w' S ts (.slice a ts.length c) ∧ Below w.heap.size w w' := by
  have HR := Lib.hid h
  obtain ⟨a, cap, rfl, hcap, hj⟩ := h
  clear hj
  cases a with
  | none =>
    obtain ⟨rfl, h0⟩ := repL_none HR.out
    clear h0
    have hq : ∀ w, (binOp .eql 30 (.slice none 0 cap) (.slice none 0 0)).run Tryz.prog w = .ok (.bool true) w := fun w => Lib.run_eql_slice_nil w 30 32 none 0 cap 0 0 Tryz.underlying30
    go_enter Tryz.func139, Tryz.ntmps139
    go_wp2
    go_ret
    exact ⟨none, 0, rfl, repL_nil _ _, Below.refl _ w⟩
  | some ad =>
    obtain ⟨m, hm⟩ : ∃ m, m = ts.length := ⟨_, rfl⟩
    rw [← hm] at hl hcap ⊢
    have HM := Lib.hid hm
    clear hm
    have hb0 : Below w.heap.size w (w.alloc (.cells #[] 32)) := (Below.refl _ w).alloc (Nat.le_refl _) _
    have hnews : ∀ j T, ts[j]? = some T → ∃ y, Five (w.alloc (.cells #[] 32)) ad j y ∧ Rep (w.alloc (.cells #[] 32)) (fun b => (b < w.heap.size ∧ S b) ∧ some b ≠ (Value.slice (some ⟨w.heap.size, 0, none⟩) 0 0).ownBlock) T y := by
      intro j T hj
      obtain ⟨a', c', hv', _, hr'⟩ := HR.out
      simp at hv'
      obtain ⟨rfl, rfl⟩ := hv'
      obtain ⟨ad', y, e, _, h5, hrep⟩ := hr' j T hj
      cases e
      exact ⟨y, h5.kept (hb0.block _ h5.lt), (hrep.bound.lift hb0).imp fun b hb => ⟨⟨hb.2, hb.1⟩, by simp [Value.ownBlock]; have := hb.2; omega⟩⟩
    have HN := Lib.hid hnews
    have HB0 := Lib.hid hb0
    have HRw : Hid (RowT (w.alloc (.cells #[] 32)) w.heap.size (fun b => b < w.heap.size ∧ S b) (.slice (some ⟨w.heap.size, 0, none⟩) 0 0) []) := rowT_empty rfl rfl _ (Nat.le_refl _) _
    have hsz : w.heap.size ≤ (w.alloc (.cells #[] 32)).heap.size := hb0.size
    clear hnews hb0
    have hq : ∀ w, (binOp .eql 30 (.slice (some ad) m cap) (.slice none 0 0)).run Tryz.prog w = .ok (.bool false) w := fun w => Lib.run_eql_slice_nil w 30 32 (some ad) m cap 0 0 Tryz.underlying30
    go_enter Tryz.func139, Tryz.ntmps139
    go_wp2_with (at_builtin; refine wpList_pushT rfl _ _ rfl w.heap.size (fun b => b < w.heap.size ∧ S b) (.slice (some ⟨w.heap.size, 0, none⟩) 0 0) [] rfl HRw.out _ _ _ rfl ts HM.out.symm HN.out m (by simp) hl hsz ?_; intro a1 c1 w1 hrow hg hloc)
    go_ret
    exact ⟨a1, c1, rfl, hrow.repL (fun b hb => hb.2) (fun b hb => hS b hb), Below.grown HB0.out hg HB0.out.size (fun k hk => by simp [Value.ownBlock] at hk; omega)⟩
end Go.Proofs.YtgcefodgjhlbeaaGreatDoor

/- types.Con and types.Arrow. -/
namespace Go.Proofs.YtgcefodgjhlbeaaGreatDoor
open Go.RowKit Go.Maps Mth

set_option maxHeartbeats 1600000 in
theorem con_any (n : ByteArray) (ts : List Ty) (hl : ts.length ≤ 1000000) (a : Option Addr) (cap : Nat) (S : Nat → Prop) (w : World) (hS : ∀ b, w.heap.size ≤ b → S b) (h : RepL w S ts (.slice a ts.length cap)) :
    Calls Tryz.prog 133 #[.string n, .slice a ts.length cap] w fun e w' => ∃ a c, e = .returned (.agg #[.int .i64 4, .string n, .int .i64 0, .int .i64 0, .slice a ts.length c]) ∧ RepL w' S ts (.slice a ts.length c) ∧ Below w.heap.size w w' := by
  have hb0 : Below w.heap.size w (w.alloc (.cells #[.int .i64 0, .string ⟨#[]⟩, .int .i64 0, .int .i64 0, .slice none 0 0] 32)) := (Below.refl _ w).alloc (Nat.le_refl _) _
  have HZ : Hid (Zero (w.alloc (.cells #[.int .i64 0, .string ⟨#[]⟩, .int .i64 0, .int .i64 0, .slice none 0 0] 32)) w.heap.size) := Box.made _ _ _ _ _ _
  have hsz : (w.alloc (.cells #[.int .i64 0, .string ⟨#[]⟩, .int .i64 0, .int .i64 0, .slice none 0 0] 32)).heap.size = w.heap.size + 1 := by simp
  have HC : Hid (Calls Tryz.prog 139 #[.slice a ts.length cap] (w.alloc (.cells #[.int .i64 0, .string ⟨#[]⟩, .int .i64 0, .int .i64 0, .slice none 0 0] 32)) fun e w' => ∃ a c, e = .returned (.slice a ts.length c) ∧ RepL w' (fun b => S b ∧ b ≠ w.heap.size) ts (.slice a ts.length c) ∧ Below (w.alloc (.cells #[.int .i64 0, .string ⟨#[]⟩, .int .i64 0, .int .i64 0, .slice none 0 0] 32)).heap.size (w.alloc (.cells #[.int .i64 0, .string ⟨#[]⟩, .int .i64 0, .int .i64 0, .slice none 0 0] 32)) w') :=
    clone_any ts hl _ (fun b => S b ∧ b ≠ w.heap.size) _ (fun b hb => by rw [hsz] at hb; exact ⟨hS b (by omega), by omega⟩) (by
      obtain ⟨a', cap', hv, hcap, hj⟩ := h
      refine ⟨a', cap', hv, hcap, fun j T hT => ?_⟩
      obtain ⟨ad, x, h1, h2, h3, h4⟩ := hj j T hT
      exact ⟨ad, x, h1, ⟨h2, by have := h3.lt; omega⟩, h3.kept (hb0.block _ h3.lt), (h4.bound.lift hb0).imp fun b hb => ⟨hb.1, by have := hb.2; omega⟩⟩)
  have HB0 := Lib.hid hb0
  clear h hb0 hsz
  generalize ts.length = m at *
  go_enter Tryz.func133, Tryz.ntmps133
  go_upto_region 1 with fail
  generalize (w.alloc (.cells #[.int .i64 0, .string ⟨#[]⟩, .int .i64 0, .int .i64 0, .slice none 0 0] 32)) = V at *
  go_wp2_with fail
  go_at_call 139
  refine HC.out.mono ?_
  rintro e w1 ⟨a1, c1, rfl, hrep, hb1⟩
  have HZ1 := Lib.hid (Box.lift HZ.out hb1)
  have HR1 := Lib.hid hrep
  have HB1 := Lib.hid (HB0.out.trans (hb1.mono HB0.out.size))
  clear hrep hb1 HZ HC
  go_wp2_with (refine wpList_store5 rfl _ _ rfl _ _ _ _ _ _ HZ1.out rfl _ _ _ _ _ _ _ rfl ?_; intro w2 hB2 hg2 hs2)
  obtain ⟨c0, c1', c2, c3, c4⟩ := hB2.cells
  refine bodyPost_ret (by simp [results, Tryz.results133, go_sem, c0, c1', c2, c3, c4]; try rfl) rfl ?_
  exact ⟨a1, c1, rfl, HR1.out.kept (fun b hb => hb.1) (fun b hb hlt => hg2.block b hlt (by intro e; have := Option.some.inj e; exact hb.2 this)), Below.grown HB1.out hg2 HB1.out.size (fun k hk => by have := Option.some.inj hk; omega)⟩
set_option maxHeartbeats 1600000 in
theorem arrow_any (T U : Ty) (v u : Value) (S : Nat → Prop) (w : World) (hS : ∀ b, w.heap.size ≤ b → S b) (h : Rep w S T v) (h' : Rep w S U u) :
    Calls Tryz.prog 123 #[v, u] w fun e w' => ∃ a c, e = .returned (.agg #[.int .i64 4, .string arrN, .int .i64 0, .int .i64 0, .slice a 2 c]) ∧ RepL w' S [T, U] (.slice a 2 c) ∧ Below w.heap.size w w' := by
  obtain ⟨k, n, i, hm, s, eT, rfl, hn, hs⟩ := h.open
  obtain ⟨k', n', i', hm', s', eU, rfl, hn', hs'⟩ := h'.open
  obtain ⟨sa, sc, rfl, -⟩ := hs
  obtain ⟨sa', sc', rfl, -⟩ := hs'
  have HR := Lib.hid h
  have HR' := Lib.hid h'
  clear h h' eT eU hn hn'
  generalize T.ts.length = sn at *
  generalize U.ts.length = sn' at *
  go_enter Tryz.func123, Tryz.ntmps123
  go_wp2_with fail
  go_at_call 133
  have hb3 : ∀ A B C, Below w.heap.size w (((w.alloc (.cells A 32)).alloc (.cells B 32)).alloc (.cells C 32)) := fun A B C => (((Below.refl _ w).alloc (Nat.le_refl _) _).alloc (by simp) _).alloc (by simp; omega) _
  refine (con_any arrN [T, U] (by simp) (some ⟨w.heap.size + 1 + 1 + 1, 0, none⟩) 2 (fun b => S b ∧ b ≠ w.heap.size + 1 + 1) _ (fun b hb => ⟨hS b (by simp at hb; omega), by simp at hb; omega⟩)
    (two_new (hb3 _ _ _) (HR.out.bound.imp fun b hb => ⟨hb.1, by omega⟩) (HR'.out.bound.imp fun b hb => ⟨hb.1, by omega⟩) _ _ (by simp) ⟨hS _ (by omega), by omega⟩)).mono ?_
  rintro e w1 ⟨a, c, rfl, hrep, hb1⟩
  have hbw := (((hb3 _ _ _).alloc (hb3 _ _ _).size _)).trans (hb1.mono (by simp; omega))
  have HB : Hid (Zero w1 (w.heap.size + 1 + 1)) := Box.lift (by unfold Box; rw [heap_at, if_neg (by simp), heap_at, if_pos (by simp)]) hb1
  have hsz := hb1.size
  clear hb1
  go_wp2_with (refine wpList_store5 rfl _ _ rfl _ _ _ _ _ _ HB.out rfl _ _ _ _ _ _ _ rfl ?_; intro w2 hB2 hg2 hs2)
  obtain ⟨c0, c1, c2, c3, c4⟩ := hB2.cells
  refine bodyPost_ret (by simp [results, Tryz.results123, go_sem, c0, c1, c2, c3, c4]; try rfl) rfl ?_
  exact ⟨a, c, rfl, hrep.kept (fun b hb => hb.1) (fun b hb hlt => hg2.block b hlt (by intro e; cases e; exact hb.2 rfl)), Below.grown hbw hg2 hbw.size (fun j hj => by cases hj; omega)⟩
end Go.Proofs.YtgcefodgjhlbeaaGreatDoor

/- The package's reading of types: what it is to find, by the fuel; enclosed and atom. -/
namespace Go.Proofs.YtgcefodgjhlbeaaGreatDoor
open Go.RowKit Go.Maps Mth

/-- What a reading finds: a type and the index behind it, or the index of the unexpected token. -/
inductive PR where
  | ok (T : Ty) (j : Nat)
  | bad (p : Nat)
inductive PL where
  | ok (l : List Ty) (j : Nat)
  | bad (p : Nat)
def qEncl (ts : List Tok) : Option PR → Option PR
  | none => none
  | some (.bad p) => some (.bad p)
  | some (.ok T j) => if rMark ts j ⟨#[41]⟩ then some (.ok T (j + 1)) else some (.bad j)
mutual
def qAtom : Nat → List Tok → Nat → Option PR
  | 0, _, _ => none
  | f + 1, ts, i =>
    if tkK ts i == 1 then some (.ok (.mk 5 (txt ts i) 0 0 []) (i + 1))
    else if tkK ts i == 2 then some (.ok (.mk 4 (txt ts i) 0 0 []) (i + 1))
    else if rMark ts i ⟨#[40]⟩ then qEncl ts (qType f ts (i + 1))
    else some (.bad i)
def qType : Nat → List Tok → Nat → Option PR
  | 0, _, _ => none
  | f + 1, ts, i =>
    if tkK ts i == 2 then
      match qArgs f ts (i + 1) [] with
      | none => none
      | some (.bad p) => some (.bad p)
      | some (.ok l j) => qArrow f ts j (.mk 4 (txt ts i) 0 0 l)
    else
      match qAtom f ts i with
      | none => none
      | some (.bad p) => some (.bad p)
      | some (.ok T j) => qArrow f ts j T
def qArrow : Nat → List Tok → Nat → Ty → Option PR
  | 0, _, _, _ => none
  | f + 1, ts, i, a =>
    if rMark ts i ⟨#[45, 62]⟩ then
      match qType f ts (i + 1) with
      | none => none
      | some (.bad p) => some (.bad p)
      | some (.ok T j) => some (.ok (con arrN [a, T]) j)
    else some (.ok a i)
def qArgs : Nat → List Tok → Nat → List Ty → Option PL
  | 0, _, _, _ => none
  | f + 1, ts, i, acc =>
    if rStart ts i then
      match qAtom f ts i with
      | none => none
      | some (.bad p) => some (.bad p)
      | some (.ok T j) => qArgs f ts j (acc ++ [T])
    else some (.ok acc i)
end
def qApp (f : Nat) (ts : List Tok) (i : Nat) : Option PR :=
  if tkK ts i == 2 then
    match qArgs f ts (i + 1) [] with
    | none => none
    | some (.bad p) => some (.bad p)
    | some (.ok l j) => some (.ok (.mk 4 (txt ts i) 0 0 l) j)
  else qAtom f ts i

/-- The results are those of a reading. -/
def PIs (ts : List Tok) : PR → Ty → Nat → Value → Prop
  | .ok T j, T', j', ev => T' = T ∧ j' = j ∧ ev = .nilIface
  | .bad p, _, _, ev => ev = .iface 200 (.agg #[.int .i64 (posAt ts p)])
def PkEnd (w : World) (b base : Nat) (ts : List Tok) (r : PR) (e : Ending) (w' : World) : Prop :=
  ∃ u T j ev, e = .returned (.tuple #[u, ev]) ∧ Rep w' (fun c => base ≤ c) T u ∧ PkX w' b ts j ∧ w.grownBy w' (some b) ∧ PIs ts r T j ev
def PkAt (fid : Nat) (ts : List Tok) (i : Nat) (r : Option PR) : Prop :=
  ∀ R, r = some R → ∀ (b base : Nat) (w : World), b < base → base ≤ w.heap.size → PkX w b ts i → Calls Tryz.prog fid #[.pointer (some ⟨b, 0, none⟩)] w (PkEnd w b base ts R)
theorem PkEnd.ok {w w' : World} {b base : Nat} {ts : List Tok} {T : Ty} {j : Nat} {e : Ending} (h : PkEnd w b base ts (.ok T j) e w') : ∃ u, e = .returned (.tuple #[u, .nilIface]) ∧ Rep w' (fun c => base ≤ c) T u ∧ PkX w' b ts j ∧ w.grownBy w' (some b) := by
  obtain ⟨u, T', j', ev, he, h1, h2, h3, rfl, rfl, rfl⟩ := h
  exact ⟨u, he, h1, h2, h3⟩
theorem PkEnd.bad {w w' : World} {b base : Nat} {ts : List Tok} {p : Nat} {e : Ending} (h : PkEnd w b base ts (.bad p) e w') : ∃ u T j, e = .returned (.tuple #[u, .iface 200 (.agg #[.int .i64 (posAt ts p)])]) ∧ Rep w' (fun c => base ≤ c) T u ∧ PkX w' b ts j ∧ w.grownBy w' (some b) := by
  obtain ⟨u, T', j', ev, he, h1, h2, h3, rfl⟩ := h
  exact ⟨u, T', j', he, h1, h2, h3⟩

/-- What holds while a method runs: its result is zero yet. -/
structure ZSt (w : World) (b : Nat) (ts : List Tok) (j : Nat) (V : World) : Prop where
  zero : Zero V w.heap.size
  rd : PkX V b ts j
  grown : w.grownBy V (some b)
  lt : b < w.heap.size
  size : w.heap.size + 1 ≤ V.heap.size
theorem zst_new {w : World} {b : Nat} {ts : List Tok} {j : Nat} (h : PkX w b ts j) : ZSt w b ts j (w.alloc (.cells #[.int .i64 0, .string ⟨#[]⟩, .int .i64 0, .int .i64 0, .slice none 0 0] 32)) := by
  have hb : Below w.heap.size w (w.alloc (.cells #[.int .i64 0, .string ⟨#[]⟩, .int .i64 0, .int .i64 0, .slice none 0 0] 32)) := (Below.refl _ w).alloc (Nat.le_refl _) _
  exact ⟨Box.made _ _ _ _ _ _, h.lift hb, below_grown_some hb b, h.lt, by simp⟩
theorem ZSt.lift {w V V' : World} {b : Nat} {ts : List Tok} {j : Nat} (h : ZSt w b ts j V) (hb : Below V.heap.size V V') : ZSt w b ts j V' :=
  ⟨Box.lift h.zero hb, h.rd.lift hb, grown_trans h.grown (below_grown_some hb b), h.lt, Nat.le_trans h.size hb.size⟩
theorem ZSt.go {w V V' : World} {b : Nat} {ts : List Tok} {j j' : Nat} (h : ZSt w b ts j V) (hr : PkX V' b ts j') (hg : V.grownBy V' (some b)) : ZSt w b ts j' V' :=
  ⟨Box.grown h.zero hg (by intro e; have := Option.some.inj e; have := h.lt; omega), hr, grown_trans h.grown hg, h.lt, Nat.le_trans h.size hg.size⟩
/-- The result is stored: the end. -/
theorem ZSt.fin {w V V' : World} {b base : Nat} {ts : List Tok} {j : Nat} (h : ZSt w b ts j V) (hg : V.grownBy V' (some w.heap.size)) (hbase : base ≤ w.heap.size) {T : Ty} {u : Value} (hr : Rep V (fun c => w.heap.size + 1 ≤ c) T u) :
    Rep V' (fun c => base ≤ c) T u ∧ PkX V' b ts j ∧ w.grownBy V' (some b) :=
  ⟨hr.kept (fun c hc => by omega) (fun c hc hlt => hg.block c hlt (by intro e; have := Option.some.inj e; omega)), h.rd.other h.lt hg, grown_fresh h.grown hg fun k e => by have := Option.some.inj e; omega⟩
theorem ZSt.leaf {w V V' : World} {b base : Nat} {ts : List Tok} {j : Nat} (h : ZSt w b ts j V) (hg : V.grownBy V' (some w.heap.size)) (k : Int) (n : ByteArray) (hn : n.size ≤ maxLen) :
    Rep V' (fun c => base ≤ c) (.mk k n 0 0 []) (.agg #[.int .i64 k, .string n, .int .i64 0, .int .i64 0, .slice none 0 0]) ∧ PkX V' b ts j ∧ w.grownBy V' (some b) :=
  ⟨rep_leaf _ _ k n 0 0 hn, h.rd.other h.lt hg, grown_fresh h.grown hg fun k e => by have := Option.some.inj e; omega⟩
theorem zero_ok : (⟨#[]⟩ : ByteArray).size ≤ maxLen := Nat.zero_le _

set_option maxHeartbeats 3200000 in
theorem encl_of (ts : List Tok) (i : Nat) (r : Option PR) (H : PkAt 114 ts i r) : PkAt 138 ts i (qEncl ts r) := by
  intro R hR b base w hbb hbase h
  have HZ : Hid (ZSt w b ts i _) := zst_new h
  clear h
  cases r with
  | none => simp [qEncl] at hR
  | some r0 =>
    have HT := Lib.hid (H r0 rfl)
    clear H
    cases r0 with
    | bad p =>
      simp only [qEncl, Option.some.injEq] at hR
      subst hR
      go_enter Tryz.func138, Tryz.ntmps138
      go_upto_region 1 with fail
      generalize (w.alloc (.cells #[.int .i64 0, .string ⟨#[]⟩, .int .i64 0, .int .i64 0, .slice none 0 0] 32)) = V at *
      have hsz := HZ.out.size
      go_wp2_with fail
      go_at_call 114
      refine (HT.out b (w.heap.size + 1) V (by omega) hsz HZ.out.rd).mono ?_
      intro e w1 he
      obtain ⟨u, T, j, rfl, hrep, hrd, hg⟩ := he.bad
      have HZ1 := Lib.hid (HZ.out.go hrd hg)
      obtain ⟨uk, un, ui, uh, ua, um, uc, rfl⟩ := hrep.form
      have HZ2 := Lib.hid (HZ1.out.lift ((Below.refl _ w1).alloc (Nat.le_refl _) (.cells #[.int .i64 uk, .string un, .int .i64 ui, .int .i64 uh, .slice ua um uc] 32)))
      clear hrep hrd hg he HZ HT
      go_wp2_with (refine wpList_store5 rfl _ _ rfl _ _ _ _ _ _ HZ2.out.zero rfl _ _ _ _ _ _ _ rfl ?_; intro w4 hB4 hg4 hs4)
      obtain ⟨c0, c1, c2, c3, c4⟩ := hB4.cells
      refine bodyPost_ret (by simp [results, Tryz.results138, go_sem, c0, c1, c2, c3, c4]; try rfl) rfl ?_
      obtain ⟨e1, e2, e3⟩ := HZ2.out.leaf (base := base) hg4 0 ⟨#[]⟩ zero_ok
      exact ⟨_, _, _, _, rfl, e1, e2, e3, rfl⟩
    | ok T j =>
      have HR : Hid (qEncl ts (some (.ok T j)) = some R) := hR
      clear hR
      go_enter Tryz.func138, Tryz.ntmps138
      go_upto_region 1 with fail
      generalize (w.alloc (.cells #[.int .i64 0, .string ⟨#[]⟩, .int .i64 0, .int .i64 0, .slice none 0 0] 32)) = V at *
      have hsz := HZ.out.size
      go_wp2_with fail
      go_at_call 114
      refine (HT.out b (w.heap.size + 1) V (by omega) hsz HZ.out.rd).mono ?_
      intro e w1 he
      obtain ⟨u, rfl, hrep, hrd, hg⟩ := he.ok
      have HZ1 := Lib.hid (HZ.out.go hrd hg)
      obtain ⟨uk, un, ui, uh, ua, um, uc, rfl⟩ := hrep.form
      have hba : Below w1.heap.size w1 (w1.alloc (.cells #[.int .i64 uk, .string un, .int .i64 ui, .int .i64 uh, .slice ua um uc] 32)) := (Below.refl _ w1).alloc (Nat.le_refl _) _
      have HZ2 := Lib.hid (HZ1.out.lift hba)
      have HP2 := Lib.hid (hrep.lift hba)
      have HB2 : Hid (Box (w1.alloc (.cells #[.int .i64 uk, .string un, .int .i64 ui, .int .i64 uh, .slice ua um uc] 32)) w1.heap.size (.int .i64 uk) (.string un) (.int .i64 ui) (.int .i64 uh) (.slice ua um uc)) := Box.made _ _ _ _ _ _
      have hs1 := HZ1.out.size
      clear hrep hrd hg he HZ HT hba HZ1
      go_wp2_with fail
      go_at_call 122
      generalize (w1.alloc (.cells #[.int .i64 uk, .string un, .int .i64 ui, .int .i64 uh, .slice ua um uc] 32)) = V2 at *
      generalize w1.heap.size = n4 at *
      refine (pkTok_any b ts j V2 HZ2.out.rd).mono ?_
      rintro e w3 ⟨rfl, hb3⟩
      have HZ3 := Lib.hid (HZ2.out.lift hb3)
      have HP3 := Lib.hid (HP2.out.lift hb3)
      have HB3 := Lib.hid (Box.lift HB2.out hb3)
      clear hb3 HZ2 HP2 HB2
      go_wp2_with fail
      go_at_call 121
      refine (isMark_any (tkK ts j) (txt ts j) (tkP ts j) ⟨#[41]⟩ w3).mono ?_
      rintro e w4 ⟨rfl, hb4⟩
      have HZ4 := Lib.hid (HZ3.out.lift hb4)
      have HP4 := Lib.hid (HP3.out.lift hb4)
      have HB4 := Lib.hid (Box.lift HB3.out hb4)
      clear hb4 HZ3 HP3 HB3
      have hm : (tkK ts j == 5 && (txt ts j).toList == (⟨#[41]⟩ : ByteArray).toList) = rMark ts j ⟨#[41]⟩ := rfl
      rw [hm]
      clear hm
      cases hq : rMark ts j ⟨#[41]⟩ with
      | true =>
        have hlt : j < ts.length := by
          rcases Nat.lt_or_ge j ts.length with h | h
          · exact h
          · unfold rMark tkK at hq; rw [List.getElem?_eq_none h] at hq; simp at hq
        have hRe : R = .ok T (j + 1) := by have := HR.out; simp only [qEncl, hq, if_true, Option.some.injEq] at this; exact this.symm
        have hst := HZ4.out.rd.step hlt
        obtain ⟨a, cap, c0, c1, f1, hcap, hT⟩ := HZ4.out.rd.cells
        have hjl := HZ4.out.rd.le.2
        have HZ5 := Lib.hid (HZ4.out.go hst.1 hst.2)
        have HP5 := Lib.hid (HP4.out.kept (fun c hc => hc) (fun c hc hlt => hst.2.block c hlt (by intro e; have := Option.some.inj e; omega)))
        have HB5 := Lib.hid (Box.grown HB4.out hst.2 (by intro e; have := Option.some.inj e; omega))
        subst hRe
        clear hq HR hst hT hcap HP4 HB4
        go_upto_region 7 with fail
        clear c0 c1 f1
        generalize w4.setCell ⟨b, 1, none⟩ (.int .i64 ((j : Int) + 1)) = V5 at *
        obtain ⟨d0, d1, d2, d3, d4⟩ := HB5.out.cells
        go_wp2_with (refine wpList_store5 rfl _ _ rfl _ _ _ _ _ _ HZ5.out.zero rfl _ _ _ _ _ _ _ rfl ?_; intro w6 hB6 hg6 hs6)
        obtain ⟨c0, c1, c2, c3, c4⟩ := hB6.cells
        refine bodyPost_ret (by simp [results, Tryz.results138, go_sem, c0, c1, c2, c3, c4]; try rfl) rfl ?_
        obtain ⟨e1, e2, e3⟩ := HZ5.out.fin hg6 hbase HP5.out
        exact ⟨_, _, _, _, rfl, e1, e2, e3, rfl, rfl, rfl⟩
      | false =>
        have hRe : R = .bad j := by have := HR.out; simp only [qEncl, hq, Bool.false_eq_true, if_false, Option.some.injEq] at this; exact this.symm
        subst hRe
        clear hq HR
        go_wp2_with fail
        go_at_call 137
        refine (unexpected_any b ts j w4 HZ4.out.rd).mono ?_
        rintro e w5 ⟨rfl, hb5⟩
        have HZ5 := Lib.hid (HZ4.out.lift hb5)
        clear hb5 HZ4 HP4 HB4
        go_wp2_with (refine wpList_store5 rfl _ _ rfl _ _ _ _ _ _ HZ5.out.zero rfl _ _ _ _ _ _ _ rfl ?_; intro w6 hB6 hg6 hs6)
        obtain ⟨c0, c1, c2, c3, c4⟩ := hB6.cells
        refine bodyPost_ret (by simp [results, Tryz.results138, go_sem, c0, c1, c2, c3, c4]; try rfl) rfl ?_
        obtain ⟨e1, e2, e3⟩ := HZ5.out.leaf (base := base) hg6 0 ⟨#[]⟩ zero_ok
        exact ⟨_, _, _, _, rfl, e1, e2, e3, rfl⟩
end Go.Proofs.YtgcefodgjhlbeaaGreatDoor

/- The package's reading of types: atom. -/
namespace Go.Proofs.YtgcefodgjhlbeaaGreatDoor
open Go.RowKit Go.Maps Mth

theorem tkK_lt {ts : List Tok} {i : Nat} (h : ¬ tkK ts i = 0) : i < ts.length := by
  rcases Nat.lt_or_ge i ts.length with h' | h'
  · exact h'
  · exact absurd (by unfold tkK; rw [List.getElem?_eq_none h']) h
theorem rMark_K {ts : List Tok} {i : Nat} {s : ByteArray} (h : rMark ts i s = true) : tkK ts i = 5 := by
  unfold rMark at h
  simp at h
  exact h.1
theorem rMark_lt {ts : List Tok} {i : Nat} {s : ByteArray} (h : rMark ts i s = true) : i < ts.length := tkK_lt (by rw [rMark_K h]; decide)
theorem rStart_lt {ts : List Tok} {i : Nat} (h : rStart ts i = true) : i < ts.length := by
  apply tkK_lt
  intro h0
  unfold rStart rMark at h
  rw [h0] at h
  simp at h
theorem con_leaf (n : ByteArray) (S : Nat → Prop) (w : World) (hn : n.size ≤ maxLen) (hS : ∀ b, w.heap.size ≤ b → S b) : Calls Tryz.prog 133 #[.string n, .slice none 0 0] w fun e w' => ∃ a c, e = .returned (.agg #[.int .i64 4, .string n, .int .i64 0, .int .i64 0, .slice a 0 c]) ∧ Rep w' S (.mk 4 n 0 0 []) (.agg #[.int .i64 4, .string n, .int .i64 0, .int .i64 0, .slice a 0 c]) ∧ Below w.heap.size w w' := by
  refine (con_any n [] (by simp) none 0 S w hS (repL_nil _ _)).mono ?_
  rintro e w' ⟨a, c, rfl, hr, hb⟩
  exact ⟨a, c, rfl, Rep.close hn hr, hb⟩

set_option maxHeartbeats 3200000 in
theorem atom_of (ts : List Tok) (i : Nat) (f : Nat) (H : PkAt 114 ts (i + 1) (qType f ts (i + 1))) : PkAt 131 ts i (qAtom (f + 1) ts i) := by
  intro R hR b base w hbb hbase h
  have hok := h.ok
  have HS := Lib.hid (txt_size hok i)
  have HZ : Hid (ZSt w b ts i _) := zst_new h
  have HE43 := Lib.hid (encl_of ts (i + 1) _ H)
  clear h H hok
  have HR : Hid (qAtom (f + 1) ts i = some R) := hR
  clear hR
  have HS0 : Hid (∀ w', Calls Tryz.prog 132 #[.agg #[.int .i64 (tkK ts i), .string (txt ts i), .int .i64 (tkP ts i)]] w' fun e w'' => e = .returned (.bool (rStart ts i)) ∧ Below w'.heap.size w' w'') := fun w' => starts_any _ _ _ w'
  cases hs : rStart ts i with
  | false =>
    have hk : tkK ts i ≠ 1 ∧ tkK ts i ≠ 2 ∧ rMark ts i ⟨#[40]⟩ = false := by
      unfold rStart at hs
      simp at hs
      exact ⟨hs.1.1, hs.1.2, hs.2⟩
    have hRe : R = .bad i := by
      have := HR.out
      unfold qAtom at this
      rw [if_neg (by simpa using hk.1), if_neg (by simpa using hk.2.1), if_neg (by simp [hk.2.2])] at this
      exact (Option.some.inj this).symm
    subst hRe
    rw [hs] at HS0
    clear hs hk HR HE43 HS
    go_enter Tryz.func131, Tryz.ntmps131
    go_upto_region 1 with fail
    generalize (w.alloc (.cells #[.int .i64 0, .string ⟨#[]⟩, .int .i64 0, .int .i64 0, .slice none 0 0] 32)) = V at *
    go_wp2_with fail
    go_at_call 122
    refine (pkTok_any b ts i V HZ.out.rd).mono ?_
    rintro e w1 ⟨rfl, hb1⟩
    have HZ1 := Lib.hid (HZ.out.lift hb1)
    clear hb1 HZ
    have HZ2 := Lib.hid (HZ1.out.lift ((Below.refl _ w1).alloc (Nat.le_refl _) (.cells #[.int .i64 (tkK ts i), .string (txt ts i), .int .i64 (tkP ts i)] 76)))
    clear HZ1
    go_wp2_with fail
    go_at_call 132
    generalize (w1.alloc (.cells #[.int .i64 (tkK ts i), .string (txt ts i), .int .i64 (tkP ts i)] 76)) = V2 at *
    refine (HS0.out V2).mono ?_
    rintro e w3 ⟨rfl, hb3⟩
    have HZ3 := Lib.hid (HZ2.out.lift hb3)
    clear hb3 HZ2 HS0
    go_wp2_with fail
    go_at_call 137
    refine (unexpected_any b ts i w3 HZ3.out.rd).mono ?_
    rintro e w4 ⟨rfl, hb4⟩
    have HZ4 := Lib.hid (HZ3.out.lift hb4)
    clear hb4 HZ3
    go_wp2_with (refine wpList_store5 rfl _ _ rfl _ _ _ _ _ _ HZ4.out.zero rfl _ _ _ _ _ _ _ rfl ?_; intro w6 hB6 hg6 hs6)
    obtain ⟨c0, c1, c2, c3, c4⟩ := hB6.cells
    refine bodyPost_ret (by simp [results, Tryz.results131, go_sem, c0, c1, c2, c3, c4]; try rfl) rfl ?_
    obtain ⟨e1, e2, e3⟩ := HZ4.out.leaf (base := base) hg6 0 ⟨#[]⟩ zero_ok
    exact ⟨_, _, _, _, rfl, e1, e2, e3, rfl⟩
  | true =>
    have hlt := rStart_lt hs
    have hk : ((tkK ts i == 1) = true ∧ R = .ok (.mk 5 (txt ts i) 0 0 []) (i + 1)) ∨ ((tkK ts i == 1) = false ∧ (tkK ts i == 2) = true ∧ R = .ok (.mk 4 (txt ts i) 0 0 []) (i + 1)) ∨ ((tkK ts i == 1) = false ∧ (tkK ts i == 2) = false ∧ qEncl ts (qType f ts (i + 1)) = some R) := by
      have hq := HR.out
      unfold qAtom at hq
      unfold rStart at hs
      cases h1 : (tkK ts i == 1) with
      | true =>
        rw [h1] at hq
        simp only [if_true, Option.some.injEq] at hq
        exact .inl ⟨rfl, hq.symm⟩
      | false =>
        rw [h1] at hq hs
        simp only [Bool.false_eq_true, if_false] at hq
        cases h2 : (tkK ts i == 2) with
        | true =>
          rw [h2] at hq
          simp only [if_true, Option.some.injEq] at hq
          exact .inr (.inl ⟨rfl, rfl, hq.symm⟩)
        | false =>
          rw [h2] at hs hq
          simp only [Bool.false_eq_true, if_false] at hq
          simp only [Bool.false_or] at hs
          rw [hs] at hq
          simp only [if_true] at hq
          exact .inr (.inr ⟨rfl, rfl, hq⟩)
    rw [hs] at HS0
    have HK := Lib.hid hk
    clear hs hk
    go_enter Tryz.func131, Tryz.ntmps131
    go_upto_region 1 with fail
    generalize (w.alloc (.cells #[.int .i64 0, .string ⟨#[]⟩, .int .i64 0, .int .i64 0, .slice none 0 0] 32)) = V at *
    have hs0 := HZ.out.size
    go_wp2_with fail
    go_at_call 122
    refine (pkTok_any b ts i V HZ.out.rd).mono ?_
    rintro e w1 ⟨rfl, hb1⟩
    have HZ1 := Lib.hid (HZ.out.lift hb1)
    have hs1 := hb1.size
    clear hb1 HZ
    have HZ2 := Lib.hid (HZ1.out.lift ((Below.refl _ w1).alloc (Nat.le_refl _) (.cells #[.int .i64 (tkK ts i), .string (txt ts i), .int .i64 (tkP ts i)] 76)))
    have HT2 : Hid ((w1.alloc (.cells #[.int .i64 (tkK ts i), .string (txt ts i), .int .i64 (tkP ts i)] 76)).heap[w1.heap.size]? = some (.cells #[.int .i64 (tkK ts i), .string (txt ts i), .int .i64 (tkP ts i)] 76 (0, 0))) := heap_alloc_new w1 _
    clear HZ1
    go_wp2_with fail
    go_at_call 132
    generalize (w1.alloc (.cells #[.int .i64 (tkK ts i), .string (txt ts i), .int .i64 (tkP ts i)] 76)) = V2 at *
    refine (HS0.out V2).mono ?_
    rintro e w3 ⟨rfl, hb3⟩
    have HZ3 := Lib.hid (HZ2.out.lift hb3)
    have HT3 : Hid (w3.heap[w1.heap.size]? = some (.cells #[.int .i64 (tkK ts i), .string (txt ts i), .int .i64 (tkP ts i)] 76 (0, 0))) := by show _ = _; rw [hb3.block _ (Array.getElem?_eq_some_iff.1 HT2.out).1]; exact HT2.out
    clear hb3 HZ2 HS0 HT2
    generalize w1.heap.size = n4 at *
    have hst := HZ3.out.rd.step hlt
    obtain ⟨a, cap, c0, c1, f1, hcap, hT⟩ := HZ3.out.rd.cells
    have hjl := HZ3.out.rd.le.2
    have hbw := HZ3.out.lt
    have HZ5 := Lib.hid (HZ3.out.go hst.1 hst.2)
    have HT5 : Hid ((w3.setCell ⟨b, 1, none⟩ (.int .i64 ((i : Int) + 1))).heap[n4]? = some (.cells #[.int .i64 (tkK ts i), .string (txt ts i), .int .i64 (tkP ts i)] 76 (0, 0))) := by show _ = _; rw [hst.2.block _ (Array.getElem?_eq_some_iff.1 HT3.out).1 (by intro e; have := Option.some.inj e; omega)]; exact HT3.out
    clear hst hT hcap HT3
    go_upto_region 5 with fail
    clear c0 c1 f1
    generalize w3.setCell ⟨b, 1, none⟩ (.int .i64 ((i : Int) + 1)) = V5 at *
    obtain ⟨⟨t0, t1, t2⟩, -⟩ := tok_cells HT5.out
    generalize txt ts i = x at *
    generalize tkP ts i = p at *
    clear HR
    rcases HK.out with ⟨h1, rfl⟩ | ⟨h1, h2, rfl⟩ | ⟨h1, h2, h3⟩
    · clear HK HE43
      go_wp2_with (refine wpList_store5 rfl _ _ rfl _ _ _ _ _ _ HZ5.out.zero rfl _ _ _ _ _ _ _ rfl ?_; intro w6 hB6 hg6 hs6)
      obtain ⟨c0, c1, c2, c3, c4⟩ := hB6.cells
      refine bodyPost_ret (by simp [results, Tryz.results131, go_sem, c0, c1, c2, c3, c4]; try rfl) rfl ?_
      obtain ⟨e1, e2, e3⟩ := HZ5.out.leaf (base := base) hg6 5 x HS.out
      exact ⟨_, _, _, _, rfl, e1, e2, e3, rfl, rfl, rfl⟩
    · clear HK HE43
      have hs5 := HZ5.out.size
      go_wp2_with fail
      go_at_call 133
      refine (con_leaf x (fun c => w.heap.size + 1 ≤ c) V5 HS.out (fun c hc => Nat.le_trans hs5 hc)).mono ?_
      rintro e w6 ⟨a6, c6, rfl, hr6, hb6⟩
      have HZ6 := Lib.hid (HZ5.out.lift hb6)
      have HP6 := Lib.hid hr6
      clear hr6 hb6 HZ5 HT5 t0 t1 t2
      go_wp2_with (refine wpList_store5 rfl _ _ rfl _ _ _ _ _ _ HZ6.out.zero rfl _ _ _ _ _ _ _ rfl ?_; intro w7 hB7 hg7 hs7)
      obtain ⟨c0, c1, c2, c3, c4⟩ := hB7.cells
      refine bodyPost_ret (by simp [results, Tryz.results131, go_sem, c0, c1, c2, c3, c4]; try rfl) rfl ?_
      obtain ⟨e1, e2, e3⟩ := HZ6.out.fin hg7 hbase HP6.out
      exact ⟨_, _, _, _, rfl, e1, e2, e3, rfl, rfl, rfl⟩
    · have HC := Lib.hid (HE43.out R h3)
      clear HK HE43 h3
      have hs5 := HZ5.out.size
      go_wp2_with fail
      go_at_call 138
      refine (HC.out b (w.heap.size + 1) V5 (by omega) hs5 HZ5.out.rd).mono ?_
      rintro e w6 ⟨u, T, j, ev, rfl, hrep, hrd, hg, hp⟩
      have HZ6 := Lib.hid (HZ5.out.go hrd hg)
      have HP6 := Lib.hid hrep
      have HI6 := Lib.hid hp
      obtain ⟨uk, un, ui, uh, ua, um, uc, rfl⟩ := hrep.form
      clear hrep hrd hg hp HZ5 HT5 t0 t1 t2
      go_wp2_with (refine wpList_store5 rfl _ _ rfl _ _ _ _ _ _ HZ6.out.zero rfl _ _ _ _ _ _ _ rfl ?_; intro w7 hB7 hg7 hs7)
      obtain ⟨c0, c1, c2, c3, c4⟩ := hB7.cells
      refine bodyPost_ret (by simp [results, Tryz.results131, go_sem, c0, c1, c2, c3, c4]; try rfl) rfl ?_
      obtain ⟨e1, e2, e3⟩ := HZ6.out.fin hg7 hbase HP6.out
      exact ⟨_, _, _, _, rfl, e1, e2, e3, HI6.out⟩
end Go.Proofs.YtgcefodgjhlbeaaGreatDoor

/- The package's reading of types: applied. -/
namespace Go.Proofs.YtgcefodgjhlbeaaGreatDoor
open Go.RowKit Go.Maps Mth

theorem qargs_cases {g : Nat} {ts : List Tok} {p : Nat} {acc : List Ty} {L : PL} (h : qArgs g ts p acc = some L) :
    (rStart ts p = false ∧ L = .ok acc p) ∨ (rStart ts p = true ∧ ∃ g', g = g' + 1 ∧ ((∃ pb, qAtom g' ts p = some (.bad pb) ∧ L = .bad pb) ∨ (∃ V q, qAtom g' ts p = some (.ok V q) ∧ qArgs g' ts q (acc ++ [V]) = some L))) := by
  cases g with
  | zero => simp [qArgs] at h
  | succ g =>
    unfold qArgs at h
    cases h1 : rStart ts p with
    | false =>
      rw [h1] at h
      simp only [Bool.false_eq_true, if_false, Option.some.injEq] at h
      exact .inl ⟨rfl, h.symm⟩
    | true =>
      rw [h1] at h
      simp only [if_true] at h
      cases h2 : qAtom g ts p with
      | none => rw [h2] at h; simp at h
      | some r =>
        rw [h2] at h
        cases r with
        | bad pb =>
          simp only [Option.some.injEq] at h
          exact .inr ⟨rfl, g, rfl, .inl ⟨pb, h2, h.symm⟩⟩
        | ok V q => exact .inr ⟨rfl, g, rfl, .inr ⟨V, q, h2, h⟩⟩
def RofL (x : ByteArray) : PL → PR
  | .ok l j => .ok (.mk 4 x 0 0 l) j
  | .bad p => .bad p
theorem qapp_cases {f : Nat} {ts : List Tok} {i : Nat} {R : PR} (h : qApp f ts i = some R) :
    ((tkK ts i == 2) = true ∧ ∃ L, qArgs f ts (i + 1) [] = some L ∧ R = RofL (txt ts i) L) ∨ ((tkK ts i == 2) = false ∧ qAtom f ts i = some R) := by
  unfold qApp at h
  cases h1 : (tkK ts i == 2) with
  | true =>
    rw [h1] at h
    simp only [if_true] at h
    cases h2 : qArgs f ts (i + 1) [] with
    | none => rw [h2] at h; simp at h
    | some L =>
      rw [h2] at h
      cases L with
      | bad p => simp only [Option.some.injEq] at h; exact .inl ⟨rfl, _, rfl, h.symm⟩
      | ok l j => simp only [Option.some.injEq] at h; exact .inl ⟨rfl, _, rfl, h.symm⟩
  | false =>
    rw [h1] at h
    simp only [Bool.false_eq_true, if_false] at h
    exact .inr ⟨rfl, h⟩

/-- The loop over the arguments. -/
structure ASt (w : World) (b n4 : Nat) (ts : List Tok) (p : Nat) (k : Int) (x : ByteArray) (q : Int) (av : Value) (acc : List Ty) (V : World) : Prop where
  z : ZSt w b ts p V
  head : V.heap[n4]? = some (.cells #[.int .i64 k, .string x, .int .i64 q] 76 (0, 0))
  row : RowG TyE V (n4 + 1) (fun c => n4 + 1 ≤ c) av acc
  le : w.heap.size + 1 ≤ n4
  lt : n4 + 1 ≤ V.heap.size
section
variable {w V V' : World} {b n4 : Nat} {ts : List Tok} {p p' : Nat} {k : Int} {x : ByteArray} {q : Int} {av : Value} {acc : List Ty}
theorem ASt.lift (h : ASt w b n4 ts p k x q av acc V) (hb : Below V.heap.size V V') : ASt w b n4 ts p k x q av acc V' :=
  ⟨h.z.lift hb, by rw [hb.block _ (Array.getElem?_eq_some_iff.1 h.head).1]; exact h.head, h.row.lift hb, h.le, Nat.le_trans h.lt hb.size⟩
theorem ASt.go (h : ASt w b n4 ts p k x q av acc V) (hr : PkX V' b ts p') (hg : V.grownBy V' (some b)) : ASt w b n4 ts p' k x q av acc V' := by
  have h1 := h.z.lt
  have h2 := h.le
  exact ⟨h.z.go hr hg, by rw [hg.block _ (Array.getElem?_eq_some_iff.1 h.head).1 (by intro e; have := Option.some.inj e; omega)]; exact h.head, h.row.kept hg (RowG.off h.row (by omega)) (fun c hc e => by have := Option.some.inj e; omega), h.le, Nat.le_trans h.lt hg.size⟩
theorem ASt.push (h : ASt w b n4 ts p k x q av acc V) {av' : Value} {X : Ty} (hrow : RowG TyE V' (n4 + 1) (fun c => n4 + 1 ≤ c) av' (acc ++ [X])) (hg : V.grownBy V' av.ownBlock) : ASt w b n4 ts p k x q av' (acc ++ [X]) V' := by
  have h1 := h.z.lt
  have h2 := h.le
  have hlt := fun R e => RowG.lt h.row R e
  have hz := h.z
  have hrd : PkX V' b ts p := by
    cases hv : av.ownBlock with
    | none => rw [hv] at hg; exact hz.rd.lift ⟨hg.os, hg.tape, hg.output, hg.size, fun i hi => hg.block i hi (by simp)⟩
    | some R => rw [hv] at hg; exact hz.rd.other (by have := (hlt R hv).1; omega) hg
  exact ⟨⟨Box.grown hz.zero hg (fun e => by have := (hlt _ e.symm).1; omega), hrd, grown_fresh hz.grown hg (fun R e => by have := (hlt R e).1; omega), hz.lt, Nat.le_trans hz.size hg.size⟩,
    by rw [hg.block _ (Array.getElem?_eq_some_iff.1 h.head).1 (fun e => by have := (hlt _ e.symm).1; omega)]; exact h.head, hrow, h.le, Nat.le_trans h.lt hg.size⟩
end

set_option maxHeartbeats 3200000 in
theorem applied_of (ts : List Tok) (f : Nat) (hf : f ≤ 900000) (HA : Hid (∀ g, g ≤ f → ∀ i, PkAt 131 ts i (qAtom g ts i))) (i : Nat) : PkAt 120 ts i (qApp f ts i) := by
  intro R hR b base w hbb hbase h
  have hok := h.ok
  have HS := Lib.hid (txt_size hok i)
  have HZ : Hid (ZSt w b ts i _) := zst_new h
  have hbw := h.lt
  clear h hok
  rcases qapp_cases hR with ⟨h2, L, hL, hRL⟩ | ⟨h2, hA⟩
  · have HL := Lib.hid hL
    have HRL : Hid (R = RofL (txt ts i) L) := hRL
    have h2' : (tkK ts i != 2) = false := by simp [bne, h2]
    have hlt : i < ts.length := tkK_lt (by simp at h2; omega)
    clear hR hL hRL
    go_enter Tryz.func120, Tryz.ntmps120
    go_upto_region 1 with fail
    generalize (w.alloc (.cells #[.int .i64 0, .string ⟨#[]⟩, .int .i64 0, .int .i64 0, .slice none 0 0] 32)) = V at *
    go_wp2_with fail
    go_at_call 122
    refine (pkTok_any b ts i V HZ.out.rd).mono ?_
    rintro e w1 ⟨rfl, hb1⟩
    have HZ1 := Lib.hid (HZ.out.lift hb1)
    clear hb1 HZ
    have HA2 : Hid (ASt w b w1.heap.size ts i (tkK ts i) (txt ts i) (tkP ts i) (.slice none 0 0) [] (w1.alloc (.cells #[.int .i64 (tkK ts i), .string (txt ts i), .int .i64 (tkP ts i)] 76))) :=
      ⟨HZ1.out.lift ((Below.refl _ w1).alloc (Nat.le_refl _) _), heap_alloc_new w1 _, rowG_nil _ _ _ _, HZ1.out.size, by simp⟩
    clear HZ1
    go_upto_region 4 with fail
    generalize (w1.alloc (.cells #[.int .i64 (tkK ts i), .string (txt ts i), .int .i64 (tkP ts i)] 76)) = V2 at *
    generalize w1.heap.size = n4 at *
    have hst := HA2.out.z.rd.step hlt
    obtain ⟨a, cap, c0, c1, f1, hcap, hT⟩ := HA2.out.z.rd.cells
    have hjl := HA2.out.z.rd.le.2
    have HA5 := Lib.hid (HA2.out.go hst.1 hst.2)
    clear hst hT hcap HA2
    go_upto_region 5 with fail
    clear c0 c1 f1
    generalize V2.setCell ⟨b, 1, none⟩ (.int .i64 ((i : Int) + 1)) = V5 at *
    clear h2 h2'
    generalize tkK ts i = k at *
    generalize txt ts i = x at *
    generalize tkP ts i = p0 at *
    go_wp2
    go_loopg [5] f (fun g av wr => ∃ (acc : List Ty) (p : Nat), Hid (qArgs g ts p acc = some L) ∧ acc.length + g ≤ f ∧ g ≤ f ∧ Hid (ASt w b n4 ts p k x p0 av acc wr))
    case atStart => exact ⟨[], i + 1, HL, by simp, Nat.le_refl _, HA5⟩
    case round =>
      obtain ⟨acc, p, HP, hal, hgf, HAr⟩ := hrel
      obtain ⟨sa, sc, rfl, -, -⟩ := HAr.out.row.slice
      have HS0 : Hid (∀ w', Calls Tryz.prog 132 #[.agg #[.int .i64 (tkK ts p), .string (txt ts p), .int .i64 (tkP ts p)]] w' fun e w'' => e = .returned (.bool (rStart ts p)) ∧ Below w'.heap.size w' w'') := fun w' => starts_any _ _ _ w'
      rcases qargs_cases HP.out with ⟨hq, rfl⟩ | ⟨hq, g', rfl, hcase⟩
      · rw [hq] at HS0
        have hRe : R = .ok (.mk 4 x 0 0 acc) p := HRL.out
        subst hRe
        clear hq HP HRL HL HA5
        go_wp2_with fail
        go_at_call 122
        refine (pkTok_any b ts p wr HAr.out.z.rd).mono ?_
        rintro e v1 ⟨rfl, hb1⟩
        have HA1 := Lib.hid (HAr.out.lift hb1)
        clear hb1 HAr
        go_wp2_with fail
        go_at_call 132
        refine (HS0.out v1).mono ?_
        rintro e v2 ⟨rfl, hb2⟩
        have HA2 := Lib.hid (HA1.out.lift hb2)
        clear hb2 HA1 HS0
        obtain ⟨⟨t0, t1, t2⟩, -⟩ := tok_cells HA2.out.head
        have hs2 := HA2.out.z.size
        have hle := HA2.out.le
        have HC : Hid (Calls Tryz.prog 133 #[.string x, .slice sa acc.length sc] v2 fun e w' => ∃ a c, e = .returned (.agg #[.int .i64 4, .string x, .int .i64 0, .int .i64 0, .slice a acc.length c]) ∧ RepL w' (fun c => w.heap.size + 1 ≤ c) acc (.slice a acc.length c) ∧ Below v2.heap.size v2 w') :=
          con_any x acc (by omega) sa sc (fun c => w.heap.size + 1 ≤ c) v2 (fun c hc => by omega) (slG_repL (HA2.out.row.slG (fun c hc => by omega) (fun c hc => by omega)))
        generalize acc.length = al at *
        go_wp2_with fail
        go_at_call 133
        refine HC.out.mono ?_
        rintro e v3 ⟨a3, c3, rfl, hr3, hb3⟩
        have HZ3 := Lib.hid (HA2.out.z.lift hb3)
        have HP3 : Hid (Rep v3 (fun c => w.heap.size + 1 ≤ c) (.mk 4 x 0 0 acc) _) := Rep.close HS.out hr3
        clear hr3 hb3 HC HA2 t0 t1 t2
        go_wp2_with (refine wpList_store5 rfl _ _ rfl _ _ _ _ _ _ HZ3.out.zero rfl _ _ _ _ _ _ _ rfl ?_; intro w7 hB7 hg7 hs7)
        obtain ⟨c0, c1, c2, c3', c4⟩ := hB7.cells
        refine bodyPost_ret (by simp [results, Tryz.results120, go_sem, c0, c1, c2, c3', c4]; try rfl) rfl ?_
        obtain ⟨e1, e2, e3⟩ := HZ3.out.fin hg7 hbase HP3.out
        exact ⟨_, _, _, _, rfl, e1, e2, e3, rfl, rfl, rfl⟩
      · rw [hq] at HS0
        clear hq
        rcases hcase with ⟨pb, hV, rfl⟩ | ⟨X, q, hV, hrest⟩
        · have HAt := Lib.hid (HA.out g' (by omega) p _ hV)
          have hRe : R = .bad pb := HRL.out
          subst hRe
          clear hV HP HRL HL HA5
          go_wp2_with fail
          go_at_call 122
          refine (pkTok_any b ts p wr HAr.out.z.rd).mono ?_
          rintro e v1 ⟨rfl, hb1⟩
          have HA1 := Lib.hid (HAr.out.lift hb1)
          clear hb1 HAr
          go_wp2_with fail
          go_at_call 132
          refine (HS0.out v1).mono ?_
          rintro e v2 ⟨rfl, hb2⟩
          have HA2 := Lib.hid (HA1.out.lift hb2)
          clear hb2 HA1 HS0
          have hs2 := HA2.out.z.size
          go_wp2_with fail
          go_at_call 131
          refine (HAt.out b (w.heap.size + 1) v2 (by omega) hs2 HA2.out.z.rd).mono ?_
          intro e v3 he
          obtain ⟨u, T, j, rfl, hrep, hrd, hg⟩ := he.bad
          have HZ3 := Lib.hid (HA2.out.z.go hrd hg)
          obtain ⟨uk, un, ui, uh, ua, um, uc, rfl⟩ := hrep.form
          have HZ4 := Lib.hid (HZ3.out.lift ((Below.refl _ v3).alloc (Nat.le_refl _) (.cells #[.int .i64 uk, .string un, .int .i64 ui, .int .i64 uh, .slice ua um uc] 32)))
          clear hrep hrd hg he HZ3 HAt HA2
          go_wp2_with (refine wpList_store5 rfl _ _ rfl _ _ _ _ _ _ HZ4.out.zero rfl _ _ _ _ _ _ _ rfl ?_; intro w7 hB7 hg7 hs7)
          obtain ⟨c0, c1, c2, c3, c4⟩ := hB7.cells
          refine bodyPost_ret (by simp [results, Tryz.results120, go_sem, c0, c1, c2, c3, c4]; try rfl) rfl ?_
          obtain ⟨e1, e2, e3⟩ := HZ4.out.leaf (base := base) hg7 0 ⟨#[]⟩ zero_ok
          exact ⟨_, _, _, _, rfl, e1, e2, e3, rfl⟩
        · have HAt := Lib.hid (HA.out g' (by omega) p _ hV)
          have HRest := Lib.hid hrest
          clear hV hrest HP HL HA5
          go_wp2_with fail
          go_at_call 122
          refine (pkTok_any b ts p wr HAr.out.z.rd).mono ?_
          rintro e v1 ⟨rfl, hb1⟩
          have HA1 := Lib.hid (HAr.out.lift hb1)
          clear hb1 HAr
          go_wp2_with fail
          go_at_call 132
          refine (HS0.out v1).mono ?_
          rintro e v2 ⟨rfl, hb2⟩
          have HA2 := Lib.hid (HA1.out.lift hb2)
          clear hb2 HA1 HS0
          have hs2 := HA2.out.z.size
          go_wp2_with fail
          go_at_call 131
          refine (HAt.out b v2.heap.size v2 (by omega) (Nat.le_refl _) HA2.out.z.rd).mono ?_
          intro e v3 he
          obtain ⟨u, rfl, hrep, hrd, hg⟩ := he.ok
          have HA3 := Lib.hid (HA2.out.go hrd hg)
          obtain ⟨uk, un, ui, uh, ua, um, uc, rfl⟩ := hrep.form
          have hbx : Below v3.heap.size v3 ((v3.alloc (.cells #[.int .i64 uk, .string un, .int .i64 ui, .int .i64 uh, .slice ua um uc] 32)).alloc (.cells #[.int .i64 uk, .string un, .int .i64 ui, .int .i64 uh, .slice ua um uc] 32)) := ((Below.refl _ v3).alloc (Nat.le_refl _) _).alloc (by simp) _
          have HA4 := Lib.hid (HA3.out.lift hbx)
          have hl2 := HA2.out.lt
          have HnB : Hid (∀ c, v2.heap.size ≤ c → n4 + 1 ≤ c ∧ some c ≠ (Value.slice sa acc.length sc).ownBlock) := fun c hc => ⟨by omega, fun e => by have := (RowG.lt HA2.out.row _ e.symm).2; omega⟩
          have HP4 : Hid (Rep ((v3.alloc (.cells #[.int .i64 uk, .string un, .int .i64 ui, .int .i64 uh, .slice ua um uc] 32)).alloc (.cells #[.int .i64 uk, .string un, .int .i64 ui, .int .i64 uh, .slice ua um uc] 32)) (fun c => n4 + 1 ≤ c ∧ some c ≠ (Value.slice sa acc.length sc).ownBlock) X (.agg [Value.int .i64 uk, .string un, .int .i64 ui, .int .i64 uh, .slice ua um uc].toArray)) := (hrep.lift hbx).imp HnB.out
          have hNb : acc.length + 1 ≤ 1000000 := by omega
          have hnb : n4 + 1 ≤ ((v3.alloc (.cells #[.int .i64 uk, .string un, .int .i64 ui, .int .i64 uh, .slice ua um uc] 32)).alloc (.cells #[.int .i64 uk, .string un, .int .i64 ui, .int .i64 uh, .slice ua um uc] 32)).heap.size := HA4.out.lt
          have HBk : Hid (((v3.alloc (.cells #[.int .i64 uk, .string un, .int .i64 ui, .int .i64 uh, .slice ua um uc] 32)).alloc (.cells #[.int .i64 uk, .string un, .int .i64 ui, .int .i64 uh, .slice ua um uc] 32)).heap[v3.heap.size + 1]? = some (.cells [Value.int .i64 uk, .string un, .int .i64 ui, .int .i64 uh, .slice ua um uc].toArray 32 (0, 0))) := by show _ = _; rw [heap_at, if_pos (by simp)]
          clear hrep hrd hg he HA3 HA2 HAt hbx
          go_wp2_with (at_builtin; refine wpList_pushG TyE rfl _ _ rfl (n4 + 1) (fun c => n4 + 1 ≤ c) (.slice sa acc.length sc) acc rfl HA4.out.row _ _ _ HBk.out rfl X HP4.out (acc.length + 1) rfl hNb hnb ?_; intro a' c' v5 hrow5 hg5)
          have HA5 := Lib.hid (HA4.out.push hrow5 hg5)
          clear hrow5 hg5 HA4 HBk HP4 HnB
          go_wp2
          go_roundg g'
          case measure => omega
          case rel => exact ⟨acc ++ [X], q, HRest, by simp; omega, by omega, HA5⟩
  · have HAt := Lib.hid (HA.out f (Nat.le_refl _) i R hA)
    have h2' : (tkK ts i != 2) = true := by simp [bne, h2]
    clear hR hA
    go_enter Tryz.func120, Tryz.ntmps120
    go_upto_region 1 with fail
    generalize (w.alloc (.cells #[.int .i64 0, .string ⟨#[]⟩, .int .i64 0, .int .i64 0, .slice none 0 0] 32)) = V at *
    go_wp2_with fail
    go_at_call 122
    refine (pkTok_any b ts i V HZ.out.rd).mono ?_
    rintro e w1 ⟨rfl, hb1⟩
    have HZ1 := Lib.hid (HZ.out.lift hb1)
    clear hb1 HZ
    have HZ2 := Lib.hid (HZ1.out.lift ((Below.refl _ w1).alloc (Nat.le_refl _) (.cells #[.int .i64 (tkK ts i), .string (txt ts i), .int .i64 (tkP ts i)] 76)))
    clear HZ1
    go_wp2_with fail
    go_at_call 131
    generalize (w1.alloc (.cells #[.int .i64 (tkK ts i), .string (txt ts i), .int .i64 (tkP ts i)] 76)) = V2 at *
    have hs2 := HZ2.out.size
    refine (HAt.out b (w.heap.size + 1) V2 (by omega) hs2 HZ2.out.rd).mono ?_
    rintro e w6 ⟨u, T, j, ev, rfl, hrep, hrd, hg, hp⟩
    have HZ6 := Lib.hid (HZ2.out.go hrd hg)
    have HP6 := Lib.hid hrep
    have HI6 := Lib.hid hp
    obtain ⟨uk, un, ui, uh, ua, um, uc, rfl⟩ := hrep.form
    clear hrep hrd hg hp HZ2
    go_wp2_with (refine wpList_store5 rfl _ _ rfl _ _ _ _ _ _ HZ6.out.zero rfl _ _ _ _ _ _ _ rfl ?_; intro w7 hB7 hg7 hs7)
    obtain ⟨c0, c1, c2, c3, c4⟩ := hB7.cells
    refine bodyPost_ret (by simp [results, Tryz.results120, go_sem, c0, c1, c2, c3, c4]; try rfl) rfl ?_
    obtain ⟨e1, e2, e3⟩ := HZ6.out.fin hg7 hbase HP6.out
    exact ⟨_, _, _, _, rfl, e1, e2, e3, HI6.out⟩
end Go.Proofs.YtgcefodgjhlbeaaGreatDoor

/- The package's reading of types: anyType; all by the fuel. -/
namespace Go.Proofs.YtgcefodgjhlbeaaGreatDoor
open Go.RowKit Go.Maps Mth

theorem qtype_app (f : Nat) (ts : List Tok) (i : Nat) : qType (f + 1) ts i = match qApp f ts i with
    | none => none
    | some (.bad p) => some (.bad p)
    | some (.ok T j) => qArrow f ts j T := by
  rw [qType]
  unfold qApp
  cases h1 : (tkK ts i == 2) with
  | true =>
    simp only [if_true]
    cases h2 : qArgs f ts (i + 1) [] with
    | none => rfl
    | some L => cases L <;> rfl
  | false => rfl
theorem qarrow_cases {g : Nat} {ts : List Tok} {j : Nat} {T : Ty} {R : PR} (h : qArrow g ts j T = some R) :
    (rMark ts j ⟨#[45, 62]⟩ = false ∧ R = .ok T j) ∨ (rMark ts j ⟨#[45, 62]⟩ = true ∧ ∃ g', g = g' + 1 ∧ ((∃ p, qType g' ts (j + 1) = some (.bad p) ∧ R = .bad p) ∨ (∃ U k, qType g' ts (j + 1) = some (.ok U k) ∧ R = .ok (con arrN [T, U]) k))) := by
  cases g with
  | zero => simp [qArrow] at h
  | succ g =>
    unfold qArrow at h
    cases h1 : rMark ts j ⟨#[45, 62]⟩ with
    | false =>
      rw [h1] at h
      simp only [Bool.false_eq_true, if_false, Option.some.injEq] at h
      exact .inl ⟨rfl, h.symm⟩
    | true =>
      rw [h1] at h
      simp only [if_true] at h
      cases h2 : qType g ts (j + 1) with
      | none => rw [h2] at h; simp at h
      | some r =>
        rw [h2] at h
        cases r with
        | bad p => simp only [Option.some.injEq] at h; exact .inr ⟨rfl, g, rfl, .inl ⟨p, h2, h.symm⟩⟩
        | ok U k => simp only [Option.some.injEq] at h; exact .inr ⟨rfl, g, rfl, .inr ⟨U, k, h2, h.symm⟩⟩
theorem arrN_ok' : arrN.size ≤ maxLen := by unfold maxLen; decide +kernel

set_option maxHeartbeats 3200000 in
theorem anyType_of (ts : List Tok) (f : Nat) (i : Nat) (HApp : PkAt 120 ts i (qApp f ts i)) (HT : Hid (∀ g, g ≤ f → ∀ i, PkAt 114 ts i (qType g ts i))) : PkAt 114 ts i (qType (f + 1) ts i) := by
  intro R hR b base w hbb hbase h
  have HZ : Hid (ZSt w b ts i _) := zst_new h
  have hbw := h.lt
  clear h
  rw [qtype_app] at hR
  cases ha : qApp f ts i with
  | none => rw [ha] at hR; simp at hR
  | some r0 =>
    rw [ha] at hR
    have HA := Lib.hid (HApp r0 ha)
    clear ha HApp
    cases r0 with
    | bad p =>
      simp only [Option.some.injEq] at hR
      subst hR
      go_enter Tryz.func114, Tryz.ntmps114
      go_upto_region 1 with fail
      generalize (w.alloc (.cells #[.int .i64 0, .string ⟨#[]⟩, .int .i64 0, .int .i64 0, .slice none 0 0] 32)) = V at *
      have hsz := HZ.out.size
      go_wp2_with fail
      go_at_call 120
      refine (HA.out b (w.heap.size + 1) V (by omega) hsz HZ.out.rd).mono ?_
      intro e w1 he
      obtain ⟨u, T, j, rfl, hrep, hrd, hg⟩ := he.bad
      have HZ1 := Lib.hid (HZ.out.go hrd hg)
      obtain ⟨uk, un, ui, uh, ua, um, uc, rfl⟩ := hrep.form
      have hba : Below w1.heap.size w1 (w1.alloc (.cells #[.int .i64 uk, .string un, .int .i64 ui, .int .i64 uh, .slice ua um uc] 32)) := (Below.refl _ w1).alloc (Nat.le_refl _) _
      have HZ2 := Lib.hid (HZ1.out.lift hba)
      have HP2 := Lib.hid (hrep.lift hba)
      clear hrep hrd hg he HZ HA HZ1 hba
      go_wp2_with (refine wpList_store5 rfl _ _ rfl _ _ _ _ _ _ HZ2.out.zero rfl _ _ _ _ _ _ _ rfl ?_; intro w4 hB4 hg4 hs4)
      obtain ⟨c0, c1, c2, c3, c4⟩ := hB4.cells
      refine bodyPost_ret (by simp [results, Tryz.results114, go_sem, c0, c1, c2, c3, c4]; try rfl) rfl ?_
      obtain ⟨e1, e2, e3⟩ := HZ2.out.fin hg4 hbase HP2.out
      exact ⟨_, _, _, _, rfl, e1, e2, e3, rfl⟩
    | ok T j =>
      have HR := Lib.hid (qarrow_cases hR)
      clear hR
      go_enter Tryz.func114, Tryz.ntmps114
      go_upto_region 1 with fail
      generalize (w.alloc (.cells #[.int .i64 0, .string ⟨#[]⟩, .int .i64 0, .int .i64 0, .slice none 0 0] 32)) = V at *
      have hsz := HZ.out.size
      go_wp2_with fail
      go_at_call 120
      refine (HA.out b (w.heap.size + 1) V (by omega) hsz HZ.out.rd).mono ?_
      intro e w1 he
      obtain ⟨u, rfl, hrep, hrd, hg⟩ := he.ok
      have HZ1 := Lib.hid (HZ.out.go hrd hg)
      obtain ⟨uk, un, ui, uh, ua, um, uc, rfl⟩ := hrep.form
      have hba : Below w1.heap.size w1 (w1.alloc (.cells #[.int .i64 uk, .string un, .int .i64 ui, .int .i64 uh, .slice ua um uc] 32)) := (Below.refl _ w1).alloc (Nat.le_refl _) _
      have HZ2 := Lib.hid (HZ1.out.lift hba)
      have HP2 := Lib.hid (hrep.lift hba)
      have HB2 : Hid (Box (w1.alloc (.cells #[.int .i64 uk, .string un, .int .i64 ui, .int .i64 uh, .slice ua um uc] 32)) w1.heap.size (.int .i64 uk) (.string un) (.int .i64 ui) (.int .i64 uh) (.slice ua um uc)) := Box.made _ _ _ _ _ _
      have hs1 := HZ1.out.size
      clear hrep hrd hg he HZ HA hba HZ1
      go_wp2_with fail
      go_at_call 122
      generalize (w1.alloc (.cells #[.int .i64 uk, .string un, .int .i64 ui, .int .i64 uh, .slice ua um uc] 32)) = V2 at *
      generalize w1.heap.size = n4 at *
      refine (pkTok_any b ts j V2 HZ2.out.rd).mono ?_
      rintro e w3 ⟨rfl, hb3⟩
      have HZ3 := Lib.hid (HZ2.out.lift hb3)
      have HP3 := Lib.hid (HP2.out.lift hb3)
      have HB3 := Lib.hid (Box.lift HB2.out hb3)
      clear hb3 HZ2 HP2 HB2
      go_wp2_with fail
      go_at_call 121
      refine (isMark_any (tkK ts j) (txt ts j) (tkP ts j) ⟨#[45, 62]⟩ w3).mono ?_
      rintro e w4 ⟨rfl, hb4⟩
      have HZ4 := Lib.hid (HZ3.out.lift hb4)
      have HP4 := Lib.hid (HP3.out.lift hb4)
      have HB4 := Lib.hid (Box.lift HB3.out hb4)
      clear hb4 HZ3 HP3 HB3
      have hm : (tkK ts j == 5 && (txt ts j).toList == (⟨#[45, 62]⟩ : ByteArray).toList) = rMark ts j ⟨#[45, 62]⟩ := rfl
      rw [hm]
      clear hm
      rcases HR.out with ⟨hq, rfl⟩ | ⟨hq, g', rfl, hcase⟩
      · rw [hq]
        clear hq HR
        obtain ⟨d0, d1, d2, d3, d4⟩ := HB4.out.cells
        go_wp2_with (refine wpList_store5 rfl _ _ rfl _ _ _ _ _ _ HZ4.out.zero rfl _ _ _ _ _ _ _ rfl ?_; intro w6 hB6 hg6 hs6)
        obtain ⟨c0, c1, c2, c3, c4⟩ := hB6.cells
        refine bodyPost_ret (by simp [results, Tryz.results114, go_sem, c0, c1, c2, c3, c4]; try rfl) rfl ?_
        obtain ⟨e1, e2, e3⟩ := HZ4.out.fin hg6 hbase HP4.out
        exact ⟨_, _, _, _, rfl, e1, e2, e3, rfl, rfl, rfl⟩
      · have hlt := rMark_lt hq
        rw [hq]
        clear hq
        have hst := HZ4.out.rd.step hlt
        obtain ⟨a, cap, c0, c1, f1, hcap, hTk⟩ := HZ4.out.rd.cells
        have hjl := HZ4.out.rd.le.2
        have HZ5 := Lib.hid (HZ4.out.go hst.1 hst.2)
        have HP5 := Lib.hid (HP4.out.kept (fun c hc => hc) (fun c hc hlt => hst.2.block c hlt (by intro e; have := Option.some.inj e; omega)))
        have HB5 := Lib.hid (Box.grown HB4.out hst.2 (by intro e; have := Option.some.inj e; omega))
        clear hst hTk hcap HP4 HB4 HZ4
        go_upto_region 5 with fail
        clear c0 c1 f1
        generalize w4.setCell ⟨b, 1, none⟩ (.int .i64 ((j : Int) + 1)) = V5 at *
        have hs5 := HZ5.out.size
        rcases hcase with ⟨p, hU, rfl⟩ | ⟨U, k, hU, rfl⟩
        · have HU := Lib.hid (HT.out g' (by omega) (j + 1) _ hU)
          clear hU HR
          go_wp2_with fail
          go_at_call 114
          refine (HU.out b (w.heap.size + 1) V5 (by omega) hs5 HZ5.out.rd).mono ?_
          intro e w6 he
          obtain ⟨u6, T6, j6, rfl, hrep, hrd, hg⟩ := he.bad
          have HZ6 := Lib.hid (HZ5.out.go hrd hg)
          obtain ⟨vk, vn, vi, vh, va, vm, vc, rfl⟩ := hrep.form
          have HZ7 := Lib.hid (HZ6.out.lift ((Below.refl _ w6).alloc (Nat.le_refl _) (.cells #[.int .i64 vk, .string vn, .int .i64 vi, .int .i64 vh, .slice va vm vc] 32)))
          clear hrep hrd hg he HZ6 HZ5 HU
          go_wp2_with (refine wpList_store5 rfl _ _ rfl _ _ _ _ _ _ HZ7.out.zero rfl _ _ _ _ _ _ _ rfl ?_; intro w8 hB8 hg8 hs8)
          obtain ⟨c0, c1, c2, c3, c4⟩ := hB8.cells
          refine bodyPost_ret (by simp [results, Tryz.results114, go_sem, c0, c1, c2, c3, c4]; try rfl) rfl ?_
          obtain ⟨e1, e2, e3⟩ := HZ7.out.leaf (base := base) hg8 0 ⟨#[]⟩ zero_ok
          exact ⟨_, _, _, _, rfl, e1, e2, e3, rfl⟩
        · have HU := Lib.hid (HT.out g' (by omega) (j + 1) _ hU)
          clear hU HR
          go_wp2_with fail
          go_at_call 114
          refine (HU.out b (w.heap.size + 1) V5 (by omega) hs5 HZ5.out.rd).mono ?_
          intro e w6 he
          obtain ⟨u6, rfl, hrep, hrd, hg⟩ := he.ok
          have HZ6 := Lib.hid (HZ5.out.go hrd hg)
          have HP6 := Lib.hid (HP5.out.kept (fun c hc => hc) (fun c hc hlt => hg.block c hlt (by intro e; have := Option.some.inj e; omega)))
          have HB6 := Lib.hid (Box.grown HB5.out hg (by intro e; have := Option.some.inj e; omega))
          obtain ⟨vk, vn, vi, vh, va, vm, vc, rfl⟩ := hrep.form
          have hba : Below w6.heap.size w6 (w6.alloc (.cells #[.int .i64 vk, .string vn, .int .i64 vi, .int .i64 vh, .slice va vm vc] 32)) := (Below.refl _ w6).alloc (Nat.le_refl _) _
          have HZ7 := Lib.hid (HZ6.out.lift hba)
          have HP7 := Lib.hid (HP6.out.lift hba)
          have HQ7 := Lib.hid (hrep.lift hba)
          obtain ⟨d0, d1, d2, d3, d4⟩ := (Box.lift HB6.out hba).cells
          have hs7 := HZ7.out.size
          have HAr := Lib.hid (arrow_any T U _ _ (fun c => w.heap.size + 1 ≤ c) _ (fun c hc => Nat.le_trans hs7 hc) HP7.out HQ7.out)
          have HB7 : Hid (Box (w6.alloc (.cells #[.int .i64 vk, .string vn, .int .i64 vi, .int .i64 vh, .slice va vm vc] 32)) w6.heap.size (.int .i64 vk) (.string vn) (.int .i64 vi) (.int .i64 vh) (.slice va vm vc)) := Box.made _ _ _ _ _ _
          clear hrep hrd hg he HZ6 HZ5 HU HP5 HB5 HP6 HB6 hba
          go_upto_region 8 with fail
          generalize (w6.alloc (.cells #[.int .i64 vk, .string vn, .int .i64 vi, .int .i64 vh, .slice va vm vc] 32)) = V7 at *
          generalize w6.heap.size = n6 at *
          obtain ⟨k0, k1, k2, k3, k4⟩ := HB7.out.cells
          go_wp2_with fail
          go_at_call 123
          refine HAr.out.mono ?_
          rintro e w8 ⟨a8, c8, rfl, hr8, hb8⟩
          have HZ8 := Lib.hid (HZ7.out.lift hb8)
          have HP8 : Hid (Rep w8 (fun c => w.heap.size + 1 ≤ c) (con arrN [T, U]) _) := Rep.close arrN_ok' hr8
          clear hr8 hb8 HZ7 HAr HB7 d0 d1 d2 d3 d4 k0 k1 k2 k3 k4
          go_wp2_with (refine wpList_store5 rfl _ _ rfl _ _ _ _ _ _ HZ8.out.zero rfl _ _ _ _ _ _ _ rfl ?_; intro w9 hB9 hg9 hs9)
          obtain ⟨c0, c1, c2, c3, c4⟩ := hB9.cells
          refine bodyPost_ret (by simp [results, Tryz.results114, go_sem, c0, c1, c2, c3, c4]; try rfl) rfl ?_
          obtain ⟨e1, e2, e3⟩ := HZ8.out.fin hg9 hbase HP8.out
          exact ⟨_, _, _, _, rfl, e1, e2, e3, rfl, rfl, rfl⟩

theorem pkAt_none (fid : Nat) (ts : List Tok) (i : Nat) : PkAt fid ts i none := fun R h => by cases h
theorem pk_all (ts : List Tok) : ∀ f, f ≤ 900000 → Hid (∀ g, g ≤ f → ∀ i, PkAt 131 ts i (qAtom g ts i)) ∧ Hid (∀ g, g ≤ f → ∀ i, PkAt 114 ts i (qType g ts i)) := by
  intro f
  induction f with
  | zero =>
    intro _
    refine ⟨fun g hg i => ?_, fun g hg i => ?_⟩
    · obtain rfl : g = 0 := Nat.le_zero.1 hg
      unfold qAtom; exact pkAt_none _ _ _
    · obtain rfl : g = 0 := Nat.le_zero.1 hg
      unfold qType; exact pkAt_none _ _ _
  | succ f ih =>
    intro hf
    obtain ⟨hA, hT⟩ := ih (by omega)
    refine ⟨fun g hg i => ?_, fun g hg i => ?_⟩
    · by_cases h : g ≤ f
      · exact hA.out g h i
      · obtain rfl : g = f + 1 := by omega
        exact atom_of ts i f (hT.out f (Nat.le_refl _) (i + 1))
    · by_cases h : g ≤ f
      · exact hT.out g h i
      · obtain rfl : g = f + 1 := by omega
        exact anyType_of ts f i (applied_of ts f (by omega) hA i) hT
theorem ptype_any (ts : List Tok) (f : Nat) (hf : f ≤ 900000) (i : Nat) : PkAt 114 ts i (qType f ts i) := (pk_all ts f hf).2.out f (Nat.le_refl _) i
end Go.Proofs.YtgcefodgjhlbeaaGreatDoor
