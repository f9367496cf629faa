/- The package's reader: its memory, and what each small method does. -/
import Derived.Test.YtbbplpmjpadgiaaGreatDoorTyXRef
import Derived.Test.YtbbplpmjpadgiaaGreatDoorTyAs2
namespace Go.Proofs.YtbbplpmjpadgiaaGreatDoor
open Go.RowKit Go.Maps Mth

/-- The kind and the offset of the token at an index; zero at the end. -/
def tkK (ts : List Tok) (i : Nat) : Int := match ts[i]? with | some t => t.kind | none => 0
def tkP (ts : List Tok) (i : Nat) : Int := match ts[i]? with | some t => t.pos | none => 0
/-- Is the next token a mark with this text? -/
def rMark (ts : List Tok) (i : Nat) (s : ByteArray) : Bool := tkK ts i == 5 && (txt ts i).toList == s.toList
def rStart (ts : List Tok) (i : Nat) : Bool := tkK ts i == 1 || tkK ts i == 2 || rMark ts i ⟨#[40]⟩
/-- The package's reader in its block, at a place. -/
def PkX (w : World) (b : Nat) (ts : List Tok) (i : Nat) : Prop := ∃ lv, w.heap[b]? = some (.cells #[lv, .int .i64 i] 113 (0, 0)) ∧ TokAt w (fun g => g < b) lv ts ∧ i ≤ ts.length ∧ TkOk ts
theorem PkX.lift {w w' : World} {b : Nat} {ts : List Tok} {i : Nat} (h : PkX w b ts i) (hb : Below w.heap.size w w') : PkX w' b ts i := by
  obtain ⟨lv, h1, h2, h3⟩ := h
  refine ⟨lv, ?_, h2.lift hb, h3⟩
  rw [hb.block _ (Array.getElem?_eq_some_iff.1 h1).1, h1]
theorem PkX.other {w w' : World} {b R : Nat} {ts : List Tok} {i : Nat} (h : PkX w b ts i) (hR : b < R) (hg : w.grownBy w' (some R)) : PkX w' b ts i := by
  obtain ⟨lv, h1, h2, h3⟩ := h
  refine ⟨lv, ?_, h2.grown (fun g hg => by omega) hg, h3⟩
  rw [hg.block b (Array.getElem?_eq_some_iff.1 h1).1 (by intro e; have := Option.some.inj e; omega), h1]
theorem PkX.lt {w : World} {b : Nat} {ts : List Tok} {i : Nat} (h : PkX w b ts i) : b < w.heap.size := by
  obtain ⟨lv, h1, _⟩ := h
  exact (Array.getElem?_eq_some_iff.1 h1).1
theorem PkX.le {w : World} {b : Nat} {ts : List Tok} {i : Nat} (h : PkX w b ts i) : i ≤ ts.length ∧ ts.length ≤ 100000 := by
  obtain ⟨lv, _, _, h3, h4⟩ := h
  exact ⟨h3, h4.1⟩
theorem PkX.ok {w : World} {b : Nat} {ts : List Tok} {i : Nat} (h : PkX w b ts i) : TkOk ts := by
  obtain ⟨lv, _, _, _, h4⟩ := h
  exact h4
theorem PkX.cells {w : World} {b : Nat} {ts : List Tok} {i : Nat} (h : PkX w b ts i) : ∃ a cap, w.cell? ⟨b, 0, none⟩ = some (.slice a ts.length cap) ∧ w.cell? ⟨b, 1, none⟩ = some (.int .i64 i) ∧ w.frozen? ⟨b, 1, none⟩ = false ∧ (ts.length ≤ cap ∧ cap ≤ maxLen) ∧ TokAt w (fun g => g < b) (.slice a ts.length cap) ts := by
  obtain ⟨lv, h1, h2, h3⟩ := h
  obtain ⟨a, cap, rfl, hcap, hc⟩ := h2
  exact ⟨a, cap, by simp [World.cell?, h1], by simp [World.cell?, h1], by simp [World.frozen?, h1], hcap, a, cap, rfl, hcap, hc⟩
theorem PkX.step {w : World} {b : Nat} {ts : List Tok} {i : Nat} (h : PkX w b ts i) (hi : i < ts.length) :
    PkX (w.setCell ⟨b, 1, none⟩ (.int .i64 ((i : Int) + 1))) b ts (i + 1) ∧ w.grownBy (w.setCell ⟨b, 1, none⟩ (.int .i64 ((i : Int) + 1))) (some b) := by
  obtain ⟨lv, hr, ht, _, hl⟩ := h
  have hset := set1 hr 1 (.int .i64 ((i : Int) + 1))
  refine ⟨⟨lv, ?_, ht.grown (fun g hg => by omega) hset.2.1, hi, hl⟩, hset.2.1⟩
  rw [hset.1]
  simp

theorem isMark_any (k : Int) (x : ByteArray) (p : Int) (s : ByteArray) (w : World) :
    Calls Tryz.prog 71 #[.agg #[.int .i64 k, .string x, .int .i64 p], .string s] w fun e w' => e = .returned (.bool (k == 5 && x.toList == s.toList)) ∧ Below w.heap.size w w' := by
  have hb : Below w.heap.size w (w.alloc (.cells #[.int .i64 k, .string x, .int .i64 p] 44)) := (Below.refl _ w).alloc (Nat.le_refl _) _
  have HB := Lib.hid hb
  clear hb
  cases h5 : (k == 5) <;> cases hs : (x.toList == s.toList)
  all_goals
    go_enter Tryz.func71, Tryz.ntmps71
    go_wp2
    go_ret
    exact ⟨rfl, HB.out⟩
theorem starts_any (k : Int) (x : ByteArray) (p : Int) (w : World) :
    Calls Tryz.prog 74 #[.agg #[.int .i64 k, .string x, .int .i64 p]] w fun e w' => e = .returned (.bool (k == 1 || k == 2 || (k == 5 && x.toList == (⟨#[40]⟩ : ByteArray).toList))) ∧ Below w.heap.size w w' := by
  have hb : Below w.heap.size w (w.alloc (.cells #[.int .i64 k, .string x, .int .i64 p] 44)) := (Below.refl _ w).alloc (Nat.le_refl _) _
  have HB := Lib.hid hb
  have HM := Lib.hid (fun w => isMark_any k x p ⟨#[40]⟩ w)
  clear hb
  generalize (k == 5 && x.toList == (⟨#[40]⟩ : ByteArray).toList) = m at *
  cases h1 : (k == 1)
  · cases h2 : (k == 2)
    · go_enter Tryz.func74, Tryz.ntmps74
      go_wp2_with (go_at_call 71; refine (HM.out _).mono ?_; rintro e w1 ⟨rfl, hb1⟩)
      go_ret
      exact ⟨rfl, HB.out.trans (hb1.mono HB.out.size)⟩
    · go_enter Tryz.func74, Tryz.ntmps74
      go_wp2
      go_ret
      exact ⟨rfl, HB.out⟩
  · go_enter Tryz.func74, Tryz.ntmps74
    go_wp2
    go_ret
    exact ⟨rfl, HB.out⟩
/-- A token's result. -/
theorem setTok {w : World} {n : Nat} {c0 c1 c2 : Value} (h : w.heap[n]? = some (.cells #[c0, c1, c2] 44 (0, 0))) (v0 v1 v2 : Value) :
    (((w.setCell ⟨n, 0, none⟩ v0).setCell ⟨n, 1, none⟩ v1).setCell ⟨n, 2, none⟩ v2).heap[n]? = some (.cells #[v0, v1, v2] 44 (0, 0)) ∧ w.grownBy (((w.setCell ⟨n, 0, none⟩ v0).setCell ⟨n, 1, none⟩ v1).setCell ⟨n, 2, none⟩ v2) (some n) := by
  obtain ⟨a0, g0, _⟩ := set1 h 0 v0
  obtain ⟨a1, g1, _⟩ := set1 a0 1 v1
  obtain ⟨a2, g2, _⟩ := set1 a1 2 v2
  refine ⟨?_, grown_trans (grown_trans g0 g1) g2⟩
  rw [a2]
  simp
theorem tok_cells {w : World} {n : Nat} {c0 c1 c2 : Value} (h : w.heap[n]? = some (.cells #[c0, c1, c2] 44 (0, 0))) : (w.cell? ⟨n, 0, none⟩ = some c0 ∧ w.cell? ⟨n, 1, none⟩ = some c1 ∧ w.cell? ⟨n, 2, none⟩ = some c2) ∧ w.frozen? ⟨n, 0, none⟩ = false ∧ w.frozen? ⟨n, 1, none⟩ = false ∧ w.frozen? ⟨n, 2, none⟩ = false := by
  simp [World.cell?, World.frozen?, h]
set_option maxHeartbeats 1600000 in
theorem pkTok_any (b : Nat) (ts : List Tok) (i : Nat) (w : World) (h : PkX w b ts i) :
    Calls Tryz.prog 72 #[.pointer (some ⟨b, 0, none⟩)] w fun e w' => e = .returned (.agg #[.int .i64 (tkK ts i), .string (txt ts i), .int .i64 (tkP ts i)]) ∧ Below w.heap.size w w' := by
  have hbl := h.lt
  obtain ⟨hi, hl⟩ := h.le
  have hb : Below w.heap.size w (w.alloc (.cells #[.int .i64 0, .string ⟨#[]⟩, .int .i64 0] 44)) := (Below.refl _ w).alloc (Nat.le_refl _) _
  have HP := Lib.hid (h.lift hb)
  have hn : (w.alloc (.cells #[.int .i64 0, .string ⟨#[]⟩, .int .i64 0] 44)).heap[w.heap.size]? = some (.cells #[.int .i64 0, .string ⟨#[]⟩, .int .i64 0] 44 (0, 0)) := heap_alloc_new w _
  have HN := Lib.hid hn
  have HB := Lib.hid hb
  clear h hb hn
  by_cases hlt : i < ts.length
  · obtain ⟨t, ht⟩ : ∃ x, ts[i]? = some x := ⟨_, List.getElem?_eq_getElem hlt⟩
    have HE : Hid ((tkK ts i, txt ts i, tkP ts i) = (t.kind, ⟨t.text.toArray⟩, (t.pos : Int))) := by show _ = _; unfold tkK txt tkP; rw [ht]
    have HT := Lib.hid ht
    clear ht
    have hli : ((i : Int) == (ts.length : Int)) = false := by simp; omega
    have hlj : (i == ts.length) = false := by simp; omega
    have hlk : ((i : Int) < (ts.length : Int)) := by omega
    go_enter Tryz.func72, Tryz.ntmps72
    go_upto_region 1 with fail
    generalize (w.alloc (.cells #[.int .i64 0, .string ⟨#[]⟩, .int .i64 0] 44)) = V at *
    obtain ⟨a, cap, c0, c1, f1, hcap, hT⟩ := HP.out.cells
    go_quiet (fail)
    have hq : Below V.heap.size V (V.drewN nq) := below_drewN (Below.refl _ V) nq
    have HP2 := Lib.hid (HP.out.lift hq)
    have HB2 := Lib.hid (HB.out.trans (hq.mono HB.out.size))
    have HN2 : Hid ((V.drewN nq).heap[w.heap.size]? = some (.cells #[.int .i64 0, .string ⟨#[]⟩, .int .i64 0] 44 (0, 0))) := by show _ = _; rw [hq.block _ (Array.getElem?_eq_some_iff.1 HN.out).1]; exact HN.out
    clear hq HP HB HN c0 c1 f1 hT hcap
    generalize V.drewN nq = V2 at *
    obtain ⟨a, cap, c0, c1, f1, hcap, hT⟩ := HP2.out.cells
    obtain ⟨a', cap', hv, -, hc⟩ := hT
    obtain ⟨g, ha, hg, d0, d1, d2⟩ := hc i t HT.out
    have hva : a = some ⟨g, 0, none⟩ := by simp at hv; rw [hv.1, ha]
    subst hva
    clear hc hv ha
    obtain ⟨⟨n0, n1, n2⟩, m0, m1, m2⟩ := tok_cells HN2.out
    have hne : w.heap.size ≠ g := by omega
    have hne2 : w.heap.size ≠ b := by omega
    obtain ⟨hn3, hg3⟩ := setTok HN2.out (.int .i64 t.kind) (.string ⟨t.text.toArray⟩) (.int .i64 t.pos)
    have HN3 := Lib.hid hn3
    have HG3 := Lib.hid hg3
    clear hn3 hg3
    go_wp2
    go_region
    all_goals
      generalize (((V2.setCell ⟨w.heap.size, 0, none⟩ (.int .i64 t.kind)).setCell ⟨w.heap.size, 1, none⟩ (.string ⟨t.text.toArray⟩)).setCell ⟨w.heap.size, 2, none⟩ (.int .i64 t.pos)) = V3 at *
      clear c0 c1 f1 d0 d1 d2 n0 n1 n2 m0 m1 m2
      obtain ⟨⟨n0, n1, n2⟩, -⟩ := tok_cells HN3.out
      have n0' : V3.drew.cell? ⟨w.heap.size, 0, none⟩ = some (.int .i64 t.kind) := n0
      have n1' : V3.drew.cell? ⟨w.heap.size, 1, none⟩ = some (.string ⟨t.text.toArray⟩) := n1
      have n2' : V3.drew.cell? ⟨w.heap.size, 2, none⟩ = some (.int .i64 t.pos) := n2
      go_wp2
      refine bodyPost_ret (by simp [results, Tryz.results72, go_sem, n0', n1', n2']; try rfl) rfl ?_
      have he := HE.out
      simp only [Prod.mk.injEq] at he
      obtain ⟨e1, e2, e3⟩ := he
      exact ⟨by rw [e1, e2, e3], (Below.grown HB2.out HG3.out HB2.out.size (fun k hk => by have := Option.some.inj hk; omega)).drew⟩
  · have hie : i = ts.length := by omega
    have HE : Hid ((tkK ts i, txt ts i, tkP ts i) = ((0 : Int), (⟨#[]⟩ : ByteArray), (0 : Int))) := by show _ = _; unfold tkK txt tkP; rw [List.getElem?_eq_none (by omega)]
    have hli : ((i : Int) == (ts.length : Int)) = true := by simp; omega
    have hlj : (i == ts.length) = true := by simp; omega
    clear hlt
    go_enter Tryz.func72, Tryz.ntmps72
    go_upto_region 1 with fail
    generalize (w.alloc (.cells #[.int .i64 0, .string ⟨#[]⟩, .int .i64 0] 44)) = V at *
    obtain ⟨a, cap, c0, c1, f1, hcap, hT⟩ := HP.out.cells
    clear hT hie
    go_quiet (fail)
    have hq : Below V.heap.size V (V.drewN nq) := below_drewN (Below.refl _ V) nq
    have HB2 := Lib.hid (HB.out.trans (hq.mono HB.out.size))
    have HN2 : Hid ((V.drewN nq).heap[w.heap.size]? = some (.cells #[.int .i64 0, .string ⟨#[]⟩, .int .i64 0] 44 (0, 0))) := by show _ = _; rw [hq.block _ (Array.getElem?_eq_some_iff.1 HN.out).1]; exact HN.out
    clear hq HP HB HN c0 c1 f1 hcap
    generalize V.drewN nq = V2 at *
    obtain ⟨⟨n0, n1, n2⟩, m0, m1, m2⟩ := tok_cells HN2.out
    obtain ⟨hn3, hg3⟩ := setTok HN2.out (.int .i64 0) (.string ⟨#[]⟩) (.int .i64 0)
    have HN3 := Lib.hid hn3
    have HG3 := Lib.hid hg3
    clear hn3 hg3
    go_wp2
    generalize (((V2.setCell ⟨w.heap.size, 0, none⟩ (.int .i64 0)).setCell ⟨w.heap.size, 1, none⟩ (.string ⟨#[]⟩)).setCell ⟨w.heap.size, 2, none⟩ (.int .i64 0)) = V3 at *
    clear n0 n1 n2 m0 m1 m2
    obtain ⟨⟨n0, n1, n2⟩, -⟩ := tok_cells HN3.out
    refine bodyPost_ret (by simp [results, Tryz.results72, go_sem, n0, n1, n2]; try rfl) rfl ?_
    have he := HE.out
    simp only [Prod.mk.injEq] at he
    obtain ⟨e1, e2, e3⟩ := he
    exact ⟨by rw [e1, e2, e3], Below.grown HB2.out HG3.out HB2.out.size (fun k hk => by have := Option.some.inj hk; omega)⟩
end Go.Proofs.YtbbplpmjpadgiaaGreatDoor
