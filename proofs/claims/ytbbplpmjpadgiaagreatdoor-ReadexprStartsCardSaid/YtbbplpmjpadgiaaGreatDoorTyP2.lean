/- The package's reader: the unexpected token; types.Con and types.Arrow. -/
import Derived.Test.YtbbplpmjpadgiaaGreatDoorTyP1
namespace Go.Proofs.YtbbplpmjpadgiaaGreatDoor
open Go.RowKit Go.Maps Mth

set_option maxHeartbeats 1600000 in
theorem end_any (ts : List Tok) (hok : TkOk ts) (S : Nat → Prop) (lv : Value) (w : World) (h : TokAt w S lv ts) :
    Calls Tryz.prog 114 #[lv] w fun e w' => e = .returned (.int .i64 (posAt ts ts.length)) ∧ Below w.heap.size w w' := by
  have HT := Lib.hid h
  have hl := hok.1
  obtain ⟨a, cap, rfl, hcap, hc⟩ := h
  have HC := Lib.hid hc
  clear hc
  cases hlast : ts[ts.length - 1]? with
  | none =>
    have h0 : ts.length = 0 := by rw [List.getElem?_eq_none_iff] at hlast; omega
    have HE : Hid (posAt ts ts.length = 0) := by show _ = _; unfold posAt; rw [List.getElem?_eq_none (by omega), hlast]
    have h00 : ((ts.length : Int) == 0) = true := by rw [h0]; rfl
    have h01 : (ts.length == 0) = true := by rw [h0]; rfl
    clear hlast h0
    go_enter Tryz.func114, Tryz.ntmps114
    go_wp2
    go_ret
    exact ⟨ret_int HE.out.symm, Below.refl _ w⟩
  | some t =>
    have h0 : 0 < ts.length := by have := (List.getElem?_eq_some_iff.1 hlast).1; omega
    have HE : Hid (posAt ts ts.length = (t.pos : Int) + t.text.length) := by show _ = _; unfold posAt; rw [List.getElem?_eq_none (Nat.le_refl _), hlast]
    obtain ⟨g, rfl, -⟩ := HC.out _ t hlast
    obtain ⟨tl, tp⟩ := hok.2 t (List.mem_of_getElem? hlast)
    have HSz : Hid ((⟨t.text.toArray⟩ : ByteArray).size = t.text.length) := by show _ = _; rw [← bl_len, bl_mk]
    obtain ⟨m, hm⟩ : ∃ m, ts.length = m + 1 := ⟨ts.length - 1, by omega⟩
    have HTm : Hid (ts[m]? = some t) := by show _ = _; rw [← hlast, hm]; rfl
    obtain ⟨g', hg', -, d0, d1, d2⟩ := HC.out m t HTm.out
    obtain rfl : g' = g := by simp at hg'; exact hg'.symm
    have hm1 : m < ts.length := by omega
    have hm2 : (m : Int) < (ts.length : Int) := by omega
    have hm0 : (0 : Int) ≤ (m : Int) := by omega
    have hWr : IntKind.i64.wrap ((ts.length : Int) - 1) = (m : Int) := by rw [IntKind.wrap_i64]; omega
    have h00 : ((ts.length : Int) == 0) = false := by rw [beq_eq_false_iff_ne]; omega
    have h01 : (ts.length == 0) = false := by rw [beq_eq_false_iff_ne]; omega
    have htp : 0 ≤ (t.pos : Int) ∧ (t.pos : Int) ≤ 1000000000 := by omega
    clear hlast hg' hm
    generalize (⟨t.text.toArray⟩ : ByteArray) = tx at *
    have htx : tx.size ≤ 4000 := by rw [HSz.out]; exact tl
    have hw2 : IntKind.i64.wrap ((t.pos : Int) + (tx.size : Int)) = (t.pos : Int) + (tx.size : Int) := by rw [IntKind.wrap_i64]; omega
    have hal : Below w.heap.size w (w.alloc (.cells #[.int .i64 t.kind, .string tx, .int .i64 t.pos] 44)) := (Below.refl _ w).alloc (Nat.le_refl _) _
    have HAl := Lib.hid hal
    clear hal
    go_enter Tryz.func114, Tryz.ntmps114
    go_wp2
    go_ret
    exact ⟨ret_int (by rw [HE.out, HSz.out]), HAl.out⟩
set_option maxHeartbeats 1600000 in
theorem unexpected_any (b : Nat) (ts : List Tok) (i : Nat) (w : World) (h : PkX w b ts i) :
    Calls Tryz.prog 75 #[.pointer (some ⟨b, 0, none⟩)] w fun e w' => e = .returned (.iface 151 (.agg #[.int .i64 (posAt ts i)])) ∧ Below w.heap.size w w' := by
  have HP := Lib.hid h
  obtain ⟨hi, hl⟩ := h.le
  clear h
  obtain ⟨a, cap, c0, c1, f1, hcap, hT⟩ := HP.out.cells
  by_cases hlt : i < ts.length
  · obtain ⟨t, ht⟩ : ∃ x, ts[i]? = some x := ⟨_, List.getElem?_eq_getElem hlt⟩
    have HE : Hid (posAt ts i = t.pos) := by show _ = _; unfold posAt; rw [ht]
    obtain ⟨a', cap', hv, -, hc⟩ := hT
    obtain ⟨g, ha, hg, d0, d1, d2⟩ := hc i t ht
    have hva : a = some ⟨g, 0, none⟩ := by simp at hv; rw [hv.1, ha]
    subst hva
    clear hc hv ha ht
    have hlk : ((i : Int) < (ts.length : Int)) := by omega
    go_enter Tryz.func75, Tryz.ntmps75
    go_wp2
    go_quiet (fail)
    go_wp2
    go_quiet (fail)
    go_wp2
    go_ret
    exact ⟨by rw [HE.out]; rfl, below_drewN (below_drewN (Below.refl _ w) _) _⟩
  · obtain rfl : i = ts.length := by omega
    have HEn : Hid (∀ V, Below w.heap.size w V → Calls Tryz.prog 114 #[.slice a ts.length cap] V fun e w' => e = .returned (.int .i64 (posAt ts ts.length)) ∧ Below V.heap.size V w') := fun V hb => end_any ts HP.out.ok _ _ V (hT.lift hb)
    have HCl : Hid (∀ V, Below w.heap.size w V → V.cell? ⟨b, 0, none⟩ = some (.slice a ts.length cap)) := fun V hb => by
      obtain ⟨a2, cap2, x0, -⟩ := (HP.out.lift hb).cells
      have := hb.cell (p := ⟨b, 0, none⟩) HP.out.lt
      rw [this]; exact c0
    clear hT hlt
    have hlk : decide ((ts.length : Int) < (ts.length : Int)) = false := by simp
    go_enter Tryz.func75, Tryz.ntmps75
    go_wp2
    go_quiet (fail)
    have hq : Below w.heap.size w (w.drewN nq) := below_drewN (Below.refl _ w) nq
    have HQ := Lib.hid hq
    have hc0 := HCl.out _ hq
    clear hq c0 c1 f1
    generalize w.drewN nq = V at *
    go_wp2_with fail
    go_at_call 114
    refine (HEn.out V HQ.out).mono ?_
    rintro e w1 ⟨rfl, hb1⟩
    go_wp2
    go_ret
    exact ⟨rfl, HQ.out.trans (hb1.mono HQ.out.size)⟩

/-- An empty row that was just laid. -/
theorem rowT_empty {w : World} {n : Nat} {Z : TypeId} (hZ : Z = 30) (hn : n = w.heap.size) (base : Nat) (hb : base ≤ n) (S : Nat → Prop) : RowT (w.alloc (.cells #[] Z)) base S (.slice (some ⟨n, 0, none⟩) 0 0) [] := by
  subst hn hZ
  exact ⟨[], ⟨rfl, .inr ⟨w.heap.size, 0, #[], rfl, hb, heap_alloc_new w _, Nat.le_refl _, Nat.zero_le _, rfl, rfl⟩⟩, rfl, fun j T h => by simp at h⟩
set_option maxRecDepth 100000 in
set_option maxHeartbeats 1600000 in
theorem clone_any (ts : List Ty) (hl : ts.length ≤ 1000000) (v : Value) (S : Nat → Prop) (w : World) (hS : ∀ b, w.heap.size ≤ b → S b) (h : RepL w S ts v) :
    Calls Tryz.prog 115 #[v] w fun e w' => ∃ a c, e = .returned (.slice a ts.length c) ∧ RepL w' S ts (.slice a ts.length c) ∧ Below w.heap.size w w' := by
  have HR := Lib.hid h
  obtain ⟨a, cap, rfl, hcap, hj⟩ := h
  clear hj
  cases a with
  | none =>
    obtain ⟨rfl, h0⟩ := repL_none HR.out
    clear h0
    have hq : ∀ w, (binOp .eql 28 (.slice none 0 cap) (.slice none 0 0)).run Tryz.prog w = .ok (.bool true) w := fun w => Lib.run_eql_slice_nil w 28 30 none 0 cap 0 0 Tryz.underlying28
    go_enter Tryz.func115, Tryz.ntmps115
    go_wp2
    go_ret
    exact ⟨none, 0, rfl, repL_nil _ _, Below.refl _ w⟩
  | some ad =>
    obtain ⟨m, hm⟩ : ∃ m, m = ts.length := ⟨_, rfl⟩
    rw [← hm] at hl hcap ⊢
    have HM := Lib.hid hm
    clear hm
    have hb0 : Below w.heap.size w (w.alloc (.cells #[] 30)) := (Below.refl _ w).alloc (Nat.le_refl _) _
    have hnews : ∀ j T, ts[j]? = some T → ∃ y, Five (w.alloc (.cells #[] 30)) ad j y ∧ Rep (w.alloc (.cells #[] 30)) (fun b => (b < w.heap.size ∧ S b) ∧ some b ≠ (Value.slice (some ⟨w.heap.size, 0, none⟩) 0 0).ownBlock) T y := by
      intro j T hj
      obtain ⟨a', c', hv', _, hr'⟩ := HR.out
      simp at hv'
      obtain ⟨rfl, rfl⟩ := hv'
      obtain ⟨ad', y, e, _, h5, hrep⟩ := hr' j T hj
      cases e
      exact ⟨y, h5.kept (hb0.block _ h5.lt), (hrep.bound.lift hb0).imp fun b hb => ⟨⟨hb.2, hb.1⟩, by simp [Value.ownBlock]; have := hb.2; omega⟩⟩
    have HN := Lib.hid hnews
    have HB0 := Lib.hid hb0
    have HRw : Hid (RowT (w.alloc (.cells #[] 30)) w.heap.size (fun b => b < w.heap.size ∧ S b) (.slice (some ⟨w.heap.size, 0, none⟩) 0 0) []) := rowT_empty rfl rfl _ (Nat.le_refl _) _
    have hsz : w.heap.size ≤ (w.alloc (.cells #[] 30)).heap.size := hb0.size
    clear hnews hb0
    have hq : ∀ w, (binOp .eql 28 (.slice (some ad) m cap) (.slice none 0 0)).run Tryz.prog w = .ok (.bool false) w := fun w => Lib.run_eql_slice_nil w 28 30 (some ad) m cap 0 0 Tryz.underlying28
    go_enter Tryz.func115, Tryz.ntmps115
    go_wp2_with (at_builtin; refine wpList_pushT rfl _ _ rfl w.heap.size (fun b => b < w.heap.size ∧ S b) (.slice (some ⟨w.heap.size, 0, none⟩) 0 0) [] rfl HRw.out _ _ _ rfl ts HM.out.symm HN.out m (by simp) hl hsz ?_; intro a1 c1 w1 hrow hg hloc)
    go_ret
    exact ⟨a1, c1, rfl, hrow.repL (fun b hb => hb.2) (fun b hb => hS b hb), Below.grown HB0.out hg HB0.out.size (fun k hk => by simp [Value.ownBlock] at hk; omega)⟩
end Go.Proofs.YtbbplpmjpadgiaaGreatDoor
