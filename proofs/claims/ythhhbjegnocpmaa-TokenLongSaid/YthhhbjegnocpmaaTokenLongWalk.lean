/- The walk of the law TokenLong. -/
import Derived.Test.YthhhbjegnocpmaaLaw2
import Derived.Test.YthhhbjegnocpmaaRefScan
import Derived.Laws.BytesString
import Derived.Laws.Cells
namespace Go.Proofs.Ythhhbjegnocpmaa.tokenLong
open Go.RowKit Mth

theorem Try.info5 : (Try.prog.info? 5).map (fun i => (i.zero, i.size, i.bytes)) = some (some (.int .u8 0), 1, 1) := by kernel_rfl

/-- A byte as a cell. -/
def u8 (b : UInt8) : Value := .int .u8 b.toNat
theorem push_all : ∀ (l acc : List UInt8), (l.map fun b => (b.toNat : Int)).foldl (fun r n => r.push (UInt8.ofNat n.toNat)) (⟨acc.toArray⟩ : ByteArray) = ⟨(acc ++ l).toArray⟩ := by
  intro l
  induction l with
  | nil => intro acc; simp
  | cons b l ih =>
    intro acc
    have e : (⟨acc.toArray⟩ : ByteArray).push (UInt8.ofNat (b.toNat : Int).toNat) = ⟨(acc ++ [b]).toArray⟩ := by
      apply ByteArray.ext; simp [ByteArray.push]
    rw [List.map_cons, List.foldl_cons, e, ih]
    simp
/-- A row of bytes as a string. -/
theorem conv_row {W : World} {base g n cap : Nat} {l : List UInt8} (h : W.ownsRow base 5 1 (.slice (some ⟨g, 0, none⟩) n cap) n (l.map u8)) :
    (convert 35 9 (.slice (some ⟨g, 0, none⟩) n cap)).run Try.prog W = .ok (.string ⟨l.toArray⟩) W := by
  have hl : l.length = n := by have := h.1; simp at this; exact this
  have hc : (loadCells ⟨g, 0, none⟩ n).run Try.prog W = .ok ((l.map fun b => (b.toNat : Int)).map (Value.int .u8)).toArray W := by
    have := run_loadCells_list (P := Try.prog) (w := W) ⟨g, 0, none⟩ (l.map u8) (fun j v hv => h.cells (g := g) rfl j v hv)
    rw [List.length_map, hl] at this
    rw [this]
    simp [u8, Function.comp_def]
  rw [run_convert_bytes_string W 35 9 5 _ _ _ Try.underlying35 Try.underlying5 Try.underlying9, run_bytesToString W _ _ _ _ hc]
  have := push_all l []
  rw [show (⟨([] : List UInt8).toArray⟩ : ByteArray) = ByteArray.empty from rfl] at this
  rw [this]; rfl
/-- The bytes while the loop runs: j spaces, then zeros. -/
def fillN (n j : Nat) : List UInt8 := List.replicate j 32 ++ List.replicate (n - j) 0
theorem fill_start (n : Nat) : (fillN n 0).map u8 = List.replicate n (.int .u8 0) := by unfold fillN u8; simp
theorem fill_get {n j : Nat} (h : j < n) : ((fillN n j).map u8)[j]? = some (.int .u8 0) := by
  unfold fillN
  rw [List.getElem?_map, List.getElem?_append_right (by simp), List.getElem?_replicate]
  simp [u8]
  omega
theorem fill_set {n j : Nat} (h : j < n) : ((fillN n j).map u8).set j (.int .u8 32) = (fillN n (j + 1)).map u8 := by
  apply List.ext_getElem?
  intro i
  unfold fillN
  rw [List.getElem?_set]
  by_cases hi : j = i
  · subst hi
    rw [if_pos rfl, if_pos (by simp; omega), List.getElem?_map, List.getElem?_append_left (by simp), List.getElem?_replicate, if_pos (by omega)]
    rfl
  · rw [if_neg hi, List.getElem?_map, List.getElem?_map]
    congr 1
    by_cases hlt : i < j
    · rw [List.getElem?_append_left (by simpa using hlt), List.getElem?_append_left (by simp; omega), List.getElem?_replicate, List.getElem?_replicate, if_pos hlt, if_pos (by omega)]
    · rw [List.getElem?_append_right (by simp; omega), List.getElem?_append_right (by simp; omega), List.getElem?_replicate, List.getElem?_replicate]
      simp only [List.length_replicate]
      by_cases h2 : i < n
      · rw [if_pos (by omega), if_pos (by omega)]
      · rw [if_neg (by omega), if_neg (by omega)]
theorem fill_end (n : Nat) (c : UInt8) (h : 1 ≤ n) : ((fillN n n).map u8).set (n - 1) (.int .u8 c.toNat) = (List.replicate (n - 1) 32 ++ [c]).map u8 := by
  have e : fillN n n = List.replicate (n - 1) 32 ++ [32] := by
    unfold fillN
    rw [Nat.sub_self, List.replicate_zero, List.append_nil, ← List.replicate_succ', Nat.sub_add_cancel h]
  rw [e, List.map_append, List.set_append_right _ _ (by simp)]
  simp [u8]
theorem fill_last {n : Nat} (h : 1 ≤ n) : ((fillN n n).map u8)[n - 1]? = some (.int .u8 32) := by
  unfold fillN
  rw [List.getElem?_map, List.getElem?_append_left (by simp; omega), List.getElem?_replicate, if_pos (by omega)]
  rfl
theorem ferr_one (l : List UInt8) : (ferr l == 1) = decide (4000 < l.length) := by
  unfold ferr
  by_cases h : 4000 < l.length
  · rw [if_pos h]; simp [h]
  · rw [if_neg h]
    cases (sc l 0).2 <;> simp [h]

set_option maxHeartbeats 1600000 in
theorem walk (a : Int) (c : Int) (w : World) (hwc : (Lit.int .u8 c).wf = true) :
    Calls Try.prog 4 #[.int .i64 a, .int .u8 c] w fun e w' => e = .returned (.bool true) ∧ Below w.heap.size w w' := by
  obtain ⟨b, rfl⟩ : ∃ b : UInt8, c = b.toNat := by
    have h1 : IntKind.u8.min = 0 := rfl
    have h2 : IntKind.u8.max = 255 := rfl
    simp only [Lit.wf, Bool.and_eq_true, decide_eq_true_eq] at hwc
    refine ⟨UInt8.ofNat c.toNat, ?_⟩
    simp
    omega
  clear hwc
  obtain ⟨k, hk⟩ : ∃ k : Nat, a % 3 = k := ⟨(a % 3).toNat, by omega⟩
  have hk2 : k ≤ 2 := by omega
  have HM : Hid (∀ w, Calls Try.prog 12 #[.int .i64 a, .int .i64 3] w fun e w' => e = .returned (.int .i64 k) ∧ w = w') := fun w => by
    have h := mod_any a 3 w (by omega) (by omega)
    rwa [hk] at h
  clear hk
  obtain ⟨i0, hi, hz0, hz1, hz2⟩ := info_parts Try.info5
  go_enter Try.func4, Try.ntmps4
  go_wp2_with fail
  go_at_call 7
  refine (lawFirst_any _).mono ?_
  rintro e w1 ⟨rfl, hb1⟩
  go_wp2_with (first
    | (go_at_call 12; refine (HM.out _).mono ?_; rintro e w' ⟨rfl, rfl⟩)
    | (at_make; go_loud (refine wpList_make_full _ rfl _ _ 35 rfl w1.heap.size 5 i0 (.int .u8 0) 1 Try.underlying35 hi hz0 hz1 .i64 .i64 (3999 + (k : Int)) (3999 + (k : Int)) (3999 + k) rfl rfl (by omega) (by omega) (by rw [hz2]; omega) (by unfold maxLen; omega) (Nat.le_refl _) ?_)))
  intro w2 hown hgr
  rw [toList_madeCells_one, ← fill_start] at hown
  have hb2 : Below w1.heap.size w1 w2 := Below.grown (Below.refl _ _) hgr (Nat.le_refl _) (fun j hj => by cases hj)
  generalize hn : 3999 + k = n at *
  generalize hg : w1.heap.size = g at *
  go_wp2
  go_loopw [7] (fun i wr => ∃ j : Nat, j ≤ n ∧ i = .int .i64 j ∧ wr.ownsRow g 5 1 (.slice (some ⟨g, 0, none⟩) n n) n ((fillN n j).map u8) ∧ Below g w1 wr) (fun i _ => n - (intOf i).toNat)
  case atStart => exact ⟨0, Nat.zero_le _, rfl, hown, hb2⟩
  case round =>
    clear hown hb2
    obtain ⟨j, hj, rfl, hown, hbl⟩ := hrel
    by_cases hlt : j < n
    · have hc := hown.cellAt j (by omega)
      rw [fill_get hlt] at hc
      have hf := hown.frozenAt j
      have hst := (hown.stored j (.int .u8 32)).1
      rw [fill_set hlt] at hst
      go_wp2
      go_roundw
      case rel => exact ⟨j + 1, hlt, by go_num, hst, hbl.setCell (Nat.le_refl _) _⟩
      case measure => simp [intOf]; omega
    · obtain rfl : j = n := by omega
      have hj1 : 1 ≤ j := by omega
      have hlast := hown.cellAt (j - 1) (by omega)
      rw [fill_last hj1] at hlast
      have hf := hown.frozenAt (j - 1)
      have hst := (hown.stored (j - 1) (.int .u8 b.toNat)).1
      rw [fill_end j b hj1] at hst
      have hbs := hbl.setCell (p := ⟨g, j - 1, none⟩) (Nat.le_refl _) (.int .u8 b.toNat)
      have hwr : Below w.heap.size w (wr.setCell ⟨g, j - 1, none⟩ (.int .u8 b.toNat)) := hb1.trans (hbs.mono (by rw [← hg]; exact hb1.size))
      clear hown hbl hbs
      have kc := conv_row hst
      have HL : Hid ((List.replicate (j - 1) (32 : UInt8) ++ [b]).length = j) := by show _ = _; simp; omega
      have hS : bl ⟨(List.replicate (j - 1) (32 : UInt8) ++ [b]).toArray⟩ = List.replicate (j - 1) (32 : UInt8) ++ [b] := bl_mk _
      have hsz : (⟨(List.replicate (j - 1) (32 : UInt8) ++ [b]).toArray⟩ : ByteArray).size = j := by rw [← bl_len, hS]; exact HL.out
      have hE := ferr_one (bl ⟨(List.replicate (j - 1) (32 : UInt8) ++ [b]).toArray⟩)
      rw [bl_len, hsz] at hE
      clear hS HL
      generalize hl : List.replicate (j - 1) (32 : UInt8) ++ [b] = l at *
      generalize hS : (⟨l.toArray⟩ : ByteArray) = S at *
      go_wp2_with fail
      clear kc
      generalize hW : wr.setCell ⟨g, j - 1, none⟩ (.int .u8 b.toNat) = W at *
      go_at_call 9
      refine (scan_any S _ (by omega)).mono ?_
      rintro e w4 ⟨v1, rfl, hr1, hb4⟩
      have T1 := toks_of_row hr1
      clear hr1
      have hst4 := (ownsRow_below hst hb4).alloc (.cells #[.int .i64 (ferr (bl S)), .int .i64 (fpos (bl S))] 29)
      have kc := conv_row hst4
      rw [hS] at kc
      clear hst4
      go_wp2_with fail
      clear kc
      go_at_call 10
      refine (refScan_any S _ (by omega)).mono ?_
      rintro e w5 ⟨v2, rfl, hr2, hb5⟩
      have T2 := toks_of_row hr2
      clear hr2
      have hts := Lib.hid (ftoks_len (bl S))
      generalize ftoks (bl S) = ts at *
      generalize ferr (bl S) = fe at *
      generalize fpos (bl S) = fp at *
      have hk3 : ((k : Int) == 2) = decide (4000 < j) := by rw [Bool.eq_iff_iff]; simp; omega
      have hbe : Below w4.heap.size w4 w5 := ((Below.refl _ _).alloc (Nat.le_refl _) _).trans (hb5.mono (by simp))
      have f0 : w5.cell? ⟨w4.heap.size, 0, none⟩ = some (.int .i64 fe) := by rw [hb5.cell (p := ⟨w4.heap.size, 0, none⟩) (by simp)]; simp
      have f1 : w5.cell? ⟨w4.heap.size, 1, none⟩ = some (.int .i64 fp) := by rw [hb5.cell (p := ⟨w4.heap.size, 1, none⟩) (by simp)]; simp
      have hg1 : w4.heap.size < w5.heap.size := by have := hb5.size; simp at this; omega
      have hbw : Below w.heap.size w w5 := (hwr.trans (hb4.mono hwr.size)).trans (hbe.mono (Nat.le_trans hwr.size hb4.size))
      have A1 := toks_below (toks_below T1 hbe) ((Below.refl _ _).alloc (Nat.le_refl _) (.cells #[.int .i64 fe, .int .i64 fp] 29))
      have A2 := toks_below T2 ((Below.refl _ _).alloc (Nat.le_refl _) (.cells #[.int .i64 fe, .int .i64 fp] 29))
      have HA := Lib.hid (same_any v1 v2 true ts ts _ hts.out A1 A2 rfl (fun _ => rfl))
      have HG : Hid (∀ w6, Below (w5.alloc (.cells #[.int .i64 fe, .int .i64 fp] 29)).heap.size (w5.alloc (.cells #[.int .i64 fe, .int .i64 fp] 29)) w6 → w6.cell? ⟨w4.heap.size, 0, none⟩ = some (.int .i64 fe)) := fun w6 h6 =>
        (h6.cell (p := ⟨w4.heap.size, 0, none⟩) (by simp; omega)).trans ((World.cell?_alloc_past _ _ _ hg1).trans f0)
      clear T1 T2 A1 A2 hb4 hb5 hbe hst
      go_wp2_with (go_at_call 11; refine HA.out.mono ?_; rintro e w6 ⟨rfl, hb6⟩; have g0 := HG.out w6 hb6)
      go_ret
      exact ⟨rfl, (hbw.alloc hbw.size _).trans (hb6.mono (by have := hbw.size; simp; omega))⟩
end Go.Proofs.Ythhhbjegnocpmaa.tokenLong
