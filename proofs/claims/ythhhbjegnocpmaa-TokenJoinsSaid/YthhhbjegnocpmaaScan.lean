/- The contract of token.Scan. -/
import Derived.Test.YthhhbjegnocpmaaFns4
import Derived.Test.YthhhbjegnocpmaaMath3
import Derived.Below
import Derived.Handy
import Derived.OwnWalk
import Derived.Laws.AppendOwn
import Derived.Deep.RegionHeld3
import Derived.Deep.QuietTactic
import Derived.BigQuiet
namespace Go.Proofs.Ythhhbjegnocpmaa
open Go.RowKit Mth

/-- A token's cells. -/
def cells3 (t : Tok) : List Value := [.int .i64 t.kind, .string ⟨t.text.toArray⟩, .int .i64 t.pos]
def row3 (l : List Tok) : List Value := l.flatMap cells3
theorem row3_snoc (l : List Tok) (t : Tok) : row3 (l ++ [t]) = row3 l ++ cells3 t := by simp [row3]
theorem Try.info40 : (Try.prog.info? 40).map (fun i => (i.zero, i.size, i.bytes)) = some (some (.agg #[.int .i64 0, .string ByteArray.empty, .int .i64 0]), 3, 32) := by kernel_rfl

/-- What Scan hands back. -/
def ScanOut (l : List UInt8) (w : World) (e : Ending) (w' : World) : Prop :=
  ∃ v, e = .returned (.tuple #[v, .agg #[.int .i64 (ferr l), .int .i64 (fpos l)]]) ∧ w'.ownsRow (w.heap.size + 1) 40 3 v (ftoks l).length (row3 (ftoks l)) ∧ Below w.heap.size w w'

/-- The cells of the result's fault, while the loop runs. -/
theorem fault_cells {w wr : World} (h : Below (w.heap.size + 1) (w.alloc (.cells #[.int .i64 0, .int .i64 0] 29)) wr) :
    wr.cell? ⟨w.heap.size, 0, none⟩ = some (.int .i64 0) ∧ wr.cell? ⟨w.heap.size, 1, none⟩ = some (.int .i64 0) ∧
      wr.frozen? ⟨w.heap.size, 0, none⟩ = false ∧ wr.frozen? ⟨w.heap.size, 1, none⟩ = false := by
  refine ⟨?_, ?_, ?_, ?_⟩
  · rw [h.cell (p := ⟨w.heap.size, 0, none⟩) (by simp)]; simp
  · rw [h.cell (p := ⟨w.heap.size, 1, none⟩) (by simp)]; simp
  · rw [h.frozen (p := ⟨w.heap.size, 0, none⟩) (by simp)]; simp
  · rw [h.frozen (p := ⟨w.heap.size, 1, none⟩) (by simp)]; simp
theorem fault_read0 {b : Nat} {w : World} {x : Value} (h : w.cell? ⟨b, 0, none⟩ = some x) (u : Value) : (w.setCell ⟨b, 0, none⟩ u).cell? ⟨b, 0, none⟩ = some u := World.cell?_setCell_same _ _ _ h
theorem fault_read1 {b : Nat} {w : World} {x : Value} (h : w.cell? ⟨b, 1, none⟩ = some x) (u v : Value) : ((w.setCell ⟨b, 0, none⟩ u).setCell ⟨b, 1, none⟩ v).cell? ⟨b, 1, none⟩ = some v :=
  World.cell?_setCell_same _ _ _ (u := x) ((World.cell?_setCell_other _ _ _ _ (by simp)).trans h)
theorem fault_below {w wr : World} (h : Below (w.heap.size + 1) (w.alloc (.cells #[.int .i64 0, .int .i64 0] 29)) wr) : Below w.heap.size w wr :=
  ((Below.refl _ _).alloc (Nat.le_refl _) _).trans (h.mono (by omega))

theorem three_new {w : World} {a b c : Value} {t : TypeId} : ∀ (j : Nat) (u : Value), [a, b, c][j]? = some u → (w.alloc (.cells #[a, b, c] t)).cell? ((⟨w.heap.size, 0, none⟩ : Addr).add j) = some u := by
  intro j u hj
  rcases j with _ | _ | _ | j
  · simp at hj; subst hj; simp [Addr.add]
  · simp at hj; subst hj; simp [Addr.add]
  · simp at hj; subst hj; simp [Addr.add]
  · simp at hj
theorem three_one {k p : Int} {t : ByteArray} : ∀ u ∈ [Value.int .i64 k, .string t, .int .i64 p], u.oneCell' = true := by
  intro u hu
  simp at hu
  rcases hu with h | h | h <;> subst h <;> rfl
/-- A token's cells, as the walk makes them. -/
theorem cells3_ext (s : ByteArray) (k n : Nat) (K : Int) : cells3 ⟨K, ((bl s).drop k).take n, k⟩ = [.int .i64 K, .string (s.extract k (k + n)), .int .i64 k] := by
  have h : s.extract k (k + n) = ⟨(((bl s).drop k).take n).toArray⟩ := bl_eq.2 ((bl_extract _ _ _).trans ((congrArg (fun m => ((bl s).drop k).take m) (Nat.add_sub_cancel_left k n)).trans (bl_mk _).symm))
  unfold cells3
  rw [h]

set_option maxHeartbeats 800000 in
theorem scan_any (s : ByteArray) (w : World) (hs : s.size ≤ 140737488355328) : Calls Try.prog 9 #[.string s] w (ScanOut (bl s) w) := by
  obtain ⟨i0, hi, hz0, hz1, hz2⟩ := info_parts Try.info40
  by_cases hbig : 4000 < s.size
  · have HE := Lib.hid (inv_big (l := bl s) (by rw [bl_len]; exact hbig))
    go_enter Try.func9, Try.ntmps9
    go_wp2
    go_returns
    exact ⟨.slice none 0 0, by rw [HE.out.1, HE.out.2.1], by rw [HE.out.2.2]; exact World.ownsRow_nil _ _ _ _, (Below.refl _ _).alloc (Nat.le_refl _) _⟩
  · go_enter Try.func9, Try.ntmps9
    go_wp2
    go_loopw [4, 5] (fun v p wr => ∃ (k : Nat) (acc : List Tok), k ≤ s.size ∧ p = .int .i64 k ∧ Hid (Inv (bl s) k acc) ∧ wr.ownsRow (w.heap.size + 1) 40 3 v acc.length (row3 acc) ∧ Below (w.heap.size + 1) (w.alloc (.cells #[.int .i64 0, .int .i64 0] 29)) wr) (fun _ p _ => s.size - (intOf p).toNat)
    case atStart => exact ⟨0, [], Nat.zero_le _, rfl, inv_start _, World.ownsRow_nil _ _ _ _, Below.refl _ _⟩
    case round =>
      obtain ⟨k, acc, hk, rfl, HI, hown, hbl⟩ := hrel
      obtain ⟨hc0, hc1, hf0, hf1⟩ := fault_cells hbl
      by_cases hlt : k < s.size
      · obtain ⟨K, n, hKn⟩ : ∃ K n, stp ((bl s).drop k) = (K, n) := ⟨_, _, rfl⟩
        have HF : Hid (∀ w, Calls Try.prog 17 #[.string (s.extract k s.size)] w fun e w' => e = .returned (.tuple #[.int .i64 K, .int .i64 n]) ∧ w = w') := fun w => by
          have h := first_some (s.extract k s.size) w (by simp; omega) (by simp; omega)
          have hb : bl (s.extract k s.size) = (bl s).drop k := by rw [bl_extract, List.take_of_length_le (by rw [List.length_drop, bl_len]; omega)]
          rw [hb, hKn] at h
          exact h
        have hll : ¬ 4000 < (bl s).length := by rw [bl_len]; exact hbig
        have HL := Lib.hid hll
        clear hll
        by_cases hK0 : K = 0
        · subst hK0
          have HE := Lib.hid (inv_err HI.out hKn (by rw [bl_len]; exact hlt) HL.out)
          clear hKn
          go_wp2_with (go_at_call 17; refine (HF.out _).mono ?_; rintro e w' ⟨rfl, rfl⟩)
          refine bodyPost_ret (by simp [results, Try.results9, go_sem, fault_read0 hc0, fault_read1 hc1]; try rfl) rfl ?_
          exact ⟨.slice none 0 0, by rw [HE.out.1, HE.out.2.1], by rw [HE.out.2.2]; exact World.ownsRow_nil _ _ _ _, ((fault_below hbl).setCell (Nat.le_refl _) _).setCell (Nat.le_refl _) _⟩
        have hfit := stp_fits hKn hK0
        rw [bl_len] at hfit
        obtain ⟨hn1, hkn⟩ := hfit
        by_cases hK1 : K = -1
        · subst hK1
          have HE := Lib.hid (inv_blank HI.out hKn)
          clear hKn
          go_wp2_with (go_at_call 17; refine (HF.out _).mono ?_; rintro e w' ⟨rfl, rfl⟩)
          go_roundw
          case rel => exact ⟨k + n, acc, hkn, by go_num, HE, hown, hbl⟩
          case measure => simp [intOf]; omega
        · have HE := Lib.hid (inv_tok HI.out hKn hK0 hK1)
          have hac := HI.out.1
          have HC := Lib.hid (cells3_ext s k n K)
          have hsz : w.heap.size + 1 ≤ wr.heap.size := by simpa using hbl.size
          clear hKn
          go_wp2_with (first
            | (go_at_call 17; refine (HF.out _).mono ?_; rintro e w' ⟨rfl, rfl⟩)
            | (at_builtin; (refine wpList_append_own _ rfl _ _ 26 rfl (w.heap.size + 1) 40 i0 _ 3 32 Try.underlying26 hi hz0 hz1 hz2 rfl (by decide) _ _ _ rfl (hown.alloc _) ⟨wr.heap.size, 0, none⟩ 1 1 [.int .i64 K, .string (s.extract k (k + n)), .int .i64 k] rfl rfl three_new three_one (by unfold maxLen; omega) (by omega) (by simp; omega) ?_)))
          intro v' w1 hown' hgrow _
          have R1 : w1.ownsRow (w.heap.size + 1) 40 3 v' (acc ++ [Tok.mk K (((bl s).drop k).take n) k]).length (row3 (acc ++ [Tok.mk K (((bl s).drop k).take n) k])) := by
            rw [row3_snoc, HC.out, List.length_append]; exact hown'
          have R2 : Below (w.heap.size + 1) (w.alloc (.cells #[.int .i64 0, .int .i64 0] 29)) w1 :=
            Below.grown (hbl.alloc (by omega) _) hgrow (by simp; omega) (fun j hj => (hown.lt j hj).1)
          clear hown' hgrow hown hbl hc0 hc1 hf0 hf1
          go_wp2
          go_roundw
          case rel => exact ⟨k + n, _, hkn, by go_num, HE, R1, R2⟩
          case measure => simp [intOf]; omega
      · obtain rfl : k = s.size := by omega
        have HE := Lib.hid (inv_end HI.out (bl_len s).symm (by rw [bl_len]; exact hbig))
        go_wp2
        refine bodyPost_ret (by simp [results, Try.results9, go_sem, fault_read0 hc0, fault_read1 hc1]; try rfl) rfl ?_
        exact ⟨_, by rw [HE.out.1, HE.out.2.1], by rw [HE.out.2.2]; exact ownsRow_setCell_below (ownsRow_setCell_below hown (by simp) _) (by simp) _, ((fault_below hbl).setCell (Nat.le_refl _) _).setCell (Nat.le_refl _) _⟩
end Go.Proofs.Ythhhbjegnocpmaa
