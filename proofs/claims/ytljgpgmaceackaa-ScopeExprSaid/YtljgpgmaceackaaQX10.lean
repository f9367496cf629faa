import Derived.Test.YtljgpgmaceackaaQX05
import Derived.Test.YtljgpgmaceackaaQX02
/- The contract of the reference's Depth. -/
namespace Go.Proofs.Ytljgpgmaceackaa.S3
open Go.RowKit Go.Maps Mth

mutual
def dep : Ty → Nat
  | .mk _ _ _ _ ts => depL ts
def depL : List Ty → Nat
  | [] => 0
  | t :: ts => max (dep t + 1) (depL ts)
end
theorem depL_append (x y : List Ty) : depL (x ++ y) = max (depL x) (depL y) := by
  induction x with
  | nil => simp [depL]
  | cons t x ih => simp only [List.cons_append, depL, ih]; omega
theorem depL_take (l : List Ty) (j : Nat) : depL (l.take j) ≤ depL l := by
  have := depL_append (l.take j) (l.drop j)
  rw [List.take_append_drop] at this
  omega
def DepAt (P : Program) (f : Nat) (T : Ty) : Prop := dep T ≤ 1000000 → ∀ (v : Value) (S : Nat → Prop) (w : World), Rep w S T v →
  Calls P f #[v] w fun e w' => e = .returned (.int .i64 (dep T : Int)) ∧ Below w.heap.size w w'

set_option maxHeartbeats 1600000 in
theorem depth_of (T : Ty) (H : ∀ U ∈ T.ts, DepAt Try.prog 76 U) : DepAt Try.prog 76 T := by
  intro hd v S w h
  obtain ⟨k, nm, i, hm, s, eT, rfl, hn, hs⟩ := h.open
  have hnT : dep T = depL T.ts := by cases T; rfl
  obtain ⟨a, cap, rfl, ⟨hc1, hc2⟩, hj⟩ := hs
  have HJ := Lib.hid hj
  have HH := Lib.hid H
  clear hj H eT hn h
  unfold maxLen at hc2
  obtain ⟨l, hl⟩ : ∃ l, l = T.ts := ⟨_, rfl⟩
  rw [hnT] at hd ⊢
  rw [← hl] at HJ HH hc1 hd ⊢
  clear hl hnT
  obtain ⟨c, hcc⟩ : ∃ c, c = l.length := ⟨_, rfl⟩
  rw [← hcc] at hc1 ⊢
  have HM := Lib.hid hcc
  clear hcc
  go_enter Try.func76, Try.ntmps76
  go_wp2
  go_loopw [3, 4] (fun y x wr => ∃ j q : Nat, j ≤ c ∧ x = .int .i64 j ∧ y = .int .i64 q ∧ Hid (q = depL (l.take j)) ∧ q ≤ 1000000 ∧ Below (w.heap.size + 1) (w.alloc (.cells #[.int .i64 k, .string nm, .int .i64 i, .int .i64 hm, .slice a c cap] 34)) wr) (fun _ x _ => c - (intOf x).toNat)
  case atStart => exact ⟨0, 0, Nat.zero_le _, rfl, rfl, rfl, by omega, Below.refl _ _⟩
  case round =>
    obtain ⟨j, q, hj, rfl, rfl, HQ, hq1, hb⟩ := hrel
    have b4 := box_cell hb 4 (.slice a c cap) (by simp)
    have hbw := box_below hb
    have hsz := hb.size
    simp at hsz
    by_cases hlt : j < c
    · obtain ⟨U, hU⟩ : ∃ x, l[j]? = some x := ⟨_, List.getElem?_eq_getElem (by rw [← HM.out]; exact hlt)⟩
      have HUm : Hid (U ∈ l) := List.mem_of_getElem? hU
      have hstep : depL (l.take (j + 1)) = max (depL (l.take j)) (dep U + 1) := by
        rw [List.take_add_one, hU, depL_append]; simp [depL]
      have hle := depL_take l (j + 1)
      rw [hstep] at hle
      have hdu : dep U ≤ 999999 := by omega
      have HQ2 : Hid (max q (dep U + 1) = depL (l.take (j + 1))) := by show _ = _; rw [hstep, HQ.out]
      clear hstep hle
      obtain ⟨ad, x, rfl, hS, h5, hx⟩ := HJ.out j U hU
      clear hU
      have hx' := hx.lift hbw
      have g5 := h5.kept (hbw.block _ h5.lt)
      obtain ⟨k', n', i', h', s', eU, rfl, hn2, hs2⟩ := hx'.open
      obtain ⟨q0, q1, q2, q3, q4⟩ := five_at g5
      obtain ⟨sa', sc', rfl, -⟩ := hs2
      have HX := Lib.hid hx'
      clear h5 hx g5 eU hn2 hS hx'
      have hji : (j : Int) < (c : Int) := by omega
      generalize U.ts.length = sn' at *
      have HC := Lib.hid (HH.out U HUm.out (by omega) _ S wr HX.out)
      generalize dep U = r at *
      have hmx : max (q : Int) (1 + (r : Int)) = ((max q (r + 1) : Nat) : Int) := by omega
      have hml : max q (r + 1) ≤ 1000000 := by omega
      go_wp2_with (go_at_call 76; refine HC.out.mono ?_; rintro e w1 ⟨rfl, hb1⟩)
      go_roundw
      case rel => exact ⟨j + 1, max q (r + 1), hlt, by go_num, by simp; omega, HQ2, hml, hb.trans (hb1.mono (by omega))⟩
      case measure => simp [intOf]; omega
    · have HF2 : Hid ((q : Int) = (depL l : Nat)) := by
        show _ = _
        rw [HQ.out, List.take_of_length_le (by rw [← HM.out]; omega)]
      clear hsz
      go_wp2
      go_ret
      exact ⟨ret_int HF2.out, hbw⟩
theorem depth_any (T : Ty) : DepAt Try.prog 76 T := Ty.induct depth_of T
end Go.Proofs.Ytljgpgmaceackaa.S3
