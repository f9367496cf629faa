/- The contract of the reference's Equal. -/
import Derived.Test.YtejlhfjhpminjaaTyEq
namespace Go.Proofs.Ytejlhfjhpminjaa
open Go.RowKit Go.Sort Mth

set_option maxHeartbeats 1600000 in
theorem refEqual_of (T : Ty) (H : ∀ U ∈ T.ts, EqAt Try.prog 19 U) : EqAt Try.prog 19 T := by
  intro U v u S S' w h h'
  obtain ⟨k, n, i, hm, s, eT, rfl, hn, hs⟩ := h.open
  obtain ⟨k', n', i', hm', s', eU, rfl, hn', hs'⟩ := h'.open
  clear h h'
  have HS := Lib.hid hs
  have HS' := Lib.hid hs'
  have HH : Hid (∀ (w w' : World), Below w.heap.size w w' → RepL w S T.ts s → RepL w S' U.ts s' → Calls Try.prog 37 #[s, s'] w' fun e w'' => e = .returned (.bool (teqL T.ts U.ts)) ∧ Below w'.heap.size w' w'') :=
    fun w w' hb h1 h2 => refEqAll_of T.ts U.ts H s s' S S' w' (h1.lift hb) (h2.lift hb)
  have HE : Hid (teq T U = (k == k' && n.toList == n'.toList && i == i' && hm == hm' && teqL T.ts U.ts)) := by
    show _ = _
    conv => lhs; rw [eT, eU]
    rfl
  clear eT eU hs hs' H hn hn'
  generalize teqL T.ts U.ts = q at *
  have hb0 : ∀ X Y Z Z', Below w.heap.size w ((w.alloc (.cells X Z)).alloc (.cells Y Z')) := fun X Y Z Z' => ((Below.refl _ w).alloc (Nat.le_refl _) _).alloc (by simp) _
  go_enter Try.func19, Try.ntmps19
  go_wp2_with (go_at_call 37; refine (HH.out w _ (hb0 _ _ _ _) HS.out HS'.out).mono ?_; rintro e w1 ⟨rfl, hb1⟩)
  all_goals
    go_ret
    refine ⟨ret_bool (by rw [HE.out]; simp_all), ?_⟩
    first
      | exact hb0 _ _ _ _
      | exact (hb0 _ _ _ _).trans (hb1.mono (by simp; omega))
theorem refEqual_any : ∀ (m : Nat) (T : Ty), nodes T ≤ m → EqAt Try.prog 19 T := by
  intro m
  induction m with
  | zero => intro T h; have := nodes_pos T; omega
  | succ m ih =>
    intro T h
    refine refEqual_of T fun U hU => ih U ?_
    have := nodesL_mem hU
    cases T
    simp only [nodes, Ty.ts] at *
    omega
end Go.Proofs.Ytejlhfjhpminjaa
