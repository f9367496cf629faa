/- The reference's reader, whatever its state: what each small method does. -/
import Derived.Test.YtbbplpmjpadgiaaGreatDoorTyX
import Derived.StillTailTactics
import Derived.Deep.CutBlock
import Derived.BigQuiet
import Derived.Deep.QuietTactic
namespace Go.Proofs.YtbbplpmjpadgiaaGreatDoor
open Go.RowKit Go.Maps Mth

set_option maxHeartbeats 1600000 in
theorem rdKind_any (k : Int) (b : Nat) (ts : List Tok) (s : St) (w : World) (h : RdX w b ts s) : Calls Tryz.prog 95 #[.pointer (some ⟨b, 0, none⟩), .int .i64 k] w fun e w' => e = .returned (.bool (xK ts s k)) ∧ Below w.heap.size w w' := by
  obtain ⟨i, q, p⟩ := s
  obtain ⟨lv, hr, ⟨a, cap, rfl, hcap, hc⟩, hi, hp, hl⟩ := h
  obtain ⟨c0, c1, c2, c3, f1, f2, f3⟩ := hr.cells
  have hl1 := hl.1
  have HC := Lib.hid hc
  clear hc hr hp hl
  dsimp only at hi
  cases q
  · by_cases hlt : i < ts.length
    · obtain ⟨t, ht⟩ : ∃ x, ts[i]? = some x := ⟨_, List.getElem?_eq_getElem hlt⟩
      obtain ⟨g, rfl, hg, d0, d1, d2⟩ := HC.out i t ht
      have HE : Hid (xK ts ⟨i, false, p⟩ k = (t.kind == k)) := by show _ = _; unfold xK rKind; simp only; rw [ht]; rfl
      clear ht
      have hli : ((i : Int) < (ts.length : Int)) := by omega
      go_enter Tryz.func95, Tryz.ntmps95
      go_wp2
      go_quiet (fail)
      go_wp2
      go_ret
      exact ⟨ret_bool HE.out.symm, below_drewN (Below.refl _ w) nq⟩
    · have HE : Hid (xK ts ⟨i, false, p⟩ k = false) := by show _ = _; unfold xK rKind; simp only; rw [List.getElem?_eq_none (by omega)]; rfl
      have hli : decide ((i : Int) < (ts.length : Int)) = false := by simpa using hlt
      go_enter Tryz.func95, Tryz.ntmps95
      go_wp2
      go_quiet (fail)
      go_wp2
      go_ret
      exact ⟨ret_bool HE.out.symm, below_drewN (Below.refl _ w) nq⟩
  · go_enter Tryz.func95, Tryz.ntmps95
    go_wp2
    go_quiet (fail)
    go_wp2
    go_ret
    exact ⟨rfl, below_drewN (Below.refl _ w) nq⟩

set_option maxHeartbeats 3200000 in
theorem rdIs_any (s : ByteArray) (b : Nat) (ts : List Tok) (st : St) (w : World) (h : RdX w b ts st) : Calls Tryz.prog 103 #[.pointer (some ⟨b, 0, none⟩), .string s] w fun e w' => e = .returned (.bool (xI ts st s)) ∧ Below w.heap.size w w' := by
  obtain ⟨i, q, p⟩ := st
  obtain ⟨lv, hr, ⟨a, cap, rfl, hcap, hc⟩, hi, hp, hl⟩ := h
  obtain ⟨c0, c1, c2, c3, f1, f2, f3⟩ := hr.cells
  have hl1 := hl.1
  have HC := Lib.hid hc
  clear hc hr hp hl
  dsimp only at hi
  cases q
  · by_cases hlt : i < ts.length
    · obtain ⟨t, ht⟩ : ∃ x, ts[i]? = some x := ⟨_, List.getElem?_eq_getElem hlt⟩
      obtain ⟨g, rfl, hg, d0, d1, d2⟩ := HC.out i t ht
      have HE : Hid (xI ts ⟨i, false, p⟩ s = ((t.kind == 5 || t.kind == 4) && (⟨t.text.toArray⟩ : ByteArray).toList == s.toList)) := by show _ = _; unfold xI rIs; simp only; rw [ht]; rfl
      clear ht
      have hli : ((i : Int) < (ts.length : Int)) := by omega
      generalize (⟨t.text.toArray⟩ : ByteArray) = tx at *
      generalize t.kind = tk at *
      cases h5 : (tk == 5)
      · cases h4 : (tk == 4)
        · go_enter Tryz.func103, Tryz.ntmps103
          go_wp2
          go_quiet (fail)
          go_wp2
          go_ret
          exact ⟨ret_bool (by rw [HE.out, h5, h4]; rfl), below_drewN (Below.refl _ w) nq⟩
        · cases ht : (tx.toList == s.toList)
          all_goals
            go_enter Tryz.func103, Tryz.ntmps103
            go_wp2
            go_quiet (fail)
            go_wp2
            go_ret
            exact ⟨ret_bool (by rw [HE.out, h5, h4, ht]; rfl), below_drewN (Below.refl _ w) nq⟩
      · cases ht : (tx.toList == s.toList)
        all_goals
          go_enter Tryz.func103, Tryz.ntmps103
          go_wp2
          go_quiet (fail)
          go_wp2
          go_ret
          exact ⟨ret_bool (by rw [HE.out, h5, ht]; rfl), below_drewN (Below.refl _ w) nq⟩
    · have HE : Hid (xI ts ⟨i, false, p⟩ s = false) := by show _ = _; unfold xI rIs; simp only; rw [List.getElem?_eq_none (by omega)]; rfl
      have hli : decide ((i : Int) < (ts.length : Int)) = false := by simpa using hlt
      go_enter Tryz.func103, Tryz.ntmps103
      go_wp2
      go_quiet (fail)
      go_wp2
      go_ret
      exact ⟨ret_bool HE.out.symm, below_drewN (Below.refl _ w) nq⟩
  · go_enter Tryz.func103, Tryz.ntmps103
    go_wp2
    go_quiet (fail)
    go_wp2
    go_ret
    exact ⟨rfl, below_drewN (Below.refl _ w) nq⟩
end Go.Proofs.YtbbplpmjpadgiaaGreatDoor
