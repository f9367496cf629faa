import Derived.Test.YtgcefodgjhlbeaaGreatDoorCB5
/- The reference's reader of expressions: what it reads by its own rules, and that this is what the package's reads. -/
namespace Go.Proofs.YtgcefodgjhlbeaaGreatDoor
open Go.RowKit Go.Maps Mth

/-! The small tests agree, in every state. -/
def Ok0 (s : St) : Prop := s.bad = false → s.p = 0
theorem Ok0.step {s : St} (h : Ok0 s) : Ok0 (xStep s) := h
/-- Two results say the same. -/
structure EqS (T : Ex) (s : St) (T' : Ex) (s' : St) : Prop where
  bad : s'.bad = s.bad
  good : s.bad = false → T' = T ∧ s' = s
  p : s.bad = true → s'.p = s.p
  ok : Ok0 s
theorem EqS.both {T T' : Ex} {s s' : St} (h1 : s.bad = true) (h2 : s'.bad = true) (h3 : s'.p = s.p) : EqS T s T' s' :=
  ⟨by rw [h1, h2], fun h => (by rw [h1] at h; cases h), fun _ => h3, fun h => (by rw [h1] at h; cases h)⟩
theorem EqS.same {T : Ex} {s : St} (h : Ok0 s) : EqS T s T s := ⟨rfl, fun _ => ⟨rfl, rfl⟩, fun _ => rfl, h⟩
theorem EqS.cases {T T' : Ex} {s s' : St} (h : EqS T s T' s') : (s.bad = true ∧ s'.bad = true ∧ s'.p = s.p) ∨ (s.bad = false ∧ T' = T ∧ s' = s ∧ Ok0 s) := by
  cases hb : s.bad with
  | true => exact .inl ⟨rfl, by rw [h.bad, hb], h.p hb⟩
  | false => exact .inr ⟨rfl, (h.good hb).1, (h.good hb).2, h.ok⟩

end Go.Proofs.YtgcefodgjhlbeaaGreatDoor

/- The two readings of an expression find the same. -/
namespace Go.Proofs.YtgcefodgjhlbeaaGreatDoor
open Go.RowKit Go.Maps Mth

theorem EqS.map {T T' U U' : Ex} {s s' : St} (h : EqS T s T' s') (hU : s.bad = false → T' = T → U' = U) : EqS U s U' s' := by
  rcases h.cases with ⟨h1, h2, h3⟩ | ⟨h1, h2, h3, h4⟩
  · exact .both h1 h2 h3
  · subst h3; rw [hU h1 h2]; exact .same h4
end Go.Proofs.YtgcefodgjhlbeaaGreatDoor
