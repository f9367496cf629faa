/- A slice of tokens that came in. -/
import Derived.Test.YthphnacfidofbaaGreatDoorTyKit
namespace Go.Proofs.YthphnacfidofbaaGreatDoor
open Go.ChangeShapes Go.WideShapes Go.ChangeAt Go.RowKit Go.Deep Mth

theorem fields39 : (match Tryz.prog.underlying 44 with | some (.struct fs) => fs.map (fun f => (f.type, f.offset)) | _ => #[]) = #[(3, 0), (9, 1), (3, 2)] := by kernel_rfl
theorem Tryz.cells44 : Tryz.prog.cellsOf 44 = 3 := by kernel_rfl
theorem Tryz.cells9 : Tryz.prog.cellsOf 9 = 1 := by kernel_rfl
set_option maxRecDepth 100000 in
theorem raw_of_trod {H : Type} {enc : TypeId × Value → H} {w : World} {base : Nat} {spare : Nat → Bool} {held : Bool} {fuel : Nat} {cs : List Value} {x : DataW H × List MemPlace} (h : DataW.trod enc Tryz.prog w base spare held fuel 44 cs = some x) :
    ∃ r : Raw, cs = rawC r ∧ r.x.size ≤ maxLen := by
  have hU := Tryz.underlying44
  obtain ⟨xs, n, rfl, -, hl, hxl, hg⟩ := DataW.trod_struct hU h
  rw [Tryz.cells44] at hl
  match cs, hl with
  | [c0, c1, c2], _ =>
  have h0 : DataW.trod enc Tryz.prog w base spare held n 3 (([c0, c1, c2].drop 0).take (Tryz.prog.cellsOf 3)) = xs[0]? := hg 0 _ rfl
  have h1 : DataW.trod enc Tryz.prog w base spare held n 9 (([c0, c1, c2].drop 1).take (Tryz.prog.cellsOf 9)) = xs[1]? := hg 1 _ rfl
  have h2 : DataW.trod enc Tryz.prog w base spare held n 3 (([c0, c1, c2].drop 2).take (Tryz.prog.cellsOf 3)) = xs[2]? := hg 2 _ rfl
  rw [Tryz.cells3] at h0 h2
  rw [Tryz.cells9] at h1
  simp only [List.drop_zero, List.drop_succ_cons, List.take_succ_cons, List.take_zero] at h0 h1 h2
  have hx : xs.length = 3 := hxl
  rw [List.getElem?_eq_getElem (by omega)] at h0 h1 h2
  obtain ⟨k, e0, -, -⟩ := DataW.trod_int Tryz.underlying3 h0
  obtain ⟨nm, e1, -, hn⟩ := DataW.trod_string Tryz.underlying9 h1
  obtain ⟨i, e2, -, -⟩ := DataW.trod_int Tryz.underlying3 h2
  simp at e0 e1 e2
  subst e0 e1 e2
  exact ⟨⟨k, nm, i⟩, rfl, hn⟩
set_option maxRecDepth 100000 in
/-- A slice of tokens that came in. -/
theorem raws_open {H : Type} {enc : TypeId × Value → H} {W : World} {base : Nat} {v : Value} {d : DataW H} {p : List MemPlace} (hval : Value.okWide Tryz.prog W .any base 35 v) (h : DataW.Trod enc Tryz.prog W 0 (fun _ => true) true 35 v d p) :
    ∃ rs, RawAt W v rs ∧ ∀ r ∈ rs, r.x.size ≤ maxLen := by
  obtain ⟨a0, len0, cap0, rfl⟩ := okWide_slice Tryz.underlying35 hval
  obtain ⟨fuel, hf⟩ := h
  rcases DataW.trod_slice Tryz.underlying35 hf with ⟨e4, -⟩ | ⟨a, len, cap, elems, rest, q, e5, e4, -, -, hlc, hcm, hel, hat, -, -⟩
  · simp [Value.cells] at e4
    obtain ⟨rfl, rfl, rfl⟩ := e4
    exact ⟨[], ⟨none, 0, rfl, ⟨Nat.le_refl _, Nat.zero_le _⟩, fun j r h => by simp at h⟩, fun r h => by simp at h⟩
  · simp [Value.cells] at e4
    obtain ⟨rfl, rfl, rfl⟩ := e4
    have hj : ∀ j, j < len0 → ∃ r : Raw, r.x.size ≤ maxLen ∧ ∀ m u, (rawC r)[m]? = some u → W.cell? (a.add (j * 3 + m)) = some u := by
      intro j hj
      have hb := hat j hj
      rw [List.getElem?_eq_getElem (by omega), Option.bind_eq_some_iff] at hb
      obtain ⟨cs', hc, ht⟩ := hb
      obtain ⟨-, hcl, hca⟩ := World.cells?_some hc
      rw [Tryz.cells44] at hcl hca
      obtain ⟨r, rfl, hr⟩ := raw_of_trod ht
      refine ⟨r, hr, fun m u hm => ?_⟩
      have hm3 : m < 3 := by have := (List.getElem?_eq_some_iff.1 hm).1; simpa [rawC] using this
      have := hca m hm3
      rw [Go.Deep.add_add, hm] at this
      exact this
    let f : Nat → Raw := fun j => if h : j < len0 then Classical.choose (hj j h) else ⟨0, ⟨#[]⟩, 0⟩
    have hfj : ∀ j, j < len0 → (f j).x.size ≤ maxLen ∧ ∀ m u, (rawC (f j))[m]? = some u → W.cell? (a.add (j * 3 + m)) = some u := fun j h => by
      show (if h : j < len0 then Classical.choose (hj j h) else ⟨0, ⟨#[]⟩, 0⟩ : Raw).x.size ≤ maxLen ∧ ∀ m u, (rawC (if h : j < len0 then Classical.choose (hj j h) else ⟨0, ⟨#[]⟩, 0⟩ : Raw))[m]? = some u → W.cell? (a.add (j * 3 + m)) = some u
      rw [dif_pos h]
      exact Classical.choose_spec (hj j h)
    refine ⟨(List.range len0).map f, ⟨some a, cap0, by simp, by simp; exact ⟨hlc, hcm⟩, fun j r hr => ?_⟩, fun r hr => ?_⟩
    · have hjl := (List.getElem?_eq_some_iff.1 hr).1
      simp at hjl
      rw [List.getElem?_map, List.getElem?_range hjl] at hr
      simp at hr
      subst hr
      obtain ⟨-, hc⟩ := hfj j hjl
      refine ⟨a, rfl, hc 0 _ rfl, ?_, ?_⟩
      · rw [add_add' _ _ _ (by omega)]; exact hc 1 _ rfl
      · rw [add_add' _ _ _ (by omega)]; exact hc 2 _ rfl
    · simp at hr
      obtain ⟨j, hjl, rfl⟩ := hr
      exact (hfj j hjl).1
end Go.Proofs.YthphnacfidofbaaGreatDoor
