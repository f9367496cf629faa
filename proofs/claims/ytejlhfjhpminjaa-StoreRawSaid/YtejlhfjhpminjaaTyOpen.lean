/- A type that came in as an argument stands for a tree. -/
import Derived.Test.YtejlhfjhpminjaaTyInts
import Derived.Test.YtejlhfjhpminjaaRows
import Derived.Deep.Slices
import Derived.ProofKit
import Derived.OpenShut
namespace Go.Proofs.Ytejlhfjhpminjaa
open Go.ChangeShapes Go.WideShapes Go.ChangeAt Go.RowKit Go.Deep Mth

theorem Try.cells31 : Try.prog.cellsOf 31 = 5 := by kernel_rfl
theorem Try.cells3 : Try.prog.cellsOf 3 = 1 := by kernel_rfl
theorem Try.own : ownKnob Try.prog.godebug = none := by kernel_rfl
theorem Try.laidOut : laidOutB Try.prog = true := by kernel_rfl
theorem fields24 : (match Try.prog.underlying 31 with | some (.struct fs) => fs.map (fun f => (f.type, f.offset)) | _ => #[]) = #[(3, 0), (9, 1), (3, 2), (3, 3), (29, 4)] := by kernel_rfl
theorem cellsOf9 : Try.prog.cellsOf 9 = 1 := by kernel_rfl
theorem cellsOf22 : Try.prog.cellsOf 29 = 1 := by kernel_rfl
theorem five_cells {w : World} {ad : Addr} {j : Nat} {l : List Value} (h5 : l.length = 5) (hc : ∀ m, m < 5 → w.cell? ((ad.add (j * 5)).add m) = l[m]?) : Five w ad j (.agg l.toArray) := by
  match l, h5 with
  | [c0, c1, c2, c3, c4], _ =>
    have h0 := hc 0 (by omega)
    have h1 := hc 1 (by omega)
    have h2 := hc 2 (by omega)
    have h3 := hc 3 (by omega)
    have h4 := hc 4 (by omega)
    rw [Go.Deep.add_add] at h0 h1 h2 h3 h4
    refine ⟨c0, c1, c2, c3, c4, rfl, h0, ?_, ?_, ?_, ?_⟩
    · rw [add_add' _ _ _ (by omega)]; exact h1
    · rw [add_add' _ _ _ (by omega)]; exact h2
    · rw [add_add' _ _ _ (by omega)]; exact h3
    · rw [add_add' _ _ _ (by omega)]; exact h4
set_option maxRecDepth 100000 in
theorem type_of_trod {H : Type} {enc : TypeId × Value → H} {w : World} {base : Nat} {spare : Nat → Bool} {held : Bool} :
    ∀ (m fuel : Nat), fuel ≤ m → ∀ (cs : List Value) (x : DataW H × List MemPlace), DataW.trod enc Try.prog w base spare held fuel 31 cs = some x → ∃ T, Rep w (fun _ => True) T (.agg cs.toArray) := by
  intro m
  induction m with
  | zero =>
    intro fuel hf cs x h
    obtain rfl : fuel = 0 := by omega
    simp [DataW.trod] at h
  | succ m ih =>
    intro fuel hf cs x h
    have hF := fields24
    have hU := Try.underlying31
    obtain ⟨xs, n, rfl, -, hl, hxl, hg⟩ := DataW.trod_struct hU h
    rw [Try.cells31] at hl
    match cs, hl with
    | [c0, c1, c2, c3, c4], _ =>
    have h0 : DataW.trod enc Try.prog w base spare held n 3 (([c0, c1, c2, c3, c4].drop 0).take (Try.prog.cellsOf 3)) = xs[0]? := hg 0 _ rfl
    have h1 : DataW.trod enc Try.prog w base spare held n 9 (([c0, c1, c2, c3, c4].drop 1).take (Try.prog.cellsOf 9)) = xs[1]? := hg 1 _ rfl
    have h2 : DataW.trod enc Try.prog w base spare held n 3 (([c0, c1, c2, c3, c4].drop 2).take (Try.prog.cellsOf 3)) = xs[2]? := hg 2 _ rfl
    have h3 : DataW.trod enc Try.prog w base spare held n 3 (([c0, c1, c2, c3, c4].drop 3).take (Try.prog.cellsOf 3)) = xs[3]? := hg 3 _ rfl
    have h4 : DataW.trod enc Try.prog w base spare held n 29 (([c0, c1, c2, c3, c4].drop 4).take (Try.prog.cellsOf 29)) = xs[4]? := hg 4 _ rfl
    rw [Try.cells3] at h0 h2 h3
    rw [cellsOf9] at h1
    rw [cellsOf22] at h4
    simp only [List.drop_zero, List.drop_succ_cons, List.take_succ_cons, List.take_zero] at h0 h1 h2 h3 h4
    have hx : xs.length = 5 := hxl
    rw [List.getElem?_eq_getElem (by omega)] at h0 h1 h2 h3 h4
    obtain ⟨k, e0, -, -⟩ := DataW.trod_int Try.underlying3 h0
    obtain ⟨nm, e1, -, hn⟩ := DataW.trod_string Try.underlying9 h1
    obtain ⟨i, e2, -, -⟩ := DataW.trod_int Try.underlying3 h2
    obtain ⟨hm, e3, -, -⟩ := DataW.trod_int Try.underlying3 h3
    simp at e0 e1 e2 e3
    subst e0 e1 e2 e3
    rcases DataW.trod_slice Try.underlying29 h4 with ⟨e4, -⟩ | ⟨a, len, cap, elems, rest, q, rfl, e4, -, -, hlc, hcm, hel, hat, -, -⟩
    · simp at e4
      subst e4
      exact ⟨_, Rep.close hn (repL_nil w _)⟩
    · simp at e4
      subst e4
      have hj : ∀ j, j < len → ∃ T v, Five w a j v ∧ Rep w (fun _ => True) T v := by
        intro j hj
        have hb := hat j hj
        rw [List.getElem?_eq_getElem (by omega), Option.bind_eq_some_iff] at hb
        obtain ⟨cs', hc, ht⟩ := hb
        obtain ⟨-, hcl, hca⟩ := World.cells?_some hc
        rw [Try.cells31] at hcl hca
        obtain ⟨T, hT⟩ := ih q (by omega) cs' _ ht
        exact ⟨T, _, five_cells hcl hca, hT⟩
      let f : Nat → Ty := fun j => if h : j < len then Classical.choose (hj j h) else default
      have hf : ∀ j, j < len → ∃ v, Five w a j v ∧ Rep w (fun _ => True) (f j) v := fun j h => by
        show ∃ v, Five w a j v ∧ Rep w (fun _ => True) (if h : j < len then Classical.choose (hj j h) else default) v
        rw [dif_pos h]
        exact Classical.choose_spec (hj j h)
      refine ⟨.mk k nm i hm ((List.range len).map f), Rep.close hn ⟨some a, cap, by simp, by simp; exact ⟨hlc, hcm⟩, fun j T hT => ?_⟩⟩
      have hjl := (List.getElem?_eq_some_iff.1 hT).1
      simp at hjl
      rw [List.getElem?_map, List.getElem?_range hjl] at hT
      simp at hT
      subst hT
      obtain ⟨v, h5, hr⟩ := hf j hjl
      exact ⟨a, v, rfl, trivial, h5, hr⟩
set_option maxRecDepth 100000 in
/-- A type that came in. -/
theorem type_open {H : Type} {enc : TypeId × Value → H} {W : World} {base : Nat} {v : Value} {d : DataW H} {p : List MemPlace} (hval : Value.okWide Try.prog W .any base 31 v) (h : DataW.Trod enc Try.prog W 0 (fun _ => true) true 31 v d p) :
    ∃ T, Rep W (fun b => b < W.heap.size) T v := by
  obtain ⟨cs, rfl, -⟩ := okWide_struct Try.underlying31 hval
  obtain ⟨fuel, hf⟩ := h
  obtain ⟨T, hT⟩ := type_of_trod fuel fuel (Nat.le_refl _) _ _ hf
  have e : cs.toList.toArray = cs := by simp
  simp only [Value.cells] at hT
  rw [e] at hT
  exact ⟨T, hT.bound.imp fun b hb => hb.2⟩
set_option maxRecDepth 100000 in
/-- A slice of numbers that came in. -/
theorem ints_open {H : Type} {enc : TypeId × Value → H} {W : World} {base : Nat} {v : Value} {d : DataW H} {p : List MemPlace} (hval : Value.okWide Try.prog W .any base 45 v) (h : DataW.Trod enc Try.prog W 0 (fun _ => true) true 45 v d p) :
    ∃ zs, Ints W v zs := by
  obtain ⟨a0, len, cap, rfl⟩ := okWide_slice Try.underlying45 hval
  obtain ⟨fuel, hf⟩ := h
  rcases open_ints Try.underlying45 Try.underlying3 Try.cells3 hf with ⟨hcs, _⟩ | ⟨a, len', cap', zs, hcs, _, hl, hm, hz, _, hcell, _⟩
  · simp [Value.cells] at hcs
    obtain ⟨rfl, rfl, rfl⟩ := hcs
    exact ⟨[], none, 0, rfl, by simp, by simp, fun i x h => by simp at h⟩
  · simp [Value.cells] at hcs
    obtain ⟨rfl, rfl, rfl⟩ := hcs
    simp only [if_true] at hz
    have ht : (zs.take len).length = len := by rw [List.length_take]; omega
    refine ⟨zs.take len, some a, cap, by rw [ht], by rw [ht]; exact hl, hm, fun i x hx => ?_⟩
    have hi : i < len := by
      have := (List.getElem?_eq_some_iff.1 hx).1
      omega
    have hx' : zs[i]? = some x := by rw [List.getElem?_take_of_lt hi] at hx; exact hx
    refine ⟨a, rfl, ?_⟩
    have := hcell i (by omega)
    rw [this, List.getD, hx']
    rfl
end Go.Proofs.Ytejlhfjhpminjaa
