/- Stores: a store that came in. -/
import Derived.Test.YtejlhfjhpminjaaStFr
import Derived.Test.YtejlhfjhpminjaaTyOpen
namespace Go.Proofs.Ytejlhfjhpminjaa
open Go.ChangeShapes Go.WideShapes Go.ChangeAt Go.RowKit Go.Deep Mth

theorem cellsSlot : Try.prog.cellsOf 39 = 8 := by kernel_rfl
theorem cellsChange : Try.prog.cellsOf 55 = 10 := by kernel_rfl
theorem cellsStore : Try.prog.cellsOf 27 = 2 := by kernel_rfl
theorem cellsBool : Try.prog.cellsOf 4 = 1 := by kernel_rfl
theorem cellsSlotL : Try.prog.cellsOf 24 = 1 := by kernel_rfl
theorem cellsChangeL : Try.prog.cellsOf 25 = 1 := by kernel_rfl
theorem fieldsSlot : (match Try.prog.underlying 39 with | some (.struct fs) => fs.map (fun f => (f.type, f.offset)) | _ => #[]) = #[(4, 0), (31, 1), (3, 6), (4, 7)] := by kernel_rfl
theorem fieldsChange : (match Try.prog.underlying 55 with | some (.struct fs) => fs.map (fun f => (f.type, f.offset)) | _ => #[]) = #[(3, 0), (39, 1), (4, 9)] := by kernel_rfl
theorem fieldsStore : (match Try.prog.underlying 27 with | some (.struct fs) => fs.map (fun f => (f.type, f.offset)) | _ => #[]) = #[(24, 0), (25, 1)] := by kernel_rfl
theorem undBool : Try.prog.underlying 4 = some .bool := by kernel_rfl
set_option maxRecDepth 100000 in
theorem slot_of_trod {H : Type} {enc : TypeId × Value → H} {w : World} {base : Nat} {spare : Nat → Bool} {held : Bool} {fuel : Nat} {cs : List Value} {x : DataW H × List MemPlace} (h : DataW.trod enc Try.prog w base spare held fuel 39 cs = some x) :
    ∃ s : Slt, SltV w (fun _ => True) s cs := by
  have hF := fieldsSlot
  have hU := Try.underlying39
  obtain ⟨xs, n, rfl, -, hl, hxl, hg⟩ := DataW.trod_struct hU h
  rw [cellsSlot] at hl
  match cs, hl with
  | [c0, c1, c2, c3, c4, c5, c6, c7], _ =>
  have h0 : DataW.trod enc Try.prog w base spare held n 4 (([c0, c1, c2, c3, c4, c5, c6, c7].drop 0).take (Try.prog.cellsOf 4)) = xs[0]? := hg 0 _ rfl
  have h1 : DataW.trod enc Try.prog w base spare held n 31 (([c0, c1, c2, c3, c4, c5, c6, c7].drop 1).take (Try.prog.cellsOf 31)) = xs[1]? := hg 1 _ rfl
  have h2 : DataW.trod enc Try.prog w base spare held n 3 (([c0, c1, c2, c3, c4, c5, c6, c7].drop 6).take (Try.prog.cellsOf 3)) = xs[2]? := hg 2 _ rfl
  have h3 : DataW.trod enc Try.prog w base spare held n 4 (([c0, c1, c2, c3, c4, c5, c6, c7].drop 7).take (Try.prog.cellsOf 4)) = xs[3]? := hg 3 _ rfl
  rw [cellsBool] at h0 h3
  rw [Try.cells3] at h2
  rw [Try.cells31] at h1
  simp only [List.drop_zero, List.drop_succ_cons, List.take_succ_cons, List.take_zero] at h0 h1 h2 h3
  have hx : xs.length = 4 := hxl
  rw [List.getElem?_eq_getElem (by omega)] at h0 h1 h2 h3
  obtain ⟨b0, e0, -⟩ := DataW.trod_bool undBool h0
  obtain ⟨z, e2, -, -⟩ := DataW.trod_int Try.underlying3 h2
  obtain ⟨b3, e3, -⟩ := DataW.trod_bool undBool h3
  obtain ⟨T, hT⟩ := type_of_trod n n (Nat.le_refl _) _ _ h1
  simp at e0 e2 e3
  subst e0 e2 e3
  obtain ⟨nm, a, m, c, e, -, -⟩ := hT.frm
  simp at e
  obtain ⟨rfl, rfl, rfl, rfl, rfl⟩ := e
  exact ⟨⟨b0, T, z, b3⟩, T.k, nm, T.i, T.h, a, m, c, rfl, hT⟩
set_option maxRecDepth 100000 in
theorem change_of_trod {H : Type} {enc : TypeId × Value → H} {w : World} {base : Nat} {spare : Nat → Bool} {held : Bool} {fuel : Nat} {cs : List Value} {x : DataW H × List MemPlace} (h : DataW.trod enc Try.prog w base spare held fuel 55 cs = some x) :
    ∃ s : Chg, ChgE.rep w (fun _ => True) s cs := by
  have hF := fieldsChange
  have hU := Try.underlying55
  obtain ⟨xs, n, rfl, -, hl, hxl, hg⟩ := DataW.trod_struct hU h
  rw [cellsChange] at hl
  match cs, hl with
  | [c0, c1, c2, c3, c4, c5, c6, c7, c8, c9], _ =>
  have h0 : DataW.trod enc Try.prog w base spare held n 3 (([c0, c1, c2, c3, c4, c5, c6, c7, c8, c9].drop 0).take (Try.prog.cellsOf 3)) = xs[0]? := hg 0 _ rfl
  have h1 : DataW.trod enc Try.prog w base spare held n 39 (([c0, c1, c2, c3, c4, c5, c6, c7, c8, c9].drop 1).take (Try.prog.cellsOf 39)) = xs[1]? := hg 1 _ rfl
  have h2 : DataW.trod enc Try.prog w base spare held n 4 (([c0, c1, c2, c3, c4, c5, c6, c7, c8, c9].drop 9).take (Try.prog.cellsOf 4)) = xs[2]? := hg 2 _ rfl
  rw [Try.cells3] at h0
  rw [cellsSlot] at h1
  rw [cellsBool] at h2
  simp only [List.drop_zero, List.drop_succ_cons, List.take_succ_cons, List.take_zero] at h0 h1 h2
  have hx : xs.length = 3 := hxl
  rw [List.getElem?_eq_getElem (by omega)] at h0 h1 h2
  obtain ⟨z, e0, -, -⟩ := DataW.trod_int Try.underlying3 h0
  obtain ⟨b, e2, -⟩ := DataW.trod_bool undBool h2
  obtain ⟨s, hs⟩ := slot_of_trod h1
  simp at e0 e2
  subst e0 e2
  exact ⟨⟨z, s, b⟩, _, rfl, hs⟩
/-- A slice of elements that came in. -/
theorem list_of_trod {α : Type} [Inhabited α] {E : El α} {H : Type} {enc : TypeId × Value → H} {w : World} {base : Nat} {spare : Nat → Bool} {held : Bool} {fuel : Nat} {c : Value} {x : DataW H × List MemPlace} (hc : Try.prog.cellsOf E.e = E.k)
    (hE : ∀ (fuel : Nat) (cs : List Value) (x : DataW H × List MemPlace), DataW.trod enc Try.prog w base spare held fuel E.e cs = some x → ∃ s : α, E.rep w (fun _ => True) s cs) (h : DataW.trod enc Try.prog w base spare held fuel E.t [c] = some x) :
    ∃ (xs : List α) (a : Option Addr) (cap : Nat), c = .slice a xs.length cap ∧ SlG E w (fun _ => True) xs (.slice a xs.length cap) := by
  rcases DataW.trod_slice E.und h with ⟨e4, -⟩ | ⟨a, len, cap, elems, rest, q, rfl, e4, -, -, hlc, hcm, hel, hat, -, -⟩
  · simp at e4
    subst e4
    exact ⟨[], none, 0, rfl, slG_nil _ _ _⟩
  · simp at e4
    subst e4
    have hj : ∀ j, j < len → ∃ (s : α) (cs : List Value), E.rep w (fun _ => True) s cs ∧ ∀ (m : Nat) (u : Value), cs[m]? = some u → w.cell? (a.add (j * E.k + m)) = some u := by
      intro j hj
      have hb := hat j hj
      rw [List.getElem?_eq_getElem (by omega), Option.bind_eq_some_iff] at hb
      obtain ⟨cs', hc', ht⟩ := hb
      obtain ⟨-, hcl, hca⟩ := World.cells?_some hc'
      rw [hc] at hcl hca
      obtain ⟨s, hs⟩ := hE _ _ _ ht
      refine ⟨s, cs', hs, fun m u hu => ?_⟩
      have hm : m < E.k := by rw [← hcl]; exact (List.getElem?_eq_some_iff.1 hu).1
      have := hca m hm
      rw [Go.Deep.add_add] at this
      rw [this, hu]
    let f : Nat → α := fun j => if h : j < len then Classical.choose (hj j h) else default
    have hf : ∀ j, j < len → ∃ (cs : List Value), E.rep w (fun _ => True) (f j) cs ∧ ∀ (m : Nat) (u : Value), cs[m]? = some u → w.cell? (a.add (j * E.k + m)) = some u := fun j h => by
      have e : f j = Classical.choose (hj j h) := dif_pos h
      rw [e]
      exact Classical.choose_spec (hj j h)
    have hl : ((List.range len).map f).length = len := by simp
    refine ⟨(List.range len).map f, some a, cap, by rw [hl], some a, cap, rfl, by rw [hl]; exact ⟨hlc, hcm⟩, fun j x hx => ?_⟩
    have hjl := (List.getElem?_eq_some_iff.1 hx).1
    rw [hl] at hjl
    rw [List.getElem?_map, List.getElem?_range hjl] at hx
    simp at hx
    subst hx
    obtain ⟨cs, h1, h2⟩ := hf j hjl
    exact ⟨a, cs, rfl, trivial, h2, h1⟩
instance : Inhabited Slt := ⟨slZ⟩
instance : Inhabited Chg := ⟨⟨0, slZ, false⟩⟩
set_option maxRecDepth 100000 in
/-- A store that came in. -/
theorem store_open {H : Type} {enc : TypeId × Value → H} {W : World} {base : Nat} {v : Value} {d : DataW H} {p : List MemPlace} (hval : Value.okWide Try.prog W .any base 27 v) (h : DataW.Trod enc Try.prog W 0 (fun _ => true) true 27 v d p) :
    ∃ s : Sto, StoR W (fun _ => True) s v := by
  obtain ⟨cs, rfl, -⟩ := okWide_struct Try.underlying27 hval
  obtain ⟨fuel, hf⟩ := h
  have hF := fieldsStore
  obtain ⟨xs, n, rfl, -, hl, hxl, hg⟩ := DataW.trod_struct Try.underlying27 hf
  rw [cellsStore] at hl
  simp only [Value.cells] at hl hg
  obtain ⟨c0, c1, e⟩ : ∃ c0 c1, cs.toList = [c0, c1] := by
    match h : cs.toList, hl with
    | [c0, c1], _ => exact ⟨c0, c1, rfl⟩
  rw [e] at hg
  have h0 : DataW.trod enc Try.prog W 0 (fun _ => true) true n 24 (([c0, c1].drop 0).take (Try.prog.cellsOf 24)) = xs[0]? := hg 0 _ rfl
  have h1 : DataW.trod enc Try.prog W 0 (fun _ => true) true n 25 (([c0, c1].drop 1).take (Try.prog.cellsOf 25)) = xs[1]? := hg 1 _ rfl
  rw [cellsSlotL] at h0
  rw [cellsChangeL] at h1
  simp only [List.drop_zero, List.drop_succ_cons, List.take_succ_cons, List.take_zero] at h0 h1
  have hx : xs.length = 2 := hxl
  rw [List.getElem?_eq_getElem (by omega)] at h0 h1
  obtain ⟨sl, sa, sc, rfl, k1⟩ := list_of_trod (E := SltE) cellsSlot (fun f cs x h => slot_of_trod h) h0
  obtain ⟨tr, ta, tc, rfl, k2⟩ := list_of_trod (E := ChgE) cellsChange (fun f cs x h => change_of_trod h) h1
  have e2 : cs = #[.slice sa sl.length sc, .slice ta tr.length tc] := by rw [← Array.toList_inj, e]
  subst e2
  exact ⟨⟨sl, tr⟩, sa, sc, ta, tc, rfl, k1, k2⟩
end Go.Proofs.Ytejlhfjhpminjaa
