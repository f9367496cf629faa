import Derived.Test.YtafpngmfhajedaaTyInts
import Derived.Test.YtafpngmfhajedaaRows
import Derived.Deep.Slices
import Derived.ProofKit
import Derived.OpenShut
/- A type that came in as an argument stands for a tree. -/
namespace Go.Proofs.Ytafpngmfhajedaa
open Go.ChangeShapes Go.WideShapes Go.ChangeAt Go.RowKit Go.Deep Mth

theorem Try.cells39 : Try.prog.cellsOf 39 = 5 := by kernel_rfl
theorem Try.cells3 : Try.prog.cellsOf 3 = 1 := by kernel_rfl
theorem Try.own : ownKnob Try.prog.godebug = none := by kernel_rfl
theorem Try.laidOut : laidOutB Try.prog = true := by kernel_rfl
theorem fields24 : (match Try.prog.underlying 39 with | some (.struct fs) => fs.map (fun f => (f.type, f.offset)) | _ => #[]) = #[(3, 0), (9, 1), (3, 2), (3, 3), (37, 4)] := by kernel_rfl
theorem cellsOf9 : Try.prog.cellsOf 9 = 1 := by kernel_rfl
theorem cellsOf22 : Try.prog.cellsOf 37 = 1 := by kernel_rfl
theorem five_cells {w : World} {ad : Addr} {j : Nat} {l : List Value} (h5 : l.length = 5) (hc : ∀ m, m < 5 → w.cell? ((ad.add (j * 5)).add m) = l[m]?) : Five w ad j (.agg l.toArray) := by
  match l, h5 with
  | [c0, c1, c2, c3, c4], _ =>
    have h0 := hc 0 (by omega)
    have h1 := hc 1 (by omega)
    have h2 := hc 2 (by omega)
    have h3 := hc 3 (by omega)
    have h4 := hc 4 (by omega)
    rw [Go.Deep.add_add] at h0 h1 h2 h3 h4
    refine ⟨c0, c1, c2, c3, c4, rfl, h0, ?_, ?_, ?_, ?_⟩
    · rw [add_add' _ _ _ (by omega)]; exact h1
    · rw [add_add' _ _ _ (by omega)]; exact h2
    · rw [add_add' _ _ _ (by omega)]; exact h3
    · rw [add_add' _ _ _ (by omega)]; exact h4
set_option maxRecDepth 100000 in
theorem type_of_trod {H : Type} {enc : TypeId × Value → H} {w : World} {base : Nat} {spare : Nat → Bool} {held : Bool} :
    ∀ (m fuel : Nat), fuel ≤ m → ∀ (cs : List Value) (x : DataW H × List MemPlace), DataW.trod enc Try.prog w base spare held fuel 39 cs = some x → ∃ T, Rep w (fun _ => True) T (.agg cs.toArray) := by
  intro m
  induction m with
  | zero =>
    intro fuel hf cs x h
    obtain rfl : fuel = 0 := by omega
    simp [DataW.trod] at h
  | succ m ih =>
    intro fuel hf cs x h
    have hF := fields24
    have hU := Try.underlying39
    obtain ⟨xs, n, rfl, -, hl, hxl, hg⟩ := DataW.trod_struct hU h
    rw [Try.cells39] at hl
    match cs, hl with
    | [c0, c1, c2, c3, c4], _ =>
    have h0 : DataW.trod enc Try.prog w base spare held n 3 (([c0, c1, c2, c3, c4].drop 0).take (Try.prog.cellsOf 3)) = xs[0]? := hg 0 _ rfl
    have h1 : DataW.trod enc Try.prog w base spare held n 9 (([c0, c1, c2, c3, c4].drop 1).take (Try.prog.cellsOf 9)) = xs[1]? := hg 1 _ rfl
    have h2 : DataW.trod enc Try.prog w base spare held n 3 (([c0, c1, c2, c3, c4].drop 2).take (Try.prog.cellsOf 3)) = xs[2]? := hg 2 _ rfl
    have h3 : DataW.trod enc Try.prog w base spare held n 3 (([c0, c1, c2, c3, c4].drop 3).take (Try.prog.cellsOf 3)) = xs[3]? := hg 3 _ rfl
    have h4 : DataW.trod enc Try.prog w base spare held n 37 (([c0, c1, c2, c3, c4].drop 4).take (Try.prog.cellsOf 37)) = xs[4]? := hg 4 _ rfl
    rw [Try.cells3] at h0 h2 h3
    rw [cellsOf9] at h1
    rw [cellsOf22] at h4
    simp only [List.drop_zero, List.drop_succ_cons, List.take_succ_cons, List.take_zero] at h0 h1 h2 h3 h4
    have hx : xs.length = 5 := hxl
    rw [List.getElem?_eq_getElem (by omega)] at h0 h1 h2 h3 h4
    obtain ⟨k, e0, -, -⟩ := DataW.trod_int Try.underlying3 h0
    obtain ⟨nm, e1, -, hn⟩ := DataW.trod_string Try.underlying9 h1
    obtain ⟨i, e2, -, -⟩ := DataW.trod_int Try.underlying3 h2
    obtain ⟨hm, e3, -, -⟩ := DataW.trod_int Try.underlying3 h3
    simp at e0 e1 e2 e3
    subst e0 e1 e2 e3
    rcases DataW.trod_slice Try.underlying37 h4 with ⟨e4, -⟩ | ⟨a, len, cap, elems, rest, q, rfl, e4, -, -, hlc, hcm, hel, hat, -, -⟩
    · simp at e4
      subst e4
      exact ⟨_, Rep.close hn (repL_nil w _)⟩
    · simp at e4
      subst e4
      have hj : ∀ j, j < len → ∃ T v, Five w a j v ∧ Rep w (fun _ => True) T v := by
        intro j hj
        have hb := hat j hj
        rw [List.getElem?_eq_getElem (by omega), Option.bind_eq_some_iff] at hb
        obtain ⟨cs', hc, ht⟩ := hb
        obtain ⟨-, hcl, hca⟩ := World.cells?_some hc
        rw [Try.cells39] at hcl hca
        obtain ⟨T, hT⟩ := ih q (by omega) cs' _ ht
        exact ⟨T, _, five_cells hcl hca, hT⟩
      let f : Nat → Ty := fun j => if h : j < len then Classical.choose (hj j h) else default
      have hf : ∀ j, j < len → ∃ v, Five w a j v ∧ Rep w (fun _ => True) (f j) v := fun j h => by
        show ∃ v, Five w a j v ∧ Rep w (fun _ => True) (if h : j < len then Classical.choose (hj j h) else default) v
        rw [dif_pos h]
        exact Classical.choose_spec (hj j h)
      refine ⟨.mk k nm i hm ((List.range len).map f), Rep.close hn ⟨some a, cap, by simp, by simp; exact ⟨hlc, hcm⟩, fun j T hT => ?_⟩⟩
      have hjl := (List.getElem?_eq_some_iff.1 hT).1
      simp at hjl
      rw [List.getElem?_map, List.getElem?_range hjl] at hT
      simp at hT
      subst hT
      obtain ⟨v, h5, hr⟩ := hf j hjl
      exact ⟨a, v, rfl, trivial, h5, hr⟩
set_option maxRecDepth 100000 in
/-- A type that came in. -/
theorem type_open {H : Type} {enc : TypeId × Value → H} {W : World} {base : Nat} {v : Value} {d : DataW H} {p : List MemPlace} (hval : Value.okWide Try.prog W .any base 39 v) (h : DataW.Trod enc Try.prog W 0 (fun _ => true) true 39 v d p) :
    ∃ T, Rep W (fun b => b < W.heap.size) T v := by
  obtain ⟨cs, rfl, -⟩ := okWide_struct Try.underlying39 hval
  obtain ⟨fuel, hf⟩ := h
  obtain ⟨T, hT⟩ := type_of_trod fuel fuel (Nat.le_refl _) _ _ hf
  have e : cs.toList.toArray = cs := by simp
  simp only [Value.cells] at hT
  rw [e] at hT
  exact ⟨T, hT.bound.imp fun b hb => hb.2⟩
set_option maxRecDepth 100000 in
/-- A slice of numbers that came in. -/
theorem ints_open {H : Type} {enc : TypeId × Value → H} {W : World} {base : Nat} {v : Value} {d : DataW H} {p : List MemPlace} (hval : Value.okWide Try.prog W .any base 22 v) (h : DataW.Trod enc Try.prog W 0 (fun _ => true) true 22 v d p) :
    ∃ zs, Ints W v zs := by
  obtain ⟨a0, len, cap, rfl⟩ := okWide_slice Try.underlying22 hval
  obtain ⟨fuel, hf⟩ := h
  rcases open_ints Try.underlying22 Try.underlying3 Try.cells3 hf with ⟨hcs, _⟩ | ⟨a, len', cap', zs, hcs, _, hl, hm, hz, _, hcell, _⟩
  · simp [Value.cells] at hcs
    obtain ⟨rfl, rfl, rfl⟩ := hcs
    exact ⟨[], none, 0, rfl, by simp, by simp, fun i x h => by simp at h⟩
  · simp [Value.cells] at hcs
    obtain ⟨rfl, rfl, rfl⟩ := hcs
    simp only [if_true] at hz
    have ht : (zs.take len).length = len := by rw [List.length_take]; omega
    refine ⟨zs.take len, some a, cap, by rw [ht], by rw [ht]; exact hl, hm, fun i x hx => ?_⟩
    have hi : i < len := by
      have := (List.getElem?_eq_some_iff.1 hx).1
      omega
    have hx' : zs[i]? = some x := by rw [List.getElem?_take_of_lt hi] at hx; exact hx
    refine ⟨a, rfl, ?_⟩
    have := hcell i (by omega)
    rw [this, List.getD, hx']
    rfl
end Go.Proofs.Ytafpngmfhajedaa

/- What every law of this seat shares: the step from a walk to the given statement. -/
namespace Go.Proofs.Ytafpngmfhajedaa
open Go.ChangeShapes Go.WideShapes Go.ChangeAt Go.RowKit

/-- Arguments that were read before a call that only makes memory read so behind it. -/
theorem trodAll_below {P : Program} (hlo : laidOutB P = true) {H : Type} {enc : TypeId × Value → H} {W W' : World} (hb : Below W.heap.size W W') :
    ∀ (ts : List TypeId) (vs : List Value) (ds : List (DataW H)) (ps : List MemPlace), (∀ t ∈ ts, P.readableRec t = true ∧ t < P.types.size) →
      DataW.TrodAll enc P W 0 (fun _ => true) true ts vs ds ps → (∀ x ∈ ps, x.block < W.heap.size) → DataW.TrodAll enc P W' 0 (fun b => decide (b < W.heap.size)) true ts vs ds ps := by
  intro ts
  induction ts with
  | nil =>
    intro vs ds ps _ h _
    obtain ⟨rfl, rfl, rfl⟩ := trodAll_nil h
    exact trodAll_mk0
  | cons t ts ih =>
    intro vs ds ps hr h hl
    obtain ⟨v, vs', d, ds', p, q, rfl, rfl, rfl, h1, h2⟩ := trodAll_cons h
    exact ⟨p, q, Below.trod hlo (hr t (by simp)).1 (hr t (by simp)).2 h1 hb (fun x hx => hl x (by simp [hx])), ih vs' ds' q (fun t ht => hr t (by simp [ht])) h2 (fun x hx => hl x (by simp [hx])), rfl⟩
theorem all_parts {P : Program} {ts : List TypeId} (h : (ts.all fun t => P.readableRec t && decide (t < P.types.size)) = true) : ∀ t ∈ ts, P.readableRec t = true ∧ t < P.types.size := fun t ht => by
  simpa using List.all_eq_true.1 h t ht

/-- The step from a walk's end to what the row says of it. -/
theorem law_post {f : Func} {s : ChangeSpec} {H : Type} {enc : TypeId × Value → H} {W W' : World} {args : Array Value} {ds gs : List (DataW H)} {before : List MemPlace}
    (hft : f.resultTypes = #[4]) (hpr : (f.params.toList.all fun t => Try.prog.readableRec t && decide (t < Try.prog.types.size)) = true) (hv : s.vars = [])
    (hW : DataW.Whole enc Try.prog f.params.toList s.vars false W args.toList ds gs before)
    (h1 : (s.fn H (ds ++ gs)).results = [.lit (.bool true)]) (h2 : (s.fn H (ds ++ gs)).args = ds) (h3 : (s.fn H (ds ++ gs)).vars = []) (hb : Below W.heap.size W W') :
    ∃ v, Ending.returned (.bool true) = .returned v ∧ s.post enc Try.prog f false true false false W args v W' := by
  have hW' := hW
  obtain ⟨p, q, hA, hV, rfl, hfz, hnd⟩ := hW
  rw [hv] at hV
  obtain ⟨rfl, rfl⟩ := trodVars_none hV
  refine ⟨_, rfl, ds, [], p ++ [], [], p, [], hW', ?_, ?_, ?_, hb.frame _, fun h => by cases h⟩
  · rw [h1, hft]; exact trodAll_mk1 (shut_bool Try.underlying4 _)
  · rw [h2]; exact trodAll_below Try.laidOut hb _ _ _ _ (all_parts hpr) hA (fun x hx => hW'.lt x (by simp [hx]))
  · rw [h3, hv]; rfl
end Go.Proofs.Ytafpngmfhajedaa
