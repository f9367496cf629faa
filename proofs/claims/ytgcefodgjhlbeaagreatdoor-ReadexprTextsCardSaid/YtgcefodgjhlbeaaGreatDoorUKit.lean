import Derived.Test.YtgcefodgjhlbeaaGreatDoorCards
import Derived.Test.YtgcefodgjhlbeaaGreatDoorTie
import Derived.Test.YtgcefodgjhlbeaaGreatDoorUA6
import Derived.Deep.Slices
import Derived.ProofKit
import Derived.OpenShut
import Derived.LaidHandle
import Derived.LaidLaws
import Derived.ChangeVars
import Derived.JoinedOf
import Derived.Stop.Joined
import Derived.SevenTiedAt
import Derived.Test.YtgcefodgjhlbeaaGreatDoorUB1
import Derived.LaidMore
import Derived.MakeChecks
import Derived.Stop.LaidErr
namespace Go.Proofs.YtgcefodgjhlbeaaGreatDoor
open Go.ChangeShapes Go.WideShapes Go.ChangeAt Go.RowKit Go.Deep Mth

theorem Tryz.own : ownKnob Tryz.prog.godebug = none := by kernel_rfl
theorem Tryz.laidOut : laidOutB Tryz.prog = true := by kernel_rfl
theorem Tryz.cells3 : Tryz.prog.cellsOf 3 = 1 := by kernel_rfl
theorem Tryz.et : Tryz.prog.globalNamed "errors.errorType" = some 3 := by kernel_rfl
theorem Tryz.rt : (Tryz.prog.cutTypes.find? (·.1 == "internal/reflectlite.rtype")).map (·.2) = some 132 := by kernel_rfl
theorem Tryz.oneRow : ((List.range 236).filter fun t => Tryz.prog.rowNamed t [101, 114, 114, 111, 114]) = [98] := by kernel_rfl
theorem Tryz.size : Tryz.prog.types.size = 236 := by kernel_rfl
def laid1 : List (String × DataW Unit) := [("errors.errorType", Rows.laid_errors_errorType)]
theorem gl_of_laid {W : World} (h : laidMetH Tryz.prog laid1 W) : Gl W := by
 have h' : laidMet Tryz.prog [] W ∧ handlesMet Tryz.prog laid1 W := h
 obtain ⟨name, u, ty, e1, e2, e3, e4, e5⟩ := h'.2 _ (List.mem_singleton.2 rfl)
 have en : name = [101, 114, 114, 111, 114] := (Option.some.inj e1).symm
 subst en
 obtain rfl := Option.some.inj (Tryz.rt.symm.trans e2)
 have hm : ty ∈ (List.range 236).filter fun t => Tryz.prog.rowNamed t [101, 114, 114, 111, 114] := List.mem_filter.2 ⟨List.mem_range.2 (by rw [← Tryz.size]; exact e3), e4⟩
 rw [Tryz.oneRow] at hm
 obtain rfl := List.mem_singleton.1 hm
 have hh : typeHandle Tryz.prog 98 = .pointer (some ⟨7, 98, none⟩) := by kernel_rfl
 rw [hh] at e5
 show W.cell? ⟨3, 0, none⟩ = _
 simpa using World.var?_cell Tryz.et e5 0
theorem trodAll_below {P : Program} (hlo : laidOutB P = true) {H : Type} {enc : TypeId × Value → H} {W W' : World} (hb : Below W.heap.size W W') :
  ∀ (ts : List TypeId) (vs : List Value) (ds : List (DataW H)) (ps : List MemPlace), (∀ t ∈ ts, P.readableRec t = true ∧ t < P.types.size) →
   DataW.TrodAll enc P W 0 (fun _ => true) true ts vs ds ps → (∀ x ∈ ps, x.block < W.heap.size) → DataW.TrodAll enc P W' 0 (fun b => decide (b < W.heap.size)) true ts vs ds ps := by
 intro ts
 induction ts with
 | nil =>
  intro vs ds ps _ h _
  obtain ⟨rfl, rfl, rfl⟩ := trodAll_nil h
  exact trodAll_mk0
 | cons t ts ih =>
  intro vs ds ps hr h hl
  obtain ⟨v, vs', d, ds', p, q, rfl, rfl, rfl, h1, h2⟩ := trodAll_cons h
  exact ⟨p, q, Below.trod hlo (hr t (by simp)).1 (hr t (by simp)).2 h1 hb (fun x hx => hl x (by simp [hx])), ih vs' ds' q (fun t ht => hr t (by simp [ht])) h2 (fun x hx => hl x (by simp [hx])), rfl⟩
theorem all_parts {P : Program} {ts : List TypeId} (h : (ts.all fun t => P.readableRec t && decide (t < P.types.size)) = true) : ∀ t ∈ ts, P.readableRec t = true ∧ t < P.types.size := fun t ht => by
 simpa using List.all_eq_true.1 h t ht
theorem law_post {f : Func} {s : ChangeSpec} {H : Type} {enc : TypeId × Value → H} {W W' : World} {args : Array Value} {ds gs : List (DataW H)} {before : List MemPlace}
  (hft : f.resultTypes = #[4]) (hpr : (f.params.toList.all fun t => Tryz.prog.readableRec t && decide (t < Tryz.prog.types.size)) = true) (hv : s.vars = [])
  (hW : DataW.Whole enc Tryz.prog f.params.toList s.vars false W args.toList ds gs before)
  (h1 : (s.fn H (ds ++ gs)).results = [.lit (.bool true)]) (h2 : (s.fn H (ds ++ gs)).args = ds) (h3 : (s.fn H (ds ++ gs)).vars = []) (hb : Below W.heap.size W W') :
  ∃ v, Ending.returned (.bool true) = .returned v ∧ s.post enc Tryz.prog f false true false false W args v W' := by
 have hW' := hW
 obtain ⟨p, q, hA, hV, rfl, hfz, hnd⟩ := hW
 rw [hv] at hV
 obtain ⟨rfl, rfl⟩ := trodVars_none hV
 refine ⟨_, rfl, ds, [], p ++ [], [], p, [], hW', ?_, ?_, ?_, hb.frame _, fun h => by cases h⟩
 ·rw [h1, hft]; exact trodAll_mk1 (shut_bool Tryz.underlying4 _)
 ·rw [h2]; exact trodAll_below Tryz.laidOut hb _ _ _ _ (all_parts hpr) hA (fun x hx => hW'.lt x (by simp [hx]))
 ·rw [h3, hv]; rfl
set_option maxRecDepth 100000 in
theorem ints_open {H : Type} {enc : TypeId × Value → H} {W : World} {base : Nat} {v : Value} {d : DataW H} {p : List MemPlace} (hval : Value.okWide Tryz.prog W .any base 22 v) (h : DataW.Trod enc Tryz.prog W 0 (fun _ => true) true 22 v d p) :
  ∃ zs, Ints W v zs := by
 obtain ⟨a0, len, cap, rfl⟩ := okWide_slice Tryz.underlying22 hval
 obtain ⟨fuel, hf⟩ := h
 rcases open_ints Tryz.underlying22 Tryz.underlying3 Tryz.cells3 hf with ⟨hcs, _⟩ | ⟨a, len', cap', zs, hcs, _, hl, hm, hz, _, hcell, _⟩
 ·simp [Value.cells] at hcs
  obtain ⟨rfl, rfl, rfl⟩ := hcs
  exact ⟨[], none, 0, rfl, by simp, by simp, fun i x h => by simp at h⟩
 ·simp [Value.cells] at hcs
  obtain ⟨rfl, rfl, rfl⟩ := hcs
  simp only [if_true] at hz
  have ht : (zs.take len).length = len := by rw [List.length_take]; omega
  refine ⟨zs.take len, some a, cap, by rw [ht], by rw [ht]; exact hl, hm, fun i x hx => ?_⟩
  have hi : i < len := by
   have := (List.getElem?_eq_some_iff.1 hx).1
   omega
  have hx' : zs[i]? = some x := by rw [List.getElem?_take_of_lt hi] at hx; exact hx
  refine ⟨a, rfl, ?_⟩
  have := hcell i (by omega)
  rw [this, List.getD, hx']
  rfl
end Go.Proofs.YtgcefodgjhlbeaaGreatDoor

namespace Go.Proofs.YtgcefodgjhlbeaaGreatDoor
open Go.ChangeShapes Go.WideShapes Go.ChangeAt Go.RowKit Go.Deep Mth

theorem Tryz.gUn : Tryz.prog.globalNamed "typedholes/readexpr.errUnexpected" = some 0 := by kernel_rfl
theorem Tryz.gUnType : (Tryz.prog.globals[0]?).map (·.type) = some 98 := by kernel_rfl
theorem Tryz.cellsEs : Tryz.prog.cellsOf 176 = 1 := by kernel_rfl
theorem Tryz.cellsStr : Tryz.prog.cellsOf 9 = 1 := by kernel_rfl
theorem Tryz.star : "*" ++ "errors.errorString" = "*errors.errorString" := by decide
theorem Tryz.rowEs (u : TypeId) (h : Tryz.prog.typeName? 3 u = some "*errors.errorString") : u = 174 :=
 typeName_ptr_named (nm := "errors.errorString") (by rw [Tryz.star]; kernel_rfl) (by kernel_rfl) (by decide) u (by rw [Tryz.star]; exact h)
def laid7 : List (String × DataW Unit) := Rows.readexprParenthesesRow.laid
theorem laid7_plain : (laid7.filter fun x => x.2.handleName?.isNone) = [("math/bits.deBruijn32tab", Rows.laid_math_bits_deBruijn32tab), ("math/bits.deBruijn64tab", Rows.laid_math_bits_deBruijn64tab), ("internal/strconv.uint64pow10", Rows.laid_internal_strconv_uint64pow10), ("strconv.ErrRange", Rows.laid_strconv_ErrRange), ("strconv.ErrSyntax", Rows.laid_strconv_ErrSyntax), ("typedholes/readexpr.errUnexpected", Rows.laid_typedholes_readexpr_errUnexpected)] := by kernel_rfl
theorem laid7_handle : (laid7.filter fun x => x.2.handleName?.isSome) = laid1 := by kernel_rfl
theorem g2_of_laid {W : World} (h : laidMetH Tryz.prog laid7 W) : ∃ ea, G2 ea W := by
 unfold laidMetH at h
 rw [laid7_plain, laid7_handle] at h
 have h' : laidMet Tryz.prog [("math/bits.deBruijn32tab", Rows.laid_math_bits_deBruijn32tab), ("math/bits.deBruijn64tab", Rows.laid_math_bits_deBruijn64tab), ("internal/strconv.uint64pow10", Rows.laid_internal_strconv_uint64pow10), ("strconv.ErrRange", Rows.laid_strconv_ErrRange), ("strconv.ErrSyntax", Rows.laid_strconv_ErrSyntax), ("typedholes/readexpr.errUnexpected", Rows.laid_typedholes_readexpr_errUnexpected)] W ∧ handlesMet Tryz.prog laid1 W := h
 have hgl : Gl W := gl_of_laid (show laidMetH Tryz.prog laid1 W from ⟨laidMet_nil _ _, h'.2⟩)
 obtain ⟨a, s, hv, -, -, -⟩ := laid_sentinel h'.1.tail.tail.tail.tail.tail Tryz.gUn Tryz.gUnType Tryz.underlying98 Tryz.rowEs Tryz.underlying174 Tryz.underlying176 rfl rfl Tryz.underlying9 Tryz.cellsEs Tryz.cellsStr
 refine ⟨a, hgl, ?_⟩
 show W.cell? ⟨0, 0, none⟩ = _
 simpa [EV] using World.var?_cell Tryz.gUn hv 0
theorem door_met (os : Os) (args : Array Value) : laidMetH Tryz.prog laid7 ((World.doorLaid Tryz.prog 400 os).forCall (fun _ _ => 0) ⟨#[], args, []⟩).memory :=
 laidMetH_of_parts3 (fuel := 8) (laidMet_of_run' 8 (by kernel_rfl) (by kernel_rfl)) (by kernel_rfl) (by kernel_rfl)
end Go.Proofs.YtgcefodgjhlbeaaGreatDoor
