/- What the laws of the readexpr rows share: the seven listed variables. -/
import Derived.Test.YthphnacfidofbaaGreatDoorTyKit
import Derived.Test.YthphnacfidofbaaGreatDoorExMa
import Derived.LaidMore
import Derived.MakeChecks
import Derived.Stop.LaidErr
namespace Go.Proofs.YthphnacfidofbaaGreatDoor
open Go.ChangeShapes Go.WideShapes Go.ChangeAt Go.RowKit Go.Deep Mth

theorem Tryz.gUn : Tryz.prog.globalNamed "typedholes/readexpr.errUnexpected" = some 0 := by kernel_rfl
theorem Tryz.gUnType : (Tryz.prog.globals[0]?).map (·.type) = some 113 := by kernel_rfl
theorem Tryz.cellsEs : Tryz.prog.cellsOf 199 = 1 := by kernel_rfl
theorem Tryz.cellsStr : Tryz.prog.cellsOf 9 = 1 := by kernel_rfl
theorem Tryz.star : "*" ++ "errors.errorString" = "*errors.errorString" := by decide
theorem Tryz.rowEs (u : TypeId) (h : Tryz.prog.typeName? 3 u = some "*errors.errorString") : u = 197 :=
  typeName_ptr_named (nm := "errors.errorString") (by rw [Tryz.star]; kernel_rfl) (by kernel_rfl) (by decide) u (by rw [Tryz.star]; exact h)
def laid7 : List (String × DataW Unit) := Rows.readexprAnyRow.laid
theorem laid7_plain : (laid7.filter fun x => x.2.handleName?.isNone) = [("math/bits.deBruijn32tab", Rows.laid_math_bits_deBruijn32tab), ("math/bits.deBruijn64tab", Rows.laid_math_bits_deBruijn64tab), ("internal/strconv.uint64pow10", Rows.laid_internal_strconv_uint64pow10), ("strconv.ErrRange", Rows.laid_strconv_ErrRange), ("strconv.ErrSyntax", Rows.laid_strconv_ErrSyntax), ("typedholes/readexpr.errUnexpected", Rows.laid_typedholes_readexpr_errUnexpected)] := by kernel_rfl
theorem laid7_handle : (laid7.filter fun x => x.2.handleName?.isSome) = laid1 := by kernel_rfl
/-- What the condition gives a walk: the two variables that are read. -/
theorem g2_of_laid {W : World} (h : laidMetH Tryz.prog laid7 W) : ∃ ea, G2 ea W := by
  unfold laidMetH at h
  rw [laid7_plain, laid7_handle] at h
  have h' : laidMet Tryz.prog [("math/bits.deBruijn32tab", Rows.laid_math_bits_deBruijn32tab), ("math/bits.deBruijn64tab", Rows.laid_math_bits_deBruijn64tab), ("internal/strconv.uint64pow10", Rows.laid_internal_strconv_uint64pow10), ("strconv.ErrRange", Rows.laid_strconv_ErrRange), ("strconv.ErrSyntax", Rows.laid_strconv_ErrSyntax), ("typedholes/readexpr.errUnexpected", Rows.laid_typedholes_readexpr_errUnexpected)] W ∧ handlesMet Tryz.prog laid1 W := h
  have hgl : Gl W := gl_of_laid (show laidMetH Tryz.prog laid1 W from ⟨laidMet_nil _ _, h'.2⟩)
  obtain ⟨a, s, hv, -, -, -⟩ := laid_sentinel h'.1.tail.tail.tail.tail.tail Tryz.gUn Tryz.gUnType Tryz.underlying113 Tryz.rowEs Tryz.underlying197 Tryz.underlying199 rfl rfl Tryz.underlying9 Tryz.cellsEs Tryz.cellsStr
  refine ⟨a, hgl, ?_⟩
  show W.cell? ⟨0, 0, none⟩ = _
  simpa [EV] using World.var?_cell Tryz.gUn hv 0
theorem door_met (os : Os) (args : Array Value) : laidMetH Tryz.prog laid7 ((World.doorLaid Tryz.prog 400 os).forCall (fun _ _ => 0) ⟨#[], args, []⟩).memory :=
  laidMetH_of_parts3 (fuel := 8) (laidMet_of_run' 8 (by kernel_rfl) (by kernel_rfl)) (by kernel_rfl) (by kernel_rfl)
end Go.Proofs.YthphnacfidofbaaGreatDoor
