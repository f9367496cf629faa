/- Strings, constructors and declarations as elements of rows. -/
import Derived.Test.YtejlhfjhpminjaaTyGen
namespace Go.Proofs.Ytejlhfjhpminjaa
open Go.RowKit Mth

theorem elInfo_str : (Try.prog.info? 9).map (fun i => (i.zero, i.size, i.bytes)) = some (some (.string ByteArray.empty), 1, 16) := by kernel_rfl
def StrE : El ByteArray where
  k := 1
  by_ := 16
  e := 9
  t := 86
  rep _ _ x c := c = [.string x]
  hk := by decide
  und := Try.underlying86
  info := by obtain ⟨i, h0, h1, h2, h3⟩ := info_parts elInfo_str; exact ⟨i, _, h0, h1, h2, h3, rfl⟩
  hby := by decide
  len h := by subst h; exact ⟨rfl, by intro u hu; simp at hu; subst hu; rfl⟩
  kept _ _ h := h
  bound h := h
/-- A constructor's declaration. -/
structure Ctor where
  pos : Int
  name : ByteArray
  fields : List Ty
/-- A data declaration. -/
structure Dat where
  pos : Int
  name : ByteArray
  params : List ByteArray
  ctors : List Ctor
end Go.Proofs.Ytejlhfjhpminjaa
