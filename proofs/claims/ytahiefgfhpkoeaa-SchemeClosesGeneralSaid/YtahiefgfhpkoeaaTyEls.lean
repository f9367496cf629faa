/- Strings, constructors and declarations as elements of rows. -/
import Derived.Test.YtahiefgfhpkoeaaTyGen
namespace Go.Proofs.Ytahiefgfhpkoeaa
open Go.RowKit Mth

theorem elInfo_str : (Try.prog.info? 9).map (fun i => (i.zero, i.size, i.bytes)) = some (some (.string ByteArray.empty), 1, 16) := by kernel_rfl
theorem elInfo_ctor : (Try.prog.info? 131).map (fun i => (i.zero, i.size, i.bytes)) = some (some (.agg #[.int .i64 0, .string ByteArray.empty, .slice none 0 0]), 3, 48) := by kernel_rfl
theorem elInfo_dat : (Try.prog.info? 71).map (fun i => (i.zero, i.size, i.bytes)) = some (some (.agg #[.int .i64 0, .string ByteArray.empty, .slice none 0 0, .slice none 0 0]), 4, 72) := by kernel_rfl
def StrE : El ByteArray where
  k := 1
  by_ := 16
  e := 9
  t := 68
  rep _ _ x c := c = [.string x]
  hk := by decide
  und := Try.underlying68
  info := by obtain ⟨i, h0, h1, h2, h3⟩ := info_parts elInfo_str; exact ⟨i, _, h0, h1, h2, h3, rfl⟩
  hby := by decide
  len h := by subst h; exact ⟨rfl, by intro u hu; simp at hu; subst hu; rfl⟩
  kept _ _ h := h
  bound h := h
/-- A constructor's declaration. -/
structure Ctor where
  pos : Int
  name : ByteArray
  fields : List Ty
/-- A data declaration. -/
structure Dat where
  pos : Int
  name : ByteArray
  params : List ByteArray
  ctors : List Ctor
def CtorE : El Ctor where
  k := 3
  by_ := 48
  e := 131
  t := 69
  rep w S x c := ∃ fv, c = [.int .i64 x.pos, .string x.name, fv] ∧ SlG TyE w S x.fields fv
  hk := by decide
  und := Try.underlying69
  info := by obtain ⟨i, h0, h1, h2, h3⟩ := info_parts elInfo_ctor; exact ⟨i, _, h0, h1, h2, h3, rfl⟩
  hby := by decide
  len h := by
    obtain ⟨fv, rfl, hf⟩ := h
    obtain ⟨a, c, rfl, -⟩ := hf.slice
    exact ⟨rfl, by intro u hu; simp at hu; rcases hu with rfl | rfl | rfl <;> rfl⟩
  kept h1 h2 h := by
    obtain ⟨fv, e, hf⟩ := h
    exact ⟨fv, e, hf.kept h1 h2⟩
  bound h := by
    obtain ⟨fv, e, hf⟩ := h
    exact ⟨fv, e, hf.bound⟩
def DatE : El Dat where
  k := 4
  by_ := 72
  e := 71
  t := 37
  rep w S x c := ∃ pv cv, c = [.int .i64 x.pos, .string x.name, pv, cv] ∧ SlG StrE w S x.params pv ∧ SlG CtorE w S x.ctors cv
  hk := by decide
  und := Try.underlying37
  info := by obtain ⟨i, h0, h1, h2, h3⟩ := info_parts elInfo_dat; exact ⟨i, _, h0, h1, h2, h3, rfl⟩
  hby := by decide
  len h := by
    obtain ⟨pv, cv, rfl, hp, hc⟩ := h
    obtain ⟨a, c, rfl, -⟩ := hp.slice
    obtain ⟨a', c', rfl, -⟩ := hc.slice
    exact ⟨rfl, by intro u hu; simp at hu; rcases hu with rfl | rfl | rfl | rfl <;> rfl⟩
  kept h1 h2 h := by
    obtain ⟨pv, cv, e, hp, hc⟩ := h
    exact ⟨pv, cv, e, hp.kept h1 h2, hc.kept h1 h2⟩
  bound h := by
    obtain ⟨pv, cv, e, hp, hc⟩ := h
    exact ⟨pv, cv, e, hp.bound, hc.bound⟩
end Go.Proofs.Ytahiefgfhpkoeaa
