import Derived.Test.YtgcefodgjhlbeaaGreatDoorCX3
import Derived.Test.YtgcefodgjhlbeaaGreatDoorCE1
import Derived.Test.YtgcefodgjhlbeaaGreatDoorCX4
import Derived.Test.YtgcefodgjhlbeaaGreatDoorCX5
import Derived.Test.YtgcefodgjhlbeaaGreatDoorCB5
/- The reference's Expr and Atom return what the package's return. -/
namespace Go.Proofs.YtgcefodgjhlbeaaGreatDoor
open Go.RowKit Go.Maps Mth

theorem resY_bnd {T : Ex} {s : St} (h : bndE T = true) : bndE (resY T s).T = true := by
  unfold resY
  split
  · rfl
  · exact h
theorem rdEA_bnd (ts : List Tok) (hok : TkOk ts) (k : Int) : bndE (rdEA ts k).T = true := by
  have hl := hok.1
  unfold rdEA rdOfY
  split
  · rename_i T s h
    exact resY_bnd ((ybds ts _ (by omega)).atom _ _ _ h)
  · rfl
end Go.Proofs.YtgcefodgjhlbeaaGreatDoor
