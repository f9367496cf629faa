/- The contracts of the package's functions on names and numbers. -/
import Derived.Test.YtejlhfjhpminjaaTyRep
import Derived.Handy
namespace Go.Proofs.Ytejlhfjhpminjaa
open Go.RowKit Mth

/-- May a constructor with this name have so many arguments? -/
def conOk (n : ByteArray) (c : Nat) : Bool := if n.toList == [45, 62] then c == 2 else if n.toList == [73, 110, 116] then c == 0 else isUp (bl n) && decide (c ≤ 4)
end Go.Proofs.Ytejlhfjhpminjaa
