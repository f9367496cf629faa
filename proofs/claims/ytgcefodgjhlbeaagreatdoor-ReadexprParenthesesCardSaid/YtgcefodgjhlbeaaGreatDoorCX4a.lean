import Derived.Test.YtgcefodgjhlbeaaGreatDoorCX3
import Derived.Test.YtgcefodgjhlbeaaGreatDoorCE2
import Derived.Deep.LoopGhost
import Derived.Lib.QuietBelow
/- The reference's reader of expressions: applications. -/
namespace Go.Proofs.YtgcefodgjhlbeaaGreatDoor
open Go.RowKit Go.Maps Mth

def appC (p : Int) (n : Nat) : List Value := [.int .i64 5, .int .i64 p, .string ⟨#[]⟩, .int .i64 0, .slice (some ⟨n, 0, none⟩) 2 2, .slice none 0 0, .int .i64 0, .string ⟨#[]⟩, .int .i64 0, .int .i64 0, .slice none 0 0]
end Go.Proofs.YtgcefodgjhlbeaaGreatDoor
