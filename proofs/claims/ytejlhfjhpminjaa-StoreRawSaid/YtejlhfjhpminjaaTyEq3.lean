/- The contract of the package's Equal. -/
import Derived.Test.YtejlhfjhpminjaaTyEq2
import Derived.Shelf.Abstract
namespace Go.Proofs.Ytejlhfjhpminjaa
open Go.RowKit Go.Sort Go.Shelf Mth

theorem keep_alloc {w : World} {p : Addr} {v : Value} (o : Obj) (h : w.cell? p = some v) : (w.alloc o).cell? p = some v :=
  (((Below.refl w.heap.size w).alloc (Nat.le_refl _) o).cell (World.block_lt_of_cell? _ _ h)).trans h
end Go.Proofs.Ytejlhfjhpminjaa
