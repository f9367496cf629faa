import Derived.Test.YtljgpgmaceackaaQX27
import Derived.Lib.QuietBelow
import Derived.Test.YtljgpgmaceackaaQX03
import Derived.Deep.RegionHeld3
import Derived.Deep.CutBlock
/- The law's own sanity check is true. -/
namespace Go.Proofs.Ytljgpgmaceackaa
open Go.RowKit Go.Maps Mth

theorem keepCall {W a b : World} (h1 : Below W.heap.size W a) (h2 : Below a.heap.size a b) : Below W.heap.size W b := h1.trans (h2.mono h1.size)
end Go.Proofs.Ytljgpgmaceackaa
