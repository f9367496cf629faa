import Derived.Test.YtljgpgmaceackaaQX02
import Derived.Test.YtljgpgmaceackaaQX07
import Derived.LaidEql
import Derived.Stop.Asserts
import Derived.RowKitTokens
/- The package's reader of expressions: errors.Is, its memory, what each small method does. -/
namespace Go.Proofs.Ytljgpgmaceackaa
open Go.RowKit Go.Maps Mth Go.Extern.Stop Go.Stop Go.Extern

/-! errors.Is at the package's own error. -/
/-- What the next token is, as the reader sees it. -/
def yK (ts : List Tok) (s : St) : Int := if s.bad then 0 else tkK ts s.i
def yT (ts : List Tok) (s : St) : ByteArray := if s.bad then ⟨#[]⟩ else txt ts s.i
def stB (k : Int) (x : ByteArray) : Bool := k == 1 || k == 2 || k == 3 || (k == 5 && x.toList == (⟨#[63]⟩ : ByteArray).toList) || (k == 5 && x.toList == (⟨#[40]⟩ : ByteArray).toList) || (k == 5 && x.toList == (⟨#[123]⟩ : ByteArray).toList)
end Go.Proofs.Ytljgpgmaceackaa
