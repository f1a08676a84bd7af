/- math/bits.Len (the shelf's contract, laid at this program). -/
import Derived.Shelf.Small.Bits
import Derived.Test.YtdfkpjmljaanpaaProg
namespace Go.Proofs
open Go.Shelf
end Go.Proofs
