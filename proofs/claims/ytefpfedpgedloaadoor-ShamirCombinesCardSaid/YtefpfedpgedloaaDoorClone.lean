/- strings.Clone (the shelf's contract, laid at this program). -/
import Derived.Shelf.Strconv.Clone
import Derived.Test.YtefpfedpgedloaaDoorBytes
namespace Go.Proofs
open Go.Shelf
end Go.Proofs
namespace Go.Proofs.YtefpfedpgedloaaDoor
open Go.RowKit

end Go.Proofs.YtefpfedpgedloaaDoor
