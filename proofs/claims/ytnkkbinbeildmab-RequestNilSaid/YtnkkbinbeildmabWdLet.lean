/- words.letterOf, Norm. -/
import Derived.Test.YtnkkbinbeildmabMW2
import Derived.Test.YtnkkbinbeildmabMakeS
namespace Go.Proofs.Ytnkkbinbeildmab
open Go.RowKit

end Go.Proofs.Ytnkkbinbeildmab
