/- lockboxlaw04.awake. -/
import Derived.Test.YtgoimggfpagojaaDoorMKey
namespace Go.Proofs.YtgoimggfpagojaaDoor
open Go.RowKit

theorem below_call {A B C : World} (h : Below A.heap.size A B) (k : Below B.heap.size B C) : Below A.heap.size A C := h.trans (k.mono h.size)
def foxL : List UInt8 := [84, 104, 101, 32, 113, 117, 105, 99, 107, 32, 98, 114, 111, 119, 110, 32, 102, 111, 120, 32, 106, 117, 109, 112, 115, 32, 111, 118, 101, 114, 32, 116, 104, 101, 32, 108, 97, 122, 121, 32, 100, 111, 103]
theorem fox4 : (code [107, 101, 121] foxL).take 4 = [247, 188, 131, 244] := by decide +kernel
end Go.Proofs.YtgoimggfpagojaaDoor
