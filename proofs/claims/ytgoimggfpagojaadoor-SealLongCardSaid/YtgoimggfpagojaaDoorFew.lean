/- lockboxref01.All: texts, one behind the other. -/
import Derived.Test.YtgoimggfpagojaaDoorFewer
namespace Go.Proofs.YtgoimggfpagojaaDoor
open Go.RowKit

/-- Texts, one behind the other: the first i. -/
def catN (ss : List ByteArray) : Nat → ByteArray
  | 0 => ⟨#[]⟩
  | i + 1 => catN ss i ++ ss.getD i ByteArray.empty
theorem catN_size {ss : List ByteArray} {m : Nat} (h : ∀ j, j < ss.length → (ss.getD j ByteArray.empty).size ≤ m) : ∀ i, i ≤ ss.length → (catN ss i).size ≤ m * i
  | 0, _ => by rw [catN]; exact Nat.zero_le _
  | i + 1, hi => by
    have h1 := catN_size h i (by omega)
    have h2 := h i (by omega)
    rw [catN, ByteArray.size_append, Nat.mul_add]; omega

end Go.Proofs.YtgoimggfpagojaaDoor
