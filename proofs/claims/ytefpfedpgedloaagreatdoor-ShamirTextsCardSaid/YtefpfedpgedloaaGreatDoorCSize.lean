/- size, Few. -/
import Derived.Test.YtefpfedpgedloaaGreatDoorCOpen
import Derived.Test.YtefpfedpgedloaaGreatDoorCCut
import Derived.Test.YtefpfedpgedloaaGreatDoorCMay
namespace Go.Proofs.YtefpfedpgedloaaGreatDoor
open Go.RowKit
open Cn

theorem lt_of_heap' {w : World} {g : Nat} {o : Obj} (h : w.heap[g]? = some o) : g < w.heap.size := (Array.getElem?_eq_some_iff.1 h).1
theorem drop_at {l : List It} {i : Nat} {x : It} (h : l[i]? = some x) : It.pureAll (l.drop i) = x.pure :: It.pureAll (l.drop (i + 1)) := by
  obtain ⟨hi, rfl⟩ := List.getElem?_eq_some_iff.1 h
  rw [List.drop_eq_getElem_cons hi, It.pureAll]
end Go.Proofs.YtefpfedpgedloaaGreatDoor
