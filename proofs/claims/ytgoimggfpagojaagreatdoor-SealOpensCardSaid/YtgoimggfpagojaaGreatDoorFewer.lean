/- lockboxlaw01.Few. -/
import Derived.Test.YtgoimggfpagojaaGreatDoorMB
namespace Go.Proofs.YtgoimggfpagojaaGreatDoor
open Go.RowKit

/-- Not more than so many, each not longer than that. -/
def FewOf (ss : List ByteArray) (m k : Int) : Prop := (ss.length : Int) ≤ m ∧ ∀ j, j < ss.length → ((ss.getD j ByteArray.empty).size : Int) ≤ k
noncomputable def fewB (ss : List ByteArray) (m k : Int) : Bool := @decide (FewOf ss m k) (Classical.propDecidable _)
theorem fewB_true {ss : List ByteArray} {m k : Int} (h : FewOf ss m k) : fewB ss m k = true := by unfold fewB; exact @decide_eq_true _ (Classical.propDecidable _) h
theorem fewB_false {ss : List ByteArray} {m k : Int} (h : ¬ FewOf ss m k) : fewB ss m k = false := by unfold fewB; exact @decide_eq_false _ (Classical.propDecidable _) h

end Go.Proofs.YtgoimggfpagojaaGreatDoor
