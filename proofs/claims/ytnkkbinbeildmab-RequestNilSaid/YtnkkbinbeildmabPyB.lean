/- lockboxref20's Name and May; the faults of request and policy. -/
import Derived.Test.YtnkkbinbeildmabPyA
import Derived.Test.YtnkkbinbeildmabErr
namespace Go.Proofs.Ytnkkbinbeildmab
open Go.RowKit
set_option maxRecDepth 100000 in
theorem rqfault_any (id c : Int) (w : World) : Calls Try.prog 26 #[.int .i64 id, .int .i64 c] w fun e w' => ∃ b op, e = .returned (.iface 73 (.pointer (some ⟨b, 0, none⟩))) ∧ FaultAt w' b op id c ∧ Below w.heap.size w w' := by
  go_enter Try.func26, Try.ntmps26
  go_wp2_with fail
  go_ret
  exact ⟨_, _, rfl, heap_alloc_new _ _, (Below.refl _ _).alloc (Nat.le_refl _) _⟩
end Go.Proofs.Ytnkkbinbeildmab
