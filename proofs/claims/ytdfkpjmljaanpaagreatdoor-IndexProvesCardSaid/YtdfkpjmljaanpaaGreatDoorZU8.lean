/- U8, what is wanted of it. -/
import Derived.Test.YtdfkpjmljaanpaaGreatDoorProg
import Derived.WalkKit
namespace Go.Proofs.YtdfkpjmljaanpaaGreatDoor
open Go.RowKit
/-- A byte that comes in. -/
theorem u8_of {n : Int} (h : (Lit.int .u8 n).wf = true) : ∃ b : UInt8, n = (b.toNat : Int) := by
  simp only [Lit.wf, Bool.and_eq_true, decide_eq_true_eq] at h
  have h1 : 0 ≤ n := h.1
  have h2 : n ≤ 255 := h.2
  refine ⟨UInt8.ofNat n.toNat, ?_⟩
  rw [UInt8.toNat_ofNat', Nat.mod_eq_of_lt (show n.toNat < 256 by omega)]
  omega
end Go.Proofs.YtdfkpjmljaanpaaGreatDoor
