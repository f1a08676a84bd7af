/- MBlock, what is wanted of it. -/
import Derived.Test.YtdfkpjmljaanpaaGreatDoorZMH2
import Derived.Test.YtdfkpjmljaanpaaGreatDoorZMB
import Derived.Deep.DeepMust
namespace Go.Proofs.YtdfkpjmljaanpaaGreatDoor
open Go.RowKit
/-- A key, or its digest. -/
def keyOf (k : List UInt8) : List UInt8 := if 64 < k.length then sha k else k
theorem keyOf_length (k : List UInt8) : (keyOf k).length ≤ 64 := by
  unfold keyOf
  by_cases h : 64 < k.length
  · rw [if_pos h, sha_length]; decide
  · rw [if_neg h]; omega
/-- A key's block. -/
def blk (k : List UInt8) : List UInt8 := keyOf k ++ List.replicate (64 - (keyOf k).length) 0
theorem blk_length (k : List UInt8) : (blk k).length = 64 := by
  unfold blk; have := keyOf_length k; rw [List.length_append, List.length_replicate]; omega
def padX (k : List UInt8) (c : UInt8) : List UInt8 := (blk k).map (· ^^^ c)
theorem padX_length (k : List UInt8) (c : UInt8) : (padX k c).length = 64 := by unfold padX; rw [List.length_map, blk_length]
/-- The code of a text under a key. -/
def code (k t : List UInt8) : List UInt8 := sha (padX k 92 ++ sha (padX k 54 ++ t))
theorem code_length (k t : List UInt8) : (code k t).length = 32 := sha_length _
theorem byte_xor8 (x y : UInt8) : bits .xor .u8 (x.toNat : Int) (y.toNat : Int) = ((x ^^^ y).toNat : Int) := by
  rw [u8_xor_nat _ _ x.toNat_lt y.toNat_lt, UInt8.toNat_xor]
end Go.Proofs.YtdfkpjmljaanpaaGreatDoor
