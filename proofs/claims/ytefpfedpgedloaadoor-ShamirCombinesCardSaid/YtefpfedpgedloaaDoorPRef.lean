/- lockboxref08.Add, Mul. -/
import Derived.Test.YtefpfedpgedloaaDoorPMul
namespace Go.Proofs.YtefpfedpgedloaaDoor
open Go.RowKit
open Gf

/-- The sums of the first k bytes. -/
def xorK (b c : List UInt8) : Nat → List UInt8
  | 0 => []
  | k + 1 => xorK b c k ++ [co b k ^^^ co c k]
theorem xorK_length (b c : List UInt8) : ∀ k, (xorK b c k).length = k
  | 0 => rfl
  | k + 1 => by rw [xorK, List.length_append, xorK_length b c k]; rfl
theorem co_app (p q : List UInt8) (i : Nat) : co (p ++ q) i = if i < p.length then co p i else co q (i - p.length) := by
  unfold co
  rw [List.getD_eq_getElem?_getD, List.getD_eq_getElem?_getD, List.getD_eq_getElem?_getD]
  split
  · next h => rw [List.getElem?_append_left h]
  · next h => rw [List.getElem?_append_right (by omega)]
theorem co_xorK (b c : List UInt8) : ∀ k i, i < k → co (xorK b c k) i = co b i ^^^ co c i
  | 0, i, h => absurd h (by omega)
  | k + 1, i, h => by
    rw [xorK, co_app, xorK_length]
    by_cases e : i < k
    · rw [if_pos e, co_xorK b c k i e]
    · obtain rfl : i = k := by omega
      rw [if_neg e, Nat.sub_self, co_zero]
theorem xorK_all {a b : ByteArray} {n : Nat} (ha : a.size ≤ n) (hb : b.size ≤ n) : trimB (str (xorK a.data.toList b.data.toList n)) = sumB a b := by
  unfold trimB sumB
  rw [str_data]
  congr 1
  refine trimL_same (fun i => ?_)
  rw [co_addP]
  by_cases h : i < n
  · rw [co_xorK _ _ _ _ h]
  · rw [co_far (by rw [xorK_length]; omega), co_far (by rw [data_len]; omega), co_far (by rw [data_len]; omega)]; rfl
end Go.Proofs.YtefpfedpgedloaaDoor
