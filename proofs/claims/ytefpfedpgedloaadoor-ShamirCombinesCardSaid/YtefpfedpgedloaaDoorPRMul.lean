/- lockboxref08.Mul. -/
import Derived.Test.YtefpfedpgedloaaDoorPRef
namespace Go.Proofs.YtefpfedpgedloaaDoor
open Go.RowKit
open Gf

/-- The product's first k bytes. -/
def convK (a b : List UInt8) : Nat → List UInt8
  | 0 => []
  | k + 1 => convK a b k ++ [conv a b k a.length]
theorem convK_length (a b : List UInt8) : ∀ k, (convK a b k).length = k
  | 0 => rfl
  | k + 1 => by rw [convK, List.length_append, convK_length a b k]; rfl
theorem co_convK (a b : List UInt8) : ∀ k i, i < k → co (convK a b k) i = conv a b i a.length
  | 0, i, h => absurd h (by omega)
  | k + 1, i, h => by
    rw [convK, co_app, convK_length]
    by_cases e : i < k
    · rw [if_pos e, co_convK a b k i e]
    · obtain rfl : i = k := by omega
      rw [if_neg e, Nat.sub_self, co_zero]
theorem convK_all {a b : ByteArray} {n : Nat} (hn : n = a.size + b.size) : trimB (str (convK a.data.toList b.data.toList n)) = mulB a b := by
  unfold trimB mulB
  rw [str_data]
  congr 1
  refine trimL_same (fun i => ?_)
  by_cases h : i < n
  · rw [co_convK _ _ _ _ h, co_mulP]
  · rw [co_far (by rw [convK_length]; omega), mulP_length _ _ _ (by rw [data_len, data_len]; omega)]
theorem coI_sub (b : ByteArray) (k i : Nat) (x : UInt8) : mul x (coI b ((k : Int) - (i : Int))) = if i ≤ k then mul x (co b.data.toList (k - i)) else 0 := by
  unfold coI
  by_cases h : i ≤ k
  · rw [if_neg (by omega), if_pos h]
    congr 2
    omega
  · rw [if_pos (by omega), if_neg h, mul_zero]
end Go.Proofs.YtefpfedpgedloaaDoor
