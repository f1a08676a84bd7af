/- The four bytes of a word, put together by sums. No program. -/
import Derived.Test.YtnpdmkgefaobeaaDoorSha
namespace Go.Proofs.YtnpdmkgefaobeaaDoor
theorem w8_high (x : UInt8) (i : Nat) (hi : 8 ≤ i) : (w8 x).getLsbD i = false := by
  have h : x.toNat < 2 ^ i := Nat.lt_of_lt_of_le x.toNat_lt (Nat.pow_le_pow_right (by omega) hi)
  rw [w8, BitVec.getLsbD_ofNat, Nat.testBit_lt_two_pow h, Bool.and_false]
theorem word_sum (a b c d : UInt8) : w8 a <<< 24 + w8 b <<< 16 + w8 c <<< 8 + w8 d = w8 a <<< 24 ||| w8 b <<< 16 ||| w8 c <<< 8 ||| w8 d := by
  have s1 : w8 a <<< 24 + w8 b <<< 16 = w8 a <<< 24 ||| w8 b <<< 16 := by
    refine BitVec.add_eq_or_of_and_eq_zero _ _ (BitVec.eq_of_getLsbD_eq fun i _ => ?_)
    simp only [BitVec.getLsbD_and, BitVec.getLsbD_shiftLeft, BitVec.getLsbD_zero]
    by_cases h : i < 24
    · simp [h]
    · rw [w8_high b (i - 16) (by omega)]; simp
  have s2 : (w8 a <<< 24 ||| w8 b <<< 16) + w8 c <<< 8 = w8 a <<< 24 ||| w8 b <<< 16 ||| w8 c <<< 8 := by
    refine BitVec.add_eq_or_of_and_eq_zero _ _ (BitVec.eq_of_getLsbD_eq fun i _ => ?_)
    simp only [BitVec.getLsbD_and, BitVec.getLsbD_or, BitVec.getLsbD_shiftLeft, BitVec.getLsbD_zero]
    by_cases h : i < 16
    · simp [h, (by omega : i < 24)]
    · rw [w8_high c (i - 8) (by omega)]; simp
  have s3 : (w8 a <<< 24 ||| w8 b <<< 16 ||| w8 c <<< 8) + w8 d = w8 a <<< 24 ||| w8 b <<< 16 ||| w8 c <<< 8 ||| w8 d := by
    refine BitVec.add_eq_or_of_and_eq_zero _ _ (BitVec.eq_of_getLsbD_eq fun i _ => ?_)
    simp only [BitVec.getLsbD_and, BitVec.getLsbD_or, BitVec.getLsbD_shiftLeft, BitVec.getLsbD_zero]
    by_cases h : i < 8
    · simp [h, (by omega : i < 24), (by omega : i < 16)]
    · rw [w8_high d i (by omega)]; simp
  rw [s1, s2, s3]
end Go.Proofs.YtnpdmkgefaobeaaDoor
