/- Plain mathematics for Padded: when the zeros end, and what each byte behind the text is. No program. -/
import Derived.Test.YtnpdmkgefaobeaaDoorPad
namespace Go.Proofs.YtnpdmkgefaobeaaDoor
theorem pad_stop (n c : Nat) (h1 : 1 ≤ c) (hc : c + 8 ≤ padLen n) : (n + c) % 64 = 56 ↔ c + 8 = padLen n := by
  have := padLen_bd n
  omega
theorem pad_first (n : Nat) : (padL n).take 1 = [128] := by
  have := padLen_bd n
  rw [List.take_one, List.head?_eq_getElem?, padL_get n 0 (by omega)]
  rfl
theorem pad_next (n c : Nat) (hc : c < padLen n) : (padL n).take (c + 1) = (padL n).take c ++ [padAt n c] := by
  rw [List.take_add_one, padL_get n c hc]; rfl
theorem pad_zero (n c : Nat) (h1 : 1 ≤ c) (hc : c + 8 < padLen n) : padAt n c = 0 := by
  rw [padAt, if_neg (by omega), if_pos hc]
theorem pad_byte (n i : Nat) (hi : i < 8) : padAt n (padLen n - 8 + i) = UInt8.ofNat (8 * n / 256 ^ (7 - i)) := by
  have := padLen_bd n
  rw [padAt, if_neg (by omega), if_neg (by omega), show padLen n - 1 - (padLen n - 8 + i) = 7 - i by omega]
theorem pad_all (n : Nat) : (padL n).take (padLen n) = padL n := List.take_of_length_le (by rw [padL_length]; exact Nat.le_refl _)
end Go.Proofs.YtnpdmkgefaobeaaDoor
