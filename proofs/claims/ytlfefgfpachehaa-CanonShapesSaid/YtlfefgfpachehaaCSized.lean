/- What an item that is not too great holds. -/
import Derived.Test.YtlfefgfpachehaaCSize
import Derived.Test.YtlfefgfpachehaaCDec
namespace Go.Proofs.Ytlfefgfpachehaa
open Go.RowKit
open Cn

mutual
theorem len_sized (most : Nat) (hm : most ≤ 2000) : ∀ (x : Pt) (deep d : Nat), may x d = true → sizeP most x deep ≤ most → (Cn.bytes x).length ≤ 10 * sizeP most x deep
  | .mk k n s l, deep, d, hmay, h => by
    rw [sizeP] at h ⊢
    by_cases hc : 8 < deep ∨ most < 1 + s.size
    · rw [if_pos hc] at h; omega
    · rw [if_neg hc] at h ⊢
      have hs : s.size < 2000 := by omega
      by_cases h1 : k = 1
      · subst h1
        rw [may, if_pos rfl] at hmay
        simp only [Bool.and_eq_true, decide_eq_true_eq] at hmay
        obtain rfl : l = [] := List.eq_nil_of_length_eq_zero hmay.2
        rw [Cn.bytes, if_pos rfl, num_length, sizeAll]
        have := width_le (n := n.toNat) (k := 8) (by omega) (by omega)
        omega
      · by_cases h2 : k = 2
        · subst h2
          rw [may, if_neg (by decide), if_pos rfl] at hmay
          simp only [Bool.and_eq_true, decide_eq_true_eq] at hmay
          obtain rfl : l = [] := List.eq_nil_of_length_eq_zero hmay.2
          rw [Cn.bytes, if_neg (by decide), if_pos rfl, sizeAll, List.length_cons, List.length_append, num_length]
          have := width_le (n := s.size) (k := 8) (by omega) (by omega)
          have hz : s.data.toList.length = s.size := by simp
          omega
        · have hk : k = 3 := by
            rcases Classical.em (k = 3) with h | h
            · exact h
            · rw [may0_eq h1 h2 h] at hmay; cases hmay
          subst hk
          rw [may, if_neg (by decide), if_neg (by decide), if_pos rfl] at hmay
          simp only [Bool.and_eq_true, decide_eq_true_eq] at hmay
          have := lenAll_sized most hm l (1 + s.size) deep (d - 1) hmay.2 h
          rw [Cn.bytes, if_neg (by decide), if_neg (by decide), List.length_cons, List.length_append, num_length]
          have := width_le (n := l.length) (k := 8) (by omega) (by omega)
          omega
theorem lenAll_sized (most : Nat) (hm : most ≤ 2000) : ∀ (l : List Pt) (acc deep d : Nat), mayAll l d = true → sizeAll most l acc deep ≤ most → (bytesAll l).length + 10 * acc ≤ 10 * sizeAll most l acc deep
  | [], acc, deep, d, _, _ => by rw [sizeAll, bytesAll]; simp
  | x :: r, acc, deep, d, hmay, h => by
    rw [sizeAll] at h ⊢
    rw [mayAll, Bool.and_eq_true] at hmay
    by_cases hc : most < acc + sizeP most x (deep + 1)
    · rw [if_pos hc] at h; omega
    · rw [if_neg hc] at h ⊢
      have h1 := len_sized most hm x (deep + 1) d hmay.1 (by omega)
      have h2 := lenAll_sized most hm r _ deep d hmay.2 h
      rw [bytesAll, List.length_append]
      omega
end
mutual
theorem sz_sized (most : Nat) : ∀ (x : It) (deep : Nat), sizeP most x.pure deep ≤ most → x.sz ≤ sizeP most x.pure deep
  | .mk k n s a cap l, deep, h => by
    have hp : (It.mk k n s a cap l).pure = .mk k n s (It.pureAll l) := rfl
    rw [hp, sizeP] at h ⊢
    by_cases hc : 8 < deep ∨ most < 1 + s.size
    · rw [if_pos hc] at h; omega
    · rw [if_neg hc] at h ⊢
      have := szAll_sized most l (1 + s.size) deep h
      rw [It.sz]
      omega
theorem szAll_sized (most : Nat) : ∀ (l : List It) (acc deep : Nat), sizeAll most (It.pureAll l) acc deep ≤ most → It.szAll l + acc ≤ sizeAll most (It.pureAll l) acc deep
  | [], acc, deep, _ => by rw [It.pureAll, sizeAll, It.szAll]; omega
  | x :: r, acc, deep, h => by
    rw [It.pureAll, sizeAll] at h ⊢
    by_cases hc : most < acc + sizeP most x.pure (deep + 1)
    · rw [if_pos hc] at h; omega
    · rw [if_neg hc] at h ⊢
      have h1 := sz_sized most x (deep + 1) (by omega)
      have h2 := szAll_sized most r _ deep h
      rw [It.szAll]
      omega
end
theorem len_szAll : ∀ l : List It, l.length ≤ It.szAll l
  | [] => Nat.zero_le _
  | x :: r => by have := len_szAll r; rw [It.szAll, It.sz_eq, List.length_cons]; omega
theorem lists_sized {x : It} (h : x.sz ≤ 2000) : ∀ y : It, y.sz ≤ x.sz → y.l.length ≤ 1000000 := fun y hy => by
  have := len_szAll y.l
  rw [It.sz_eq] at hy
  omega
end Go.Proofs.Ytlfefgfpachehaa
