/- Bytes that are cut off; and how great an item is. Of no program. -/
import Derived.Test.YtefpfedpgedloaaGreatDoorCDec
namespace Go.Proofs.YtefpfedpgedloaaGreatDoor
namespace Cn

theorem top_ne {n : Nat} (h : n < 2 ^ 64) (h0 : 0 < width n) : n / 256 ^ (width n - 1) % 256 ≠ 0 := by
  have hn : 0 < n := by
    rcases Nat.eq_zero_or_pos n with e | e
    · subst e; rw [width_zero] at h0; omega
    · exact e
  obtain ⟨h1, h2⟩ := width_ge h hn
  have h3 := width_lt h
  have h4 : n / 256 ^ (width n - 1) < 256 := by
    rw [Nat.div_lt_iff_lt_mul (Nat.pow_pos (by decide))]
    rw [show width n = width n - 1 + 1 by omega, Nat.pow_succ, Nat.mul_comm] at h3
    exact h3
  rw [Nat.mod_eq_of_lt h4]
  have : 0 < n / 256 ^ (width n - 1) := Nat.div_pos h2 (Nat.pow_pos (by decide))
  omega
theorem digits_cut0 {n j : Nat} (h : n < 2 ^ 64) (hj : j < width n) : digits (width n) true 0 ((be (width n) n).take j) = .error 7 :=
  digits_cut n _ true 0 j hj (fun _ => top_ne h (by omega))
theorem count_cut {most p ow n j : Nat} (h : n < 256 ^ 7) (hj : j < (num n).length) : count most p ow ((num n).take j) = .error 7 := by
  cases j with
  | zero => rfl
  | succ j =>
    have hw := width_le h (by decide)
    have h64 : n < 2 ^ 64 := Nat.lt_of_lt_of_le h (by decide)
    have hc : (UInt8.ofNat (width n)).toNat = width n := by rw [UInt8.toNat_ofNat']; omega
    rw [num_length] at hj
    rw [num, List.take_succ_cons, count, hc, if_neg (by omega), digits_cut0 h64 (by omega)]
theorem take_app (a b : List UInt8) (j : Nat) (h : ¬ j < a.length) : (a ++ b).take j = a ++ b.take (j - a.length) := by
  rw [List.take_append, List.take_of_length_le (by omega)]
theorem take_app_lt (a b : List UInt8) (j : Nat) (h : j < a.length) : (a ++ b).take j = a.take j := List.take_append_of_le_length (by omega)
theorem items_cut {d : Nat} (hcut : ∀ x ow p j, may x d = true → p + (Cn.bytes x).length + ow ≤ 65536 → j < (Cn.bytes x).length → item d ow p ((Cn.bytes x).take j) = .error 7) :
    ∀ (xs : List Pt) ow p j, mayAll xs d = true → p + (bytesAll xs).length + ow ≤ 65536 → j < (bytesAll xs).length → items (item d) xs.length ow p ((bytesAll xs).take j) = .error 7
  | [], ow, p, j, _, _, hj => by simp [bytesAll] at hj
  | x :: xs, ow, p, j, hm, hp, hj => by
    rw [mayAll, Bool.and_eq_true] at hm
    rw [bytesAll, List.length_append] at hp hj
    have := all_pos xs
    rw [List.length_cons, items, bytesAll]
    by_cases hlt : j < (Cn.bytes x).length
    · rw [take_app_lt _ _ _ hlt, hcut x _ p j hm.1 (by omega) hlt]
    · rw [take_app _ _ _ hlt, item_bytes d x _ p _ hm.1 (by omega)]
      simp only
      rw [items_cut hcut xs ow _ _ hm.2 (by omega) (by omega)]
theorem item_cut : ∀ d x ow p j, may x d = true → p + (Cn.bytes x).length + ow ≤ 65536 → j < (Cn.bytes x).length → item d ow p ((Cn.bytes x).take j) = .error 7 := by
  intro d
  induction d with
  | zero =>
    intro x ow p j hm hp hj
    cases j with
    | zero => simp [item]
    | succ j =>
      rcases may_cases hm with ⟨n, rfl, h0, h1⟩ | ⟨s, rfl, h1⟩ | ⟨l, rfl, h1, h2, h3⟩
      · rw [bytes_num] at hp hj ⊢
        obtain ⟨m, rfl⟩ : ∃ m : Nat, n = m := ⟨n.toNat, by omega⟩
        simp only [Int.toNat_natCast] at hp hj ⊢
        have hw := width7 (n := m) (by omega)
        have hc := ofNat_width hw (by decide)
        rw [num_length] at hp hj
        rw [num, List.take_succ_cons, item.eq_def]
        simp only [hc]
        rw [if_neg (by omega), if_pos (by omega : width m < 8), if_neg (by omega), if_pos (by omega), digits_cut0 (by omega) (by omega)]
      · rw [bytes_text, List.length_cons, List.length_append] at hp hj
        rw [bytes_text]
        obtain ⟨q1, q2⟩ := small_width h1
        have hl : s.data.toList.length = s.size := by simp
        have hnl := num_length s.size
        rw [List.take_succ_cons, item.eq_def]
        simp only [show (8 : UInt8).toNat = 8 from rfl]
        rw [if_neg (by omega), if_neg (by omega : ¬ 8 < 8), if_neg (by omega), if_neg (by omega), if_pos trivial]
        by_cases hlt : j < (num s.size).length
        · rw [take_app_lt _ _ _ hlt, count_cut q1 hlt]
        · rw [take_app _ _ _ hlt, count_num q1 h1 (by omega)]
          simp only
          rw [if_pos (by rw [List.length_take]; omega)]
      · omega
  | succ d ih =>
    intro x ow p j hm hp hj
    cases j with
    | zero => simp [item]
    | succ j =>
      rcases may_cases hm with ⟨n, rfl, h0, h1⟩ | ⟨s, rfl, h1⟩ | ⟨l, rfl, h1, h2, h3⟩
      · rw [bytes_num] at hp hj ⊢
        obtain ⟨m, rfl⟩ : ∃ m : Nat, n = m := ⟨n.toNat, by omega⟩
        simp only [Int.toNat_natCast] at hp hj ⊢
        have hw := width7 (n := m) (by omega)
        have hc := ofNat_width hw (by decide)
        rw [num_length] at hp hj
        rw [num, List.take_succ_cons, item.eq_def]
        simp only [hc]
        rw [if_neg (by omega), if_pos (by omega : width m < 8), if_neg (by omega), if_pos (by omega), digits_cut0 (by omega) (by omega)]
      · rw [bytes_text, List.length_cons, List.length_append] at hp hj
        rw [bytes_text]
        obtain ⟨q1, q2⟩ := small_width h1
        have hl : s.data.toList.length = s.size := by simp
        have hnl := num_length s.size
        rw [List.take_succ_cons, item.eq_def]
        simp only [show (8 : UInt8).toNat = 8 from rfl]
        rw [if_neg (by omega), if_neg (by omega : ¬ 8 < 8), if_neg (by omega), if_neg (by omega), if_pos trivial]
        by_cases hlt : j < (num s.size).length
        · rw [take_app_lt _ _ _ hlt, count_cut q1 hlt]
        · rw [take_app _ _ _ hlt, count_num q1 h1 (by omega)]
          simp only
          rw [if_pos (by rw [List.length_take]; omega)]
      · rw [bytes_list, List.length_cons, List.length_append] at hp hj
        rw [bytes_list]
        obtain ⟨q1, q2⟩ := small_width (n := l.length) (by omega)
        have hnl := num_length l.length
        have hap := all_pos l
        rw [List.take_succ_cons, item.eq_def]
        simp only [show (9 : UInt8).toNat = 9 from rfl]
        rw [if_neg (by omega), if_neg (by omega : ¬ 9 < 8), if_neg (by omega), if_neg (by omega), if_neg (by omega)]
        by_cases hlt : j < (num l.length).length
        · rw [take_app_lt _ _ _ hlt, count_cut q1 hlt]
        · rw [take_app _ _ _ hlt, count_num q1 h1 (by omega)]
          simp only
          rw [items_cut (fun x ow p j => ih x ow p j) l ow _ _ (by simpa using h3) (by omega) (by omega)]

mutual
/-- How great an item is, of which so many lists stand around; above most: one more than most. -/
def sizeP (most : Nat) : Pt → Nat → Nat
  | .mk _ _ s l, deep => if 8 < deep ∨ most < 1 + s.size then most + 1 else sizeAll most l (1 + s.size) deep
def sizeAll (most : Nat) : List Pt → Nat → Nat → Nat
  | [], acc, _ => acc
  | x :: r, acc, deep => if most < acc + sizeP most x (deep + 1) then most + 1 else sizeAll most r (acc + sizeP most x (deep + 1)) deep
end
theorem sizeAll_le (most deep : Nat) : ∀ (l : List Pt) (acc : Nat), acc ≤ most → sizeAll most l acc deep ≤ most + 1
  | [], acc, h => by rw [sizeAll]; omega
  | x :: r, acc, h => by
    rw [sizeAll]
    split
    · omega
    · exact sizeAll_le most deep r _ (by omega)
theorem sizeP_le (most : Nat) (x : Pt) (deep : Nat) : sizeP most x deep ≤ most + 1 := by
  obtain ⟨k, n, s, l⟩ := x
  rw [sizeP]
  split
  · omega
  · exact sizeAll_le most deep l _ (by omega)
end Cn
end Go.Proofs.YtefpfedpgedloaaGreatDoor
