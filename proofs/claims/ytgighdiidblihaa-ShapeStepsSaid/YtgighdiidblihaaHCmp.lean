/- Plain mathematics of shape.Order: the first difference, and what the numbers' bits do. No program. -/
import Derived.Test.YtgighdiidblihaaHMath
namespace Go.Proofs.Ytgighdiidblihaa
open Go.RowKit

/-- The difference at a place. -/
def dAt (a b : List UInt8) (i : Nat) : Int := ((at0 a i).toNat : Int) - ((at0 b i).toNat : Int)
/-- The first difference of the first k places; 0, if there is none. -/
def firstD (a b : List UInt8) : Nat → Int
  | 0 => 0
  | k + 1 => if firstD a b k = 0 then dAt a b k else firstD a b k
def openI (f : Int) : Int := if f = 0 then -1 else 0
theorem dAt_range (a b : List UInt8) (i : Nat) : -255 ≤ dAt a b i ∧ dAt a b i ≤ 255 := by
  unfold dAt
  have := (at0 a i).toNat_lt; have := (at0 b i).toNat_lt; omega
theorem at0_tail (l : List UInt8) (i : Nat) : at0 l (i + 1) = at0 l.tail i := by
  unfold at0; cases l with
  | nil => simp
  | cons x l => simp
theorem dAt_tail (a b : List UInt8) (i : Nat) : dAt a b (i + 1) = dAt a.tail b.tail i := by
  unfold dAt; rw [at0_tail, at0_tail]
theorem firstD_tail (a b : List UInt8) : ∀ n, firstD a b (n + 1) = if dAt a b 0 = 0 then firstD a.tail b.tail n else dAt a b 0
  | 0 => by
    simp only [firstD, if_true]
    split
    · assumption
    · rfl
  | n + 1 => by
    rw [firstD, firstD_tail a b n]
    by_cases h : dAt a b 0 = 0
    · rw [if_pos h, if_pos h, dAt_tail]; rfl
    · rw [if_neg h, if_neg h, if_neg h]
def sgn3 (x y : Int) : Int := if x < y then -1 else if y < x then 1 else 0
/-- What is told of the first difference, and of the lengths. -/
def told (f x y : Int) : Int := if sgn3 f 0 = 0 then sgn3 x y else sgn3 f 0
theorem nil_le (b : List UInt8) : ∀ n, firstD [] b n ≤ 0
  | 0 => Int.le_refl _
  | n + 1 => by
    have h : dAt [] b n ≤ 0 := by unfold dAt at0; simp
    rw [firstD]; split
    · exact h
    · exact nil_le b n
theorem nil_ge (a : List UInt8) : ∀ n, 0 ≤ firstD a [] n
  | 0 => Int.le_refl _
  | n + 1 => by
    have h : 0 ≤ dAt a [] n := by unfold dAt at0; simp
    rw [firstD]; split
    · exact h
    · exact nil_ge a n
theorem firstD_nil : ∀ n, firstD [] [] n = 0 := fun n => by
  have := nil_le [] n; have := nil_ge [] n; omega
theorem told_neg {f x y : Int} (h : f < 0) : told f x y = -1 := by
  unfold told; rw [show sgn3 f 0 = -1 from if_pos h]; rfl
theorem told_pos {f x y : Int} (h : 0 < f) : told f x y = 1 := by
  unfold told; rw [show sgn3 f 0 = 1 from by unfold sgn3; rw [if_neg (by omega), if_pos h]]; rfl
theorem told_zero (x y : Int) : told 0 x y = sgn3 x y := rfl
theorem told_cmp : ∀ (n : Nat) (a b : List UInt8), a.length ≤ n → b.length ≤ n → told (firstD a b n) a.length b.length = cmpL a b
  | n, [], [], _, _ => by rw [firstD_nil, told_zero]; rfl
  | n, [], y :: b, _, _ => by
    rw [cmpL]
    rcases Int.lt_or_eq_of_le (nil_le (y :: b) n) with h | h
    · exact told_neg h
    · rw [h, told_zero, sgn3, if_pos (by simp)]
  | n, x :: a, [], _, _ => by
    rw [cmpL]
    rcases Int.lt_or_eq_of_le (nil_ge (x :: a) n) with h | h
    · exact told_pos h
    · rw [← h, told_zero, sgn3, if_neg (by simp; omega), if_pos (by simp)]
  | 0, x :: a, y :: b, h, _ => absurd h (by simp)
  | n + 1, x :: a, y :: b, h, k => by
    have hd : dAt (x :: a) (y :: b) 0 = (x.toNat : Int) - y.toNat := rfl
    rw [firstD_tail, hd, cmpL]
    by_cases h1 : x.toNat < y.toNat
    · rw [if_neg (by omega), if_pos h1]; exact told_neg (by omega)
    · by_cases h2 : y.toNat < x.toNat
      · rw [if_neg (by omega), if_neg h1, if_pos h2]; exact told_pos (by omega)
      · rw [if_pos (by omega), if_neg h1, if_neg h2, ← told_cmp n a b (by simpa using h) (by simpa using k)]
        show told _ _ _ = told (firstD a b n) _ _
        unfold told
        congr 1
        unfold sgn3
        simp only [List.length_cons]
        congr 1
        · simp
        · congr 1
          simp

/-! ### Bits of numbers -/
theorem or_zero64 : ∀ d : Fin 511, bits .or .i64 0 ((d.val : Int) - 255) = (d.val : Int) - 255 := by decide +kernel
theorem or_zero64' : ∀ d : Fin 511, bits .or .i64 ((d.val : Int) - 255) 0 = (d.val : Int) - 255 := by decide +kernel
theorem and_ones64 : ∀ d : Fin 511, bits .and .i64 ((d.val : Int) - 255) (-1) = (d.val : Int) - 255 := by decide +kernel
theorem and_zero64 : ∀ d : Fin 511, bits .and .i64 ((d.val : Int) - 255) 0 = 0 := by decide +kernel
theorem neg_bits64 : ∀ d : Fin 511, bits .or .i64 ((d.val : Int) - 255) (-((d.val : Int) - 255)) / 256 = if (d.val : Int) = 255 then 0 else -1 := by decide +kernel
theorem neg_wrap64 : ∀ d : Fin 511, IntKind.i64.wrap (-((d.val : Int) - 255)) = -((d.val : Int) - 255) := by decide +kernel
theorem fin_of {d : Int} (h : -255 ≤ d ∧ d ≤ 255) : ∃ n : Fin 511, d = (n.val : Int) - 255 := ⟨⟨(d + 255).toNat, by omega⟩, by show d = ((d + 255).toNat : Int) - 255; omega⟩
theorem or_left {d : Int} (h : -255 ≤ d ∧ d ≤ 255) : bits .or .i64 0 d = d := by obtain ⟨n, rfl⟩ := fin_of h; exact or_zero64 n
theorem or_right {d : Int} (h : -255 ≤ d ∧ d ≤ 255) : bits .or .i64 d 0 = d := by obtain ⟨n, rfl⟩ := fin_of h; exact or_zero64' n
theorem and_open {d : Int} (h : -255 ≤ d ∧ d ≤ 255) : bits .and .i64 d (-1) = d := by obtain ⟨n, rfl⟩ := fin_of h; exact and_ones64 n
theorem and_shut {d : Int} (h : -255 ≤ d ∧ d ≤ 255) : bits .and .i64 d 0 = 0 := by obtain ⟨n, rfl⟩ := fin_of h; exact and_zero64 n
theorem or_neg {d : Int} (h : -255 ≤ d ∧ d ≤ 255) : bits .or .i64 d (-d) / 256 = if d = 0 then 0 else -1 := by
  obtain ⟨n, rfl⟩ := fin_of h
  rw [neg_bits64]
  by_cases e : (n.val : Int) = 255
  · rw [if_pos e, if_pos (by omega)]
  · rw [if_neg e, if_neg (by omega)]
/-- A step: the first difference, and whether it is open. -/
theorem first_step (f d : Int) (hf : -255 ≤ f ∧ f ≤ 255) (hd : -255 ≤ d ∧ d ≤ 255) : bits .or .i64 f (bits .and .i64 d (openI f)) = if f = 0 then d else f := by
  by_cases h : f = 0
  · subst h; rw [openI, if_pos rfl, and_open hd, or_left hd, if_pos rfl]
  · rw [openI, if_neg h, and_shut hd, or_right hf, if_neg h]
theorem open_step (f d : Int) (hd : -255 ≤ d ∧ d ≤ 255) : bits .andNot .i64 (openI f) (bits .or .i64 d (-d) / 256) = openI (if f = 0 then d else f) := by
  rw [or_neg hd]
  by_cases h : f = 0
  · rw [if_pos h]
    by_cases e : d = 0
    · rw [if_pos e]; subst h e; decide +kernel
    · rw [if_neg e]; subst h; rw [show openI d = 0 from if_neg e]; decide +kernel
  · rw [if_neg h, show openI f = 0 from if_neg h]
    by_cases e : d = 0
    · rw [if_pos e]; decide +kernel
    · rw [if_neg e]; decide +kernel
theorem firstD_range (a b : List UInt8) : ∀ n, -255 ≤ firstD a b n ∧ firstD a b n ≤ 255
  | 0 => by rw [firstD]; omega
  | n + 1 => by rw [firstD]; split; exact dAt_range a b n; exact firstD_range a b n
end Go.Proofs.Ytgighdiidblihaa
