/- Plain mathematics of a block: ten rounds of eight quarter turns. -/
import Derived.Test.YtgoimggfpagojaaDoorQRefQ
import Derived.Test.YtgoimggfpagojaaDoorQField
namespace Go.Proofs.YtgoimggfpagojaaDoor
open Go.RowKit

/-- Which words the quarter turns are of, one behind the other. -/
def tRow : List Nat := [0, 4, 8, 12, 1, 5, 9, 13, 2, 6, 10, 14, 3, 7, 11, 15, 0, 5, 10, 15, 1, 6, 11, 12, 2, 7, 8, 13, 3, 4, 9, 14]
def tp (i j : Nat) : Nat := tRow.getD (4 * i + j) 0
theorem tp_facts : ∀ i : Fin 8, tp i 0 < 16 ∧ tp i 1 < 16 ∧ tp i 2 < 16 ∧ tp i 3 < 16 ∧ tp i 0 ≠ tp i 1 ∧ tp i 0 ≠ tp i 2 ∧ tp i 0 ≠ tp i 3 ∧ tp i 1 ≠ tp i 2 ∧ tp i 1 ≠ tp i 3 ∧ tp i 2 ≠ tp i 3 := by decide +kernel
/-- One quarter turn of a field. -/
def turnOne (l : List (BitVec 32)) (i : Nat) : List (BitVec 32) := turnL l (tp i 0) (tp i 1) (tp i 2) (tp i 3)
def turnsN (l : List (BitVec 32)) : Nat → List (BitVec 32)
  | 0 => l
  | i + 1 => turnOne (turnsN l i) i
def rndsN (l : List (BitVec 32)) : Nat → List (BitVec 32)
  | 0 => l
  | n + 1 => turnsN (rndsN l n) 8
theorem turnOne_length (l : List (BitVec 32)) (i : Nat) : (turnOne l i).length = l.length := turnL_length _ _ _ _ _
theorem turnsN_length (l : List (BitVec 32)) : ∀ i, (turnsN l i).length = l.length
  | 0 => rfl
  | i + 1 => by rw [turnsN, turnOne_length, turnsN_length l i]
theorem rndsN_length (l : List (BitVec 32)) : ∀ n, (rndsN l n).length = l.length
  | 0 => rfl
  | n + 1 => by rw [rndsN, turnsN_length, rndsN_length l n]
/-- A quarter turn as four stores, one behind the other. -/
theorem turnL_set (l : List (BitVec 32)) (i j k m : Nat) (hne : i ≠ j ∧ i ≠ k ∧ i ≠ m ∧ j ≠ k ∧ j ≠ m ∧ k ≠ m) :
    (((l.set i (qtr (qAt l i j k m)).a).set j (qtr (qAt l i j k m)).b).set k (qtr (qAt l i j k m)).c).set m (qtr (qAt l i j k m)).d = turnL l i j k m := by
  unfold turnL
  generalize qtr (qAt l i j k m) = q
  apply List.ext_getElem?
  intro x
  rw [List.getElem?_set, List.getElem?_set, List.getElem?_set, List.getElem?_set]
  simp only [List.length_set]
  obtain ⟨h1, h2, h3, h4, h5, h6⟩ := hne
  by_cases hx : x < l.length
  · have hr : ((List.range l.length).map (qoutAt l q i j k m))[x]? = some (qoutAt l q i j k m x) := by simp [hx]
    have hl : l[x]? = some (l.getD x 0) := by simp [List.getD_eq_getElem?_getD, hx]
    rw [hr, hl]
    unfold qoutAt
    by_cases e1 : m = x
    · rw [if_pos e1, if_pos (by omega), if_pos e1.symm]
    · rw [if_neg e1, if_neg (show ¬ x = m from fun e => e1 e.symm)]
      by_cases e2 : k = x
      · rw [if_pos e2, if_pos (by omega), if_pos e2.symm]
      · rw [if_neg e2, if_neg (show ¬ x = k from fun e => e2 e.symm)]
        by_cases e3 : j = x
        · rw [if_pos e3, if_pos (by omega), if_pos e3.symm]
        · rw [if_neg e3, if_neg (show ¬ x = j from fun e => e3 e.symm)]
          by_cases e4 : i = x
          · rw [if_pos e4, if_pos (by omega), if_pos e4.symm]
          · rw [if_neg e4, if_neg (show ¬ x = i from fun e => e4 e.symm)]
  · have hr : ((List.range l.length).map (qoutAt l q i j k m))[x]? = none := by simp; omega
    have hl : l[x]? = none := by simp; omega
    rw [hr, hl]
    by_cases e1 : m = x
    · rw [if_pos e1, if_neg (by omega)]
    · rw [if_neg e1]
      by_cases e2 : k = x
      · rw [if_pos e2, if_neg (by omega)]
      · rw [if_neg e2]
        by_cases e3 : j = x
        · rw [if_pos e3, if_neg (by omega)]
        · rw [if_neg e3]
          by_cases e4 : i = x
          · rw [if_pos e4, if_neg (by omega)]
          · rw [if_neg e4]
/-- Word i of a block. -/
def blockW (f : List (BitVec 32)) (i : Nat) : BitVec 32 := (rndsN f 10).getD i 0 + f.getD i 0
/-- A byte of a word. -/
def wByte (x : BitVec 32) (s : Nat) : UInt8 := UInt8.ofNat (x >>> s).toNat
theorem wByte_num (x : BitVec 32) (s : Nat) : V (x >>> s) % 256 = ((wByte x s).toNat : Int) := by
  unfold wByte V; rw [UInt8.toNat_ofNat']; omega
/-- The first k bytes of a block; behind them 0. -/
def blockTo (f : List (BitVec 32)) (k : Nat) : List UInt8 := (List.range 64).map fun i => if i < k then wByte (blockW f (i / 4)) (i % 4 * 8) else 0
/-- A block. -/
def blockB (f : List (BitVec 32)) : List UInt8 := blockTo f 64
theorem blockTo_length (f : List (BitVec 32)) (k : Nat) : (blockTo f k).length = 64 := by simp [blockTo]
theorem blockTo_step (f : List (BitVec 32)) (k : Nat) : (blockTo f k).set k (wByte (blockW f (k / 4)) (k % 4 * 8)) = blockTo f (k + 1) := by
  apply List.ext_getElem?
  intro i
  unfold blockTo
  rw [List.getElem?_set]
  by_cases hi : i < 64
  · by_cases e : k = i
    · subst e; simp [hi]
    · rw [if_neg e]
      have : (i < k) = (i < k + 1) := by apply propext; omega
      simp [hi, this]
  · by_cases e : k = i
    · subst e; simp [hi]
    · simp [e, hi]
end Go.Proofs.YtgoimggfpagojaaDoor
