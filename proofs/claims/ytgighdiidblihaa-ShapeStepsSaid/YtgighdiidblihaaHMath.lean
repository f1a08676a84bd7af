/- Plain mathematics of shape: texts held against one another byte by byte. No program. -/
import Derived.WalkKit
namespace Go.Proofs.Ytgighdiidblihaa
open Go.RowKit

/-- A text's byte; behind its end 0. -/
def at0 (l : List UInt8) (i : Nat) : UInt8 := l.getD i 0
theorem at0_ge {l : List UInt8} {i : Nat} (h : l.length ≤ i) : at0 l i = 0 := by
  unfold at0; rw [List.getD_eq_getElem?_getD, List.getElem?_eq_none h]; rfl
theorem at0_lt (s : ByteArray) (i : Nat) (h : i < s.size) : at0 s.data.toList i = s[i] := by
  have h' : i < s.data.toList.length := by simpa using h
  unfold at0
  rw [List.getD_eq_getElem?_getD, List.getElem?_eq_getElem h', Option.getD_some]
  simp [ByteArray.getElem_eq_getElem_data]
/-- The bits by which the first k places are unlike. -/
def unl (a b : List UInt8) : Nat → UInt8
  | 0 => 0
  | k + 1 => unl a b k ||| (at0 a k ^^^ at0 b k)
theorem u8_or_zero {x y : UInt8} : x ||| y = 0 ↔ x = 0 ∧ y = 0 := by
  constructor
  · intro h
    have h2 := congrArg UInt8.toNat h
    rw [UInt8.toNat_or] at h2
    simp only [UInt8.toNat_zero] at h2
    constructor
    · apply UInt8.toNat_inj.1
      apply Nat.eq_of_testBit_eq; intro i
      have := congrArg (fun n => n.testBit i) h2
      simp only [Nat.testBit_or, Nat.zero_testBit, Bool.or_eq_false_iff] at this
      rw [this.1]; simp
    · apply UInt8.toNat_inj.1
      apply Nat.eq_of_testBit_eq; intro i
      have := congrArg (fun n => n.testBit i) h2
      simp only [Nat.testBit_or, Nat.zero_testBit, Bool.or_eq_false_iff] at this
      rw [this.2]; simp
  · rintro ⟨rfl, rfl⟩; rfl
theorem u8_xor_zero {x y : UInt8} : x ^^^ y = 0 ↔ x = y := by
  constructor
  · intro h
    have h2 := congrArg (· ^^^ y) h
    simpa [UInt8.xor_assoc] using h2
  · rintro rfl; simp
theorem unl_zero (a b : List UInt8) : ∀ k, unl a b k = 0 ↔ ∀ i, i < k → at0 a i = at0 b i
  | 0 => ⟨fun _ i h => absurd h (by omega), fun _ => rfl⟩
  | k + 1 => by
    rw [unl, u8_or_zero, unl_zero a b k, u8_xor_zero]
    constructor
    · rintro ⟨h1, h2⟩ i hi
      by_cases e : i = k
      · subst e; exact h2
      · exact h1 i (by omega)
    · intro h; exact ⟨fun i hi => h i (by omega), h k (by omega)⟩
theorem list_of_at0 {a b : List UInt8} (hl : a.length = b.length) (h : ∀ i, i < a.length → at0 a i = at0 b i) : a = b := by
  apply List.ext_getElem hl
  intro i h1 h2
  have := h i h1
  unfold at0 at this
  rw [List.getD_eq_getElem?_getD, List.getD_eq_getElem?_getD, List.getElem?_eq_getElem h1, List.getElem?_eq_getElem h2] at this
  simpa using this
theorem bytes_of_list {a b : ByteArray} (h : a.data.toList = b.data.toList) : a = b := by
  cases a; cases b; simp_all [Array.ext_iff]
/-- The longer one's length. -/
def longer (a b : ByteArray) : Nat := if b.size < a.size then a.size else b.size
theorem longer_left (a b : ByteArray) : a.size ≤ longer a b := by unfold longer; split <;> omega
theorem longer_right (a b : ByteArray) : b.size ≤ longer a b := by unfold longer; split <;> omega
theorem longer_le {a b : ByteArray} {n : Nat} (h : a.size ≤ n) (k : b.size ≤ n) : longer a b ≤ n := by unfold longer; split <;> omega
theorem longer_comm (a b : ByteArray) : longer a b = longer b a := by unfold longer; split <;> split <;> omega
theorem unl_same (a b : ByteArray) : (unl a.data.toList b.data.toList (longer a b) = 0 ∧ a.size = b.size) ↔ a = b := by
  constructor
  · rintro ⟨h, hz⟩
    have h1 := (unl_zero _ _ _).1 h
    refine bytes_of_list (list_of_at0 (by simpa using hz) fun i hi => h1 i ?_)
    have := longer_left a b
    simp at hi; omega
  · rintro rfl
    exact ⟨(unl_zero _ _ _).2 fun _ _ => rfl, rfl⟩
/-- All bytes are 0. -/
def allZero (s : ByteArray) : Prop := ∀ i, i < s.size → at0 s.data.toList i = 0
theorem unl_nil (s : ByteArray) : unl s.data.toList (ByteArray.mk #[]).data.toList (longer s (ByteArray.mk #[])) = 0 ↔ allZero s := by
  have hz : longer s (ByteArray.mk #[]) = s.size := by
    unfold longer
    rw [show (ByteArray.mk #[]).size = 0 from rfl]; split <;> omega
  rw [hz, unl_zero]
  exact Iff.rfl

/-! ### How one text stands to another one -/
/-- Held against one another from place i on, in n places. -/
def cmpL : List UInt8 → List UInt8 → Int
  | [], [] => 0
  | [], _ :: _ => -1
  | _ :: _, [] => 1
  | x :: a, y :: b => if x.toNat < y.toNat then -1 else if y.toNat < x.toNat then 1 else cmpL a b
theorem cmpL_self : ∀ a, cmpL a a = 0
  | [] => rfl
  | x :: a => by rw [cmpL, if_neg (by omega), if_neg (by omega)]; exact cmpL_self a
theorem cmpL_zero : ∀ {a b}, cmpL a b = 0 → a = b
  | [], [], _ => rfl
  | [], _ :: _, h => by rw [cmpL] at h; omega
  | _ :: _, [], h => by rw [cmpL] at h; omega
  | x :: a, y :: b, h => by
    rw [cmpL] at h
    split at h
    · omega
    · split at h
      · omega
      · have : x = y := UInt8.toNat_inj.1 (by omega)
        rw [this, cmpL_zero h]
theorem cmpL_swap : ∀ a b, cmpL b a = - cmpL a b
  | [], [] => rfl
  | [], _ :: _ => rfl
  | _ :: _, [] => rfl
  | x :: a, y :: b => by
    rw [cmpL, cmpL]
    by_cases h1 : x.toNat < y.toNat
    · rw [if_pos h1, if_neg (by omega), if_pos h1]; rfl
    · by_cases h2 : y.toNat < x.toNat
      · rw [if_pos h2, if_neg h1, if_pos h2]
      · rw [if_neg h2, if_neg h1, if_neg h1, if_neg h2]; exact cmpL_swap a b
theorem cmpL_range : ∀ a b, cmpL a b = -1 ∨ cmpL a b = 0 ∨ cmpL a b = 1
  | [], [] => .inr (.inl rfl)
  | [], _ :: _ => .inl rfl
  | _ :: _, [] => .inr (.inr rfl)
  | x :: a, y :: b => by
    rw [cmpL]
    split
    · exact .inl rfl
    · split
      · exact .inr (.inr rfl)
      · exact cmpL_range a b
/-- It goes through: at most, and at most. -/
theorem cmpL_le : ∀ a b c, cmpL a b ≤ 0 → cmpL b c ≤ 0 → cmpL a c ≤ 0
  | [], _, [], _, _ => by rw [cmpL]; omega
  | [], _, _ :: _, _, _ => by rw [cmpL]; omega
  | _ :: _, [], _, h, _ => by rw [cmpL] at h; omega
  | _ :: _, _ :: _, [], _, h => by rw [cmpL] at h; omega
  | x :: a, y :: b, z :: c, h, k => by
    rw [cmpL] at h k ⊢
    split at h
    · split at k
      · rw [if_pos (by omega)]; omega
      · split at k
        · omega
        · rw [if_pos (by omega)]; omega
    · split at h
      · omega
      · split at k
        · rw [if_pos (by omega)]; omega
        · split at k
          · omega
          · rw [if_neg (by omega), if_neg (by omega)]; exact cmpL_le a b c h k
end Go.Proofs.Ytgighdiidblihaa
