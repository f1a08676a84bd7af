/- Plain mathematics of poly: division. No program. -/
import Derived.Test.YtcknmpcekmbcdaaDoorPThr
namespace Go.Proofs.YtcknmpcekmbcdaaDoor
open Go.RowKit
open Gf

/-- How it stands ahead of round i: m - i bytes of the quotient are not known yet; what is left has no byte behind. -/
structure DivS (A b : List UInt8) (h m i : Nat) (times left : List UInt8) : Prop where
  tlen : times.length = m
  llen : left.length = A.length
  unset : ∀ j, j < m - i → co times j = 0
  low : ∀ k, m - i + h ≤ k → co left k = 0
  same : ∀ k, co A k = conv times b k m ^^^ co left k
/-- At the start. -/
theorem DivS.start {A b : List UInt8} {h m : Nat} (hm : m = A.length - h) : DivS A b h m 0 (List.replicate m 0) A where
  tlen := List.length_replicate
  llen := rfl
  unset := fun j _ => co_replicate m j
  low := fun k hk => co_far (by omega)
  same := fun k => by
    have : ∀ n, conv (List.replicate m 0) b k n = 0 := fun n => by
      induction n with
      | zero => rfl
      | succ n ih => rw [conv, ih, co_replicate, zero_mul]; simp
    rw [this, UInt8.zero_xor]
/-- A round. -/
theorem DivS.step {A b : List UInt8} {h m i at_ : Nat} {times left : List UInt8} (s : DivS A b h m i times left) (hb : b.length = h + 1) (hb0 : co b h ≠ 0) (hm : m = A.length - h) (hi : i < m) (hat : at_ = m - 1 - i) :
    DivS A b h m (i + 1) (times.set at_ (mul (co left (at_ + h)) (inv (co b h)))) (addAt left at_ b (mul (co left (at_ + h)) (inv (co b h)))) := by
  obtain ⟨t, ht⟩ : ∃ t, t = mul (co left (at_ + h)) (inv (co b h)) := ⟨_, rfl⟩
  rw [← ht]
  have hlen : at_ + b.length ≤ left.length := by rw [s.llen]; omega
  have hatm : at_ < times.length := by rw [s.tlen]; omega
  have hu : co times at_ = 0 := s.unset at_ (by omega)
  refine ⟨by rw [List.length_set, s.tlen], by rw [addAt_length, s.llen], fun j hj => ?_, fun k hk => ?_, fun k => ?_⟩
  · rw [co_set hatm, if_neg (by omega)]
    exact s.unset j (by omega)
  · rw [co_addAt t hlen]
    by_cases e : k = at_ + h
    · subst e
      rw [if_pos (by omega), show at_ + h - at_ = h by omega, ht, mul_assoc, mul_comm (inv _), mul_inv hb0, mul_one, UInt8.xor_self]
    · rw [s.low k (by omega), if_pos (by omega), co_far (p := b) (by omega), mul_zero, UInt8.xor_self]
  · rw [conv_set times b k at_ hatm hu t m, co_addAt t hlen, s.same k]
    have hm1 : at_ < m := by omega
    by_cases e : at_ ≤ k
    · have e2 : at_ < m ∧ at_ ≤ k := ⟨hm1, e⟩
      rw [if_pos e2, if_pos e]
      generalize conv times b k m = p
      generalize co left k = q
      generalize mul t (co b (k - at_)) = r
      rw [show p ^^^ r ^^^ (q ^^^ r) = (r ^^^ r) ^^^ (p ^^^ q) by ac_rfl, UInt8.xor_self, UInt8.zero_xor]
    · have e2 : ¬ (at_ < m ∧ at_ ≤ k) := fun x => e x.2
      rw [if_neg e2, if_neg e]; simp
/-- At the end: the quotient is trimmed, the rest has fewer bytes. -/
theorem DivS.done {A b : List UInt8} {h m : Nat} {times left : List UInt8} (s : DivS A b h m m times left) (hb : b.length = h + 1) (hm : m = A.length - h) (hA : trimL A = A) :
    trimL times = times ∧ (trimL left).length ≤ h ∧ ∀ k, co A k = co (mulP times b) k ^^^ co left k := by
  have hlow : ∀ k, h ≤ k → co left k = 0 := fun k hk => s.low k (by omega)
  have hsame : ∀ k, co A k = co (mulP times b) k ^^^ co left k := fun k => by rw [co_mulP, s.tlen]; exact s.same k
  refine ⟨trimL_of_last ?_, trimL_len_le hlow, hsame⟩
  by_cases h0 : times = []
  · exact .inl h0
  · right
    have htl : 0 < times.length := by
      cases times with
      | nil => exact absurd rfl h0
      | cons => simp
    rw [s.tlen] at htl ⊢
    have h1 : co A (A.length - 1) ≠ 0 := trimL_last hA (by intro e; rw [e] at hm; simp at hm; omega)
    rw [hsame, hlow _ (by omega), UInt8.xor_zero, co_mulP] at h1
    have h2 := conv_top times b (by rw [s.tlen]; omega) (by omega)
    rw [s.tlen, hb, show m + (h + 1) - 2 = A.length - 1 by omega] at h2
    rw [s.tlen, h2] at h1
    intro e
    rw [e, zero_mul] at h1
    exact h1 rfl
end Go.Proofs.YtcknmpcekmbcdaaDoor
