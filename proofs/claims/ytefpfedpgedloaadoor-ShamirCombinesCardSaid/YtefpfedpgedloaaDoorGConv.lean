/- Plain mathematics of poly: trimmed, products by their bytes, products with one byte. No program. -/
import Derived.Test.YtefpfedpgedloaaDoorGPoly
namespace Go.Proofs.YtefpfedpgedloaaDoor
open Go.RowKit
namespace Gf

/-- Trimmed. -/
def trimL : List UInt8 → List UInt8
  | [] => []
  | c :: p => if trimL p = [] ∧ c = 0 then [] else c :: trimL p
theorem co_trimL : ∀ (p : List UInt8) (i : Nat), co (trimL p) i = co p i
  | [], _ => rfl
  | c :: p, i => by
    have ih := co_trimL p
    rw [trimL]
    split
    · next h =>
      cases i with
      | zero => rw [co_nil, co_zero, h.2]
      | succ i => rw [co_nil, co_succ, ← ih i, h.1, co_nil]
    · cases i with
      | zero => rfl
      | succ i => rw [co_succ, co_succ, ih i]
theorem trimL_length : ∀ p : List UInt8, (trimL p).length ≤ p.length
  | [] => Nat.le_refl _
  | c :: p => by
    rw [trimL]
    split
    · exact Nat.zero_le _
    · rw [List.length_cons, List.length_cons]; have := trimL_length p; omega
theorem trimL_snoc0 : ∀ p : List UInt8, trimL (p ++ [0]) = trimL p
  | [] => by simp [trimL]
  | c :: p => by rw [List.cons_append, trimL, trimL, trimL_snoc0 p]
theorem trimL_snoc {c : UInt8} (h : c ≠ 0) : ∀ p : List UInt8, trimL (p ++ [c]) = p ++ [c]
  | [] => by simp [trimL, h]
  | d :: p => by rw [List.cons_append, trimL, trimL_snoc h p, if_neg (by simp)]
theorem trimL_zeros {p : List UInt8} (h : ∀ i, co p i = 0) : trimL p = [] := by
  induction p with
  | nil => rfl
  | cons c p ih =>
    rw [trimL, if_pos ⟨ih (fun i => by have := h (i + 1); rwa [co_succ] at this), by have := h 0; rwa [co_zero] at this⟩]
/-- Only bytes other than 0 count. -/
theorem trimL_same : ∀ {p q : List UInt8}, (∀ i, co p i = co q i) → trimL p = trimL q
  | [], q, h => by rw [trimL_zeros (p := q) (fun i => by rw [← h i]; rfl)]; rfl
  | c :: p, [], h => by rw [trimL_zeros (p := c :: p) (fun i => by rw [h i]; rfl)]; rfl
  | c :: p, d :: q, h => by
    have h0 := h 0
    rw [co_zero, co_zero] at h0
    rw [trimL, trimL, trimL_same (p := p) (q := q) (fun i => by have := h (i + 1); rwa [co_succ, co_succ] at this), h0]
theorem trimL_trimL (p : List UInt8) : trimL (trimL p) = trimL p := trimL_same (co_trimL p)
theorem val_trimL (p : List UInt8) (x : UInt8) : val (trimL p) x = val p x := val_same (co_trimL p) x
/-- A trimmed one ends with a byte other than 0. -/
theorem trimL_last {p : List UInt8} (h : trimL p = p) (h0 : p ≠ []) : co p (p.length - 1) ≠ 0 := by
  rcases List.eq_nil_or_concat p with e | ⟨q, c, e⟩
  · exact absurd e h0
  · rw [List.concat_eq_append] at e
    subst e
    intro hc
    have : c = 0 := by
      rw [← hc]; unfold co; simp
    subst this
    rw [trimL_snoc0] at h
    have := congrArg List.length h
    have h2 := trimL_length q
    simp at this
    omega
theorem trimL_of_last {p : List UInt8} (h : p = [] ∨ co p (p.length - 1) ≠ 0) : trimL p = p := by
  rcases List.eq_nil_or_concat p with e | ⟨q, c, e⟩
  · subst e; rfl
  · rw [List.concat_eq_append] at e
    subst e
    rcases h with h | h
    · simp at h
    · refine trimL_snoc (fun hc => h ?_) q
      subst hc; unfold co; simp
/-- No byte from n on counts: as long at most. -/
theorem trimL_len_le {p : List UInt8} {n : Nat} (h : ∀ i, n ≤ i → co p i = 0) : (trimL p).length ≤ n := by
  rcases Nat.lt_or_ge n (trimL p).length with h1 | h1
  · exfalso
    have h2 := trimL_last (trimL_trimL p) (by intro e; rw [e] at h1; simp at h1)
    rw [co_trimL] at h2
    exact h2 (h _ (by omega))
  · exact h1
theorem trimL_len_of {p : List UInt8} {n : Nat} (h : ∀ i, n < i → co p i = 0) (hn : co p n ≠ 0) : (trimL p).length = n + 1 := by
  have h1 := trimL_len_le (p := p) (n := n + 1) (fun i hi => h i (by omega))
  rcases Nat.lt_or_ge n (trimL p).length with h2 | h2
  · omega
  · exfalso
    apply hn
    rw [← co_trimL, co_far h2]
theorem co_set {p : List UInt8} {j : Nat} (hj : j < p.length) (c : UInt8) (i : Nat) : co (p.set j c) i = if i = j then c else co p i := by
  unfold co
  rw [List.getD_eq_getElem?_getD, List.getD_eq_getElem?_getD, List.getElem?_set]
  by_cases e : j = i
  · subst e; simp [hj]
  · rw [if_neg e, if_neg (fun h => e h.symm)]
theorem co_map (f : UInt8 → UInt8) (h0 : f 0 = 0) (p : List UInt8) (i : Nat) : co (p.map f) i = f (co p i) := by
  unfold co
  rw [List.getD_eq_getElem?_getD, List.getD_eq_getElem?_getD, List.getElem?_map]
  cases h : p[i]? with
  | none => simp [h0]
  | some x => simp
theorem co_replicate (n i : Nat) : co (List.replicate n 0) i = 0 := by
  unfold co
  rw [List.getD_eq_getElem?_getD, List.getElem?_replicate]
  split <;> rfl

/-- Byte k of the product, of the first n bytes of the first factor. -/
def conv (a b : List UInt8) (k : Nat) : Nat → UInt8
  | 0 => 0
  | n + 1 => conv a b k n ^^^ (if n ≤ k then mul (co a n) (co b (k - n)) else 0)
theorem conv_more (a b : List UInt8) (k n : Nat) (h : a.length ≤ n) : ∀ m, conv a b k (n + m) = conv a b k n
  | 0 => rfl
  | m + 1 => by
    rw [← Nat.add_assoc, conv, conv_more a b k n h m, co_far (p := a) (i := n + m) (by omega), zero_mul]
    simp
theorem conv_above (a b : List UInt8) (k n : Nat) (h : k < n) : ∀ m, conv a b k (n + m) = conv a b k n
  | 0 => rfl
  | m + 1 => by
    rw [← Nat.add_assoc, conv, conv_above a b k n h m, if_neg (by omega), UInt8.xor_zero]
theorem conv_len (a b : List UInt8) (k : Nat) : conv a b k a.length = conv a b k (k + 1) := by
  rw [← conv_more a b k a.length (Nat.le_refl _) (k + 1), ← conv_above a b k (k + 1) (by omega) a.length, Nat.add_comm]
/-- The first byte apart. -/
theorem conv_cons (c : UInt8) (p b : List UInt8) (k : Nat) : ∀ n, conv (c :: p) b k (n + 1) = mul c (co b k) ^^^ (match k with | 0 => 0 | k + 1 => conv p b k n)
  | 0 => by
    rw [conv, conv, if_pos (Nat.zero_le _), co_zero, Nat.sub_zero]
    cases k <;> simp [conv]
  | n + 1 => by
    rw [conv, conv_cons c p b k n]
    cases k with
    | zero => simp
    | succ k =>
      rw [co_succ, show k + 1 - (n + 1) = k - n by omega]
      show _ = mul c (co b (k + 1)) ^^^ conv p b k (n + 1)
      rw [conv]
      by_cases h : n ≤ k
      · rw [if_pos (by omega), if_pos h]; ac_rfl
      · rw [if_neg (by omega), if_neg h]; ac_rfl
theorem co_mulP : ∀ (a b : List UInt8) (k : Nat), co (mulP a b) k = conv a b k a.length
  | [], b, k => rfl
  | c :: p, b, k => by
    rw [mulP, co_addP, co_map _ (zero_mul c), List.length_cons, conv_cons, mul_comm c]
    cases k with
    | zero => rw [co_zero]
    | succ k => rw [co_succ, co_mulP p b k]
/-- A sum. -/
def sumX (f : Nat → UInt8) : Nat → UInt8
  | 0 => 0
  | n + 1 => sumX f n ^^^ f n
theorem sumX_front (f : Nat → UInt8) : ∀ n, sumX f (n + 1) = f 0 ^^^ sumX (fun i => f (i + 1)) n
  | 0 => by simp [sumX]
  | n + 1 => by
    rw [sumX, sumX_front f n]
    show _ = f 0 ^^^ (sumX (fun i => f (i + 1)) n ^^^ f (n + 1))
    ac_rfl
theorem sumX_congr {f g : Nat → UInt8} : ∀ n, (∀ i, i < n → f i = g i) → sumX f n = sumX g n
  | 0, _ => rfl
  | n + 1, h => by rw [sumX, sumX, sumX_congr n (fun i hi => h i (by omega)), h n (by omega)]
theorem sumX_rev (f : Nat → UInt8) : ∀ n, sumX (fun i => f (n - 1 - i)) n = sumX f n
  | 0 => rfl
  | n + 1 => by
    rw [sumX_front, sumX]
    have e : sumX (fun i => f (n + 1 - 1 - (i + 1))) n = sumX (fun i => f (n - 1 - i)) n := sumX_congr n (fun i hi => by
      show f _ = f _
      congr 1; omega)
    rw [e, sumX_rev f n]
    show f (n - 0) ^^^ _ = _
    rw [Nat.sub_zero, UInt8.xor_comm]
theorem conv_sum (a b : List UInt8) (k : Nat) : ∀ n, n ≤ k + 1 → conv a b k n = sumX (fun i => mul (co a i) (co b (k - i))) n
  | 0, _ => rfl
  | n + 1, h => by rw [conv, if_pos (by omega), conv_sum a b k n (by omega)]; rfl
/-- Factors may change their places. -/
theorem conv_comm (a b : List UInt8) (k : Nat) : conv a b k a.length = conv b a k b.length := by
  rw [conv_len, conv_len, conv_sum a b k (k + 1) (by omega), conv_sum b a k (k + 1) (by omega), ← sumX_rev]
  refine sumX_congr _ (fun i hi => ?_)
  show mul (co a (k + 1 - 1 - i)) (co b (k - (k + 1 - 1 - i))) = _
  rw [mul_comm, show k - (k + 1 - 1 - i) = i by omega, show k + 1 - 1 - i = k - i by omega]
/-- Only bytes that count count. -/
theorem conv_same {a a' b b' : List UInt8} (ha : ∀ i, co a i = co a' i) (hb : ∀ i, co b i = co b' i) (k : Nat) : ∀ n, conv a b k n = conv a' b' k n
  | 0 => rfl
  | n + 1 => by rw [conv, conv, conv_same ha hb k n, ha, hb]
theorem conv_same_len {a a' b b' : List UInt8} (ha : ∀ i, co a i = co a' i) (hb : ∀ i, co b i = co b' i) (k : Nat) : conv a b k a.length = conv a' b' k a'.length := by
  rw [conv_len, conv_len, conv_same ha hb]
theorem mul_same {a a' b b' : List UInt8} (ha : ∀ i, co a i = co a' i) (hb : ∀ i, co b i = co b' i) (k : Nat) : co (mulP a b) k = co (mulP a' b') k := by
  rw [co_mulP, co_mulP, conv_same_len ha hb]
theorem co_mulP_comm (a b : List UInt8) (k : Nat) : co (mulP a b) k = co (mulP b a) k := by rw [co_mulP, co_mulP, conv_comm]
/-- Behind both there is nothing. -/
theorem conv_far (a b : List UInt8) (k : Nat) (h : a.length + b.length ≤ k + 1) : ∀ n, conv a b k n = 0
  | 0 => rfl
  | n + 1 => by
    rw [conv, conv_far a b k h n, UInt8.zero_xor]
    split
    · rcases Nat.lt_or_ge n a.length with h1 | h1
      · rw [co_far (p := b) (i := k - n) (by omega), mul_zero]
      · rw [co_far h1, zero_mul]
    · rfl
/-- The last byte is the product of the last ones. -/
theorem conv_top (a b : List UInt8) (ha : 0 < a.length) (hb : 0 < b.length) : conv a b (a.length + b.length - 2) a.length = mul (co a (a.length - 1)) (co b (b.length - 1)) := by
  have h : ∀ n, n ≤ a.length - 1 → conv a b (a.length + b.length - 2) n = 0 := fun n => by
    induction n with
    | zero => intro _; rfl
    | succ n ih =>
      intro hn
      rw [conv, ih (by omega), UInt8.zero_xor, if_pos (by omega), co_far (p := b) (by omega), mul_zero]
  obtain ⟨m, hm⟩ : ∃ m, a.length = m + 1 := ⟨a.length - 1, by omega⟩
  have h1 := h m (by omega)
  rw [hm] at h1 ⊢
  rw [conv, h1, UInt8.zero_xor, if_pos (by omega), show m + 1 + b.length - 2 - m = b.length - 1 by omega, show m + 1 - 1 = m by omega]
/-- One byte more of the first factor. -/
theorem conv_set (a b : List UInt8) (k j : Nat) (hj : j < a.length) (h0 : co a j = 0) (t : UInt8) : ∀ n, conv (a.set j t) b k n = conv a b k n ^^^ (if j < n ∧ j ≤ k then mul t (co b (k - j)) else 0)
  | 0 => by simp [conv]
  | n + 1 => by
    rw [conv, conv_set a b k j hj h0 t n, conv, co_set hj]
    by_cases e : n = j
    · subst e
      have h2 : ¬ (n < n ∧ n ≤ k) := fun h => absurd h.1 (by omega)
      rw [if_pos rfl, h0, zero_mul, if_neg h2]
      by_cases hk : n ≤ k
      · have h3 : n < n + 1 ∧ n ≤ k := ⟨by omega, hk⟩
        rw [if_pos hk, if_pos hk, if_pos h3]; try simp
      · have h3 : ¬ (n < n + 1 ∧ n ≤ k) := fun h => hk h.2
        rw [if_neg hk, if_neg hk, if_neg h3]; try simp
    · rw [if_neg e]
      by_cases hj2 : j < n ∧ j ≤ k
      · have h3 : j < n + 1 ∧ j ≤ k := ⟨by omega, hj2.2⟩
        rw [if_pos hj2, if_pos h3]; ac_rfl
      · have h3 : ¬ (j < n + 1 ∧ j ≤ k) := fun h => hj2 ⟨by omega, h.2⟩
        rw [if_neg hj2, if_neg h3]; simp
theorem mulP_length (a b : List UInt8) (k : Nat) (h : a.length + b.length ≤ k + 1) : co (mulP a b) k = 0 := by rw [co_mulP, conv_far a b k h]
end Gf
end Go.Proofs.YtefpfedpgedloaaDoor
