/- Merged by program: Plain mathematics of poly: values, sums, products, roots. No program. | Plain mathematics of poly: trimmed, products by their bytes, products with one byte. No program. | Plain mathematics of poly: weights; what they tell is the value of a polynomial. No program. | Plain mathematics of gf: powers, the inverse as a power, the powers of 3 and the logs. No program. -/
import Derived.Test.YtefpfedpgedloaaGreatDoorMG1
namespace Go.Proofs.YtefpfedpgedloaaGreatDoor
open Go.RowKit
namespace Gf

/-- The value of a polynomial. -/
def val : List UInt8 → UInt8 → UInt8
  | [], _ => 0
  | c :: p, x => c ^^^ mul x (val p x)
/-- A power. -/
def pow (x : UInt8) : Nat → UInt8
  | 0 => 1
  | n + 1 => mul (pow x n) x
/-- Byte i; behind the end 0. -/
def co (p : List UInt8) (i : Nat) : UInt8 := p.getD i 0
theorem co_nil (i : Nat) : co [] i = 0 := rfl
theorem co_zero (c : UInt8) (p : List UInt8) : co (c :: p) 0 = c := rfl
theorem co_succ (c : UInt8) (p : List UInt8) (i : Nat) : co (c :: p) (i + 1) = co p i := rfl
theorem val_snoc (p : List UInt8) (c x : UInt8) : val (p ++ [c]) x = val p x ^^^ mul c (pow x p.length) := by
  induction p with
  | nil => simp [val, pow, mul_one, mul_zero]
  | cons d p ih =>
    rw [List.cons_append, val, ih, val, mul_add, List.length_cons, pow, ← UInt8.xor_assoc, ← mul_assoc, mul_comm x c, mul_assoc, mul_comm x (pow x p.length)]
/-- Only bytes other than 0 count. -/
theorem val_same {p q : List UInt8} (h : ∀ i, co p i = co q i) (x : UInt8) : val p x = val q x := by
  induction p generalizing q with
  | nil =>
    induction q with
    | nil => rfl
    | cons d q ih =>
      have h0 := h 0
      rw [co_nil, co_zero] at h0
      show (0 : UInt8) = d ^^^ mul x (val q x)
      rw [← ih (fun i => by have := h (i + 1); rwa [co_nil, co_succ] at this), ← h0]
      simp [val, mul_zero]
  | cons c p ih =>
    cases q with
    | nil =>
      have h0 := h 0
      rw [co_nil, co_zero] at h0
      show c ^^^ mul x (val p x) = 0
      rw [ih (q := []) (fun i => by have := h (i + 1); rwa [co_nil, co_succ] at this), h0]
      simp [val, mul_zero]
    | cons d q =>
      have h0 := h 0
      rw [co_zero, co_zero] at h0
      rw [val, val, ih (q := q) (fun i => by have := h (i + 1); rwa [co_succ, co_succ] at this), h0]
/-- Divided by x less r: the quotient. -/
def quo : List UInt8 → UInt8 → List UInt8
  | [], _ => []
  | _ :: p, r => val p r :: quo p r
theorem quo_length (p : List UInt8) (r : UInt8) : (quo p r).length = p.length := by
  induction p with
  | nil => rfl
  | cons c p ih => rw [quo, List.length_cons, List.length_cons, ih]
/-- What is left is the value at r. -/
theorem val_quo (p : List UInt8) (r x : UInt8) : val p x ^^^ val p r = mul (x ^^^ r) (val (quo p r) x) := by
  induction p with
  | nil => simp [val, quo, mul_zero]
  | cons c p ih =>
    rw [quo, val, val, val, mul_add, ← mul_assoc, mul_comm (x ^^^ r) x, mul_assoc, ← ih, add_mul, mul_add]
    have e : ∀ (a b d f : UInt8), c ^^^ a ^^^ (c ^^^ b) = d ^^^ b ^^^ (a ^^^ d) := fun a b d f => by
      rw [show c ^^^ a ^^^ (c ^^^ b) = (c ^^^ c) ^^^ (a ^^^ b) from by ac_rfl, show d ^^^ b ^^^ (a ^^^ d) = (d ^^^ d) ^^^ (a ^^^ b) from by ac_rfl, UInt8.xor_self, UInt8.xor_self]
    exact e _ _ _ 0
/-- The first byte of the quotient, and the bytes of what was divided: none is lost. -/
theorem all_zero_of_quo {p : List UInt8} {r : UInt8} (h : ∀ i, co (quo p r) i = 0) (h0 : val p r = 0) : ∀ i, co p i = 0 := by
  induction p with
  | nil => intro i; rfl
  | cons c p ih =>
    have h1 := h 0
    rw [quo, co_zero] at h1
    have h2 := ih (fun i => by have := h (i + 1); rwa [quo, co_succ] at this) h1
    intro i
    cases i with
    | zero =>
      rw [co_zero]
      rw [val, h1, mul_zero] at h0
      simpa using h0
    | succ i => rw [co_succ]; exact h2 i
/-- The last byte of a quotient is 0. -/
theorem quo_last (r : UInt8) : ∀ (p : List UInt8) (c : UInt8), co (quo (c :: p) r) p.length = 0
  | [], _ => rfl
  | d :: p, _ => by
    show co (val (d :: p) r :: quo (d :: p) r) (p.length + 1) = 0
    rw [co_succ]
    exact quo_last r p d
theorem co_far {p : List UInt8} {i : Nat} (h : p.length ≤ i) : co p i = 0 := by
  unfold co
  rw [List.getD_eq_getElem?_getD, List.getElem?_eq_none h]
  rfl
theorem co_take {p : List UInt8} {n i : Nat} (h : i < n) : co (p.take n) i = co p i := by
  unfold co
  rw [List.getD_eq_getElem?_getD, List.getD_eq_getElem?_getD, List.getElem?_take_of_lt h]
/-- A POLYNOMIAL WITH AS MANY ROOTS AS BYTES IS 0. -/
theorem roots : ∀ (l : List UInt8) (p : List UInt8), l.Nodup → p.length ≤ l.length → (∀ r ∈ l, val p r = 0) → ∀ i, co p i = 0
  | _, [], _, _, _, i => rfl
  | [], _ :: _, _, h, _, _ => absurd h (by simp)
  | r :: l, c :: p, hn, hl, hv, i => by
    have hr := hv r (by simp)
    refine all_zero_of_quo (r := r) ?_ hr i
    -- the quotient has one byte that is 0 at its end, and the other roots
    have hz : ∀ s ∈ l, val (quo (c :: p) r) s = 0 := fun s hs => by
      have h1 := val_quo (c :: p) r s
      rw [hr, hv s (by simp [hs])] at h1
      have h2 : mul (s ^^^ r) (val (quo (c :: p) r) s) = 0 := by rw [← h1]; rfl
      rcases mul_eq_zero h2 with h3 | h3
      · exfalso
        have : s = r := by
          have := congrArg (· ^^^ r) h3
          simpa [UInt8.xor_assoc] using this
        subst this
        exact (List.nodup_cons.1 hn).1 hs
      · exact h3
    have hlen : (quo (c :: p) r).length = p.length + 1 := by rw [quo_length, List.length_cons]
    have hsame : ∀ j, co ((quo (c :: p) r).take p.length) j = co (quo (c :: p) r) j := fun j => by
      rcases Nat.lt_trichotomy j p.length with h | h | h
      · exact co_take h
      · subst h
        rw [quo_last, co_far (by rw [List.length_take]; omega)]
      · rw [co_far (by rw [List.length_take]; omega), co_far (by omega)]
    have hall := roots l ((quo (c :: p) r).take p.length) (List.nodup_cons.1 hn).2
      (by rw [List.length_take]; simp only [List.length_cons] at hl; omega)
      (fun s hs => by rw [val_same hsame]; exact hz s hs)
    intro j
    rw [← hsame j]
    exact hall j
/-- The sum, as long as the longer. -/
def addP : List UInt8 → List UInt8 → List UInt8
  | [], q => q
  | c :: p, [] => c :: p
  | c :: p, d :: q => (c ^^^ d) :: addP p q
theorem addP_nil (p : List UInt8) : addP p [] = p := by cases p <;> rfl
theorem addP_length : ∀ (p q : List UInt8), (addP p q).length = max p.length q.length
  | [], q => by simp [addP]
  | c :: p, [] => by simp [addP]
  | c :: p, d :: q => by rw [addP, List.length_cons, List.length_cons, List.length_cons, addP_length p q]; omega
theorem co_addP : ∀ (p q : List UInt8) (i : Nat), co (addP p q) i = co p i ^^^ co q i
  | [], q, i => by rw [addP, co_nil, UInt8.zero_xor]
  | c :: p, [], i => by rw [addP_nil, co_nil, UInt8.xor_zero]
  | c :: p, d :: q, 0 => rfl
  | c :: p, d :: q, i + 1 => by rw [addP, co_succ, co_succ, co_succ, co_addP p q i]
theorem val_addP (x : UInt8) : ∀ (p q : List UInt8), val (addP p q) x = val p x ^^^ val q x
  | [], q => by rw [addP, val, UInt8.zero_xor]
  | c :: p, [] => by rw [addP_nil, val, val, UInt8.xor_zero]
  | c :: p, d :: q => by
    rw [addP, val, val, val, val_addP x p q, mul_add]
    ac_rfl
theorem val_scale (c x : UInt8) : ∀ p : List UInt8, val (p.map (mul · c)) x = mul (val p x) c
  | [] => by simp [val, zero_mul]
  | d :: p => by
    rw [List.map_cons, val, val_scale c x p, val, add_mul, mul_assoc]
/-- The product. -/
def mulP : List UInt8 → List UInt8 → List UInt8
  | [], _ => []
  | c :: p, q => addP (q.map (mul · c)) (0 :: mulP p q)
theorem val_mulP (x : UInt8) (q : List UInt8) : ∀ p : List UInt8, val (mulP p q) x = mul (val p x) (val q x)
  | [] => by simp [mulP, val, zero_mul]
  | c :: p => by
    rw [mulP, val_addP, val_scale, val, val_mulP x q p, val, UInt8.zero_xor, add_mul, mul_assoc, mul_comm (val q x) c]
/-- JUST ONE POLYNOMIAL GOES THROUGH POINTS. -/
theorem agree {l p q : List UInt8} (hn : l.Nodup) (hp : p.length ≤ l.length) (hq : q.length ≤ l.length) (h : ∀ r ∈ l, val p r = val q r) (i : Nat) : co p i = co q i := by
  have h1 := roots l (addP p q) hn (by rw [addP_length]; omega) (fun r hr => by rw [val_addP, h r hr, UInt8.xor_self]) i
  rw [co_addP] at h1
  have := congrArg (· ^^^ co q i) h1
  simpa [UInt8.xor_assoc] using this
end Gf
end Go.Proofs.YtefpfedpgedloaaGreatDoor
namespace Go.Proofs.YtefpfedpgedloaaGreatDoor
open Go.RowKit
namespace Gf

/-- Trimmed. -/
def trimL : List UInt8 → List UInt8
  | [] => []
  | c :: p => if trimL p = [] ∧ c = 0 then [] else c :: trimL p
theorem co_trimL : ∀ (p : List UInt8) (i : Nat), co (trimL p) i = co p i
  | [], _ => rfl
  | c :: p, i => by
    have ih := co_trimL p
    rw [trimL]
    split
    · next h =>
      cases i with
      | zero => rw [co_nil, co_zero, h.2]
      | succ i => rw [co_nil, co_succ, ← ih i, h.1, co_nil]
    · cases i with
      | zero => rfl
      | succ i => rw [co_succ, co_succ, ih i]
theorem trimL_length : ∀ p : List UInt8, (trimL p).length ≤ p.length
  | [] => Nat.le_refl _
  | c :: p => by
    rw [trimL]
    split
    · exact Nat.zero_le _
    · rw [List.length_cons, List.length_cons]; have := trimL_length p; omega
theorem trimL_snoc0 : ∀ p : List UInt8, trimL (p ++ [0]) = trimL p
  | [] => by simp [trimL]
  | c :: p => by rw [List.cons_append, trimL, trimL, trimL_snoc0 p]
theorem trimL_snoc {c : UInt8} (h : c ≠ 0) : ∀ p : List UInt8, trimL (p ++ [c]) = p ++ [c]
  | [] => by simp [trimL, h]
  | d :: p => by rw [List.cons_append, trimL, trimL_snoc h p, if_neg (by simp)]
theorem trimL_zeros {p : List UInt8} (h : ∀ i, co p i = 0) : trimL p = [] := by
  induction p with
  | nil => rfl
  | cons c p ih =>
    rw [trimL, if_pos ⟨ih (fun i => by have := h (i + 1); rwa [co_succ] at this), by have := h 0; rwa [co_zero] at this⟩]
/-- Only bytes other than 0 count. -/
theorem trimL_same : ∀ {p q : List UInt8}, (∀ i, co p i = co q i) → trimL p = trimL q
  | [], q, h => by rw [trimL_zeros (p := q) (fun i => by rw [← h i]; rfl)]; rfl
  | c :: p, [], h => by rw [trimL_zeros (p := c :: p) (fun i => by rw [h i]; rfl)]; rfl
  | c :: p, d :: q, h => by
    have h0 := h 0
    rw [co_zero, co_zero] at h0
    rw [trimL, trimL, trimL_same (p := p) (q := q) (fun i => by have := h (i + 1); rwa [co_succ, co_succ] at this), h0]
theorem trimL_trimL (p : List UInt8) : trimL (trimL p) = trimL p := trimL_same (co_trimL p)
theorem val_trimL (p : List UInt8) (x : UInt8) : val (trimL p) x = val p x := val_same (co_trimL p) x
/-- A trimmed one ends with a byte other than 0. -/
theorem trimL_last {p : List UInt8} (h : trimL p = p) (h0 : p ≠ []) : co p (p.length - 1) ≠ 0 := by
  rcases List.eq_nil_or_concat p with e | ⟨q, c, e⟩
  · exact absurd e h0
  · rw [List.concat_eq_append] at e
    subst e
    intro hc
    have : c = 0 := by
      rw [← hc]; unfold co; simp
    subst this
    rw [trimL_snoc0] at h
    have := congrArg List.length h
    have h2 := trimL_length q
    simp at this
    omega
theorem trimL_of_last {p : List UInt8} (h : p = [] ∨ co p (p.length - 1) ≠ 0) : trimL p = p := by
  rcases List.eq_nil_or_concat p with e | ⟨q, c, e⟩
  · subst e; rfl
  · rw [List.concat_eq_append] at e
    subst e
    rcases h with h | h
    · simp at h
    · refine trimL_snoc (fun hc => h ?_) q
      subst hc; unfold co; simp
/-- No byte from n on counts: as long at most. -/
theorem trimL_len_le {p : List UInt8} {n : Nat} (h : ∀ i, n ≤ i → co p i = 0) : (trimL p).length ≤ n := by
  rcases Nat.lt_or_ge n (trimL p).length with h1 | h1
  · exfalso
    have h2 := trimL_last (trimL_trimL p) (by intro e; rw [e] at h1; simp at h1)
    rw [co_trimL] at h2
    exact h2 (h _ (by omega))
  · exact h1
theorem trimL_len_of {p : List UInt8} {n : Nat} (h : ∀ i, n < i → co p i = 0) (hn : co p n ≠ 0) : (trimL p).length = n + 1 := by
  have h1 := trimL_len_le (p := p) (n := n + 1) (fun i hi => h i (by omega))
  rcases Nat.lt_or_ge n (trimL p).length with h2 | h2
  · omega
  · exfalso
    apply hn
    rw [← co_trimL, co_far h2]
theorem co_set {p : List UInt8} {j : Nat} (hj : j < p.length) (c : UInt8) (i : Nat) : co (p.set j c) i = if i = j then c else co p i := by
  unfold co
  rw [List.getD_eq_getElem?_getD, List.getD_eq_getElem?_getD, List.getElem?_set]
  by_cases e : j = i
  · subst e; simp [hj]
  · rw [if_neg e, if_neg (fun h => e h.symm)]
theorem co_map (f : UInt8 → UInt8) (h0 : f 0 = 0) (p : List UInt8) (i : Nat) : co (p.map f) i = f (co p i) := by
  unfold co
  rw [List.getD_eq_getElem?_getD, List.getD_eq_getElem?_getD, List.getElem?_map]
  cases h : p[i]? with
  | none => simp [h0]
  | some x => simp
theorem co_replicate (n i : Nat) : co (List.replicate n 0) i = 0 := by
  unfold co
  rw [List.getD_eq_getElem?_getD, List.getElem?_replicate]
  split <;> rfl

/-- Byte k of the product, of the first n bytes of the first factor. -/
def conv (a b : List UInt8) (k : Nat) : Nat → UInt8
  | 0 => 0
  | n + 1 => conv a b k n ^^^ (if n ≤ k then mul (co a n) (co b (k - n)) else 0)
theorem conv_more (a b : List UInt8) (k n : Nat) (h : a.length ≤ n) : ∀ m, conv a b k (n + m) = conv a b k n
  | 0 => rfl
  | m + 1 => by
    rw [← Nat.add_assoc, conv, conv_more a b k n h m, co_far (p := a) (i := n + m) (by omega), zero_mul]
    simp
theorem conv_above (a b : List UInt8) (k n : Nat) (h : k < n) : ∀ m, conv a b k (n + m) = conv a b k n
  | 0 => rfl
  | m + 1 => by
    rw [← Nat.add_assoc, conv, conv_above a b k n h m, if_neg (by omega), UInt8.xor_zero]
theorem conv_len (a b : List UInt8) (k : Nat) : conv a b k a.length = conv a b k (k + 1) := by
  rw [← conv_more a b k a.length (Nat.le_refl _) (k + 1), ← conv_above a b k (k + 1) (by omega) a.length, Nat.add_comm]
/-- The first byte apart. -/
theorem conv_cons (c : UInt8) (p b : List UInt8) (k : Nat) : ∀ n, conv (c :: p) b k (n + 1) = mul c (co b k) ^^^ (match k with | 0 => 0 | k + 1 => conv p b k n)
  | 0 => by
    rw [conv, conv, if_pos (Nat.zero_le _), co_zero, Nat.sub_zero]
    cases k <;> simp [conv]
  | n + 1 => by
    rw [conv, conv_cons c p b k n]
    cases k with
    | zero => simp
    | succ k =>
      rw [co_succ, show k + 1 - (n + 1) = k - n by omega]
      show _ = mul c (co b (k + 1)) ^^^ conv p b k (n + 1)
      rw [conv]
      by_cases h : n ≤ k
      · rw [if_pos (by omega), if_pos h]; ac_rfl
      · rw [if_neg (by omega), if_neg h]; ac_rfl
theorem co_mulP : ∀ (a b : List UInt8) (k : Nat), co (mulP a b) k = conv a b k a.length
  | [], b, k => rfl
  | c :: p, b, k => by
    rw [mulP, co_addP, co_map _ (zero_mul c), List.length_cons, conv_cons, mul_comm c]
    cases k with
    | zero => rw [co_zero]
    | succ k => rw [co_succ, co_mulP p b k]
/-- A sum. -/
def sumX (f : Nat → UInt8) : Nat → UInt8
  | 0 => 0
  | n + 1 => sumX f n ^^^ f n
theorem sumX_front (f : Nat → UInt8) : ∀ n, sumX f (n + 1) = f 0 ^^^ sumX (fun i => f (i + 1)) n
  | 0 => by simp [sumX]
  | n + 1 => by
    rw [sumX, sumX_front f n]
    show _ = f 0 ^^^ (sumX (fun i => f (i + 1)) n ^^^ f (n + 1))
    ac_rfl
theorem sumX_congr {f g : Nat → UInt8} : ∀ n, (∀ i, i < n → f i = g i) → sumX f n = sumX g n
  | 0, _ => rfl
  | n + 1, h => by rw [sumX, sumX, sumX_congr n (fun i hi => h i (by omega)), h n (by omega)]
theorem sumX_rev (f : Nat → UInt8) : ∀ n, sumX (fun i => f (n - 1 - i)) n = sumX f n
  | 0 => rfl
  | n + 1 => by
    rw [sumX_front, sumX]
    have e : sumX (fun i => f (n + 1 - 1 - (i + 1))) n = sumX (fun i => f (n - 1 - i)) n := sumX_congr n (fun i hi => by
      show f _ = f _
      congr 1; omega)
    rw [e, sumX_rev f n]
    show f (n - 0) ^^^ _ = _
    rw [Nat.sub_zero, UInt8.xor_comm]
theorem conv_sum (a b : List UInt8) (k : Nat) : ∀ n, n ≤ k + 1 → conv a b k n = sumX (fun i => mul (co a i) (co b (k - i))) n
  | 0, _ => rfl
  | n + 1, h => by rw [conv, if_pos (by omega), conv_sum a b k n (by omega)]; rfl
/-- Factors may change their places. -/
theorem conv_comm (a b : List UInt8) (k : Nat) : conv a b k a.length = conv b a k b.length := by
  rw [conv_len, conv_len, conv_sum a b k (k + 1) (by omega), conv_sum b a k (k + 1) (by omega), ← sumX_rev]
  refine sumX_congr _ (fun i hi => ?_)
  show mul (co a (k + 1 - 1 - i)) (co b (k - (k + 1 - 1 - i))) = _
  rw [mul_comm, show k - (k + 1 - 1 - i) = i by omega, show k + 1 - 1 - i = k - i by omega]
/-- Only bytes that count count. -/
theorem conv_same {a a' b b' : List UInt8} (ha : ∀ i, co a i = co a' i) (hb : ∀ i, co b i = co b' i) (k : Nat) : ∀ n, conv a b k n = conv a' b' k n
  | 0 => rfl
  | n + 1 => by rw [conv, conv, conv_same ha hb k n, ha, hb]
theorem conv_same_len {a a' b b' : List UInt8} (ha : ∀ i, co a i = co a' i) (hb : ∀ i, co b i = co b' i) (k : Nat) : conv a b k a.length = conv a' b' k a'.length := by
  rw [conv_len, conv_len, conv_same ha hb]
theorem mul_same {a a' b b' : List UInt8} (ha : ∀ i, co a i = co a' i) (hb : ∀ i, co b i = co b' i) (k : Nat) : co (mulP a b) k = co (mulP a' b') k := by
  rw [co_mulP, co_mulP, conv_same_len ha hb]
theorem co_mulP_comm (a b : List UInt8) (k : Nat) : co (mulP a b) k = co (mulP b a) k := by rw [co_mulP, co_mulP, conv_comm]
/-- Behind both there is nothing. -/
theorem conv_far (a b : List UInt8) (k : Nat) (h : a.length + b.length ≤ k + 1) : ∀ n, conv a b k n = 0
  | 0 => rfl
  | n + 1 => by
    rw [conv, conv_far a b k h n, UInt8.zero_xor]
    split
    · rcases Nat.lt_or_ge n a.length with h1 | h1
      · rw [co_far (p := b) (i := k - n) (by omega), mul_zero]
      · rw [co_far h1, zero_mul]
    · rfl
/-- The last byte is the product of the last ones. -/
theorem conv_top (a b : List UInt8) (ha : 0 < a.length) (hb : 0 < b.length) : conv a b (a.length + b.length - 2) a.length = mul (co a (a.length - 1)) (co b (b.length - 1)) := by
  have h : ∀ n, n ≤ a.length - 1 → conv a b (a.length + b.length - 2) n = 0 := fun n => by
    induction n with
    | zero => intro _; rfl
    | succ n ih =>
      intro hn
      rw [conv, ih (by omega), UInt8.zero_xor, if_pos (by omega), co_far (p := b) (by omega), mul_zero]
  obtain ⟨m, hm⟩ : ∃ m, a.length = m + 1 := ⟨a.length - 1, by omega⟩
  have h1 := h m (by omega)
  rw [hm] at h1 ⊢
  rw [conv, h1, UInt8.zero_xor, if_pos (by omega), show m + 1 + b.length - 2 - m = b.length - 1 by omega, show m + 1 - 1 = m by omega]
/-- One byte more of the first factor. -/
theorem conv_set (a b : List UInt8) (k j : Nat) (hj : j < a.length) (h0 : co a j = 0) (t : UInt8) : ∀ n, conv (a.set j t) b k n = conv a b k n ^^^ (if j < n ∧ j ≤ k then mul t (co b (k - j)) else 0)
  | 0 => by simp [conv]
  | n + 1 => by
    rw [conv, conv_set a b k j hj h0 t n, conv, co_set hj]
    by_cases e : n = j
    · subst e
      have h2 : ¬ (n < n ∧ n ≤ k) := fun h => absurd h.1 (by omega)
      rw [if_pos rfl, h0, zero_mul, if_neg h2]
      by_cases hk : n ≤ k
      · have h3 : n < n + 1 ∧ n ≤ k := ⟨by omega, hk⟩
        rw [if_pos hk, if_pos hk, if_pos h3]; try simp
      · have h3 : ¬ (n < n + 1 ∧ n ≤ k) := fun h => hk h.2
        rw [if_neg hk, if_neg hk, if_neg h3]; try simp
    · rw [if_neg e]
      by_cases hj2 : j < n ∧ j ≤ k
      · have h3 : j < n + 1 ∧ j ≤ k := ⟨by omega, hj2.2⟩
        rw [if_pos hj2, if_pos h3]; ac_rfl
      · have h3 : ¬ (j < n + 1 ∧ j ≤ k) := fun h => hj2 ⟨by omega, h.2⟩
        rw [if_neg hj2, if_neg h3]; simp
theorem mulP_length (a b : List UInt8) (k : Nat) (h : a.length + b.length ≤ k + 1) : co (mulP a b) k = 0 := by rw [co_mulP, conv_far a b k h]
end Gf
end Go.Proofs.YtefpfedpgedloaaGreatDoor
namespace Go.Proofs.YtefpfedpgedloaaGreatDoor
open Go.RowKit
namespace Gf

/-- The product of the first k of some, but for the i-th. -/
def prodX (f : Nat → UInt8) (i : Nat) : Nat → UInt8
  | 0 => 1
  | k + 1 => if k = i then prodX f i k else mul (prodX f i k) (f k)
theorem prodX_ne {f : Nat → UInt8} {i : Nat} : ∀ {n : Nat}, (∀ k, k < n → k ≠ i → f k ≠ 0) → prodX f i n ≠ 0
  | 0, _ => by rw [prodX]; decide
  | n + 1, h => by
    have ih := prodX_ne (n := n) (fun k hk => h k (by omega))
    rw [prodX]
    split
    · exact ih
    · next e =>
      intro hm
      rcases mul_eq_zero hm with h1 | h1
      · exact ih h1
      · exact h n (by omega) e h1
theorem prodX_zero {f : Nat → UInt8} {i m : Nat} (hm : m ≠ i) (h0 : f m = 0) : ∀ n, m < n → prodX f i n = 0
  | 0, h => absurd h (by omega)
  | n + 1, h => by
    rw [prodX]
    by_cases e : n = m
    · subst e; rw [if_neg hm, h0, mul_zero]
    · rw [prodX_zero hm h0 n (by omega)]
      split
      · rfl
      · rw [zero_mul]
theorem prodX_mul (f g : Nat → UInt8) (i : Nat) : ∀ n, prodX (fun k => mul (f k) (g k)) i n = mul (prodX f i n) (prodX g i n)
  | 0 => by rw [prodX, prodX, prodX, mul_one]
  | n + 1 => by
    rw [prodX, prodX, prodX, prodX_mul f g i n]
    split
    · rfl
    · generalize prodX f i n = a
      generalize prodX g i n = b
      show mul (mul a b) (mul (f n) (g n)) = _
      rw [mul_assoc, ← mul_assoc b, mul_comm b (f n), mul_assoc (f n), ← mul_assoc a]
theorem prodX_congr {f g : Nat → UInt8} {i : Nat} : ∀ n, (∀ k, k < n → k ≠ i → f k = g k) → prodX f i n = prodX g i n
  | 0, _ => rfl
  | n + 1, h => by
    rw [prodX, prodX, prodX_congr n (fun k hk => h k (by omega))]
    split
    · rfl
    · next e => rw [h n (by omega) e]
theorem prodX_inv {f : Nat → UInt8} {i : Nat} {n : Nat} (h : ∀ k, k < n → k ≠ i → f k ≠ 0) : prodX (fun k => inv (f k)) i n = inv (prodX f i n) := by
  apply inv_only
  rw [← prodX_mul, prodX_congr (g := fun _ => 1) n (fun k hk he => mul_inv (h k hk he))]
  clear h
  induction n with
  | zero => rfl
  | succ n ih => rw [prodX, ih]; split <;> simp [mul_one]
/-- The factors above and below. -/
def over (l : List UInt8) (x : UInt8) (i n : Nat) : UInt8 := prodX (fun k => x ^^^ co l k) i n
def under (l : List UInt8) (i n : Nat) : UInt8 := prodX (fun k => co l i ^^^ co l k) i n
/-- The weight of the i-th place. -/
def wgt (l : List UInt8) (x : UInt8) (i : Nat) : UInt8 := mul (over l x i l.length) (inv (under l i l.length))
def wgts (l : List UInt8) (x : UInt8) : List UInt8 := (List.range l.length).map (wgt l x)
theorem wgts_length (l : List UInt8) (x : UInt8) : (wgts l x).length = l.length := by simp [wgts]
theorem co_wgts (l : List UInt8) (x : UInt8) (i : Nat) (h : i < l.length) : co (wgts l x) i = wgt l x i := by
  unfold co wgts
  rw [List.getD_eq_getElem?_getD]
  simp [h]
theorem xor_ne {a b : UInt8} (h : a ≠ b) : a ^^^ b ≠ 0 := fun e => h (by
  have := congrArg (· ^^^ b) e
  simpa [UInt8.xor_assoc] using this)
theorem co_inj {l : List UInt8} (hn : l.Nodup) {i k : Nat} (hi : i < l.length) (hk : k < l.length) (h : co l i = co l k) : i = k := by
  unfold co at h
  rw [List.getD_eq_getElem?_getD, List.getD_eq_getElem?_getD, List.getElem?_eq_getElem hi, List.getElem?_eq_getElem hk] at h
  have h' : l[i] = l[k] := by simpa using h
  have hp := List.pairwise_iff_getElem.1 hn
  rcases Nat.lt_trichotomy i k with h1 | h1 | h1
  · exact absurd h' (hp i k hi hk h1)
  · exact h1
  · exact absurd h'.symm (hp k i hk hi h1)
theorem diff_ne {l : List UInt8} (hn : l.Nodup) {i : Nat} (hi : i < l.length) : ∀ k, k < l.length → k ≠ i → co l i ^^^ co l k ≠ 0 :=
  fun _ hk he => xor_ne (fun e => he (co_inj hn hi hk e).symm)
theorem under_ne {l : List UInt8} (hn : l.Nodup) {i : Nat} (hi : i < l.length) : under l i l.length ≠ 0 := prodX_ne (diff_ne hn hi)
/-- Factor by factor, as the document has it. -/
theorem wgt_factors {l : List UInt8} (hn : l.Nodup) (x : UInt8) {i : Nat} (hi : i < l.length) :
    prodX (fun k => mul (x ^^^ co l k) (inv (co l i ^^^ co l k))) i l.length = wgt l x i := by
  rw [prodX_mul, prodX_inv (diff_ne hn hi)]; rfl
theorem wgt_same {l : List UInt8} (hn : l.Nodup) {i : Nat} (hi : i < l.length) : wgt l (co l i) i = 1 := mul_inv (under_ne hn hi)
theorem wgt_other {l : List UInt8} {i m : Nat} (hm : m < l.length) (he : m ≠ i) : wgt l (co l m) i = 0 := by
  unfold wgt over
  rw [prodX_zero he (by simp) _ hm, zero_mul]
/-- The sum of the values times the weights. -/
def tell (l : List UInt8) (v : Nat → UInt8) (x : UInt8) : UInt8 := sumX (fun i => mul (wgt l x i) (v i)) l.length
theorem sumX_zero {f : Nat → UInt8} : ∀ n, (∀ i, i < n → f i = 0) → sumX f n = 0
  | 0, _ => rfl
  | n + 1, h => by rw [sumX, sumX_zero n (fun i hi => h i (by omega)), h n (by omega)]; rfl
theorem sumX_one {f : Nat → UInt8} {m : Nat} : ∀ n, m < n → (∀ i, i < n → i ≠ m → f i = 0) → sumX f n = f m
  | 0, h, _ => absurd h (by omega)
  | n + 1, h, ho => by
    rw [sumX]
    by_cases e : n = m
    · subst e; rw [sumX_zero n (fun i hi => ho i (by omega) (by omega)), UInt8.zero_xor]
    · rw [sumX_one n (by omega) (fun i hi => ho i (by omega)), ho n (by omega) e, UInt8.xor_zero]
theorem tell_at {l : List UInt8} (hn : l.Nodup) (v : Nat → UInt8) {m : Nat} (hm : m < l.length) : tell l v (co l m) = v m := by
  unfold tell
  rw [sumX_one (m := m) l.length hm (fun i hi he => by rw [wgt_other hm (fun e => he e.symm), zero_mul]), wgt_same hn hm, one_mul]
/-- The polynomial of the factors above. -/
def overP (l : List UInt8) (i : Nat) : Nat → List UInt8
  | 0 => [1]
  | k + 1 => if k = i then overP l i k else mulP [co l k, 1] (overP l i k)
theorem val_overP (l : List UInt8) (i : Nat) (x : UInt8) : ∀ n, val (overP l i n) x = over l x i n
  | 0 => by rw [overP, over, prodX, val, val, mul_zero, UInt8.xor_zero]
  | n + 1 => by
    have ih := val_overP l i x n
    rw [overP, over, prodX]
    split
    · exact ih
    · rw [val_mulP, ih, val, val, val, mul_zero, UInt8.xor_zero, mul_one, mul_comm, UInt8.xor_comm]; rfl
theorem mulP_two (c d : UInt8) (q : List UInt8) (h : 1 ≤ q.length) : (mulP [c, d] q).length = q.length + 1 := by
  simp only [mulP, addP_length, List.length_map, List.length_cons, List.length_nil]
  omega
theorem overP_length (l : List UInt8) (i : Nat) : ∀ n, (overP l i n).length = if i < n then n else n + 1
  | 0 => by rw [overP]; simp
  | n + 1 => by
    have ih := overP_length l i n
    rw [overP]
    split
    · next e => subst e; rw [ih]; simp
    · next e =>
      rw [mulP_two _ _ _ (by rw [ih]; split <;> omega), ih]
      by_cases h : i < n
      · rw [if_pos h, if_pos (by omega)]
      · rw [if_neg h, if_neg (by omega)]
/-- The polynomial of some of the weights. -/
def tellP (l : List UInt8) (v : Nat → UInt8) : Nat → List UInt8
  | 0 => []
  | n + 1 => addP (tellP l v n) ((overP l n l.length).map (mul · (mul (inv (under l n l.length)) (v n))))
theorem val_tellP (l : List UInt8) (v : Nat → UInt8) (x : UInt8) : ∀ n, val (tellP l v n) x = sumX (fun i => mul (wgt l x i) (v i)) n
  | 0 => rfl
  | n + 1 => by
    rw [tellP, val_addP, val_tellP l v x n, val_scale, val_overP, sumX, ← mul_assoc]; rfl
theorem tellP_length (l : List UInt8) (v : Nat → UInt8) : ∀ n, n ≤ l.length → (tellP l v n).length ≤ l.length
  | 0, _ => Nat.zero_le _
  | n + 1, h => by
    have := tellP_length l v n (by omega)
    rw [tellP, addP_length, List.length_map, overP_length, if_pos (by omega)]
    omega
/-- WHAT THE WEIGHTS TELL IS THE VALUE OF A POLYNOMIAL THAT GOES THROUGH THE POINTS, if it has no more bytes than there are. -/
theorem tell_val {l p : List UInt8} (hn : l.Nodup) (hp : p.length ≤ l.length) (v : Nat → UInt8) (hv : ∀ i, i < l.length → val p (co l i) = v i) (x : UInt8) : tell l v x = val p x := by
  have h1 := val_tellP l v x l.length
  show sumX _ _ = _
  rw [← h1]
  refine val_same (agree hn (tellP_length l v l.length (Nat.le_refl _)) hp (fun r hr => ?_)) x
  obtain ⟨i, hi, rfl⟩ := List.mem_iff_getElem.1 hr
  have e : l[i] = co l i := by unfold co; rw [List.getD_eq_getElem?_getD, List.getElem?_eq_getElem hi]; rfl
  rw [e, hv i hi, val_tellP]
  exact tell_at hn v hi
/-- Just one goes through points. -/
theorem just_one {l p q : List UInt8} (hn : l.Nodup) (hp : p.length ≤ l.length) (hq : q.length ≤ l.length) (h : ∀ i, i < l.length → val p (co l i) = val q (co l i)) : trimL p = trimL q := by
  refine trimL_same (agree hn hp hq (fun r hr => ?_))
  obtain ⟨i, hi, rfl⟩ := List.mem_iff_getElem.1 hr
  have e : l[i] = co l i := by unfold co; rw [List.getD_eq_getElem?_getD, List.getElem?_eq_getElem hi]; rfl
  rw [e]; exact h i hi
/-- Weights add up to 1. -/
theorem wgts_one {l : List UInt8} (hn : l.Nodup) (h0 : 0 < l.length) (x : UInt8) : sumX (wgt l x) l.length = 1 := by
  have h := tell_val (p := [1]) hn h0 (fun _ => 1) (fun i _ => by simp [val, mul_zero]) x
  rw [show val [1] x = 1 by simp [val, mul_zero]] at h
  rw [← h]
  exact sumX_congr _ (fun i _ => (mul_one _).symm)
/-- The values of a product of x less each of the first places. -/
def nought (l : List UInt8) (x : UInt8) : Nat → UInt8
  | 0 => 1
  | k + 1 => mul (nought l x k) (x ^^^ co l k)
theorem nought_at {l : List UInt8} {j : Nat} : ∀ k, j < k → nought l (co l j) k = 0
  | 0, h => absurd h (by omega)
  | k + 1, h => by
    rw [nought]
    by_cases e : k = j
    · subst e; simp [mul_zero]
    · rw [nought_at k (by omega), zero_mul]
theorem nought_ne {l : List UInt8} (hn : l.Nodup) {i : Nat} (hi : i < l.length) : ∀ k, k ≤ i → nought l (co l i) k ≠ 0
  | 0, _ => by rw [nought]; decide
  | k + 1, h => by
    rw [nought]
    intro e
    rcases mul_eq_zero e with h1 | h1
    · exact nought_ne hn hi k (by omega) h1
    · exact diff_ne hn hi k (by omega) (by omega) h1
end Gf
end Go.Proofs.YtefpfedpgedloaaGreatDoor
namespace Go.Proofs.YtefpfedpgedloaaGreatDoor
open Go.RowKit
namespace Gf

theorem pow_add (x : UInt8) (m : Nat) : ∀ n, pow x (m + n) = mul (pow x m) (pow x n)
  | 0 => by rw [Nat.add_zero, pow, mul_one]
  | n + 1 => by rw [← Nat.add_assoc, pow, pow_add x m n, pow, mul_assoc]
theorem pow_one (x : UInt8) : pow x 1 = x := by rw [pow, pow, one_mul]
theorem one_pow : ∀ n, pow 1 n = 1
  | 0 => rfl
  | n + 1 => by rw [pow, one_pow n, mul_one]
theorem pow_mul (x : UInt8) (m : Nat) : ∀ n, pow x (m * n) = pow (pow x m) n
  | 0 => rfl
  | n + 1 => by rw [Nat.mul_add, Nat.mul_one, pow_add, pow_mul x m n, pow]
theorem pow_sq (x : UInt8) (n : Nat) : pow (mul x x) n = pow x (2 * n) := by
  rw [pow_mul]; congr 1
  rw [show 2 = 1 + 1 from rfl, pow_add, pow_one]
def sq (a : Nat) : Nat := gN a a
def cycle (a : Nat) : Bool :=
  Nat.rec (motive := fun _ => Bool) true (fun _ _ =>
    gN a (gN (sq a) (gN (sq (sq a)) (gN (sq (sq (sq a))) (gN (sq (sq (sq (sq a)))) (gN (sq (sq (sq (sq (sq a))))) (gN (sq (sq (sq (sq (sq (sq a)))))) (sq (sq (sq (sq (sq (sq (sq a))))))))))))) == 1) a
theorem t_cycle : (List.range 256).all cycle = true := by decide +kernel
theorem pow_255 {a : UInt8} (h : a ≠ 0) : pow a 255 = 1 := by
  have h0 : a.toNat ≠ 0 := fun e => h (UInt8.toNat_inj.1 (by simpa using e))
  have h1 := List.all_eq_true.1 t_cycle a.toNat (List.mem_range.2 a.toNat_lt)
  unfold cycle at h1
  obtain ⟨n, hn⟩ : ∃ n, a.toNat = n + 1 := ⟨a.toNat - 1, by omega⟩
  have h2 : gN a.toNat (gN (sq a.toNat) (gN (sq (sq a.toNat)) (gN (sq (sq (sq a.toNat))) (gN (sq (sq (sq (sq a.toNat)))) (gN (sq (sq (sq (sq (sq a.toNat))))) (gN (sq (sq (sq (sq (sq (sq a.toNat)))))) (sq (sq (sq (sq (sq (sq (sq a.toNat))))))))))))) = 1 := by
    rw [hn] at h1 ⊢; exact eq_of_beq h1
  have e : ∀ b : UInt8, sq b.toNat = (pow b 2).toNat := fun b => by
    rw [show 2 = 1 + 1 from rfl, pow_add, pow_one, mul_nat]; rfl
  rw [e, e, e, e, e, e, e, ← mul_nat, ← mul_nat, ← mul_nat, ← mul_nat, ← mul_nat, ← mul_nat, ← mul_nat] at h2
  simp only [← pow_mul] at h2
  have h3 := UInt8.toNat_inj.1 (show _ = (1 : UInt8).toNat from h2)
  have h4 : pow a 255 = mul (pow a 1) (mul (pow a 2) (mul (pow a 4) (mul (pow a 8) (mul (pow a 16) (mul (pow a 32) (mul (pow a 64) (pow a 128))))))) := by
    rw [← pow_add, ← pow_add, ← pow_add, ← pow_add, ← pow_add, ← pow_add, ← pow_add]
  rw [h4, pow_one]
  exact h3
theorem pow_mod {a : UInt8} (h : a ≠ 0) (n : Nat) : pow a (n % 255) = pow a n := by
  conv => rhs; rw [← Nat.div_add_mod n 255, pow_add, pow_mul, pow_255 h, one_pow, one_mul]
theorem inv_pow {a : UInt8} (h : a ≠ 0) : pow a 254 = inv a := by
  apply inv_only
  have := pow_255 h
  rwa [show 255 = 1 + 254 from rfl, pow_add, pow_one] at this
theorem zero_pow (n : Nat) (h : 0 < n) : pow 0 n = 0 := by
  obtain ⟨m, rfl⟩ : ∃ m, n = m + 1 := ⟨n - 1, by omega⟩
  rw [pow, mul_zero]
/-- Any power. -/
def gpow (a : UInt8) (n : Int) : UInt8 := if a = 0 then (if n = 0 then 1 else 0) else pow a (n % 255).toNat
def gerr (a : UInt8) (n : Int) : Int := if a = 0 ∧ n < 0 then 1 else 0
/-- The inverse; of 0: 0. -/
def invz (a : UInt8) : UInt8 := if a = 0 then 0 else inv a
def ierr (a : UInt8) : Int := if a = 0 then 1 else 0
theorem gpow_inv (a : UInt8) : gpow a (-1) = invz a := by
  unfold gpow invz
  split
  · rfl
  · next h => rw [← inv_pow h]; rfl
theorem gerr_inv (a : UInt8) : gerr a (-1) = ierr a := by
  unfold gerr ierr
  by_cases h : a = 0
  · rw [if_pos ⟨h, by decide⟩, if_pos h]
  · rw [if_neg (fun x => h x.1), if_neg h]
theorem gpow_nat (a : UInt8) (n : Nat) : gpow a n = pow a n := by
  unfold gpow
  split
  · next h =>
    subst h
    by_cases h0 : n = 0
    · subst h0; rfl
    · rw [if_neg (by omega), zero_pow n (by omega)]
  · next h => rw [← pow_mod h n]; congr 1
theorem gpow_neg {a : UInt8} (h : a ≠ 0) (n : Nat) : gpow a (-(n : Int)) = pow (inv a) n := by
  unfold gpow
  rw [if_neg h, ← inv_pow h, ← pow_mul, ← pow_mod h (254 * n)]
  congr 1
  omega
theorem gpow_zero_neg (n : Int) (h : n < 0) : gpow 0 n = 0 := by
  unfold gpow; rw [if_pos rfl, if_neg (by omega)]
theorem gpow_zero_pos (n : Int) (h : 0 < n) : gpow 0 n = 0 := by
  unfold gpow; rw [if_pos rfl, if_neg (by omega)]
theorem gpow_mod {a : UInt8} (h : a ≠ 0) {n m : Int} (he : n % 255 = m % 255) : gpow a n = gpow a m := by
  unfold gpow; rw [if_neg h, if_neg h, he]
/-- The powers of 3. -/
theorem eTab_at {i : Nat} (h : i < 255) : eTab.getD i 0 < 256 ∧ eTab.getD i 0 ≠ 0 ∧ lTab.getD (eTab.getD i 0) 0 = i := by
  have := List.all_eq_true.1 t_exp i (List.mem_range.2 h)
  simp only [Bool.and_eq_true, decide_eq_true_eq, bne_iff_ne, beq_iff_eq] at this
  exact ⟨this.1.1, this.1.2, this.2⟩
theorem t_next : (List.range 254).all (fun i => gN (eTab.getD i 0) 3 == eTab.getD (i + 1) 0) = true := by decide +kernel
theorem pow3 : ∀ n, n < 255 → (pow 3 n).toNat = eTab.getD n 0
  | 0, _ => rfl
  | n + 1, h => by
    rw [pow, mul_nat, pow3 n (by omega)]
    exact eq_of_beq (List.all_eq_true.1 t_next n (List.mem_range.2 (by omega)))
/-- The log. -/
def logN (a : UInt8) : Nat := lTab.getD a.toNat 0
theorem lTab_at {a : Nat} (h : a < 255) : lTab.getD (a + 1) 0 < 255 ∧ eTab.getD (lTab.getD (a + 1) 0) 0 = a + 1 := by
  have := List.all_eq_true.1 t_log a (List.mem_range.2 h)
  simp only [Bool.and_eq_true, decide_eq_true_eq, beq_iff_eq] at this
  exact this
theorem nat_ne {a : UInt8} (h : a ≠ 0) : ∃ n, a.toNat = n + 1 ∧ n < 255 := by
  have h0 : a.toNat ≠ 0 := fun e => h (UInt8.toNat_inj.1 (by simpa using e))
  have := a.toNat_lt
  exact ⟨a.toNat - 1, by omega, by omega⟩
theorem logN_lt {a : UInt8} (h : a ≠ 0) : logN a < 255 := by
  obtain ⟨n, hn, hl⟩ := nat_ne h
  unfold logN; rw [hn]; exact (lTab_at hl).1
theorem pow_logN {a : UInt8} (h : a ≠ 0) : pow 3 (logN a) = a := by
  apply UInt8.toNat_inj.1
  rw [pow3 _ (logN_lt h)]
  obtain ⟨n, hn, hl⟩ := nat_ne h
  unfold logN; rw [hn]; exact (lTab_at hl).2
theorem logN_pow {n : Nat} (h : n < 255) : logN (pow 3 n) = n := by
  unfold logN
  rw [pow3 n h]; exact (eTab_at h).2.2
theorem pow3_ne (n : Nat) : pow 3 n ≠ 0 := by
  rw [← pow_mod (by decide) n]
  intro e
  have := pow3 (n % 255) (Nat.mod_lt _ (by decide))
  rw [e] at this
  exact (eTab_at (Nat.mod_lt n (by decide))).2.1 this.symm
theorem pow3_inj {m n : Nat} (hm : m < 255) (hn : n < 255) (h : pow 3 m = pow 3 n) : m = n := by
  rw [← logN_pow hm, ← logN_pow hn, h]
end Gf
end Go.Proofs.YtefpfedpgedloaaGreatDoor
