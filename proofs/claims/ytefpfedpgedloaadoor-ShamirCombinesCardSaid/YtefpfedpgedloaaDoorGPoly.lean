/- Plain mathematics of poly: values, sums, products, roots. No program. -/
import Derived.Test.YtefpfedpgedloaaDoorGAlg
namespace Go.Proofs.YtefpfedpgedloaaDoor
open Go.RowKit
namespace Gf

/-- The value of a polynomial. -/
def val : List UInt8 → UInt8 → UInt8
  | [], _ => 0
  | c :: p, x => c ^^^ mul x (val p x)
/-- A power. -/
def pow (x : UInt8) : Nat → UInt8
  | 0 => 1
  | n + 1 => mul (pow x n) x
/-- Byte i; behind the end 0. -/
def co (p : List UInt8) (i : Nat) : UInt8 := p.getD i 0
theorem co_nil (i : Nat) : co [] i = 0 := rfl
theorem co_zero (c : UInt8) (p : List UInt8) : co (c :: p) 0 = c := rfl
theorem co_succ (c : UInt8) (p : List UInt8) (i : Nat) : co (c :: p) (i + 1) = co p i := rfl
theorem val_snoc (p : List UInt8) (c x : UInt8) : val (p ++ [c]) x = val p x ^^^ mul c (pow x p.length) := by
  induction p with
  | nil => simp [val, pow, mul_one, mul_zero]
  | cons d p ih =>
    rw [List.cons_append, val, ih, val, mul_add, List.length_cons, pow, ← UInt8.xor_assoc, ← mul_assoc, mul_comm x c, mul_assoc, mul_comm x (pow x p.length)]
/-- Only bytes other than 0 count. -/
theorem val_same {p q : List UInt8} (h : ∀ i, co p i = co q i) (x : UInt8) : val p x = val q x := by
  induction p generalizing q with
  | nil =>
    induction q with
    | nil => rfl
    | cons d q ih =>
      have h0 := h 0
      rw [co_nil, co_zero] at h0
      show (0 : UInt8) = d ^^^ mul x (val q x)
      rw [← ih (fun i => by have := h (i + 1); rwa [co_nil, co_succ] at this), ← h0]
      simp [val, mul_zero]
  | cons c p ih =>
    cases q with
    | nil =>
      have h0 := h 0
      rw [co_nil, co_zero] at h0
      show c ^^^ mul x (val p x) = 0
      rw [ih (q := []) (fun i => by have := h (i + 1); rwa [co_nil, co_succ] at this), h0]
      simp [val, mul_zero]
    | cons d q =>
      have h0 := h 0
      rw [co_zero, co_zero] at h0
      rw [val, val, ih (q := q) (fun i => by have := h (i + 1); rwa [co_succ, co_succ] at this), h0]
/-- Divided by x less r: the quotient. -/
def quo : List UInt8 → UInt8 → List UInt8
  | [], _ => []
  | _ :: p, r => val p r :: quo p r
theorem quo_length (p : List UInt8) (r : UInt8) : (quo p r).length = p.length := by
  induction p with
  | nil => rfl
  | cons c p ih => rw [quo, List.length_cons, List.length_cons, ih]
/-- What is left is the value at r. -/
theorem val_quo (p : List UInt8) (r x : UInt8) : val p x ^^^ val p r = mul (x ^^^ r) (val (quo p r) x) := by
  induction p with
  | nil => simp [val, quo, mul_zero]
  | cons c p ih =>
    rw [quo, val, val, val, mul_add, ← mul_assoc, mul_comm (x ^^^ r) x, mul_assoc, ← ih, add_mul, mul_add]
    have e : ∀ (a b d f : UInt8), c ^^^ a ^^^ (c ^^^ b) = d ^^^ b ^^^ (a ^^^ d) := fun a b d f => by
      rw [show c ^^^ a ^^^ (c ^^^ b) = (c ^^^ c) ^^^ (a ^^^ b) from by ac_rfl, show d ^^^ b ^^^ (a ^^^ d) = (d ^^^ d) ^^^ (a ^^^ b) from by ac_rfl, UInt8.xor_self, UInt8.xor_self]
    exact e _ _ _ 0
/-- The first byte of the quotient, and the bytes of what was divided: none is lost. -/
theorem all_zero_of_quo {p : List UInt8} {r : UInt8} (h : ∀ i, co (quo p r) i = 0) (h0 : val p r = 0) : ∀ i, co p i = 0 := by
  induction p with
  | nil => intro i; rfl
  | cons c p ih =>
    have h1 := h 0
    rw [quo, co_zero] at h1
    have h2 := ih (fun i => by have := h (i + 1); rwa [quo, co_succ] at this) h1
    intro i
    cases i with
    | zero =>
      rw [co_zero]
      rw [val, h1, mul_zero] at h0
      simpa using h0
    | succ i => rw [co_succ]; exact h2 i
/-- The last byte of a quotient is 0. -/
theorem quo_last (r : UInt8) : ∀ (p : List UInt8) (c : UInt8), co (quo (c :: p) r) p.length = 0
  | [], _ => rfl
  | d :: p, _ => by
    show co (val (d :: p) r :: quo (d :: p) r) (p.length + 1) = 0
    rw [co_succ]
    exact quo_last r p d
theorem co_far {p : List UInt8} {i : Nat} (h : p.length ≤ i) : co p i = 0 := by
  unfold co
  rw [List.getD_eq_getElem?_getD, List.getElem?_eq_none h]
  rfl
theorem co_take {p : List UInt8} {n i : Nat} (h : i < n) : co (p.take n) i = co p i := by
  unfold co
  rw [List.getD_eq_getElem?_getD, List.getD_eq_getElem?_getD, List.getElem?_take_of_lt h]
/-- A POLYNOMIAL WITH AS MANY ROOTS AS BYTES IS 0. -/
theorem roots : ∀ (l : List UInt8) (p : List UInt8), l.Nodup → p.length ≤ l.length → (∀ r ∈ l, val p r = 0) → ∀ i, co p i = 0
  | _, [], _, _, _, i => rfl
  | [], _ :: _, _, h, _, _ => absurd h (by simp)
  | r :: l, c :: p, hn, hl, hv, i => by
    have hr := hv r (by simp)
    refine all_zero_of_quo (r := r) ?_ hr i
    -- the quotient has one byte that is 0 at its end, and the other roots
    have hz : ∀ s ∈ l, val (quo (c :: p) r) s = 0 := fun s hs => by
      have h1 := val_quo (c :: p) r s
      rw [hr, hv s (by simp [hs])] at h1
      have h2 : mul (s ^^^ r) (val (quo (c :: p) r) s) = 0 := by rw [← h1]; rfl
      rcases mul_eq_zero h2 with h3 | h3
      · exfalso
        have : s = r := by
          have := congrArg (· ^^^ r) h3
          simpa [UInt8.xor_assoc] using this
        subst this
        exact (List.nodup_cons.1 hn).1 hs
      · exact h3
    have hlen : (quo (c :: p) r).length = p.length + 1 := by rw [quo_length, List.length_cons]
    have hsame : ∀ j, co ((quo (c :: p) r).take p.length) j = co (quo (c :: p) r) j := fun j => by
      rcases Nat.lt_trichotomy j p.length with h | h | h
      · exact co_take h
      · subst h
        rw [quo_last, co_far (by rw [List.length_take]; omega)]
      · rw [co_far (by rw [List.length_take]; omega), co_far (by omega)]
    have hall := roots l ((quo (c :: p) r).take p.length) (List.nodup_cons.1 hn).2
      (by rw [List.length_take]; simp only [List.length_cons] at hl; omega)
      (fun s hs => by rw [val_same hsame]; exact hz s hs)
    intro j
    rw [← hsame j]
    exact hall j
/-- The sum, as long as the longer. -/
def addP : List UInt8 → List UInt8 → List UInt8
  | [], q => q
  | c :: p, [] => c :: p
  | c :: p, d :: q => (c ^^^ d) :: addP p q
theorem addP_nil (p : List UInt8) : addP p [] = p := by cases p <;> rfl
theorem addP_length : ∀ (p q : List UInt8), (addP p q).length = max p.length q.length
  | [], q => by simp [addP]
  | c :: p, [] => by simp [addP]
  | c :: p, d :: q => by rw [addP, List.length_cons, List.length_cons, List.length_cons, addP_length p q]; omega
theorem co_addP : ∀ (p q : List UInt8) (i : Nat), co (addP p q) i = co p i ^^^ co q i
  | [], q, i => by rw [addP, co_nil, UInt8.zero_xor]
  | c :: p, [], i => by rw [addP_nil, co_nil, UInt8.xor_zero]
  | c :: p, d :: q, 0 => rfl
  | c :: p, d :: q, i + 1 => by rw [addP, co_succ, co_succ, co_succ, co_addP p q i]
theorem val_addP (x : UInt8) : ∀ (p q : List UInt8), val (addP p q) x = val p x ^^^ val q x
  | [], q => by rw [addP, val, UInt8.zero_xor]
  | c :: p, [] => by rw [addP_nil, val, val, UInt8.xor_zero]
  | c :: p, d :: q => by
    rw [addP, val, val, val, val_addP x p q, mul_add]
    ac_rfl
theorem val_scale (c x : UInt8) : ∀ p : List UInt8, val (p.map (mul · c)) x = mul (val p x) c
  | [] => by simp [val, zero_mul]
  | d :: p => by
    rw [List.map_cons, val, val_scale c x p, val, add_mul, mul_assoc]
/-- The product. -/
def mulP : List UInt8 → List UInt8 → List UInt8
  | [], _ => []
  | c :: p, q => addP (q.map (mul · c)) (0 :: mulP p q)
theorem val_mulP (x : UInt8) (q : List UInt8) : ∀ p : List UInt8, val (mulP p q) x = mul (val p x) (val q x)
  | [] => by simp [mulP, val, zero_mul]
  | c :: p => by
    rw [mulP, val_addP, val_scale, val, val_mulP x q p, val, UInt8.zero_xor, add_mul, mul_assoc, mul_comm (val q x) c]
/-- JUST ONE POLYNOMIAL GOES THROUGH POINTS. -/
theorem agree {l p q : List UInt8} (hn : l.Nodup) (hp : p.length ≤ l.length) (hq : q.length ≤ l.length) (h : ∀ r ∈ l, val p r = val q r) (i : Nat) : co p i = co q i := by
  have h1 := roots l (addP p q) hn (by rw [addP_length]; omega) (fun r hr => by rw [val_addP, h r hr, UInt8.xor_self]) i
  rw [co_addP] at h1
  have := congrArg (· ^^^ co q i) h1
  simpa [UInt8.xor_assoc] using this
end Gf
end Go.Proofs.YtefpfedpgedloaaDoor
