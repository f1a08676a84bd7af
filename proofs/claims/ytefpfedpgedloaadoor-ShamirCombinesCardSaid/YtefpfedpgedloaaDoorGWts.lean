/- Plain mathematics of poly: weights; what they tell is the value of a polynomial. No program. -/
import Derived.Test.YtefpfedpgedloaaDoorGConv
namespace Go.Proofs.YtefpfedpgedloaaDoor
open Go.RowKit
namespace Gf

/-- The product of the first k of some, but for the i-th. -/
def prodX (f : Nat → UInt8) (i : Nat) : Nat → UInt8
  | 0 => 1
  | k + 1 => if k = i then prodX f i k else mul (prodX f i k) (f k)
theorem prodX_ne {f : Nat → UInt8} {i : Nat} : ∀ {n : Nat}, (∀ k, k < n → k ≠ i → f k ≠ 0) → prodX f i n ≠ 0
  | 0, _ => by rw [prodX]; decide
  | n + 1, h => by
    have ih := prodX_ne (n := n) (fun k hk => h k (by omega))
    rw [prodX]
    split
    · exact ih
    · next e =>
      intro hm
      rcases mul_eq_zero hm with h1 | h1
      · exact ih h1
      · exact h n (by omega) e h1
theorem prodX_zero {f : Nat → UInt8} {i m : Nat} (hm : m ≠ i) (h0 : f m = 0) : ∀ n, m < n → prodX f i n = 0
  | 0, h => absurd h (by omega)
  | n + 1, h => by
    rw [prodX]
    by_cases e : n = m
    · subst e; rw [if_neg hm, h0, mul_zero]
    · rw [prodX_zero hm h0 n (by omega)]
      split
      · rfl
      · rw [zero_mul]
theorem prodX_mul (f g : Nat → UInt8) (i : Nat) : ∀ n, prodX (fun k => mul (f k) (g k)) i n = mul (prodX f i n) (prodX g i n)
  | 0 => by rw [prodX, prodX, prodX, mul_one]
  | n + 1 => by
    rw [prodX, prodX, prodX, prodX_mul f g i n]
    split
    · rfl
    · generalize prodX f i n = a
      generalize prodX g i n = b
      show mul (mul a b) (mul (f n) (g n)) = _
      rw [mul_assoc, ← mul_assoc b, mul_comm b (f n), mul_assoc (f n), ← mul_assoc a]
theorem prodX_congr {f g : Nat → UInt8} {i : Nat} : ∀ n, (∀ k, k < n → k ≠ i → f k = g k) → prodX f i n = prodX g i n
  | 0, _ => rfl
  | n + 1, h => by
    rw [prodX, prodX, prodX_congr n (fun k hk => h k (by omega))]
    split
    · rfl
    · next e => rw [h n (by omega) e]
theorem prodX_inv {f : Nat → UInt8} {i : Nat} {n : Nat} (h : ∀ k, k < n → k ≠ i → f k ≠ 0) : prodX (fun k => inv (f k)) i n = inv (prodX f i n) := by
  apply inv_only
  rw [← prodX_mul, prodX_congr (g := fun _ => 1) n (fun k hk he => mul_inv (h k hk he))]
  clear h
  induction n with
  | zero => rfl
  | succ n ih => rw [prodX, ih]; split <;> simp [mul_one]
/-- The factors above and below. -/
def over (l : List UInt8) (x : UInt8) (i n : Nat) : UInt8 := prodX (fun k => x ^^^ co l k) i n
def under (l : List UInt8) (i n : Nat) : UInt8 := prodX (fun k => co l i ^^^ co l k) i n
/-- The weight of the i-th place. -/
def wgt (l : List UInt8) (x : UInt8) (i : Nat) : UInt8 := mul (over l x i l.length) (inv (under l i l.length))
def wgts (l : List UInt8) (x : UInt8) : List UInt8 := (List.range l.length).map (wgt l x)
theorem wgts_length (l : List UInt8) (x : UInt8) : (wgts l x).length = l.length := by simp [wgts]
theorem co_wgts (l : List UInt8) (x : UInt8) (i : Nat) (h : i < l.length) : co (wgts l x) i = wgt l x i := by
  unfold co wgts
  rw [List.getD_eq_getElem?_getD]
  simp [h]
theorem xor_ne {a b : UInt8} (h : a ≠ b) : a ^^^ b ≠ 0 := fun e => h (by
  have := congrArg (· ^^^ b) e
  simpa [UInt8.xor_assoc] using this)
theorem co_inj {l : List UInt8} (hn : l.Nodup) {i k : Nat} (hi : i < l.length) (hk : k < l.length) (h : co l i = co l k) : i = k := by
  unfold co at h
  rw [List.getD_eq_getElem?_getD, List.getD_eq_getElem?_getD, List.getElem?_eq_getElem hi, List.getElem?_eq_getElem hk] at h
  have h' : l[i] = l[k] := by simpa using h
  have hp := List.pairwise_iff_getElem.1 hn
  rcases Nat.lt_trichotomy i k with h1 | h1 | h1
  · exact absurd h' (hp i k hi hk h1)
  · exact h1
  · exact absurd h'.symm (hp k i hk hi h1)
theorem diff_ne {l : List UInt8} (hn : l.Nodup) {i : Nat} (hi : i < l.length) : ∀ k, k < l.length → k ≠ i → co l i ^^^ co l k ≠ 0 :=
  fun _ hk he => xor_ne (fun e => he (co_inj hn hi hk e).symm)
theorem under_ne {l : List UInt8} (hn : l.Nodup) {i : Nat} (hi : i < l.length) : under l i l.length ≠ 0 := prodX_ne (diff_ne hn hi)
/-- Factor by factor, as the document has it. -/
theorem wgt_factors {l : List UInt8} (hn : l.Nodup) (x : UInt8) {i : Nat} (hi : i < l.length) :
    prodX (fun k => mul (x ^^^ co l k) (inv (co l i ^^^ co l k))) i l.length = wgt l x i := by
  rw [prodX_mul, prodX_inv (diff_ne hn hi)]; rfl
theorem wgt_same {l : List UInt8} (hn : l.Nodup) {i : Nat} (hi : i < l.length) : wgt l (co l i) i = 1 := mul_inv (under_ne hn hi)
theorem wgt_other {l : List UInt8} {i m : Nat} (hm : m < l.length) (he : m ≠ i) : wgt l (co l m) i = 0 := by
  unfold wgt over
  rw [prodX_zero he (by simp) _ hm, zero_mul]
/-- The sum of the values times the weights. -/
def tell (l : List UInt8) (v : Nat → UInt8) (x : UInt8) : UInt8 := sumX (fun i => mul (wgt l x i) (v i)) l.length
theorem sumX_zero {f : Nat → UInt8} : ∀ n, (∀ i, i < n → f i = 0) → sumX f n = 0
  | 0, _ => rfl
  | n + 1, h => by rw [sumX, sumX_zero n (fun i hi => h i (by omega)), h n (by omega)]; rfl
theorem sumX_one {f : Nat → UInt8} {m : Nat} : ∀ n, m < n → (∀ i, i < n → i ≠ m → f i = 0) → sumX f n = f m
  | 0, h, _ => absurd h (by omega)
  | n + 1, h, ho => by
    rw [sumX]
    by_cases e : n = m
    · subst e; rw [sumX_zero n (fun i hi => ho i (by omega) (by omega)), UInt8.zero_xor]
    · rw [sumX_one n (by omega) (fun i hi => ho i (by omega)), ho n (by omega) e, UInt8.xor_zero]
theorem tell_at {l : List UInt8} (hn : l.Nodup) (v : Nat → UInt8) {m : Nat} (hm : m < l.length) : tell l v (co l m) = v m := by
  unfold tell
  rw [sumX_one (m := m) l.length hm (fun i hi he => by rw [wgt_other hm (fun e => he e.symm), zero_mul]), wgt_same hn hm, one_mul]
/-- The polynomial of the factors above. -/
def overP (l : List UInt8) (i : Nat) : Nat → List UInt8
  | 0 => [1]
  | k + 1 => if k = i then overP l i k else mulP [co l k, 1] (overP l i k)
theorem val_overP (l : List UInt8) (i : Nat) (x : UInt8) : ∀ n, val (overP l i n) x = over l x i n
  | 0 => by rw [overP, over, prodX, val, val, mul_zero, UInt8.xor_zero]
  | n + 1 => by
    have ih := val_overP l i x n
    rw [overP, over, prodX]
    split
    · exact ih
    · rw [val_mulP, ih, val, val, val, mul_zero, UInt8.xor_zero, mul_one, mul_comm, UInt8.xor_comm]; rfl
theorem mulP_two (c d : UInt8) (q : List UInt8) (h : 1 ≤ q.length) : (mulP [c, d] q).length = q.length + 1 := by
  simp only [mulP, addP_length, List.length_map, List.length_cons, List.length_nil]
  omega
theorem overP_length (l : List UInt8) (i : Nat) : ∀ n, (overP l i n).length = if i < n then n else n + 1
  | 0 => by rw [overP]; simp
  | n + 1 => by
    have ih := overP_length l i n
    rw [overP]
    split
    · next e => subst e; rw [ih]; simp
    · next e =>
      rw [mulP_two _ _ _ (by rw [ih]; split <;> omega), ih]
      by_cases h : i < n
      · rw [if_pos h, if_pos (by omega)]
      · rw [if_neg h, if_neg (by omega)]
/-- The polynomial of some of the weights. -/
def tellP (l : List UInt8) (v : Nat → UInt8) : Nat → List UInt8
  | 0 => []
  | n + 1 => addP (tellP l v n) ((overP l n l.length).map (mul · (mul (inv (under l n l.length)) (v n))))
theorem val_tellP (l : List UInt8) (v : Nat → UInt8) (x : UInt8) : ∀ n, val (tellP l v n) x = sumX (fun i => mul (wgt l x i) (v i)) n
  | 0 => rfl
  | n + 1 => by
    rw [tellP, val_addP, val_tellP l v x n, val_scale, val_overP, sumX, ← mul_assoc]; rfl
theorem tellP_length (l : List UInt8) (v : Nat → UInt8) : ∀ n, n ≤ l.length → (tellP l v n).length ≤ l.length
  | 0, _ => Nat.zero_le _
  | n + 1, h => by
    have := tellP_length l v n (by omega)
    rw [tellP, addP_length, List.length_map, overP_length, if_pos (by omega)]
    omega
/-- WHAT THE WEIGHTS TELL IS THE VALUE OF A POLYNOMIAL THAT GOES THROUGH THE POINTS, if it has no more bytes than there are. -/
theorem tell_val {l p : List UInt8} (hn : l.Nodup) (hp : p.length ≤ l.length) (v : Nat → UInt8) (hv : ∀ i, i < l.length → val p (co l i) = v i) (x : UInt8) : tell l v x = val p x := by
  have h1 := val_tellP l v x l.length
  show sumX _ _ = _
  rw [← h1]
  refine val_same (agree hn (tellP_length l v l.length (Nat.le_refl _)) hp (fun r hr => ?_)) x
  obtain ⟨i, hi, rfl⟩ := List.mem_iff_getElem.1 hr
  have e : l[i] = co l i := by unfold co; rw [List.getD_eq_getElem?_getD, List.getElem?_eq_getElem hi]; rfl
  rw [e, hv i hi, val_tellP]
  exact tell_at hn v hi
/-- Just one goes through points. -/
theorem just_one {l p q : List UInt8} (hn : l.Nodup) (hp : p.length ≤ l.length) (hq : q.length ≤ l.length) (h : ∀ i, i < l.length → val p (co l i) = val q (co l i)) : trimL p = trimL q := by
  refine trimL_same (agree hn hp hq (fun r hr => ?_))
  obtain ⟨i, hi, rfl⟩ := List.mem_iff_getElem.1 hr
  have e : l[i] = co l i := by unfold co; rw [List.getD_eq_getElem?_getD, List.getElem?_eq_getElem hi]; rfl
  rw [e]; exact h i hi
/-- Weights add up to 1. -/
theorem wgts_one {l : List UInt8} (hn : l.Nodup) (h0 : 0 < l.length) (x : UInt8) : sumX (wgt l x) l.length = 1 := by
  have h := tell_val (p := [1]) hn h0 (fun _ => 1) (fun i _ => by simp [val, mul_zero]) x
  rw [show val [1] x = 1 by simp [val, mul_zero]] at h
  rw [← h]
  exact sumX_congr _ (fun i _ => (mul_one _).symm)
/-- The values of a product of x less each of the first places. -/
def nought (l : List UInt8) (x : UInt8) : Nat → UInt8
  | 0 => 1
  | k + 1 => mul (nought l x k) (x ^^^ co l k)
theorem nought_at {l : List UInt8} {j : Nat} : ∀ k, j < k → nought l (co l j) k = 0
  | 0, h => absurd h (by omega)
  | k + 1, h => by
    rw [nought]
    by_cases e : k = j
    · subst e; simp [mul_zero]
    · rw [nought_at k (by omega), zero_mul]
theorem nought_ne {l : List UInt8} (hn : l.Nodup) {i : Nat} (hi : i < l.length) : ∀ k, k ≤ i → nought l (co l i) k ≠ 0
  | 0, _ => by rw [nought]; decide
  | k + 1, h => by
    rw [nought]
    intro e
    rcases mul_eq_zero e with h1 | h1
    · exact nought_ne hn hi k (by omega) h1
    · exact diff_ne hn hi k (by omega) (by omega) h1
end Gf
end Go.Proofs.YtefpfedpgedloaaDoor
