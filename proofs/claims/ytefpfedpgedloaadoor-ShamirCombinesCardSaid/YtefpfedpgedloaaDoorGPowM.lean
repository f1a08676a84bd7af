/- Plain mathematics of gf: powers, the inverse as a power, the powers of 3 and the logs. No program. -/
import Derived.Test.YtefpfedpgedloaaDoorGPoly
namespace Go.Proofs.YtefpfedpgedloaaDoor
open Go.RowKit
namespace Gf

theorem pow_add (x : UInt8) (m : Nat) : ∀ n, pow x (m + n) = mul (pow x m) (pow x n)
  | 0 => by rw [Nat.add_zero, pow, mul_one]
  | n + 1 => by rw [← Nat.add_assoc, pow, pow_add x m n, pow, mul_assoc]
theorem pow_one (x : UInt8) : pow x 1 = x := by rw [pow, pow, one_mul]
theorem one_pow : ∀ n, pow 1 n = 1
  | 0 => rfl
  | n + 1 => by rw [pow, one_pow n, mul_one]
theorem pow_mul (x : UInt8) (m : Nat) : ∀ n, pow x (m * n) = pow (pow x m) n
  | 0 => rfl
  | n + 1 => by rw [Nat.mul_add, Nat.mul_one, pow_add, pow_mul x m n, pow]
theorem pow_sq (x : UInt8) (n : Nat) : pow (mul x x) n = pow x (2 * n) := by
  rw [pow_mul]; congr 1
  rw [show 2 = 1 + 1 from rfl, pow_add, pow_one]
def sq (a : Nat) : Nat := gN a a
def cycle (a : Nat) : Bool :=
  Nat.rec (motive := fun _ => Bool) true (fun _ _ =>
    gN a (gN (sq a) (gN (sq (sq a)) (gN (sq (sq (sq a))) (gN (sq (sq (sq (sq a)))) (gN (sq (sq (sq (sq (sq a))))) (gN (sq (sq (sq (sq (sq (sq a)))))) (sq (sq (sq (sq (sq (sq (sq a))))))))))))) == 1) a
theorem t_cycle : (List.range 256).all cycle = true := by decide +kernel
theorem pow_255 {a : UInt8} (h : a ≠ 0) : pow a 255 = 1 := by
  have h0 : a.toNat ≠ 0 := fun e => h (UInt8.toNat_inj.1 (by simpa using e))
  have h1 := List.all_eq_true.1 t_cycle a.toNat (List.mem_range.2 a.toNat_lt)
  unfold cycle at h1
  obtain ⟨n, hn⟩ : ∃ n, a.toNat = n + 1 := ⟨a.toNat - 1, by omega⟩
  have h2 : gN a.toNat (gN (sq a.toNat) (gN (sq (sq a.toNat)) (gN (sq (sq (sq a.toNat))) (gN (sq (sq (sq (sq a.toNat)))) (gN (sq (sq (sq (sq (sq a.toNat))))) (gN (sq (sq (sq (sq (sq (sq a.toNat)))))) (sq (sq (sq (sq (sq (sq (sq a.toNat))))))))))))) = 1 := by
    rw [hn] at h1 ⊢; exact eq_of_beq h1
  have e : ∀ b : UInt8, sq b.toNat = (pow b 2).toNat := fun b => by
    rw [show 2 = 1 + 1 from rfl, pow_add, pow_one, mul_nat]; rfl
  rw [e, e, e, e, e, e, e, ← mul_nat, ← mul_nat, ← mul_nat, ← mul_nat, ← mul_nat, ← mul_nat, ← mul_nat] at h2
  simp only [← pow_mul] at h2
  have h3 := UInt8.toNat_inj.1 (show _ = (1 : UInt8).toNat from h2)
  have h4 : pow a 255 = mul (pow a 1) (mul (pow a 2) (mul (pow a 4) (mul (pow a 8) (mul (pow a 16) (mul (pow a 32) (mul (pow a 64) (pow a 128))))))) := by
    rw [← pow_add, ← pow_add, ← pow_add, ← pow_add, ← pow_add, ← pow_add, ← pow_add]
  rw [h4, pow_one]
  exact h3
theorem pow_mod {a : UInt8} (h : a ≠ 0) (n : Nat) : pow a (n % 255) = pow a n := by
  conv => rhs; rw [← Nat.div_add_mod n 255, pow_add, pow_mul, pow_255 h, one_pow, one_mul]
theorem inv_pow {a : UInt8} (h : a ≠ 0) : pow a 254 = inv a := by
  apply inv_only
  have := pow_255 h
  rwa [show 255 = 1 + 254 from rfl, pow_add, pow_one] at this
theorem zero_pow (n : Nat) (h : 0 < n) : pow 0 n = 0 := by
  obtain ⟨m, rfl⟩ : ∃ m, n = m + 1 := ⟨n - 1, by omega⟩
  rw [pow, mul_zero]
/-- Any power. -/
def gpow (a : UInt8) (n : Int) : UInt8 := if a = 0 then (if n = 0 then 1 else 0) else pow a (n % 255).toNat
def gerr (a : UInt8) (n : Int) : Int := if a = 0 ∧ n < 0 then 1 else 0
/-- The inverse; of 0: 0. -/
def invz (a : UInt8) : UInt8 := if a = 0 then 0 else inv a
def ierr (a : UInt8) : Int := if a = 0 then 1 else 0
theorem gpow_inv (a : UInt8) : gpow a (-1) = invz a := by
  unfold gpow invz
  split
  · rfl
  · next h => rw [← inv_pow h]; rfl
theorem gerr_inv (a : UInt8) : gerr a (-1) = ierr a := by
  unfold gerr ierr
  by_cases h : a = 0
  · rw [if_pos ⟨h, by decide⟩, if_pos h]
  · rw [if_neg (fun x => h x.1), if_neg h]
theorem gpow_nat (a : UInt8) (n : Nat) : gpow a n = pow a n := by
  unfold gpow
  split
  · next h =>
    subst h
    by_cases h0 : n = 0
    · subst h0; rfl
    · rw [if_neg (by omega), zero_pow n (by omega)]
  · next h => rw [← pow_mod h n]; congr 1
theorem gpow_neg {a : UInt8} (h : a ≠ 0) (n : Nat) : gpow a (-(n : Int)) = pow (inv a) n := by
  unfold gpow
  rw [if_neg h, ← inv_pow h, ← pow_mul, ← pow_mod h (254 * n)]
  congr 1
  omega
theorem gpow_zero_neg (n : Int) (h : n < 0) : gpow 0 n = 0 := by
  unfold gpow; rw [if_pos rfl, if_neg (by omega)]
theorem gpow_zero_pos (n : Int) (h : 0 < n) : gpow 0 n = 0 := by
  unfold gpow; rw [if_pos rfl, if_neg (by omega)]
theorem gpow_mod {a : UInt8} (h : a ≠ 0) {n m : Int} (he : n % 255 = m % 255) : gpow a n = gpow a m := by
  unfold gpow; rw [if_neg h, if_neg h, he]
/-- The powers of 3. -/
theorem eTab_at {i : Nat} (h : i < 255) : eTab.getD i 0 < 256 ∧ eTab.getD i 0 ≠ 0 ∧ lTab.getD (eTab.getD i 0) 0 = i := by
  have := List.all_eq_true.1 t_exp i (List.mem_range.2 h)
  simp only [Bool.and_eq_true, decide_eq_true_eq, bne_iff_ne, beq_iff_eq] at this
  exact ⟨this.1.1, this.1.2, this.2⟩
theorem t_next : (List.range 254).all (fun i => gN (eTab.getD i 0) 3 == eTab.getD (i + 1) 0) = true := by decide +kernel
theorem pow3 : ∀ n, n < 255 → (pow 3 n).toNat = eTab.getD n 0
  | 0, _ => rfl
  | n + 1, h => by
    rw [pow, mul_nat, pow3 n (by omega)]
    exact eq_of_beq (List.all_eq_true.1 t_next n (List.mem_range.2 (by omega)))
/-- The log. -/
def logN (a : UInt8) : Nat := lTab.getD a.toNat 0
theorem lTab_at {a : Nat} (h : a < 255) : lTab.getD (a + 1) 0 < 255 ∧ eTab.getD (lTab.getD (a + 1) 0) 0 = a + 1 := by
  have := List.all_eq_true.1 t_log a (List.mem_range.2 h)
  simp only [Bool.and_eq_true, decide_eq_true_eq, beq_iff_eq] at this
  exact this
theorem nat_ne {a : UInt8} (h : a ≠ 0) : ∃ n, a.toNat = n + 1 ∧ n < 255 := by
  have h0 : a.toNat ≠ 0 := fun e => h (UInt8.toNat_inj.1 (by simpa using e))
  have := a.toNat_lt
  exact ⟨a.toNat - 1, by omega, by omega⟩
theorem logN_lt {a : UInt8} (h : a ≠ 0) : logN a < 255 := by
  obtain ⟨n, hn, hl⟩ := nat_ne h
  unfold logN; rw [hn]; exact (lTab_at hl).1
theorem pow_logN {a : UInt8} (h : a ≠ 0) : pow 3 (logN a) = a := by
  apply UInt8.toNat_inj.1
  rw [pow3 _ (logN_lt h)]
  obtain ⟨n, hn, hl⟩ := nat_ne h
  unfold logN; rw [hn]; exact (lTab_at hl).2
theorem logN_pow {n : Nat} (h : n < 255) : logN (pow 3 n) = n := by
  unfold logN
  rw [pow3 n h]; exact (eTab_at h).2.2
theorem pow3_ne (n : Nat) : pow 3 n ≠ 0 := by
  rw [← pow_mod (by decide) n]
  intro e
  have := pow3 (n % 255) (Nat.mod_lt _ (by decide))
  rw [e] at this
  exact (eTab_at (Nat.mod_lt n (by decide))).2.1 this.symm
theorem pow3_inj {m n : Nat} (hm : m < 255) (hn : n < 255) (h : pow 3 m = pow 3 n) : m = n := by
  rw [← logN_pow hm, ← logN_pow hn, h]
end Gf
end Go.Proofs.YtefpfedpgedloaaDoor
