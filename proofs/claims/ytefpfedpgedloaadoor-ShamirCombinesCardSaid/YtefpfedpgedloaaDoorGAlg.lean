/- Plain mathematics of gf: the laws of a field, of bytes. No program. -/
import Derived.Test.YtefpfedpgedloaaDoorGMath
namespace Go.Proofs.YtefpfedpgedloaaDoor
open Go.RowKit
namespace Gf

theorem lt_xor {a b : Nat} (ha : a < 256) (hb : b < 256) : a ^^^ b < 256 := Nat.xor_lt_two_pow (n := 8) ha hb
theorem gN_lt {a b : Nat} (ha : a < 256) (hb : b < 256) : gN a b < 256 := of_decide_eq_true (table_at t_lt a b ha hb)
theorem gN_comm {a b : Nat} (ha : a < 256) (hb : b < 256) : gN a b = gN b a := eq_of_beq (table_at t_comm a b ha hb)
theorem xt_xor {a b : Nat} (ha : a < 256) (hb : b < 256) : xt (a ^^^ b) = xt a ^^^ xt b := eq_of_beq (table_at t_xt a b ha hb)
theorem xt_eq {a : Nat} : xt a = gN a 2 := by
  unfold gN
  simp [sel, Nat.testBit]
theorem xt_lt {a : Nat} (ha : a < 256) : xt a < 256 := by rw [xt_eq]; exact gN_lt ha (by decide)
theorem sel_lt {p : Bool} {m : Nat} (h : m < 256) : sel p m < 256 := by cases p <;> simp [sel, h]
theorem xt_sel (p : Bool) (m : Nat) : xt (sel p m) = sel p (xt m) := by cases p <;> simp [sel, xt]
theorem zero_gN {b : Nat} (hb : b < 256) : gN 0 b = 0 := by rw [gN_comm (by decide) hb, gN_zero]
theorem gN_xorL {a c b : Nat} (ha : a < 256) (hc : c < 256) (hb : b < 256) : gN (a ^^^ c) b = gN a b ^^^ gN c b := by
  rw [gN_comm (lt_xor ha hc) hb, gN_xor, gN_comm hb ha, gN_comm hb hc]
theorem gN_sel {p : Bool} {m b : Nat} (hb : b < 256) : gN (sel p m) b = sel p (gN m b) := by
  cases p with
  | true => rfl
  | false => exact zero_gN hb
/-- Times x goes through a product. -/
theorem xt_gN {a b : Nat} (ha : a < 256) : xt (gN a b) = gN (xt a) b := by
  have h1 := xt_lt ha
  have h2 := xt_lt h1
  have h3 := xt_lt h2
  have h4 := xt_lt h3
  have h5 := xt_lt h4
  have h6 := xt_lt h5
  have h7 := xt_lt h6
  unfold gN
  rw [xt_xor (lt_xor (lt_xor (lt_xor (lt_xor (lt_xor (lt_xor (sel_lt ha) (sel_lt h1)) (sel_lt h2)) (sel_lt h3)) (sel_lt h4)) (sel_lt h5)) (sel_lt h6)) (sel_lt h7),
    xt_xor (lt_xor (lt_xor (lt_xor (lt_xor (lt_xor (sel_lt ha) (sel_lt h1)) (sel_lt h2)) (sel_lt h3)) (sel_lt h4)) (sel_lt h5)) (sel_lt h6),
    xt_xor (lt_xor (lt_xor (lt_xor (lt_xor (sel_lt ha) (sel_lt h1)) (sel_lt h2)) (sel_lt h3)) (sel_lt h4)) (sel_lt h5),
    xt_xor (lt_xor (lt_xor (lt_xor (sel_lt ha) (sel_lt h1)) (sel_lt h2)) (sel_lt h3)) (sel_lt h4),
    xt_xor (lt_xor (lt_xor (sel_lt ha) (sel_lt h1)) (sel_lt h2)) (sel_lt h3),
    xt_xor (lt_xor (sel_lt ha) (sel_lt h1)) (sel_lt h2), xt_xor (sel_lt ha) (sel_lt h1)]
  simp only [xt_sel]
/-- Two factors may change their places. -/
theorem gN_swap {a b c : Nat} (ha : a < 256) (hb : b < 256) (_ : c < 256) : gN (gN a b) c = gN (gN a c) b := by
  have h1 := xt_lt ha
  have h2 := xt_lt h1
  have h3 := xt_lt h2
  have h4 := xt_lt h3
  have h5 := xt_lt h4
  have h6 := xt_lt h5
  have h7 := xt_lt h6
  have e1 := xt_gN (b := b) ha
  have e2 := xt_gN (b := b) h1
  have e3 := xt_gN (b := b) h2
  have e4 := xt_gN (b := b) h3
  have e5 := xt_gN (b := b) h4
  have e6 := xt_gN (b := b) h5
  have e7 := xt_gN (b := b) h6
  have l : ∀ x, gN x c = sel (c.testBit 0) x ^^^ sel (c.testBit 1) (xt x) ^^^ sel (c.testBit 2) (xt (xt x)) ^^^ sel (c.testBit 3) (xt (xt (xt x))) ^^^ sel (c.testBit 4) (xt (xt (xt (xt x)))) ^^^ sel (c.testBit 5) (xt (xt (xt (xt (xt x))))) ^^^ sel (c.testBit 6) (xt (xt (xt (xt (xt (xt x)))))) ^^^ sel (c.testBit 7) (xt (xt (xt (xt (xt (xt (xt x))))))) := fun x => rfl
  rw [l (gN a b), l a, e1, e2, e3, e4, e5, e6, e7]
  rw [gN_xorL (lt_xor (lt_xor (lt_xor (lt_xor (lt_xor (lt_xor (sel_lt ha) (sel_lt h1)) (sel_lt h2)) (sel_lt h3)) (sel_lt h4)) (sel_lt h5)) (sel_lt h6)) (sel_lt h7) hb,
    gN_xorL (lt_xor (lt_xor (lt_xor (lt_xor (lt_xor (sel_lt ha) (sel_lt h1)) (sel_lt h2)) (sel_lt h3)) (sel_lt h4)) (sel_lt h5)) (sel_lt h6) hb,
    gN_xorL (lt_xor (lt_xor (lt_xor (lt_xor (sel_lt ha) (sel_lt h1)) (sel_lt h2)) (sel_lt h3)) (sel_lt h4)) (sel_lt h5) hb,
    gN_xorL (lt_xor (lt_xor (lt_xor (sel_lt ha) (sel_lt h1)) (sel_lt h2)) (sel_lt h3)) (sel_lt h4) hb,
    gN_xorL (lt_xor (lt_xor (sel_lt ha) (sel_lt h1)) (sel_lt h2)) (sel_lt h3) hb,
    gN_xorL (lt_xor (sel_lt ha) (sel_lt h1)) (sel_lt h2) hb, gN_xorL (sel_lt ha) (sel_lt h1) hb]
  simp only [gN_sel hb]
theorem gN_assoc {a b c : Nat} (ha : a < 256) (hb : b < 256) (hc : c < 256) : gN (gN a b) c = gN a (gN b c) := by
  rw [gN_comm ha hb, gN_swap hb ha hc, gN_comm ha (gN_lt hb hc)]
theorem gN_one {a : Nat} (ha : a < 256) : gN a 1 = a := eq_of_beq (List.all_eq_true.1 t_one a (List.mem_range.2 ha))
/-- The inverse. -/
def invN (a : Nat) : Nat := eTab.getD ((255 - lTab.getD a 0) % 255) 0
theorem gN_inv {a : Nat} (ha : a < 256) (h0 : a ≠ 0) : gN a (invN a) = 1 := by
  have := List.all_eq_true.1 t_giv (a - 1) (List.mem_range.2 (by omega))
  rw [show a - 1 + 1 = a by omega] at this
  exact eq_of_beq this
theorem eTab_len : eTab.length = 255 := by decide +kernel
theorem eTab_lt (i : Nat) : eTab.getD i 0 < 256 := by
  by_cases h : i < 255
  · have := List.all_eq_true.1 t_exp i (List.mem_range.2 h)
    simp only [Bool.and_eq_true, decide_eq_true_eq] at this
    exact this.1.1
  · rw [List.getD_eq_getElem?_getD, List.getElem?_eq_none (by rw [eTab_len]; omega)]
    decide

/-! ### Of bytes -/
/-- The product. -/
def mul (a b : UInt8) : UInt8 := UInt8.ofNat (gN a.toNat b.toNat)
/-- The inverse. -/
def inv (a : UInt8) : UInt8 := UInt8.ofNat (invN a.toNat)
theorem mul_nat (a b : UInt8) : (mul a b).toNat = gN a.toNat b.toNat := by
  unfold mul; rw [UInt8.toNat_ofNat', Nat.mod_eq_of_lt (gN_lt a.toNat_lt b.toNat_lt)]
theorem inv_nat (a : UInt8) : (inv a).toNat = invN a.toNat := by
  unfold inv; rw [UInt8.toNat_ofNat', Nat.mod_eq_of_lt (show invN a.toNat < 2 ^ 8 from eTab_lt _)]
theorem mul_comm (a b : UInt8) : mul a b = mul b a := by
  apply UInt8.toNat_inj.1; rw [mul_nat, mul_nat, gN_comm a.toNat_lt b.toNat_lt]
theorem mul_assoc (a b c : UInt8) : mul (mul a b) c = mul a (mul b c) := by
  apply UInt8.toNat_inj.1; rw [mul_nat, mul_nat, mul_nat, mul_nat, gN_assoc a.toNat_lt b.toNat_lt c.toNat_lt]
theorem mul_add (a b c : UInt8) : mul a (b ^^^ c) = mul a b ^^^ mul a c := by
  apply UInt8.toNat_inj.1; rw [UInt8.toNat_xor, mul_nat, mul_nat, mul_nat, UInt8.toNat_xor, gN_xor]
theorem add_mul (a b c : UInt8) : mul (a ^^^ b) c = mul a c ^^^ mul b c := by rw [mul_comm, mul_add, mul_comm c a, mul_comm c b]
theorem mul_one (a : UInt8) : mul a 1 = a := by
  apply UInt8.toNat_inj.1; rw [mul_nat]; exact gN_one a.toNat_lt
theorem one_mul (a : UInt8) : mul 1 a = a := by rw [mul_comm, mul_one]
theorem mul_zero (a : UInt8) : mul a 0 = 0 := by
  apply UInt8.toNat_inj.1; rw [mul_nat]; exact gN_zero _
theorem zero_mul (a : UInt8) : mul 0 a = 0 := by rw [mul_comm, mul_zero]
theorem mul_inv {a : UInt8} (h : a ≠ 0) : mul a (inv a) = 1 := by
  apply UInt8.toNat_inj.1
  rw [mul_nat, inv_nat]
  exact gN_inv a.toNat_lt (fun e => h (UInt8.toNat_inj.1 (by simpa using e)))
/-- No product of others is 0. -/
theorem mul_eq_zero {a b : UInt8} (h : mul a b = 0) : a = 0 ∨ b = 0 := by
  by_cases ha : a = 0
  · exact .inl ha
  · right
    have := congrArg (mul (inv a)) h
    rwa [← mul_assoc, mul_comm (inv a) a, mul_inv ha, one_mul, mul_zero] at this
/-- Whose product with it is 1 is the inverse. -/
theorem inv_only {a b : UInt8} (h : mul a b = 1) : b = inv a := by
  have ha : a ≠ 0 := fun e => by rw [e, zero_mul] at h; exact absurd h (by decide)
  have := congrArg (mul (inv a)) h
  rwa [← mul_assoc, mul_comm (inv a) a, mul_inv ha, one_mul, mul_one] at this
end Gf
end Go.Proofs.YtefpfedpgedloaaDoor
