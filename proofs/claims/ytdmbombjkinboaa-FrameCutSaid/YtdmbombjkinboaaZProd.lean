/- crc.product, crc.Zeros, crc.Combine. -/
import Derived.Test.YtdmbombjkinboaaZStep
import Derived.Deep.LoopGhost
import Derived.ScopeJumps
namespace Go.Proofs.Ytdmbombjkinboaa
open Go.RowKit
attribute [local go_sem] V_xor V_and V_or V_not V_not' V_and1 V_xorT V_div2 V_div16 V_and15 V_andH

theorem V_shl1 (x : BitVec 32) : IntKind.u32.wrap (V x * 2) = V (x <<< 1) := V_shl x 1
theorem V_shl1' (x : BitVec 32) : V x * 2 % 4294967296 = V (x <<< 1) := V_shl' x 1
attribute [local go_sem] V_shl1 V_shl1'
theorem and_H_ne (x : BitVec 32) (h : x.getLsbD 31 = true) : V (x &&& Zc.H) ≠ 0 := by
  intro e
  have : x &&& Zc.H = 0#32 := V_inj (y := 0#32) e
  have := congrArg (fun y => y.getLsbD 31) this
  rw [BitVec.getLsbD_and, h, BitVec.getLsbD_zero] at this
  exact absurd this (by decide)
theorem and_H_eq (x : BitVec 32) (h : x.getLsbD 31 = false) : x &&& Zc.H = 0#32 := by
  apply BitVec.eq_of_getLsbD_eq
  intro i hi
  rw [BitVec.getLsbD_and, BitVec.getLsbD_zero]
  by_cases e : i = 31
  · subst e; rw [h]; rfl
  · have : ∀ i, i < 32 → i ≠ 31 → Zc.H.getLsbD i = false := by decide
    rw [this i hi e, Bool.and_false]
theorem V_zero0 : V 0#32 = 0 := rfl
theorem V_pos_ne {x : BitVec 32} (h : x ≠ 0#32) : V x ≠ 0 := fun e => h (V_inj (y := 0#32) e)

/-- What holds wherever the run jumps back: m of the number is left; the register, behind as many bits 0 as the power has, m times, is the one that is asked for. -/
def ZJ (r : BitVec 32) (G : BitVec 32) (w : World) (a : Act) (w' : World) : Prop :=
  ∃ (m k : Nat) (q : BitVec 32) (u7 u8 u9 u10 u11 u12 u13 u14 u15 u16 u17 u18 u19 u20 u21 u22 u23 u24 u25 u26 u27 : Value), a = { tmps := #[.int .u32 (V r), .int .i64 (m : Int), undef, undef, .int .u32 0, .int .u32 (V q), .int .u32 (V (Zc.Sn k Zc.H)), u7, u8, u9, u10, u11, u12, u13, u14, u15, u16, u17, u18, u19, u20, u21, u22, u23, u24, u25, u26, u27], defers := [] } ∧ 0 < m ∧ m ≤ 9223372036854775807 ∧ Zc.Sn (k * m) q = G ∧ w = w'
theorem zj_even {m k : Nat} {q G : BitVec 32} (h : Zc.Sn (k * m) q = G) (hm : m % 2 = 0) : Zc.Sn ((k + k) * (m / 2)) q = G := by
  rw [← h]; congr 1
  rw [← Nat.two_mul, Nat.mul_comm 2 k, Nat.mul_assoc, show 2 * (m / 2) = m by omega]
theorem zj_odd {m k : Nat} {q G : BitVec 32} (h : Zc.Sn (k * m) q = G) (hm : m % 2 = 1) : Zc.Sn ((k + k) * (m / 2)) (Zc.Sn k q) = G := by
  rw [← h, ← Zc.Sn_add]; congr 1
  rw [← Nat.two_mul, Nat.mul_comm 2 k, Nat.mul_assoc]
  have : k * m = k * (2 * (m / 2) + 1) := by congr 1; omega
  rw [this, Nat.mul_add, Nat.mul_one]

theorem i64_and1 (n : Int) : bits .and .i64 n 1 = n % 2 := by
  have h1 : (BitVec.ofInt 64 1).toNat = 2 ^ 1 - 1 := by decide
  have key : (BitVec.ofInt 64 n &&& BitVec.ofInt 64 1).toNat = (n % ((2 ^ 64 : Nat) : Int)).toNat % 2 ^ 1 := by
    rw [BitVec.toNat_and, BitVec.toNat_ofInt, h1, Nat.and_two_pow_sub_one_eq_mod]
  show IntKind.i64.wrap ((BitVec.ofInt 64 n &&& BitVec.ofInt 64 1).toNat : Nat) = n % 2
  rw [key, IntKind.wrap_i64]
  omega
theorem zj_done {m k : Nat} {q G : BitVec 32} (h : Zc.Sn (k * m) q = G) (hm : m % 2 = 1) (h2 : m / 2 = 0) : Zc.Sn k q = G := by
  rw [← h]; congr 1; rw [show m = 1 by omega, Nat.mul_one]

theorem zb8 (k : Nat) (hk : k = 8) (w : World) :
    Calls Try.prog 33 #[.int .u32 2147483648, .int .i64 8] w fun e w' => e = .returned (.int .u32 (V (Zc.Sn k Zc.H))) ∧ w = w' := by
  subst hk; exact zeroBits_any Zc.H 8 (by decide) w

end Go.Proofs.Ytdmbombjkinboaa
