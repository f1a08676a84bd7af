/- Merged by program: Plain mathematics of gf: the field of 256 bytes. No program. | Plain mathematics of gf: the laws of a field, of bytes. No program. | Plain: the product bit by bit, and its rest step by step, is the field's. No program. -/
import Derived.WalkKit
namespace Go.Proofs.YtefpfedpgedloaaGreatDoor
open Go.RowKit
namespace Gf

/-- Times x. -/
def xt (a : Nat) : Nat := if a < 128 then 2 * a else (2 * a) ^^^ 283
def sel (p : Bool) (m : Nat) : Nat := if p then m else 0
/-- The product, bit by bit of the second one. -/
def gN (a b : Nat) : Nat :=
  sel (b.testBit 0) a ^^^ sel (b.testBit 1) (xt a) ^^^ sel (b.testBit 2) (xt (xt a)) ^^^ sel (b.testBit 3) (xt (xt (xt a))) ^^^
  sel (b.testBit 4) (xt (xt (xt (xt a)))) ^^^ sel (b.testBit 5) (xt (xt (xt (xt (xt a))))) ^^^ sel (b.testBit 6) (xt (xt (xt (xt (xt (xt a)))))) ^^^ sel (b.testBit 7) (xt (xt (xt (xt (xt (xt (xt a)))))))
theorem sel_xor (p q : Bool) (m : Nat) : sel (p ^^ q) m = sel p m ^^^ sel q m := by
  cases p <;> cases q <;> simp [sel]
theorem gN_xor (a b c : Nat) : gN a (b ^^^ c) = gN a b ^^^ gN a c := by
  unfold gN
  simp only [Nat.testBit_xor, sel_xor]
  ac_rfl
theorem gN_zero (a : Nat) : gN a 0 = 0 := by unfold gN; simp [sel]
/-- The product as polynomials, and then its rest by 11b, step by step. -/
def up (a b : Nat) : Nat → Nat
  | 0 => 0
  | i + 1 => if b / 2 ^ i % 2 = 1 then up a b i ^^^ (a * 2 ^ i) else up a b i
def dstep (q k : Nat) : Nat := if q / 2 ^ (14 - k) % 2 = 1 then q ^^^ (283 * 2 ^ (6 - k)) else q
def down (p : Nat) : Nat → Nat
  | 0 => p
  | k + 1 => dstep (down p k) k
def rMul (a b : Nat) : Nat := down (up a b 8) 7 % 256
/-- The powers of 3, and the logs. -/
def eTab : List Nat := [1, 3, 5, 15, 17, 51, 85, 255, 26, 46, 114, 150, 161, 248, 19, 53, 95, 225, 56, 72, 216, 115, 149, 164, 247, 2, 6, 10, 30, 34, 102, 170, 229, 52, 92, 228, 55, 89, 235, 38, 106, 190, 217, 112, 144, 171, 230, 49, 83, 245, 4, 12, 20, 60, 68, 204, 79, 209, 104, 184, 211, 110, 178, 205, 76, 212, 103, 169, 224, 59, 77, 215, 98, 166, 241, 8, 24, 40, 120, 136, 131, 158, 185, 208, 107, 189, 220, 127, 129, 152, 179, 206, 73, 219, 118, 154, 181, 196, 87, 249, 16, 48, 80, 240, 11, 29, 39, 105, 187, 214, 97, 163, 254, 25, 43, 125, 135, 146, 173, 236, 47, 113, 147, 174, 233, 32, 96, 160, 251, 22, 58, 78, 210, 109, 183, 194, 93, 231, 50, 86, 250, 21, 63, 65, 195, 94, 226, 61, 71, 201, 64, 192, 91, 237, 44, 116, 156, 191, 218, 117, 159, 186, 213, 100, 172, 239, 42, 126, 130, 157, 188, 223, 122, 142, 137, 128, 155, 182, 193, 88, 232, 35, 101, 175, 234, 37, 111, 177, 200, 67, 197, 84, 252, 31, 33, 99, 165, 244, 7, 9, 27, 45, 119, 153, 176, 203, 70, 202, 69, 207, 74, 222, 121, 139, 134, 145, 168, 227, 62, 66, 198, 81, 243, 14, 18, 54, 90, 238, 41, 123, 141, 140, 143, 138, 133, 148, 167, 242, 13, 23, 57, 75, 221, 124, 132, 151, 162, 253, 28, 36, 108, 180, 199, 82, 246]
def lTab : List Nat := [0, 0, 25, 1, 50, 2, 26, 198, 75, 199, 27, 104, 51, 238, 223, 3, 100, 4, 224, 14, 52, 141, 129, 239, 76, 113, 8, 200, 248, 105, 28, 193, 125, 194, 29, 181, 249, 185, 39, 106, 77, 228, 166, 114, 154, 201, 9, 120, 101, 47, 138, 5, 33, 15, 225, 36, 18, 240, 130, 69, 53, 147, 218, 142, 150, 143, 219, 189, 54, 208, 206, 148, 19, 92, 210, 241, 64, 70, 131, 56, 102, 221, 253, 48, 191, 6, 139, 98, 179, 37, 226, 152, 34, 136, 145, 16, 126, 110, 72, 195, 163, 182, 30, 66, 58, 107, 40, 84, 250, 133, 61, 186, 43, 121, 10, 21, 155, 159, 94, 202, 78, 212, 172, 229, 243, 115, 167, 87, 175, 88, 168, 80, 244, 234, 214, 116, 79, 174, 233, 213, 231, 230, 173, 232, 44, 215, 117, 122, 235, 22, 11, 245, 89, 203, 95, 176, 156, 169, 81, 160, 127, 12, 246, 111, 23, 196, 73, 236, 216, 67, 31, 45, 164, 118, 123, 183, 204, 187, 62, 90, 251, 96, 177, 134, 59, 82, 161, 108, 170, 85, 41, 157, 151, 178, 135, 144, 97, 190, 220, 252, 188, 149, 207, 205, 55, 63, 91, 209, 83, 57, 132, 60, 65, 162, 109, 71, 20, 42, 158, 93, 86, 242, 211, 171, 68, 17, 146, 217, 35, 32, 46, 137, 180, 124, 184, 38, 119, 153, 227, 165, 103, 74, 237, 222, 197, 49, 254, 24, 13, 99, 140, 128, 192, 247, 112, 7]
def table (f : Nat → Nat → Bool) : Bool := (List.range 256).all fun a => (List.range 256).all fun b => f a b
theorem table_at {f : Nat → Nat → Bool} (h : table f = true) (a b : Nat) (ha : a < 256) (hb : b < 256) : f a b = true := by
  have h1 := List.all_eq_true.1 h a (List.mem_range.2 ha)
  exact List.all_eq_true.1 h1 b (List.mem_range.2 hb)
theorem t_comm : table (fun a b => gN a b == gN b a) = true := by decide +kernel
theorem t_xt : table (fun a b => xt (a ^^^ b) == xt a ^^^ xt b) = true := by decide +kernel
theorem t_lt : table (fun a b => decide (gN a b < 256)) = true := by decide +kernel
/-- Each is three times the one ahead. -/
def chain : List Nat → Bool
  | a :: b :: l => gN a 3 == b && chain (b :: l)
  | _ => true
theorem t_chain : chain eTab = true := by decide +kernel
theorem t_last : gN (eTab.getD 254 0) 3 = 1 := by decide +kernel
theorem t_log : (List.range 255).all (fun a => decide (lTab.getD (a + 1) 0 < 255) && eTab.getD (lTab.getD (a + 1) 0) 0 == a + 1) = true := by decide +kernel
theorem t_exp : (List.range 255).all (fun i => decide (eTab.getD i 0 < 256) && eTab.getD i 0 != 0 && lTab.getD (eTab.getD i 0) 0 == i) = true := by decide +kernel
theorem t_giv : (List.range 255).all (fun a => gN (a + 1) (eTab.getD ((255 - lTab.getD (a + 1) 0) % 255) 0) == 1) = true := by decide +kernel
theorem t_one : (List.range 256).all (fun a => gN a 1 == a) = true := by decide +kernel
end Gf
end Go.Proofs.YtefpfedpgedloaaGreatDoor
namespace Go.Proofs.YtefpfedpgedloaaGreatDoor
open Go.RowKit
namespace Gf

theorem lt_xor {a b : Nat} (ha : a < 256) (hb : b < 256) : a ^^^ b < 256 := Nat.xor_lt_two_pow (n := 8) ha hb
theorem gN_lt {a b : Nat} (ha : a < 256) (hb : b < 256) : gN a b < 256 := of_decide_eq_true (table_at t_lt a b ha hb)
theorem gN_comm {a b : Nat} (ha : a < 256) (hb : b < 256) : gN a b = gN b a := eq_of_beq (table_at t_comm a b ha hb)
theorem xt_xor {a b : Nat} (ha : a < 256) (hb : b < 256) : xt (a ^^^ b) = xt a ^^^ xt b := eq_of_beq (table_at t_xt a b ha hb)
theorem xt_eq {a : Nat} : xt a = gN a 2 := by
  unfold gN
  simp [sel, Nat.testBit]
theorem xt_lt {a : Nat} (ha : a < 256) : xt a < 256 := by rw [xt_eq]; exact gN_lt ha (by decide)
theorem sel_lt {p : Bool} {m : Nat} (h : m < 256) : sel p m < 256 := by cases p <;> simp [sel, h]
theorem xt_sel (p : Bool) (m : Nat) : xt (sel p m) = sel p (xt m) := by cases p <;> simp [sel, xt]
theorem zero_gN {b : Nat} (hb : b < 256) : gN 0 b = 0 := by rw [gN_comm (by decide) hb, gN_zero]
theorem gN_xorL {a c b : Nat} (ha : a < 256) (hc : c < 256) (hb : b < 256) : gN (a ^^^ c) b = gN a b ^^^ gN c b := by
  rw [gN_comm (lt_xor ha hc) hb, gN_xor, gN_comm hb ha, gN_comm hb hc]
theorem gN_sel {p : Bool} {m b : Nat} (hb : b < 256) : gN (sel p m) b = sel p (gN m b) := by
  cases p with
  | true => rfl
  | false => exact zero_gN hb
/-- Times x goes through a product. -/
theorem xt_gN {a b : Nat} (ha : a < 256) : xt (gN a b) = gN (xt a) b := by
  have h1 := xt_lt ha
  have h2 := xt_lt h1
  have h3 := xt_lt h2
  have h4 := xt_lt h3
  have h5 := xt_lt h4
  have h6 := xt_lt h5
  have h7 := xt_lt h6
  unfold gN
  rw [xt_xor (lt_xor (lt_xor (lt_xor (lt_xor (lt_xor (lt_xor (sel_lt ha) (sel_lt h1)) (sel_lt h2)) (sel_lt h3)) (sel_lt h4)) (sel_lt h5)) (sel_lt h6)) (sel_lt h7),
    xt_xor (lt_xor (lt_xor (lt_xor (lt_xor (lt_xor (sel_lt ha) (sel_lt h1)) (sel_lt h2)) (sel_lt h3)) (sel_lt h4)) (sel_lt h5)) (sel_lt h6),
    xt_xor (lt_xor (lt_xor (lt_xor (lt_xor (sel_lt ha) (sel_lt h1)) (sel_lt h2)) (sel_lt h3)) (sel_lt h4)) (sel_lt h5),
    xt_xor (lt_xor (lt_xor (lt_xor (sel_lt ha) (sel_lt h1)) (sel_lt h2)) (sel_lt h3)) (sel_lt h4),
    xt_xor (lt_xor (lt_xor (sel_lt ha) (sel_lt h1)) (sel_lt h2)) (sel_lt h3),
    xt_xor (lt_xor (sel_lt ha) (sel_lt h1)) (sel_lt h2), xt_xor (sel_lt ha) (sel_lt h1)]
  simp only [xt_sel]
/-- Two factors may change their places. -/
theorem gN_swap {a b c : Nat} (ha : a < 256) (hb : b < 256) (_ : c < 256) : gN (gN a b) c = gN (gN a c) b := by
  have h1 := xt_lt ha
  have h2 := xt_lt h1
  have h3 := xt_lt h2
  have h4 := xt_lt h3
  have h5 := xt_lt h4
  have h6 := xt_lt h5
  have h7 := xt_lt h6
  have e1 := xt_gN (b := b) ha
  have e2 := xt_gN (b := b) h1
  have e3 := xt_gN (b := b) h2
  have e4 := xt_gN (b := b) h3
  have e5 := xt_gN (b := b) h4
  have e6 := xt_gN (b := b) h5
  have e7 := xt_gN (b := b) h6
  have l : ∀ x, gN x c = sel (c.testBit 0) x ^^^ sel (c.testBit 1) (xt x) ^^^ sel (c.testBit 2) (xt (xt x)) ^^^ sel (c.testBit 3) (xt (xt (xt x))) ^^^ sel (c.testBit 4) (xt (xt (xt (xt x)))) ^^^ sel (c.testBit 5) (xt (xt (xt (xt (xt x))))) ^^^ sel (c.testBit 6) (xt (xt (xt (xt (xt (xt x)))))) ^^^ sel (c.testBit 7) (xt (xt (xt (xt (xt (xt (xt x))))))) := fun x => rfl
  rw [l (gN a b), l a, e1, e2, e3, e4, e5, e6, e7]
  rw [gN_xorL (lt_xor (lt_xor (lt_xor (lt_xor (lt_xor (lt_xor (sel_lt ha) (sel_lt h1)) (sel_lt h2)) (sel_lt h3)) (sel_lt h4)) (sel_lt h5)) (sel_lt h6)) (sel_lt h7) hb,
    gN_xorL (lt_xor (lt_xor (lt_xor (lt_xor (lt_xor (sel_lt ha) (sel_lt h1)) (sel_lt h2)) (sel_lt h3)) (sel_lt h4)) (sel_lt h5)) (sel_lt h6) hb,
    gN_xorL (lt_xor (lt_xor (lt_xor (lt_xor (sel_lt ha) (sel_lt h1)) (sel_lt h2)) (sel_lt h3)) (sel_lt h4)) (sel_lt h5) hb,
    gN_xorL (lt_xor (lt_xor (lt_xor (sel_lt ha) (sel_lt h1)) (sel_lt h2)) (sel_lt h3)) (sel_lt h4) hb,
    gN_xorL (lt_xor (lt_xor (sel_lt ha) (sel_lt h1)) (sel_lt h2)) (sel_lt h3) hb,
    gN_xorL (lt_xor (sel_lt ha) (sel_lt h1)) (sel_lt h2) hb, gN_xorL (sel_lt ha) (sel_lt h1) hb]
  simp only [gN_sel hb]
theorem gN_assoc {a b c : Nat} (ha : a < 256) (hb : b < 256) (hc : c < 256) : gN (gN a b) c = gN a (gN b c) := by
  rw [gN_comm ha hb, gN_swap hb ha hc, gN_comm ha (gN_lt hb hc)]
theorem gN_one {a : Nat} (ha : a < 256) : gN a 1 = a := eq_of_beq (List.all_eq_true.1 t_one a (List.mem_range.2 ha))
/-- The inverse. -/
def invN (a : Nat) : Nat := eTab.getD ((255 - lTab.getD a 0) % 255) 0
theorem gN_inv {a : Nat} (ha : a < 256) (h0 : a ≠ 0) : gN a (invN a) = 1 := by
  have := List.all_eq_true.1 t_giv (a - 1) (List.mem_range.2 (by omega))
  rw [show a - 1 + 1 = a by omega] at this
  exact eq_of_beq this
theorem eTab_len : eTab.length = 255 := by decide +kernel
theorem eTab_lt (i : Nat) : eTab.getD i 0 < 256 := by
  by_cases h : i < 255
  · have := List.all_eq_true.1 t_exp i (List.mem_range.2 h)
    simp only [Bool.and_eq_true, decide_eq_true_eq] at this
    exact this.1.1
  · rw [List.getD_eq_getElem?_getD, List.getElem?_eq_none (by rw [eTab_len]; omega)]
    decide

/-! ### Of bytes -/
/-- The product. -/
def mul (a b : UInt8) : UInt8 := UInt8.ofNat (gN a.toNat b.toNat)
/-- The inverse. -/
def inv (a : UInt8) : UInt8 := UInt8.ofNat (invN a.toNat)
theorem mul_nat (a b : UInt8) : (mul a b).toNat = gN a.toNat b.toNat := by
  unfold mul; rw [UInt8.toNat_ofNat', Nat.mod_eq_of_lt (gN_lt a.toNat_lt b.toNat_lt)]
theorem inv_nat (a : UInt8) : (inv a).toNat = invN a.toNat := by
  unfold inv; rw [UInt8.toNat_ofNat', Nat.mod_eq_of_lt (show invN a.toNat < 2 ^ 8 from eTab_lt _)]
theorem mul_comm (a b : UInt8) : mul a b = mul b a := by
  apply UInt8.toNat_inj.1; rw [mul_nat, mul_nat, gN_comm a.toNat_lt b.toNat_lt]
theorem mul_assoc (a b c : UInt8) : mul (mul a b) c = mul a (mul b c) := by
  apply UInt8.toNat_inj.1; rw [mul_nat, mul_nat, mul_nat, mul_nat, gN_assoc a.toNat_lt b.toNat_lt c.toNat_lt]
theorem mul_add (a b c : UInt8) : mul a (b ^^^ c) = mul a b ^^^ mul a c := by
  apply UInt8.toNat_inj.1; rw [UInt8.toNat_xor, mul_nat, mul_nat, mul_nat, UInt8.toNat_xor, gN_xor]
theorem add_mul (a b c : UInt8) : mul (a ^^^ b) c = mul a c ^^^ mul b c := by rw [mul_comm, mul_add, mul_comm c a, mul_comm c b]
theorem mul_one (a : UInt8) : mul a 1 = a := by
  apply UInt8.toNat_inj.1; rw [mul_nat]; exact gN_one a.toNat_lt
theorem one_mul (a : UInt8) : mul 1 a = a := by rw [mul_comm, mul_one]
theorem mul_zero (a : UInt8) : mul a 0 = 0 := by
  apply UInt8.toNat_inj.1; rw [mul_nat]; exact gN_zero _
theorem zero_mul (a : UInt8) : mul 0 a = 0 := by rw [mul_comm, mul_zero]
theorem mul_inv {a : UInt8} (h : a ≠ 0) : mul a (inv a) = 1 := by
  apply UInt8.toNat_inj.1
  rw [mul_nat, inv_nat]
  exact gN_inv a.toNat_lt (fun e => h (UInt8.toNat_inj.1 (by simpa using e)))
/-- No product of others is 0. -/
theorem mul_eq_zero {a b : UInt8} (h : mul a b = 0) : a = 0 ∨ b = 0 := by
  by_cases ha : a = 0
  · exact .inl ha
  · right
    have := congrArg (mul (inv a)) h
    rwa [← mul_assoc, mul_comm (inv a) a, mul_inv ha, one_mul, mul_zero] at this
/-- Whose product with it is 1 is the inverse. -/
theorem inv_only {a b : UInt8} (h : mul a b = 1) : b = inv a := by
  have ha : a ≠ 0 := fun e => by rw [e, zero_mul] at h; exact absurd h (by decide)
  have := congrArg (mul (inv a)) h
  rwa [← mul_assoc, mul_comm (inv a) a, mul_inv ha, one_mul, mul_one] at this
end Gf
end Go.Proofs.YtefpfedpgedloaaGreatDoor
namespace Go.Proofs.YtefpfedpgedloaaGreatDoor
open Go.RowKit
namespace Gf
/-- A number that is reckoned once. -/
def once (q : Nat) (f : Nat → Nat) : Nat := Nat.rec (f 0) (fun n _ => f (n + 1)) q
theorem once_eq (q : Nat) (f : Nat → Nat) : once q f = f q := by cases q <;> rfl
def upF (a b : Nat) : Nat → Nat → Nat
  | 0, p => p
  | i + 1, p => once (if b.testBit (7 - i) then p ^^^ (a * 2 ^ (7 - i)) else p) (upF a b i)
def downF : Nat → Nat → Nat
  | 0, p => p
  | k + 1, p => once (if p.testBit (k + 8) then p ^^^ (283 * 2 ^ k) else p) (downF k)
def part (k : Nat) : Bool := (List.range 32).all fun a => (List.range 256).all fun b => downF 7 (upF (32 * k + a) b 8 0) == gN (32 * k + a) b
theorem p0 : part 0 = true := by decide +kernel
theorem p1 : part 1 = true := by decide +kernel
theorem p2 : part 2 = true := by decide +kernel
theorem p3 : part 3 = true := by decide +kernel
theorem p4 : part 4 = true := by decide +kernel
theorem p5 : part 5 = true := by decide +kernel
theorem p6 : part 6 = true := by decide +kernel
theorem p7 : part 7 = true := by decide +kernel
theorem part_all : ∀ k, k < 8 → part k = true
  | 0, _ => p0 | 1, _ => p1 | 2, _ => p2 | 3, _ => p3 | 4, _ => p4 | 5, _ => p5 | 6, _ => p6 | 7, _ => p7
  | n + 8, h => absurd h (by omega)
/-- The product of polynomials, and its rest by 11b, is the field's. -/
theorem ref_mul {a b : Nat} (ha : a < 256) (hb : b < 256) : downF 7 (upF a b 8 0) = gN a b := by
  have h := List.all_eq_true.1 (part_all (a / 32) (by omega)) (a % 32) (List.mem_range.2 (by omega))
  have h2 := eq_of_beq (List.all_eq_true.1 h b (List.mem_range.2 hb))
  rwa [show 32 * (a / 32) + a % 32 = a by omega] at h2
theorem upF_succ (a b i p : Nat) : upF a b (i + 1) p = upF a b i (if b.testBit (7 - i) then p ^^^ (a * 2 ^ (7 - i)) else p) := once_eq _ _
theorem downF_succ (k p : Nat) : downF (k + 1) p = downF k (if p.testBit (k + 8) then p ^^^ (283 * 2 ^ k) else p) := once_eq _ _
end Gf
end Go.Proofs.YtefpfedpgedloaaGreatDoor
