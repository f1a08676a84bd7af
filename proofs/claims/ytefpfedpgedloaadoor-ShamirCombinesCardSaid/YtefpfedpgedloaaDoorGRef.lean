/- Plain: the product bit by bit, and its rest step by step, is the field's. No program. -/
import Derived.Test.YtefpfedpgedloaaDoorGAlg
namespace Go.Proofs.YtefpfedpgedloaaDoor
open Go.RowKit
namespace Gf
/-- A number that is reckoned once. -/
def once (q : Nat) (f : Nat → Nat) : Nat := Nat.rec (f 0) (fun n _ => f (n + 1)) q
theorem once_eq (q : Nat) (f : Nat → Nat) : once q f = f q := by cases q <;> rfl
def upF (a b : Nat) : Nat → Nat → Nat
  | 0, p => p
  | i + 1, p => once (if b.testBit (7 - i) then p ^^^ (a * 2 ^ (7 - i)) else p) (upF a b i)
def downF : Nat → Nat → Nat
  | 0, p => p
  | k + 1, p => once (if p.testBit (k + 8) then p ^^^ (283 * 2 ^ k) else p) (downF k)
def part (k : Nat) : Bool := (List.range 32).all fun a => (List.range 256).all fun b => downF 7 (upF (32 * k + a) b 8 0) == gN (32 * k + a) b
theorem p0 : part 0 = true := by decide +kernel
theorem p1 : part 1 = true := by decide +kernel
theorem p2 : part 2 = true := by decide +kernel
theorem p3 : part 3 = true := by decide +kernel
theorem p4 : part 4 = true := by decide +kernel
theorem p5 : part 5 = true := by decide +kernel
theorem p6 : part 6 = true := by decide +kernel
theorem p7 : part 7 = true := by decide +kernel
theorem part_all : ∀ k, k < 8 → part k = true
  | 0, _ => p0 | 1, _ => p1 | 2, _ => p2 | 3, _ => p3 | 4, _ => p4 | 5, _ => p5 | 6, _ => p6 | 7, _ => p7
  | n + 8, h => absurd h (by omega)
/-- The product of polynomials, and its rest by 11b, is the field's. -/
theorem ref_mul {a b : Nat} (ha : a < 256) (hb : b < 256) : downF 7 (upF a b 8 0) = gN a b := by
  have h := List.all_eq_true.1 (part_all (a / 32) (by omega)) (a % 32) (List.mem_range.2 (by omega))
  have h2 := eq_of_beq (List.all_eq_true.1 h b (List.mem_range.2 hb))
  rwa [show 32 * (a / 32) + a % 32 = a by omega] at h2
theorem upF_succ (a b i p : Nat) : upF a b (i + 1) p = upF a b i (if b.testBit (7 - i) then p ^^^ (a * 2 ^ (7 - i)) else p) := once_eq _ _
theorem downF_succ (k p : Nat) : downF (k + 1) p = downF k (if p.testBit (k + 8) then p ^^^ (283 * 2 ^ k) else p) := once_eq _ _
end Gf
end Go.Proofs.YtefpfedpgedloaaDoor
