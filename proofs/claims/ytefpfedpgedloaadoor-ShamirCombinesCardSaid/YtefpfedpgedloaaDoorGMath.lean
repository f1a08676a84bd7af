/- Plain mathematics of gf: the field of 256 bytes. No program. -/
import Derived.WalkKit
namespace Go.Proofs.YtefpfedpgedloaaDoor
open Go.RowKit
namespace Gf

/-- Times x. -/
def xt (a : Nat) : Nat := if a < 128 then 2 * a else (2 * a) ^^^ 283
def sel (p : Bool) (m : Nat) : Nat := if p then m else 0
/-- The product, bit by bit of the second one. -/
def gN (a b : Nat) : Nat :=
  sel (b.testBit 0) a ^^^ sel (b.testBit 1) (xt a) ^^^ sel (b.testBit 2) (xt (xt a)) ^^^ sel (b.testBit 3) (xt (xt (xt a))) ^^^
  sel (b.testBit 4) (xt (xt (xt (xt a)))) ^^^ sel (b.testBit 5) (xt (xt (xt (xt (xt a))))) ^^^ sel (b.testBit 6) (xt (xt (xt (xt (xt (xt a)))))) ^^^ sel (b.testBit 7) (xt (xt (xt (xt (xt (xt (xt a)))))))
theorem sel_xor (p q : Bool) (m : Nat) : sel (p ^^ q) m = sel p m ^^^ sel q m := by
  cases p <;> cases q <;> simp [sel]
theorem gN_xor (a b c : Nat) : gN a (b ^^^ c) = gN a b ^^^ gN a c := by
  unfold gN
  simp only [Nat.testBit_xor, sel_xor]
  ac_rfl
theorem gN_zero (a : Nat) : gN a 0 = 0 := by unfold gN; simp [sel]
/-- The product as polynomials, and then its rest by 11b, step by step. -/
def up (a b : Nat) : Nat → Nat
  | 0 => 0
  | i + 1 => if b / 2 ^ i % 2 = 1 then up a b i ^^^ (a * 2 ^ i) else up a b i
def dstep (q k : Nat) : Nat := if q / 2 ^ (14 - k) % 2 = 1 then q ^^^ (283 * 2 ^ (6 - k)) else q
def down (p : Nat) : Nat → Nat
  | 0 => p
  | k + 1 => dstep (down p k) k
def rMul (a b : Nat) : Nat := down (up a b 8) 7 % 256
/-- The powers of 3, and the logs. -/
def eTab : List Nat := [1, 3, 5, 15, 17, 51, 85, 255, 26, 46, 114, 150, 161, 248, 19, 53, 95, 225, 56, 72, 216, 115, 149, 164, 247, 2, 6, 10, 30, 34, 102, 170, 229, 52, 92, 228, 55, 89, 235, 38, 106, 190, 217, 112, 144, 171, 230, 49, 83, 245, 4, 12, 20, 60, 68, 204, 79, 209, 104, 184, 211, 110, 178, 205, 76, 212, 103, 169, 224, 59, 77, 215, 98, 166, 241, 8, 24, 40, 120, 136, 131, 158, 185, 208, 107, 189, 220, 127, 129, 152, 179, 206, 73, 219, 118, 154, 181, 196, 87, 249, 16, 48, 80, 240, 11, 29, 39, 105, 187, 214, 97, 163, 254, 25, 43, 125, 135, 146, 173, 236, 47, 113, 147, 174, 233, 32, 96, 160, 251, 22, 58, 78, 210, 109, 183, 194, 93, 231, 50, 86, 250, 21, 63, 65, 195, 94, 226, 61, 71, 201, 64, 192, 91, 237, 44, 116, 156, 191, 218, 117, 159, 186, 213, 100, 172, 239, 42, 126, 130, 157, 188, 223, 122, 142, 137, 128, 155, 182, 193, 88, 232, 35, 101, 175, 234, 37, 111, 177, 200, 67, 197, 84, 252, 31, 33, 99, 165, 244, 7, 9, 27, 45, 119, 153, 176, 203, 70, 202, 69, 207, 74, 222, 121, 139, 134, 145, 168, 227, 62, 66, 198, 81, 243, 14, 18, 54, 90, 238, 41, 123, 141, 140, 143, 138, 133, 148, 167, 242, 13, 23, 57, 75, 221, 124, 132, 151, 162, 253, 28, 36, 108, 180, 199, 82, 246]
def lTab : List Nat := [0, 0, 25, 1, 50, 2, 26, 198, 75, 199, 27, 104, 51, 238, 223, 3, 100, 4, 224, 14, 52, 141, 129, 239, 76, 113, 8, 200, 248, 105, 28, 193, 125, 194, 29, 181, 249, 185, 39, 106, 77, 228, 166, 114, 154, 201, 9, 120, 101, 47, 138, 5, 33, 15, 225, 36, 18, 240, 130, 69, 53, 147, 218, 142, 150, 143, 219, 189, 54, 208, 206, 148, 19, 92, 210, 241, 64, 70, 131, 56, 102, 221, 253, 48, 191, 6, 139, 98, 179, 37, 226, 152, 34, 136, 145, 16, 126, 110, 72, 195, 163, 182, 30, 66, 58, 107, 40, 84, 250, 133, 61, 186, 43, 121, 10, 21, 155, 159, 94, 202, 78, 212, 172, 229, 243, 115, 167, 87, 175, 88, 168, 80, 244, 234, 214, 116, 79, 174, 233, 213, 231, 230, 173, 232, 44, 215, 117, 122, 235, 22, 11, 245, 89, 203, 95, 176, 156, 169, 81, 160, 127, 12, 246, 111, 23, 196, 73, 236, 216, 67, 31, 45, 164, 118, 123, 183, 204, 187, 62, 90, 251, 96, 177, 134, 59, 82, 161, 108, 170, 85, 41, 157, 151, 178, 135, 144, 97, 190, 220, 252, 188, 149, 207, 205, 55, 63, 91, 209, 83, 57, 132, 60, 65, 162, 109, 71, 20, 42, 158, 93, 86, 242, 211, 171, 68, 17, 146, 217, 35, 32, 46, 137, 180, 124, 184, 38, 119, 153, 227, 165, 103, 74, 237, 222, 197, 49, 254, 24, 13, 99, 140, 128, 192, 247, 112, 7]
def table (f : Nat → Nat → Bool) : Bool := (List.range 256).all fun a => (List.range 256).all fun b => f a b
theorem table_at {f : Nat → Nat → Bool} (h : table f = true) (a b : Nat) (ha : a < 256) (hb : b < 256) : f a b = true := by
  have h1 := List.all_eq_true.1 h a (List.mem_range.2 ha)
  exact List.all_eq_true.1 h1 b (List.mem_range.2 hb)
theorem t_comm : table (fun a b => gN a b == gN b a) = true := by decide +kernel
theorem t_xt : table (fun a b => xt (a ^^^ b) == xt a ^^^ xt b) = true := by decide +kernel
theorem t_lt : table (fun a b => decide (gN a b < 256)) = true := by decide +kernel
/-- Each is three times the one ahead. -/
def chain : List Nat → Bool
  | a :: b :: l => gN a 3 == b && chain (b :: l)
  | _ => true
theorem t_chain : chain eTab = true := by decide +kernel
theorem t_last : gN (eTab.getD 254 0) 3 = 1 := by decide +kernel
theorem t_log : (List.range 255).all (fun a => decide (lTab.getD (a + 1) 0 < 255) && eTab.getD (lTab.getD (a + 1) 0) 0 == a + 1) = true := by decide +kernel
theorem t_exp : (List.range 255).all (fun i => decide (eTab.getD i 0 < 256) && eTab.getD i 0 != 0 && lTab.getD (eTab.getD i 0) 0 == i) = true := by decide +kernel
theorem t_giv : (List.range 255).all (fun a => gN (a + 1) (eTab.getD ((255 - lTab.getD (a + 1) 0) % 255) 0) == 1) = true := by decide +kernel
theorem t_one : (List.range 256).all (fun a => gN a 1 == a) = true := by decide +kernel
end Gf
end Go.Proofs.YtefpfedpgedloaaDoor
