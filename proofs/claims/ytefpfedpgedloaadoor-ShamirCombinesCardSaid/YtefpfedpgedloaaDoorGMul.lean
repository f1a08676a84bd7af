/- gf.Mul. -/
import Derived.Test.YtefpfedpgedloaaDoorBytes
import Derived.Test.YtefpfedpgedloaaDoorGRef
namespace Go.Proofs.YtefpfedpgedloaaDoor
open Go.RowKit
open Gf

theorem i8_ofInt (n : Nat) (h : n < 256) : (BitVec.ofInt 8 (n : Int)).toNat = n := by
  rw [BitVec.toNat_ofInt]; omega
/-- A byte's bits. -/
theorem u_xor (a b : UInt8) : bits .xor .u8 (a.toNat : Int) (b.toNat : Int) = ((a ^^^ b).toNat : Int) := by
  show IntKind.u8.wrap ((BitVec.ofInt 8 _ ^^^ BitVec.ofInt 8 _).toNat : Nat) = _
  rw [BitVec.toNat_xor, i8_ofInt _ a.toNat_lt, i8_ofInt _ b.toNat_lt, UInt8.toNat_xor]
  have : a.toNat ^^^ b.toNat < 256 := Nat.xor_lt_two_pow (n := 8) a.toNat_lt b.toNat_lt
  show ((a.toNat ^^^ b.toNat : Nat) : Int) % 256 = _
  omega
theorem u_and (a b : UInt8) : bits .and .u8 (a.toNat : Int) (b.toNat : Int) = ((a &&& b).toNat : Int) := by
  show IntKind.u8.wrap ((BitVec.ofInt 8 _ &&& BitVec.ofInt 8 _).toNat : Nat) = _
  rw [BitVec.toNat_and, i8_ofInt _ a.toNat_lt, i8_ofInt _ b.toNat_lt, UInt8.toNat_and]
  have : a.toNat &&& b.toNat < 256 := Nat.and_lt_two_pow (n := 8) _ b.toNat_lt
  show ((a.toNat &&& b.toNat : Nat) : Int) % 256 = _
  omega
/-- All bytes. -/
theorem of_bytes {P : UInt8 → Prop} (h : ∀ n, n < 256 → P (UInt8.ofNat n)) (a : UInt8) : P a := by
  have := h a.toNat a.toNat_lt
  rwa [UInt8.ofNat_toNat] at this
def stepA (a : UInt8) : UInt8 := (a <<< 1) ^^^ ((27 : UInt8) &&& -(a >>> 7))
def selU (b a : UInt8) : UInt8 := a &&& -(b &&& 1)
theorem stepA_nat (a : UInt8) : (stepA a).toNat = xt a.toNat := by
  refine of_bytes (P := fun a => (stepA a).toNat = xt a.toNat) (fun n hn => ?_) a
  have h : (List.range 256).all (fun n => (stepA (UInt8.ofNat n)).toNat == xt (UInt8.ofNat n).toNat) = true := by decide +kernel
  exact eq_of_beq (List.all_eq_true.1 h n (List.mem_range.2 hn))
theorem low_bit (b : UInt8) : -(b &&& 1) = if b.toNat.testBit 0 then 255 else 0 := by
  refine of_bytes (P := fun b => -(b &&& 1) = if b.toNat.testBit 0 then 255 else 0) (fun n hn => ?_) b
  have h : (List.range 256).all (fun n => -(UInt8.ofNat n &&& 1) == if (UInt8.ofNat n).toNat.testBit 0 then 255 else 0) = true := by decide +kernel
  exact eq_of_beq (List.all_eq_true.1 h n (List.mem_range.2 hn))
theorem selU_nat (b a : UInt8) : (selU b a).toNat = sel (b.toNat.testBit 0) a.toNat := by
  unfold selU
  rw [low_bit]
  cases h : b.toNat.testBit 0
  · simp [sel]
  · simp only [if_true, sel]
    congr 1
    have : (255 : UInt8) = -1 := rfl
    rw [this, UInt8.and_neg_one]
def aN (a : UInt8) : Nat → UInt8
  | 0 => a
  | n + 1 => stepA (aN a n)
def bN (b : UInt8) : Nat → UInt8
  | 0 => b
  | n + 1 => bN b n >>> 1
def pN (a b : UInt8) : Nat → UInt8
  | 0 => 0
  | n + 1 => pN a b n ^^^ selU (bN b n) (aN a n)
theorem bN_bit (b : UInt8) : ∀ n i, (bN b n).toNat.testBit i = b.toNat.testBit (n + i)
  | 0, i => by rw [bN, Nat.zero_add]
  | n + 1, i => by
    rw [bN, UInt8.toNat_shiftRight, show (1 : UInt8).toNat % 8 = 1 from rfl, Nat.testBit_shiftRight, bN_bit b n]
    congr 1; omega
theorem aN_nat (a : UInt8) (n : Nat) : (aN a (n + 1)).toNat = xt (aN a n).toNat := stepA_nat _
theorem pN_all (a b : UInt8) : pN a b 8 = mul a b := by
  apply UInt8.toNat_inj.1
  rw [mul_nat]
  simp only [pN, UInt8.toNat_xor, selU_nat, bN_bit, aN_nat]
  unfold gN
  simp [aN]
theorem u_neg (a : UInt8) : IntKind.u8.wrap (-(a.toNat : Int)) = ((-a).toNat : Int) := by
  show (-(a.toNat : Int)) % 256 = _
  rw [UInt8.toNat_neg]
  have := a.toNat_lt
  simp only [UInt8.size]
  omega
theorem u_shl (a : UInt8) : IntKind.u8.wrap ((a.toNat : Int) * 2) = ((a <<< 1).toNat : Int) := by
  show ((a.toNat : Int) * 2) % 256 = _
  rw [UInt8.toNat_shiftLeft, show (1 : UInt8).toNat % 8 = 1 from rfl, Nat.shiftLeft_eq]
  omega
theorem u_shr7 (a : UInt8) : (a.toNat : Int) / 128 = ((a >>> 7).toNat : Int) := by
  rw [UInt8.toNat_shiftRight, show (7 : UInt8).toNat % 8 = 7 from rfl, Nat.shiftRight_eq_div_pow]
  omega
theorem u_shr1 (a : UInt8) : (a.toNat : Int) / 2 = ((a >>> 1).toNat : Int) := by
  rw [UInt8.toNat_shiftRight, show (1 : UInt8).toNat % 8 = 1 from rfl, Nat.shiftRight_eq_div_pow]
  omega

set_option maxHeartbeats 400000 in
theorem mul_any (a b : UInt8) (w : World) :
    Calls Tryd.prog 39 #[.int .u8 (a.toNat : Int), .int .u8 (b.toNat : Int)] w fun e w' => e = .returned (.int .u8 ((mul a b).toNat : Int)) ∧ w = w' := by
  rw [← pN_all]
  go_enter Tryd.func39, Tryd.ntmps39
  go_wp2_with fail
  go_loop [0, 1, 5, 6] (fun x y p i => ∃ k : Nat, k ≤ 8 ∧ i = .int .i64 k ∧ x = .int .u8 ((aN a k).toNat : Int) ∧ y = .int .u8 ((bN b k).toNat : Int) ∧ p = .int .u8 ((pN a b k).toNat : Int)) (fun _ _ _ i => 8 - (intOf i).toNat)
  case atStart => exact ⟨0, by omega, rfl, rfl, rfl, rfl⟩
  case round =>
    obtain ⟨k, hk, rfl, rfl, rfl, rfl⟩ := hrel
    by_cases hlt : k < 8
    · obtain ⟨x, hx⟩ : ∃ x, x = aN a k := ⟨_, rfl⟩
      obtain ⟨y, hy⟩ : ∃ y, y = bN b k := ⟨_, rfl⟩
      obtain ⟨p, hp⟩ : ∃ p, p = pN a b k := ⟨_, rfl⟩
      rw [← hx, ← hy, ← hp]
      obtain ⟨c, hc⟩ : ∃ c, c = y &&& 1 := ⟨_, rfl⟩
      obtain ⟨d, hd⟩ : ∃ d, d = -c := ⟨_, rfl⟩
      obtain ⟨e, he⟩ : ∃ e, e = x &&& d := ⟨_, rfl⟩
      obtain ⟨q, hq⟩ : ∃ q, q = p ^^^ e := ⟨_, rfl⟩
      obtain ⟨x2, hx2⟩ : ∃ x2, x2 = x <<< 1 := ⟨_, rfl⟩
      obtain ⟨x7, hx7⟩ : ∃ x7, x7 = x >>> 7 := ⟨_, rfl⟩
      obtain ⟨m, hm⟩ : ∃ m, m = -x7 := ⟨_, rfl⟩
      obtain ⟨t, ht⟩ : ∃ t, t = (27 : UInt8) &&& m := ⟨_, rfl⟩
      obtain ⟨x', hx'⟩ : ∃ x', x' = x2 ^^^ t := ⟨_, rfl⟩
      obtain ⟨y', hy'⟩ : ∃ y', y' = y >>> 1 := ⟨_, rfl⟩
      have e1 : bits .and .u8 (y.toNat : Int) 1 = (c.toNat : Int) := by rw [hc]; exact u_and y 1
      have e2 : IntKind.u8.wrap (-(c.toNat : Int)) = (d.toNat : Int) := by rw [hd]; exact u_neg c
      have e3 : bits .and .u8 (x.toNat : Int) (d.toNat : Int) = (e.toNat : Int) := by rw [he]; exact u_and x d
      have e4 : bits .xor .u8 (p.toNat : Int) (e.toNat : Int) = (q.toNat : Int) := by rw [hq]; exact u_xor p e
      have e5 : IntKind.u8.wrap ((x.toNat : Int) * 2) = (x2.toNat : Int) := by rw [hx2]; exact u_shl x
      have e6 : (x.toNat : Int) / 128 = (x7.toNat : Int) := by rw [hx7]; exact u_shr7 x
      have e7 : IntKind.u8.wrap (-(x7.toNat : Int)) = (m.toNat : Int) := by rw [hm]; exact u_neg x7
      have e8 : bits .and .u8 27 (m.toNat : Int) = (t.toNat : Int) := by rw [ht]; exact u_and 27 m
      have e9 : bits .xor .u8 (x2.toNat : Int) (t.toNat : Int) = (x'.toNat : Int) := by rw [hx']; exact u_xor x2 t
      have e10 : (y.toNat : Int) / 2 = (y'.toNat : Int) := by rw [hy']; exact u_shr1 y
      have hq1 : q = pN a b (k + 1) := by rw [hq, he, hd, hc, hp, hx, hy]; rfl
      have hx1 : x' = aN a (k + 1) := by rw [hx', ht, hm, hx7, hx2, hx]; rfl
      have hy1 : y' = bN b (k + 1) := by rw [hy', hy]; rfl
      have H := Lib.hid (And.intro hq1 (And.intro hx1 hy1))
      clear hq1 hx1 hy1 hq he hd hc hp hx hy hx' ht hm hx7 hx2 hy'
      go_wp2_with fail
      go_round
      case rel => exact ⟨k + 1, by omega, by go_num, by rw [H.out.2.1], by rw [H.out.2.2], by rw [H.out.1]⟩
      case measure => simp [intOf]; omega
    · obtain rfl : k = 8 := by omega
      go_wp2_with fail
      go_ret
      exact ⟨rfl, rfl⟩
end Go.Proofs.YtefpfedpgedloaaDoor
