/- Merged by program: gf.Mul. | lockboxref07.Mul. | gf.Pow, Inv, Div, Add. | lockboxref07.Inv. | gf.Dot, lockboxref07.Dot. -/
import Derived.Test.YtefpfedpgedloaaGreatDoorMB
import Derived.Test.YtefpfedpgedloaaGreatDoorMG1
import Derived.Test.YtefpfedpgedloaaGreatDoorMG2
import Derived.Deep.QuietTactic
import Derived.BigQuiet
namespace Go.Proofs.YtefpfedpgedloaaGreatDoor
open Go.RowKit
open Gf

theorem i8_ofInt (n : Nat) (h : n < 256) : (BitVec.ofInt 8 (n : Int)).toNat = n := by
  rw [BitVec.toNat_ofInt]; omega
/-- A byte's bits. -/
theorem u_xor (a b : UInt8) : bits .xor .u8 (a.toNat : Int) (b.toNat : Int) = ((a ^^^ b).toNat : Int) := by
  show IntKind.u8.wrap ((BitVec.ofInt 8 _ ^^^ BitVec.ofInt 8 _).toNat : Nat) = _
  rw [BitVec.toNat_xor, i8_ofInt _ a.toNat_lt, i8_ofInt _ b.toNat_lt, UInt8.toNat_xor]
  have : a.toNat ^^^ b.toNat < 256 := Nat.xor_lt_two_pow (n := 8) a.toNat_lt b.toNat_lt
  show ((a.toNat ^^^ b.toNat : Nat) : Int) % 256 = _
  omega
theorem u_and (a b : UInt8) : bits .and .u8 (a.toNat : Int) (b.toNat : Int) = ((a &&& b).toNat : Int) := by
  show IntKind.u8.wrap ((BitVec.ofInt 8 _ &&& BitVec.ofInt 8 _).toNat : Nat) = _
  rw [BitVec.toNat_and, i8_ofInt _ a.toNat_lt, i8_ofInt _ b.toNat_lt, UInt8.toNat_and]
  have : a.toNat &&& b.toNat < 256 := Nat.and_lt_two_pow (n := 8) _ b.toNat_lt
  show ((a.toNat &&& b.toNat : Nat) : Int) % 256 = _
  omega
/-- All bytes. -/
theorem of_bytes {P : UInt8 → Prop} (h : ∀ n, n < 256 → P (UInt8.ofNat n)) (a : UInt8) : P a := by
  have := h a.toNat a.toNat_lt
  rwa [UInt8.ofNat_toNat] at this
def stepA (a : UInt8) : UInt8 := (a <<< 1) ^^^ ((27 : UInt8) &&& -(a >>> 7))
def selU (b a : UInt8) : UInt8 := a &&& -(b &&& 1)
theorem stepA_nat (a : UInt8) : (stepA a).toNat = xt a.toNat := by
  refine of_bytes (P := fun a => (stepA a).toNat = xt a.toNat) (fun n hn => ?_) a
  have h : (List.range 256).all (fun n => (stepA (UInt8.ofNat n)).toNat == xt (UInt8.ofNat n).toNat) = true := by decide +kernel
  exact eq_of_beq (List.all_eq_true.1 h n (List.mem_range.2 hn))
theorem low_bit (b : UInt8) : -(b &&& 1) = if b.toNat.testBit 0 then 255 else 0 := by
  refine of_bytes (P := fun b => -(b &&& 1) = if b.toNat.testBit 0 then 255 else 0) (fun n hn => ?_) b
  have h : (List.range 256).all (fun n => -(UInt8.ofNat n &&& 1) == if (UInt8.ofNat n).toNat.testBit 0 then 255 else 0) = true := by decide +kernel
  exact eq_of_beq (List.all_eq_true.1 h n (List.mem_range.2 hn))
theorem selU_nat (b a : UInt8) : (selU b a).toNat = sel (b.toNat.testBit 0) a.toNat := by
  unfold selU
  rw [low_bit]
  cases h : b.toNat.testBit 0
  · simp [sel]
  · simp only [if_true, sel]
    congr 1
    have : (255 : UInt8) = -1 := rfl
    rw [this, UInt8.and_neg_one]
def aN (a : UInt8) : Nat → UInt8
  | 0 => a
  | n + 1 => stepA (aN a n)
def bN (b : UInt8) : Nat → UInt8
  | 0 => b
  | n + 1 => bN b n >>> 1
def pN (a b : UInt8) : Nat → UInt8
  | 0 => 0
  | n + 1 => pN a b n ^^^ selU (bN b n) (aN a n)
theorem bN_bit (b : UInt8) : ∀ n i, (bN b n).toNat.testBit i = b.toNat.testBit (n + i)
  | 0, i => by rw [bN, Nat.zero_add]
  | n + 1, i => by
    rw [bN, UInt8.toNat_shiftRight, show (1 : UInt8).toNat % 8 = 1 from rfl, Nat.testBit_shiftRight, bN_bit b n]
    congr 1; omega
theorem aN_nat (a : UInt8) (n : Nat) : (aN a (n + 1)).toNat = xt (aN a n).toNat := stepA_nat _
theorem pN_all (a b : UInt8) : pN a b 8 = mul a b := by
  apply UInt8.toNat_inj.1
  rw [mul_nat]
  simp only [pN, UInt8.toNat_xor, selU_nat, bN_bit, aN_nat]
  unfold gN
  simp [aN]
theorem u_neg (a : UInt8) : IntKind.u8.wrap (-(a.toNat : Int)) = ((-a).toNat : Int) := by
  show (-(a.toNat : Int)) % 256 = _
  rw [UInt8.toNat_neg]
  have := a.toNat_lt
  simp only [UInt8.size]
  omega
theorem u_shl (a : UInt8) : IntKind.u8.wrap ((a.toNat : Int) * 2) = ((a <<< 1).toNat : Int) := by
  show ((a.toNat : Int) * 2) % 256 = _
  rw [UInt8.toNat_shiftLeft, show (1 : UInt8).toNat % 8 = 1 from rfl, Nat.shiftLeft_eq]
  omega
theorem u_shr7 (a : UInt8) : (a.toNat : Int) / 128 = ((a >>> 7).toNat : Int) := by
  rw [UInt8.toNat_shiftRight, show (7 : UInt8).toNat % 8 = 7 from rfl, Nat.shiftRight_eq_div_pow]
  omega
theorem u_shr1 (a : UInt8) : (a.toNat : Int) / 2 = ((a >>> 1).toNat : Int) := by
  rw [UInt8.toNat_shiftRight, show (1 : UInt8).toNat % 8 = 1 from rfl, Nat.shiftRight_eq_div_pow]
  omega

set_option maxHeartbeats 400000 in
theorem mul_any (a b : UInt8) (w : World) :
    Calls Tryz.prog 64 #[.int .u8 (a.toNat : Int), .int .u8 (b.toNat : Int)] w fun e w' => e = .returned (.int .u8 ((mul a b).toNat : Int)) ∧ w = w' := by
  rw [← pN_all]
  go_enter Tryz.func64, Tryz.ntmps64
  go_wp2_with fail
  go_loop [0, 1, 5, 6] (fun x y p i => ∃ k : Nat, k ≤ 8 ∧ i = .int .i64 k ∧ x = .int .u8 ((aN a k).toNat : Int) ∧ y = .int .u8 ((bN b k).toNat : Int) ∧ p = .int .u8 ((pN a b k).toNat : Int)) (fun _ _ _ i => 8 - (intOf i).toNat)
  case atStart => exact ⟨0, by omega, rfl, rfl, rfl, rfl⟩
  case round =>
    obtain ⟨k, hk, rfl, rfl, rfl, rfl⟩ := hrel
    by_cases hlt : k < 8
    · obtain ⟨x, hx⟩ : ∃ x, x = aN a k := ⟨_, rfl⟩
      obtain ⟨y, hy⟩ : ∃ y, y = bN b k := ⟨_, rfl⟩
      obtain ⟨p, hp⟩ : ∃ p, p = pN a b k := ⟨_, rfl⟩
      rw [← hx, ← hy, ← hp]
      obtain ⟨c, hc⟩ : ∃ c, c = y &&& 1 := ⟨_, rfl⟩
      obtain ⟨d, hd⟩ : ∃ d, d = -c := ⟨_, rfl⟩
      obtain ⟨e, he⟩ : ∃ e, e = x &&& d := ⟨_, rfl⟩
      obtain ⟨q, hq⟩ : ∃ q, q = p ^^^ e := ⟨_, rfl⟩
      obtain ⟨x2, hx2⟩ : ∃ x2, x2 = x <<< 1 := ⟨_, rfl⟩
      obtain ⟨x7, hx7⟩ : ∃ x7, x7 = x >>> 7 := ⟨_, rfl⟩
      obtain ⟨m, hm⟩ : ∃ m, m = -x7 := ⟨_, rfl⟩
      obtain ⟨t, ht⟩ : ∃ t, t = (27 : UInt8) &&& m := ⟨_, rfl⟩
      obtain ⟨x', hx'⟩ : ∃ x', x' = x2 ^^^ t := ⟨_, rfl⟩
      obtain ⟨y', hy'⟩ : ∃ y', y' = y >>> 1 := ⟨_, rfl⟩
      have e1 : bits .and .u8 (y.toNat : Int) 1 = (c.toNat : Int) := by rw [hc]; exact u_and y 1
      have e2 : IntKind.u8.wrap (-(c.toNat : Int)) = (d.toNat : Int) := by rw [hd]; exact u_neg c
      have e3 : bits .and .u8 (x.toNat : Int) (d.toNat : Int) = (e.toNat : Int) := by rw [he]; exact u_and x d
      have e4 : bits .xor .u8 (p.toNat : Int) (e.toNat : Int) = (q.toNat : Int) := by rw [hq]; exact u_xor p e
      have e5 : IntKind.u8.wrap ((x.toNat : Int) * 2) = (x2.toNat : Int) := by rw [hx2]; exact u_shl x
      have e6 : (x.toNat : Int) / 128 = (x7.toNat : Int) := by rw [hx7]; exact u_shr7 x
      have e7 : IntKind.u8.wrap (-(x7.toNat : Int)) = (m.toNat : Int) := by rw [hm]; exact u_neg x7
      have e8 : bits .and .u8 27 (m.toNat : Int) = (t.toNat : Int) := by rw [ht]; exact u_and 27 m
      have e9 : bits .xor .u8 (x2.toNat : Int) (t.toNat : Int) = (x'.toNat : Int) := by rw [hx']; exact u_xor x2 t
      have e10 : (y.toNat : Int) / 2 = (y'.toNat : Int) := by rw [hy']; exact u_shr1 y
      have hq1 : q = pN a b (k + 1) := by rw [hq, he, hd, hc, hp, hx, hy]; rfl
      have hx1 : x' = aN a (k + 1) := by rw [hx', ht, hm, hx7, hx2, hx]; rfl
      have hy1 : y' = bN b (k + 1) := by rw [hy', hy]; rfl
      have H := Lib.hid (And.intro hq1 (And.intro hx1 hy1))
      clear hq1 hx1 hy1 hq he hd hc hp hx hy hx' ht hm hx7 hx2 hy'
      go_wp2_with fail
      go_round
      case rel => exact ⟨k + 1, by omega, by go_num, by rw [H.out.2.1], by rw [H.out.2.2], by rw [H.out.1]⟩
      case measure => simp [intOf]; omega
    · obtain rfl : k = 8 := by omega
      go_wp2_with fail
      go_ret
      exact ⟨rfl, rfl⟩
end Go.Proofs.YtefpfedpgedloaaGreatDoor
namespace Go.Proofs.YtefpfedpgedloaaGreatDoor
open Go.RowKit
open Gf

theorem i64_xor_nat (a b : Nat) (ha : a < 65536) (hb : b < 65536) : bits .xor .i64 (a : Int) (b : Int) = ((a ^^^ b : Nat) : Int) := by
  show IntKind.i64.wrap ((BitVec.ofInt 64 _ ^^^ BitVec.ofInt 64 _).toNat : Nat) = _
  have e : ∀ n : Nat, n < 65536 → (BitVec.ofInt 64 (n : Int)).toNat = n := fun n h => by rw [BitVec.toNat_ofInt]; omega
  rw [BitVec.toNat_xor, e a ha, e b hb]
  have : a ^^^ b < 65536 := Nat.xor_lt_two_pow (n := 16) ha hb
  rw [IntKind.wrap_i64]
  omega
theorem testBit_div (x k : Nat) : x.testBit k = decide (x / 2 ^ k % 2 = 1) := by
  rw [Nat.testBit, Nat.shiftRight_eq_div_pow, Nat.one_and_eq_mod_two]
  rcases Nat.mod_two_eq_zero_or_one (x / 2 ^ k) with h | h <;> rw [h] <;> decide
theorem upF_yes {a b k q : Nat} (hk : k < 8) (h : b / 2 ^ k % 2 = 1) : upF a b (8 - (k + 1)) (q ^^^ (a * 2 ^ k)) = upF a b (8 - k) q := by
  obtain ⟨m, hm⟩ : ∃ m, 8 - k = m + 1 := ⟨7 - k, by omega⟩
  rw [hm, upF_succ, show 7 - m = k by omega, testBit_div, decide_eq_true h, if_pos rfl, show 8 - (k + 1) = m by omega]
theorem upF_no {a b k q : Nat} (hk : k < 8) (h : b / 2 ^ k % 2 = 0) : upF a b (8 - (k + 1)) q = upF a b (8 - k) q := by
  obtain ⟨m, hm⟩ : ∃ m, 8 - k = m + 1 := ⟨7 - k, by omega⟩
  rw [hm, upF_succ, show 7 - m = k by omega, testBit_div, decide_eq_false (by omega), if_neg (by decide), show 8 - (k + 1) = m by omega]
theorem downF_yes {m q : Nat} (h : q / 2 ^ (m + 8) % 2 = 1) : downF m (q ^^^ (283 * 2 ^ m)) = downF (m + 1) q := by
  rw [downF_succ, testBit_div, decide_eq_true h, if_pos rfl]
theorem downF_no {m q : Nat} (h : q / 2 ^ (m + 8) % 2 = 0) : downF m q = downF (m + 1) q := by
  rw [downF_succ, testBit_div, decide_eq_false (by omega), if_neg (by decide)]
theorem xor_small {a b : Nat} (ha : a < 65536) (hb : b < 65536) : a ^^^ b < 65536 := Nat.xor_lt_two_pow (n := 16) ha hb
theorem pow_le (k : Nat) (h : k ≤ 7) : 2 ^ k ≤ 128 := Nat.pow_le_pow_right (n := 2) (by decide) h
set_option maxRecDepth 100000 in
set_option maxHeartbeats 400000 in
theorem rmul_any (a b : UInt8) (w : World) :
    Calls Tryz.prog 60 #[.int .u8 (a.toNat : Int), .int .u8 (b.toNat : Int)] w fun e w' => e = .returned (.int .u8 ((mul a b).toNat : Int)) ∧ w = w' := by
  have hmul := ref_mul a.toNat_lt b.toNat_lt
  rw [← mul_nat] at hmul
  have hA := a.toNat_lt
  have hB := b.toNat_lt
  have hM := (mul a b).toNat_lt
  generalize (mul a b).toNat = M at *
  generalize a.toNat = A at *
  generalize b.toNat = B at *
  have HM := Lib.hid (And.intro hmul hM)
  clear hmul hM
  go_enter Tryz.func60, Tryz.ntmps60
  go_wp2_with fail
  go_loop [5, 6] (fun p i => ∃ k q : Nat, k ≤ 8 ∧ i = .int .i64 k ∧ p = .int .i64 (q : Int) ∧ q < 65536 ∧ upF A B (8 - k) q = upF A B 8 0) (fun _ i => 8 - (intOf i).toNat)
  case atStart => exact ⟨0, 0, by omega, rfl, rfl, by decide, rfl⟩
  case round =>
    obtain ⟨k, q, hk, rfl, rfl, hq, hu⟩ := hrel
    have HU := Lib.hid hu
    clear hu
    by_cases hlt : k < 8
    · obtain ⟨x, hx⟩ : ∃ x, x = B / 2 ^ k := ⟨_, rfl⟩
      obtain ⟨y, hy⟩ : ∃ y, y = A * 2 ^ k := ⟨_, rfl⟩
      have e1 : (B : Int) / 2 ^ k = (x : Int) := by rw [hx]; simp
      have e2 : (A : Int) * 2 ^ k = (y : Int) := by rw [hy]; simp
      have hyb : y < 65536 := by
        have := pow_le k (by omega)
        rw [hy]
        have := Nat.mul_le_mul (show A ≤ 255 by omega) this
        omega
      rcases Nat.mod_two_eq_zero_or_one x with hm | hm
      · have hn := upF_no (a := A) (q := q) hlt (hx ▸ hm)
        have hmi : ((x : Int) % 2 == 1) = false := by
          have : (x : Int) % 2 = 0 := by omega
          rw [this]; rfl
        have HN := Lib.hid hn
        clear hn hx hy hm
        go_wp2_with fail
        go_round
        case rel => exact ⟨k + 1, q, by omega, by go_num, rfl, hq, by rw [HN.out, HU.out]⟩
        case measure => simp [intOf]; omega
      · have hn := upF_yes (a := A) (q := q) hlt (hx ▸ hm)
        have hmi : ((x : Int) % 2 == 1) = true := by
          have : (x : Int) % 2 = 1 := by omega
          rw [this]; rfl
        have e3 := i64_xor_nat q y hq hyb
        rw [← hy] at hn
        have HN := Lib.hid (And.intro hn (xor_small hq hyb))
        clear hn hx hy hm
        go_wp2_with fail
        go_round
        case rel => exact ⟨k + 1, q ^^^ y, by omega, by go_num, rfl, HN.out.2, by rw [HN.out.1, HU.out]⟩
        case measure => simp [intOf]; omega
    · obtain rfl : k = 8 := by omega
      have hd : downF 7 q = M := by
        rw [← HM.out.1, ← HU.out]; rfl
      have HD := Lib.hid hd
      clear hd hlt hk HU
      go_wp2_with fail
      go_loop [5, 7] (fun p i => ∃ m q : Nat, m ≤ 7 ∧ i = .int .i64 ((m : Int) + 7) ∧ p = .int .i64 (q : Int) ∧ q < 65536 ∧ downF m q = M) (fun _ i => (intOf i).toNat)
      case atStart => exact ⟨7, q, by omega, rfl, rfl, hq, HD.out⟩
      case round =>
        clear HD hq
        obtain ⟨m, q, hm7, rfl, rfl, hq, hd⟩ := hrel
        have HD := Lib.hid hd
        clear hd
        match m with
        | 0 =>
          have hM := HM.out.2
          have hqM : q = M := HD.out
          subst hqM
          clear HD HM
          go_wp2_with fail
          go_ret
          exact ⟨rfl, rfl⟩
        | n + 1 =>
          obtain ⟨x, hx⟩ : ∃ x, x = q / 2 ^ (n + 8) := ⟨_, rfl⟩
          obtain ⟨y, hy⟩ : ∃ y, y = 283 * 2 ^ n := ⟨_, rfl⟩
          have e1 : (q : Int) / 2 ^ (n + 8) = (x : Int) := by rw [hx]; simp
          have hyb : y < 65536 := by
            have := pow_le n (by omega)
            rw [hy]; omega
          have e2 : (283 : Int) * 2 ^ n = (y : Int) := by rw [hy]; simp
          have e0 : ((n + 1 : Nat) : Int) + 7 = (n : Int) + 8 := by omega
          rw [e0]
          clear e0
          rcases Nat.mod_two_eq_zero_or_one x with hm | hm
          · have hn := downF_no (m := n) (q := q) (by rw [← hx]; exact hm)
            have hmi : ((x : Int) % 2 == 1) = false := by
              have : (x : Int) % 2 = 0 := by omega
              rw [this]; rfl
            have HN := Lib.hid hn
            clear hn hx hy hm
            go_wp2_with fail
            go_round
            case rel => exact ⟨n, q, by omega, by go_num, rfl, hq, by rw [HN.out, HD.out]⟩
            case measure => simp [intOf]; omega
          · have hn := downF_yes (m := n) (q := q) (by rw [← hx]; exact hm)
            have hmi : ((x : Int) % 2 == 1) = true := by
              have : (x : Int) % 2 = 1 := by omega
              rw [this]; rfl
            have e3 := i64_xor_nat q y hq hyb
            rw [← hy] at hn
            have HN := Lib.hid (And.intro hn (xor_small hq hyb))
            clear hn hx hy hm
            go_wp2_with fail
            go_round
            case rel => exact ⟨n, q ^^^ y, by omega, by go_num, rfl, HN.out.2, by rw [HN.out.1, HD.out]⟩
            case measure => simp [intOf]; omega
end Go.Proofs.YtefpfedpgedloaaGreatDoor
namespace Go.Proofs.YtefpfedpgedloaaGreatDoor
open Go.RowKit
open Gf

theorem u_ne {a : UInt8} (h : a ≠ 0) : ((a.toNat : Int) == 0) = false := by
  have h0 : a.toNat ≠ 0 := fun e => h (UInt8.toNat_inj.1 (by simpa using e))
  simpa using h0
theorem i64_low (n : Int) : bits .and .i64 n 1 = n % 2 := by
  have h1 : (BitVec.ofInt 64 1).toNat = 2 ^ 1 - 1 := by decide
  have key : (BitVec.ofInt 64 n &&& BitVec.ofInt 64 1).toNat = (n % ((2 ^ 64 : Nat) : Int)).toNat % 2 ^ 1 := by
    rw [BitVec.toNat_and, BitVec.toNat_ofInt, h1, Nat.and_two_pow_sub_one_eq_mod]
  show IntKind.i64.wrap ((BitVec.ofInt 64 n &&& BitVec.ofInt 64 1).toNat : Nat) = n % 2
  rw [key, IntKind.wrap_i64]
  omega
theorem pow_round {p x : UInt8} {n : Nat} : mul p (pow x n) = mul (if n % 2 = 1 then mul p x else p) (pow (mul x x) (n / 2)) := by
  rw [pow_sq]
  split
  · next h =>
    rw [mul_assoc]; congr 1
    conv => lhs; rw [show n = 1 + 2 * (n / 2) by omega, pow_add, pow_one]
  · next h => rw [show 2 * (n / 2) = n by omega]
set_option maxRecDepth 100000 in
set_option maxHeartbeats 400000 in
theorem gfpow_any (a : UInt8) (n : Int) (hlo : -9223372036854775808 ≤ n) (hhi : n ≤ 9223372036854775807) (w : World) :
    Calls Tryz.prog 118 #[.int .u8 (a.toNat : Int), .int .i64 n] w fun e w' => e = .returned (.tuple #[.int .u8 ((gpow a n).toNat : Int), .int .i64 (gerr a n)]) ∧ w = w' := by
  by_cases h0 : a = 0
  · subst h0
    rcases Int.lt_trichotomy n 0 with h | h | h
    · rw [gpow_zero_neg n h, show gerr 0 n = 1 from if_pos ⟨rfl, h⟩]
      go_enter Tryz.func118, Tryz.ntmps118
      go_wp2_with fail
      go_ret2
      exact ⟨rfl, rfl⟩
    · subst h
      rw [show gpow 0 0 = 1 from rfl, show gerr 0 0 = 0 from rfl, show (((1 : UInt8).toNat : Nat) : Int) = 1 from rfl]
      go_enter Tryz.func118, Tryz.ntmps118
      go_wp2_with fail
      go_loop [0, 1, 6] (fun _ c p => c = .int .i64 0 ∧ p = .int .u8 1) (fun _ c _ => (intOf c).toNat)
      case atStart => exact ⟨rfl, rfl⟩
      case round =>
        obtain ⟨rfl, rfl⟩ := hrel
        go_wp2_with fail
        go_ret2
        exact ⟨rfl, rfl⟩
    · rw [gpow_zero_pos n h, show gerr 0 n = 0 from if_neg (fun x => by omega)]
      go_enter Tryz.func118, Tryz.ntmps118
      go_wp2_with fail
      go_ret2
      exact ⟨rfl, rfl⟩
  · have e0 := u_ne h0
    rw [show gerr a n = 0 from if_neg (fun x => h0 x.1)]
    obtain ⟨t, ht⟩ : ∃ t, t = n.tmod 255 := ⟨_, rfl⟩
    have ht1 : n.tmod 255 = t := ht.symm
    have htl : -255 < t := by rw [ht, Int.tmod_eq_emod]; split <;> omega
    have hth : t < 255 := by rw [ht, Int.tmod_eq_emod]; split <;> omega
    obtain ⟨m, hm⟩ : ∃ m, m = (n % 255).toNat := ⟨_, rfl⟩
    have hm1 : (t + 255) % 255 = (m : Int) := by
      rw [hm, ht, Int.tmod_eq_emod]; split <;> omega
    have hml : m < 255 := by omega
    obtain ⟨s, hs⟩ : ∃ s, t + 255 = s := ⟨_, rfl⟩
    rw [hs] at hm1
    have hs0 : 0 ≤ s := by omega
    have hs1 : s < 510 := by omega
    have hg : gpow a n = pow a m := by unfold gpow; rw [if_neg h0, hm]
    obtain ⟨G, hG⟩ : ∃ G, G = gpow a n := ⟨_, rfl⟩
    have HG := Lib.hid (show mul 1 (pow a m) = G by rw [one_mul, hG, hg])
    rw [← hG]
    clear hG hg hm ht h0
    go_enter Tryz.func118, Tryz.ntmps118
    go_wp2_with fail
    clear e0
    go_loop [0, 1, 6] (fun x c p => ∃ (k : Nat) (y q : UInt8), k < 255 ∧ c = .int .i64 k ∧ x = .int .u8 (y.toNat : Int) ∧ p = .int .u8 (q.toNat : Int) ∧ mul q (pow y k) = G) (fun _ c _ => (intOf c).toNat)
    case atStart => exact ⟨m, a, 1, hml, by rw [hm1], rfl, rfl, HG.out⟩
    case round =>
      clear HG hml hm1 ht1 htl hth hs hs0 hs1
      obtain ⟨k, y, q, hk, rfl, rfl, rfl, hq⟩ := hrel
      have hbit := i64_low (k : Int)
      by_cases hk0 : k = 0
      · subst hk0
        rw [pow, mul_one] at hq
        subst hq
        clear hbit
        go_wp2_with fail
        go_ret2
        exact ⟨rfl, rfl⟩
      · have hpos : (0 : Int) < (k : Int) := by omega
        rw [pow_round] at hq
        rcases Nat.mod_two_eq_zero_or_one k with h | h
        · rw [if_neg (by omega)] at hq
          have hki : (k : Int) % 2 = 0 := by omega
          rw [hki] at hbit
          have HQ := Lib.hid hq
          clear hq hki h
          go_wp2_with (go_at_call 64; refine (mul_any _ _ _).mono ?_; rintro e w' ⟨rfl, rfl⟩)
          go_round
          case rel => exact ⟨k / 2, _, q, by omega, by go_num, rfl, rfl, HQ.out⟩
          case measure => simp [intOf]; omega
        · rw [if_pos h] at hq
          have hki : (k : Int) % 2 = 1 := by omega
          rw [hki] at hbit
          have HQ := Lib.hid hq
          clear hq hki h
          go_wp2_with (go_at_call 64; refine (mul_any _ _ _).mono ?_; rintro e w' ⟨rfl, rfl⟩)
          go_round
          case rel => exact ⟨k / 2, _, _, by omega, by go_num, rfl, rfl, HQ.out⟩
          case measure => simp [intOf]; omega
theorem gfinv_any (a : UInt8) (w : World) :
    Calls Tryz.prog 109 #[.int .u8 (a.toNat : Int)] w fun e w' => e = .returned (.tuple #[.int .u8 ((invz a).toNat : Int), .int .i64 (ierr a)]) ∧ w = w' := by
  rw [← gpow_inv, ← gerr_inv]
  go_enter Tryz.func109, Tryz.ntmps109
  go_wp2_with fail
  refine (gfpow_any a (-1) (by decide) (by decide) _).mono ?_
  rintro e w1 ⟨rfl, rfl⟩
  go_wp2_with fail
  go_ret2
  exact ⟨rfl, rfl⟩
theorem gfdiv_any (a b : UInt8) (w : World) :
    Calls Tryz.prog 78 #[.int .u8 (a.toNat : Int), .int .u8 (b.toNat : Int)] w fun e w' => e = .returned (.tuple #[.int .u8 ((mul a (invz b)).toNat : Int), .int .i64 (ierr b)]) ∧ w = w' := by
  go_enter Tryz.func78, Tryz.ntmps78
  go_wp2_with fail
  refine (gfinv_any b _).mono ?_
  rintro e w1 ⟨rfl, rfl⟩
  go_wp2_with fail
  refine (mul_any a (invz b) _).mono ?_
  rintro e w1 ⟨rfl, rfl⟩
  go_wp2_with fail
  go_ret2
  exact ⟨rfl, rfl⟩
end Go.Proofs.YtefpfedpgedloaaGreatDoor
namespace Go.Proofs.YtefpfedpgedloaaGreatDoor
open Go.RowKit
open Gf

theorem byte_of {k : Nat} (h : k < 256) : ∃ c : UInt8, c.toNat = k := ⟨UInt8.ofNat k, by rw [UInt8.toNat_ofNat']; exact Nat.mod_eq_of_lt h⟩
theorem u_eq (a b : UInt8) : ((a.toNat : Int) == (b.toNat : Int)) = decide (a = b) := by
  by_cases h : a = b
  · subst h; simp
  · rw [decide_eq_false h]
    have h1 : a.toNat ≠ b.toNat := fun e => h (UInt8.toNat_inj.1 e)
    have h2 : (a.toNat : Int) ≠ (b.toNat : Int) := by omega
    exact beq_eq_false_iff_ne.2 h2
end Go.Proofs.YtefpfedpgedloaaGreatDoor
namespace Go.Proofs.YtefpfedpgedloaaGreatDoor
open Go.RowKit
open Gf

/-- The sum of the products of the first k bytes. -/
def dotN (a b : List UInt8) (k : Nat) : UInt8 := sumX (fun i => mul (co a i) (co b i)) k
theorem gdrew {B : Nat} {a w : World} (h : Below B a w) : ∀ n, Below B a (w.drewN n)
  | 0 => h
  | n + 1 => (gdrew h n).drew
theorem dotN_succ (a b : List UInt8) (k : Nat) : dotN a b (k + 1) = dotN a b k ^^^ mul (co a k) (co b k) := rfl
theorem co_at (s : ByteArray) (k : Nat) (h : k < s.size) : co s.data.toList k = s[k] := by
  unfold co
  rw [List.getD_eq_getElem?_getD, List.getElem?_eq_getElem (by simpa using h)]
  rfl
/-- The sum of products, or the error. -/
def dot (a b : ByteArray) : UInt8 := if a.size = b.size then dotN a.data.toList b.data.toList a.size else 0
def derr (a b : ByteArray) : Int := if a.size = b.size then 0 else 1
theorem mul_still (a b : UInt8) (w : World) :
    Calls Tryz.prog 64 #[.int .u8 (a.toNat : Int), .int .u8 (b.toNat : Int)] w fun e w' => e = .returned (.int .u8 ((mul a b).toNat : Int)) ∧ w' = w :=
  (mul_any a b w).mono fun _ _ ⟨h, k⟩ => ⟨h, k.symm⟩
theorem rmul_still (a b : UInt8) (w : World) :
    Calls Tryz.prog 60 #[.int .u8 (a.toNat : Int), .int .u8 (b.toNat : Int)] w fun e w' => e = .returned (.int .u8 ((mul a b).toNat : Int)) ∧ w' = w :=
  (rmul_any a b w).mono fun _ _ ⟨h, k⟩ => ⟨h, k.symm⟩
end Go.Proofs.YtefpfedpgedloaaGreatDoor
