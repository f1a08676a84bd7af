/- gf.Pow, Inv, Div, Add. -/
import Derived.Test.YtefpfedpgedloaaDoorGMul
import Derived.Test.YtefpfedpgedloaaDoorGPowM
namespace Go.Proofs.YtefpfedpgedloaaDoor
open Go.RowKit
open Gf

theorem u_ne {a : UInt8} (h : a ≠ 0) : ((a.toNat : Int) == 0) = false := by
  have h0 : a.toNat ≠ 0 := fun e => h (UInt8.toNat_inj.1 (by simpa using e))
  simpa using h0
theorem i64_low (n : Int) : bits .and .i64 n 1 = n % 2 := by
  have h1 : (BitVec.ofInt 64 1).toNat = 2 ^ 1 - 1 := by decide
  have key : (BitVec.ofInt 64 n &&& BitVec.ofInt 64 1).toNat = (n % ((2 ^ 64 : Nat) : Int)).toNat % 2 ^ 1 := by
    rw [BitVec.toNat_and, BitVec.toNat_ofInt, h1, Nat.and_two_pow_sub_one_eq_mod]
  show IntKind.i64.wrap ((BitVec.ofInt 64 n &&& BitVec.ofInt 64 1).toNat : Nat) = n % 2
  rw [key, IntKind.wrap_i64]
  omega
theorem pow_round {p x : UInt8} {n : Nat} : mul p (pow x n) = mul (if n % 2 = 1 then mul p x else p) (pow (mul x x) (n / 2)) := by
  rw [pow_sq]
  split
  · next h =>
    rw [mul_assoc]; congr 1
    conv => lhs; rw [show n = 1 + 2 * (n / 2) by omega, pow_add, pow_one]
  · next h => rw [show 2 * (n / 2) = n by omega]
set_option maxRecDepth 100000 in
set_option maxHeartbeats 400000 in
theorem gfpow_any (a : UInt8) (n : Int) (hlo : -9223372036854775808 ≤ n) (hhi : n ≤ 9223372036854775807) (w : World) :
    Calls Tryd.prog 78 #[.int .u8 (a.toNat : Int), .int .i64 n] w fun e w' => e = .returned (.tuple #[.int .u8 ((gpow a n).toNat : Int), .int .i64 (gerr a n)]) ∧ w = w' := by
  by_cases h0 : a = 0
  · subst h0
    rcases Int.lt_trichotomy n 0 with h | h | h
    · rw [gpow_zero_neg n h, show gerr 0 n = 1 from if_pos ⟨rfl, h⟩]
      go_enter Tryd.func78, Tryd.ntmps78
      go_wp2_with fail
      go_ret2
      exact ⟨rfl, rfl⟩
    · subst h
      rw [show gpow 0 0 = 1 from rfl, show gerr 0 0 = 0 from rfl, show (((1 : UInt8).toNat : Nat) : Int) = 1 from rfl]
      go_enter Tryd.func78, Tryd.ntmps78
      go_wp2_with fail
      go_loop [0, 1, 6] (fun _ c p => c = .int .i64 0 ∧ p = .int .u8 1) (fun _ c _ => (intOf c).toNat)
      case atStart => exact ⟨rfl, rfl⟩
      case round =>
        obtain ⟨rfl, rfl⟩ := hrel
        go_wp2_with fail
        go_ret2
        exact ⟨rfl, rfl⟩
    · rw [gpow_zero_pos n h, show gerr 0 n = 0 from if_neg (fun x => by omega)]
      go_enter Tryd.func78, Tryd.ntmps78
      go_wp2_with fail
      go_ret2
      exact ⟨rfl, rfl⟩
  · have e0 := u_ne h0
    rw [show gerr a n = 0 from if_neg (fun x => h0 x.1)]
    obtain ⟨t, ht⟩ : ∃ t, t = n.tmod 255 := ⟨_, rfl⟩
    have ht1 : n.tmod 255 = t := ht.symm
    have htl : -255 < t := by rw [ht, Int.tmod_eq_emod]; split <;> omega
    have hth : t < 255 := by rw [ht, Int.tmod_eq_emod]; split <;> omega
    obtain ⟨m, hm⟩ : ∃ m, m = (n % 255).toNat := ⟨_, rfl⟩
    have hm1 : (t + 255) % 255 = (m : Int) := by
      rw [hm, ht, Int.tmod_eq_emod]; split <;> omega
    have hml : m < 255 := by omega
    obtain ⟨s, hs⟩ : ∃ s, t + 255 = s := ⟨_, rfl⟩
    rw [hs] at hm1
    have hs0 : 0 ≤ s := by omega
    have hs1 : s < 510 := by omega
    have hg : gpow a n = pow a m := by unfold gpow; rw [if_neg h0, hm]
    obtain ⟨G, hG⟩ : ∃ G, G = gpow a n := ⟨_, rfl⟩
    have HG := Lib.hid (show mul 1 (pow a m) = G by rw [one_mul, hG, hg])
    rw [← hG]
    clear hG hg hm ht h0
    go_enter Tryd.func78, Tryd.ntmps78
    go_wp2_with fail
    clear e0
    go_loop [0, 1, 6] (fun x c p => ∃ (k : Nat) (y q : UInt8), k < 255 ∧ c = .int .i64 k ∧ x = .int .u8 (y.toNat : Int) ∧ p = .int .u8 (q.toNat : Int) ∧ mul q (pow y k) = G) (fun _ c _ => (intOf c).toNat)
    case atStart => exact ⟨m, a, 1, hml, by rw [hm1], rfl, rfl, HG.out⟩
    case round =>
      clear HG hml hm1 ht1 htl hth hs hs0 hs1
      obtain ⟨k, y, q, hk, rfl, rfl, rfl, hq⟩ := hrel
      have hbit := i64_low (k : Int)
      by_cases hk0 : k = 0
      · subst hk0
        rw [pow, mul_one] at hq
        subst hq
        clear hbit
        go_wp2_with fail
        go_ret2
        exact ⟨rfl, rfl⟩
      · have hpos : (0 : Int) < (k : Int) := by omega
        rw [pow_round] at hq
        rcases Nat.mod_two_eq_zero_or_one k with h | h
        · rw [if_neg (by omega)] at hq
          have hki : (k : Int) % 2 = 0 := by omega
          rw [hki] at hbit
          have HQ := Lib.hid hq
          clear hq hki h
          go_wp2_with (go_at_call 39; refine (mul_any _ _ _).mono ?_; rintro e w' ⟨rfl, rfl⟩)
          go_round
          case rel => exact ⟨k / 2, _, q, by omega, by go_num, rfl, rfl, HQ.out⟩
          case measure => simp [intOf]; omega
        · rw [if_pos h] at hq
          have hki : (k : Int) % 2 = 1 := by omega
          rw [hki] at hbit
          have HQ := Lib.hid hq
          clear hq hki h
          go_wp2_with (go_at_call 39; refine (mul_any _ _ _).mono ?_; rintro e w' ⟨rfl, rfl⟩)
          go_round
          case rel => exact ⟨k / 2, _, _, by omega, by go_num, rfl, rfl, HQ.out⟩
          case measure => simp [intOf]; omega
theorem gfinv_any (a : UInt8) (w : World) :
    Calls Tryd.prog 56 #[.int .u8 (a.toNat : Int)] w fun e w' => e = .returned (.tuple #[.int .u8 ((invz a).toNat : Int), .int .i64 (ierr a)]) ∧ w = w' := by
  rw [← gpow_inv, ← gerr_inv]
  go_enter Tryd.func56, Tryd.ntmps56
  go_wp2_with fail
  refine (gfpow_any a (-1) (by decide) (by decide) _).mono ?_
  rintro e w1 ⟨rfl, rfl⟩
  go_wp2_with fail
  go_ret2
  exact ⟨rfl, rfl⟩
theorem gfdiv_any (a b : UInt8) (w : World) :
    Calls Tryd.prog 46 #[.int .u8 (a.toNat : Int), .int .u8 (b.toNat : Int)] w fun e w' => e = .returned (.tuple #[.int .u8 ((mul a (invz b)).toNat : Int), .int .i64 (ierr b)]) ∧ w = w' := by
  go_enter Tryd.func46, Tryd.ntmps46
  go_wp2_with fail
  refine (gfinv_any b _).mono ?_
  rintro e w1 ⟨rfl, rfl⟩
  go_wp2_with fail
  refine (mul_any a (invz b) _).mono ?_
  rintro e w1 ⟨rfl, rfl⟩
  go_wp2_with fail
  go_ret2
  exact ⟨rfl, rfl⟩
end Go.Proofs.YtefpfedpgedloaaDoor
