/- lockboxref07.Mul. -/
import Derived.Test.YtefpfedpgedloaaDoorGMul
namespace Go.Proofs.YtefpfedpgedloaaDoor
open Go.RowKit
open Gf

theorem i64_xor_nat (a b : Nat) (ha : a < 65536) (hb : b < 65536) : bits .xor .i64 (a : Int) (b : Int) = ((a ^^^ b : Nat) : Int) := by
  show IntKind.i64.wrap ((BitVec.ofInt 64 _ ^^^ BitVec.ofInt 64 _).toNat : Nat) = _
  have e : ∀ n : Nat, n < 65536 → (BitVec.ofInt 64 (n : Int)).toNat = n := fun n h => by rw [BitVec.toNat_ofInt]; omega
  rw [BitVec.toNat_xor, e a ha, e b hb]
  have : a ^^^ b < 65536 := Nat.xor_lt_two_pow (n := 16) ha hb
  rw [IntKind.wrap_i64]
  omega
theorem testBit_div (x k : Nat) : x.testBit k = decide (x / 2 ^ k % 2 = 1) := by
  rw [Nat.testBit, Nat.shiftRight_eq_div_pow, Nat.one_and_eq_mod_two]
  rcases Nat.mod_two_eq_zero_or_one (x / 2 ^ k) with h | h <;> rw [h] <;> decide
theorem upF_yes {a b k q : Nat} (hk : k < 8) (h : b / 2 ^ k % 2 = 1) : upF a b (8 - (k + 1)) (q ^^^ (a * 2 ^ k)) = upF a b (8 - k) q := by
  obtain ⟨m, hm⟩ : ∃ m, 8 - k = m + 1 := ⟨7 - k, by omega⟩
  rw [hm, upF_succ, show 7 - m = k by omega, testBit_div, decide_eq_true h, if_pos rfl, show 8 - (k + 1) = m by omega]
theorem upF_no {a b k q : Nat} (hk : k < 8) (h : b / 2 ^ k % 2 = 0) : upF a b (8 - (k + 1)) q = upF a b (8 - k) q := by
  obtain ⟨m, hm⟩ : ∃ m, 8 - k = m + 1 := ⟨7 - k, by omega⟩
  rw [hm, upF_succ, show 7 - m = k by omega, testBit_div, decide_eq_false (by omega), if_neg (by decide), show 8 - (k + 1) = m by omega]
theorem downF_yes {m q : Nat} (h : q / 2 ^ (m + 8) % 2 = 1) : downF m (q ^^^ (283 * 2 ^ m)) = downF (m + 1) q := by
  rw [downF_succ, testBit_div, decide_eq_true h, if_pos rfl]
theorem downF_no {m q : Nat} (h : q / 2 ^ (m + 8) % 2 = 0) : downF m q = downF (m + 1) q := by
  rw [downF_succ, testBit_div, decide_eq_false (by omega), if_neg (by decide)]
theorem xor_small {a b : Nat} (ha : a < 65536) (hb : b < 65536) : a ^^^ b < 65536 := Nat.xor_lt_two_pow (n := 16) ha hb
theorem pow_le (k : Nat) (h : k ≤ 7) : 2 ^ k ≤ 128 := Nat.pow_le_pow_right (n := 2) (by decide) h
set_option maxRecDepth 100000 in
set_option maxHeartbeats 400000 in
theorem rmul_any (a b : UInt8) (w : World) :
    Calls Tryd.prog 40 #[.int .u8 (a.toNat : Int), .int .u8 (b.toNat : Int)] w fun e w' => e = .returned (.int .u8 ((mul a b).toNat : Int)) ∧ w = w' := by
  have hmul := ref_mul a.toNat_lt b.toNat_lt
  rw [← mul_nat] at hmul
  have hA := a.toNat_lt
  have hB := b.toNat_lt
  have hM := (mul a b).toNat_lt
  generalize (mul a b).toNat = M at *
  generalize a.toNat = A at *
  generalize b.toNat = B at *
  have HM := Lib.hid (And.intro hmul hM)
  clear hmul hM
  go_enter Tryd.func40, Tryd.ntmps40
  go_wp2_with fail
  go_loop [5, 6] (fun p i => ∃ k q : Nat, k ≤ 8 ∧ i = .int .i64 k ∧ p = .int .i64 (q : Int) ∧ q < 65536 ∧ upF A B (8 - k) q = upF A B 8 0) (fun _ i => 8 - (intOf i).toNat)
  case atStart => exact ⟨0, 0, by omega, rfl, rfl, by decide, rfl⟩
  case round =>
    obtain ⟨k, q, hk, rfl, rfl, hq, hu⟩ := hrel
    have HU := Lib.hid hu
    clear hu
    by_cases hlt : k < 8
    · obtain ⟨x, hx⟩ : ∃ x, x = B / 2 ^ k := ⟨_, rfl⟩
      obtain ⟨y, hy⟩ : ∃ y, y = A * 2 ^ k := ⟨_, rfl⟩
      have e1 : (B : Int) / 2 ^ k = (x : Int) := by rw [hx]; simp
      have e2 : (A : Int) * 2 ^ k = (y : Int) := by rw [hy]; simp
      have hyb : y < 65536 := by
        have := pow_le k (by omega)
        rw [hy]
        have := Nat.mul_le_mul (show A ≤ 255 by omega) this
        omega
      rcases Nat.mod_two_eq_zero_or_one x with hm | hm
      · have hn := upF_no (a := A) (q := q) hlt (hx ▸ hm)
        have hmi : ((x : Int) % 2 == 1) = false := by
          have : (x : Int) % 2 = 0 := by omega
          rw [this]; rfl
        have HN := Lib.hid hn
        clear hn hx hy hm
        go_wp2_with fail
        go_round
        case rel => exact ⟨k + 1, q, by omega, by go_num, rfl, hq, by rw [HN.out, HU.out]⟩
        case measure => simp [intOf]; omega
      · have hn := upF_yes (a := A) (q := q) hlt (hx ▸ hm)
        have hmi : ((x : Int) % 2 == 1) = true := by
          have : (x : Int) % 2 = 1 := by omega
          rw [this]; rfl
        have e3 := i64_xor_nat q y hq hyb
        rw [← hy] at hn
        have HN := Lib.hid (And.intro hn (xor_small hq hyb))
        clear hn hx hy hm
        go_wp2_with fail
        go_round
        case rel => exact ⟨k + 1, q ^^^ y, by omega, by go_num, rfl, HN.out.2, by rw [HN.out.1, HU.out]⟩
        case measure => simp [intOf]; omega
    · obtain rfl : k = 8 := by omega
      have hd : downF 7 q = M := by
        rw [← HM.out.1, ← HU.out]; rfl
      have HD := Lib.hid hd
      clear hd hlt hk HU
      go_wp2_with fail
      go_loop [5, 7] (fun p i => ∃ m q : Nat, m ≤ 7 ∧ i = .int .i64 ((m : Int) + 7) ∧ p = .int .i64 (q : Int) ∧ q < 65536 ∧ downF m q = M) (fun _ i => (intOf i).toNat)
      case atStart => exact ⟨7, q, by omega, rfl, rfl, hq, HD.out⟩
      case round =>
        clear HD hq
        obtain ⟨m, q, hm7, rfl, rfl, hq, hd⟩ := hrel
        have HD := Lib.hid hd
        clear hd
        match m with
        | 0 =>
          have hM := HM.out.2
          have hqM : q = M := HD.out
          subst hqM
          clear HD HM
          go_wp2_with fail
          go_ret
          exact ⟨rfl, rfl⟩
        | n + 1 =>
          obtain ⟨x, hx⟩ : ∃ x, x = q / 2 ^ (n + 8) := ⟨_, rfl⟩
          obtain ⟨y, hy⟩ : ∃ y, y = 283 * 2 ^ n := ⟨_, rfl⟩
          have e1 : (q : Int) / 2 ^ (n + 8) = (x : Int) := by rw [hx]; simp
          have hyb : y < 65536 := by
            have := pow_le n (by omega)
            rw [hy]; omega
          have e2 : (283 : Int) * 2 ^ n = (y : Int) := by rw [hy]; simp
          have e0 : ((n + 1 : Nat) : Int) + 7 = (n : Int) + 8 := by omega
          rw [e0]
          clear e0
          rcases Nat.mod_two_eq_zero_or_one x with hm | hm
          · have hn := downF_no (m := n) (q := q) (by rw [← hx]; exact hm)
            have hmi : ((x : Int) % 2 == 1) = false := by
              have : (x : Int) % 2 = 0 := by omega
              rw [this]; rfl
            have HN := Lib.hid hn
            clear hn hx hy hm
            go_wp2_with fail
            go_round
            case rel => exact ⟨n, q, by omega, by go_num, rfl, hq, by rw [HN.out, HD.out]⟩
            case measure => simp [intOf]; omega
          · have hn := downF_yes (m := n) (q := q) (by rw [← hx]; exact hm)
            have hmi : ((x : Int) % 2 == 1) = true := by
              have : (x : Int) % 2 = 1 := by omega
              rw [this]; rfl
            have e3 := i64_xor_nat q y hq hyb
            rw [← hy] at hn
            have HN := Lib.hid (And.intro hn (xor_small hq hyb))
            clear hn hx hy hm
            go_wp2_with fail
            go_round
            case rel => exact ⟨n, q ^^^ y, by omega, by go_num, rfl, HN.out.2, by rw [HN.out.1, HD.out]⟩
            case measure => simp [intOf]; omega
end Go.Proofs.YtefpfedpgedloaaDoor
