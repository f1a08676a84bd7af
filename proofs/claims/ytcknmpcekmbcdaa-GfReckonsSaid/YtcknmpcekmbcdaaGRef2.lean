/- gf.Exp; lockboxref07.Exp, Log, Pow. -/
import Derived.Test.YtcknmpcekmbcdaaGRInv
namespace Go.Proofs.Ytcknmpcekmbcdaa
open Go.RowKit
open Gf

theorem exp_any (n : Int) (hlo : -9223372036854775808 ≤ n) (hhi : n ≤ 9223372036854775807) (w : World) :
    Calls Try.prog 20 #[.int .i64 n] w fun e w' => e = .returned (.int .u8 ((pow 3 (n % 255).toNat).toNat : Int)) ∧ w = w' := by
  go_enter Try.func20, Try.ntmps20
  go_wp2_with fail
  refine (gfpow_any 3 n hlo hhi _).mono ?_
  rintro e w1 ⟨rfl, rfl⟩
  go_wp2_with fail
  go_ret
  exact ⟨rfl, rfl⟩
theorem mul3_any (n : Nat) (w : World) :
    Calls Try.prog 15 #[.int .u8 ((pow 3 n).toNat : Int), .int .u8 3] w fun e w' => e = .returned (.int .u8 ((pow 3 (n + 1)).toNat : Int)) ∧ w = w' := rmul_any (pow 3 n) 3 w
set_option maxRecDepth 100000 in
set_option maxHeartbeats 400000 in
theorem rexp_any (n : Int) (w : World) :
    Calls Try.prog 21 #[.int .i64 n] w fun e w' => e = .returned (.int .u8 ((pow 3 (n % 255).toNat).toNat : Int)) ∧ w = w' := by
  obtain ⟨t, ht⟩ : ∃ t, t = n.tmod 255 := ⟨_, rfl⟩
  have ht1 : n.tmod 255 = t := ht.symm
  have htl : -255 < t := by rw [ht, Int.tmod_eq_emod]; split <;> omega
  have hth : t < 255 := by rw [ht, Int.tmod_eq_emod]; split <;> omega
  obtain ⟨m, hm⟩ : ∃ m, m = (n % 255).toNat := ⟨_, rfl⟩
  have hml : m < 255 := by omega
  have ht2 := ht
  rw [Int.tmod_eq_emod] at ht2
  have hneg : t < 0 → t + 255 = (m : Int) := fun h => by rw [hm]; split at ht2 <;> omega
  have hpos : ¬ t < 0 → t = (m : Int) := fun h => by rw [hm]; split at ht2 <;> omega
  rw [← hm]
  clear hm ht ht2
  by_cases h : t < 0
  · have hs := hneg h
    clear hneg hpos
    go_enter Try.func21, Try.ntmps21
    go_wp2_with fail
    clear ht1 h htl hth hs
    go_loop [4, 5] (fun p i => ∃ k : Nat, k ≤ m ∧ i = .int .i64 k ∧ p = .int .u8 ((pow 3 k).toNat : Int)) (fun _ i => m - (intOf i).toNat)
    case atStart => exact ⟨0, by omega, rfl, rfl⟩
    case round =>
      obtain ⟨k, hk, rfl, rfl⟩ := hrel
      by_cases hlt : k < m
      · go_wp2_with (go_at_call 15; refine (mul3_any k _).mono ?_; rintro e w' ⟨rfl, rfl⟩)
        go_round
        case rel => exact ⟨k + 1, by omega, by go_num, rfl⟩
        case measure => simp [intOf]; omega
      · obtain rfl : k = m := by omega
        go_wp2_with fail
        go_ret
        exact ⟨rfl, rfl⟩
  · have hs := hpos h
    clear hneg hpos
    subst hs
    go_enter Try.func21, Try.ntmps21
    go_wp2_with fail
    clear ht1 h htl hth
    go_loop [4, 5] (fun p i => ∃ k : Nat, k ≤ m ∧ i = .int .i64 k ∧ p = .int .u8 ((pow 3 k).toNat : Int)) (fun _ i => m - (intOf i).toNat)
    case atStart => exact ⟨0, by omega, rfl, rfl⟩
    case round =>
      obtain ⟨k, hk, rfl, rfl⟩ := hrel
      by_cases hlt : k < m
      · go_wp2_with (go_at_call 15; refine (mul3_any k _).mono ?_; rintro e w' ⟨rfl, rfl⟩)
        go_round
        case rel => exact ⟨k + 1, by omega, by go_num, rfl⟩
        case measure => simp [intOf]; omega
      · obtain rfl : k = m := by omega
        go_wp2_with fail
        go_ret
        exact ⟨rfl, rfl⟩
/-- The log; of 0: 0. -/
def logz (a : UInt8) : Nat := if a = 0 then 0 else logN a
set_option maxRecDepth 100000 in
set_option maxHeartbeats 400000 in
theorem rlog_any (a : UInt8) (w : World) :
    Calls Try.prog 19 #[.int .u8 (a.toNat : Int)] w fun e w' => e = .returned (.tuple #[.int .i64 (logz a), .int .i64 (ierr a)]) ∧ w = w' := by
  obtain ⟨R, hR⟩ : ∃ R, R = logz a := ⟨_, rfl⟩
  obtain ⟨E, hE⟩ : ∃ E, E = ierr a := ⟨_, rfl⟩
  rw [← hR, ← hE]
  have HR := Lib.hid (And.intro hR hE)
  clear hR hE
  go_enter Try.func19, Try.ntmps19
  go_wp2_with fail
  go_loop [4, 5] (fun p i => ∃ k : Nat, k ≤ 255 ∧ i = .int .i64 k ∧ p = .int .u8 ((pow 3 k).toNat : Int) ∧ ∀ j, j < k → pow 3 j ≠ a) (fun _ i => 255 - (intOf i).toNat)
  case atStart => exact ⟨0, by omega, rfl, rfl, fun j h => by omega⟩
  case round =>
    obtain ⟨k, hk, rfl, rfl, hall⟩ := hrel
    have HA := Lib.hid hall
    clear hall
    by_cases hlt : k < 255
    · have heq := u_eq (pow 3 k) a
      by_cases h1 : pow 3 k = a
      · have ha : a ≠ 0 := fun e => pow3_ne k (h1.trans e)
        obtain rfl : R = k := by rw [HR.out.1]; unfold logz; rw [if_neg ha, ← h1, logN_pow hlt]
        obtain rfl : E = 0 := by rw [HR.out.2]; exact if_neg ha
        rw [decide_eq_true h1] at heq
        clear h1 ha HR HA
        go_wp2_with fail
        go_ret2
        exact ⟨rfl, rfl⟩
      · rw [decide_eq_false h1] at heq
        have HN := Lib.hid h1
        clear h1
        go_wp2_with (go_at_call 15; refine (mul3_any k _).mono ?_; rintro e w' ⟨rfl, rfl⟩)
        go_round
        case rel =>
          refine ⟨k + 1, by omega, by go_num, rfl, fun j h2 => ?_⟩
          by_cases e : j = k
          · rw [e]; exact HN.out
          · exact HA.out j (by omega)
        case measure => simp [intOf]; omega
    · obtain rfl : k = 255 := by omega
      have ha : a = 0 := by
        rcases Decidable.em (a = 0) with h | h
        · exact h
        · exact absurd (pow_logN h) (HA.out _ (logN_lt h))
      subst ha
      clear HA
      obtain rfl : R = 0 := HR.out.1
      obtain rfl : E = 1 := HR.out.2
      clear HR
      go_wp2_with fail
      go_ret2
      exact ⟨rfl, rfl⟩
theorem mulp_any (a : UInt8) (n : Nat) (w : World) :
    Calls Try.prog 15 #[.int .u8 ((pow a n).toNat : Int), .int .u8 (a.toNat : Int)] w fun e w' => e = .returned (.int .u8 ((pow a (n + 1)).toNat : Int)) ∧ w = w' := rmul_any (pow a n) a w
set_option maxRecDepth 100000 in
set_option maxHeartbeats 400000 in
theorem rpow_any (a : UInt8) (n : Int) (hlo : -300 ≤ n) (hhi : n ≤ 300) (w : World) :
    Calls Try.prog 17 #[.int .u8 (a.toNat : Int), .int .i64 n] w fun e w' => e = .returned (.tuple #[.int .u8 ((gpow a n).toNat : Int), .int .i64 (gerr a n)]) ∧ w = w' := by
  by_cases hn : n < 0
  · by_cases ha : a = 0
    · subst ha
      rw [gpow_zero_neg n hn, show gerr 0 n = 1 from if_pos ⟨rfl, hn⟩]
      have hinv := rinv_any 0
      rw [show invz 0 = 0 from rfl, show ierr 0 = 1 from rfl] at hinv
      have HI := Lib.hid hinv
      clear hinv
      go_enter Try.func17, Try.ntmps17
      go_wp2_with (go_at_call 10; refine (HI.out _).mono ?_; rintro e w' ⟨rfl, rfl⟩)
      go_ret2
      exact ⟨rfl, rfl⟩
    · rw [show gerr a n = 0 from if_neg (fun x => ha x.1)]
      have hinv := rinv_any a
      rw [show invz a = inv a from if_neg ha, show ierr a = 0 from if_neg ha] at hinv
      obtain ⟨m, hm⟩ : ∃ m : Nat, -n = (m : Int) := ⟨(-n).toNat, by omega⟩
      have hg : gpow a n = pow (inv a) m := by rw [← gpow_neg ha m]; congr 1; omega
      rw [hg]
      have hml : m ≤ 300 := by omega
      generalize inv a = b at *
      have HI := Lib.hid hinv
      clear hinv hg ha
      go_enter Try.func17, Try.ntmps17
      go_wp2_with (go_at_call 10; refine (HI.out _).mono ?_; rintro e w' ⟨rfl, rfl⟩)
      go_loop [8, 9] (fun p i => ∃ k : Nat, k ≤ m ∧ i = .int .i64 k ∧ p = .int .u8 ((pow b k).toNat : Int)) (fun _ i => m - (intOf i).toNat)
      case atStart => exact ⟨0, by omega, rfl, rfl⟩
      case round =>
        obtain ⟨k, hk, rfl, rfl⟩ := hrel
        by_cases hlt : k < m
        · go_wp2_with (go_at_call 15; refine (mulp_any b k _).mono ?_; rintro e w' ⟨rfl, rfl⟩)
          go_round
          case rel => exact ⟨k + 1, by omega, by go_num, rfl⟩
          case measure => simp [intOf]; omega
        · obtain rfl : k = m := by omega
          go_wp2_with fail
          go_ret2
          exact ⟨rfl, rfl⟩
  · obtain ⟨m, rfl⟩ : ∃ m : Nat, n = (m : Int) := ⟨n.toNat, by omega⟩
    rw [show gerr a m = 0 from if_neg (fun x => hn x.2), gpow_nat]
    go_enter Try.func17, Try.ntmps17
    go_wp2_with fail
    go_loop [8, 9] (fun p i => ∃ k : Nat, k ≤ m ∧ i = .int .i64 k ∧ p = .int .u8 ((pow a k).toNat : Int)) (fun _ i => m - (intOf i).toNat)
    case atStart => exact ⟨0, by omega, rfl, rfl⟩
    case round =>
      obtain ⟨k, hk, rfl, rfl⟩ := hrel
      by_cases hlt : k < m
      · go_wp2_with (go_at_call 15; refine (mulp_any a k _).mono ?_; rintro e w' ⟨rfl, rfl⟩)
        go_round
        case rel => exact ⟨k + 1, by omega, by go_num, rfl⟩
        case measure => simp [intOf]; omega
      · obtain rfl : k = m := by omega
        go_wp2_with fail
        go_ret2
        exact ⟨rfl, rfl⟩
end Go.Proofs.Ytcknmpcekmbcdaa
