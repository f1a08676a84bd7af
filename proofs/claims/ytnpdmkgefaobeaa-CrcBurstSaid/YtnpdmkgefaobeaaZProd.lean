/- crc.product, crc.Zeros, crc.Combine. -/
import Derived.Test.YtnpdmkgefaobeaaZStep
import Derived.Deep.LoopGhost
import Derived.ScopeJumps
namespace Go.Proofs.Ytnpdmkgefaobeaa
open Go.RowKit
attribute [local go_sem] V_xor V_and V_or V_not V_not' V_and1 V_xorT V_div2 V_div16 V_and15 V_andH

theorem V_shl1 (x : BitVec 32) : IntKind.u32.wrap (V x * 2) = V (x <<< 1) := V_shl x 1
theorem V_shl1' (x : BitVec 32) : V x * 2 % 4294967296 = V (x <<< 1) := V_shl' x 1
attribute [local go_sem] V_shl1 V_shl1'
theorem and_H_ne (x : BitVec 32) (h : x.getLsbD 31 = true) : V (x &&& Zc.H) ≠ 0 := by
  intro e
  have : x &&& Zc.H = 0#32 := V_inj (y := 0#32) e
  have := congrArg (fun y => y.getLsbD 31) this
  rw [BitVec.getLsbD_and, h, BitVec.getLsbD_zero] at this
  exact absurd this (by decide)
theorem and_H_eq (x : BitVec 32) (h : x.getLsbD 31 = false) : x &&& Zc.H = 0#32 := by
  apply BitVec.eq_of_getLsbD_eq
  intro i hi
  rw [BitVec.getLsbD_and, BitVec.getLsbD_zero]
  by_cases e : i = 31
  · subst e; rw [h]; rfl
  · have : ∀ i, i < 32 → i ≠ 31 → Zc.H.getLsbD i = false := by decide
    rw [this i hi e, Bool.and_false]
theorem V_zero0 : V 0#32 = 0 := rfl
theorem V_pos_ne {x : BitVec 32} (h : x ≠ 0#32) : V x ≠ 0 := fun e => h (V_inj (y := 0#32) e)

set_option maxHeartbeats 400000 in
theorem product_any (a b : BitVec 32) (w : World) :
    Calls Try.prog 23 #[.int .u32 (V a), .int .u32 (V b)] w fun e w' => e = .returned (.int .u32 (V (Zc.prod a b 32))) ∧ w = w' := by
  go_enter Try.func23, Try.ntmps23
  go_wp2
  go_loopg [0, 1, 5] 32 (fun g x y p wr => ∃ n : Nat, n + g = 32 ∧ x = .int .u32 (V (a <<< n)) ∧ y = .int .u32 (V (Zc.Sn n b)) ∧ p = .int .u32 (V (Zc.prod a b n)) ∧ wr = w)
  case atStart => exact ⟨0, rfl, by simp, rfl, rfl, rfl⟩
  case round =>
    obtain ⟨n, hn, rfl, rfl, rfl, rfl⟩ := hrel
    obtain ⟨x, hx⟩ : ∃ x, x = a <<< n := ⟨_, rfl⟩
    obtain ⟨y, hy⟩ : ∃ y, y = Zc.Sn n b := ⟨_, rfl⟩
    obtain ⟨p, hp⟩ : ∃ p, p = Zc.prod a b n := ⟨_, rfl⟩
    rw [← hx, ← hy, ← hp]
    have HX := Lib.hid (And.intro hx (And.intro hy hp))
    have HN := Lib.hid hn
    clear hx hy hp hn
    by_cases h0 : x = 0#32
    · have hd : Zc.prod a b 32 = p := by
        rw [HX.out.2.2]; exact (Zc.prod_done a b n (by have := HN.out; omega) (HX.out.1 ▸ h0)).symm
      have HD := Lib.hid hd
      clear hd
      subst h0
      have e1 : (V 0#32 != 0) = false := by decide
      go_wp2
      go_ret
      exact ⟨by rw [HD.out]; rfl, rfl⟩
    · have e0 := V_pos_ne h0
      have e1 : (V x != 0) = true := by simpa using e0
      have hlt : n < 32 := by
        rcases Nat.lt_or_ge n 32 with h | h
        · exact h
        · exfalso; apply h0
          have : n = 32 := by have := HN.out; omega
          rw [HX.out.1, this, Zc.shl_32]
      have HL := Lib.hid hlt
      clear hlt e0
      have hsh : x <<< 1 = a <<< (n + 1) := by rw [HX.out.1, BitVec.shiftLeft_add]
      have hps := Zc.prod_shl a b n HL.out
      rw [← HX.out.1, ← HX.out.2.2, ← HX.out.2.1] at hps
      have HS := Lib.hid (And.intro hsh hps)
      clear hsh hps
      cases hb : x.getLsbD 31 with
      | true =>
        have e2 := and_H_ne x hb
        have e3 : (V (x &&& Zc.H) != 0) = true := by simpa using e2
        have HB := Lib.hid hb
        clear hb e2
        go_wp2_with (go_at_call 16; refine (step0_any _ _).mono ?_; rintro e w' ⟨rfl, rfl⟩)
        go_roundg (gk - 1)
        case measure => have := HN.out; have := HL.out; omega
        case rel => exact ⟨n + 1, by have := HN.out; have := HL.out; omega, by rw [HS.out.1], by rw [HX.out.2.1]; rfl, by rw [HS.out.2, HB.out]; rfl, rfl⟩
      | false =>
        have e2 := and_H_eq x hb
        have HB := Lib.hid hb
        clear hb
        have e3 : (V 0#32 != 0) = false := by decide
        go_wp2_with (go_at_call 16; refine (step0_any _ _).mono ?_; rintro e w' ⟨rfl, rfl⟩)
        go_roundg (gk - 1)
        case measure => have := HN.out; have := HL.out; omega
        case rel => exact ⟨n + 1, by have := HN.out; have := HL.out; omega, by rw [HS.out.1], by rw [HX.out.2.1]; rfl, by rw [HS.out.2, HB.out, cond_false, BitVec.xor_zero], rfl⟩
theorem zeros_nonpos (r : BitVec 32) (n : Int) (hn : n ≤ 0) (w : World) :
    Calls Try.prog 18 #[.int .u32 (V r), .int .i64 n] w fun e w' => e = .returned (.int .u32 (V r)) ∧ w = w' := by
  go_enter Try.func18, Try.ntmps18
  go_wp2
  refine wp_scope_straight ?_
  go_wp2
  try rw [Exit.noGoto_ret]
  go_ret
  exact ⟨rfl, rfl⟩

/-- What holds wherever the run jumps back: m of the number is left; the register, behind as many bits 0 as the power has, m times, is the one that is asked for. -/
def ZJ (r : BitVec 32) (G : BitVec 32) (w : World) (a : Act) (w' : World) : Prop :=
  ∃ (m k : Nat) (q : BitVec 32) (u7 u8 u9 u10 u11 u12 u13 u14 u15 u16 u17 u18 u19 u20 u21 u22 u23 u24 u25 u26 u27 : Value), a = { tmps := #[.int .u32 (V r), .int .i64 (m : Int), undef, undef, .int .u32 0, .int .u32 (V q), .int .u32 (V (Zc.Sn k Zc.H)), u7, u8, u9, u10, u11, u12, u13, u14, u15, u16, u17, u18, u19, u20, u21, u22, u23, u24, u25, u26, u27], defers := [] } ∧ 0 < m ∧ m ≤ 9223372036854775807 ∧ Zc.Sn (k * m) q = G ∧ w = w'
theorem zj_even {m k : Nat} {q G : BitVec 32} (h : Zc.Sn (k * m) q = G) (hm : m % 2 = 0) : Zc.Sn ((k + k) * (m / 2)) q = G := by
  rw [← h]; congr 1
  rw [← Nat.two_mul, Nat.mul_comm 2 k, Nat.mul_assoc, show 2 * (m / 2) = m by omega]
theorem zj_odd {m k : Nat} {q G : BitVec 32} (h : Zc.Sn (k * m) q = G) (hm : m % 2 = 1) : Zc.Sn ((k + k) * (m / 2)) (Zc.Sn k q) = G := by
  rw [← h, ← Zc.Sn_add]; congr 1
  rw [← Nat.two_mul, Nat.mul_comm 2 k, Nat.mul_assoc]
  have : k * m = k * (2 * (m / 2) + 1) := by congr 1; omega
  rw [this, Nat.mul_add, Nat.mul_one]

theorem i64_and1 (n : Int) : bits .and .i64 n 1 = n % 2 := by
  have h1 : (BitVec.ofInt 64 1).toNat = 2 ^ 1 - 1 := by decide
  have key : (BitVec.ofInt 64 n &&& BitVec.ofInt 64 1).toNat = (n % ((2 ^ 64 : Nat) : Int)).toNat % 2 ^ 1 := by
    rw [BitVec.toNat_and, BitVec.toNat_ofInt, h1, Nat.and_two_pow_sub_one_eq_mod]
  show IntKind.i64.wrap ((BitVec.ofInt 64 n &&& BitVec.ofInt 64 1).toNat : Nat) = n % 2
  rw [key, IntKind.wrap_i64]
  omega
theorem power_any (q : BitVec 32) (k : Nat) (w : World) :
    Calls Try.prog 23 #[.int .u32 (V q), .int .u32 (V (Zc.Sn k Zc.H))] w fun e w' => e = .returned (.int .u32 (V (Zc.Sn k q))) ∧ w = w' := by
  rw [← Zc.prod_all q k]; exact product_any _ _ _
theorem square_any (k : Nat) (w : World) :
    Calls Try.prog 23 #[.int .u32 (V (Zc.Sn k Zc.H)), .int .u32 (V (Zc.Sn k Zc.H))] w fun e w' => e = .returned (.int .u32 (V (Zc.Sn (k + k) Zc.H))) ∧ w = w' := by
  rw [Zc.Sn_add]; exact power_any _ _ _
theorem zj_done {m k : Nat} {q G : BitVec 32} (h : Zc.Sn (k * m) q = G) (hm : m % 2 = 1) (h2 : m / 2 = 0) : Zc.Sn k q = G := by
  rw [← h]; congr 1; rw [show m = 1 by omega, Nat.mul_one]

theorem zb8 (k : Nat) (hk : k = 8) (w : World) :
    Calls Try.prog 21 #[.int .u32 2147483648, .int .i64 8] w fun e w' => e = .returned (.int .u32 (V (Zc.Sn k Zc.H))) ∧ w = w' := by
  subst hk; exact zeroBits_any Zc.H 8 (by decide) w

set_option maxHeartbeats 1000000 in
theorem zeros_pos (r : BitVec 32) (n : Nat) (hn : n ≤ 9223372036854775807) (h0 : 0 < n) (w : World) :
    Calls Try.prog 18 #[.int .u32 (V r), .int .i64 n] w fun e w' => e = .returned (.int .u32 (V (Zc.zeros r n))) ∧ w = w' := by
  have h0' : ¬ ((n : Int) ≤ 0) := by omega
  obtain ⟨k, hk⟩ : ∃ k, k = 8 := ⟨_, rfl⟩
  obtain ⟨G, hg⟩ : ∃ G, G = Zc.Sn (8 * n) (~~~r) := ⟨_, rfl⟩
  have hG : Zc.Sn (k * n) (~~~r) = G := by rw [hk, hg]
  have hz : Zc.zeros r n = ~~~G := by rw [hg]; rfl
  rw [hz]
  have HG := Lib.hid hG
  have HK := Lib.hid hk
  clear hG hk hg hz
  go_enter Try.func18, Try.ntmps18
  go_wp2
  refine wp_scope_jumps 0 (ZJ r G w) (fun a' _ => (intOf (a'.tmps.getD 1 undef)).toNat) rfl ?_ ?_
  · have hbit := i64_and1 (n : Int)
    have HM := Lib.hid (And.intro h0 hn)
    by_cases hp : n % 2 = 0
    · have hp' : (n : Int) % 2 = 0 := by omega
      rw [hp'] at hbit
      have hq : 0 < (n : Int) / 2 := by omega
      have HP := Lib.hid (And.intro hp trivial)
      clear hp hp'
      go_wp2_with fail
      refine (zb8 _ HK.out _).mono ?_
      rintro e w' ⟨rfl, rfl⟩
      go_wp2_with fail
      go_step3
      go_wp2_with fail
      refine (square_any _ _).mono ?_
      rintro e w' ⟨rfl, rfl⟩
      go_wp2_with fail
      go_step3
      exact ⟨rfl, n / 2, k + k, (~~~r), _, _, _, _, _, _, _, _, _, _, _, _, _, _, _, _, _, _, _, _, _, rfl, by have := HM.out; omega, by have := HM.out; omega, zj_even HG.out HP.out.1, rfl⟩
    · have hp' : (n : Int) % 2 = 1 := by omega
      rw [hp'] at hbit
      by_cases hq0 : n / 2 = 0
      · have hq : ¬ 0 < (n : Int) / 2 := by omega
        have HP := Lib.hid (And.intro hp hq0)
        clear hp hp' hq0
        go_wp2_with fail
        refine (zb8 _ HK.out _).mono ?_
        rintro e w' ⟨rfl, rfl⟩
        go_wp2_with fail
        go_step3
        go_wp2_with fail
        refine (power_any _ _ _).mono ?_
        rintro e w' ⟨rfl, rfl⟩
        go_wp2_with fail
        simp only [Exit.jump]
        go_ret
        exact ⟨by rw [zj_done HG.out (by have := HP.out; omega) HP.out.2]; rfl, rfl⟩
      · have hq : 0 < (n : Int) / 2 := by omega
        have HP := Lib.hid (And.intro (show n % 2 = 1 by omega) hq0)
        clear hp hp' hq0
        go_wp2_with fail
        refine (zb8 _ HK.out _).mono ?_
        rintro e w' ⟨rfl, rfl⟩
        go_wp2_with fail
        go_step3
        go_wp2_with fail
        refine (power_any _ _ _).mono ?_
        rintro e w' ⟨rfl, rfl⟩
        go_wp2_with fail
        refine (square_any _ _).mono ?_
        rintro e w' ⟨rfl, rfl⟩
        go_wp2_with fail
        go_step3
        exact ⟨rfl, n / 2, k + k, Zc.Sn k (~~~r), _, _, _, _, _, _, _, _, _, _, _, _, _, _, _, _, _, _, _, _, _, rfl, by have := HM.out; omega, by have := HM.out; omega, zj_odd HG.out HP.out.1, rfl⟩
  · clear HG HK hn h0 h0'
    rintro a' w' ⟨m, k, q, u7, u8, u9, u10, u11, u12, u13, u14, u15, u16, u17, u18, u19, u20, u21, u22, u23, u24, u25, u26, u27, rfl, hm0, hm, hG, rfl⟩
    have hbit := i64_and1 (m : Int)
    have HG := Lib.hid hG
    have HM := Lib.hid (And.intro hm0 hm)
    clear hG
    by_cases hp : m % 2 = 0
    · have hp' : (m : Int) % 2 = 0 := by omega
      rw [hp'] at hbit
      have hq : 0 < (m : Int) / 2 := by omega
      have HP := Lib.hid (And.intro hp trivial)
      clear hp hp'
      go_wp2_with fail
      refine (square_any _ _).mono ?_
      rintro e w' ⟨rfl, rfl⟩
      go_wp2_with fail
      go_step3
      refine ⟨rfl, ⟨m / 2, k + k, q, _, _, _, _, _, _, _, _, _, _, _, _, _, _, _, _, _, _, _, _, _, rfl, by have := HM.out; omega, by have := HM.out; omega, zj_even HG.out HP.out.1, rfl⟩, ?_⟩
      simp [intOf]; omega
    · have hp' : (m : Int) % 2 = 1 := by omega
      rw [hp'] at hbit
      by_cases hq0 : m / 2 = 0
      · have hq : ¬ 0 < (m : Int) / 2 := by omega
        have HP := Lib.hid (And.intro hp hq0)
        clear hp hp' hq0
        go_wp2_with fail
        refine (power_any _ _ _).mono ?_
        rintro e w' ⟨rfl, rfl⟩
        go_wp2_with fail
        simp only [Exit.jump]
        go_ret
        exact ⟨by rw [zj_done HG.out (by have := HP.out; omega) HP.out.2]; rfl, rfl⟩
      · have hq : 0 < (m : Int) / 2 := by omega
        have HP := Lib.hid (And.intro (show m % 2 = 1 by omega) hq0)
        clear hp hp' hq0
        go_wp2_with fail
        refine (power_any _ _ _).mono ?_
        rintro e w' ⟨rfl, rfl⟩
        go_wp2_with fail
        refine (square_any _ _).mono ?_
        rintro e w' ⟨rfl, rfl⟩
        go_wp2_with fail
        go_step3
        refine ⟨rfl, ⟨m / 2, k + k, Zc.Sn k q, _, _, _, _, _, _, _, _, _, _, _, _, _, _, _, _, _, _, _, _, _, rfl, by have := HM.out; omega, by have := HM.out; omega, zj_odd HG.out HP.out.1, rfl⟩, ?_⟩
        simp [intOf]; omega
end Go.Proofs.Ytnpdmkgefaobeaa
