/- lockboxref07.Inv. -/
import Derived.Test.YtefpfedpgedloaaDoorGRMul
import Derived.Test.YtefpfedpgedloaaDoorGPow
namespace Go.Proofs.YtefpfedpgedloaaDoor
open Go.RowKit
open Gf

theorem byte_of {k : Nat} (h : k < 256) : ∃ c : UInt8, c.toNat = k := ⟨UInt8.ofNat k, by rw [UInt8.toNat_ofNat']; exact Nat.mod_eq_of_lt h⟩
theorem u_eq (a b : UInt8) : ((a.toNat : Int) == (b.toNat : Int)) = decide (a = b) := by
  by_cases h : a = b
  · subst h; simp
  · rw [decide_eq_false h]
    have h1 : a.toNat ≠ b.toNat := fun e => h (UInt8.toNat_inj.1 e)
    have h2 : (a.toNat : Int) ≠ (b.toNat : Int) := by omega
    exact beq_eq_false_iff_ne.2 h2
set_option maxRecDepth 100000 in
set_option maxHeartbeats 400000 in
theorem rinv_any (a : UInt8) (w : World) :
    Calls Tryd.prog 44 #[.int .u8 (a.toNat : Int)] w fun e w' => e = .returned (.tuple #[.int .u8 ((invz a).toNat : Int), .int .i64 (ierr a)]) ∧ w = w' := by
  obtain ⟨R, hR⟩ : ∃ R, R = invz a := ⟨_, rfl⟩
  obtain ⟨E, hE⟩ : ∃ E, E = ierr a := ⟨_, rfl⟩
  rw [← hR, ← hE]
  have HR := Lib.hid (And.intro hR hE)
  clear hR hE
  go_enter Tryd.func44, Tryd.ntmps44
  go_wp2_with fail
  go_loop [4] (fun i => ∃ k : Nat, 1 ≤ k ∧ k ≤ 256 ∧ i = .int .i64 k ∧ ∀ c : UInt8, 1 ≤ c.toNat → c.toNat < k → mul a c ≠ 1) (fun i => 256 - (intOf i).toNat)
  case atStart => exact ⟨1, by omega, by omega, rfl, fun c h1 h2 => by omega⟩
  case round =>
    obtain ⟨k, hk1, hk, rfl, hall⟩ := hrel
    have HA := Lib.hid hall
    clear hall
    by_cases hlt : k < 256
    · obtain ⟨c, rfl⟩ := byte_of hlt
      by_cases h1 : mul a c = 1
      · have ha : a ≠ 0 := fun e => by rw [e, zero_mul] at h1; exact absurd h1 (by decide)
        obtain rfl : R = c := by rw [HR.out.1]; unfold invz; rw [if_neg ha]; exact (inv_only h1).symm
        obtain rfl : E = 0 := by rw [HR.out.2]; exact if_neg ha
        have he : (((mul a R).toNat : Int) == 1) = true := by rw [h1]; rfl
        clear h1 ha HR HA
        go_wp2_with (go_at_call 40; refine (rmul_any _ _ _).mono ?_; rintro e w' ⟨rfl, rfl⟩)
        go_ret2
        exact ⟨rfl, rfl⟩
      · have he : (((mul a c).toNat : Int) == 1) = false := by
          have := u_eq (mul a c) 1
          rw [decide_eq_false h1] at this
          exact this
        have HN := Lib.hid h1
        clear h1
        go_wp2_with (go_at_call 40; refine (rmul_any _ _ _).mono ?_; rintro e w' ⟨rfl, rfl⟩)
        go_round
        case rel =>
          refine ⟨c.toNat + 1, by omega, by omega, by go_num, fun d h1 h2 => ?_⟩
          by_cases e : d.toNat = c.toNat
          · rw [UInt8.toNat_inj.1 e]; exact HN.out
          · exact HA.out d h1 (by omega)
        case measure => simp [intOf]; omega
    · obtain rfl : k = 256 := by omega
      have ha : a = 0 := by
        rcases Decidable.em (a = 0) with h | h
        · exact h
        · exfalso
          have h2 := mul_inv h
          have h3 : inv a ≠ 0 := fun e => by rw [e, mul_zero] at h2; exact absurd h2 (by decide)
          obtain ⟨n, hn, _⟩ := nat_ne h3
          exact HA.out (inv a) (by omega) (inv a).toNat_lt h2
      subst ha
      clear HA
      obtain rfl : R = 0 := HR.out.1
      obtain rfl : E = 1 := HR.out.2
      clear HR
      go_wp2_with fail
      go_ret2
      exact ⟨rfl, rfl⟩
end Go.Proofs.YtefpfedpgedloaaDoor
