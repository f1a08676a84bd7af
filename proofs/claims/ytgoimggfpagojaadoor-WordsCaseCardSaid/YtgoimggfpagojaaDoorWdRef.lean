/- The reference of words: letter, Norm, Put, Of, Tag, Tags (lockboxref15). -/
import Derived.Test.YtgoimggfpagojaaDoorWdMath
import Derived.Test.YtgoimggfpagojaaDoorMB
import Derived.Test.YtgoimggfpagojaaDoorOwnT
namespace Go.Proofs.YtgoimggfpagojaaDoor
open Go.RowKit

theorem let1_nat (c : UInt8) : Wd.let1 c = if 65 ≤ c.toNat ∧ c.toNat ≤ 90 then c + 32 else if (97 ≤ c.toNat ∧ c.toNat ≤ 122) ∨ (48 ≤ c.toNat ∧ c.toNat ≤ 57) then c else 0 := by
  unfold Wd.let1
  simp only [UInt8.le_iff_toNat_le]
  rfl
theorem let1_up {c : UInt8} (h1 : 65 ≤ c.toNat) (h2 : c.toNat ≤ 90) : (Wd.let1 c).toNat = c.toNat + 32 := by
  rw [let1_nat, if_pos ⟨h1, h2⟩, UInt8.toNat_add]
  show (c.toNat + 32) % 256 = _
  omega
theorem let1_low {c : UInt8} (h : (97 ≤ c.toNat ∧ c.toNat ≤ 122) ∨ (48 ≤ c.toNat ∧ c.toNat ≤ 57)) : Wd.let1 c = c := by
  rw [let1_nat, if_neg (by omega), if_pos h]
theorem let1_no {c : UInt8} (h1 : ¬ (65 ≤ c.toNat ∧ c.toNat ≤ 90)) (h2 : ¬ ((97 ≤ c.toNat ∧ c.toNat ≤ 122) ∨ (48 ≤ c.toNat ∧ c.toNat ≤ 57))) : Wd.let1 c = 0 := by
  rw [let1_nat, if_neg h1, if_neg h2]
set_option maxRecDepth 100000 in
set_option maxHeartbeats 1000000 in
theorem rletter_any (c : UInt8) (w : World) : Calls Tryd.prog 32 #[.int .u8 (c.toNat : Int)] w fun e w' => e = .returned (.int .u8 ((Wd.let1 c).toNat : Int)) ∧ w' = w := by
  have hlt := c.toNat_lt
  obtain ⟨n, hn⟩ : ∃ n, n = c.toNat := ⟨_, rfl⟩
  rw [← hn] at hlt ⊢
  obtain ⟨y, hy⟩ : ∃ y, y = (Wd.let1 c).toNat := ⟨_, rfl⟩
  rw [← hy]
  have hcases : (n < 48) ∨ (48 ≤ n ∧ n ≤ 57) ∨ (57 < n ∧ n < 65) ∨ (65 ≤ n ∧ n ≤ 90) ∨ (90 < n ∧ n < 97) ∨ (97 ≤ n ∧ n ≤ 122) ∨ (122 < n) := by omega
  rcases hcases with h | h | h | h | h | h | h
  · have hv : y = 0 := by
      rw [hy, let1_no (by omega) (by omega)]; rfl
    have g0 : ¬ ((65 : Int) ≤ (n : Int)) := by omega
    have g1 : (n : Int) ≤ 90 := by omega
    have g2 : ¬ ((97 : Int) ≤ (n : Int)) := by omega
    have g3 : (n : Int) ≤ 122 := by omega
    have g4 : ¬ ((48 : Int) ≤ (n : Int)) := by omega
    have g5 : (n : Int) ≤ 57 := by omega
    clear h hlt hn hy
    subst hv
    go_enter Tryd.func32, Tryd.ntmps32
    go_wp2_with fail
    go_ret
    exact ⟨rfl, rfl⟩
  · have hv : y = n := by
      rw [hy, let1_low (by omega), hn]
    have g0 : ¬ ((65 : Int) ≤ (n : Int)) := by omega
    have g1 : (n : Int) ≤ 90 := by omega
    have g2 : ¬ ((97 : Int) ≤ (n : Int)) := by omega
    have g3 : (n : Int) ≤ 122 := by omega
    have g4 : (48 : Int) ≤ (n : Int) := by omega
    have g5 : (n : Int) ≤ 57 := by omega
    clear h hlt hn hy
    subst hv
    go_enter Tryd.func32, Tryd.ntmps32
    go_wp2_with fail
    go_ret
    exact ⟨rfl, rfl⟩
  · have hv : y = 0 := by
      rw [hy, let1_no (by omega) (by omega)]; rfl
    have g0 : ¬ ((65 : Int) ≤ (n : Int)) := by omega
    have g1 : (n : Int) ≤ 90 := by omega
    have g2 : ¬ ((97 : Int) ≤ (n : Int)) := by omega
    have g3 : (n : Int) ≤ 122 := by omega
    have g4 : (48 : Int) ≤ (n : Int) := by omega
    have g5 : ¬ ((n : Int) ≤ 57) := by omega
    clear h hlt hn hy
    subst hv
    go_enter Tryd.func32, Tryd.ntmps32
    go_wp2_with fail
    go_ret
    exact ⟨rfl, rfl⟩
  · have hv : y = n + 32 := by
      rw [hy, let1_up (by omega) (by omega), hn]
    have g0 : (65 : Int) ≤ (n : Int) := by omega
    have g1 : (n : Int) ≤ 90 := by omega
    have g2 : ¬ ((97 : Int) ≤ (n : Int)) := by omega
    have g3 : (n : Int) ≤ 122 := by omega
    have g4 : (48 : Int) ≤ (n : Int) := by omega
    have g5 : ¬ ((n : Int) ≤ 57) := by omega
    have gw : IntKind.u8.wrap ((n : Int) + 32) = (y : Int) := by rw [hv, IntKind.wrap_u8]; omega
    clear h hlt hn hy hv
    go_enter Tryd.func32, Tryd.ntmps32
    go_wp2_with fail
    go_ret
    exact ⟨rfl, rfl⟩
  · have hv : y = 0 := by
      rw [hy, let1_no (by omega) (by omega)]; rfl
    have g0 : (65 : Int) ≤ (n : Int) := by omega
    have g1 : ¬ ((n : Int) ≤ 90) := by omega
    have g2 : ¬ ((97 : Int) ≤ (n : Int)) := by omega
    have g3 : (n : Int) ≤ 122 := by omega
    have g4 : (48 : Int) ≤ (n : Int) := by omega
    have g5 : ¬ ((n : Int) ≤ 57) := by omega
    clear h hlt hn hy
    subst hv
    go_enter Tryd.func32, Tryd.ntmps32
    go_wp2_with fail
    go_ret
    exact ⟨rfl, rfl⟩
  · have hv : y = n := by
      rw [hy, let1_low (by omega), hn]
    have g0 : (65 : Int) ≤ (n : Int) := by omega
    have g1 : ¬ ((n : Int) ≤ 90) := by omega
    have g2 : (97 : Int) ≤ (n : Int) := by omega
    have g3 : (n : Int) ≤ 122 := by omega
    have g4 : (48 : Int) ≤ (n : Int) := by omega
    have g5 : ¬ ((n : Int) ≤ 57) := by omega
    clear h hlt hn hy
    subst hv
    go_enter Tryd.func32, Tryd.ntmps32
    go_wp2_with fail
    go_ret
    exact ⟨rfl, rfl⟩
  · have hv : y = 0 := by
      rw [hy, let1_no (by omega) (by omega)]; rfl
    have g0 : (65 : Int) ≤ (n : Int) := by omega
    have g1 : ¬ ((n : Int) ≤ 90) := by omega
    have g2 : (97 : Int) ≤ (n : Int) := by omega
    have g3 : ¬ ((n : Int) ≤ 122) := by omega
    have g4 : (48 : Int) ≤ (n : Int) := by omega
    have g5 : ¬ ((n : Int) ≤ 57) := by omega
    clear h hlt hn hy
    subst hv
    go_enter Tryd.func32, Tryd.ntmps32
    go_wp2_with fail
    go_ret
    exact ⟨rfl, rfl⟩
end Go.Proofs.YtgoimggfpagojaaDoor
