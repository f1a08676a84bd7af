/- lockboxlaw07.awake. -/
import Derived.Test.YtcknmpcekmbcdaaGTable
namespace Go.Proofs.Ytcknmpcekmbcdaa
open Go.RowKit
open Gf

/-- A byte that comes in. -/
theorem u8_of {n : Int} (h : (Lit.int .u8 n).wf = true) : ∃ b : UInt8, n = (b.toNat : Int) := by
  simp only [Lit.wf, Bool.and_eq_true, decide_eq_true_eq] at h
  have h1 : 0 ≤ n := h.1
  have h2 : n ≤ 255 := h.2
  refine ⟨UInt8.ofNat n.toNat, ?_⟩
  rw [UInt8.toNat_ofNat', Nat.mod_eq_of_lt (show n.toNat < 256 by omega)]
  omega
theorem aw_inv (w : World) : Calls Try.prog 9 #[.int .u8 83] w fun e w' => e = .returned (.tuple #[.int .u8 202, .int .i64 0]) ∧ w = w' := by
  have h := gfinv_any 83 w
  rw [show invz 83 = 202 by decide +kernel, show ierr 83 = 0 by decide] at h
  exact h
theorem aw_log (w : World) : Calls Try.prog 18 #[.int .u8 3] w fun e w' => e = .returned (.tuple #[.int .i64 1, .int .i64 0]) ∧ Below w.heap.size w w' := by
  have h := log_any 3 w
  rw [show logz 3 = 1 by decide +kernel, show ierr 3 = 0 by decide] at h
  exact h
theorem aw_mul (w : World) : Calls Try.prog 14 #[.int .u8 87, .int .u8 131] w fun e w' => e = .returned (.int .u8 193) ∧ w = w' := by
  have h := mul_any 87 131 w
  rw [show mul 87 131 = 193 by decide +kernel] at h
  exact h
theorem aw_exp (w : World) : Calls Try.prog 20 #[.int .i64 1] w fun e w' => e = .returned (.int .u8 3) ∧ w = w' := by
  have h := exp_any 1 (by decide) (by decide) w
  rw [show pow 3 ((1 : Int) % 255).toNat = 3 by decide +kernel] at h
  exact h
set_option maxHeartbeats 400000 in
theorem awake_any (w : World) :
    Calls Try.prog 12 #[] w fun e w' => e = .returned (.bool true) ∧ Below w.heap.size w w' := by
  go_enter Try.func12, Try.ntmps12
  go_wp2_with fail
  refine (aw_inv _).mono ?_
  rintro e w1 ⟨rfl, rfl⟩
  go_wp2_with fail
  refine (aw_log _).mono ?_
  rintro e w1 ⟨rfl, hb⟩
  have HB := Lib.hid hb
  clear hb
  go_wp2_with fail
  refine (aw_mul _).mono ?_
  rintro e w2 ⟨rfl, rfl⟩
  go_wp2_with fail
  refine (aw_exp _).mono ?_
  rintro e w2 ⟨rfl, rfl⟩
  go_wp2_with fail
  go_ret
  exact ⟨rfl, HB.out⟩
end Go.Proofs.Ytcknmpcekmbcdaa
