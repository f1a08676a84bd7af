/- Walks of the small functions: turning a word, Blocks. -/
import Derived.Test.YtnpdmkgefaobeaaDoorRows
import Derived.Test.YtnpdmkgefaobeaaDoorSha
import Derived.WalkSpells
import Derived.WalkLawsBesides
import Derived.Lib.Hide
namespace Go.Proofs.YtnpdmkgefaobeaaDoor
open Go.RowKit

attribute [local go_sem] V_add V_add' V_xor V_and V_or V_not V_shr V_shl V_shl'

theorem ret_int {k : IntKind} {a b : Int} (h : a = b) : Ending.returned (.int k a) = .returned (.int k b) := by rw [h]

theorem neg_and31 (n : Int) (h0 : 1 ≤ n) (h1 : n ≤ 31) : bits .and .u64 (IntKind.u64.wrap (-n)) 31 = 32 - n := by
  rw [IntKind.wrap_u64]
  obtain ⟨k, rfl⟩ := Int.eq_ofNat_of_zero_le (show 0 ≤ n by omega)
  have e : (-(k : Int)) % 18446744073709551616 = ((18446744073709551616 - k : Nat) : Int) := by omega
  rw [e, show (31 : Int) = ((31 : Nat) : Int) from rfl, u64_and_nat _ _ (by omega) (by omega)]
  have : (18446744073709551616 - k) &&& 31 = (18446744073709551616 - k) % 2 ^ 5 := Nat.and_two_pow_sub_one_eq_mod _ 5
  rw [this]; omega

theorem ror_int (x : BitVec 32) (n : Int) (h0 : 1 ≤ n) (h1 : n ≤ 31) : x <<< (32 - n).toNat ||| x >>> (32 - (32 - n)).toNat = ror x n.toNat := by
  rw [show (32 - n).toNat = 32 - n.toNat by omega, show (32 - (32 - n)).toNat = n.toNat by omega]; exact ror_or x _

set_option maxHeartbeats 400000 in
theorem rotl_any (x : BitVec 32) (n : Int) (h0 : 1 ≤ n) (h1 : n ≤ 31) (w : World) :
    Calls Tryd.prog 54 #[.int .u32 (V x), .int .i64 (-n)] w fun e w' => e = .returned (.int .u32 (V (ror x n.toNat))) ∧ w = w' := by
  have hr := neg_and31 n h0 h1
  go_enter Tryd.func54, Tryd.ntmps54
  go_wp2
  go_ret
  exact ⟨ret_int (by rw [ror_int x n h0 h1]), rfl⟩

set_option maxHeartbeats 400000 in
theorem right_any (x : BitVec 32) (n : Int) (h0 : 1 ≤ n) (h1 : n ≤ 31) (w : World) :
    Calls Tryd.prog 52 #[.int .u32 (V x), .int .i64 n] w fun e w' => e = .returned (.int .u32 (V (ror x n.toNat))) ∧ w = w' := by
  go_enter Tryd.func52, Tryd.ntmps52
  go_wp2_with (go_at_call 54; refine (rotl_any _ _ h0 h1 _).mono ?_; rintro e w' ⟨rfl, rfl⟩)
  go_ret
  exact ⟨rfl, rfl⟩

theorem right_still (x : BitVec 32) (n : Int) (h0 : 1 ≤ n) (h1 : n ≤ 31) (w : World) :
    Calls Tryd.prog 52 #[.int .u32 (V x), .int .i64 n] w fun e w' => e = .returned (.int .u32 (V (ror x n.toNat))) ∧ w' = w :=
  (right_any x n h0 h1 w).mono fun _ _ ⟨h, k⟩ => ⟨h, k.symm⟩

theorem ror_add' (x : BitVec 32) (n : Int) (h0 : 1 ≤ n) (h1 : n ≤ 31) : x >>> n.toNat + x <<< (32 - n).toNat = ror x n.toNat := by
  rw [show (32 - n).toNat = 32 - n.toNat by omega]; exact ror_add x _ (by omega)

set_option maxHeartbeats 400000 in
theorem rright_any (x : BitVec 32) (n : Int) (h0 : 1 ≤ n) (h1 : n ≤ 31) (w : World) :
    Calls Tryd.prog 46 #[.int .u32 (V x), .int .u64 n] w fun e w' => e = .returned (.int .u32 (V (ror x n.toNat))) ∧ w = w' := by
  have e1 := ror_add' x n h0 h1
  go_enter Tryd.func46, Tryd.ntmps46
  go_wp2
  go_ret
  exact ⟨rfl, rfl⟩

/-- How many blocks. -/
def blocksI (n : Int) : Int := if n < 0 then 0 else if n % 64 + 9 > 64 then n / 64 + 2 else n / 64 + 1

theorem blocksI_neg {n : Int} (h : n < 0) : blocksI n = 0 := if_pos h
theorem blocksI_two {n : Int} (h0 : 0 ≤ n) (h1 : n % 64 + 9 > 64) : blocksI n = n / 64 + 1 + 1 := by
  rw [blocksI, if_neg (by omega), if_pos h1]; omega
theorem blocksI_one {n : Int} (h0 : 0 ≤ n) (h1 : ¬ n % 64 + 9 > 64) : blocksI n = n / 64 + 1 := by
  rw [blocksI, if_neg (by omega), if_neg h1]

set_option maxHeartbeats 400000 in
theorem blocks_any (n : Int) (h : n ≤ 9223372036854775807) (w : World) :
    Calls Tryd.prog 53 #[.int .i64 n] w fun e w' => e = .returned (.int .i64 (blocksI n)) ∧ w = w' := by
  by_cases h0 : n < 0
  · go_enter Tryd.func53, Tryd.ntmps53
    go_wp2
    go_ret
    exact ⟨ret_int (blocksI_neg h0).symm, rfl⟩
  · have h0' : 0 ≤ n := by omega
    clear h0
    by_cases h1 : n % 64 + 9 > 64
    · have H := Lib.hid (blocksI_two h0' h1)
      have hd : decide (64 < n % 64 + 1 + 8) = true := by simp; omega
      go_enter Tryd.func53, Tryd.ntmps53
      go_wp2
      go_ret
      exact ⟨ret_int H.out.symm, rfl⟩
    · have H := Lib.hid (blocksI_one h0' h1)
      have hd : decide (64 < n % 64 + 1 + 8) = false := by simp; omega
      go_enter Tryd.func53, Tryd.ntmps53
      go_wp2
      go_ret
      exact ⟨ret_int H.out.symm, rfl⟩
end Go.Proofs.YtnpdmkgefaobeaaDoor
