/- math/bits.RotateLeft32, chacha.Quarter; lockboxref05.left, Quarter. -/
import Derived.Test.YtgoimggfpagojaaDoorProg
import Derived.Test.YtgoimggfpagojaaDoorQMath
import Derived.Test.YtgoimggfpagojaaDoorMB
import Derived.WalkSpells
import Derived.WalkLawsBesides
import Derived.LoopTactic
import Derived.Lib.Hide
import Derived.Deep.DeepMust
import Derived.Deep.AppendLies
import Derived.Laws.OwnMore
namespace Go.Proofs.YtgoimggfpagojaaDoor
open Go.RowKit

attribute [local go_sem] V_add V_add' V_xor V_and V_or V_not V_shr V_shl V_shl'

theorem and31 (n : Int) (h0 : 1 ≤ n) (h1 : n ≤ 31) : bits .and .u64 n 31 = n := by
  obtain ⟨k, rfl⟩ := Int.eq_ofNat_of_zero_le (show 0 ≤ n by omega)
  rw [show (31 : Int) = ((31 : Nat) : Int) from rfl, u64_and_nat _ _ (by omega) (by omega)]
  have : k &&& 31 = k % 2 ^ 5 := Nat.and_two_pow_sub_one_eq_mod _ 5
  rw [this]; omega
theorem rol_int (x : BitVec 32) (n : Int) (h0 : 1 ≤ n) (h1 : n ≤ 31) : x <<< n.toNat ||| x >>> (32 - n).toNat = rol x n.toNat := by
  rw [show (32 - n).toNat = 32 - n.toNat by omega]; rfl
theorem rol_int' (x : BitVec 32) (n : Int) (h0 : 1 ≤ n) (h1 : n ≤ 31) : x <<< n.toNat + x >>> (32 - n).toNat = rol x n.toNat := by
  rw [show (32 - n).toNat = 32 - n.toNat by omega]; exact rol_add x _ (by omega)
theorem qret_int {k : IntKind} {a b : Int} (h : a = b) : Ending.returned (.int k a) = .returned (.int k b) := by rw [h]
set_option maxHeartbeats 400000 in
theorem rol_any (x : BitVec 32) (n : Int) (h0 : 1 ≤ n) (h1 : n ≤ 31) (w : World) :
    Calls Tryd.prog 144 #[.int .u32 (V x), .int .i64 n] w fun e w' => e = .returned (.int .u32 (V (rol x n.toNat))) ∧ w = w' := by
  have hr := and31 n h0 h1
  go_enter Tryd.func144, Tryd.ntmps144
  go_wp2
  go_ret
  exact ⟨qret_int (by rw [← rol_int x n h0 h1]), rfl⟩
set_option maxHeartbeats 400000 in
theorem left_any (x : BitVec 32) (n : Int) (h0 : 1 ≤ n) (h1 : n ≤ 31) (w : World) :
    Calls Tryd.prog 146 #[.int .u32 (V x), .int .u64 n] w fun e w' => e = .returned (.int .u32 (V (rol x n.toNat))) ∧ w = w' := by
  go_enter Tryd.func146, Tryd.ntmps146
  go_wp2
  go_ret
  exact ⟨qret_int (by rw [← rol_int' x n h0 h1]), rfl⟩

/-- Four words, as a value's cells. -/
def cells4 (q : Qr) : Array Value := #[.int .u32 (V q.a), .int .u32 (V q.b), .int .u32 (V q.c), .int .u32 (V q.d)]
set_option maxHeartbeats 400000 in
theorem quarter_any (q : Qr) (w : World) :
    Calls Tryd.prog 135 #[.int .u32 (V q.a), .int .u32 (V q.b), .int .u32 (V q.c), .int .u32 (V q.d)] w fun e w' => e = .returned (.agg (cells4 (qtr q))) ∧ Below w.heap.size w w' := by
  go_enter Tryd.func135, Tryd.ntmps135
  go_wp2_with (go_at_call 144; refine (rol_any _ _ (by decide) (by decide) _).mono ?_; rintro e w' ⟨rfl, rfl⟩)
  exact bodyPost_ret (results_cell_row rfl _ _ w.heap.size 172 (cells4 (qtr q)) (0, 0) _ rfl (heap_alloc_new w (.cells (cells4 (qtr q)) 172)) Tryd.underlying172 rfl (by kernel_rfl)) rfl ⟨rfl, (Below.refl _ _).alloc (Nat.le_refl _) _⟩
end Go.Proofs.YtgoimggfpagojaaDoor
