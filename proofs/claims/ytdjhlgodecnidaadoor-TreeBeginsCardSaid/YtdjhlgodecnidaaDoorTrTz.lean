/- math/bits.TrailingZeros: how often 2 divides. -/
import Derived.Test.YtdjhlgodecnidaaDoorTrCrM
import Derived.Shelf.Spec.TrailingZeros
namespace Go.Proofs.YtdjhlgodecnidaaDoor
open Go.RowKit
open Tr

/-- The library's table lies in its variable. -/
def TabZ (w : World) : Prop := TabAt 3 Lib.deBruijn64tab w
theorem TabZ.below {w w' : World} (h : TabZ w) (hb : Below w.heap.size w w') : TabZ w' := fun j hj => by
  have h1 := h j hj
  have h2 : 3 < w.heap.size := World.block_lt_of_cell? w _ h1
  rw [hb.cell (p := ⟨3, j, none⟩) h2]; exact h1
set_option maxRecDepth 100000 in
set_option maxHeartbeats 1000000 in
theorem tz64_core (x k idx : Nat) (w : World) (hx0 : ((x : Int) == 0) = false)
    (key : IntKind.u64.wrap (bits BinOp.and IntKind.u64 (x : Int) (IntKind.u64.wrap (-(x : Int))) * 285870213051353865) / 288230376151711744 = (idx : Int))
    (hi : idx < 64) (hk : k < 64) (hcell : w.cell? ⟨3, idx, none⟩ = some (.int .u8 k)) :
    Calls Tryd.prog 117 #[.int .u64 x] w fun e w' => e = .returned (.int .i64 k) ∧ w' = w := by
  go_enter Tryd.func117, Tryd.ntmps117
  go_wp2_with (simp only [key])
  go_ret
  exact ⟨rfl, rfl⟩
set_option maxRecDepth 100000 in
set_option maxHeartbeats 1000000 in
theorem tz_any (m : Nat) (h0 : 1 ≤ m) (hm : m ≤ 4096) (w : World) (hT : TabZ w) :
    Calls Tryd.prog 99 #[.int .u64 m] w fun e w' => e = .returned (.int .i64 (lv m)) ∧ w' = w := by
  have c64 : Calls Tryd.prog 117 #[.int .u64 m] w fun e w' => e = .returned (.int .i64 (lv m)) ∧ w' = w := by
    obtain ⟨hlow, hk⟩ := Lib.lowest_bit 64 m (by omega) (by omega)
    obtain ⟨hi, htab⟩ := Lib.deBruijn64_at _ hk
    have hcell := hT _ hi
    rw [htab] at hcell
    exact tz64_core m _ _ w (by simp; omega) (tz64_key m _ (by omega) (by omega) hlow) hi hk hcell
  have hw : IntKind.u64.wrap (m : Int) = (m : Int) := by rw [IntKind.wrap_u64]; omega
  have H := Lib.hid c64
  clear c64 hT
  go_enter Tryd.func99, Tryd.ntmps99
  go_wp2_with fail
  refine H.out.mono ?_
  rintro e w1 ⟨rfl, rfl⟩
  go_wp2_with fail
  go_ret
  exact ⟨rfl, rfl⟩
end Go.Proofs.YtdjhlgodecnidaaDoor
