/- The reference's Num. -/
import Derived.Test.YtdfkpjmljaanpaaMC2
import Derived.Deep.RegionWith
import Derived.Deep.QuietTactic
import Derived.BigQuiet
import Derived.Outline
namespace Go.Proofs.Ytdfkpjmljaanpaa
open Go.RowKit
open Cn

theorem width_end {N j : Nat} (hN : N < 2 ^ 63) (h0 : N / 256 ^ j = 0) (h1 : j = 0 ∨ 0 < N / 256 ^ (j - 1)) : j = width N := by
  have hp : 0 < 256 ^ j := Nat.pow_pos (by decide)
  have hlt : N < 256 ^ j := by
    rcases Nat.div_eq_zero_iff.1 h0 with h | h
    · omega
    · exact h
  have h64 : N < 256 ^ width N := width_lt (by omega)
  rcases h1 with rfl | h1
  · have : N = 0 := by simpa using hlt
    subst this; decide
  · have hge : 256 ^ (j - 1) ≤ N := by
      rcases Nat.lt_or_ge N (256 ^ (j - 1)) with h | h
      · rw [Nat.div_eq_of_lt h] at h1; omega
      · exact h
    have hj8 : j ≤ 8 := by
      have : 256 ^ (j - 1) < 256 ^ 8 := by omega
      have := (Nat.pow_lt_pow_iff_right (by decide : 1 < 256)).1 this
      omega
    have := width_le hlt hj8
    have : 256 ^ (j - 1) < 256 ^ width N := by omega
    have := (Nat.pow_lt_pow_iff_right (by decide : 1 < 256)).1 this
    omega
theorem run_one (c : UInt8) (w : World) : (convert 47 9 (.slice (some ⟨w.heap.size, 0, none⟩) 1 1)).run Try.prog (w.alloc (.cells #[.int .u8 c.toNat] 5)) = .ok (.string ⟨#[c]⟩) (w.alloc (.cells #[.int .u8 c.toNat] 5)) := by
  have := run_convert_bytes_back (P := Try.prog) (w.alloc (.cells #[.int .u8 c.toNat] 5)) 47 9 5 ⟨w.heap.size, 0, none⟩ 1 [c] Try.underlying47 Try.underlying5 Try.underlying9 (fun j hj => by
    have hj' : j = 0 := by simpa using hj
    subst hj'
    rw [show (⟨w.heap.size, 0, none⟩ : Addr).add 0 = ⟨w.heap.size, 0, none⟩ by unfold Addr.add; split <;> simp_all, Lib.cell_of_heap (heap_alloc_new _ _)]
    rfl)
  simpa using this
end Go.Proofs.Ytdfkpjmljaanpaa
