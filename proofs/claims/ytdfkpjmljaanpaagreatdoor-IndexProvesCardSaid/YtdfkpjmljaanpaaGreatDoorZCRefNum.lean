/- CRefNum, what is wanted of it. -/
import Derived.Test.YtdfkpjmljaanpaaGreatDoorZMC2
import Derived.Deep.RegionWith
import Derived.Deep.QuietTactic
import Derived.BigQuiet
import Derived.Outline
namespace Go.Proofs.YtdfkpjmljaanpaaGreatDoor
open Go.RowKit
open Cn
theorem width_end {N j : Nat} (hN : N < 2 ^ 63) (h0 : N / 256 ^ j = 0) (h1 : j = 0 ∨ 0 < N / 256 ^ (j - 1)) : j = width N := by
  have hp : 0 < 256 ^ j := Nat.pow_pos (by decide)
  have hlt : N < 256 ^ j := by
    rcases Nat.div_eq_zero_iff.1 h0 with h | h
    · omega
    · exact h
  have h64 : N < 256 ^ width N := width_lt (by omega)
  rcases h1 with rfl | h1
  · have : N = 0 := by simpa using hlt
    subst this; decide
  · have hge : 256 ^ (j - 1) ≤ N := by
      rcases Nat.lt_or_ge N (256 ^ (j - 1)) with h | h
      · rw [Nat.div_eq_of_lt h] at h1; omega
      · exact h
    have hj8 : j ≤ 8 := by
      have : 256 ^ (j - 1) < 256 ^ 8 := by omega
      have := (Nat.pow_lt_pow_iff_right (by decide : 1 < 256)).1 this
      omega
    have := width_le hlt hj8
    have : 256 ^ (j - 1) < 256 ^ width N := by omega
    have := (Nat.pow_lt_pow_iff_right (by decide : 1 < 256)).1 this
    omega
theorem run_one (c : UInt8) (w : World) : (convert 107 9 (.slice (some ⟨w.heap.size, 0, none⟩) 1 1)).run Tryz.prog (w.alloc (.cells #[.int .u8 c.toNat] 5)) = .ok (.string ⟨#[c]⟩) (w.alloc (.cells #[.int .u8 c.toNat] 5)) := by
  have := run_convert_bytes_back (P := Tryz.prog) (w.alloc (.cells #[.int .u8 c.toNat] 5)) 107 9 5 ⟨w.heap.size, 0, none⟩ 1 [c] Tryz.underlying107 Tryz.underlying5 Tryz.underlying9 (fun j hj => by
    have hj' : j = 0 := by simpa using hj
    subst hj'
    rw [show (⟨w.heap.size, 0, none⟩ : Addr).add 0 = ⟨w.heap.size, 0, none⟩ by unfold Addr.add; split <;> simp_all, Lib.cell_of_heap (heap_alloc_new _ _)]
    rfl)
  simpa using this
set_option maxRecDepth 100000 in
set_option maxHeartbeats 400000 in
theorem rnum_any (N : Nat) (hN : N < 2 ^ 63) (w : World) :
    Calls Tryz.prog 195 #[.int .i64 N] w fun e w' => e = .returned (.string ⟨(num N).toArray⟩) ∧ Below w.heap.size w w' := by
  have HN := Lib.hid hN
  clear hN
  go_enter Tryz.func195, Tryz.ntmps195
  go_wp2_with fail
  go_loopw [0, 3] (fun nv sv wr => ∃ (j n : Nat) (t : ByteArray), nv = .int .i64 n ∧ sv = .string t ∧ n = N / 256 ^ j ∧ t.data.toList = be j N ∧ (j = 0 ∨ 0 < N / 256 ^ (j - 1)) ∧ Below w.heap.size w wr) (fun nv _ _ => (intOf nv).toNat)
  case atStart => exact ⟨0, N, _, rfl, rfl, by simp, rfl, .inl rfl, Below.refl _ _⟩
  case round =>
    obtain ⟨j, n, t, rfl, rfl, hn, ht, hj, hb⟩ := hrel
    have HR := Lib.hid (And.intro hn (And.intro ht (And.intro hj hb)))
    clear hn ht hj hb
    have hts : t.size ≤ 8 := by
      have h1 : t.size = j := by rw [← be_length N j, ← HR.out.2.1]; simp
      rw [h1]
      rcases HR.out.2.2.1 with h | h
      · omega
      · rcases Nat.lt_or_ge 8 j with h8 | h8
        · exfalso
          have h2 : 256 ^ 8 ≤ 256 ^ (j - 1) := Nat.pow_le_pow_right (by decide) (by omega)
          have h3 : N < 256 ^ (j - 1) := by have := HN.out; omega
          rw [Nat.div_eq_of_lt h3] at h
          omega
        · exact h8
    by_cases hp : 0 < n
    · have hpi : decide ((0 : Int) < n) = true := decide_eq_true (by omega)
      have hcv := run_one (UInt8.ofNat n) wr
      rw [show ((UInt8.ofNat n).toNat : Int) = (n : Int) % 256 by simp] at hcv
      have hnN : n ≤ N := by rw [HR.out.1]; exact Nat.div_le_self _ _
      have hnm : n < 2 ^ 63 := Nat.lt_of_le_of_lt hnN HN.out
      have hq : IntKind.i64.wrap ((n : Int) / 256) = ((n / 256 : Nat) : Int) := by rw [IntWalk.i64_in _ (by omega)]; rfl
      clear hnN hnm
      go_wp2_with fail
      go_roundw
      case rel =>
        refine ⟨j + 1, n / 256, _, by first | rfl | (rw [hq]; done) | go_num, rfl, ?_, ?_, .inr ?_, ?_⟩
        · rw [HR.out.1, Nat.div_div_eq_div_mul, Nat.pow_succ]
        · rw [be, ← HR.out.1, ← HR.out.2.1]; simp
        · rw [Nat.add_sub_cancel, ← HR.out.1]; exact hp
        · exact HR.out.2.2.2.alloc HR.out.2.2.2.size _
      case measure => simp [intOf]; omega
    · obtain rfl : n = 0 := by omega
      have hw := width_end HN.out HR.out.1.symm HR.out.2.2.1
      have h1 : t.size = j := by rw [← be_length N j, ← HR.out.2.1]; simp
      have hf : ((⟨#[UInt8.ofNat t.size]⟩ : ByteArray) ++ t) = ⟨(num N).toArray⟩ := by
        refine Go.WideShapes.bytes_inj ?_
        rw [num, ← hw, ← HR.out.2.1, h1]
        simp
      have hr : Ending.returned (.string ((⟨#[UInt8.ofNat t.size]⟩ : ByteArray) ++ t)) = Ending.returned (.string ⟨(num N).toArray⟩) := by rw [hf]
      clear hf h1 hw
      have hcv := run_one (UInt8.ofNat t.size) wr
      have h8 : (t.size : Int) % 256 = t.size := by omega
      rw [show ((UInt8.ofNat t.size).toNat : Int) = t.size by simp; omega] at hcv
      go_wp2_with fail
      go_ret
      exact ⟨hr, HR.out.2.2.2.alloc HR.out.2.2.2.size _⟩
end Go.Proofs.YtdfkpjmljaanpaaGreatDoor
