/- lockboxlaw03.awake. -/
import Derived.Test.YtnpdmkgefaobeaaZMore
namespace Go.Proofs.Ytnpdmkgefaobeaa
open Go.RowKit

theorem sum_c {s : ByteArray} {v : Int} (hs : s.size ≤ 100) (h : V (Zc.sum s.data.toList) = v) (w : World) :
    Calls Try.prog 12 #[.string s] w fun e w' => e = .returned (.int .u32 v) ∧ Below w.heap.size w w' := by
  rw [← h]; exact sum_any s (by unfold maxLen; omega) w
def a4 : BitVec 32 := Zc.sum [49, 50, 51, 52]
def a5 : BitVec 32 := Zc.sum [53, 54, 55, 56, 57]
theorem v9 : V (Zc.sum [49, 50, 51, 52, 53, 54, 55, 56, 57]) = 3421780262 := by decide +kernel
theorem v0 : V (Zc.sum []) = 0 := by decide +kernel
theorem vc : V (zerosI a4 5 ^^^ a5 ^^^ zerosI 0#32 5) = 3421780262 := by decide +kernel
theorem combine_c (w : World) :
    Calls Try.prog 20 #[.int .u32 (V a4), .int .u32 (V a5), .int .i64 5] w fun e w' => e = .returned (.int .u32 3421780262) ∧ w = w' := by
  rw [← vc]; exact combine_any a4 a5 5 (by decide) w
set_option maxHeartbeats 400000 in
theorem awake_any (w : World) :
    Calls Try.prog 11 #[] w fun e w' => e = .returned (.bool true) ∧ Below w.heap.size w w' := by
  go_enter Try.func11, Try.ntmps11
  go_wp2_with fail
  refine (sum_c (by decide) v9 _).mono ?_
  rintro e w1 ⟨rfl, h1⟩
  go_wp2_with fail
  refine (sum_c (by decide) v0 _).mono ?_
  rintro e w2 ⟨rfl, h2⟩
  go_wp2_with fail
  refine (sum_c (v := V a4) (by decide) rfl _).mono ?_
  rintro e w3 ⟨rfl, h3⟩
  go_wp2_with fail
  refine (sum_c (v := V a5) (by decide) rfl _).mono ?_
  rintro e w4 ⟨rfl, h4⟩
  go_wp2_with fail
  refine (combine_c _).mono ?_
  rintro e w5 ⟨rfl, rfl⟩
  go_wp2_with fail
  go_ret
  exact ⟨rfl, ((h1.trans (h2.mono h1.size)).trans (h3.mono (Nat.le_trans h1.size h2.size))).trans (h4.mono (Nat.le_trans (Nat.le_trans h1.size h2.size) h3.size))⟩
theorem below_call {A B C : World} (h : Below A.heap.size A B) (k : Below B.heap.size B C) : Below A.heap.size A C := h.trans (k.mono h.size)
theorem u32_of {n : Int} (h : (Lit.int .u32 n).wf = true) : ∃ x : BitVec 32, n = V x := by
  simp only [Lit.wf, Bool.and_eq_true, decide_eq_true_eq] at h
  have h1 : (0 : Int) ≤ n := h.1
  have h2 : n ≤ 4294967295 := h.2
  refine ⟨BitVec.ofNat 32 n.toNat, ?_⟩
  rw [V_num _ (by omega)]; omega
end Go.Proofs.Ytnpdmkgefaobeaa
