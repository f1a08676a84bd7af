/- lockboxlaw03.awake. -/
import Derived.Test.YtdmbombjkinboaaZMore
namespace Go.Proofs.Ytdmbombjkinboaa
open Go.RowKit

theorem sum_c {s : ByteArray} {v : Int} (hs : s.size ≤ 100) (h : V (Zc.sum s.data.toList) = v) (w : World) :
    Calls Try.prog 28 #[.string s] w fun e w' => e = .returned (.int .u32 v) ∧ Below w.heap.size w w' := by
  rw [← h]; exact sum_any s (by unfold maxLen; omega) w
def a4 : BitVec 32 := Zc.sum [49, 50, 51, 52]
def a5 : BitVec 32 := Zc.sum [53, 54, 55, 56, 57]
theorem v9 : V (Zc.sum [49, 50, 51, 52, 53, 54, 55, 56, 57]) = 3421780262 := by decide +kernel
theorem v0 : V (Zc.sum []) = 0 := by decide +kernel
theorem vc : V (zerosI a4 5 ^^^ a5 ^^^ zerosI 0#32 5) = 3421780262 := by decide +kernel
theorem below_call {A B C : World} (h : Below A.heap.size A B) (k : Below B.heap.size B C) : Below A.heap.size A C := h.trans (k.mono h.size)
theorem u32_of {n : Int} (h : (Lit.int .u32 n).wf = true) : ∃ x : BitVec 32, n = V x := by
  simp only [Lit.wf, Bool.and_eq_true, decide_eq_true_eq] at h
  have h1 : (0 : Int) ≤ n := h.1
  have h2 : n ≤ 4294967295 := h.2
  refine ⟨BitVec.ofNat 32 n.toNat, ?_⟩
  rw [V_num _ (by omega)]; omega
end Go.Proofs.Ytdmbombjkinboaa
