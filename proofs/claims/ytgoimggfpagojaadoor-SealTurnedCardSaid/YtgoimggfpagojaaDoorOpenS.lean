/- Opening an argument that is an array of two bytes (and, imported, of two texts). -/
import Derived.Test.YtgoimggfpagojaaDoorOpenT
import Derived.ProofKit
import Derived.OpenShut
namespace Go.Proofs.YtgoimggfpagojaaDoor
open Go.RowKit

theorem u8_of' {n : Int} (h : (Lit.int .u8 n).wf = true) : ∃ x : UInt8, n = (x.toNat : Int) := by
  simp only [Lit.wf, Bool.and_eq_true, decide_eq_true_eq] at h
  have h1 : (0 : Int) ≤ n := h.1
  have h2 : n ≤ 255 := h.2
  refine ⟨UInt8.ofNat n.toNat, ?_⟩
  rw [UInt8.toNat_ofNat']; omega
theorem cellsOfB2 : Tryd.prog.cellsOf 53 = 2 := by kernel_rfl
theorem cellsOfB1 : Tryd.prog.cellsOf 5 = 1 := by kernel_rfl
/-- Two bytes, as an argument's cells. -/
def two8 (a b : UInt8) : Array Value := #[.int .u8 (a.toNat : Int), .int .u8 (b.toNat : Int)]
set_option maxRecDepth 100000 in
theorem open_two8 {H : Type} {enc : TypeId × Value → H} {W : World} {fuel : Nat} {cs : List Value} {x : DataW H × List MemPlace}
    (h : DataW.trod enc Tryd.prog W 0 (fun _ => true) true fuel 53 cs = some x) : ∃ a b : UInt8, cs = (two8 a b).toList := by
  obtain ⟨xs, n, hn, hx, hl, hlen, hf⟩ := DataW.trod_array Tryd.underlying53 h
  rw [cellsOfB2] at hl
  match cs, hl, xs, hlen with
  | [c0, c1], _, [y0, y1], _ =>
    have f0 := hf 0 (by decide)
    have f1 := hf 1 (by decide)
    rw [cellsOfB1] at f0 f1
    obtain ⟨n0, e0, -, w0⟩ := DataW.trod_int Tryd.underlying5 (x := y0) f0
    obtain ⟨n1, e1, -, w1⟩ := DataW.trod_int Tryd.underlying5 (x := y1) f1
    simp at e0 e1
    subst e0 e1
    obtain ⟨a, rfl⟩ := u8_of' w0
    obtain ⟨b, rfl⟩ := u8_of' w1
    exact ⟨a, b, rfl⟩
end Go.Proofs.YtgoimggfpagojaaDoor
