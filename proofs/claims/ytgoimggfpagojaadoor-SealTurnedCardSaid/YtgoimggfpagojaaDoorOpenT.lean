/- Opening an argument that is an array of two texts. -/
import Derived.Test.YtgoimggfpagojaaDoorProg
import Derived.ProofKit
import Derived.OpenShut
namespace Go.Proofs.YtgoimggfpagojaaDoor
open Go.RowKit

theorem okWide_array {P : Program} {w : World} {r : Reach} {base : Nat} {t e : TypeId} {n : Nat} {v : Value} (ht : P.underlying t = some (.array n e)) (h : Value.okWide P w r base t v) : ∃ cs, v = .agg cs ∧ cs.size = P.cellsOf t := by
  simp only [Value.okWide, ht] at h
  obtain ⟨cs, h1, h2, _⟩ := h
  exact ⟨cs, h1, h2⟩
theorem cellsOfT2 : Tryd.prog.cellsOf 47 = 2 := by kernel_rfl
theorem cellsOfStr : Tryd.prog.cellsOf 9 = 1 := by kernel_rfl
/-- Two texts, as an argument's cells. -/
def texts2 (a b : ByteArray) : Array Value := #[.string a, .string b]
set_option maxRecDepth 100000 in
theorem open_texts2 {H : Type} {enc : TypeId × Value → H} {W : World} {fuel : Nat} {cs : List Value} {x : DataW H × List MemPlace}
    (h : DataW.trod enc Tryd.prog W 0 (fun _ => true) true fuel 47 cs = some x) : ∃ a b : ByteArray, cs = (texts2 a b).toList ∧ a.size ≤ maxLen ∧ b.size ≤ maxLen := by
  obtain ⟨xs, n, hn, hx, hl, hlen, hf⟩ := DataW.trod_array Tryd.underlying47 h
  rw [cellsOfT2] at hl
  match cs, hl, xs, hlen with
  | [c0, c1], _, [y0, y1], _ =>
    have f0 := hf 0 (by decide)
    have f1 := hf 1 (by decide)
    rw [cellsOfStr] at f0 f1
    obtain ⟨n0, e0, -, w0⟩ := DataW.trod_string Tryd.underlying9 (x := y0) f0
    obtain ⟨n1, e1, -, w1⟩ := DataW.trod_string Tryd.underlying9 (x := y1) f1
    simp at e0 e1
    subst e0 e1
    exact ⟨n0, n1, rfl, w0, w1⟩
end Go.Proofs.YtgoimggfpagojaaDoor
