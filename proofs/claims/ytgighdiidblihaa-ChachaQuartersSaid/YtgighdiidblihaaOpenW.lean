/- Opening an argument that is an array of four words. -/
import Derived.Test.YtgighdiidblihaaProg
import Derived.Test.YtgighdiidblihaaSha
import Derived.ProofKit
import Derived.OpenShut
namespace Go.Proofs.Ytgighdiidblihaa
open Go.RowKit

theorem laidOut : laidOutB Try.prog = true := by kernel_rfl
theorem okWide_array {P : Program} {w : World} {r : Reach} {base : Nat} {t e : TypeId} {n : Nat} {v : Value} (ht : P.underlying t = some (.array n e)) (h : Value.okWide P w r base t v) : ∃ cs, v = .agg cs ∧ cs.size = P.cellsOf t := by
  simp only [Value.okWide, ht] at h
  obtain ⟨cs, h1, h2, _⟩ := h
  exact ⟨cs, h1, h2⟩
theorem u32_of {n : Int} (h : (Lit.int .u32 n).wf = true) : ∃ x : BitVec 32, n = V x := by
  simp only [Lit.wf, Bool.and_eq_true, decide_eq_true_eq] at h
  have h1 : (0 : Int) ≤ n := h.1
  have h2 : n ≤ 4294967295 := h.2
  refine ⟨BitVec.ofNat 32 n.toNat, ?_⟩
  rw [V_num _ (by omega)]; omega
theorem cellsOfW4 : Try.prog.cellsOf 23 = 4 := by kernel_rfl
theorem cellsOfU32 : Try.prog.cellsOf 22 = 1 := by kernel_rfl
/-- Four words, as an argument's cells. -/
def words4 (a b c d : BitVec 32) : Array Value := #[.int .u32 (V a), .int .u32 (V b), .int .u32 (V c), .int .u32 (V d)]
theorem open_words4 {H : Type} {enc : TypeId × Value → H} {W : World} {fuel : Nat} {cs : List Value} {x : DataW H × List MemPlace}
    (h : DataW.trod enc Try.prog W 0 (fun _ => true) true fuel 23 cs = some x) : ∃ a b c d : BitVec 32, cs = (words4 a b c d).toList := by
  obtain ⟨xs, n, hn, hx, hl, hlen, hf⟩ := DataW.trod_array Try.underlying23 h
  rw [cellsOfW4] at hl
  match cs, hl, xs, hlen with
  | [c0, c1, c2, c3], _, [y0, y1, y2, y3], _ =>
    have f0 := hf 0 (by decide)
    have f1 := hf 1 (by decide)
    have f2 := hf 2 (by decide)
    have f3 := hf 3 (by decide)
    rw [cellsOfU32] at f0 f1 f2 f3
    obtain ⟨n0, e0, -, w0⟩ := DataW.trod_int Try.underlying22 (x := y0) f0
    obtain ⟨n1, e1, -, w1⟩ := DataW.trod_int Try.underlying22 (x := y1) f1
    obtain ⟨n2, e2, -, w2⟩ := DataW.trod_int Try.underlying22 (x := y2) f2
    obtain ⟨n3, e3, -, w3⟩ := DataW.trod_int Try.underlying22 (x := y3) f3
    simp at e0 e1 e2 e3
    subst e0 e1 e2 e3
    obtain ⟨a, rfl⟩ := u32_of w0
    obtain ⟨b, rfl⟩ := u32_of w1
    obtain ⟨c, rfl⟩ := u32_of w2
    obtain ⟨d, rfl⟩ := u32_of w3
    exact ⟨a, b, c, d, rfl⟩
end Go.Proofs.Ytgighdiidblihaa
