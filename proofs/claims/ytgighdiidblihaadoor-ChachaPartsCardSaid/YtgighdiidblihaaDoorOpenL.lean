/- Opening an argument that is a Lock: two texts and a number. -/
import Derived.Test.YtgighdiidblihaaDoorProg
import Derived.ProofKit
import Derived.OpenShut
namespace Go.Proofs.YtgighdiidblihaaDoor
open Go.RowKit

theorem cellsOfL : Tryd.prog.cellsOf 23 = 3 := by kernel_rfl
theorem cellsOfStr : Tryd.prog.cellsOf 9 = 1 := by kernel_rfl
theorem cellsOfInt : Tryd.prog.cellsOf 3 = 1 := by kernel_rfl
/-- A lock, as an argument's cells. -/
def lock (a b : ByteArray) (n : Int) : Array Value := #[.string a, .string b, .int .i64 n]
theorem open_lock {H : Type} {enc : TypeId × Value → H} {W : World} {fuel : Nat} {cs : List Value} {x : DataW H × List MemPlace}
    (h : DataW.trod enc Tryd.prog W 0 (fun _ => true) true fuel 23 cs = some x) : ∃ (a b : ByteArray) (n : Int), cs = (lock a b n).toList ∧ a.size ≤ maxLen ∧ b.size ≤ maxLen ∧ -9223372036854775808 ≤ n ∧ n ≤ 9223372036854775807 := by
  obtain ⟨xs, m, hm, hx, hl, hlen, hf⟩ := DataW.trod_struct Tryd.underlying23 h
  rw [cellsOfL] at hl
  match cs, hl, xs, hlen with
  | [c0, c1, c2], _, [y0, y1, y2], _ =>
    have f0 : DataW.trod enc Tryd.prog W 0 (fun _ => true) true m 9 (([c0, c1, c2].drop 0).take (Tryd.prog.cellsOf 9)) = some y0 := hf 0 _ rfl
    have f1 : DataW.trod enc Tryd.prog W 0 (fun _ => true) true m 9 (([c0, c1, c2].drop 1).take (Tryd.prog.cellsOf 9)) = some y1 := hf 1 _ rfl
    have f2 : DataW.trod enc Tryd.prog W 0 (fun _ => true) true m 3 (([c0, c1, c2].drop 2).take (Tryd.prog.cellsOf 3)) = some y2 := hf 2 _ rfl
    rw [cellsOfStr] at f0 f1
    rw [cellsOfInt] at f2
    obtain ⟨n0, e0, -, w0⟩ := DataW.trod_string Tryd.underlying9 f0
    obtain ⟨n1, e1, -, w1⟩ := DataW.trod_string Tryd.underlying9 f1
    obtain ⟨n2, e2, -, w2⟩ := DataW.trod_int Tryd.underlying3 f2
    simp at e0 e1 e2
    subst e0 e1 e2
    have hb := bounds_i64 w2
    exact ⟨n0, n1, n2, rfl, w0, w1, hb.1, hb.2⟩
end Go.Proofs.YtgighdiidblihaaDoor
