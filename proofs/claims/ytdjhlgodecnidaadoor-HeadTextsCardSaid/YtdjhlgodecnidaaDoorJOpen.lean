/- Opening an argument that is a Head. -/
import Derived.Test.YtdjhlgodecnidaaDoorProg
import Derived.WalkKit
import Derived.Lib.Hide
import Derived.ProofKit
import Derived.OpenShut
import Derived.Deep.Slices
import Derived.Test.YtdjhlgodecnidaaDoorJMath
namespace Go.Proofs.YtdjhlgodecnidaaDoor
open Go.RowKit Go.ChangeShapes Go.WideShapes Go.ChangeAt

theorem cellsOfHd : Tryd.prog.cellsOf 57 = 4 := by kernel_rfl
theorem cellsOfStrH : Tryd.prog.cellsOf 9 = 1 := by kernel_rfl
theorem cellsOfIntH : Tryd.prog.cellsOf 3 = 1 := by kernel_rfl
structure Hd.Ok (h : Hd) : Prop where
  n : -9223372036854775808 ≤ h.n ∧ h.n ≤ 9223372036854775807
  r : h.r.size ≤ maxLen
  t : -9223372036854775808 ≤ h.t ∧ h.t ≤ 9223372036854775807
  c : h.c.size ≤ maxLen
set_option maxRecDepth 100000 in
theorem open_head {H : Type} {enc : TypeId × Value → H} {W : World} {fuel : Nat} {cs : List Value} {x : DataW H × List MemPlace}
    (h : DataW.trod enc Tryd.prog W 0 (fun _ => true) true fuel 57 cs = some x) : ∃ a : Hd, cs = a.cs.toList ∧ a.Ok := by
  obtain ⟨xs, m, hm, hx, hl, hlen, hf⟩ := DataW.trod_struct Tryd.underlying57 h
  rw [cellsOfHd] at hl
  match cs, hl, xs, hlen with
  | [c0, c1, c2, c3], _, [y0, y1, y2, y3], _ =>
    have f0 : DataW.trod enc Tryd.prog W 0 (fun _ => true) true m 3 (([c0, c1, c2, c3].drop 0).take (Tryd.prog.cellsOf 3)) = some y0 := hf 0 _ rfl
    have f1 : DataW.trod enc Tryd.prog W 0 (fun _ => true) true m 9 (([c0, c1, c2, c3].drop 1).take (Tryd.prog.cellsOf 9)) = some y1 := hf 1 _ rfl
    have f2 : DataW.trod enc Tryd.prog W 0 (fun _ => true) true m 3 (([c0, c1, c2, c3].drop 2).take (Tryd.prog.cellsOf 3)) = some y2 := hf 2 _ rfl
    have f3 : DataW.trod enc Tryd.prog W 0 (fun _ => true) true m 9 (([c0, c1, c2, c3].drop 3).take (Tryd.prog.cellsOf 9)) = some y3 := hf 3 _ rfl
    rw [cellsOfIntH] at f0 f2
    rw [cellsOfStrH] at f1 f3
    obtain ⟨n0, e0, -, w0⟩ := DataW.trod_int Tryd.underlying3 (x := y0) f0
    obtain ⟨n1, e1, -, w1⟩ := DataW.trod_string Tryd.underlying9 (x := y1) f1
    obtain ⟨n2, e2, -, w2⟩ := DataW.trod_int Tryd.underlying3 (x := y2) f2
    obtain ⟨n3, e3, -, w3⟩ := DataW.trod_string Tryd.underlying9 (x := y3) f3
    simp at e0 e1 e2 e3
    subst e0 e1 e2 e3
    exact ⟨⟨n0, n1, n2, n3⟩, rfl, bounds_i64 w0, w1, bounds_i64 w2, w3⟩
end Go.Proofs.YtdjhlgodecnidaaDoor
