/- Merged by program: Front, Decode. -/
import Derived.Test.YtdfkpjmljaanpaaDoorMC4
import Derived.Deep.RegionWith
import Derived.Deep.DeepCutAuto
namespace Go.Proofs.YtdfkpjmljaanpaaDoor
open Go.RowKit
open Cn

def FrontPost (w : World) (R : Except Int (Pt × Nat × List UInt8)) (e : Ending) (w' : World) : Prop :=
  Below w.heap.size w w' ∧ match R with
    | .error x => x ≠ 0 ∧ e = .returned (.tuple #[zeroIt, .string ⟨#[]⟩, .int .i64 x])
    | .ok (x, _, r) => ∃ it : It, it.pure = x ∧ e = .returned (.tuple #[it.val, .string ⟨r.toArray⟩, .int .i64 0]) ∧ it.In w' (w.heap.size ≤ ·)
/-- The same, and how much room the list's row has. -/
def FrontCap (w : World) (R : Except Int (Pt × Nat × List UInt8)) (e : Ending) (w' : World) : Prop :=
  Below w.heap.size w w' ∧ match R with
    | .error x => x ≠ 0 ∧ e = .returned (.tuple #[zeroIt, .string ⟨#[]⟩, .int .i64 x])
    | .ok (x, _, r) => ∃ it : It, it.pure = x ∧ e = .returned (.tuple #[it.val, .string ⟨r.toArray⟩, .int .i64 0]) ∧ it.In w' (w.heap.size ≤ ·) ∧ it.l.length ≤ it.cap
/-- Four cells stored over an item's row. -/
theorem hrow_set {W : World} {b : Nat} {cs : Array Value} (h : W.heap[b]? = some (.cells cs 134 (0, 0))) (x0 x1 x2 x3 : Value) (hs : cs.size = 4 := by rfl) :
    ((((W.setCell ⟨b, 0, none⟩ x0).setCell ⟨b, 1, none⟩ x1).setCell ⟨b, 2, none⟩ x2).setCell ⟨b, 3, none⟩ x3).heap[b]? = some (.cells #[x0, x1, x2, x3] 134 (0, 0)) := by
  obtain ⟨c', h1, h2, h3⟩ := c_heap_setCells b 134 [x0, x1, x2, x3] 0 W cs h (by simp [hs])
  have : c' = #[x0, x1, x2, x3] := by
    refine Array.ext_getElem? fun i => ?_
    rw [h3]
    by_cases hi : i < 4
    · rw [if_pos (by simp; omega)]; simp
    · rw [if_neg (by simp; omega), Array.getElem?_eq_none (by omega), Array.getElem?_eq_none (by simp; omega)]
  rw [← this]
  exact h1
theorem front_end {s : ByteArray} {w w5 : World} {B q q' : Nat} {r : List UInt8} {xk xn : Int} {xs : ByteArray} {xa : Option Addr} {xc : Nat} {xl : List It} (hb : Below w.heap.size w w5) (hin : It.In w5 (B ≤ ·) (.mk xk xn xs xa xc xl)) (hB : w.heap.size < B) (hd : s.data.toList.drop q = r) (hcp : xl.length ≤ xc) :
    FrontCap w (.ok ((It.mk xk xn xs xa xc xl).pure, q', r)) (.returned (.tuple #[.agg #[.int .i64 xk, .int .i64 xn, .string xs, .slice xa xl.length xc], .string (s.extract q s.size), .int .i64 0]))
      (w5.setCells w.heap.size 0 [.int .i64 xk, .int .i64 xn, .string xs, .slice xa xl.length xc]).drew := by
  have hex : s.extract q s.size = ⟨r.toArray⟩ := Go.WideShapes.bytes_inj (by rw [extract_data, hd, List.take_of_length_le (by rw [← hd]; simp)])
  refine ⟨(below_setCells w.heap.size (Nat.le_refl _) _ 0 w5 hb).drew, .mk xk xn xs xa xc xl, rfl, by rw [hex]; rfl, ?_, hcp⟩
  refine It.In.kept (w := w5) (S := (B ≤ ·)) ⟨fun b hb _ => ⟨?_, ?_⟩, ?_⟩ _ hin
  · have : B ≤ b := hb
    omega
  · have : B ≤ b := hb
    exact c_heap_setCells_other w.heap.size b (by omega) _ 0 w5
  · exact Nat.le_of_eq (c_size_setCells w.heap.size _ 0 w5).symm
/-- What Decode makes of it. -/
def decR (l : List UInt8) : Except Int Pt :=
  match item 6 0 0 l with
  | .error x => .error x
  | .ok (x, _, r) => if r = [] then .ok x else .error 3
def DecPost (w : World) (R : Except Int Pt) (e : Ending) (w' : World) : Prop :=
  Below w.heap.size w w' ∧ match R with
    | .error x => x ≠ 0 ∧ e = .returned (.tuple #[zeroIt, .int .i64 x])
    | .ok x => ∃ it : It, it.pure = x ∧ e = .returned (.tuple #[it.val, .int .i64 0]) ∧ it.In w' (w.heap.size ≤ ·)
def DecCap (w : World) (R : Except Int Pt) (e : Ending) (w' : World) : Prop :=
  Below w.heap.size w w' ∧ match R with
    | .error x => x ≠ 0 ∧ e = .returned (.tuple #[zeroIt, .int .i64 x])
    | .ok x => ∃ it : It, it.pure = x ∧ e = .returned (.tuple #[it.val, .int .i64 0]) ∧ it.In w' (w.heap.size ≤ ·) ∧ it.l.length ≤ it.cap
end Go.Proofs.YtdfkpjmljaanpaaDoor
