/- Rows of values in a block of their own. -/
import Derived.Test.YtefpfedpgedloaaDoorBytes
import Derived.Test.YtefpfedpgedloaaDoorRow
namespace Go.Proofs.YtefpfedpgedloaaDoor
open Go.RowKit

/-- A row of values lies in block g. -/
def RowV (t : TypeId) (w : World) (g : Nat) (l : List Value) : Prop := w.heap[g]? = some (.cells l.toArray t (0, 0))
theorem RowV.lt {t : TypeId} {w : World} {g : Nat} {l : List Value} (h : RowV t w g l) : g < w.heap.size := (Array.getElem?_eq_some_iff.1 h).1
theorem RowV.call {t : TypeId} {w w' : World} {g : Nat} {l : List Value} (h : RowV t w g l) (hb : Below w.heap.size w w') : RowV t w' g l := (hb.block g h.lt).trans h
theorem RowV.drew {t : TypeId} {w : World} {g : Nat} {l : List Value} (h : RowV t w g l) : RowV t w.drew g l := h
theorem RowV.alloc {t : TypeId} {w : World} {g : Nat} {l : List Value} (h : RowV t w g l) (o : Obj) : RowV t (w.alloc o) g l := h.call ((Below.refl _ _).alloc (Nat.le_refl _) o)
theorem RowV.cell {t : TypeId} {w : World} {g : Nat} {l : List Value} (h : RowV t w g l) (i : Nat) (v : Value) (hv : l[i]? = some v) : w.cell? ⟨g, i, none⟩ = some v := by
  rw [cell_of_row _ _ _ _ _ _ h]; simpa using hv
theorem RowV.frozen {t : TypeId} {w : World} {g : Nat} {l : List Value} (h : RowV t w g l) (i : Nat) : w.frozen? ⟨g, i, none⟩ = false := frozen_of_row _ _ _ _ _ h
theorem RowV.put {t : TypeId} {w : World} {g : Nat} {l : List Value} (h : RowV t w g l) (i : Nat) (x : Value) : RowV t (w.setCell ⟨g, i, none⟩ x) g (l.set i x) := by
  unfold RowV
  rw [show (l.set i x).toArray = l.toArray.setIfInBounds i x by simp]
  exact heap_setCell_same _ _ _ _ _ _ h
theorem RowV.other {t : TypeId} {w : World} {g : Nat} {l : List Value} (h : RowV t w g l) (a : Addr) (v : Value) (ha : a.block ≠ g) : RowV t (w.setCell a v) g l := by
  unfold RowV; rw [heap_setCell_other _ _ _ _ (fun e => ha e.symm)]; exact h
end Go.Proofs.YtefpfedpgedloaaDoor
