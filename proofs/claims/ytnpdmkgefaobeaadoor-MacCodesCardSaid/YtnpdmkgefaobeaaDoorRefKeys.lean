/- lockboxref01.Keys, First: the tables as slices of the call's own. -/
import Derived.Test.YtnpdmkgefaobeaaDoorMem
import Derived.Test.YtnpdmkgefaobeaaDoorPad
namespace Go.Proofs.YtnpdmkgefaobeaaDoor
open Go.RowKit

theorem list_small' {l : List Nat} (h : l.all (fun n => decide (n < 4294967296)) = true) (i : Nat) : V (BitVec.ofNat 32 (l.getD i 0)) = ((l.getD i 0 : Nat) : Int) := by
  refine V_num _ ?_
  by_cases hi : i < l.length
  · rw [List.getD_eq_getElem?_getD, List.getElem?_eq_getElem hi]
    simpa using List.all_eq_true.1 h _ (List.getElem_mem hi)
  · rw [List.getD_eq_getElem?_getD, List.getElem?_eq_none (by omega)]; decide
def numCells (l : List Nat) : Array Value := (l.map fun (n : Nat) => Value.int .u32 (n : Int)).toArray
theorem numCells_get {l : List Nat} (h : l.all (fun n => decide (n < 4294967296)) = true) (i : Nat) (hi : i < l.length) : (numCells l)[i]? = some (.int .u32 (V (BitVec.ofNat 32 (l.getD i 0)))) := by
  rw [list_small' h, numCells, List.getElem?_toArray, List.getElem?_map, List.getD_eq_getElem?_getD, List.getElem?_eq_getElem hi]
  rfl

set_option maxRecDepth 100000 in
set_option maxHeartbeats 400000 in
theorem keys_any (w : World) : Calls Tryd.prog 47 #[] w fun e w' => e = .returned (.slice (some ⟨w.heap.size, 0, none⟩) 64 64) ∧ w' = w.alloc (.cells (numCells kList) 42) := by
  go_enter Tryd.func47, Tryd.ntmps47
  go_wp2
  go_ret
  refine ⟨rfl, ?_⟩
  congr 1

set_option maxRecDepth 100000 in
set_option maxHeartbeats 400000 in
theorem first_any (w : World) : Calls Tryd.prog 39 #[] w fun e w' => e = .returned (.slice (some ⟨w.heap.size, 0, none⟩) 8 8) ∧ w' = w.alloc (.cells (numCells hList) 42) := by
  go_enter Tryd.func39, Tryd.ntmps39
  go_wp2
  go_ret
  refine ⟨rfl, ?_⟩
  congr 1
end Go.Proofs.YtnpdmkgefaobeaaDoor
