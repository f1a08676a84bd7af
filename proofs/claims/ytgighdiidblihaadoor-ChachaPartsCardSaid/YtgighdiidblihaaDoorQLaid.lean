/- What the rows' list of variables gives: the table of the quarter turns; a world for the witnesses. -/
import Derived.Test.YtgighdiidblihaaDoorCards
import Derived.Test.YtgighdiidblihaaDoorTie
import Derived.Test.YtgighdiidblihaaDoorQBlock
import Derived.ProofKit
import Derived.OpenShut
import Derived.Deep.DeepHandedRow
import Derived.Lib.LaidTab
namespace Go.Proofs.YtgighdiidblihaaDoor
open Go.ChangeShapes Go.WideShapes Go.ChangeAt Go.RowKit

theorem own : ownKnob Tryd.prog.godebug = none := by kernel_rfl
theorem laidOut : laidOutB Tryd.prog = true := by kernel_rfl
theorem gTurns : Tryd.prog.globalNamed "lockbox/chacha.turns" = some 0 := by kernel_rfl
theorem gTurnsType : (Tryd.prog.globals[0]?).map (·.type) = some 56 := by kernel_rfl
theorem cellsT : Tryd.prog.cellsOf 56 = 32 := by kernel_rfl
theorem cellsR : Tryd.prog.cellsOf 55 = 4 := by kernel_rfl
theorem cellsB : Tryd.prog.cellsOf 5 = 1 := by kernel_rfl
def rowZs (i : Nat) : List Int := [(tp i 0 : Int), (tp i 1 : Int), (tp i 2 : Int), (tp i 3 : Int)]
theorem laid_turns : (Rows.laid_lockbox_chacha_turns : DataW Unit) = .agg ((List.range 8).map fun i => Lib.tabData .u8 (rowZs i)) := by kernel_rfl
theorem tRow_tp (i j : Nat) (hj : j < 4) : (rowZs i).getD j 0 = ((tRow.getD (4 * i + j) 0 : Nat) : Int) := by
  obtain rfl | rfl | rfl | rfl : j = 0 ∨ j = 1 ∨ j = 2 ∨ j = 3 := by omega
  all_goals rfl
/-- WHAT THE ROWS' LIST GIVES: the table lies where it lies. -/
theorem glob_of_laid {W : World} (h : laidMetH Tryd.prog [("lockbox/chacha.turns", Rows.laid_lockbox_chacha_turns)] W) : Glob W := by
  have h' : laidMet Tryd.prog [("lockbox/chacha.turns", Rows.laid_lockbox_chacha_turns)] W := h
  rw [laid_turns] at h'
  obtain ⟨ps, ⟨g', t', cs, fuel, p, q, hg', ht', hvar, hd, _, _⟩, _⟩ := h'
  obtain rfl := Option.some.inj (gTurns.symm.trans hg')
  obtain rfl := Option.some.inj (gTurnsType.symm.trans ht')
  obtain ⟨xs, m, -, hx, hl, hxl, hf⟩ := DataW.trod_array Tryd.underlying56 hd
  have hx1 : xs.map (·.1) = (List.range 8).map fun i => Lib.tabData .u8 (rowZs i) := by
    have := congrArg Prod.fst hx
    simpa using this.symm
  have hcell : ∀ k, k < 32 → W.cell? ⟨0, k, none⟩ = some (.int .u8 ((tRow.getD k 0 : Nat) : Int)) := fun k hk => by
    have hi : k / 4 < 8 := by omega
    have h1 := hf (k / 4) hi
    rw [cellsR] at h1
    have h2 : (xs.map (·.1))[k / 4]? = some (Lib.tabData .u8 (rowZs (k / 4))) := by rw [hx1]; simp [hi]
    rw [List.getElem?_map] at h2
    obtain ⟨y, hy, hy2⟩ := Option.map_eq_some_iff.1 h2
    rw [hy] at h1
    obtain ⟨d, p'⟩ := y
    simp only at hy2
    subst hy2
    have h3 := Lib.cells_of_tab Tryd.underlying55 Tryd.underlying5 cellsB cellsR h1
    have h4 := World.var?_cell gTurns hvar k
    have h5 : cs.toList[k]? = ((cs.toList.drop (k / 4 * 4)).take 4)[k % 4]? := by
      rw [List.getElem?_take, if_pos (by omega), List.getElem?_drop]
      congr 1; omega
    rw [h4, ← Array.getElem?_toList, h5, h3, List.getElem?_map]
    have h6 : (rowZs (k / 4))[k % 4]? = some ((rowZs (k / 4)).getD (k % 4) 0) := by
      rw [List.getD_eq_getElem?_getD, List.getElem?_eq_getElem (by simp [rowZs]; omega)]; rfl
    rw [h6, tRow_tp _ _ (by omega), Option.map_some, show 4 * (k / 4) + k % 4 = k by omega]
  exact ⟨hcell, World.block_lt_of_cell? W _ (hcell 0 (by omega))⟩

def layRow (cs : Array Value) : Obj → Obj
  | .cells _ t frozen => .cells cs t frozen
  | o => o
/-- A WORLD FOR THE WITNESS: the settled one, the table (block 0) holding what its initialiser lays. -/
noncomputable def laidWorld (os : Os) : World :=
  { World.holding Tryd.prog os ⟨#[], #[], []⟩ with heap := (World.holding Tryd.prog os ⟨#[], #[], []⟩).heap.modify 0 (layRow (tRow.map fun (n : Nat) => Value.int .u8 (n : Int)).toArray) }
end Go.Proofs.YtgighdiidblihaaDoor
