/- Laid, what is wanted of it. -/
import Derived.Test.YtdfkpjmljaanpaaGreatDoorCards
import Derived.Test.YtdfkpjmljaanpaaGreatDoorTie
import Derived.Test.YtdfkpjmljaanpaaGreatDoorZMH1
import Derived.ProofKit
import Derived.OpenShut
import Derived.Deep.DeepHandedRow
import Derived.Lib.LaidTab
namespace Go.Proofs.YtdfkpjmljaanpaaGreatDoor
open Go.ChangeShapes Go.WideShapes Go.ChangeAt Go.RowKit
theorem own : ownKnob Tryz.prog.godebug = none := by kernel_rfl
theorem gFirst : Tryz.prog.globalNamed "lockbox/digest.first" = some 0 := by kernel_rfl
theorem gRoots : Tryz.prog.globalNamed "lockbox/digest.roots" = some 2 := by kernel_rfl
theorem gFirstType : (Tryz.prog.globals[0]?).map (·.type) = some 220 := by kernel_rfl
theorem gRootsType : (Tryz.prog.globals[2]?).map (·.type) = some 312 := by kernel_rfl
theorem cells31 : Tryz.prog.cellsOf 220 = 8 := by kernel_rfl
theorem cells56 : Tryz.prog.cellsOf 312 = 64 := by kernel_rfl
theorem cells30 : Tryz.prog.cellsOf 219 = 1 := by kernel_rfl
theorem tabIs_of_second {P : Program} {W : World} {name n0 : String} {d0 : DataW Unit} {k : IntKind} {zs : List Int} {rest : List (String × DataW Unit)} {g : Nat} {t e : TypeId} {n : Nat}
    (hg : P.globalNamed name = some g) (hty : (P.globals[g]?).map (·.type) = some t) (ht : P.underlying t = some (.array n e)) (he : P.underlying e = some (.int k)) (hce : P.cellsOf e = 1) (hct : P.cellsOf t = n)
    (h : laidMet P ((n0, d0) :: (name, Lib.tabData k zs) :: rest) W) : Lib.TabIs P W name k zs := by
  obtain ⟨ps, ⟨_, _, _, _, _, _, _, _, _, _, ⟨g', t', cs, fuel, p, q, hg', ht', hvar, hd, _, _⟩, _⟩, _⟩ := h
  obtain rfl := Option.some.inj (hg.symm.trans hg')
  obtain rfl := Option.some.inj (hty.symm.trans ht')
  unfold Lib.TabIs
  rw [hvar, ← Lib.cells_of_tab ht he hce hct hd]
def firstZs : List Int := hList.map fun (n : Nat) => (n : Int)
def rootZs : List Int := kList.map fun (n : Nat) => (n : Int)
theorem laid_first : (Rows.laid_lockbox_digest_first : DataW Unit) = Lib.tabData .u32 firstZs := by kernel_rfl
theorem laid_roots : (Rows.laid_lockbox_digest_roots : DataW Unit) = Lib.tabData .u32 rootZs := by kernel_rfl
theorem list_small {l : List Nat} (h : l.all (fun n => decide (n < 4294967296)) = true) (i : Nat) : V (BitVec.ofNat 32 (l.getD i 0)) = ((l.getD i 0 : Nat) : Int) := by
  refine V_num _ ?_
  by_cases hi : i < l.length
  · rw [List.getD_eq_getElem?_getD, List.getElem?_eq_getElem hi]
    simpa using List.all_eq_true.1 h _ (List.getElem_mem hi)
  · rw [List.getD_eq_getElem?_getD, List.getElem?_eq_none (by omega)]; decide
theorem getD_cast (l : List Nat) (i : Nat) : (l.map fun (n : Nat) => (n : Int)).getD i 0 = ((l.getD i 0 : Nat) : Int) := by
  simp only [List.getD_eq_getElem?_getD, List.getElem?_map]
  cases l[i]? <;> simp
/-- WHAT THE ROWS' LIST GIVES: the two tables lie where they lie. -/
theorem glob_of_laid {W : World} (h : laidMetH Tryz.prog [("lockbox/digest.first", Rows.laid_lockbox_digest_first), ("lockbox/digest.roots", Rows.laid_lockbox_digest_roots)] W) : Glob W := by
  have h' : laidMet Tryz.prog [("lockbox/digest.first", Rows.laid_lockbox_digest_first), ("lockbox/digest.roots", Rows.laid_lockbox_digest_roots)] W := h
  rw [laid_first, laid_roots] at h'
  have t0 : Lib.TabIs Tryz.prog W "lockbox/digest.first" .u32 firstZs := Lib.tabIs_of_head gFirst gFirstType Tryz.underlying220 Tryz.underlying219 cells30 cells31 h'
  have t1 : Lib.TabIs Tryz.prog W "lockbox/digest.roots" .u32 rootZs := tabIs_of_second gRoots gRootsType Tryz.underlying312 Tryz.underlying219 cells30 cells56 h'
  have c1 : ∀ i, i < 64 → W.cell? ⟨2, i, none⟩ = some (.int .u32 (V (kk i))) := fun i hi => by
    rw [t1.cell gRoots i (show i < 64 from hi), kk, list_small (by decide), rootZs, getD_cast]
  refine ⟨fun i hi => ?_, c1, ?_⟩
  · rw [t0.cell gFirst i (show i < 8 from hi), hh, list_small (by decide), firstZs, getD_cast]
  · exact World.block_lt_of_cell? W _ (c1 0 (by omega))
def layRow (cs : Array Value) : Obj → Obj
  | .cells _ t frozen => .cells cs t frozen
  | o => o
/-- A WORLD FOR THE WITNESS: the settled one, the tables (blocks 0 and 1) holding what their initialisers lay. -/
noncomputable def laidWorld (os : Os) : World :=
  { World.holding Tryz.prog os ⟨#[], #[], []⟩ with heap := ((World.holding Tryz.prog os ⟨#[], #[], []⟩).heap.modify 0 (layRow (firstZs.map (Value.int .u32)).toArray)).modify 2 (layRow (rootZs.map (Value.int .u32)).toArray) }
end Go.Proofs.YtdfkpjmljaanpaaGreatDoor
