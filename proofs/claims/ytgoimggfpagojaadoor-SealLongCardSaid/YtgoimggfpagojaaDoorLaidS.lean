/- What a list of three variables gives (the table of the quarter turns, digest's two); a world for the witnesses. -/
import Derived.Test.YtgoimggfpagojaaDoorLaid
import Derived.Test.YtgoimggfpagojaaDoorQBlock
namespace Go.Proofs.YtgoimggfpagojaaDoor
open Go.ChangeShapes Go.WideShapes Go.ChangeAt Go.RowKit

theorem tabIs_third {P : Program} {W : World} {name n0 n1 : String} {d0 d1 : DataW Unit} {k : IntKind} {zs : List Int} {rest : List (String × DataW Unit)} {g : Nat} {t e : TypeId} {n : Nat}
    (hg : P.globalNamed name = some g) (hty : (P.globals[g]?).map (·.type) = some t) (ht : P.underlying t = some (.array n e)) (he : P.underlying e = some (.int k)) (hce : P.cellsOf e = 1) (hct : P.cellsOf t = n)
    (h : laidMet P ((n0, d0) :: (n1, d1) :: (name, Lib.tabData k zs) :: rest) W) : Lib.TabIs P W name k zs := by
  obtain ⟨ps, ⟨_, _, _, _, _, _, _, _, _, _, ⟨_, _, _, _, _, _, _, _, _, _, ⟨g', t', cs, fuel, p, q, hg', ht', hvar, hd, _, _⟩, _⟩, _⟩, _⟩ := h
  obtain rfl := Option.some.inj (hg.symm.trans hg')
  obtain rfl := Option.some.inj (hty.symm.trans ht')
  unfold Lib.TabIs
  rw [hvar, ← Lib.cells_of_tab ht he hce hct hd]
theorem gTurns : Tryd.prog.globalNamed "lockbox/chacha.turns" = some 2 := by kernel_rfl
theorem gTurnsType : (Tryd.prog.globals[2]?).map (·.type) = some 171 := by kernel_rfl
theorem cellsT : Tryd.prog.cellsOf 171 = 32 := by kernel_rfl
theorem cellsR : Tryd.prog.cellsOf 170 = 4 := by kernel_rfl
theorem cellsB : Tryd.prog.cellsOf 5 = 1 := by kernel_rfl
def rowZs (i : Nat) : List Int := [(tp i 0 : Int), (tp i 1 : Int), (tp i 2 : Int), (tp i 3 : Int)]
theorem laid_turns : (Rows.laid_lockbox_chacha_turns : DataW Unit) = .agg ((List.range 8).map fun i => Lib.tabData .u8 (rowZs i)) := by kernel_rfl
theorem tRow_tp (i j : Nat) (hj : j < 4) : (rowZs i).getD j 0 = ((tRow.getD (4 * i + j) 0 : Nat) : Int) := by
  obtain rfl | rfl | rfl | rfl : j = 0 ∨ j = 1 ∨ j = 2 ∨ j = 3 := by omega
  all_goals rfl
theorem globQ_of_laid3 {W : World} (h : laidMetH Tryd.prog [("lockbox/chacha.turns", Rows.laid_lockbox_chacha_turns), ("lockbox/digest.first", Rows.laid_lockbox_digest_first), ("lockbox/digest.roots", Rows.laid_lockbox_digest_roots)] W) : GlobQ W := by
  have h' : laidMet Tryd.prog [("lockbox/chacha.turns", Rows.laid_lockbox_chacha_turns), ("lockbox/digest.first", Rows.laid_lockbox_digest_first), ("lockbox/digest.roots", Rows.laid_lockbox_digest_roots)] W := h
  rw [laid_turns] at h'
  obtain ⟨ps, ⟨g', t', cs, fuel, p, q, hg', ht', hvar, hd, _, _⟩, _⟩ := h'
  obtain rfl := Option.some.inj (gTurns.symm.trans hg')
  obtain rfl := Option.some.inj (gTurnsType.symm.trans ht')
  obtain ⟨xs, m, -, hx, hl, hxl, hf⟩ := DataW.trod_array Tryd.underlying171 hd
  have hx1 : xs.map (·.1) = (List.range 8).map fun i => Lib.tabData .u8 (rowZs i) := by
    have := congrArg Prod.fst hx
    simpa using this.symm
  have hcell : ∀ k, k < 32 → W.cell? ⟨2, k, none⟩ = some (.int .u8 ((tRow.getD k 0 : Nat) : Int)) := fun k hk => by
    have hi : k / 4 < 8 := by omega
    have h1 := hf (k / 4) hi
    rw [cellsR] at h1
    have h2 : (xs.map (·.1))[k / 4]? = some (Lib.tabData .u8 (rowZs (k / 4))) := by rw [hx1]; simp [hi]
    rw [List.getElem?_map] at h2
    obtain ⟨y, hy, hy2⟩ := Option.map_eq_some_iff.1 h2
    rw [hy] at h1
    obtain ⟨d, p'⟩ := y
    simp only at hy2
    subst hy2
    have h3 := Lib.cells_of_tab Tryd.underlying170 Tryd.underlying5 cellsB cellsR h1
    have h4 := World.var?_cell gTurns hvar k
    have h5 : cs.toList[k]? = ((cs.toList.drop (k / 4 * 4)).take 4)[k % 4]? := by
      rw [List.getElem?_take, if_pos (by omega), List.getElem?_drop]
      congr 1; omega
    rw [h4, ← Array.getElem?_toList, h5, h3, List.getElem?_map]
    have h6 : (rowZs (k / 4))[k % 4]? = some ((rowZs (k / 4)).getD (k % 4) 0) := by
      rw [List.getD_eq_getElem?_getD, List.getElem?_eq_getElem (by simp [rowZs]; omega)]; rfl
    rw [h6, tRow_tp _ _ (by omega), Option.map_some, show 4 * (k / 4) + k % 4 = k by omega]
  exact ⟨hcell, World.block_lt_of_cell? W _ (hcell 0 (by omega))⟩

theorem globD_of_laid3 {W : World} (h : laidMetH Tryd.prog [("lockbox/chacha.turns", Rows.laid_lockbox_chacha_turns), ("lockbox/digest.first", Rows.laid_lockbox_digest_first), ("lockbox/digest.roots", Rows.laid_lockbox_digest_roots)] W) : Glob W := by
  have h' : laidMet Tryd.prog [("lockbox/chacha.turns", Rows.laid_lockbox_chacha_turns), ("lockbox/digest.first", Rows.laid_lockbox_digest_first), ("lockbox/digest.roots", Rows.laid_lockbox_digest_roots)] W := h
  rw [laid_first, laid_roots] at h'
  have t0 : Lib.TabIs Tryd.prog W "lockbox/digest.first" .u32 firstZs := tabIs_of_second gFirst gFirstType Tryd.underlying83 Tryd.underlying65 cells30 cells31 h'
  have t1 : Lib.TabIs Tryd.prog W "lockbox/digest.roots" .u32 rootZs := tabIs_third gRoots gRootsType Tryd.underlying164 Tryd.underlying65 cells30 cells56 h'
  have c1 : ∀ i, i < 64 → W.cell? ⟨1, i, none⟩ = some (.int .u32 (V (kk i))) := fun i hi => by
    rw [t1.cell gRoots i (show i < 64 from hi), kk, list_small (by decide), rootZs, getD_cast]
  refine ⟨fun i hi => ?_, c1, ?_⟩
  · rw [t0.cell gFirst i (show i < 8 from hi), hh, list_small (by decide), firstZs, getD_cast]
  · exact World.block_lt_of_cell? W _ (c1 0 (by omega))
/-- WHAT THE ROWS' LIST OF THREE GIVES. -/
theorem glob_of_laid3 {W : World} (h : laidMetH Tryd.prog [("lockbox/chacha.turns", Rows.laid_lockbox_chacha_turns), ("lockbox/digest.first", Rows.laid_lockbox_digest_first), ("lockbox/digest.roots", Rows.laid_lockbox_digest_roots)] W) : Glob W ∧ GlobQ W := ⟨globD_of_laid3 h, globQ_of_laid3 h⟩
/-- A WORLD FOR THE WITNESS: the settled one, the three tables holding what their initialisers lay. -/
noncomputable def laidWorld3 (os : Os) : World :=
  { World.holding Tryd.prog os ⟨#[], #[], []⟩ with heap := (((World.holding Tryd.prog os ⟨#[], #[], []⟩).heap.modify 0 (layRow (firstZs.map (Value.int .u32)).toArray)).modify 1 (layRow (rootZs.map (Value.int .u32)).toArray)).modify 2 (layRow (tRow.map fun (n : Nat) => Value.int .u8 (n : Int)).toArray) }
end Go.Proofs.YtgoimggfpagojaaDoor
