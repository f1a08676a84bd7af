/- What a list of four variables gives (the library's two tables ahead of digest's two); a world for the witnesses. -/
import Derived.Test.YtdjhlgodecnidaaDoorLaid
import Derived.Test.YtdjhlgodecnidaaDoorTrTz
namespace Go.Proofs.YtdjhlgodecnidaaDoor
open Go.ChangeShapes Go.WideShapes Go.ChangeAt Go.RowKit

theorem gTab64 : Tryd.prog.globalNamed "math/bits.deBruijn64tab" = some 3 := by kernel_rfl
theorem gTab64Type : (Tryd.prog.globals[3]?).map (·.type) = some 118 := by kernel_rfl
theorem cellsTab64 : Tryd.prog.cellsOf 118 = 64 := by kernel_rfl
theorem cellsU8z : Tryd.prog.cellsOf 5 = 1 := by kernel_rfl
theorem tabIs_third {P : Program} {W : World} {name n0 n1 : String} {d0 d1 : DataW Unit} {k : IntKind} {zs : List Int} {rest : List (String × DataW Unit)} {g : Nat} {t e : TypeId} {n : Nat}
    (hg : P.globalNamed name = some g) (hty : (P.globals[g]?).map (·.type) = some t) (ht : P.underlying t = some (.array n e)) (he : P.underlying e = some (.int k)) (hce : P.cellsOf e = 1) (hct : P.cellsOf t = n)
    (h : laidMet P ((n0, d0) :: (n1, d1) :: (name, Lib.tabData k zs) :: rest) W) : Lib.TabIs P W name k zs := by
  obtain ⟨ps, ⟨_, _, _, _, _, _, _, _, _, _, ⟨_, _, _, _, _, _, _, _, _, _, ⟨g', t', cs, fuel, p, q, hg', ht', hvar, hd, _, _⟩, _⟩, _⟩, _⟩ := h
  obtain rfl := Option.some.inj (hg.symm.trans hg')
  obtain rfl := Option.some.inj (hty.symm.trans ht')
  unfold Lib.TabIs
  rw [hvar, ← Lib.cells_of_tab ht he hce hct hd]
theorem tabIs_fourth {P : Program} {W : World} {name n0 n1 n2 : String} {d0 d1 d2 : DataW Unit} {k : IntKind} {zs : List Int} {rest : List (String × DataW Unit)} {g : Nat} {t e : TypeId} {n : Nat}
    (hg : P.globalNamed name = some g) (hty : (P.globals[g]?).map (·.type) = some t) (ht : P.underlying t = some (.array n e)) (he : P.underlying e = some (.int k)) (hce : P.cellsOf e = 1) (hct : P.cellsOf t = n)
    (h : laidMet P ((n0, d0) :: (n1, d1) :: (n2, d2) :: (name, Lib.tabData k zs) :: rest) W) : Lib.TabIs P W name k zs := by
  obtain ⟨ps, ⟨_, _, _, _, _, _, _, _, _, _, ⟨_, _, _, _, _, _, _, _, _, _, ⟨_, _, _, _, _, _, _, _, _, _, ⟨g', t', cs, fuel, p, q, hg', ht', hvar, hd, _, _⟩, _⟩, _⟩, _⟩, _⟩ := h
  obtain rfl := Option.some.inj (hg.symm.trans hg')
  obtain rfl := Option.some.inj (hty.symm.trans ht')
  unfold Lib.TabIs
  rw [hvar, ← Lib.cells_of_tab ht he hce hct hd]
def tab64Zs : List Int := Lib.deBruijn64tab.map fun (n : Nat) => (n : Int)
theorem laid_tab64 : (Rows.laid_math_bits_deBruijn64tab : DataW Unit) = Lib.tabData .u8 tab64Zs := by kernel_rfl
/-- WHAT THE ROWS' LIST OF FOUR GIVES. -/
theorem glob_of_laid4 {W : World} (h : laidMetH Tryd.prog [("math/bits.deBruijn32tab", Rows.laid_math_bits_deBruijn32tab), ("math/bits.deBruijn64tab", Rows.laid_math_bits_deBruijn64tab), ("lockbox/digest.first", Rows.laid_lockbox_digest_first), ("lockbox/digest.roots", Rows.laid_lockbox_digest_roots)] W) : Glob W ∧ TabZ W := by
  have h' : laidMet Tryd.prog [("math/bits.deBruijn32tab", Rows.laid_math_bits_deBruijn32tab), ("math/bits.deBruijn64tab", Rows.laid_math_bits_deBruijn64tab), ("lockbox/digest.first", Rows.laid_lockbox_digest_first), ("lockbox/digest.roots", Rows.laid_lockbox_digest_roots)] W := h
  rw [laid_first, laid_roots, laid_tab64] at h'
  have tz : Lib.TabIs Tryd.prog W "math/bits.deBruijn64tab" .u8 tab64Zs := tabIs_of_second gTab64 gTab64Type Tryd.underlying118 Tryd.underlying5 cellsU8z cellsTab64 h'
  have t0 : Lib.TabIs Tryd.prog W "lockbox/digest.first" .u32 firstZs := tabIs_third gFirst gFirstType Tryd.underlying117 Tryd.underlying92 cells30 cells31 h'
  have t1 : Lib.TabIs Tryd.prog W "lockbox/digest.roots" .u32 rootZs := tabIs_fourth gRoots gRootsType Tryd.underlying167 Tryd.underlying92 cells30 cells56 h'
  have c1 : ∀ i, i < 64 → W.cell? ⟨1, i, none⟩ = some (.int .u32 (V (kk i))) := fun i hi => by
    rw [t1.cell gRoots i (show i < 64 from hi), kk, list_small (by decide), rootZs, getD_cast]
  refine ⟨⟨fun i hi => ?_, c1, ?_⟩, fun j hj => ?_⟩
  · rw [t0.cell gFirst i (show i < 8 from hi), hh, list_small (by decide), firstZs, getD_cast]
  · exact World.block_lt_of_cell? W _ (c1 0 (by omega))
  · rw [tz.cell gTab64 j (by unfold tab64Zs; rw [List.length_map]; exact hj), tab64Zs, getD_cast]
/-- A WORLD FOR THE WITNESS: the settled one, the four tables holding what their initialisers lay. -/
noncomputable def laidWorld4 (os : Os) : World :=
  { World.holding Tryd.prog os ⟨#[], #[], []⟩ with heap := ((((World.holding Tryd.prog os ⟨#[], #[], []⟩).heap.modify 0 (layRow (firstZs.map (Value.int .u32)).toArray)).modify 1 (layRow (rootZs.map (Value.int .u32)).toArray)).modify 2 (layRow (Lib.deBruijn32tab.map fun (n : Nat) => Value.int .u8 (n : Int)).toArray)).modify 3 (layRow (Lib.deBruijn64tab.map fun (n : Nat) => Value.int .u8 (n : Int)).toArray) }
end Go.Proofs.YtdjhlgodecnidaaDoor
