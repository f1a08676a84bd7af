/-
  DERIVED. GIVEN WITH THE SEED: THE CARDS: each row of YtefpfedpgedloaaGreatDoorRows.lean that lists a variable, with what it lists TIED to the program's text (the seventh form; the later family's looks); each row that meets fmt, with fmt's text TOLD by the authors' own Lean function (tested against real Go, not proved from fmt's source: count such statements apart). THE CARD IS WHAT COUNTS. Prove the row's statement (the work); the ties are given (YtefpfedpgedloaaGreatDoorTie.lean); close each card by the builder's one call (the guide's Derived/Test/ToyasCard.lean, 'card_holds'). Laid BY PROGRAM, IN A SANDBOX (cutbox-door.mjs). By AI agents, Wed Nov 11 2026. No macro, syntax, notation, axiom, sorry.
-/
import Derived.Test.YtefpfedpgedloaaGreatDoorRows
import GoSem.ClaimSeven
namespace Go.Proofs.YtefpfedpgedloaaGreatDoor
namespace Rows

/-- THE TIED CARD OF 'lockboxlaw09.ShamirRefreshes'. -/
def shamirRefreshesCard : Claim7 := { stood := { row := shamirRefreshesRow, standIns := [], harness := (true, "0da55c743498991b0cd449ae9e86506205bd1b1b278a3f5e6e96d11367e6bca4"), looks := false }, kinds := [], alts := [], laidByText := true, laidKinds := [.data, .pinned], laidTests := true, laidLooks := .later }
def ShamirRefreshesCardSaid : Prop := Claim7.holds Tryz.pinned (.plain (OpenSpec.ofChange shamirRefreshesSpec)) shamirRefreshesCard

/-- THE TIED CARD OF 'lockboxlaw09.ShamirTexts'. -/
def shamirTextsCard : Claim7 := { stood := { row := shamirTextsRow, standIns := [], harness := (true, "0da55c743498991b0cd449ae9e86506205bd1b1b278a3f5e6e96d11367e6bca4"), looks := false }, kinds := [], alts := [], laidByText := true, laidKinds := [.data, .pinned], laidTests := true, laidLooks := .later }
def ShamirTextsCardSaid : Prop := Claim7.holds Tryz.pinned (.plain (OpenSpec.ofChange shamirTextsSpec)) shamirTextsCard

/-- THE SECOND FORM's CARD OF 'lockboxlaw09.ShamirRefreshes'. -/
def shamirRefreshesUptoCard : Claim7 := { stood := { row := shamirRefreshesUptoRow, standIns := [], harness := (true, "0da55c743498991b0cd449ae9e86506205bd1b1b278a3f5e6e96d11367e6bca4"), looks := false }, kinds := [], alts := [], laidByText := true, laidKinds := [.data, .pinned], laidTests := true, laidLooks := .later }
def ShamirRefreshesUptoCardSaid : Prop := Claim7.holds Tryz.pinned (.plain (OpenSpec.upto shamirRefreshesSpec)) shamirRefreshesUptoCard

/-- THE SECOND FORM's CARD OF 'lockboxlaw09.ShamirTexts'. -/
def shamirTextsUptoCard : Claim7 := { stood := { row := shamirTextsUptoRow, standIns := [], harness := (true, "0da55c743498991b0cd449ae9e86506205bd1b1b278a3f5e6e96d11367e6bca4"), looks := false }, kinds := [], alts := [], laidByText := true, laidKinds := [.data, .pinned], laidTests := true, laidLooks := .later }
def ShamirTextsUptoCardSaid : Prop := Claim7.holds Tryz.pinned (.plain (OpenSpec.upto shamirTextsSpec)) shamirTextsUptoCard
end Rows
end Go.Proofs.YtefpfedpgedloaaGreatDoor
