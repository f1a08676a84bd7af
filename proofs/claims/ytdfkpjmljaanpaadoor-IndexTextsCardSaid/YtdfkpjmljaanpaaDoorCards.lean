/-
  DERIVED. GIVEN WITH THE SEED: THE CARDS: each row of YtdfkpjmljaanpaaDoorRows.lean that lists a variable, with what it lists TIED to the program's text (the seventh form; the later family's looks); each row that meets fmt, with fmt's text TOLD by the authors' own Lean function (tested against real Go, not proved from fmt's source: count such statements apart). THE CARD IS WHAT COUNTS. Prove the row's statement (the work); the ties are given (YtdfkpjmljaanpaaDoorTie.lean); close each card by the builder's one call (the guide's Derived/Test/ToyasCard.lean, 'card_holds'). Laid BY PROGRAM, IN A SANDBOX (cutbox-door.mjs). By AI agents, Wed Nov 11 2026. No macro, syntax, notation, axiom, sorry.
-/
import Derived.Test.YtdfkpjmljaanpaaDoorRows
import GoSem.ClaimSeven
namespace Go.Proofs.YtdfkpjmljaanpaaDoor
namespace Rows

/-- THE TIED CARD OF 'lockboxlaw18.IndexKeeps'. -/
def indexKeepsCard : Claim7 := { stood := { row := indexKeepsRow, standIns := [], harness := (true, "937ad11ff06e995ea8bbacb2303a339ab45b4711dca837aa2dedf95c5395091d"), looks := false }, kinds := [], alts := [], laidByText := true, laidKinds := [.data, .data], laidTests := true, laidLooks := .later }
def IndexKeepsCardSaid : Prop := Claim7.holds Tryd.pinned (.plain (OpenSpec.ofChange indexKeepsSpec)) indexKeepsCard

/-- THE TIED CARD OF 'lockboxlaw18.IndexBinds'. -/
def indexBindsCard : Claim7 := { stood := { row := indexBindsRow, standIns := [], harness := (true, "937ad11ff06e995ea8bbacb2303a339ab45b4711dca837aa2dedf95c5395091d"), looks := false }, kinds := [], alts := [], laidByText := true, laidKinds := [.data, .data], laidTests := true, laidLooks := .later }
def IndexBindsCardSaid : Prop := Claim7.holds Tryd.pinned (.plain (OpenSpec.ofChange indexBindsSpec)) indexBindsCard

/-- THE TIED CARD OF 'lockboxlaw18.IndexTexts'. -/
def indexTextsCard : Claim7 := { stood := { row := indexTextsRow, standIns := [], harness := (true, "937ad11ff06e995ea8bbacb2303a339ab45b4711dca837aa2dedf95c5395091d"), looks := false }, kinds := [], alts := [], laidByText := true, laidKinds := [.data, .data], laidTests := true, laidLooks := .later }
def IndexTextsCardSaid : Prop := Claim7.holds Tryd.pinned (.plain (OpenSpec.ofChange indexTextsSpec)) indexTextsCard

/-- THE SECOND FORM's CARD OF 'lockboxlaw18.IndexKeeps'. -/
def indexKeepsUptoCard : Claim7 := { stood := { row := indexKeepsUptoRow, standIns := [], harness := (true, "937ad11ff06e995ea8bbacb2303a339ab45b4711dca837aa2dedf95c5395091d"), looks := false }, kinds := [], alts := [], laidByText := true, laidKinds := [.data, .data], laidTests := true, laidLooks := .later }
def IndexKeepsUptoCardSaid : Prop := Claim7.holds Tryd.pinned (.plain (OpenSpec.upto indexKeepsSpec)) indexKeepsUptoCard

/-- THE SECOND FORM's CARD OF 'lockboxlaw18.IndexBinds'. -/
def indexBindsUptoCard : Claim7 := { stood := { row := indexBindsUptoRow, standIns := [], harness := (true, "937ad11ff06e995ea8bbacb2303a339ab45b4711dca837aa2dedf95c5395091d"), looks := false }, kinds := [], alts := [], laidByText := true, laidKinds := [.data, .data], laidTests := true, laidLooks := .later }
def IndexBindsUptoCardSaid : Prop := Claim7.holds Tryd.pinned (.plain (OpenSpec.upto indexBindsSpec)) indexBindsUptoCard

/-- THE SECOND FORM's CARD OF 'lockboxlaw18.IndexTexts'. -/
def indexTextsUptoCard : Claim7 := { stood := { row := indexTextsUptoRow, standIns := [], harness := (true, "937ad11ff06e995ea8bbacb2303a339ab45b4711dca837aa2dedf95c5395091d"), looks := false }, kinds := [], alts := [], laidByText := true, laidKinds := [.data, .data], laidTests := true, laidLooks := .later }
def IndexTextsUptoCardSaid : Prop := Claim7.holds Tryd.pinned (.plain (OpenSpec.upto indexTextsSpec)) indexTextsUptoCard
end Rows
end Go.Proofs.YtdfkpjmljaanpaaDoor
