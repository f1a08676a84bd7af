/-
  DERIVED. GIVEN WITH THE SEED: THE CARDS: each row of YtefpfedpgedloaaDoorRows.lean that lists a variable, with what it lists TIED to the program's text (the seventh form; the later family's looks); each row that meets fmt, with fmt's text TOLD by the authors' own Lean function (tested against real Go, not proved from fmt's source: count such statements apart). THE CARD IS WHAT COUNTS. Prove the row's statement (the work); the ties are given (YtefpfedpgedloaaDoorTie.lean); close each card by the builder's one call (the guide's Derived/Test/ToyasCard.lean, 'card_holds'). Laid BY PROGRAM, IN A SANDBOX (cutbox-door.mjs). By AI agents, Wed Nov 11 2026. No macro, syntax, notation, axiom, sorry.
-/
import Derived.Test.YtefpfedpgedloaaDoorRows
import GoSem.ClaimSeven
namespace Go.Proofs.YtefpfedpgedloaaDoor
namespace Rows

/-- THE TIED CARD OF 'lockboxlaw09.ShamirSplits'. -/
def shamirSplitsCard : Claim7 := { stood := { row := shamirSplitsRow, standIns := [], harness := (true, "1fdaad38f3b17c56f08cc25b666c439711e2759ef731734970e94b1095de966c"), looks := false }, kinds := [], alts := [], laidByText := true, laidKinds := [.data, .pinned], laidTests := true, laidLooks := .later }
def ShamirSplitsCardSaid : Prop := Claim7.holds Tryd.pinned (.plain (OpenSpec.ofChange shamirSplitsSpec)) shamirSplitsCard

/-- THE TIED CARD OF 'lockboxlaw09.ShamirCombines'. -/
def shamirCombinesCard : Claim7 := { stood := { row := shamirCombinesRow, standIns := [], harness := (true, "1fdaad38f3b17c56f08cc25b666c439711e2759ef731734970e94b1095de966c"), looks := false }, kinds := [], alts := [], laidByText := true, laidKinds := [.data, .pinned], laidTests := true, laidLooks := .later }
def ShamirCombinesCardSaid : Prop := Claim7.holds Tryd.pinned (.plain (OpenSpec.ofChange shamirCombinesSpec)) shamirCombinesCard

/-- THE TIED CARD OF 'lockboxlaw09.ShamirAny'. -/
def shamirAnyCard : Claim7 := { stood := { row := shamirAnyRow, standIns := [], harness := (true, "1fdaad38f3b17c56f08cc25b666c439711e2759ef731734970e94b1095de966c"), looks := false }, kinds := [], alts := [], laidByText := true, laidKinds := [.data, .pinned], laidTests := true, laidLooks := .later }
def ShamirAnyCardSaid : Prop := Claim7.holds Tryd.pinned (.plain (OpenSpec.ofChange shamirAnySpec)) shamirAnyCard

/-- THE TIED CARD OF 'lockboxlaw09.ShamirSecret'. -/
def shamirSecretCard : Claim7 := { stood := { row := shamirSecretRow, standIns := [], harness := (true, "1fdaad38f3b17c56f08cc25b666c439711e2759ef731734970e94b1095de966c"), looks := false }, kinds := [], alts := [], laidByText := true, laidKinds := [.data, .pinned], laidTests := true, laidLooks := .later }
def ShamirSecretCardSaid : Prop := Claim7.holds Tryd.pinned (.plain (OpenSpec.ofChange shamirSecretSpec)) shamirSecretCard

/-- THE TIED CARD OF 'lockboxlaw09.ShamirOdd'. -/
def shamirOddCard : Claim7 := { stood := { row := shamirOddRow, standIns := [], harness := (true, "1fdaad38f3b17c56f08cc25b666c439711e2759ef731734970e94b1095de966c"), looks := false }, kinds := [], alts := [], laidByText := true, laidKinds := [.data, .pinned], laidTests := true, laidLooks := .later }
def ShamirOddCardSaid : Prop := Claim7.holds Tryd.pinned (.plain (OpenSpec.ofChange shamirOddSpec)) shamirOddCard

/-- THE SECOND FORM's CARD OF 'lockboxlaw09.ShamirSplits'. -/
def shamirSplitsUptoCard : Claim7 := { stood := { row := shamirSplitsUptoRow, standIns := [], harness := (true, "1fdaad38f3b17c56f08cc25b666c439711e2759ef731734970e94b1095de966c"), looks := false }, kinds := [], alts := [], laidByText := true, laidKinds := [.data, .pinned], laidTests := true, laidLooks := .later }
def ShamirSplitsUptoCardSaid : Prop := Claim7.holds Tryd.pinned (.plain (OpenSpec.upto shamirSplitsSpec)) shamirSplitsUptoCard

/-- THE SECOND FORM's CARD OF 'lockboxlaw09.ShamirCombines'. -/
def shamirCombinesUptoCard : Claim7 := { stood := { row := shamirCombinesUptoRow, standIns := [], harness := (true, "1fdaad38f3b17c56f08cc25b666c439711e2759ef731734970e94b1095de966c"), looks := false }, kinds := [], alts := [], laidByText := true, laidKinds := [.data, .pinned], laidTests := true, laidLooks := .later }
def ShamirCombinesUptoCardSaid : Prop := Claim7.holds Tryd.pinned (.plain (OpenSpec.upto shamirCombinesSpec)) shamirCombinesUptoCard

/-- THE SECOND FORM's CARD OF 'lockboxlaw09.ShamirAny'. -/
def shamirAnyUptoCard : Claim7 := { stood := { row := shamirAnyUptoRow, standIns := [], harness := (true, "1fdaad38f3b17c56f08cc25b666c439711e2759ef731734970e94b1095de966c"), looks := false }, kinds := [], alts := [], laidByText := true, laidKinds := [.data, .pinned], laidTests := true, laidLooks := .later }
def ShamirAnyUptoCardSaid : Prop := Claim7.holds Tryd.pinned (.plain (OpenSpec.upto shamirAnySpec)) shamirAnyUptoCard

/-- THE SECOND FORM's CARD OF 'lockboxlaw09.ShamirSecret'. -/
def shamirSecretUptoCard : Claim7 := { stood := { row := shamirSecretUptoRow, standIns := [], harness := (true, "1fdaad38f3b17c56f08cc25b666c439711e2759ef731734970e94b1095de966c"), looks := false }, kinds := [], alts := [], laidByText := true, laidKinds := [.data, .pinned], laidTests := true, laidLooks := .later }
def ShamirSecretUptoCardSaid : Prop := Claim7.holds Tryd.pinned (.plain (OpenSpec.upto shamirSecretSpec)) shamirSecretUptoCard

/-- THE SECOND FORM's CARD OF 'lockboxlaw09.ShamirOdd'. -/
def shamirOddUptoCard : Claim7 := { stood := { row := shamirOddUptoRow, standIns := [], harness := (true, "1fdaad38f3b17c56f08cc25b666c439711e2759ef731734970e94b1095de966c"), looks := false }, kinds := [], alts := [], laidByText := true, laidKinds := [.data, .pinned], laidTests := true, laidLooks := .later }
def ShamirOddUptoCardSaid : Prop := Claim7.holds Tryd.pinned (.plain (OpenSpec.upto shamirOddSpec)) shamirOddUptoCard
end Rows
end Go.Proofs.YtefpfedpgedloaaDoor
