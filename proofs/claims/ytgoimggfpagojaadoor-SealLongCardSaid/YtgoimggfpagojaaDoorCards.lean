/-
  DERIVED. GIVEN WITH THE SEED: THE CARDS: each row of YtgoimggfpagojaaDoorRows.lean that lists a variable, with what it lists TIED to the program's text (the seventh form; the later family's looks); each row that meets fmt, with fmt's text TOLD by the authors' own Lean function (tested against real Go, not proved from fmt's source: count such statements apart). THE CARD IS WHAT COUNTS. Prove the row's statement (the work); the ties are given (YtgoimggfpagojaaDoorTie.lean); close each card by the builder's one call (the guide's Derived/Test/ToyasCard.lean, 'card_holds'). Laid BY PROGRAM, IN A SANDBOX (cutbox-door.mjs). By AI agents, Wed Nov 11 2026. No macro, syntax, notation, axiom, sorry.
-/
import Derived.Test.YtgoimggfpagojaaDoorRows
import GoSem.ClaimSeven
namespace Go.Proofs.YtgoimggfpagojaaDoor
namespace Rows

/-- THE TIED CARD OF 'lockboxlaw15.WordsNorm'. -/
def wordsNormCard : Claim7 := { stood := { row := wordsNormRow, standIns := [], harness := (true, "55e50a76e8c55f162155ab186247c33d806c0ed65ada05b6387f39be92d56110"), looks := false }, kinds := [], alts := [], laidByText := true, laidKinds := [.data, .data], laidTests := true, laidLooks := .later }
def WordsNormCardSaid : Prop := Claim7.holds Tryd.pinned (.plain (OpenSpec.ofChange wordsNormSpec)) wordsNormCard

/-- THE TIED CARD OF 'lockboxlaw15.WordsOf'. -/
def wordsOfCard : Claim7 := { stood := { row := wordsOfRow, standIns := [], harness := (true, "55e50a76e8c55f162155ab186247c33d806c0ed65ada05b6387f39be92d56110"), looks := false }, kinds := [], alts := [], laidByText := true, laidKinds := [.data, .data], laidTests := true, laidLooks := .later }
def WordsOfCardSaid : Prop := Claim7.holds Tryd.pinned (.plain (OpenSpec.ofChange wordsOfSpec)) wordsOfCard

/-- THE TIED CARD OF 'lockboxlaw15.WordsTags'. -/
def wordsTagsCard : Claim7 := { stood := { row := wordsTagsRow, standIns := [], harness := (true, "55e50a76e8c55f162155ab186247c33d806c0ed65ada05b6387f39be92d56110"), looks := false }, kinds := [], alts := [], laidByText := true, laidKinds := [.data, .data], laidTests := true, laidLooks := .later }
def WordsTagsCardSaid : Prop := Claim7.holds Tryd.pinned (.plain (OpenSpec.ofChange wordsTagsSpec)) wordsTagsCard

/-- THE TIED CARD OF 'lockboxlaw15.WordsAgain'. -/
def wordsAgainCard : Claim7 := { stood := { row := wordsAgainRow, standIns := [], harness := (true, "55e50a76e8c55f162155ab186247c33d806c0ed65ada05b6387f39be92d56110"), looks := false }, kinds := [], alts := [], laidByText := true, laidKinds := [.data, .data], laidTests := true, laidLooks := .later }
def WordsAgainCardSaid : Prop := Claim7.holds Tryd.pinned (.plain (OpenSpec.ofChange wordsAgainSpec)) wordsAgainCard

/-- THE TIED CARD OF 'lockboxlaw15.WordsCase'. -/
def wordsCaseCard : Claim7 := { stood := { row := wordsCaseRow, standIns := [], harness := (true, "55e50a76e8c55f162155ab186247c33d806c0ed65ada05b6387f39be92d56110"), looks := false }, kinds := [], alts := [], laidByText := true, laidKinds := [.data, .data], laidTests := true, laidLooks := .later }
def WordsCaseCardSaid : Prop := Claim7.holds Tryd.pinned (.plain (OpenSpec.ofChange wordsCaseSpec)) wordsCaseCard

/-- THE TIED CARD OF 'lockboxlaw16.SealSeals'. -/
def sealSealsCard : Claim7 := { stood := { row := sealSealsRow, standIns := [], harness := (true, "55e50a76e8c55f162155ab186247c33d806c0ed65ada05b6387f39be92d56110"), looks := false }, kinds := [], alts := [], laidByText := true, laidKinds := [.data, .data, .data], laidTests := true, laidLooks := .later }
def SealSealsCardSaid : Prop := Claim7.holds Tryd.pinned (.plain (OpenSpec.ofChange sealSealsSpec)) sealSealsCard

/-- THE TIED CARD OF 'lockboxlaw16.SealBack'. -/
def sealBackCard : Claim7 := { stood := { row := sealBackRow, standIns := [], harness := (true, "55e50a76e8c55f162155ab186247c33d806c0ed65ada05b6387f39be92d56110"), looks := false }, kinds := [], alts := [], laidByText := true, laidKinds := [.data, .data, .data], laidTests := true, laidLooks := .later }
def SealBackCardSaid : Prop := Claim7.holds Tryd.pinned (.plain (OpenSpec.ofChange sealBackSpec)) sealBackCard

/-- THE TIED CARD OF 'lockboxlaw16.SealLong'. -/
def sealLongCard : Claim7 := { stood := { row := sealLongRow, standIns := [], harness := (true, "55e50a76e8c55f162155ab186247c33d806c0ed65ada05b6387f39be92d56110"), looks := false }, kinds := [], alts := [], laidByText := true, laidKinds := [.data, .data, .data], laidTests := true, laidLooks := .later }
def SealLongCardSaid : Prop := Claim7.holds Tryd.pinned (.plain (OpenSpec.ofChange sealLongSpec)) sealLongCard

/-- THE TIED CARD OF 'lockboxlaw16.SealTurned'. -/
def sealTurnedCard : Claim7 := { stood := { row := sealTurnedRow, standIns := [], harness := (true, "55e50a76e8c55f162155ab186247c33d806c0ed65ada05b6387f39be92d56110"), looks := false }, kinds := [], alts := [], laidByText := true, laidKinds := [.data, .data, .data], laidTests := true, laidLooks := .later }
def SealTurnedCardSaid : Prop := Claim7.holds Tryd.pinned (.plain (OpenSpec.ofChange sealTurnedSpec)) sealTurnedCard

/-- THE SECOND FORM's CARD OF 'lockboxlaw15.WordsNorm'. -/
def wordsNormUptoCard : Claim7 := { stood := { row := wordsNormUptoRow, standIns := [], harness := (true, "55e50a76e8c55f162155ab186247c33d806c0ed65ada05b6387f39be92d56110"), looks := false }, kinds := [], alts := [], laidByText := true, laidKinds := [.data, .data], laidTests := true, laidLooks := .later }
def WordsNormUptoCardSaid : Prop := Claim7.holds Tryd.pinned (.plain (OpenSpec.upto wordsNormSpec)) wordsNormUptoCard

/-- THE SECOND FORM's CARD OF 'lockboxlaw15.WordsOf'. -/
def wordsOfUptoCard : Claim7 := { stood := { row := wordsOfUptoRow, standIns := [], harness := (true, "55e50a76e8c55f162155ab186247c33d806c0ed65ada05b6387f39be92d56110"), looks := false }, kinds := [], alts := [], laidByText := true, laidKinds := [.data, .data], laidTests := true, laidLooks := .later }
def WordsOfUptoCardSaid : Prop := Claim7.holds Tryd.pinned (.plain (OpenSpec.upto wordsOfSpec)) wordsOfUptoCard

/-- THE SECOND FORM's CARD OF 'lockboxlaw15.WordsTags'. -/
def wordsTagsUptoCard : Claim7 := { stood := { row := wordsTagsUptoRow, standIns := [], harness := (true, "55e50a76e8c55f162155ab186247c33d806c0ed65ada05b6387f39be92d56110"), looks := false }, kinds := [], alts := [], laidByText := true, laidKinds := [.data, .data], laidTests := true, laidLooks := .later }
def WordsTagsUptoCardSaid : Prop := Claim7.holds Tryd.pinned (.plain (OpenSpec.upto wordsTagsSpec)) wordsTagsUptoCard

/-- THE SECOND FORM's CARD OF 'lockboxlaw15.WordsAgain'. -/
def wordsAgainUptoCard : Claim7 := { stood := { row := wordsAgainUptoRow, standIns := [], harness := (true, "55e50a76e8c55f162155ab186247c33d806c0ed65ada05b6387f39be92d56110"), looks := false }, kinds := [], alts := [], laidByText := true, laidKinds := [.data, .data], laidTests := true, laidLooks := .later }
def WordsAgainUptoCardSaid : Prop := Claim7.holds Tryd.pinned (.plain (OpenSpec.upto wordsAgainSpec)) wordsAgainUptoCard

/-- THE SECOND FORM's CARD OF 'lockboxlaw15.WordsCase'. -/
def wordsCaseUptoCard : Claim7 := { stood := { row := wordsCaseUptoRow, standIns := [], harness := (true, "55e50a76e8c55f162155ab186247c33d806c0ed65ada05b6387f39be92d56110"), looks := false }, kinds := [], alts := [], laidByText := true, laidKinds := [.data, .data], laidTests := true, laidLooks := .later }
def WordsCaseUptoCardSaid : Prop := Claim7.holds Tryd.pinned (.plain (OpenSpec.upto wordsCaseSpec)) wordsCaseUptoCard

/-- THE SECOND FORM's CARD OF 'lockboxlaw16.SealSeals'. -/
def sealSealsUptoCard : Claim7 := { stood := { row := sealSealsUptoRow, standIns := [], harness := (true, "55e50a76e8c55f162155ab186247c33d806c0ed65ada05b6387f39be92d56110"), looks := false }, kinds := [], alts := [], laidByText := true, laidKinds := [.data, .data, .data], laidTests := true, laidLooks := .later }
def SealSealsUptoCardSaid : Prop := Claim7.holds Tryd.pinned (.plain (OpenSpec.upto sealSealsSpec)) sealSealsUptoCard

/-- THE SECOND FORM's CARD OF 'lockboxlaw16.SealBack'. -/
def sealBackUptoCard : Claim7 := { stood := { row := sealBackUptoRow, standIns := [], harness := (true, "55e50a76e8c55f162155ab186247c33d806c0ed65ada05b6387f39be92d56110"), looks := false }, kinds := [], alts := [], laidByText := true, laidKinds := [.data, .data, .data], laidTests := true, laidLooks := .later }
def SealBackUptoCardSaid : Prop := Claim7.holds Tryd.pinned (.plain (OpenSpec.upto sealBackSpec)) sealBackUptoCard

/-- THE SECOND FORM's CARD OF 'lockboxlaw16.SealLong'. -/
def sealLongUptoCard : Claim7 := { stood := { row := sealLongUptoRow, standIns := [], harness := (true, "55e50a76e8c55f162155ab186247c33d806c0ed65ada05b6387f39be92d56110"), looks := false }, kinds := [], alts := [], laidByText := true, laidKinds := [.data, .data, .data], laidTests := true, laidLooks := .later }
def SealLongUptoCardSaid : Prop := Claim7.holds Tryd.pinned (.plain (OpenSpec.upto sealLongSpec)) sealLongUptoCard

/-- THE SECOND FORM's CARD OF 'lockboxlaw16.SealTurned'. -/
def sealTurnedUptoCard : Claim7 := { stood := { row := sealTurnedUptoRow, standIns := [], harness := (true, "55e50a76e8c55f162155ab186247c33d806c0ed65ada05b6387f39be92d56110"), looks := false }, kinds := [], alts := [], laidByText := true, laidKinds := [.data, .data, .data], laidTests := true, laidLooks := .later }
def SealTurnedUptoCardSaid : Prop := Claim7.holds Tryd.pinned (.plain (OpenSpec.upto sealTurnedSpec)) sealTurnedUptoCard
end Rows
end Go.Proofs.YtgoimggfpagojaaDoor
