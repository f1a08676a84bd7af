/-
  DERIVED. GIVEN WITH THE SEED: THE CARDS: each row of YtdfkpjmljaanpaaGreatDoorRows.lean that lists a variable, with what it lists TIED to the program's text (the seventh form; the later family's looks); each row that meets fmt, with fmt's text TOLD by the authors' own Lean function (tested against real Go, not proved from fmt's source: count such statements apart). THE CARD IS WHAT COUNTS. Prove the row's statement (the work); the ties are given (YtdfkpjmljaanpaaGreatDoorTie.lean); close each card by the builder's one call (the guide's Derived/Test/ToyasCard.lean, 'card_holds'). Laid BY PROGRAM, IN A SANDBOX (cutbox-door.mjs). By AI agents, Wed Nov 11 2026. No macro, syntax, notation, axiom, sorry.
-/
import Derived.Test.YtdfkpjmljaanpaaGreatDoorRows
import GoSem.ClaimSeven
namespace Go.Proofs.YtdfkpjmljaanpaaGreatDoor
namespace Rows

/-- THE TIED CARD OF 'lockboxlaw18.IndexProves'. -/
def indexProvesCard : Claim7 := { stood := { row := indexProvesRow, standIns := [], harness := (true, "e7632584bb51faef4cda45860dda85aaed6d2e7a8223bd8af480b63cc836c031"), looks := false }, kinds := [], alts := [], laidByText := true, laidKinds := [.data, .data], laidTests := true, laidLooks := .later }
def IndexProvesCardSaid : Prop := Claim7.holds Tryz.pinned (.plain (OpenSpec.ofChange indexProvesSpec)) indexProvesCard

/-- THE TIED CARD OF 'lockboxlaw19.QueryBuilds'. -/
def queryBuildsCard : Claim7 := { stood := { row := queryBuildsRow, standIns := [], harness := (true, "e7632584bb51faef4cda45860dda85aaed6d2e7a8223bd8af480b63cc836c031"), looks := false }, kinds := [], alts := [], laidByText := true, laidKinds := [.data, .data], laidTests := true, laidLooks := .later }
def QueryBuildsCardSaid : Prop := Claim7.holds Tryz.pinned (.plain (OpenSpec.ofChange queryBuildsSpec)) queryBuildsCard

/-- THE TIED CARD OF 'lockboxlaw19.QueryMakes'. -/
def queryMakesCard : Claim7 := { stood := { row := queryMakesRow, standIns := [], harness := (true, "e7632584bb51faef4cda45860dda85aaed6d2e7a8223bd8af480b63cc836c031"), looks := false }, kinds := [], alts := [], laidByText := true, laidKinds := [.data, .data], laidTests := true, laidLooks := .later }
def QueryMakesCardSaid : Prop := Claim7.holds Tryz.pinned (.plain (OpenSpec.ofChange queryMakesSpec)) queryMakesCard

/-- THE TIED CARD OF 'lockboxlaw19.QueryVerifies'. -/
def queryVerifiesCard : Claim7 := { stood := { row := queryVerifiesRow, standIns := [], harness := (true, "e7632584bb51faef4cda45860dda85aaed6d2e7a8223bd8af480b63cc836c031"), looks := false }, kinds := [], alts := [], laidByText := true, laidKinds := [.data, .data], laidTests := true, laidLooks := .later }
def QueryVerifiesCardSaid : Prop := Claim7.holds Tryz.pinned (.plain (OpenSpec.ofChange queryVerifiesSpec)) queryVerifiesCard

/-- THE TIED CARD OF 'lockboxlaw19.QueryHonest'. -/
def queryHonestCard : Claim7 := { stood := { row := queryHonestRow, standIns := [], harness := (true, "e7632584bb51faef4cda45860dda85aaed6d2e7a8223bd8af480b63cc836c031"), looks := false }, kinds := [], alts := [], laidByText := true, laidKinds := [.data, .data], laidTests := true, laidLooks := .later }
def QueryHonestCardSaid : Prop := Claim7.holds Tryz.pinned (.plain (OpenSpec.ofChange queryHonestSpec)) queryHonestCard

/-- THE TIED CARD OF 'lockboxlaw19.QueryBinds'. -/
def queryBindsCard : Claim7 := { stood := { row := queryBindsRow, standIns := [], harness := (true, "e7632584bb51faef4cda45860dda85aaed6d2e7a8223bd8af480b63cc836c031"), looks := false }, kinds := [], alts := [], laidByText := true, laidKinds := [.data, .data], laidTests := true, laidLooks := .later }
def QueryBindsCardSaid : Prop := Claim7.holds Tryz.pinned (.plain (OpenSpec.ofChange queryBindsSpec)) queryBindsCard

/-- THE TIED CARD OF 'lockboxlaw19.QueryCodes'. -/
def queryCodesCard : Claim7 := { stood := { row := queryCodesRow, standIns := [], harness := (true, "e7632584bb51faef4cda45860dda85aaed6d2e7a8223bd8af480b63cc836c031"), looks := false }, kinds := [], alts := [], laidByText := true, laidKinds := [.data, .data], laidTests := true, laidLooks := .later }
def QueryCodesCardSaid : Prop := Claim7.holds Tryz.pinned (.plain (OpenSpec.ofChange queryCodesSpec)) queryCodesCard

/-- THE TIED CARD OF 'lockboxtop.TopWords'. -/
def topWordsCard : Claim7 := { stood := { row := topWordsRow, standIns := [], harness := (true, "e7632584bb51faef4cda45860dda85aaed6d2e7a8223bd8af480b63cc836c031"), looks := false }, kinds := [], alts := [], laidByText := true, laidKinds := [.data, .data], laidTests := true, laidLooks := .later }
def TopWordsCardSaid : Prop := Claim7.holds Tryz.pinned (.plain (OpenSpec.ofChange topWordsSpec)) topWordsCard

/-- THE TIED CARD OF 'lockboxtop.TopFewer'. -/
def topFewerCard : Claim7 := { stood := { row := topFewerRow, standIns := [], harness := (true, "e7632584bb51faef4cda45860dda85aaed6d2e7a8223bd8af480b63cc836c031"), looks := false }, kinds := [], alts := [], laidByText := true, laidKinds := [.data, .data], laidTests := true, laidLooks := .later }
def TopFewerCardSaid : Prop := Claim7.holds Tryz.pinned (.plain (OpenSpec.ofChange topFewerSpec)) topFewerCard

/-- THE SECOND FORM's CARD OF 'lockboxlaw18.IndexProves'. -/
def indexProvesUptoCard : Claim7 := { stood := { row := indexProvesUptoRow, standIns := [], harness := (true, "e7632584bb51faef4cda45860dda85aaed6d2e7a8223bd8af480b63cc836c031"), looks := false }, kinds := [], alts := [], laidByText := true, laidKinds := [.data, .data], laidTests := true, laidLooks := .later }
def IndexProvesUptoCardSaid : Prop := Claim7.holds Tryz.pinned (.plain (OpenSpec.upto indexProvesSpec)) indexProvesUptoCard

/-- THE SECOND FORM's CARD OF 'lockboxlaw19.QueryBuilds'. -/
def queryBuildsUptoCard : Claim7 := { stood := { row := queryBuildsUptoRow, standIns := [], harness := (true, "e7632584bb51faef4cda45860dda85aaed6d2e7a8223bd8af480b63cc836c031"), looks := false }, kinds := [], alts := [], laidByText := true, laidKinds := [.data, .data], laidTests := true, laidLooks := .later }
def QueryBuildsUptoCardSaid : Prop := Claim7.holds Tryz.pinned (.plain (OpenSpec.upto queryBuildsSpec)) queryBuildsUptoCard

/-- THE SECOND FORM's CARD OF 'lockboxlaw19.QueryMakes'. -/
def queryMakesUptoCard : Claim7 := { stood := { row := queryMakesUptoRow, standIns := [], harness := (true, "e7632584bb51faef4cda45860dda85aaed6d2e7a8223bd8af480b63cc836c031"), looks := false }, kinds := [], alts := [], laidByText := true, laidKinds := [.data, .data], laidTests := true, laidLooks := .later }
def QueryMakesUptoCardSaid : Prop := Claim7.holds Tryz.pinned (.plain (OpenSpec.upto queryMakesSpec)) queryMakesUptoCard

/-- THE SECOND FORM's CARD OF 'lockboxlaw19.QueryVerifies'. -/
def queryVerifiesUptoCard : Claim7 := { stood := { row := queryVerifiesUptoRow, standIns := [], harness := (true, "e7632584bb51faef4cda45860dda85aaed6d2e7a8223bd8af480b63cc836c031"), looks := false }, kinds := [], alts := [], laidByText := true, laidKinds := [.data, .data], laidTests := true, laidLooks := .later }
def QueryVerifiesUptoCardSaid : Prop := Claim7.holds Tryz.pinned (.plain (OpenSpec.upto queryVerifiesSpec)) queryVerifiesUptoCard

/-- THE SECOND FORM's CARD OF 'lockboxlaw19.QueryHonest'. -/
def queryHonestUptoCard : Claim7 := { stood := { row := queryHonestUptoRow, standIns := [], harness := (true, "e7632584bb51faef4cda45860dda85aaed6d2e7a8223bd8af480b63cc836c031"), looks := false }, kinds := [], alts := [], laidByText := true, laidKinds := [.data, .data], laidTests := true, laidLooks := .later }
def QueryHonestUptoCardSaid : Prop := Claim7.holds Tryz.pinned (.plain (OpenSpec.upto queryHonestSpec)) queryHonestUptoCard

/-- THE SECOND FORM's CARD OF 'lockboxlaw19.QueryBinds'. -/
def queryBindsUptoCard : Claim7 := { stood := { row := queryBindsUptoRow, standIns := [], harness := (true, "e7632584bb51faef4cda45860dda85aaed6d2e7a8223bd8af480b63cc836c031"), looks := false }, kinds := [], alts := [], laidByText := true, laidKinds := [.data, .data], laidTests := true, laidLooks := .later }
def QueryBindsUptoCardSaid : Prop := Claim7.holds Tryz.pinned (.plain (OpenSpec.upto queryBindsSpec)) queryBindsUptoCard

/-- THE SECOND FORM's CARD OF 'lockboxlaw19.QueryCodes'. -/
def queryCodesUptoCard : Claim7 := { stood := { row := queryCodesUptoRow, standIns := [], harness := (true, "e7632584bb51faef4cda45860dda85aaed6d2e7a8223bd8af480b63cc836c031"), looks := false }, kinds := [], alts := [], laidByText := true, laidKinds := [.data, .data], laidTests := true, laidLooks := .later }
def QueryCodesUptoCardSaid : Prop := Claim7.holds Tryz.pinned (.plain (OpenSpec.upto queryCodesSpec)) queryCodesUptoCard

/-- THE SECOND FORM's CARD OF 'lockboxtop.TopWords'. -/
def topWordsUptoCard : Claim7 := { stood := { row := topWordsUptoRow, standIns := [], harness := (true, "e7632584bb51faef4cda45860dda85aaed6d2e7a8223bd8af480b63cc836c031"), looks := false }, kinds := [], alts := [], laidByText := true, laidKinds := [.data, .data], laidTests := true, laidLooks := .later }
def TopWordsUptoCardSaid : Prop := Claim7.holds Tryz.pinned (.plain (OpenSpec.upto topWordsSpec)) topWordsUptoCard

/-- THE SECOND FORM's CARD OF 'lockboxtop.TopFewer'. -/
def topFewerUptoCard : Claim7 := { stood := { row := topFewerUptoRow, standIns := [], harness := (true, "e7632584bb51faef4cda45860dda85aaed6d2e7a8223bd8af480b63cc836c031"), looks := false }, kinds := [], alts := [], laidByText := true, laidKinds := [.data, .data], laidTests := true, laidLooks := .later }
def TopFewerUptoCardSaid : Prop := Claim7.holds Tryz.pinned (.plain (OpenSpec.upto topFewerSpec)) topFewerUptoCard
end Rows
end Go.Proofs.YtdfkpjmljaanpaaGreatDoor
