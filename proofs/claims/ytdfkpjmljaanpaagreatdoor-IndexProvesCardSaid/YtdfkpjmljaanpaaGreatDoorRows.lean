/-
  NARROWER THAN 'FOR EVERY INPUT', by the rows' own cells (each row's printed sentence says how): IndexProves: laid · QueryBuilds: laid · QueryMakes: laid · QueryVerifies: laid · QueryHonest: laid · QueryBinds: laid · QueryCodes: laid · TopWords: laid · TopFewer: laid.
  DERIVED. THE GIVEN ROWS OF THIS SEAT. 9 by the template 'for every input the law returns true; each argument reads behind the call as it read before'; 0 by the template 'total and deterministic' (their statements: YtdfkpjmljaanpaaGreatDoorTotals.lean).
  GIVEN WITH THE SEED: the statements are not yours to turn. If you find one false, say at which input.
  Laid BY PROGRAM, IN A SANDBOX (cutbox-rows.mjs): the forced cells as the released guide's own fill.sh prints them over the translation d8e43aa53d7e4868… (all of the seat's roots in one cut). By AI agents, Wed Nov 11 2026. No macro, syntax, notation, axiom, sorry.
-/
import Derived.Test.YtdfkpjmljaanpaaGreatDoorChecked
import GoSem.Claim
import GoSem.ClaimJoined
import GoSem.ClaimMapViews
import Derived.JoinedTies
import Derived.KernelRfl
namespace Go.Proofs.YtdfkpjmljaanpaaGreatDoor
/- THE CELL 'sum', in the pinned program and in every row, IS THE sha256 OF THE DUMP (.gsa) THAT YtdfkpjmljaanpaaGreatDoorProg.lean LOADS. Nothing in Lean hashes anything: it is a label: what it is worth is what the hold of that sum in a sandbox is worth. -/
noncomputable def Tryz.pinned : Pinned := { name := "ytdfkpjmljaanpaagreatdoor", sum := "d8e43aa53d7e4868d6353a5f8d1e5041c20820d4a46fae2beb3cedf596ba3274", checked := Tryz.checked }
namespace Rows
def none {H : Type} : Left H := { results := [], args := [] }

/- WHAT THE LISTED PACKAGE-LEVEL VARIABLES READ AS WHEN THE CALL BEGINS. Each datum BY PROGRAM (the guide's laid-datum.mjs) off the statement by which the dump's own 'gosem.cut.vars' lays the variable. In a bare row this is a premise. The card (YtdfkpjmljaanpaaGreatDoorCards.lean) ties it to the program's text. -/
def laid_lockbox_digest_first {H : Type} : DataW H := .agg [.lit (.int .u32 1779033703), .lit (.int .u32 3144134277), .lit (.int .u32 1013904242), .lit (.int .u32 2773480762), .lit (.int .u32 1359893119), .lit (.int .u32 2600822924), .lit (.int .u32 528734635), .lit (.int .u32 1541459225)]
def laid_lockbox_digest_roots {H : Type} : DataW H := .agg [.lit (.int .u32 1116352408), .lit (.int .u32 1899447441), .lit (.int .u32 3049323471), .lit (.int .u32 3921009573), .lit (.int .u32 961987163), .lit (.int .u32 1508970993), .lit (.int .u32 2453635748), .lit (.int .u32 2870763221), .lit (.int .u32 3624381080), .lit (.int .u32 310598401), .lit (.int .u32 607225278), .lit (.int .u32 1426881987), .lit (.int .u32 1925078388), .lit (.int .u32 2162078206), .lit (.int .u32 2614888103), .lit (.int .u32 3248222580), .lit (.int .u32 3835390401), .lit (.int .u32 4022224774), .lit (.int .u32 264347078), .lit (.int .u32 604807628), .lit (.int .u32 770255983), .lit (.int .u32 1249150122), .lit (.int .u32 1555081692), .lit (.int .u32 1996064986), .lit (.int .u32 2554220882), .lit (.int .u32 2821834349), .lit (.int .u32 2952996808), .lit (.int .u32 3210313671), .lit (.int .u32 3336571891), .lit (.int .u32 3584528711), .lit (.int .u32 113926993), .lit (.int .u32 338241895), .lit (.int .u32 666307205), .lit (.int .u32 773529912), .lit (.int .u32 1294757372), .lit (.int .u32 1396182291), .lit (.int .u32 1695183700), .lit (.int .u32 1986661051), .lit (.int .u32 2177026350), .lit (.int .u32 2456956037), .lit (.int .u32 2730485921), .lit (.int .u32 2820302411), .lit (.int .u32 3259730800), .lit (.int .u32 3345764771), .lit (.int .u32 3516065817), .lit (.int .u32 3600352804), .lit (.int .u32 4094571909), .lit (.int .u32 275423344), .lit (.int .u32 430227734), .lit (.int .u32 506948616), .lit (.int .u32 659060556), .lit (.int .u32 883997877), .lit (.int .u32 958139571), .lit (.int .u32 1322822218), .lit (.int .u32 1537002063), .lit (.int .u32 1747873779), .lit (.int .u32 1955562222), .lit (.int .u32 2024104815), .lit (.int .u32 2227730452), .lit (.int .u32 2361852424), .lit (.int .u32 2428436474), .lit (.int .u32 2756734187), .lit (.int .u32 3204031479), .lit (.int .u32 3329325298)]

/-- 'lockboxlaw18.IndexProves': WHATEVER THE INPUT: true; the input reads as it did. -/
def indexProvesSpec : ChangeSpec := { name := "indexProves", fn := fun _ => fun
  | [d1, d2, d3] => { results := [.lit (.bool true)], args := [d1, d2, d3] }
  | _ => none }
def indexProvesRow : OpenClaim := { program := "ytdfkpjmljaanpaagreatdoor", sum := "d8e43aa53d7e4868d6353a5f8d1e5041c20820d4a46fae2beb3cedf596ba3274", func := "lockbox/lockboxlaw18.IndexProves", spec := "indexProves", inPlace := ["internal/bytealg.abigen_runtime_cmpstring", "slices.overlaps[lockbox/api.Row]", "internal/abi.NoEscape"], unfollowed := true, recurses := true, named := ["lockbox/digest.first", "lockbox/digest.roots"], apart := false, laid := [("lockbox/digest.first", laid_lockbox_digest_first), ("lockbox/digest.roots", laid_lockbox_digest_roots)] }
def IndexProvesSaid : Prop := indexProvesRow.holds Tryz.pinned (OpenSpec.ofChange indexProvesSpec)

/-- ITS FALSE NEIGHBOUR: 'it returns false'. Refute it at one input. -/
def indexProvesWrong : ChangeSpec := { name := "indexProves", fn := fun _ => fun
  | [d1, d2, d3] => { results := [.lit (.bool false)], args := [d1, d2, d3] }
  | _ => none }
def IndexProvesWrongFalsely : Prop := indexProvesRow.holds Tryz.pinned (OpenSpec.ofChange indexProvesWrong)

/-- 'lockboxlaw19.QueryBuilds': WHATEVER THE INPUT: true; the input reads as it did. -/
def queryBuildsSpec : ChangeSpec := { name := "queryBuilds", fn := fun _ => fun
  | [d1, d2] => { results := [.lit (.bool true)], args := [d1, d2] }
  | _ => none }
def queryBuildsRow : OpenClaim := { program := "ytdfkpjmljaanpaagreatdoor", sum := "d8e43aa53d7e4868d6353a5f8d1e5041c20820d4a46fae2beb3cedf596ba3274", func := "lockbox/lockboxlaw19.QueryBuilds", spec := "queryBuilds", inPlace := ["internal/bytealg.abigen_runtime_cmpstring", "slices.overlaps[lockbox/api.Row]", "internal/abi.NoEscape"], unfollowed := true, recurses := true, named := ["lockbox/digest.first", "lockbox/digest.roots"], apart := false, laid := [("lockbox/digest.first", laid_lockbox_digest_first), ("lockbox/digest.roots", laid_lockbox_digest_roots)] }
def QueryBuildsSaid : Prop := queryBuildsRow.holds Tryz.pinned (OpenSpec.ofChange queryBuildsSpec)

/-- ITS FALSE NEIGHBOUR: 'it returns false'. Refute it at one input. -/
def queryBuildsWrong : ChangeSpec := { name := "queryBuilds", fn := fun _ => fun
  | [d1, d2] => { results := [.lit (.bool false)], args := [d1, d2] }
  | _ => none }
def QueryBuildsWrongFalsely : Prop := queryBuildsRow.holds Tryz.pinned (OpenSpec.ofChange queryBuildsWrong)

/-- 'lockboxlaw19.QueryMakes': WHATEVER THE INPUT: true; the input reads as it did. -/
def queryMakesSpec : ChangeSpec := { name := "queryMakes", fn := fun _ => fun
  | [d1, d2, d3] => { results := [.lit (.bool true)], args := [d1, d2, d3] }
  | _ => none }
def queryMakesRow : OpenClaim := { program := "ytdfkpjmljaanpaagreatdoor", sum := "d8e43aa53d7e4868d6353a5f8d1e5041c20820d4a46fae2beb3cedf596ba3274", func := "lockbox/lockboxlaw19.QueryMakes", spec := "queryMakes", inPlace := ["internal/bytealg.abigen_runtime_cmpstring", "slices.overlaps[lockbox/api.Row]", "internal/abi.NoEscape"], unfollowed := true, recurses := true, named := ["lockbox/digest.first", "lockbox/digest.roots"], apart := false, laid := [("lockbox/digest.first", laid_lockbox_digest_first), ("lockbox/digest.roots", laid_lockbox_digest_roots)] }
def QueryMakesSaid : Prop := queryMakesRow.holds Tryz.pinned (OpenSpec.ofChange queryMakesSpec)

/-- ITS FALSE NEIGHBOUR: 'it returns false'. Refute it at one input. -/
def queryMakesWrong : ChangeSpec := { name := "queryMakes", fn := fun _ => fun
  | [d1, d2, d3] => { results := [.lit (.bool false)], args := [d1, d2, d3] }
  | _ => none }
def QueryMakesWrongFalsely : Prop := queryMakesRow.holds Tryz.pinned (OpenSpec.ofChange queryMakesWrong)

/-- 'lockboxlaw19.QueryVerifies': WHATEVER THE INPUT: true; the input reads as it did. -/
def queryVerifiesSpec : ChangeSpec := { name := "queryVerifies", fn := fun _ => fun
  | [d] => { results := [.lit (.bool true)], args := [d] }
  | _ => none }
def queryVerifiesRow : OpenClaim := { program := "ytdfkpjmljaanpaagreatdoor", sum := "d8e43aa53d7e4868d6353a5f8d1e5041c20820d4a46fae2beb3cedf596ba3274", func := "lockbox/lockboxlaw19.QueryVerifies", spec := "queryVerifies", inPlace := ["internal/bytealg.abigen_runtime_cmpstring", "slices.overlaps[lockbox/api.Row]", "internal/abi.NoEscape"], unfollowed := true, recurses := true, named := ["lockbox/digest.first", "lockbox/digest.roots"], apart := false, laid := [("lockbox/digest.first", laid_lockbox_digest_first), ("lockbox/digest.roots", laid_lockbox_digest_roots)] }
def QueryVerifiesSaid : Prop := queryVerifiesRow.holds Tryz.pinned (OpenSpec.ofChange queryVerifiesSpec)

/-- ITS FALSE NEIGHBOUR: 'it returns false'. Refute it at one input. -/
def queryVerifiesWrong : ChangeSpec := { name := "queryVerifies", fn := fun _ => fun
  | [d] => { results := [.lit (.bool false)], args := [d] }
  | _ => none }
def QueryVerifiesWrongFalsely : Prop := queryVerifiesRow.holds Tryz.pinned (OpenSpec.ofChange queryVerifiesWrong)

/-- 'lockboxlaw19.QueryHonest': WHATEVER THE INPUT: true; the input reads as it did. -/
def queryHonestSpec : ChangeSpec := { name := "queryHonest", fn := fun _ => fun
  | [d1, d2, d3] => { results := [.lit (.bool true)], args := [d1, d2, d3] }
  | _ => none }
def queryHonestRow : OpenClaim := { program := "ytdfkpjmljaanpaagreatdoor", sum := "d8e43aa53d7e4868d6353a5f8d1e5041c20820d4a46fae2beb3cedf596ba3274", func := "lockbox/lockboxlaw19.QueryHonest", spec := "queryHonest", inPlace := ["internal/bytealg.abigen_runtime_cmpstring", "slices.overlaps[lockbox/api.Row]", "internal/abi.NoEscape"], unfollowed := true, recurses := true, named := ["lockbox/digest.first", "lockbox/digest.roots"], apart := false, laid := [("lockbox/digest.first", laid_lockbox_digest_first), ("lockbox/digest.roots", laid_lockbox_digest_roots)] }
def QueryHonestSaid : Prop := queryHonestRow.holds Tryz.pinned (OpenSpec.ofChange queryHonestSpec)

/-- ITS FALSE NEIGHBOUR: 'it returns false'. Refute it at one input. -/
def queryHonestWrong : ChangeSpec := { name := "queryHonest", fn := fun _ => fun
  | [d1, d2, d3] => { results := [.lit (.bool false)], args := [d1, d2, d3] }
  | _ => none }
def QueryHonestWrongFalsely : Prop := queryHonestRow.holds Tryz.pinned (OpenSpec.ofChange queryHonestWrong)

/-- 'lockboxlaw19.QueryBinds': WHATEVER THE INPUT: true; the input reads as it did. -/
def queryBindsSpec : ChangeSpec := { name := "queryBinds", fn := fun _ => fun
  | [d1, d2, d3] => { results := [.lit (.bool true)], args := [d1, d2, d3] }
  | _ => none }
def queryBindsRow : OpenClaim := { program := "ytdfkpjmljaanpaagreatdoor", sum := "d8e43aa53d7e4868d6353a5f8d1e5041c20820d4a46fae2beb3cedf596ba3274", func := "lockbox/lockboxlaw19.QueryBinds", spec := "queryBinds", inPlace := ["internal/bytealg.abigen_runtime_cmpstring", "slices.overlaps[lockbox/api.Row]", "internal/abi.NoEscape"], unfollowed := true, recurses := true, named := ["lockbox/digest.first", "lockbox/digest.roots"], apart := false, laid := [("lockbox/digest.first", laid_lockbox_digest_first), ("lockbox/digest.roots", laid_lockbox_digest_roots)] }
def QueryBindsSaid : Prop := queryBindsRow.holds Tryz.pinned (OpenSpec.ofChange queryBindsSpec)

/-- ITS FALSE NEIGHBOUR: 'it returns false'. Refute it at one input. -/
def queryBindsWrong : ChangeSpec := { name := "queryBinds", fn := fun _ => fun
  | [d1, d2, d3] => { results := [.lit (.bool false)], args := [d1, d2, d3] }
  | _ => none }
def QueryBindsWrongFalsely : Prop := queryBindsRow.holds Tryz.pinned (OpenSpec.ofChange queryBindsWrong)

/-- 'lockboxlaw19.QueryCodes': WHATEVER THE INPUT: true; the input reads as it did. -/
def queryCodesSpec : ChangeSpec := { name := "queryCodes", fn := fun _ => fun
  | [d1, d2] => { results := [.lit (.bool true)], args := [d1, d2] }
  | _ => none }
def queryCodesRow : OpenClaim := { program := "ytdfkpjmljaanpaagreatdoor", sum := "d8e43aa53d7e4868d6353a5f8d1e5041c20820d4a46fae2beb3cedf596ba3274", func := "lockbox/lockboxlaw19.QueryCodes", spec := "queryCodes", inPlace := ["internal/bytealg.abigen_runtime_cmpstring", "slices.overlaps[lockbox/api.Row]", "internal/abi.NoEscape"], unfollowed := true, recurses := true, named := ["lockbox/digest.first", "lockbox/digest.roots"], apart := false, laid := [("lockbox/digest.first", laid_lockbox_digest_first), ("lockbox/digest.roots", laid_lockbox_digest_roots)] }
def QueryCodesSaid : Prop := queryCodesRow.holds Tryz.pinned (OpenSpec.ofChange queryCodesSpec)

/-- ITS FALSE NEIGHBOUR: 'it returns false'. Refute it at one input. -/
def queryCodesWrong : ChangeSpec := { name := "queryCodes", fn := fun _ => fun
  | [d1, d2] => { results := [.lit (.bool false)], args := [d1, d2] }
  | _ => none }
def QueryCodesWrongFalsely : Prop := queryCodesRow.holds Tryz.pinned (OpenSpec.ofChange queryCodesWrong)

/-- 'lockboxtop.TopWords': WHATEVER THE INPUT: true; the input reads as it did. -/
def topWordsSpec : ChangeSpec := { name := "topWords", fn := fun _ => fun
  | [d1, d2] => { results := [.lit (.bool true)], args := [d1, d2] }
  | _ => none }
def topWordsRow : OpenClaim := { program := "ytdfkpjmljaanpaagreatdoor", sum := "d8e43aa53d7e4868d6353a5f8d1e5041c20820d4a46fae2beb3cedf596ba3274", func := "lockbox/lockboxtop.TopWords", spec := "topWords", inPlace := ["slices.overlaps[string]", "internal/bytealg.abigen_runtime_cmpstring", "slices.overlaps[lockbox/api.Row]", "internal/abi.NoEscape"], unfollowed := true, recurses := true, named := ["lockbox/digest.first", "lockbox/digest.roots"], apart := false, laid := [("lockbox/digest.first", laid_lockbox_digest_first), ("lockbox/digest.roots", laid_lockbox_digest_roots)] }
def TopWordsSaid : Prop := topWordsRow.holds Tryz.pinned (OpenSpec.ofChange topWordsSpec)

/-- ITS FALSE NEIGHBOUR: 'it returns false'. Refute it at one input. -/
def topWordsWrong : ChangeSpec := { name := "topWords", fn := fun _ => fun
  | [d1, d2] => { results := [.lit (.bool false)], args := [d1, d2] }
  | _ => none }
def TopWordsWrongFalsely : Prop := topWordsRow.holds Tryz.pinned (OpenSpec.ofChange topWordsWrong)

/-- 'lockboxtop.TopFewer': WHATEVER THE INPUT: true; the input reads as it did. -/
def topFewerSpec : ChangeSpec := { name := "topFewer", fn := fun _ => fun
  | [d1, d2, d3] => { results := [.lit (.bool true)], args := [d1, d2, d3] }
  | _ => none }
def topFewerRow : OpenClaim := { program := "ytdfkpjmljaanpaagreatdoor", sum := "d8e43aa53d7e4868d6353a5f8d1e5041c20820d4a46fae2beb3cedf596ba3274", func := "lockbox/lockboxtop.TopFewer", spec := "topFewer", inPlace := ["slices.overlaps[string]", "internal/bytealg.abigen_runtime_cmpstring", "slices.overlaps[lockbox/api.Row]", "internal/abi.NoEscape"], unfollowed := true, recurses := true, named := ["lockbox/digest.first", "lockbox/digest.roots"], apart := false, laid := [("lockbox/digest.first", laid_lockbox_digest_first), ("lockbox/digest.roots", laid_lockbox_digest_roots)] }
def TopFewerSaid : Prop := topFewerRow.holds Tryz.pinned (OpenSpec.ofChange topFewerSpec)

/-- ITS FALSE NEIGHBOUR: 'it returns false'. Refute it at one input. -/
def topFewerWrong : ChangeSpec := { name := "topFewer", fn := fun _ => fun
  | [d1, d2, d3] => { results := [.lit (.bool false)], args := [d1, d2, d3] }
  | _ => none }
def TopFewerWrongFalsely : Prop := topFewerRow.holds Tryz.pinned (OpenSpec.ofChange topFewerWrong)

/- THE SECOND FORM. 'bulk': how many values and letters a reading holds, each counted each time it is reached (what is shared counts as often as it is met; a slice's spare places count too). A statement '..UptoSaid' is the law's where the arguments, and the package variables that the reading takes, are together of bulk at most 1048576: NARROWER than '..Said'. Prove '..Said' where nothing that the law and all that it calls make is longer than what came in: it says more and counts as full. Else prove '..UptoSaid'. A law counts once. -/
mutual
def uptoBulk {H : Type} : DataW H → Nat
  | .lit (.string bytes) => bytes.length + 1
  | .lit _ => 1
  | .nil => 1
  | .ptr d => uptoBulk d + 1
  | .slice elems spare => uptoBulkAll elems + uptoBulkAll spare + 1
  | .agg parts => uptoBulkAll parts + 1
  | .iface _ d => uptoBulk d + 1
  | .map entries => uptoBulkEntries entries + 1
  | .held _ => 1
def uptoBulkAll {H : Type} : List (DataW H) → Nat
  | [] => 0
  | d :: r => uptoBulk d + uptoBulkAll r
def uptoBulkEntries {H : Type} : List (Lit × DataW H) → Nat
  | [] => 0
  | x :: r => uptoBulkEntry x + uptoBulkEntries r
def uptoBulkEntry {H : Type} : Lit × DataW H → Nat
  | (.string bytes, d) => bytes.length + uptoBulk d + 1
  | (_, d) => uptoBulk d + 1
 end
def uptoSmall : (H : Type) → List (DataW H) → Bool := fun _ ds => decide (uptoBulkAll ds ≤ 1048576)
def OpenSpec.upto (s : _root_.Go.ChangeSpec) : _root_.Go.OpenSpec := { _root_.Go.OpenSpec.ofChange s with cond := some uptoSmall }

/-- 'lockboxlaw18.IndexProves', WHERE WHAT IT READS IS OF BULK AT MOST 1048576: true; the input reads as it did. -/
def indexProvesUptoRow : OpenClaim := { program := "ytdfkpjmljaanpaagreatdoor", sum := "d8e43aa53d7e4868d6353a5f8d1e5041c20820d4a46fae2beb3cedf596ba3274", func := "lockbox/lockboxlaw18.IndexProves", spec := "indexProves", inPlace := ["internal/bytealg.abigen_runtime_cmpstring", "slices.overlaps[lockbox/api.Row]", "internal/abi.NoEscape"], unfollowed := true, recurses := true, named := ["lockbox/digest.first", "lockbox/digest.roots"], apart := false, laid := [("lockbox/digest.first", laid_lockbox_digest_first), ("lockbox/digest.roots", laid_lockbox_digest_roots)], narrowed := true }
def IndexProvesUptoSaid : Prop := indexProvesUptoRow.holds Tryz.pinned (OpenSpec.upto indexProvesSpec)

/-- 'lockboxlaw19.QueryBuilds', WHERE WHAT IT READS IS OF BULK AT MOST 1048576: true; the input reads as it did. -/
def queryBuildsUptoRow : OpenClaim := { program := "ytdfkpjmljaanpaagreatdoor", sum := "d8e43aa53d7e4868d6353a5f8d1e5041c20820d4a46fae2beb3cedf596ba3274", func := "lockbox/lockboxlaw19.QueryBuilds", spec := "queryBuilds", inPlace := ["internal/bytealg.abigen_runtime_cmpstring", "slices.overlaps[lockbox/api.Row]", "internal/abi.NoEscape"], unfollowed := true, recurses := true, named := ["lockbox/digest.first", "lockbox/digest.roots"], apart := false, laid := [("lockbox/digest.first", laid_lockbox_digest_first), ("lockbox/digest.roots", laid_lockbox_digest_roots)], narrowed := true }
def QueryBuildsUptoSaid : Prop := queryBuildsUptoRow.holds Tryz.pinned (OpenSpec.upto queryBuildsSpec)

/-- 'lockboxlaw19.QueryMakes', WHERE WHAT IT READS IS OF BULK AT MOST 1048576: true; the input reads as it did. -/
def queryMakesUptoRow : OpenClaim := { program := "ytdfkpjmljaanpaagreatdoor", sum := "d8e43aa53d7e4868d6353a5f8d1e5041c20820d4a46fae2beb3cedf596ba3274", func := "lockbox/lockboxlaw19.QueryMakes", spec := "queryMakes", inPlace := ["internal/bytealg.abigen_runtime_cmpstring", "slices.overlaps[lockbox/api.Row]", "internal/abi.NoEscape"], unfollowed := true, recurses := true, named := ["lockbox/digest.first", "lockbox/digest.roots"], apart := false, laid := [("lockbox/digest.first", laid_lockbox_digest_first), ("lockbox/digest.roots", laid_lockbox_digest_roots)], narrowed := true }
def QueryMakesUptoSaid : Prop := queryMakesUptoRow.holds Tryz.pinned (OpenSpec.upto queryMakesSpec)

/-- 'lockboxlaw19.QueryVerifies', WHERE WHAT IT READS IS OF BULK AT MOST 1048576: true; the input reads as it did. -/
def queryVerifiesUptoRow : OpenClaim := { program := "ytdfkpjmljaanpaagreatdoor", sum := "d8e43aa53d7e4868d6353a5f8d1e5041c20820d4a46fae2beb3cedf596ba3274", func := "lockbox/lockboxlaw19.QueryVerifies", spec := "queryVerifies", inPlace := ["internal/bytealg.abigen_runtime_cmpstring", "slices.overlaps[lockbox/api.Row]", "internal/abi.NoEscape"], unfollowed := true, recurses := true, named := ["lockbox/digest.first", "lockbox/digest.roots"], apart := false, laid := [("lockbox/digest.first", laid_lockbox_digest_first), ("lockbox/digest.roots", laid_lockbox_digest_roots)], narrowed := true }
def QueryVerifiesUptoSaid : Prop := queryVerifiesUptoRow.holds Tryz.pinned (OpenSpec.upto queryVerifiesSpec)

/-- 'lockboxlaw19.QueryHonest', WHERE WHAT IT READS IS OF BULK AT MOST 1048576: true; the input reads as it did. -/
def queryHonestUptoRow : OpenClaim := { program := "ytdfkpjmljaanpaagreatdoor", sum := "d8e43aa53d7e4868d6353a5f8d1e5041c20820d4a46fae2beb3cedf596ba3274", func := "lockbox/lockboxlaw19.QueryHonest", spec := "queryHonest", inPlace := ["internal/bytealg.abigen_runtime_cmpstring", "slices.overlaps[lockbox/api.Row]", "internal/abi.NoEscape"], unfollowed := true, recurses := true, named := ["lockbox/digest.first", "lockbox/digest.roots"], apart := false, laid := [("lockbox/digest.first", laid_lockbox_digest_first), ("lockbox/digest.roots", laid_lockbox_digest_roots)], narrowed := true }
def QueryHonestUptoSaid : Prop := queryHonestUptoRow.holds Tryz.pinned (OpenSpec.upto queryHonestSpec)

/-- 'lockboxlaw19.QueryBinds', WHERE WHAT IT READS IS OF BULK AT MOST 1048576: true; the input reads as it did. -/
def queryBindsUptoRow : OpenClaim := { program := "ytdfkpjmljaanpaagreatdoor", sum := "d8e43aa53d7e4868d6353a5f8d1e5041c20820d4a46fae2beb3cedf596ba3274", func := "lockbox/lockboxlaw19.QueryBinds", spec := "queryBinds", inPlace := ["internal/bytealg.abigen_runtime_cmpstring", "slices.overlaps[lockbox/api.Row]", "internal/abi.NoEscape"], unfollowed := true, recurses := true, named := ["lockbox/digest.first", "lockbox/digest.roots"], apart := false, laid := [("lockbox/digest.first", laid_lockbox_digest_first), ("lockbox/digest.roots", laid_lockbox_digest_roots)], narrowed := true }
def QueryBindsUptoSaid : Prop := queryBindsUptoRow.holds Tryz.pinned (OpenSpec.upto queryBindsSpec)

/-- 'lockboxlaw19.QueryCodes', WHERE WHAT IT READS IS OF BULK AT MOST 1048576: true; the input reads as it did. -/
def queryCodesUptoRow : OpenClaim := { program := "ytdfkpjmljaanpaagreatdoor", sum := "d8e43aa53d7e4868d6353a5f8d1e5041c20820d4a46fae2beb3cedf596ba3274", func := "lockbox/lockboxlaw19.QueryCodes", spec := "queryCodes", inPlace := ["internal/bytealg.abigen_runtime_cmpstring", "slices.overlaps[lockbox/api.Row]", "internal/abi.NoEscape"], unfollowed := true, recurses := true, named := ["lockbox/digest.first", "lockbox/digest.roots"], apart := false, laid := [("lockbox/digest.first", laid_lockbox_digest_first), ("lockbox/digest.roots", laid_lockbox_digest_roots)], narrowed := true }
def QueryCodesUptoSaid : Prop := queryCodesUptoRow.holds Tryz.pinned (OpenSpec.upto queryCodesSpec)

/-- 'lockboxtop.TopWords', WHERE WHAT IT READS IS OF BULK AT MOST 1048576: true; the input reads as it did. -/
def topWordsUptoRow : OpenClaim := { program := "ytdfkpjmljaanpaagreatdoor", sum := "d8e43aa53d7e4868d6353a5f8d1e5041c20820d4a46fae2beb3cedf596ba3274", func := "lockbox/lockboxtop.TopWords", spec := "topWords", inPlace := ["slices.overlaps[string]", "internal/bytealg.abigen_runtime_cmpstring", "slices.overlaps[lockbox/api.Row]", "internal/abi.NoEscape"], unfollowed := true, recurses := true, named := ["lockbox/digest.first", "lockbox/digest.roots"], apart := false, laid := [("lockbox/digest.first", laid_lockbox_digest_first), ("lockbox/digest.roots", laid_lockbox_digest_roots)], narrowed := true }
def TopWordsUptoSaid : Prop := topWordsUptoRow.holds Tryz.pinned (OpenSpec.upto topWordsSpec)

/-- 'lockboxtop.TopFewer', WHERE WHAT IT READS IS OF BULK AT MOST 1048576: true; the input reads as it did. -/
def topFewerUptoRow : OpenClaim := { program := "ytdfkpjmljaanpaagreatdoor", sum := "d8e43aa53d7e4868d6353a5f8d1e5041c20820d4a46fae2beb3cedf596ba3274", func := "lockbox/lockboxtop.TopFewer", spec := "topFewer", inPlace := ["slices.overlaps[string]", "internal/bytealg.abigen_runtime_cmpstring", "slices.overlaps[lockbox/api.Row]", "internal/abi.NoEscape"], unfollowed := true, recurses := true, named := ["lockbox/digest.first", "lockbox/digest.roots"], apart := false, laid := [("lockbox/digest.first", laid_lockbox_digest_first), ("lockbox/digest.roots", laid_lockbox_digest_roots)], narrowed := true }
def TopFewerUptoSaid : Prop := topFewerUptoRow.holds Tryz.pinned (OpenSpec.upto topFewerSpec)

end Rows
end Go.Proofs.YtdfkpjmljaanpaaGreatDoor
