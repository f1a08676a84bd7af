/-
  NARROWER THAN 'FOR EVERY INPUT', by the rows' own cells (each row's printed sentence says how): WordsNorm: laid · WordsOf: laid · WordsTags: laid · WordsAgain: laid · WordsCase: laid · SealSeals: laid · SealBack: laid · SealLong: laid · SealTurned: laid.
  DERIVED. THE GIVEN ROWS OF THIS SEAT. 9 by the template 'for every input the law returns true; each argument reads behind the call as it read before'; 0 by the template 'total and deterministic' (their statements: YtgoimggfpagojaaDoorTotals.lean).
  GIVEN WITH THE SEED: the statements are not yours to turn. If you find one false, say at which input.
  Laid BY PROGRAM, IN A SANDBOX (cutbox-rows.mjs): the forced cells as the released guide's own fill.sh prints them over the translation b8a8d7849fd60247… (all of the seat's roots in one cut). By AI agents, Wed Nov 11 2026. No macro, syntax, notation, axiom, sorry.
-/
import Derived.Test.YtgoimggfpagojaaDoorChecked
import GoSem.Claim
import GoSem.ClaimJoined
import GoSem.ClaimMapViews
import Derived.JoinedTies
import Derived.KernelRfl
namespace Go.Proofs.YtgoimggfpagojaaDoor
/- THE CELL 'sum', in the pinned program and in every row, IS THE sha256 OF THE DUMP (.gsa) THAT YtgoimggfpagojaaDoorProg.lean LOADS. Nothing in Lean hashes anything: it is a label: what it is worth is what the hold of that sum in a sandbox is worth. -/
noncomputable def Tryd.pinned : Pinned := { name := "ytgoimggfpagojaadoor", sum := "b8a8d7849fd602477898bbc3d96247a4e20e9f2134dd8a54e5470a086ff79d5e", checked := Tryd.checked }
namespace Rows
def none {H : Type} : Left H := { results := [], args := [] }

/- WHAT THE LISTED PACKAGE-LEVEL VARIABLES READ AS WHEN THE CALL BEGINS. Each datum BY PROGRAM (the guide's laid-datum.mjs) off the statement by which the dump's own 'gosem.cut.vars' lays the variable. In a bare row this is a premise. The card (YtgoimggfpagojaaDoorCards.lean) ties it to the program's text. -/
def laid_lockbox_digest_first {H : Type} : DataW H := .agg [.lit (.int .u32 1779033703), .lit (.int .u32 3144134277), .lit (.int .u32 1013904242), .lit (.int .u32 2773480762), .lit (.int .u32 1359893119), .lit (.int .u32 2600822924), .lit (.int .u32 528734635), .lit (.int .u32 1541459225)]
def laid_lockbox_digest_roots {H : Type} : DataW H := .agg [.lit (.int .u32 1116352408), .lit (.int .u32 1899447441), .lit (.int .u32 3049323471), .lit (.int .u32 3921009573), .lit (.int .u32 961987163), .lit (.int .u32 1508970993), .lit (.int .u32 2453635748), .lit (.int .u32 2870763221), .lit (.int .u32 3624381080), .lit (.int .u32 310598401), .lit (.int .u32 607225278), .lit (.int .u32 1426881987), .lit (.int .u32 1925078388), .lit (.int .u32 2162078206), .lit (.int .u32 2614888103), .lit (.int .u32 3248222580), .lit (.int .u32 3835390401), .lit (.int .u32 4022224774), .lit (.int .u32 264347078), .lit (.int .u32 604807628), .lit (.int .u32 770255983), .lit (.int .u32 1249150122), .lit (.int .u32 1555081692), .lit (.int .u32 1996064986), .lit (.int .u32 2554220882), .lit (.int .u32 2821834349), .lit (.int .u32 2952996808), .lit (.int .u32 3210313671), .lit (.int .u32 3336571891), .lit (.int .u32 3584528711), .lit (.int .u32 113926993), .lit (.int .u32 338241895), .lit (.int .u32 666307205), .lit (.int .u32 773529912), .lit (.int .u32 1294757372), .lit (.int .u32 1396182291), .lit (.int .u32 1695183700), .lit (.int .u32 1986661051), .lit (.int .u32 2177026350), .lit (.int .u32 2456956037), .lit (.int .u32 2730485921), .lit (.int .u32 2820302411), .lit (.int .u32 3259730800), .lit (.int .u32 3345764771), .lit (.int .u32 3516065817), .lit (.int .u32 3600352804), .lit (.int .u32 4094571909), .lit (.int .u32 275423344), .lit (.int .u32 430227734), .lit (.int .u32 506948616), .lit (.int .u32 659060556), .lit (.int .u32 883997877), .lit (.int .u32 958139571), .lit (.int .u32 1322822218), .lit (.int .u32 1537002063), .lit (.int .u32 1747873779), .lit (.int .u32 1955562222), .lit (.int .u32 2024104815), .lit (.int .u32 2227730452), .lit (.int .u32 2361852424), .lit (.int .u32 2428436474), .lit (.int .u32 2756734187), .lit (.int .u32 3204031479), .lit (.int .u32 3329325298)]
def laid_lockbox_chacha_turns {H : Type} : DataW H := .agg [.agg [.lit (.int .u8 0), .lit (.int .u8 4), .lit (.int .u8 8), .lit (.int .u8 12)], .agg [.lit (.int .u8 1), .lit (.int .u8 5), .lit (.int .u8 9), .lit (.int .u8 13)], .agg [.lit (.int .u8 2), .lit (.int .u8 6), .lit (.int .u8 10), .lit (.int .u8 14)], .agg [.lit (.int .u8 3), .lit (.int .u8 7), .lit (.int .u8 11), .lit (.int .u8 15)], .agg [.lit (.int .u8 0), .lit (.int .u8 5), .lit (.int .u8 10), .lit (.int .u8 15)], .agg [.lit (.int .u8 1), .lit (.int .u8 6), .lit (.int .u8 11), .lit (.int .u8 12)], .agg [.lit (.int .u8 2), .lit (.int .u8 7), .lit (.int .u8 8), .lit (.int .u8 13)], .agg [.lit (.int .u8 3), .lit (.int .u8 4), .lit (.int .u8 9), .lit (.int .u8 14)]]

/-- 'lockboxlaw15.WordsNorm': WHATEVER THE INPUT: true; the input reads as it did. -/
def wordsNormSpec : ChangeSpec := { name := "wordsNorm", fn := fun _ => fun
  | [d] => { results := [.lit (.bool true)], args := [d] }
  | _ => none }
def wordsNormRow : OpenClaim := { program := "ytgoimggfpagojaadoor", sum := "b8a8d7849fd602477898bbc3d96247a4e20e9f2134dd8a54e5470a086ff79d5e", func := "lockbox/lockboxlaw15.WordsNorm", spec := "wordsNorm", inPlace := ["slices.overlaps[string]"], named := ["lockbox/digest.first", "lockbox/digest.roots"], apart := false, laid := [("lockbox/digest.first", laid_lockbox_digest_first), ("lockbox/digest.roots", laid_lockbox_digest_roots)] }
def WordsNormSaid : Prop := wordsNormRow.holds Tryd.pinned (OpenSpec.ofChange wordsNormSpec)

/-- ITS FALSE NEIGHBOUR: 'it returns false'. Refute it at one input. -/
def wordsNormWrong : ChangeSpec := { name := "wordsNorm", fn := fun _ => fun
  | [d] => { results := [.lit (.bool false)], args := [d] }
  | _ => none }
def WordsNormWrongFalsely : Prop := wordsNormRow.holds Tryd.pinned (OpenSpec.ofChange wordsNormWrong)

/-- 'lockboxlaw15.WordsOf': WHATEVER THE INPUT: true; the input reads as it did. -/
def wordsOfSpec : ChangeSpec := { name := "wordsOf", fn := fun _ => fun
  | [d] => { results := [.lit (.bool true)], args := [d] }
  | _ => none }
def wordsOfRow : OpenClaim := { program := "ytgoimggfpagojaadoor", sum := "b8a8d7849fd602477898bbc3d96247a4e20e9f2134dd8a54e5470a086ff79d5e", func := "lockbox/lockboxlaw15.WordsOf", spec := "wordsOf", inPlace := ["slices.overlaps[string]"], named := ["lockbox/digest.first", "lockbox/digest.roots"], apart := false, laid := [("lockbox/digest.first", laid_lockbox_digest_first), ("lockbox/digest.roots", laid_lockbox_digest_roots)] }
def WordsOfSaid : Prop := wordsOfRow.holds Tryd.pinned (OpenSpec.ofChange wordsOfSpec)

/-- ITS FALSE NEIGHBOUR: 'it returns false'. Refute it at one input. -/
def wordsOfWrong : ChangeSpec := { name := "wordsOf", fn := fun _ => fun
  | [d] => { results := [.lit (.bool false)], args := [d] }
  | _ => none }
def WordsOfWrongFalsely : Prop := wordsOfRow.holds Tryd.pinned (OpenSpec.ofChange wordsOfWrong)

/-- 'lockboxlaw15.WordsTags': WHATEVER THE INPUT: true; the input reads as it did. -/
def wordsTagsSpec : ChangeSpec := { name := "wordsTags", fn := fun _ => fun
  | [d1, d2, d3] => { results := [.lit (.bool true)], args := [d1, d2, d3] }
  | _ => none }
def wordsTagsRow : OpenClaim := { program := "ytgoimggfpagojaadoor", sum := "b8a8d7849fd602477898bbc3d96247a4e20e9f2134dd8a54e5470a086ff79d5e", func := "lockbox/lockboxlaw15.WordsTags", spec := "wordsTags", inPlace := ["slices.overlaps[string]"], recurses := true, named := ["lockbox/digest.first", "lockbox/digest.roots"], apart := false, laid := [("lockbox/digest.first", laid_lockbox_digest_first), ("lockbox/digest.roots", laid_lockbox_digest_roots)] }
def WordsTagsSaid : Prop := wordsTagsRow.holds Tryd.pinned (OpenSpec.ofChange wordsTagsSpec)

/-- ITS FALSE NEIGHBOUR: 'it returns false'. Refute it at one input. -/
def wordsTagsWrong : ChangeSpec := { name := "wordsTags", fn := fun _ => fun
  | [d1, d2, d3] => { results := [.lit (.bool false)], args := [d1, d2, d3] }
  | _ => none }
def WordsTagsWrongFalsely : Prop := wordsTagsRow.holds Tryd.pinned (OpenSpec.ofChange wordsTagsWrong)

/-- 'lockboxlaw15.WordsAgain': WHATEVER THE INPUT: true; the input reads as it did. -/
def wordsAgainSpec : ChangeSpec := { name := "wordsAgain", fn := fun _ => fun
  | [d] => { results := [.lit (.bool true)], args := [d] }
  | _ => none }
def wordsAgainRow : OpenClaim := { program := "ytgoimggfpagojaadoor", sum := "b8a8d7849fd602477898bbc3d96247a4e20e9f2134dd8a54e5470a086ff79d5e", func := "lockbox/lockboxlaw15.WordsAgain", spec := "wordsAgain", inPlace := ["slices.overlaps[string]"], named := ["lockbox/digest.first", "lockbox/digest.roots"], apart := false, laid := [("lockbox/digest.first", laid_lockbox_digest_first), ("lockbox/digest.roots", laid_lockbox_digest_roots)] }
def WordsAgainSaid : Prop := wordsAgainRow.holds Tryd.pinned (OpenSpec.ofChange wordsAgainSpec)

/-- ITS FALSE NEIGHBOUR: 'it returns false'. Refute it at one input. -/
def wordsAgainWrong : ChangeSpec := { name := "wordsAgain", fn := fun _ => fun
  | [d] => { results := [.lit (.bool false)], args := [d] }
  | _ => none }
def WordsAgainWrongFalsely : Prop := wordsAgainRow.holds Tryd.pinned (OpenSpec.ofChange wordsAgainWrong)

/-- 'lockboxlaw15.WordsCase': WHATEVER THE INPUT: true; the input reads as it did. -/
def wordsCaseSpec : ChangeSpec := { name := "wordsCase", fn := fun _ => fun
  | [d1, d2] => { results := [.lit (.bool true)], args := [d1, d2] }
  | _ => none }
def wordsCaseRow : OpenClaim := { program := "ytgoimggfpagojaadoor", sum := "b8a8d7849fd602477898bbc3d96247a4e20e9f2134dd8a54e5470a086ff79d5e", func := "lockbox/lockboxlaw15.WordsCase", spec := "wordsCase", inPlace := ["slices.overlaps[string]"], named := ["lockbox/digest.first", "lockbox/digest.roots"], apart := false, laid := [("lockbox/digest.first", laid_lockbox_digest_first), ("lockbox/digest.roots", laid_lockbox_digest_roots)] }
def WordsCaseSaid : Prop := wordsCaseRow.holds Tryd.pinned (OpenSpec.ofChange wordsCaseSpec)

/-- ITS FALSE NEIGHBOUR: 'it returns false'. Refute it at one input. -/
def wordsCaseWrong : ChangeSpec := { name := "wordsCase", fn := fun _ => fun
  | [d1, d2] => { results := [.lit (.bool false)], args := [d1, d2] }
  | _ => none }
def WordsCaseWrongFalsely : Prop := wordsCaseRow.holds Tryd.pinned (OpenSpec.ofChange wordsCaseWrong)

/-- 'lockboxlaw16.SealSeals': WHATEVER THE INPUT: true; the input reads as it did. -/
def sealSealsSpec : ChangeSpec := { name := "sealSeals", fn := fun _ => fun
  | [d1, d2, d3] => { results := [.lit (.bool true)], args := [d1, d2, d3] }
  | _ => none }
def sealSealsRow : OpenClaim := { program := "ytgoimggfpagojaadoor", sum := "b8a8d7849fd602477898bbc3d96247a4e20e9f2134dd8a54e5470a086ff79d5e", func := "lockbox/lockboxlaw16.SealSeals", spec := "sealSeals", inPlace := ["internal/abi.NoEscape"], recurses := true, named := ["lockbox/digest.first", "lockbox/digest.roots", "lockbox/chacha.turns"], apart := false, laid := [("lockbox/chacha.turns", laid_lockbox_chacha_turns), ("lockbox/digest.first", laid_lockbox_digest_first), ("lockbox/digest.roots", laid_lockbox_digest_roots)] }
def SealSealsSaid : Prop := sealSealsRow.holds Tryd.pinned (OpenSpec.ofChange sealSealsSpec)

/-- ITS FALSE NEIGHBOUR: 'it returns false'. Refute it at one input. -/
def sealSealsWrong : ChangeSpec := { name := "sealSeals", fn := fun _ => fun
  | [d1, d2, d3] => { results := [.lit (.bool false)], args := [d1, d2, d3] }
  | _ => none }
def SealSealsWrongFalsely : Prop := sealSealsRow.holds Tryd.pinned (OpenSpec.ofChange sealSealsWrong)

/-- 'lockboxlaw16.SealBack': WHATEVER THE INPUT: true; the input reads as it did. -/
def sealBackSpec : ChangeSpec := { name := "sealBack", fn := fun _ => fun
  | [d1, d2, d3] => { results := [.lit (.bool true)], args := [d1, d2, d3] }
  | _ => none }
def sealBackRow : OpenClaim := { program := "ytgoimggfpagojaadoor", sum := "b8a8d7849fd602477898bbc3d96247a4e20e9f2134dd8a54e5470a086ff79d5e", func := "lockbox/lockboxlaw16.SealBack", spec := "sealBack", inPlace := ["internal/abi.NoEscape"], recurses := true, named := ["lockbox/digest.first", "lockbox/digest.roots", "lockbox/chacha.turns"], apart := false, laid := [("lockbox/chacha.turns", laid_lockbox_chacha_turns), ("lockbox/digest.first", laid_lockbox_digest_first), ("lockbox/digest.roots", laid_lockbox_digest_roots)] }
def SealBackSaid : Prop := sealBackRow.holds Tryd.pinned (OpenSpec.ofChange sealBackSpec)

/-- ITS FALSE NEIGHBOUR: 'it returns false'. Refute it at one input. -/
def sealBackWrong : ChangeSpec := { name := "sealBack", fn := fun _ => fun
  | [d1, d2, d3] => { results := [.lit (.bool false)], args := [d1, d2, d3] }
  | _ => none }
def SealBackWrongFalsely : Prop := sealBackRow.holds Tryd.pinned (OpenSpec.ofChange sealBackWrong)

/-- 'lockboxlaw16.SealLong': WHATEVER THE INPUT: true; the input reads as it did. -/
def sealLongSpec : ChangeSpec := { name := "sealLong", fn := fun _ => fun
  | [d1, d2] => { results := [.lit (.bool true)], args := [d1, d2] }
  | _ => none }
def sealLongRow : OpenClaim := { program := "ytgoimggfpagojaadoor", sum := "b8a8d7849fd602477898bbc3d96247a4e20e9f2134dd8a54e5470a086ff79d5e", func := "lockbox/lockboxlaw16.SealLong", spec := "sealLong", inPlace := ["internal/abi.NoEscape"], recurses := true, named := ["lockbox/digest.first", "lockbox/digest.roots", "lockbox/chacha.turns"], apart := false, laid := [("lockbox/chacha.turns", laid_lockbox_chacha_turns), ("lockbox/digest.first", laid_lockbox_digest_first), ("lockbox/digest.roots", laid_lockbox_digest_roots)] }
def SealLongSaid : Prop := sealLongRow.holds Tryd.pinned (OpenSpec.ofChange sealLongSpec)

/-- ITS FALSE NEIGHBOUR: 'it returns false'. Refute it at one input. -/
def sealLongWrong : ChangeSpec := { name := "sealLong", fn := fun _ => fun
  | [d1, d2] => { results := [.lit (.bool false)], args := [d1, d2] }
  | _ => none }
def SealLongWrongFalsely : Prop := sealLongRow.holds Tryd.pinned (OpenSpec.ofChange sealLongWrong)

/-- 'lockboxlaw16.SealTurned': WHATEVER THE INPUT: true; the input reads as it did. -/
def sealTurnedSpec : ChangeSpec := { name := "sealTurned", fn := fun _ => fun
  | [d1, d2, d3] => { results := [.lit (.bool true)], args := [d1, d2, d3] }
  | _ => none }
def sealTurnedRow : OpenClaim := { program := "ytgoimggfpagojaadoor", sum := "b8a8d7849fd602477898bbc3d96247a4e20e9f2134dd8a54e5470a086ff79d5e", func := "lockbox/lockboxlaw16.SealTurned", spec := "sealTurned", inPlace := ["internal/abi.NoEscape"], recurses := true, named := ["lockbox/digest.first", "lockbox/digest.roots", "lockbox/chacha.turns"], apart := false, laid := [("lockbox/chacha.turns", laid_lockbox_chacha_turns), ("lockbox/digest.first", laid_lockbox_digest_first), ("lockbox/digest.roots", laid_lockbox_digest_roots)] }
def SealTurnedSaid : Prop := sealTurnedRow.holds Tryd.pinned (OpenSpec.ofChange sealTurnedSpec)

/-- ITS FALSE NEIGHBOUR: 'it returns false'. Refute it at one input. -/
def sealTurnedWrong : ChangeSpec := { name := "sealTurned", fn := fun _ => fun
  | [d1, d2, d3] => { results := [.lit (.bool false)], args := [d1, d2, d3] }
  | _ => none }
def SealTurnedWrongFalsely : Prop := sealTurnedRow.holds Tryd.pinned (OpenSpec.ofChange sealTurnedWrong)

/- THE SECOND FORM. 'bulk': how many values and letters a reading holds, each counted each time it is reached (what is shared counts as often as it is met; a slice's spare places count too). A statement '..UptoSaid' is the law's where the arguments, and the package variables that the reading takes, are together of bulk at most 1048576: NARROWER than '..Said'. Prove '..Said' where nothing that the law and all that it calls make is longer than what came in: it says more and counts as full. Else prove '..UptoSaid'. A law counts once. -/
mutual
def uptoBulk {H : Type} : DataW H → Nat
  | .lit (.string bytes) => bytes.length + 1
  | .lit _ => 1
  | .nil => 1
  | .ptr d => uptoBulk d + 1
  | .slice elems spare => uptoBulkAll elems + uptoBulkAll spare + 1
  | .agg parts => uptoBulkAll parts + 1
  | .iface _ d => uptoBulk d + 1
  | .map entries => uptoBulkEntries entries + 1
  | .held _ => 1
def uptoBulkAll {H : Type} : List (DataW H) → Nat
  | [] => 0
  | d :: r => uptoBulk d + uptoBulkAll r
def uptoBulkEntries {H : Type} : List (Lit × DataW H) → Nat
  | [] => 0
  | x :: r => uptoBulkEntry x + uptoBulkEntries r
def uptoBulkEntry {H : Type} : Lit × DataW H → Nat
  | (.string bytes, d) => bytes.length + uptoBulk d + 1
  | (_, d) => uptoBulk d + 1
 end
def uptoSmall : (H : Type) → List (DataW H) → Bool := fun _ ds => decide (uptoBulkAll ds ≤ 1048576)
def OpenSpec.upto (s : _root_.Go.ChangeSpec) : _root_.Go.OpenSpec := { _root_.Go.OpenSpec.ofChange s with cond := some uptoSmall }

/-- 'lockboxlaw15.WordsNorm', WHERE WHAT IT READS IS OF BULK AT MOST 1048576: true; the input reads as it did. -/
def wordsNormUptoRow : OpenClaim := { program := "ytgoimggfpagojaadoor", sum := "b8a8d7849fd602477898bbc3d96247a4e20e9f2134dd8a54e5470a086ff79d5e", func := "lockbox/lockboxlaw15.WordsNorm", spec := "wordsNorm", inPlace := ["slices.overlaps[string]"], named := ["lockbox/digest.first", "lockbox/digest.roots"], apart := false, laid := [("lockbox/digest.first", laid_lockbox_digest_first), ("lockbox/digest.roots", laid_lockbox_digest_roots)], narrowed := true }
def WordsNormUptoSaid : Prop := wordsNormUptoRow.holds Tryd.pinned (OpenSpec.upto wordsNormSpec)

/-- 'lockboxlaw15.WordsOf', WHERE WHAT IT READS IS OF BULK AT MOST 1048576: true; the input reads as it did. -/
def wordsOfUptoRow : OpenClaim := { program := "ytgoimggfpagojaadoor", sum := "b8a8d7849fd602477898bbc3d96247a4e20e9f2134dd8a54e5470a086ff79d5e", func := "lockbox/lockboxlaw15.WordsOf", spec := "wordsOf", inPlace := ["slices.overlaps[string]"], named := ["lockbox/digest.first", "lockbox/digest.roots"], apart := false, laid := [("lockbox/digest.first", laid_lockbox_digest_first), ("lockbox/digest.roots", laid_lockbox_digest_roots)], narrowed := true }
def WordsOfUptoSaid : Prop := wordsOfUptoRow.holds Tryd.pinned (OpenSpec.upto wordsOfSpec)

/-- 'lockboxlaw15.WordsTags', WHERE WHAT IT READS IS OF BULK AT MOST 1048576: true; the input reads as it did. -/
def wordsTagsUptoRow : OpenClaim := { program := "ytgoimggfpagojaadoor", sum := "b8a8d7849fd602477898bbc3d96247a4e20e9f2134dd8a54e5470a086ff79d5e", func := "lockbox/lockboxlaw15.WordsTags", spec := "wordsTags", inPlace := ["slices.overlaps[string]"], recurses := true, named := ["lockbox/digest.first", "lockbox/digest.roots"], apart := false, laid := [("lockbox/digest.first", laid_lockbox_digest_first), ("lockbox/digest.roots", laid_lockbox_digest_roots)], narrowed := true }
def WordsTagsUptoSaid : Prop := wordsTagsUptoRow.holds Tryd.pinned (OpenSpec.upto wordsTagsSpec)

/-- 'lockboxlaw15.WordsAgain', WHERE WHAT IT READS IS OF BULK AT MOST 1048576: true; the input reads as it did. -/
def wordsAgainUptoRow : OpenClaim := { program := "ytgoimggfpagojaadoor", sum := "b8a8d7849fd602477898bbc3d96247a4e20e9f2134dd8a54e5470a086ff79d5e", func := "lockbox/lockboxlaw15.WordsAgain", spec := "wordsAgain", inPlace := ["slices.overlaps[string]"], named := ["lockbox/digest.first", "lockbox/digest.roots"], apart := false, laid := [("lockbox/digest.first", laid_lockbox_digest_first), ("lockbox/digest.roots", laid_lockbox_digest_roots)], narrowed := true }
def WordsAgainUptoSaid : Prop := wordsAgainUptoRow.holds Tryd.pinned (OpenSpec.upto wordsAgainSpec)

/-- 'lockboxlaw15.WordsCase', WHERE WHAT IT READS IS OF BULK AT MOST 1048576: true; the input reads as it did. -/
def wordsCaseUptoRow : OpenClaim := { program := "ytgoimggfpagojaadoor", sum := "b8a8d7849fd602477898bbc3d96247a4e20e9f2134dd8a54e5470a086ff79d5e", func := "lockbox/lockboxlaw15.WordsCase", spec := "wordsCase", inPlace := ["slices.overlaps[string]"], named := ["lockbox/digest.first", "lockbox/digest.roots"], apart := false, laid := [("lockbox/digest.first", laid_lockbox_digest_first), ("lockbox/digest.roots", laid_lockbox_digest_roots)], narrowed := true }
def WordsCaseUptoSaid : Prop := wordsCaseUptoRow.holds Tryd.pinned (OpenSpec.upto wordsCaseSpec)

/-- 'lockboxlaw16.SealSeals', WHERE WHAT IT READS IS OF BULK AT MOST 1048576: true; the input reads as it did. -/
def sealSealsUptoRow : OpenClaim := { program := "ytgoimggfpagojaadoor", sum := "b8a8d7849fd602477898bbc3d96247a4e20e9f2134dd8a54e5470a086ff79d5e", func := "lockbox/lockboxlaw16.SealSeals", spec := "sealSeals", inPlace := ["internal/abi.NoEscape"], recurses := true, named := ["lockbox/digest.first", "lockbox/digest.roots", "lockbox/chacha.turns"], apart := false, laid := [("lockbox/chacha.turns", laid_lockbox_chacha_turns), ("lockbox/digest.first", laid_lockbox_digest_first), ("lockbox/digest.roots", laid_lockbox_digest_roots)], narrowed := true }
def SealSealsUptoSaid : Prop := sealSealsUptoRow.holds Tryd.pinned (OpenSpec.upto sealSealsSpec)

/-- 'lockboxlaw16.SealBack', WHERE WHAT IT READS IS OF BULK AT MOST 1048576: true; the input reads as it did. -/
def sealBackUptoRow : OpenClaim := { program := "ytgoimggfpagojaadoor", sum := "b8a8d7849fd602477898bbc3d96247a4e20e9f2134dd8a54e5470a086ff79d5e", func := "lockbox/lockboxlaw16.SealBack", spec := "sealBack", inPlace := ["internal/abi.NoEscape"], recurses := true, named := ["lockbox/digest.first", "lockbox/digest.roots", "lockbox/chacha.turns"], apart := false, laid := [("lockbox/chacha.turns", laid_lockbox_chacha_turns), ("lockbox/digest.first", laid_lockbox_digest_first), ("lockbox/digest.roots", laid_lockbox_digest_roots)], narrowed := true }
def SealBackUptoSaid : Prop := sealBackUptoRow.holds Tryd.pinned (OpenSpec.upto sealBackSpec)

/-- 'lockboxlaw16.SealLong', WHERE WHAT IT READS IS OF BULK AT MOST 1048576: true; the input reads as it did. -/
def sealLongUptoRow : OpenClaim := { program := "ytgoimggfpagojaadoor", sum := "b8a8d7849fd602477898bbc3d96247a4e20e9f2134dd8a54e5470a086ff79d5e", func := "lockbox/lockboxlaw16.SealLong", spec := "sealLong", inPlace := ["internal/abi.NoEscape"], recurses := true, named := ["lockbox/digest.first", "lockbox/digest.roots", "lockbox/chacha.turns"], apart := false, laid := [("lockbox/chacha.turns", laid_lockbox_chacha_turns), ("lockbox/digest.first", laid_lockbox_digest_first), ("lockbox/digest.roots", laid_lockbox_digest_roots)], narrowed := true }
def SealLongUptoSaid : Prop := sealLongUptoRow.holds Tryd.pinned (OpenSpec.upto sealLongSpec)

/-- 'lockboxlaw16.SealTurned', WHERE WHAT IT READS IS OF BULK AT MOST 1048576: true; the input reads as it did. -/
def sealTurnedUptoRow : OpenClaim := { program := "ytgoimggfpagojaadoor", sum := "b8a8d7849fd602477898bbc3d96247a4e20e9f2134dd8a54e5470a086ff79d5e", func := "lockbox/lockboxlaw16.SealTurned", spec := "sealTurned", inPlace := ["internal/abi.NoEscape"], recurses := true, named := ["lockbox/digest.first", "lockbox/digest.roots", "lockbox/chacha.turns"], apart := false, laid := [("lockbox/chacha.turns", laid_lockbox_chacha_turns), ("lockbox/digest.first", laid_lockbox_digest_first), ("lockbox/digest.roots", laid_lockbox_digest_roots)], narrowed := true }
def SealTurnedUptoSaid : Prop := sealTurnedUptoRow.holds Tryd.pinned (OpenSpec.upto sealTurnedSpec)

end Rows
end Go.Proofs.YtgoimggfpagojaaDoor
