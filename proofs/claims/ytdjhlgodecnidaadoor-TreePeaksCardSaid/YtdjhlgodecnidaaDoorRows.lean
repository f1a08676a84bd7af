/-
  NARROWER THAN 'FOR EVERY INPUT', by the rows' own cells (each row's printed sentence says how): TreeRoots: laid · TreePeaks: laid · TreeWays: laid · TreeProves: laid · TreeBinds: laid · TreeBegins: laid · TreeTexts: laid · HeadSigns: laid · HeadChecks: laid · HeadTexts: laid · HeadBack: laid · HeadLater: laid.
  DERIVED. THE GIVEN ROWS OF THIS SEAT. 12 by the template 'for every input the law returns true; each argument reads behind the call as it read before'; 0 by the template 'total and deterministic' (their statements: YtdjhlgodecnidaaDoorTotals.lean).
  GIVEN WITH THE SEED: the statements are not yours to turn. If you find one false, say at which input.
  Laid BY PROGRAM, IN A SANDBOX (cutbox-rows.mjs): the forced cells as the released guide's own fill.sh prints them over the translation a03eeb6f1bf2d3d1… (all of the seat's roots in one cut). By AI agents, Wed Nov 11 2026. No macro, syntax, notation, axiom, sorry.
-/
import Derived.Test.YtdjhlgodecnidaaDoorChecked
import GoSem.Claim
import GoSem.ClaimJoined
import GoSem.ClaimMapViews
import Derived.JoinedTies
import Derived.KernelRfl
namespace Go.Proofs.YtdjhlgodecnidaaDoor
/- THE CELL 'sum', in the pinned program and in every row, IS THE sha256 OF THE DUMP (.gsa) THAT YtdjhlgodecnidaaDoorProg.lean LOADS. Nothing in Lean hashes anything: it is a label: what it is worth is what the hold of that sum in a sandbox is worth. -/
noncomputable def Tryd.pinned : Pinned := { name := "ytdjhlgodecnidaadoor", sum := "a03eeb6f1bf2d3d1e7ff24754b67798b95630948ed53a906da4ced5266b4a68a", checked := Tryd.checked }
namespace Rows
def none {H : Type} : Left H := { results := [], args := [] }

/- WHAT THE LISTED PACKAGE-LEVEL VARIABLES READ AS WHEN THE CALL BEGINS. Each datum BY PROGRAM (the guide's laid-datum.mjs) off the statement by which the dump's own 'gosem.cut.vars' lays the variable. In a bare row this is a premise. The card (YtdjhlgodecnidaaDoorCards.lean) ties it to the program's text. -/
def laid_lockbox_digest_first {H : Type} : DataW H := .agg [.lit (.int .u32 1779033703), .lit (.int .u32 3144134277), .lit (.int .u32 1013904242), .lit (.int .u32 2773480762), .lit (.int .u32 1359893119), .lit (.int .u32 2600822924), .lit (.int .u32 528734635), .lit (.int .u32 1541459225)]
def laid_lockbox_digest_roots {H : Type} : DataW H := .agg [.lit (.int .u32 1116352408), .lit (.int .u32 1899447441), .lit (.int .u32 3049323471), .lit (.int .u32 3921009573), .lit (.int .u32 961987163), .lit (.int .u32 1508970993), .lit (.int .u32 2453635748), .lit (.int .u32 2870763221), .lit (.int .u32 3624381080), .lit (.int .u32 310598401), .lit (.int .u32 607225278), .lit (.int .u32 1426881987), .lit (.int .u32 1925078388), .lit (.int .u32 2162078206), .lit (.int .u32 2614888103), .lit (.int .u32 3248222580), .lit (.int .u32 3835390401), .lit (.int .u32 4022224774), .lit (.int .u32 264347078), .lit (.int .u32 604807628), .lit (.int .u32 770255983), .lit (.int .u32 1249150122), .lit (.int .u32 1555081692), .lit (.int .u32 1996064986), .lit (.int .u32 2554220882), .lit (.int .u32 2821834349), .lit (.int .u32 2952996808), .lit (.int .u32 3210313671), .lit (.int .u32 3336571891), .lit (.int .u32 3584528711), .lit (.int .u32 113926993), .lit (.int .u32 338241895), .lit (.int .u32 666307205), .lit (.int .u32 773529912), .lit (.int .u32 1294757372), .lit (.int .u32 1396182291), .lit (.int .u32 1695183700), .lit (.int .u32 1986661051), .lit (.int .u32 2177026350), .lit (.int .u32 2456956037), .lit (.int .u32 2730485921), .lit (.int .u32 2820302411), .lit (.int .u32 3259730800), .lit (.int .u32 3345764771), .lit (.int .u32 3516065817), .lit (.int .u32 3600352804), .lit (.int .u32 4094571909), .lit (.int .u32 275423344), .lit (.int .u32 430227734), .lit (.int .u32 506948616), .lit (.int .u32 659060556), .lit (.int .u32 883997877), .lit (.int .u32 958139571), .lit (.int .u32 1322822218), .lit (.int .u32 1537002063), .lit (.int .u32 1747873779), .lit (.int .u32 1955562222), .lit (.int .u32 2024104815), .lit (.int .u32 2227730452), .lit (.int .u32 2361852424), .lit (.int .u32 2428436474), .lit (.int .u32 2756734187), .lit (.int .u32 3204031479), .lit (.int .u32 3329325298)]
def laid_math_bits_deBruijn32tab {H : Type} : DataW H := .agg [.lit (.int .u8 0), .lit (.int .u8 1), .lit (.int .u8 28), .lit (.int .u8 2), .lit (.int .u8 29), .lit (.int .u8 14), .lit (.int .u8 24), .lit (.int .u8 3), .lit (.int .u8 30), .lit (.int .u8 22), .lit (.int .u8 20), .lit (.int .u8 15), .lit (.int .u8 25), .lit (.int .u8 17), .lit (.int .u8 4), .lit (.int .u8 8), .lit (.int .u8 31), .lit (.int .u8 27), .lit (.int .u8 13), .lit (.int .u8 23), .lit (.int .u8 21), .lit (.int .u8 19), .lit (.int .u8 16), .lit (.int .u8 7), .lit (.int .u8 26), .lit (.int .u8 12), .lit (.int .u8 18), .lit (.int .u8 6), .lit (.int .u8 11), .lit (.int .u8 5), .lit (.int .u8 10), .lit (.int .u8 9)]
def laid_math_bits_deBruijn64tab {H : Type} : DataW H := .agg [.lit (.int .u8 0), .lit (.int .u8 1), .lit (.int .u8 56), .lit (.int .u8 2), .lit (.int .u8 57), .lit (.int .u8 49), .lit (.int .u8 28), .lit (.int .u8 3), .lit (.int .u8 61), .lit (.int .u8 58), .lit (.int .u8 42), .lit (.int .u8 50), .lit (.int .u8 38), .lit (.int .u8 29), .lit (.int .u8 17), .lit (.int .u8 4), .lit (.int .u8 62), .lit (.int .u8 47), .lit (.int .u8 59), .lit (.int .u8 36), .lit (.int .u8 45), .lit (.int .u8 43), .lit (.int .u8 51), .lit (.int .u8 22), .lit (.int .u8 53), .lit (.int .u8 39), .lit (.int .u8 33), .lit (.int .u8 30), .lit (.int .u8 24), .lit (.int .u8 18), .lit (.int .u8 12), .lit (.int .u8 5), .lit (.int .u8 63), .lit (.int .u8 55), .lit (.int .u8 48), .lit (.int .u8 27), .lit (.int .u8 60), .lit (.int .u8 41), .lit (.int .u8 37), .lit (.int .u8 16), .lit (.int .u8 46), .lit (.int .u8 35), .lit (.int .u8 44), .lit (.int .u8 21), .lit (.int .u8 52), .lit (.int .u8 32), .lit (.int .u8 23), .lit (.int .u8 11), .lit (.int .u8 54), .lit (.int .u8 26), .lit (.int .u8 40), .lit (.int .u8 15), .lit (.int .u8 34), .lit (.int .u8 20), .lit (.int .u8 31), .lit (.int .u8 10), .lit (.int .u8 25), .lit (.int .u8 14), .lit (.int .u8 19), .lit (.int .u8 9), .lit (.int .u8 13), .lit (.int .u8 8), .lit (.int .u8 7), .lit (.int .u8 6)]

/-- 'lockboxlaw13.TreeRoots': WHATEVER THE INPUT: true; the input reads as it did. -/
def treeRootsSpec : ChangeSpec := { name := "treeRoots", fn := fun _ => fun
  | [d1, d2, d3] => { results := [.lit (.bool true)], args := [d1, d2, d3] }
  | _ => none }
def treeRootsRow : OpenClaim := { program := "ytdjhlgodecnidaadoor", sum := "a03eeb6f1bf2d3d1e7ff24754b67798b95630948ed53a906da4ced5266b4a68a", func := "lockbox/lockboxlaw13.TreeRoots", spec := "treeRoots", recurses := true, named := ["lockbox/digest.first", "lockbox/digest.roots"], apart := false, laid := [("lockbox/digest.first", laid_lockbox_digest_first), ("lockbox/digest.roots", laid_lockbox_digest_roots)] }
def TreeRootsSaid : Prop := treeRootsRow.holds Tryd.pinned (OpenSpec.ofChange treeRootsSpec)

/-- ITS FALSE NEIGHBOUR: 'it returns false'. Refute it at one input. -/
def treeRootsWrong : ChangeSpec := { name := "treeRoots", fn := fun _ => fun
  | [d1, d2, d3] => { results := [.lit (.bool false)], args := [d1, d2, d3] }
  | _ => none }
def TreeRootsWrongFalsely : Prop := treeRootsRow.holds Tryd.pinned (OpenSpec.ofChange treeRootsWrong)

/-- 'lockboxlaw13.TreePeaks': WHATEVER THE INPUT: true; the input reads as it did. -/
def treePeaksSpec : ChangeSpec := { name := "treePeaks", fn := fun _ => fun
  | [d] => { results := [.lit (.bool true)], args := [d] }
  | _ => none }
def treePeaksRow : OpenClaim := { program := "ytdjhlgodecnidaadoor", sum := "a03eeb6f1bf2d3d1e7ff24754b67798b95630948ed53a906da4ced5266b4a68a", func := "lockbox/lockboxlaw13.TreePeaks", spec := "treePeaks", unfollowed := true, recurses := true, named := ["lockbox/digest.first", "lockbox/digest.roots"], apart := false, laid := [("lockbox/digest.first", laid_lockbox_digest_first), ("lockbox/digest.roots", laid_lockbox_digest_roots)] }
def TreePeaksSaid : Prop := treePeaksRow.holds Tryd.pinned (OpenSpec.ofChange treePeaksSpec)

/-- ITS FALSE NEIGHBOUR: 'it returns false'. Refute it at one input. -/
def treePeaksWrong : ChangeSpec := { name := "treePeaks", fn := fun _ => fun
  | [d] => { results := [.lit (.bool false)], args := [d] }
  | _ => none }
def TreePeaksWrongFalsely : Prop := treePeaksRow.holds Tryd.pinned (OpenSpec.ofChange treePeaksWrong)

/-- 'lockboxlaw13.TreeWays': WHATEVER THE INPUT: true; the input reads as it did. -/
def treeWaysSpec : ChangeSpec := { name := "treeWays", fn := fun _ => fun
  | [d1, d2] => { results := [.lit (.bool true)], args := [d1, d2] }
  | _ => none }
def treeWaysRow : OpenClaim := { program := "ytdjhlgodecnidaadoor", sum := "a03eeb6f1bf2d3d1e7ff24754b67798b95630948ed53a906da4ced5266b4a68a", func := "lockbox/lockboxlaw13.TreeWays", spec := "treeWays", recurses := true, named := ["lockbox/digest.first", "lockbox/digest.roots"], apart := false, laid := [("lockbox/digest.first", laid_lockbox_digest_first), ("lockbox/digest.roots", laid_lockbox_digest_roots)] }
def TreeWaysSaid : Prop := treeWaysRow.holds Tryd.pinned (OpenSpec.ofChange treeWaysSpec)

/-- ITS FALSE NEIGHBOUR: 'it returns false'. Refute it at one input. -/
def treeWaysWrong : ChangeSpec := { name := "treeWays", fn := fun _ => fun
  | [d1, d2] => { results := [.lit (.bool false)], args := [d1, d2] }
  | _ => none }
def TreeWaysWrongFalsely : Prop := treeWaysRow.holds Tryd.pinned (OpenSpec.ofChange treeWaysWrong)

/-- 'lockboxlaw13.TreeProves': WHATEVER THE INPUT: true; the input reads as it did. -/
def treeProvesSpec : ChangeSpec := { name := "treeProves", fn := fun _ => fun
  | [d1, d2] => { results := [.lit (.bool true)], args := [d1, d2] }
  | _ => none }
def treeProvesRow : OpenClaim := { program := "ytdjhlgodecnidaadoor", sum := "a03eeb6f1bf2d3d1e7ff24754b67798b95630948ed53a906da4ced5266b4a68a", func := "lockbox/lockboxlaw13.TreeProves", spec := "treeProves", unfollowed := true, recurses := true, named := ["lockbox/digest.first", "lockbox/digest.roots", "math/bits.deBruijn32tab", "math/bits.deBruijn64tab"], apart := false, laid := [("math/bits.deBruijn32tab", laid_math_bits_deBruijn32tab), ("math/bits.deBruijn64tab", laid_math_bits_deBruijn64tab), ("lockbox/digest.first", laid_lockbox_digest_first), ("lockbox/digest.roots", laid_lockbox_digest_roots)] }
def TreeProvesSaid : Prop := treeProvesRow.holds Tryd.pinned (OpenSpec.ofChange treeProvesSpec)

/-- ITS FALSE NEIGHBOUR: 'it returns false'. Refute it at one input. -/
def treeProvesWrong : ChangeSpec := { name := "treeProves", fn := fun _ => fun
  | [d1, d2] => { results := [.lit (.bool false)], args := [d1, d2] }
  | _ => none }
def TreeProvesWrongFalsely : Prop := treeProvesRow.holds Tryd.pinned (OpenSpec.ofChange treeProvesWrong)

/-- 'lockboxlaw13.TreeBinds': WHATEVER THE INPUT: true; the input reads as it did. -/
def treeBindsSpec : ChangeSpec := { name := "treeBinds", fn := fun _ => fun
  | [d1, d2, d3] => { results := [.lit (.bool true)], args := [d1, d2, d3] }
  | _ => none }
def treeBindsRow : OpenClaim := { program := "ytdjhlgodecnidaadoor", sum := "a03eeb6f1bf2d3d1e7ff24754b67798b95630948ed53a906da4ced5266b4a68a", func := "lockbox/lockboxlaw13.TreeBinds", spec := "treeBinds", unfollowed := true, recurses := true, named := ["lockbox/digest.first", "lockbox/digest.roots"], apart := false, laid := [("lockbox/digest.first", laid_lockbox_digest_first), ("lockbox/digest.roots", laid_lockbox_digest_roots)] }
def TreeBindsSaid : Prop := treeBindsRow.holds Tryd.pinned (OpenSpec.ofChange treeBindsSpec)

/-- ITS FALSE NEIGHBOUR: 'it returns false'. Refute it at one input. -/
def treeBindsWrong : ChangeSpec := { name := "treeBinds", fn := fun _ => fun
  | [d1, d2, d3] => { results := [.lit (.bool false)], args := [d1, d2, d3] }
  | _ => none }
def TreeBindsWrongFalsely : Prop := treeBindsRow.holds Tryd.pinned (OpenSpec.ofChange treeBindsWrong)

/-- 'lockboxlaw13.TreeBegins': WHATEVER THE INPUT: true; the input reads as it did. -/
def treeBeginsSpec : ChangeSpec := { name := "treeBegins", fn := fun _ => fun
  | [d1, d2, d3] => { results := [.lit (.bool true)], args := [d1, d2, d3] }
  | _ => none }
def treeBeginsRow : OpenClaim := { program := "ytdjhlgodecnidaadoor", sum := "a03eeb6f1bf2d3d1e7ff24754b67798b95630948ed53a906da4ced5266b4a68a", func := "lockbox/lockboxlaw13.TreeBegins", spec := "treeBegins", unfollowed := true, recurses := true, named := ["lockbox/digest.first", "lockbox/digest.roots", "math/bits.deBruijn32tab", "math/bits.deBruijn64tab"], apart := false, laid := [("math/bits.deBruijn32tab", laid_math_bits_deBruijn32tab), ("math/bits.deBruijn64tab", laid_math_bits_deBruijn64tab), ("lockbox/digest.first", laid_lockbox_digest_first), ("lockbox/digest.roots", laid_lockbox_digest_roots)] }
def TreeBeginsSaid : Prop := treeBeginsRow.holds Tryd.pinned (OpenSpec.ofChange treeBeginsSpec)

/-- ITS FALSE NEIGHBOUR: 'it returns false'. Refute it at one input. -/
def treeBeginsWrong : ChangeSpec := { name := "treeBegins", fn := fun _ => fun
  | [d1, d2, d3] => { results := [.lit (.bool false)], args := [d1, d2, d3] }
  | _ => none }
def TreeBeginsWrongFalsely : Prop := treeBeginsRow.holds Tryd.pinned (OpenSpec.ofChange treeBeginsWrong)

/-- 'lockboxlaw13.TreeTexts': WHATEVER THE INPUT: true; the input reads as it did. -/
def treeTextsSpec : ChangeSpec := { name := "treeTexts", fn := fun _ => fun
  | [d1, d2] => { results := [.lit (.bool true)], args := [d1, d2] }
  | _ => none }
def treeTextsRow : OpenClaim := { program := "ytdjhlgodecnidaadoor", sum := "a03eeb6f1bf2d3d1e7ff24754b67798b95630948ed53a906da4ced5266b4a68a", func := "lockbox/lockboxlaw13.TreeTexts", spec := "treeTexts", unfollowed := true, recurses := true, named := ["lockbox/digest.first", "lockbox/digest.roots"], apart := false, laid := [("lockbox/digest.first", laid_lockbox_digest_first), ("lockbox/digest.roots", laid_lockbox_digest_roots)] }
def TreeTextsSaid : Prop := treeTextsRow.holds Tryd.pinned (OpenSpec.ofChange treeTextsSpec)

/-- ITS FALSE NEIGHBOUR: 'it returns false'. Refute it at one input. -/
def treeTextsWrong : ChangeSpec := { name := "treeTexts", fn := fun _ => fun
  | [d1, d2] => { results := [.lit (.bool false)], args := [d1, d2] }
  | _ => none }
def TreeTextsWrongFalsely : Prop := treeTextsRow.holds Tryd.pinned (OpenSpec.ofChange treeTextsWrong)

/-- 'lockboxlaw14.HeadSigns': WHATEVER THE INPUT: true; the input reads as it did. -/
def headSignsSpec : ChangeSpec := { name := "headSigns", fn := fun _ => fun
  | [d1, d2] => { results := [.lit (.bool true)], args := [d1, d2] }
  | _ => none }
def headSignsRow : OpenClaim := { program := "ytdjhlgodecnidaadoor", sum := "a03eeb6f1bf2d3d1e7ff24754b67798b95630948ed53a906da4ced5266b4a68a", func := "lockbox/lockboxlaw14.HeadSigns", spec := "headSigns", inPlace := ["internal/abi.NoEscape"], recurses := true, named := ["lockbox/digest.first", "lockbox/digest.roots"], apart := false, laid := [("lockbox/digest.first", laid_lockbox_digest_first), ("lockbox/digest.roots", laid_lockbox_digest_roots)] }
def HeadSignsSaid : Prop := headSignsRow.holds Tryd.pinned (OpenSpec.ofChange headSignsSpec)

/-- ITS FALSE NEIGHBOUR: 'it returns false'. Refute it at one input. -/
def headSignsWrong : ChangeSpec := { name := "headSigns", fn := fun _ => fun
  | [d1, d2] => { results := [.lit (.bool false)], args := [d1, d2] }
  | _ => none }
def HeadSignsWrongFalsely : Prop := headSignsRow.holds Tryd.pinned (OpenSpec.ofChange headSignsWrong)

/-- 'lockboxlaw14.HeadChecks': WHATEVER THE INPUT: true; the input reads as it did. -/
def headChecksSpec : ChangeSpec := { name := "headChecks", fn := fun _ => fun
  | [d1, d2] => { results := [.lit (.bool true)], args := [d1, d2] }
  | _ => none }
def headChecksRow : OpenClaim := { program := "ytdjhlgodecnidaadoor", sum := "a03eeb6f1bf2d3d1e7ff24754b67798b95630948ed53a906da4ced5266b4a68a", func := "lockbox/lockboxlaw14.HeadChecks", spec := "headChecks", inPlace := ["internal/abi.NoEscape"], recurses := true, named := ["lockbox/digest.first", "lockbox/digest.roots"], apart := false, laid := [("lockbox/digest.first", laid_lockbox_digest_first), ("lockbox/digest.roots", laid_lockbox_digest_roots)] }
def HeadChecksSaid : Prop := headChecksRow.holds Tryd.pinned (OpenSpec.ofChange headChecksSpec)

/-- ITS FALSE NEIGHBOUR: 'it returns false'. Refute it at one input. -/
def headChecksWrong : ChangeSpec := { name := "headChecks", fn := fun _ => fun
  | [d1, d2] => { results := [.lit (.bool false)], args := [d1, d2] }
  | _ => none }
def HeadChecksWrongFalsely : Prop := headChecksRow.holds Tryd.pinned (OpenSpec.ofChange headChecksWrong)

/-- 'lockboxlaw14.HeadTexts': WHATEVER THE INPUT: true; the input reads as it did. -/
def headTextsSpec : ChangeSpec := { name := "headTexts", fn := fun _ => fun
  | [d1, d2] => { results := [.lit (.bool true)], args := [d1, d2] }
  | _ => none }
def headTextsRow : OpenClaim := { program := "ytdjhlgodecnidaadoor", sum := "a03eeb6f1bf2d3d1e7ff24754b67798b95630948ed53a906da4ced5266b4a68a", func := "lockbox/lockboxlaw14.HeadTexts", spec := "headTexts", inPlace := ["internal/abi.NoEscape"], recurses := true, named := ["lockbox/digest.first", "lockbox/digest.roots"], apart := false, laid := [("lockbox/digest.first", laid_lockbox_digest_first), ("lockbox/digest.roots", laid_lockbox_digest_roots)] }
def HeadTextsSaid : Prop := headTextsRow.holds Tryd.pinned (OpenSpec.ofChange headTextsSpec)

/-- ITS FALSE NEIGHBOUR: 'it returns false'. Refute it at one input. -/
def headTextsWrong : ChangeSpec := { name := "headTexts", fn := fun _ => fun
  | [d1, d2] => { results := [.lit (.bool false)], args := [d1, d2] }
  | _ => none }
def HeadTextsWrongFalsely : Prop := headTextsRow.holds Tryd.pinned (OpenSpec.ofChange headTextsWrong)

/-- 'lockboxlaw14.HeadBack': WHATEVER THE INPUT: true; the input reads as it did. -/
def headBackSpec : ChangeSpec := { name := "headBack", fn := fun _ => fun
  | [d1, d2] => { results := [.lit (.bool true)], args := [d1, d2] }
  | _ => none }
def headBackRow : OpenClaim := { program := "ytdjhlgodecnidaadoor", sum := "a03eeb6f1bf2d3d1e7ff24754b67798b95630948ed53a906da4ced5266b4a68a", func := "lockbox/lockboxlaw14.HeadBack", spec := "headBack", inPlace := ["internal/abi.NoEscape"], recurses := true, named := ["lockbox/digest.first", "lockbox/digest.roots"], apart := false, laid := [("lockbox/digest.first", laid_lockbox_digest_first), ("lockbox/digest.roots", laid_lockbox_digest_roots)] }
def HeadBackSaid : Prop := headBackRow.holds Tryd.pinned (OpenSpec.ofChange headBackSpec)

/-- ITS FALSE NEIGHBOUR: 'it returns false'. Refute it at one input. -/
def headBackWrong : ChangeSpec := { name := "headBack", fn := fun _ => fun
  | [d1, d2] => { results := [.lit (.bool false)], args := [d1, d2] }
  | _ => none }
def HeadBackWrongFalsely : Prop := headBackRow.holds Tryd.pinned (OpenSpec.ofChange headBackWrong)

/-- 'lockboxlaw14.HeadLater': WHATEVER THE INPUT: true; the input reads as it did. -/
def headLaterSpec : ChangeSpec := { name := "headLater", fn := fun _ => fun
  | [d1, d2, d3] => { results := [.lit (.bool true)], args := [d1, d2, d3] }
  | _ => none }
def headLaterRow : OpenClaim := { program := "ytdjhlgodecnidaadoor", sum := "a03eeb6f1bf2d3d1e7ff24754b67798b95630948ed53a906da4ced5266b4a68a", func := "lockbox/lockboxlaw14.HeadLater", spec := "headLater", inPlace := ["internal/abi.NoEscape"], recurses := true, named := ["lockbox/digest.first", "lockbox/digest.roots"], apart := false, laid := [("lockbox/digest.first", laid_lockbox_digest_first), ("lockbox/digest.roots", laid_lockbox_digest_roots)] }
def HeadLaterSaid : Prop := headLaterRow.holds Tryd.pinned (OpenSpec.ofChange headLaterSpec)

/-- ITS FALSE NEIGHBOUR: 'it returns false'. Refute it at one input. -/
def headLaterWrong : ChangeSpec := { name := "headLater", fn := fun _ => fun
  | [d1, d2, d3] => { results := [.lit (.bool false)], args := [d1, d2, d3] }
  | _ => none }
def HeadLaterWrongFalsely : Prop := headLaterRow.holds Tryd.pinned (OpenSpec.ofChange headLaterWrong)

/- THE SECOND FORM. 'bulk': how many values and letters a reading holds, each counted each time it is reached (what is shared counts as often as it is met; a slice's spare places count too). A statement '..UptoSaid' is the law's where the arguments, and the package variables that the reading takes, are together of bulk at most 1048576: NARROWER than '..Said'. Prove '..Said' where nothing that the law and all that it calls make is longer than what came in: it says more and counts as full. Else prove '..UptoSaid'. A law counts once. -/
mutual
def uptoBulk {H : Type} : DataW H → Nat
  | .lit (.string bytes) => bytes.length + 1
  | .lit _ => 1
  | .nil => 1
  | .ptr d => uptoBulk d + 1
  | .slice elems spare => uptoBulkAll elems + uptoBulkAll spare + 1
  | .agg parts => uptoBulkAll parts + 1
  | .iface _ d => uptoBulk d + 1
  | .map entries => uptoBulkEntries entries + 1
  | .held _ => 1
def uptoBulkAll {H : Type} : List (DataW H) → Nat
  | [] => 0
  | d :: r => uptoBulk d + uptoBulkAll r
def uptoBulkEntries {H : Type} : List (Lit × DataW H) → Nat
  | [] => 0
  | x :: r => uptoBulkEntry x + uptoBulkEntries r
def uptoBulkEntry {H : Type} : Lit × DataW H → Nat
  | (.string bytes, d) => bytes.length + uptoBulk d + 1
  | (_, d) => uptoBulk d + 1
 end
def uptoSmall : (H : Type) → List (DataW H) → Bool := fun _ ds => decide (uptoBulkAll ds ≤ 1048576)
def OpenSpec.upto (s : _root_.Go.ChangeSpec) : _root_.Go.OpenSpec := { _root_.Go.OpenSpec.ofChange s with cond := some uptoSmall }

/-- 'lockboxlaw13.TreeRoots', WHERE WHAT IT READS IS OF BULK AT MOST 1048576: true; the input reads as it did. -/
def treeRootsUptoRow : OpenClaim := { program := "ytdjhlgodecnidaadoor", sum := "a03eeb6f1bf2d3d1e7ff24754b67798b95630948ed53a906da4ced5266b4a68a", func := "lockbox/lockboxlaw13.TreeRoots", spec := "treeRoots", recurses := true, named := ["lockbox/digest.first", "lockbox/digest.roots"], apart := false, laid := [("lockbox/digest.first", laid_lockbox_digest_first), ("lockbox/digest.roots", laid_lockbox_digest_roots)], narrowed := true }
def TreeRootsUptoSaid : Prop := treeRootsUptoRow.holds Tryd.pinned (OpenSpec.upto treeRootsSpec)

/-- 'lockboxlaw13.TreePeaks', WHERE WHAT IT READS IS OF BULK AT MOST 1048576: true; the input reads as it did. -/
def treePeaksUptoRow : OpenClaim := { program := "ytdjhlgodecnidaadoor", sum := "a03eeb6f1bf2d3d1e7ff24754b67798b95630948ed53a906da4ced5266b4a68a", func := "lockbox/lockboxlaw13.TreePeaks", spec := "treePeaks", unfollowed := true, recurses := true, named := ["lockbox/digest.first", "lockbox/digest.roots"], apart := false, laid := [("lockbox/digest.first", laid_lockbox_digest_first), ("lockbox/digest.roots", laid_lockbox_digest_roots)], narrowed := true }
def TreePeaksUptoSaid : Prop := treePeaksUptoRow.holds Tryd.pinned (OpenSpec.upto treePeaksSpec)

/-- 'lockboxlaw13.TreeWays', WHERE WHAT IT READS IS OF BULK AT MOST 1048576: true; the input reads as it did. -/
def treeWaysUptoRow : OpenClaim := { program := "ytdjhlgodecnidaadoor", sum := "a03eeb6f1bf2d3d1e7ff24754b67798b95630948ed53a906da4ced5266b4a68a", func := "lockbox/lockboxlaw13.TreeWays", spec := "treeWays", recurses := true, named := ["lockbox/digest.first", "lockbox/digest.roots"], apart := false, laid := [("lockbox/digest.first", laid_lockbox_digest_first), ("lockbox/digest.roots", laid_lockbox_digest_roots)], narrowed := true }
def TreeWaysUptoSaid : Prop := treeWaysUptoRow.holds Tryd.pinned (OpenSpec.upto treeWaysSpec)

/-- 'lockboxlaw13.TreeProves', WHERE WHAT IT READS IS OF BULK AT MOST 1048576: true; the input reads as it did. -/
def treeProvesUptoRow : OpenClaim := { program := "ytdjhlgodecnidaadoor", sum := "a03eeb6f1bf2d3d1e7ff24754b67798b95630948ed53a906da4ced5266b4a68a", func := "lockbox/lockboxlaw13.TreeProves", spec := "treeProves", unfollowed := true, recurses := true, named := ["lockbox/digest.first", "lockbox/digest.roots", "math/bits.deBruijn32tab", "math/bits.deBruijn64tab"], apart := false, laid := [("math/bits.deBruijn32tab", laid_math_bits_deBruijn32tab), ("math/bits.deBruijn64tab", laid_math_bits_deBruijn64tab), ("lockbox/digest.first", laid_lockbox_digest_first), ("lockbox/digest.roots", laid_lockbox_digest_roots)], narrowed := true }
def TreeProvesUptoSaid : Prop := treeProvesUptoRow.holds Tryd.pinned (OpenSpec.upto treeProvesSpec)

/-- 'lockboxlaw13.TreeBinds', WHERE WHAT IT READS IS OF BULK AT MOST 1048576: true; the input reads as it did. -/
def treeBindsUptoRow : OpenClaim := { program := "ytdjhlgodecnidaadoor", sum := "a03eeb6f1bf2d3d1e7ff24754b67798b95630948ed53a906da4ced5266b4a68a", func := "lockbox/lockboxlaw13.TreeBinds", spec := "treeBinds", unfollowed := true, recurses := true, named := ["lockbox/digest.first", "lockbox/digest.roots"], apart := false, laid := [("lockbox/digest.first", laid_lockbox_digest_first), ("lockbox/digest.roots", laid_lockbox_digest_roots)], narrowed := true }
def TreeBindsUptoSaid : Prop := treeBindsUptoRow.holds Tryd.pinned (OpenSpec.upto treeBindsSpec)

/-- 'lockboxlaw13.TreeBegins', WHERE WHAT IT READS IS OF BULK AT MOST 1048576: true; the input reads as it did. -/
def treeBeginsUptoRow : OpenClaim := { program := "ytdjhlgodecnidaadoor", sum := "a03eeb6f1bf2d3d1e7ff24754b67798b95630948ed53a906da4ced5266b4a68a", func := "lockbox/lockboxlaw13.TreeBegins", spec := "treeBegins", unfollowed := true, recurses := true, named := ["lockbox/digest.first", "lockbox/digest.roots", "math/bits.deBruijn32tab", "math/bits.deBruijn64tab"], apart := false, laid := [("math/bits.deBruijn32tab", laid_math_bits_deBruijn32tab), ("math/bits.deBruijn64tab", laid_math_bits_deBruijn64tab), ("lockbox/digest.first", laid_lockbox_digest_first), ("lockbox/digest.roots", laid_lockbox_digest_roots)], narrowed := true }
def TreeBeginsUptoSaid : Prop := treeBeginsUptoRow.holds Tryd.pinned (OpenSpec.upto treeBeginsSpec)

/-- 'lockboxlaw13.TreeTexts', WHERE WHAT IT READS IS OF BULK AT MOST 1048576: true; the input reads as it did. -/
def treeTextsUptoRow : OpenClaim := { program := "ytdjhlgodecnidaadoor", sum := "a03eeb6f1bf2d3d1e7ff24754b67798b95630948ed53a906da4ced5266b4a68a", func := "lockbox/lockboxlaw13.TreeTexts", spec := "treeTexts", unfollowed := true, recurses := true, named := ["lockbox/digest.first", "lockbox/digest.roots"], apart := false, laid := [("lockbox/digest.first", laid_lockbox_digest_first), ("lockbox/digest.roots", laid_lockbox_digest_roots)], narrowed := true }
def TreeTextsUptoSaid : Prop := treeTextsUptoRow.holds Tryd.pinned (OpenSpec.upto treeTextsSpec)

/-- 'lockboxlaw14.HeadSigns', WHERE WHAT IT READS IS OF BULK AT MOST 1048576: true; the input reads as it did. -/
def headSignsUptoRow : OpenClaim := { program := "ytdjhlgodecnidaadoor", sum := "a03eeb6f1bf2d3d1e7ff24754b67798b95630948ed53a906da4ced5266b4a68a", func := "lockbox/lockboxlaw14.HeadSigns", spec := "headSigns", inPlace := ["internal/abi.NoEscape"], recurses := true, named := ["lockbox/digest.first", "lockbox/digest.roots"], apart := false, laid := [("lockbox/digest.first", laid_lockbox_digest_first), ("lockbox/digest.roots", laid_lockbox_digest_roots)], narrowed := true }
def HeadSignsUptoSaid : Prop := headSignsUptoRow.holds Tryd.pinned (OpenSpec.upto headSignsSpec)

/-- 'lockboxlaw14.HeadChecks', WHERE WHAT IT READS IS OF BULK AT MOST 1048576: true; the input reads as it did. -/
def headChecksUptoRow : OpenClaim := { program := "ytdjhlgodecnidaadoor", sum := "a03eeb6f1bf2d3d1e7ff24754b67798b95630948ed53a906da4ced5266b4a68a", func := "lockbox/lockboxlaw14.HeadChecks", spec := "headChecks", inPlace := ["internal/abi.NoEscape"], recurses := true, named := ["lockbox/digest.first", "lockbox/digest.roots"], apart := false, laid := [("lockbox/digest.first", laid_lockbox_digest_first), ("lockbox/digest.roots", laid_lockbox_digest_roots)], narrowed := true }
def HeadChecksUptoSaid : Prop := headChecksUptoRow.holds Tryd.pinned (OpenSpec.upto headChecksSpec)

/-- 'lockboxlaw14.HeadTexts', WHERE WHAT IT READS IS OF BULK AT MOST 1048576: true; the input reads as it did. -/
def headTextsUptoRow : OpenClaim := { program := "ytdjhlgodecnidaadoor", sum := "a03eeb6f1bf2d3d1e7ff24754b67798b95630948ed53a906da4ced5266b4a68a", func := "lockbox/lockboxlaw14.HeadTexts", spec := "headTexts", inPlace := ["internal/abi.NoEscape"], recurses := true, named := ["lockbox/digest.first", "lockbox/digest.roots"], apart := false, laid := [("lockbox/digest.first", laid_lockbox_digest_first), ("lockbox/digest.roots", laid_lockbox_digest_roots)], narrowed := true }
def HeadTextsUptoSaid : Prop := headTextsUptoRow.holds Tryd.pinned (OpenSpec.upto headTextsSpec)

/-- 'lockboxlaw14.HeadBack', WHERE WHAT IT READS IS OF BULK AT MOST 1048576: true; the input reads as it did. -/
def headBackUptoRow : OpenClaim := { program := "ytdjhlgodecnidaadoor", sum := "a03eeb6f1bf2d3d1e7ff24754b67798b95630948ed53a906da4ced5266b4a68a", func := "lockbox/lockboxlaw14.HeadBack", spec := "headBack", inPlace := ["internal/abi.NoEscape"], recurses := true, named := ["lockbox/digest.first", "lockbox/digest.roots"], apart := false, laid := [("lockbox/digest.first", laid_lockbox_digest_first), ("lockbox/digest.roots", laid_lockbox_digest_roots)], narrowed := true }
def HeadBackUptoSaid : Prop := headBackUptoRow.holds Tryd.pinned (OpenSpec.upto headBackSpec)

/-- 'lockboxlaw14.HeadLater', WHERE WHAT IT READS IS OF BULK AT MOST 1048576: true; the input reads as it did. -/
def headLaterUptoRow : OpenClaim := { program := "ytdjhlgodecnidaadoor", sum := "a03eeb6f1bf2d3d1e7ff24754b67798b95630948ed53a906da4ced5266b4a68a", func := "lockbox/lockboxlaw14.HeadLater", spec := "headLater", inPlace := ["internal/abi.NoEscape"], recurses := true, named := ["lockbox/digest.first", "lockbox/digest.roots"], apart := false, laid := [("lockbox/digest.first", laid_lockbox_digest_first), ("lockbox/digest.roots", laid_lockbox_digest_roots)], narrowed := true }
def HeadLaterUptoSaid : Prop := headLaterUptoRow.holds Tryd.pinned (OpenSpec.upto headLaterSpec)

end Rows
end Go.Proofs.YtdjhlgodecnidaaDoor
