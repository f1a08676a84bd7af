/-
  NARROWER THAN 'FOR EVERY INPUT', by the rows' own cells (each row's printed sentence says how): ChachaBlocks: laid · ChachaStreams: laid · ChachaBack: laid · ChachaParts: laid · ChachaEnds: laid.
  DERIVED. THE GIVEN ROWS OF THIS SEAT. 5 by the template 'for every input the law returns true; each argument reads behind the call as it read before'; 0 by the template 'total and deterministic' (their statements: YtgighdiidblihaaDoorTotals.lean).
  GIVEN WITH THE SEED: the statements are not yours to turn. If you find one false, say at which input.
  Laid BY PROGRAM, IN A SANDBOX (cutbox-rows.mjs): the forced cells as the released guide's own fill.sh prints them over the translation 94f67b499941b97f… (all of the seat's roots in one cut). By AI agents, Wed Nov 11 2026. No macro, syntax, notation, axiom, sorry.
-/
import Derived.Test.YtgighdiidblihaaDoorChecked
import GoSem.Claim
import GoSem.ClaimJoined
import GoSem.ClaimMapViews
import Derived.JoinedTies
import Derived.KernelRfl
namespace Go.Proofs.YtgighdiidblihaaDoor
/- THE CELL 'sum', in the pinned program and in every row, IS THE sha256 OF THE DUMP (.gsa) THAT YtgighdiidblihaaDoorProg.lean LOADS. Nothing in Lean hashes anything: it is a label: what it is worth is what the hold of that sum in a sandbox is worth. -/
noncomputable def Tryd.pinned : Pinned := { name := "ytgighdiidblihaadoor", sum := "94f67b499941b97fca83c804fa338e4289c7e062406e7980a60ed255009e0bad", checked := Tryd.checked }
namespace Rows
def none {H : Type} : Left H := { results := [], args := [] }

/- WHAT THE LISTED PACKAGE-LEVEL VARIABLES READ AS WHEN THE CALL BEGINS. Each datum BY PROGRAM (the guide's laid-datum.mjs) off the statement by which the dump's own 'gosem.cut.vars' lays the variable. In a bare row this is a premise. The card (YtgighdiidblihaaDoorCards.lean) ties it to the program's text. -/
def laid_lockbox_chacha_turns {H : Type} : DataW H := .agg [.agg [.lit (.int .u8 0), .lit (.int .u8 4), .lit (.int .u8 8), .lit (.int .u8 12)], .agg [.lit (.int .u8 1), .lit (.int .u8 5), .lit (.int .u8 9), .lit (.int .u8 13)], .agg [.lit (.int .u8 2), .lit (.int .u8 6), .lit (.int .u8 10), .lit (.int .u8 14)], .agg [.lit (.int .u8 3), .lit (.int .u8 7), .lit (.int .u8 11), .lit (.int .u8 15)], .agg [.lit (.int .u8 0), .lit (.int .u8 5), .lit (.int .u8 10), .lit (.int .u8 15)], .agg [.lit (.int .u8 1), .lit (.int .u8 6), .lit (.int .u8 11), .lit (.int .u8 12)], .agg [.lit (.int .u8 2), .lit (.int .u8 7), .lit (.int .u8 8), .lit (.int .u8 13)], .agg [.lit (.int .u8 3), .lit (.int .u8 4), .lit (.int .u8 9), .lit (.int .u8 14)]]

/-- 'lockboxlaw05.ChachaBlocks': WHATEVER THE INPUT: true; the input reads as it did. -/
def chachaBlocksSpec : ChangeSpec := { name := "chachaBlocks", fn := fun _ => fun
  | [d] => { results := [.lit (.bool true)], args := [d] }
  | _ => none }
def chachaBlocksRow : OpenClaim := { program := "ytgighdiidblihaadoor", sum := "94f67b499941b97fca83c804fa338e4289c7e062406e7980a60ed255009e0bad", func := "lockbox/lockboxlaw05.ChachaBlocks", spec := "chachaBlocks", named := ["lockbox/chacha.turns"], apart := false, laid := [("lockbox/chacha.turns", laid_lockbox_chacha_turns)] }
def ChachaBlocksSaid : Prop := chachaBlocksRow.holds Tryd.pinned (OpenSpec.ofChange chachaBlocksSpec)

/-- ITS FALSE NEIGHBOUR: 'it returns false'. Refute it at one input. -/
def chachaBlocksWrong : ChangeSpec := { name := "chachaBlocks", fn := fun _ => fun
  | [d] => { results := [.lit (.bool false)], args := [d] }
  | _ => none }
def ChachaBlocksWrongFalsely : Prop := chachaBlocksRow.holds Tryd.pinned (OpenSpec.ofChange chachaBlocksWrong)

/-- 'lockboxlaw05.ChachaStreams': WHATEVER THE INPUT: true; the input reads as it did. -/
def chachaStreamsSpec : ChangeSpec := { name := "chachaStreams", fn := fun _ => fun
  | [d1, d2, d3] => { results := [.lit (.bool true)], args := [d1, d2, d3] }
  | _ => none }
def chachaStreamsRow : OpenClaim := { program := "ytgighdiidblihaadoor", sum := "94f67b499941b97fca83c804fa338e4289c7e062406e7980a60ed255009e0bad", func := "lockbox/lockboxlaw05.ChachaStreams", spec := "chachaStreams", named := ["lockbox/chacha.turns"], apart := false, laid := [("lockbox/chacha.turns", laid_lockbox_chacha_turns)] }
def ChachaStreamsSaid : Prop := chachaStreamsRow.holds Tryd.pinned (OpenSpec.ofChange chachaStreamsSpec)

/-- ITS FALSE NEIGHBOUR: 'it returns false'. Refute it at one input. -/
def chachaStreamsWrong : ChangeSpec := { name := "chachaStreams", fn := fun _ => fun
  | [d1, d2, d3] => { results := [.lit (.bool false)], args := [d1, d2, d3] }
  | _ => none }
def ChachaStreamsWrongFalsely : Prop := chachaStreamsRow.holds Tryd.pinned (OpenSpec.ofChange chachaStreamsWrong)

/-- 'lockboxlaw05.ChachaBack': WHATEVER THE INPUT: true; the input reads as it did. -/
def chachaBackSpec : ChangeSpec := { name := "chachaBack", fn := fun _ => fun
  | [d1, d2] => { results := [.lit (.bool true)], args := [d1, d2] }
  | _ => none }
def chachaBackRow : OpenClaim := { program := "ytgighdiidblihaadoor", sum := "94f67b499941b97fca83c804fa338e4289c7e062406e7980a60ed255009e0bad", func := "lockbox/lockboxlaw05.ChachaBack", spec := "chachaBack", named := ["lockbox/chacha.turns"], apart := false, laid := [("lockbox/chacha.turns", laid_lockbox_chacha_turns)] }
def ChachaBackSaid : Prop := chachaBackRow.holds Tryd.pinned (OpenSpec.ofChange chachaBackSpec)

/-- ITS FALSE NEIGHBOUR: 'it returns false'. Refute it at one input. -/
def chachaBackWrong : ChangeSpec := { name := "chachaBack", fn := fun _ => fun
  | [d1, d2] => { results := [.lit (.bool false)], args := [d1, d2] }
  | _ => none }
def ChachaBackWrongFalsely : Prop := chachaBackRow.holds Tryd.pinned (OpenSpec.ofChange chachaBackWrong)

/-- 'lockboxlaw05.ChachaParts': WHATEVER THE INPUT: true; the input reads as it did. -/
def chachaPartsSpec : ChangeSpec := { name := "chachaParts", fn := fun _ => fun
  | [d1, d2, d3] => { results := [.lit (.bool true)], args := [d1, d2, d3] }
  | _ => none }
def chachaPartsRow : OpenClaim := { program := "ytgighdiidblihaadoor", sum := "94f67b499941b97fca83c804fa338e4289c7e062406e7980a60ed255009e0bad", func := "lockbox/lockboxlaw05.ChachaParts", spec := "chachaParts", named := ["lockbox/chacha.turns"], apart := false, laid := [("lockbox/chacha.turns", laid_lockbox_chacha_turns)] }
def ChachaPartsSaid : Prop := chachaPartsRow.holds Tryd.pinned (OpenSpec.ofChange chachaPartsSpec)

/-- ITS FALSE NEIGHBOUR: 'it returns false'. Refute it at one input. -/
def chachaPartsWrong : ChangeSpec := { name := "chachaParts", fn := fun _ => fun
  | [d1, d2, d3] => { results := [.lit (.bool false)], args := [d1, d2, d3] }
  | _ => none }
def ChachaPartsWrongFalsely : Prop := chachaPartsRow.holds Tryd.pinned (OpenSpec.ofChange chachaPartsWrong)

/-- 'lockboxlaw05.ChachaEnds': WHATEVER THE INPUT: true; the input reads as it did. -/
def chachaEndsSpec : ChangeSpec := { name := "chachaEnds", fn := fun _ => fun
  | [d1, d2, d3] => { results := [.lit (.bool true)], args := [d1, d2, d3] }
  | _ => none }
def chachaEndsRow : OpenClaim := { program := "ytgighdiidblihaadoor", sum := "94f67b499941b97fca83c804fa338e4289c7e062406e7980a60ed255009e0bad", func := "lockbox/lockboxlaw05.ChachaEnds", spec := "chachaEnds", named := ["lockbox/chacha.turns"], apart := false, laid := [("lockbox/chacha.turns", laid_lockbox_chacha_turns)] }
def ChachaEndsSaid : Prop := chachaEndsRow.holds Tryd.pinned (OpenSpec.ofChange chachaEndsSpec)

/-- ITS FALSE NEIGHBOUR: 'it returns false'. Refute it at one input. -/
def chachaEndsWrong : ChangeSpec := { name := "chachaEnds", fn := fun _ => fun
  | [d1, d2, d3] => { results := [.lit (.bool false)], args := [d1, d2, d3] }
  | _ => none }
def ChachaEndsWrongFalsely : Prop := chachaEndsRow.holds Tryd.pinned (OpenSpec.ofChange chachaEndsWrong)

/- THE SECOND FORM. 'bulk': how many values and letters a reading holds, each counted each time it is reached (what is shared counts as often as it is met; a slice's spare places count too). A statement '..UptoSaid' is the law's where the arguments, and the package variables that the reading takes, are together of bulk at most 1048576: NARROWER than '..Said'. Prove '..Said' where nothing that the law and all that it calls make is longer than what came in: it says more and counts as full. Else prove '..UptoSaid'. A law counts once. -/
mutual
def uptoBulk {H : Type} : DataW H → Nat
  | .lit (.string bytes) => bytes.length + 1
  | .lit _ => 1
  | .nil => 1
  | .ptr d => uptoBulk d + 1
  | .slice elems spare => uptoBulkAll elems + uptoBulkAll spare + 1
  | .agg parts => uptoBulkAll parts + 1
  | .iface _ d => uptoBulk d + 1
  | .map entries => uptoBulkEntries entries + 1
  | .held _ => 1
def uptoBulkAll {H : Type} : List (DataW H) → Nat
  | [] => 0
  | d :: r => uptoBulk d + uptoBulkAll r
def uptoBulkEntries {H : Type} : List (Lit × DataW H) → Nat
  | [] => 0
  | x :: r => uptoBulkEntry x + uptoBulkEntries r
def uptoBulkEntry {H : Type} : Lit × DataW H → Nat
  | (.string bytes, d) => bytes.length + uptoBulk d + 1
  | (_, d) => uptoBulk d + 1
 end
def uptoSmall : (H : Type) → List (DataW H) → Bool := fun _ ds => decide (uptoBulkAll ds ≤ 1048576)
def OpenSpec.upto (s : _root_.Go.ChangeSpec) : _root_.Go.OpenSpec := { _root_.Go.OpenSpec.ofChange s with cond := some uptoSmall }

/-- 'lockboxlaw05.ChachaBlocks', WHERE WHAT IT READS IS OF BULK AT MOST 1048576: true; the input reads as it did. -/
def chachaBlocksUptoRow : OpenClaim := { program := "ytgighdiidblihaadoor", sum := "94f67b499941b97fca83c804fa338e4289c7e062406e7980a60ed255009e0bad", func := "lockbox/lockboxlaw05.ChachaBlocks", spec := "chachaBlocks", named := ["lockbox/chacha.turns"], apart := false, laid := [("lockbox/chacha.turns", laid_lockbox_chacha_turns)], narrowed := true }
def ChachaBlocksUptoSaid : Prop := chachaBlocksUptoRow.holds Tryd.pinned (OpenSpec.upto chachaBlocksSpec)

/-- 'lockboxlaw05.ChachaStreams', WHERE WHAT IT READS IS OF BULK AT MOST 1048576: true; the input reads as it did. -/
def chachaStreamsUptoRow : OpenClaim := { program := "ytgighdiidblihaadoor", sum := "94f67b499941b97fca83c804fa338e4289c7e062406e7980a60ed255009e0bad", func := "lockbox/lockboxlaw05.ChachaStreams", spec := "chachaStreams", named := ["lockbox/chacha.turns"], apart := false, laid := [("lockbox/chacha.turns", laid_lockbox_chacha_turns)], narrowed := true }
def ChachaStreamsUptoSaid : Prop := chachaStreamsUptoRow.holds Tryd.pinned (OpenSpec.upto chachaStreamsSpec)

/-- 'lockboxlaw05.ChachaBack', WHERE WHAT IT READS IS OF BULK AT MOST 1048576: true; the input reads as it did. -/
def chachaBackUptoRow : OpenClaim := { program := "ytgighdiidblihaadoor", sum := "94f67b499941b97fca83c804fa338e4289c7e062406e7980a60ed255009e0bad", func := "lockbox/lockboxlaw05.ChachaBack", spec := "chachaBack", named := ["lockbox/chacha.turns"], apart := false, laid := [("lockbox/chacha.turns", laid_lockbox_chacha_turns)], narrowed := true }
def ChachaBackUptoSaid : Prop := chachaBackUptoRow.holds Tryd.pinned (OpenSpec.upto chachaBackSpec)

/-- 'lockboxlaw05.ChachaParts', WHERE WHAT IT READS IS OF BULK AT MOST 1048576: true; the input reads as it did. -/
def chachaPartsUptoRow : OpenClaim := { program := "ytgighdiidblihaadoor", sum := "94f67b499941b97fca83c804fa338e4289c7e062406e7980a60ed255009e0bad", func := "lockbox/lockboxlaw05.ChachaParts", spec := "chachaParts", named := ["lockbox/chacha.turns"], apart := false, laid := [("lockbox/chacha.turns", laid_lockbox_chacha_turns)], narrowed := true }
def ChachaPartsUptoSaid : Prop := chachaPartsUptoRow.holds Tryd.pinned (OpenSpec.upto chachaPartsSpec)

/-- 'lockboxlaw05.ChachaEnds', WHERE WHAT IT READS IS OF BULK AT MOST 1048576: true; the input reads as it did. -/
def chachaEndsUptoRow : OpenClaim := { program := "ytgighdiidblihaadoor", sum := "94f67b499941b97fca83c804fa338e4289c7e062406e7980a60ed255009e0bad", func := "lockbox/lockboxlaw05.ChachaEnds", spec := "chachaEnds", named := ["lockbox/chacha.turns"], apart := false, laid := [("lockbox/chacha.turns", laid_lockbox_chacha_turns)], narrowed := true }
def ChachaEndsUptoSaid : Prop := chachaEndsUptoRow.holds Tryd.pinned (OpenSpec.upto chachaEndsSpec)

end Rows
end Go.Proofs.YtgighdiidblihaaDoor
