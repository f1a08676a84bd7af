/-
  No cell of these rows narrows 'for every input' (looked for: loops, veiled, ifaces, maps, wideKeys, modest, calm, conditions, laid).
  DERIVED. THE GIVEN ROWS OF THIS SEAT. 4 by the template 'for every input the law returns true; each argument reads behind the call as it read before'; 0 by the template 'total and deterministic' (their statements: YtgoimggfpagojaaTotals.lean).
  GIVEN WITH THE SEED: the statements are not yours to turn. If you find one false, say at which input.
  Laid BY PROGRAM, IN A SANDBOX (cutbox-rows.mjs): the forced cells as the released guide's own fill.sh prints them over the translation 86e8d65c5c4d4657… (all of the seat's roots in one cut). By AI agents, Wed Nov 11 2026. No macro, syntax, notation, axiom, sorry.
-/
import Derived.Test.YtgoimggfpagojaaChecked
import GoSem.Claim
import GoSem.ClaimJoined
import GoSem.ClaimMapViews
import Derived.JoinedTies
import Derived.KernelRfl
namespace Go.Proofs.Ytgoimggfpagojaa
/- THE CELL 'sum', in the pinned program and in every row, IS THE sha256 OF THE DUMP (.gsa) THAT YtgoimggfpagojaaProg.lean LOADS. Nothing in Lean hashes anything: it is a label: what it is worth is what the hold of that sum in a sandbox is worth. -/
noncomputable def Try.pinned : Pinned := { name := "ytgoimggfpagojaa", sum := "86e8d65c5c4d4657c8315e440d92a2a641f0754d7611b5dcaf6b21173ce43f09", checked := Try.checked }
namespace Rows
def none {H : Type} : Left H := { results := [], args := [] }

/-- 'lockboxlaw17.LeafTexts': WHATEVER THE INPUT: true; the input reads as it did. -/
def leafTextsSpec : ChangeSpec := { name := "leafTexts", fn := fun _ => fun
  | [d1, d2] => { results := [.lit (.bool true)], args := [d1, d2] }
  | _ => none }
def leafTextsRow : OpenClaim := { program := "ytgoimggfpagojaa", sum := "86e8d65c5c4d4657c8315e440d92a2a641f0754d7611b5dcaf6b21173ce43f09", func := "lockbox/lockboxlaw17.LeafTexts", spec := "leafTexts", inPlace := ["internal/abi.NoEscape"], recurses := true, apart := false }
def LeafTextsSaid : Prop := leafTextsRow.holds Try.pinned (OpenSpec.ofChange leafTextsSpec)

/-- ITS FALSE NEIGHBOUR: 'it returns false'. Refute it at one input. -/
def leafTextsWrong : ChangeSpec := { name := "leafTexts", fn := fun _ => fun
  | [d1, d2] => { results := [.lit (.bool false)], args := [d1, d2] }
  | _ => none }
def LeafTextsWrongFalsely : Prop := leafTextsRow.holds Try.pinned (OpenSpec.ofChange leafTextsWrong)

/-- 'lockboxlaw17.LeafReads': WHATEVER THE INPUT: true; the input reads as it did. -/
def leafReadsSpec : ChangeSpec := { name := "leafReads", fn := fun _ => fun
  | [d] => { results := [.lit (.bool true)], args := [d] }
  | _ => none }
def leafReadsRow : OpenClaim := { program := "ytgoimggfpagojaa", sum := "86e8d65c5c4d4657c8315e440d92a2a641f0754d7611b5dcaf6b21173ce43f09", func := "lockbox/lockboxlaw17.LeafReads", spec := "leafReads", inPlace := ["internal/abi.NoEscape"], recurses := true, apart := false }
def LeafReadsSaid : Prop := leafReadsRow.holds Try.pinned (OpenSpec.ofChange leafReadsSpec)

/-- ITS FALSE NEIGHBOUR: 'it returns false'. Refute it at one input. -/
def leafReadsWrong : ChangeSpec := { name := "leafReads", fn := fun _ => fun
  | [d] => { results := [.lit (.bool false)], args := [d] }
  | _ => none }
def LeafReadsWrongFalsely : Prop := leafReadsRow.holds Try.pinned (OpenSpec.ofChange leafReadsWrong)

/-- 'lockboxlaw17.LeafBack': WHATEVER THE INPUT: true; the input reads as it did. -/
def leafBackSpec : ChangeSpec := { name := "leafBack", fn := fun _ => fun
  | [d1, d2, d3] => { results := [.lit (.bool true)], args := [d1, d2, d3] }
  | _ => none }
def leafBackRow : OpenClaim := { program := "ytgoimggfpagojaa", sum := "86e8d65c5c4d4657c8315e440d92a2a641f0754d7611b5dcaf6b21173ce43f09", func := "lockbox/lockboxlaw17.LeafBack", spec := "leafBack", inPlace := ["internal/abi.NoEscape"], recurses := true, apart := false }
def LeafBackSaid : Prop := leafBackRow.holds Try.pinned (OpenSpec.ofChange leafBackSpec)

/-- ITS FALSE NEIGHBOUR: 'it returns false'. Refute it at one input. -/
def leafBackWrong : ChangeSpec := { name := "leafBack", fn := fun _ => fun
  | [d1, d2, d3] => { results := [.lit (.bool false)], args := [d1, d2, d3] }
  | _ => none }
def LeafBackWrongFalsely : Prop := leafBackRow.holds Try.pinned (OpenSpec.ofChange leafBackWrong)

/-- 'lockboxlaw17.LeafFinds': WHATEVER THE INPUT: true; the input reads as it did. -/
def leafFindsSpec : ChangeSpec := { name := "leafFinds", fn := fun _ => fun
  | [d1, d2] => { results := [.lit (.bool true)], args := [d1, d2] }
  | _ => none }
def leafFindsRow : OpenClaim := { program := "ytgoimggfpagojaa", sum := "86e8d65c5c4d4657c8315e440d92a2a641f0754d7611b5dcaf6b21173ce43f09", func := "lockbox/lockboxlaw17.LeafFinds", spec := "leafFinds", inPlace := ["internal/abi.NoEscape"], recurses := true, apart := false }
def LeafFindsSaid : Prop := leafFindsRow.holds Try.pinned (OpenSpec.ofChange leafFindsSpec)

/-- ITS FALSE NEIGHBOUR: 'it returns false'. Refute it at one input. -/
def leafFindsWrong : ChangeSpec := { name := "leafFinds", fn := fun _ => fun
  | [d1, d2] => { results := [.lit (.bool false)], args := [d1, d2] }
  | _ => none }
def LeafFindsWrongFalsely : Prop := leafFindsRow.holds Try.pinned (OpenSpec.ofChange leafFindsWrong)

/- THE SECOND FORM. 'bulk': how many values and letters a reading holds, each counted each time it is reached (what is shared counts as often as it is met; a slice's spare places count too). A statement '..UptoSaid' is the law's where the arguments, and the package variables that the reading takes, are together of bulk at most 1048576: NARROWER than '..Said'. Prove '..Said' where nothing that the law and all that it calls make is longer than what came in: it says more and counts as full. Else prove '..UptoSaid'. A law counts once. -/
mutual
def uptoBulk {H : Type} : DataW H → Nat
  | .lit (.string bytes) => bytes.length + 1
  | .lit _ => 1
  | .nil => 1
  | .ptr d => uptoBulk d + 1
  | .slice elems spare => uptoBulkAll elems + uptoBulkAll spare + 1
  | .agg parts => uptoBulkAll parts + 1
  | .iface _ d => uptoBulk d + 1
  | .map entries => uptoBulkEntries entries + 1
  | .held _ => 1
def uptoBulkAll {H : Type} : List (DataW H) → Nat
  | [] => 0
  | d :: r => uptoBulk d + uptoBulkAll r
def uptoBulkEntries {H : Type} : List (Lit × DataW H) → Nat
  | [] => 0
  | x :: r => uptoBulkEntry x + uptoBulkEntries r
def uptoBulkEntry {H : Type} : Lit × DataW H → Nat
  | (.string bytes, d) => bytes.length + uptoBulk d + 1
  | (_, d) => uptoBulk d + 1
 end
def uptoSmall : (H : Type) → List (DataW H) → Bool := fun _ ds => decide (uptoBulkAll ds ≤ 1048576)
def OpenSpec.upto (s : _root_.Go.ChangeSpec) : _root_.Go.OpenSpec := { _root_.Go.OpenSpec.ofChange s with cond := some uptoSmall }

/-- 'lockboxlaw17.LeafTexts', WHERE WHAT IT READS IS OF BULK AT MOST 1048576: true; the input reads as it did. -/
def leafTextsUptoRow : OpenClaim := { program := "ytgoimggfpagojaa", sum := "86e8d65c5c4d4657c8315e440d92a2a641f0754d7611b5dcaf6b21173ce43f09", func := "lockbox/lockboxlaw17.LeafTexts", spec := "leafTexts", inPlace := ["internal/abi.NoEscape"], recurses := true, apart := false, narrowed := true }
def LeafTextsUptoSaid : Prop := leafTextsUptoRow.holds Try.pinned (OpenSpec.upto leafTextsSpec)

/-- 'lockboxlaw17.LeafReads', WHERE WHAT IT READS IS OF BULK AT MOST 1048576: true; the input reads as it did. -/
def leafReadsUptoRow : OpenClaim := { program := "ytgoimggfpagojaa", sum := "86e8d65c5c4d4657c8315e440d92a2a641f0754d7611b5dcaf6b21173ce43f09", func := "lockbox/lockboxlaw17.LeafReads", spec := "leafReads", inPlace := ["internal/abi.NoEscape"], recurses := true, apart := false, narrowed := true }
def LeafReadsUptoSaid : Prop := leafReadsUptoRow.holds Try.pinned (OpenSpec.upto leafReadsSpec)

/-- 'lockboxlaw17.LeafBack', WHERE WHAT IT READS IS OF BULK AT MOST 1048576: true; the input reads as it did. -/
def leafBackUptoRow : OpenClaim := { program := "ytgoimggfpagojaa", sum := "86e8d65c5c4d4657c8315e440d92a2a641f0754d7611b5dcaf6b21173ce43f09", func := "lockbox/lockboxlaw17.LeafBack", spec := "leafBack", inPlace := ["internal/abi.NoEscape"], recurses := true, apart := false, narrowed := true }
def LeafBackUptoSaid : Prop := leafBackUptoRow.holds Try.pinned (OpenSpec.upto leafBackSpec)

/-- 'lockboxlaw17.LeafFinds', WHERE WHAT IT READS IS OF BULK AT MOST 1048576: true; the input reads as it did. -/
def leafFindsUptoRow : OpenClaim := { program := "ytgoimggfpagojaa", sum := "86e8d65c5c4d4657c8315e440d92a2a641f0754d7611b5dcaf6b21173ce43f09", func := "lockbox/lockboxlaw17.LeafFinds", spec := "leafFinds", inPlace := ["internal/abi.NoEscape"], recurses := true, apart := false, narrowed := true }
def LeafFindsUptoSaid : Prop := leafFindsUptoRow.holds Try.pinned (OpenSpec.upto leafFindsSpec)

end Rows
end Go.Proofs.Ytgoimggfpagojaa
