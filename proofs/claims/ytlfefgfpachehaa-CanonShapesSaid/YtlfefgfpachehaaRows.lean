/-
  NARROWER THAN 'FOR EVERY INPUT', by the rows' own cells (each row's printed sentence says how): CanonWrites: loops · CanonBack: loops · CanonCut: loops · CanonShapes: loops.
  DERIVED. THE GIVEN ROWS OF THIS SEAT. 6 by the template 'for every input the law returns true; each argument reads behind the call as it read before'; 0 by the template 'total and deterministic' (their statements: YtlfefgfpachehaaTotals.lean).
  GIVEN WITH THE SEED: the statements are not yours to turn. If you find one false, say at which input.
  Laid BY PROGRAM, IN A SANDBOX (cutbox-rows.mjs): the forced cells as the released guide's own fill.sh prints them over the translation a3af186ce9937319… (all of the seat's roots in one cut). By AI agents, Wed Nov 11 2026. No macro, syntax, notation, axiom, sorry.
-/
import Derived.Test.YtlfefgfpachehaaChecked
import GoSem.Claim
import GoSem.ClaimJoined
import GoSem.ClaimMapViews
import Derived.JoinedTies
import Derived.KernelRfl
namespace Go.Proofs.Ytlfefgfpachehaa
/- THE CELL 'sum', in the pinned program and in every row, IS THE sha256 OF THE DUMP (.gsa) THAT YtlfefgfpachehaaProg.lean LOADS. Nothing in Lean hashes anything: it is a label: what it is worth is what the hold of that sum in a sandbox is worth. -/
noncomputable def Try.pinned : Pinned := { name := "ytlfefgfpachehaa", sum := "a3af186ce99373193119ae8632d2a9e0720516a4e99bd6fcf7762b2b74ddb1b6", checked := Try.checked }
namespace Rows
def none {H : Type} : Left H := { results := [], args := [] }

/-- 'lockboxlaw02.CanonWrites': WHATEVER THE INPUT: true; the input reads as it did. -/
def canonWritesSpec : ChangeSpec := { name := "canonWrites", fn := fun _ => fun
  | [d1, d2] => { results := [.lit (.bool true)], args := [d1, d2] }
  | _ => none }
def canonWritesRow : OpenClaim := { program := "ytlfefgfpachehaa", sum := "a3af186ce99373193119ae8632d2a9e0720516a4e99bd6fcf7762b2b74ddb1b6", func := "lockbox/lockboxlaw02.CanonWrites", spec := "canonWrites", inPlace := ["internal/abi.NoEscape"], unfollowed := true, recurses := true, loops := true, apart := false }
def CanonWritesSaid : Prop := canonWritesRow.holds Try.pinned (OpenSpec.ofChange canonWritesSpec)

/-- ITS FALSE NEIGHBOUR: 'it returns false'. Refute it at one input. -/
def canonWritesWrong : ChangeSpec := { name := "canonWrites", fn := fun _ => fun
  | [d1, d2] => { results := [.lit (.bool false)], args := [d1, d2] }
  | _ => none }
def CanonWritesWrongFalsely : Prop := canonWritesRow.holds Try.pinned (OpenSpec.ofChange canonWritesWrong)

/-- 'lockboxlaw02.CanonBack': WHATEVER THE INPUT: true; the input reads as it did. -/
def canonBackSpec : ChangeSpec := { name := "canonBack", fn := fun _ => fun
  | [d1, d2] => { results := [.lit (.bool true)], args := [d1, d2] }
  | _ => none }
def canonBackRow : OpenClaim := { program := "ytlfefgfpachehaa", sum := "a3af186ce99373193119ae8632d2a9e0720516a4e99bd6fcf7762b2b74ddb1b6", func := "lockbox/lockboxlaw02.CanonBack", spec := "canonBack", inPlace := ["internal/abi.NoEscape"], unfollowed := true, recurses := true, loops := true, apart := false }
def CanonBackSaid : Prop := canonBackRow.holds Try.pinned (OpenSpec.ofChange canonBackSpec)

/-- ITS FALSE NEIGHBOUR: 'it returns false'. Refute it at one input. -/
def canonBackWrong : ChangeSpec := { name := "canonBack", fn := fun _ => fun
  | [d1, d2] => { results := [.lit (.bool false)], args := [d1, d2] }
  | _ => none }
def CanonBackWrongFalsely : Prop := canonBackRow.holds Try.pinned (OpenSpec.ofChange canonBackWrong)

/-- 'lockboxlaw02.CanonOnce': WHATEVER THE INPUT: true; the input reads as it did. -/
def canonOnceSpec : ChangeSpec := { name := "canonOnce", fn := fun _ => fun
  | [d] => { results := [.lit (.bool true)], args := [d] }
  | _ => none }
def canonOnceRow : OpenClaim := { program := "ytlfefgfpachehaa", sum := "a3af186ce99373193119ae8632d2a9e0720516a4e99bd6fcf7762b2b74ddb1b6", func := "lockbox/lockboxlaw02.CanonOnce", spec := "canonOnce", inPlace := ["internal/abi.NoEscape"], recurses := true, apart := false }
def CanonOnceSaid : Prop := canonOnceRow.holds Try.pinned (OpenSpec.ofChange canonOnceSpec)

/-- ITS FALSE NEIGHBOUR: 'it returns false'. Refute it at one input. -/
def canonOnceWrong : ChangeSpec := { name := "canonOnce", fn := fun _ => fun
  | [d] => { results := [.lit (.bool false)], args := [d] }
  | _ => none }
def CanonOnceWrongFalsely : Prop := canonOnceRow.holds Try.pinned (OpenSpec.ofChange canonOnceWrong)

/-- 'lockboxlaw02.CanonCut': WHATEVER THE INPUT: true; the input reads as it did. -/
def canonCutSpec : ChangeSpec := { name := "canonCut", fn := fun _ => fun
  | [d1, d2] => { results := [.lit (.bool true)], args := [d1, d2] }
  | _ => none }
def canonCutRow : OpenClaim := { program := "ytlfefgfpachehaa", sum := "a3af186ce99373193119ae8632d2a9e0720516a4e99bd6fcf7762b2b74ddb1b6", func := "lockbox/lockboxlaw02.CanonCut", spec := "canonCut", inPlace := ["internal/abi.NoEscape"], recurses := true, loops := true, apart := false }
def CanonCutSaid : Prop := canonCutRow.holds Try.pinned (OpenSpec.ofChange canonCutSpec)

/-- ITS FALSE NEIGHBOUR: 'it returns false'. Refute it at one input. -/
def canonCutWrong : ChangeSpec := { name := "canonCut", fn := fun _ => fun
  | [d1, d2] => { results := [.lit (.bool false)], args := [d1, d2] }
  | _ => none }
def CanonCutWrongFalsely : Prop := canonCutRow.holds Try.pinned (OpenSpec.ofChange canonCutWrong)

/-- 'lockboxlaw02.CanonShapes': WHATEVER THE INPUT: true; the input reads as it did. -/
def canonShapesSpec : ChangeSpec := { name := "canonShapes", fn := fun _ => fun
  | [d1, d2] => { results := [.lit (.bool true)], args := [d1, d2] }
  | _ => none }
def canonShapesRow : OpenClaim := { program := "ytlfefgfpachehaa", sum := "a3af186ce99373193119ae8632d2a9e0720516a4e99bd6fcf7762b2b74ddb1b6", func := "lockbox/lockboxlaw02.CanonShapes", spec := "canonShapes", inPlace := ["internal/abi.NoEscape"], unfollowed := true, recurses := true, loops := true, apart := false }
def CanonShapesSaid : Prop := canonShapesRow.holds Try.pinned (OpenSpec.ofChange canonShapesSpec)

/-- ITS FALSE NEIGHBOUR: 'it returns false'. Refute it at one input. -/
def canonShapesWrong : ChangeSpec := { name := "canonShapes", fn := fun _ => fun
  | [d1, d2] => { results := [.lit (.bool false)], args := [d1, d2] }
  | _ => none }
def CanonShapesWrongFalsely : Prop := canonShapesRow.holds Try.pinned (OpenSpec.ofChange canonShapesWrong)

/-- 'lockboxlaw02.CanonLong': WHATEVER THE INPUT: true; the input reads as it did. -/
def canonLongSpec : ChangeSpec := { name := "canonLong", fn := fun _ => fun
  | [d] => { results := [.lit (.bool true)], args := [d] }
  | _ => none }
def canonLongRow : OpenClaim := { program := "ytlfefgfpachehaa", sum := "a3af186ce99373193119ae8632d2a9e0720516a4e99bd6fcf7762b2b74ddb1b6", func := "lockbox/lockboxlaw02.CanonLong", spec := "canonLong", inPlace := ["internal/abi.NoEscape"], recurses := true, apart := false }
def CanonLongSaid : Prop := canonLongRow.holds Try.pinned (OpenSpec.ofChange canonLongSpec)

/-- ITS FALSE NEIGHBOUR: 'it returns false'. Refute it at one input. -/
def canonLongWrong : ChangeSpec := { name := "canonLong", fn := fun _ => fun
  | [d] => { results := [.lit (.bool false)], args := [d] }
  | _ => none }
def CanonLongWrongFalsely : Prop := canonLongRow.holds Try.pinned (OpenSpec.ofChange canonLongWrong)

/- THE SECOND FORM. 'bulk': how many values and letters a reading holds, each counted each time it is reached (what is shared counts as often as it is met; a slice's spare places count too). A statement '..UptoSaid' is the law's where the arguments, and the package variables that the reading takes, are together of bulk at most 1048576: NARROWER than '..Said'. Prove '..Said' where nothing that the law and all that it calls make is longer than what came in: it says more and counts as full. Else prove '..UptoSaid'. A law counts once. -/
mutual
def uptoBulk {H : Type} : DataW H → Nat
  | .lit (.string bytes) => bytes.length + 1
  | .lit _ => 1
  | .nil => 1
  | .ptr d => uptoBulk d + 1
  | .slice elems spare => uptoBulkAll elems + uptoBulkAll spare + 1
  | .agg parts => uptoBulkAll parts + 1
  | .iface _ d => uptoBulk d + 1
  | .map entries => uptoBulkEntries entries + 1
  | .held _ => 1
def uptoBulkAll {H : Type} : List (DataW H) → Nat
  | [] => 0
  | d :: r => uptoBulk d + uptoBulkAll r
def uptoBulkEntries {H : Type} : List (Lit × DataW H) → Nat
  | [] => 0
  | x :: r => uptoBulkEntry x + uptoBulkEntries r
def uptoBulkEntry {H : Type} : Lit × DataW H → Nat
  | (.string bytes, d) => bytes.length + uptoBulk d + 1
  | (_, d) => uptoBulk d + 1
 end
def uptoSmall : (H : Type) → List (DataW H) → Bool := fun _ ds => decide (uptoBulkAll ds ≤ 1048576)
def OpenSpec.upto (s : _root_.Go.ChangeSpec) : _root_.Go.OpenSpec := { _root_.Go.OpenSpec.ofChange s with cond := some uptoSmall }

/-- 'lockboxlaw02.CanonWrites', WHERE WHAT IT READS IS OF BULK AT MOST 1048576: true; the input reads as it did. -/
def canonWritesUptoRow : OpenClaim := { program := "ytlfefgfpachehaa", sum := "a3af186ce99373193119ae8632d2a9e0720516a4e99bd6fcf7762b2b74ddb1b6", func := "lockbox/lockboxlaw02.CanonWrites", spec := "canonWrites", inPlace := ["internal/abi.NoEscape"], unfollowed := true, recurses := true, loops := true, apart := false, narrowed := true }
def CanonWritesUptoSaid : Prop := canonWritesUptoRow.holds Try.pinned (OpenSpec.upto canonWritesSpec)

/-- 'lockboxlaw02.CanonBack', WHERE WHAT IT READS IS OF BULK AT MOST 1048576: true; the input reads as it did. -/
def canonBackUptoRow : OpenClaim := { program := "ytlfefgfpachehaa", sum := "a3af186ce99373193119ae8632d2a9e0720516a4e99bd6fcf7762b2b74ddb1b6", func := "lockbox/lockboxlaw02.CanonBack", spec := "canonBack", inPlace := ["internal/abi.NoEscape"], unfollowed := true, recurses := true, loops := true, apart := false, narrowed := true }
def CanonBackUptoSaid : Prop := canonBackUptoRow.holds Try.pinned (OpenSpec.upto canonBackSpec)

/-- 'lockboxlaw02.CanonOnce', WHERE WHAT IT READS IS OF BULK AT MOST 1048576: true; the input reads as it did. -/
def canonOnceUptoRow : OpenClaim := { program := "ytlfefgfpachehaa", sum := "a3af186ce99373193119ae8632d2a9e0720516a4e99bd6fcf7762b2b74ddb1b6", func := "lockbox/lockboxlaw02.CanonOnce", spec := "canonOnce", inPlace := ["internal/abi.NoEscape"], recurses := true, apart := false, narrowed := true }
def CanonOnceUptoSaid : Prop := canonOnceUptoRow.holds Try.pinned (OpenSpec.upto canonOnceSpec)

/-- 'lockboxlaw02.CanonCut', WHERE WHAT IT READS IS OF BULK AT MOST 1048576: true; the input reads as it did. -/
def canonCutUptoRow : OpenClaim := { program := "ytlfefgfpachehaa", sum := "a3af186ce99373193119ae8632d2a9e0720516a4e99bd6fcf7762b2b74ddb1b6", func := "lockbox/lockboxlaw02.CanonCut", spec := "canonCut", inPlace := ["internal/abi.NoEscape"], recurses := true, loops := true, apart := false, narrowed := true }
def CanonCutUptoSaid : Prop := canonCutUptoRow.holds Try.pinned (OpenSpec.upto canonCutSpec)

/-- 'lockboxlaw02.CanonShapes', WHERE WHAT IT READS IS OF BULK AT MOST 1048576: true; the input reads as it did. -/
def canonShapesUptoRow : OpenClaim := { program := "ytlfefgfpachehaa", sum := "a3af186ce99373193119ae8632d2a9e0720516a4e99bd6fcf7762b2b74ddb1b6", func := "lockbox/lockboxlaw02.CanonShapes", spec := "canonShapes", inPlace := ["internal/abi.NoEscape"], unfollowed := true, recurses := true, loops := true, apart := false, narrowed := true }
def CanonShapesUptoSaid : Prop := canonShapesUptoRow.holds Try.pinned (OpenSpec.upto canonShapesSpec)

/-- 'lockboxlaw02.CanonLong', WHERE WHAT IT READS IS OF BULK AT MOST 1048576: true; the input reads as it did. -/
def canonLongUptoRow : OpenClaim := { program := "ytlfefgfpachehaa", sum := "a3af186ce99373193119ae8632d2a9e0720516a4e99bd6fcf7762b2b74ddb1b6", func := "lockbox/lockboxlaw02.CanonLong", spec := "canonLong", inPlace := ["internal/abi.NoEscape"], recurses := true, apart := false, narrowed := true }
def CanonLongUptoSaid : Prop := canonLongUptoRow.holds Try.pinned (OpenSpec.upto canonLongSpec)

end Rows
end Go.Proofs.Ytlfefgfpachehaa
