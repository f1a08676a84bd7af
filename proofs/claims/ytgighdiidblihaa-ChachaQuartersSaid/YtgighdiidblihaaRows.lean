/-
  No cell of these rows narrows 'for every input' (looked for: loops, veiled, ifaces, maps, wideKeys, modest, calm, conditions, laid).
  DERIVED. THE GIVEN ROWS OF THIS SEAT. 6 by the template 'for every input the law returns true; each argument reads behind the call as it read before'; 0 by the template 'total and deterministic' (their statements: YtgighdiidblihaaTotals.lean).
  GIVEN WITH THE SEED: the statements are not yours to turn. If you find one false, say at which input.
  Laid BY PROGRAM, IN A SANDBOX (cutbox-rows.mjs): the forced cells as the released guide's own fill.sh prints them over the translation 3b227b6c56ada95a… (all of the seat's roots in one cut). By AI agents, Wed Nov 11 2026. No macro, syntax, notation, axiom, sorry.
-/
import Derived.Test.YtgighdiidblihaaChecked
import GoSem.Claim
import GoSem.ClaimJoined
import GoSem.ClaimMapViews
import Derived.JoinedTies
import Derived.KernelRfl
namespace Go.Proofs.Ytgighdiidblihaa
/- THE CELL 'sum', in the pinned program and in every row, IS THE sha256 OF THE DUMP (.gsa) THAT YtgighdiidblihaaProg.lean LOADS. Nothing in Lean hashes anything: it is a label: what it is worth is what the hold of that sum in a sandbox is worth. -/
noncomputable def Try.pinned : Pinned := { name := "ytgighdiidblihaa", sum := "3b227b6c56ada95a38122ec087486402320fafbc71144b151b5d2751a1bf545b", checked := Try.checked }
namespace Rows
def none {H : Type} : Left H := { results := [], args := [] }

/-- 'lockboxlaw05.ChachaQuarters': WHATEVER THE INPUT: true; the input reads as it did. -/
def chachaQuartersSpec : ChangeSpec := { name := "chachaQuarters", fn := fun _ => fun
  | [d] => { results := [.lit (.bool true)], args := [d] }
  | _ => none }
def chachaQuartersRow : OpenClaim := { program := "ytgighdiidblihaa", sum := "3b227b6c56ada95a38122ec087486402320fafbc71144b151b5d2751a1bf545b", func := "lockbox/lockboxlaw05.ChachaQuarters", spec := "chachaQuarters", apart := false }
def ChachaQuartersSaid : Prop := chachaQuartersRow.holds Try.pinned (OpenSpec.ofChange chachaQuartersSpec)

/-- ITS FALSE NEIGHBOUR: 'it returns false'. Refute it at one input. -/
def chachaQuartersWrong : ChangeSpec := { name := "chachaQuarters", fn := fun _ => fun
  | [d] => { results := [.lit (.bool false)], args := [d] }
  | _ => none }
def ChachaQuartersWrongFalsely : Prop := chachaQuartersRow.holds Try.pinned (OpenSpec.ofChange chachaQuartersWrong)

/-- 'lockboxlaw06.ShapeHolds': WHATEVER THE INPUT: true; the input reads as it did. -/
def shapeHoldsSpec : ChangeSpec := { name := "shapeHolds", fn := fun _ => fun
  | [d1, d2] => { results := [.lit (.bool true)], args := [d1, d2] }
  | _ => none }
def shapeHoldsRow : OpenClaim := { program := "ytgighdiidblihaa", sum := "3b227b6c56ada95a38122ec087486402320fafbc71144b151b5d2751a1bf545b", func := "lockbox/lockboxlaw06.ShapeHolds", spec := "shapeHolds", apart := false }
def ShapeHoldsSaid : Prop := shapeHoldsRow.holds Try.pinned (OpenSpec.ofChange shapeHoldsSpec)

/-- ITS FALSE NEIGHBOUR: 'it returns false'. Refute it at one input. -/
def shapeHoldsWrong : ChangeSpec := { name := "shapeHolds", fn := fun _ => fun
  | [d1, d2] => { results := [.lit (.bool false)], args := [d1, d2] }
  | _ => none }
def ShapeHoldsWrongFalsely : Prop := shapeHoldsRow.holds Try.pinned (OpenSpec.ofChange shapeHoldsWrong)

/-- 'lockboxlaw06.ShapePicks': WHATEVER THE INPUT: true; the input reads as it did. -/
def shapePicksSpec : ChangeSpec := { name := "shapePicks", fn := fun _ => fun
  | [d1, d2, d3] => { results := [.lit (.bool true)], args := [d1, d2, d3] }
  | _ => none }
def shapePicksRow : OpenClaim := { program := "ytgighdiidblihaa", sum := "3b227b6c56ada95a38122ec087486402320fafbc71144b151b5d2751a1bf545b", func := "lockbox/lockboxlaw06.ShapePicks", spec := "shapePicks", apart := false }
def ShapePicksSaid : Prop := shapePicksRow.holds Try.pinned (OpenSpec.ofChange shapePicksSpec)

/-- ITS FALSE NEIGHBOUR: 'it returns false'. Refute it at one input. -/
def shapePicksWrong : ChangeSpec := { name := "shapePicks", fn := fun _ => fun
  | [d1, d2, d3] => { results := [.lit (.bool false)], args := [d1, d2, d3] }
  | _ => none }
def ShapePicksWrongFalsely : Prop := shapePicksRow.holds Try.pinned (OpenSpec.ofChange shapePicksWrong)

/-- 'lockboxlaw06.ShapeFinds': WHATEVER THE INPUT: true; the input reads as it did. -/
def shapeFindsSpec : ChangeSpec := { name := "shapeFinds", fn := fun _ => fun
  | [d1, d2] => { results := [.lit (.bool true)], args := [d1, d2] }
  | _ => none }
def shapeFindsRow : OpenClaim := { program := "ytgighdiidblihaa", sum := "3b227b6c56ada95a38122ec087486402320fafbc71144b151b5d2751a1bf545b", func := "lockbox/lockboxlaw06.ShapeFinds", spec := "shapeFinds", apart := false }
def ShapeFindsSaid : Prop := shapeFindsRow.holds Try.pinned (OpenSpec.ofChange shapeFindsSpec)

/-- ITS FALSE NEIGHBOUR: 'it returns false'. Refute it at one input. -/
def shapeFindsWrong : ChangeSpec := { name := "shapeFinds", fn := fun _ => fun
  | [d1, d2] => { results := [.lit (.bool false)], args := [d1, d2] }
  | _ => none }
def ShapeFindsWrongFalsely : Prop := shapeFindsRow.holds Try.pinned (OpenSpec.ofChange shapeFindsWrong)

/-- 'lockboxlaw06.ShapeSteps': WHATEVER THE INPUT: true; the input reads as it did. -/
def shapeStepsSpec : ChangeSpec := { name := "shapeSteps", fn := fun _ => fun
  | [d1, d2, d3] => { results := [.lit (.bool true)], args := [d1, d2, d3] }
  | _ => none }
def shapeStepsRow : OpenClaim := { program := "ytgighdiidblihaa", sum := "3b227b6c56ada95a38122ec087486402320fafbc71144b151b5d2751a1bf545b", func := "lockbox/lockboxlaw06.ShapeSteps", spec := "shapeSteps", apart := false }
def ShapeStepsSaid : Prop := shapeStepsRow.holds Try.pinned (OpenSpec.ofChange shapeStepsSpec)

/-- ITS FALSE NEIGHBOUR: 'it returns false'. Refute it at one input. -/
def shapeStepsWrong : ChangeSpec := { name := "shapeSteps", fn := fun _ => fun
  | [d1, d2, d3] => { results := [.lit (.bool false)], args := [d1, d2, d3] }
  | _ => none }
def ShapeStepsWrongFalsely : Prop := shapeStepsRow.holds Try.pinned (OpenSpec.ofChange shapeStepsWrong)

/-- 'lockboxlaw06.ShapeOrders': WHATEVER THE INPUT: true; the input reads as it did. -/
def shapeOrdersSpec : ChangeSpec := { name := "shapeOrders", fn := fun _ => fun
  | [d1, d2, d3] => { results := [.lit (.bool true)], args := [d1, d2, d3] }
  | _ => none }
def shapeOrdersRow : OpenClaim := { program := "ytgighdiidblihaa", sum := "3b227b6c56ada95a38122ec087486402320fafbc71144b151b5d2751a1bf545b", func := "lockbox/lockboxlaw06.ShapeOrders", spec := "shapeOrders", apart := false }
def ShapeOrdersSaid : Prop := shapeOrdersRow.holds Try.pinned (OpenSpec.ofChange shapeOrdersSpec)

/-- ITS FALSE NEIGHBOUR: 'it returns false'. Refute it at one input. -/
def shapeOrdersWrong : ChangeSpec := { name := "shapeOrders", fn := fun _ => fun
  | [d1, d2, d3] => { results := [.lit (.bool false)], args := [d1, d2, d3] }
  | _ => none }
def ShapeOrdersWrongFalsely : Prop := shapeOrdersRow.holds Try.pinned (OpenSpec.ofChange shapeOrdersWrong)

/- THE SECOND FORM. 'bulk': how many values and letters a reading holds, each counted each time it is reached (what is shared counts as often as it is met; a slice's spare places count too). A statement '..UptoSaid' is the law's where the arguments, and the package variables that the reading takes, are together of bulk at most 1048576: NARROWER than '..Said'. Prove '..Said' where nothing that the law and all that it calls make is longer than what came in: it says more and counts as full. Else prove '..UptoSaid'. A law counts once. -/
mutual
def uptoBulk {H : Type} : DataW H → Nat
  | .lit (.string bytes) => bytes.length + 1
  | .lit _ => 1
  | .nil => 1
  | .ptr d => uptoBulk d + 1
  | .slice elems spare => uptoBulkAll elems + uptoBulkAll spare + 1
  | .agg parts => uptoBulkAll parts + 1
  | .iface _ d => uptoBulk d + 1
  | .map entries => uptoBulkEntries entries + 1
  | .held _ => 1
def uptoBulkAll {H : Type} : List (DataW H) → Nat
  | [] => 0
  | d :: r => uptoBulk d + uptoBulkAll r
def uptoBulkEntries {H : Type} : List (Lit × DataW H) → Nat
  | [] => 0
  | x :: r => uptoBulkEntry x + uptoBulkEntries r
def uptoBulkEntry {H : Type} : Lit × DataW H → Nat
  | (.string bytes, d) => bytes.length + uptoBulk d + 1
  | (_, d) => uptoBulk d + 1
 end
def uptoSmall : (H : Type) → List (DataW H) → Bool := fun _ ds => decide (uptoBulkAll ds ≤ 1048576)
def OpenSpec.upto (s : _root_.Go.ChangeSpec) : _root_.Go.OpenSpec := { _root_.Go.OpenSpec.ofChange s with cond := some uptoSmall }

/-- 'lockboxlaw05.ChachaQuarters', WHERE WHAT IT READS IS OF BULK AT MOST 1048576: true; the input reads as it did. -/
def chachaQuartersUptoRow : OpenClaim := { program := "ytgighdiidblihaa", sum := "3b227b6c56ada95a38122ec087486402320fafbc71144b151b5d2751a1bf545b", func := "lockbox/lockboxlaw05.ChachaQuarters", spec := "chachaQuarters", apart := false, narrowed := true }
def ChachaQuartersUptoSaid : Prop := chachaQuartersUptoRow.holds Try.pinned (OpenSpec.upto chachaQuartersSpec)

/-- 'lockboxlaw06.ShapeHolds', WHERE WHAT IT READS IS OF BULK AT MOST 1048576: true; the input reads as it did. -/
def shapeHoldsUptoRow : OpenClaim := { program := "ytgighdiidblihaa", sum := "3b227b6c56ada95a38122ec087486402320fafbc71144b151b5d2751a1bf545b", func := "lockbox/lockboxlaw06.ShapeHolds", spec := "shapeHolds", apart := false, narrowed := true }
def ShapeHoldsUptoSaid : Prop := shapeHoldsUptoRow.holds Try.pinned (OpenSpec.upto shapeHoldsSpec)

/-- 'lockboxlaw06.ShapePicks', WHERE WHAT IT READS IS OF BULK AT MOST 1048576: true; the input reads as it did. -/
def shapePicksUptoRow : OpenClaim := { program := "ytgighdiidblihaa", sum := "3b227b6c56ada95a38122ec087486402320fafbc71144b151b5d2751a1bf545b", func := "lockbox/lockboxlaw06.ShapePicks", spec := "shapePicks", apart := false, narrowed := true }
def ShapePicksUptoSaid : Prop := shapePicksUptoRow.holds Try.pinned (OpenSpec.upto shapePicksSpec)

/-- 'lockboxlaw06.ShapeFinds', WHERE WHAT IT READS IS OF BULK AT MOST 1048576: true; the input reads as it did. -/
def shapeFindsUptoRow : OpenClaim := { program := "ytgighdiidblihaa", sum := "3b227b6c56ada95a38122ec087486402320fafbc71144b151b5d2751a1bf545b", func := "lockbox/lockboxlaw06.ShapeFinds", spec := "shapeFinds", apart := false, narrowed := true }
def ShapeFindsUptoSaid : Prop := shapeFindsUptoRow.holds Try.pinned (OpenSpec.upto shapeFindsSpec)

/-- 'lockboxlaw06.ShapeSteps', WHERE WHAT IT READS IS OF BULK AT MOST 1048576: true; the input reads as it did. -/
def shapeStepsUptoRow : OpenClaim := { program := "ytgighdiidblihaa", sum := "3b227b6c56ada95a38122ec087486402320fafbc71144b151b5d2751a1bf545b", func := "lockbox/lockboxlaw06.ShapeSteps", spec := "shapeSteps", apart := false, narrowed := true }
def ShapeStepsUptoSaid : Prop := shapeStepsUptoRow.holds Try.pinned (OpenSpec.upto shapeStepsSpec)

/-- 'lockboxlaw06.ShapeOrders', WHERE WHAT IT READS IS OF BULK AT MOST 1048576: true; the input reads as it did. -/
def shapeOrdersUptoRow : OpenClaim := { program := "ytgighdiidblihaa", sum := "3b227b6c56ada95a38122ec087486402320fafbc71144b151b5d2751a1bf545b", func := "lockbox/lockboxlaw06.ShapeOrders", spec := "shapeOrders", apart := false, narrowed := true }
def ShapeOrdersUptoSaid : Prop := shapeOrdersUptoRow.holds Try.pinned (OpenSpec.upto shapeOrdersSpec)

end Rows
end Go.Proofs.Ytgighdiidblihaa
