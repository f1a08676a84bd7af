/-
  No cell of these rows narrows 'for every input' (looked for: loops, veiled, ifaces, maps, wideKeys, modest, calm, conditions, laid).
  DERIVED. THE GIVEN ROWS OF THIS SEAT. 7 by the template 'for every input the law returns true; each argument reads behind the call as it read before'; 0 by the template 'total and deterministic' (their statements: YtnkkbinbeildmaaTotals.lean).
  GIVEN WITH THE SEED: the statements are not yours to turn. If you find one false, say at which input.
  Laid BY PROGRAM, IN A SANDBOX (cutbox-rows.mjs): the forced cells as the released guide's own fill.sh prints them over the translation 0a2b1e31af79cdbd… (all of the seat's roots in one cut). By AI agents, Wed Nov 11 2026. No macro, syntax, notation, axiom, sorry.
-/
import Derived.Test.YtnkkbinbeildmaaChecked
import GoSem.Claim
import GoSem.ClaimJoined
import GoSem.ClaimMapViews
import Derived.JoinedTies
import Derived.KernelRfl
namespace Go.Proofs.Ytnkkbinbeildmaa
/- THE CELL 'sum', in the pinned program and in every row, IS THE sha256 OF THE DUMP (.gsa) THAT YtnkkbinbeildmaaProg.lean LOADS. Nothing in Lean hashes anything: it is a label: what it is worth is what the hold of that sum in a sandbox is worth. -/
noncomputable def Try.pinned : Pinned := { name := "ytnkkbinbeildmaa", sum := "0a2b1e31af79cdbd6b461937a37316cafe5072ddfcb7365d22d9bdf627f65846", checked := Try.checked }
namespace Rows
def none {H : Type} : Left H := { results := [], args := [] }

/-- 'lockboxlaw20.PolicyDecides': WHATEVER THE INPUT: true; the input reads as it did. -/
def policyDecidesSpec : ChangeSpec := { name := "policyDecides", fn := fun _ => fun
  | [d1, d2, d3] => { results := [.lit (.bool true)], args := [d1, d2, d3] }
  | _ => none }
def policyDecidesRow : OpenClaim := { program := "ytnkkbinbeildmaa", sum := "0a2b1e31af79cdbd6b461937a37316cafe5072ddfcb7365d22d9bdf627f65846", func := "lockbox/lockboxlaw20.PolicyDecides", spec := "policyDecides", inPlace := ["internal/reflectlite.TypeOf", "slices.overlaps[string]"], unfollowed := true, recurses := true, apart := false }
def PolicyDecidesSaid : Prop := policyDecidesRow.holds Try.pinned (OpenSpec.ofChange policyDecidesSpec)

/-- ITS FALSE NEIGHBOUR: 'it returns false'. Refute it at one input. -/
def policyDecidesWrong : ChangeSpec := { name := "policyDecides", fn := fun _ => fun
  | [d1, d2, d3] => { results := [.lit (.bool false)], args := [d1, d2, d3] }
  | _ => none }
def PolicyDecidesWrongFalsely : Prop := policyDecidesRow.holds Try.pinned (OpenSpec.ofChange policyDecidesWrong)

/-- 'lockboxlaw20.PolicyFits': WHATEVER THE INPUT: true; the input reads as it did. -/
def policyFitsSpec : ChangeSpec := { name := "policyFits", fn := fun _ => fun
  | [d1, d2, d3] => { results := [.lit (.bool true)], args := [d1, d2, d3] }
  | _ => none }
def policyFitsRow : OpenClaim := { program := "ytnkkbinbeildmaa", sum := "0a2b1e31af79cdbd6b461937a37316cafe5072ddfcb7365d22d9bdf627f65846", func := "lockbox/lockboxlaw20.PolicyFits", spec := "policyFits", inPlace := ["internal/reflectlite.TypeOf", "slices.overlaps[string]"], unfollowed := true, recurses := true, apart := false }
def PolicyFitsSaid : Prop := policyFitsRow.holds Try.pinned (OpenSpec.ofChange policyFitsSpec)

/-- ITS FALSE NEIGHBOUR: 'it returns false'. Refute it at one input. -/
def policyFitsWrong : ChangeSpec := { name := "policyFits", fn := fun _ => fun
  | [d1, d2, d3] => { results := [.lit (.bool false)], args := [d1, d2, d3] }
  | _ => none }
def PolicyFitsWrongFalsely : Prop := policyFitsRow.holds Try.pinned (OpenSpec.ofChange policyFitsWrong)

/-- 'lockboxlaw20.PolicyFirst': WHATEVER THE INPUT: true; the input reads as it did. -/
def policyFirstSpec : ChangeSpec := { name := "policyFirst", fn := fun _ => fun
  | [d1, d2, d3] => { results := [.lit (.bool true)], args := [d1, d2, d3] }
  | _ => none }
def policyFirstRow : OpenClaim := { program := "ytnkkbinbeildmaa", sum := "0a2b1e31af79cdbd6b461937a37316cafe5072ddfcb7365d22d9bdf627f65846", func := "lockbox/lockboxlaw20.PolicyFirst", spec := "policyFirst", inPlace := ["internal/reflectlite.TypeOf", "slices.overlaps[string]"], unfollowed := true, recurses := true, apart := false }
def PolicyFirstSaid : Prop := policyFirstRow.holds Try.pinned (OpenSpec.ofChange policyFirstSpec)

/-- ITS FALSE NEIGHBOUR: 'it returns false'. Refute it at one input. -/
def policyFirstWrong : ChangeSpec := { name := "policyFirst", fn := fun _ => fun
  | [d1, d2, d3] => { results := [.lit (.bool false)], args := [d1, d2, d3] }
  | _ => none }
def PolicyFirstWrongFalsely : Prop := policyFirstRow.holds Try.pinned (OpenSpec.ofChange policyFirstWrong)

/-- 'lockboxlaw21.RequestPlays': WHATEVER THE INPUT: true; the input reads as it did. -/
def requestPlaysSpec : ChangeSpec := { name := "requestPlays", fn := fun _ => fun
  | [d1, d2, d3] => { results := [.lit (.bool true)], args := [d1, d2, d3] }
  | _ => none }
def requestPlaysRow : OpenClaim := { program := "ytnkkbinbeildmaa", sum := "0a2b1e31af79cdbd6b461937a37316cafe5072ddfcb7365d22d9bdf627f65846", func := "lockbox/lockboxlaw21.RequestPlays", spec := "requestPlays", inPlace := ["internal/reflectlite.TypeOf"], unfollowed := true, recurses := true, apart := false }
def RequestPlaysSaid : Prop := requestPlaysRow.holds Try.pinned (OpenSpec.ofChange requestPlaysSpec)

/-- ITS FALSE NEIGHBOUR: 'it returns false'. Refute it at one input. -/
def requestPlaysWrong : ChangeSpec := { name := "requestPlays", fn := fun _ => fun
  | [d1, d2, d3] => { results := [.lit (.bool false)], args := [d1, d2, d3] }
  | _ => none }
def RequestPlaysWrongFalsely : Prop := requestPlaysRow.holds Try.pinned (OpenSpec.ofChange requestPlaysWrong)

/-- 'lockboxlaw21.RequestEnds': WHATEVER THE INPUT: true; the input reads as it did. -/
def requestEndsSpec : ChangeSpec := { name := "requestEnds", fn := fun _ => fun
  | [d] => { results := [.lit (.bool true)], args := [d] }
  | _ => none }
def requestEndsRow : OpenClaim := { program := "ytnkkbinbeildmaa", sum := "0a2b1e31af79cdbd6b461937a37316cafe5072ddfcb7365d22d9bdf627f65846", func := "lockbox/lockboxlaw21.RequestEnds", spec := "requestEnds", inPlace := ["internal/reflectlite.TypeOf"], unfollowed := true, recurses := true, apart := false }
def RequestEndsSaid : Prop := requestEndsRow.holds Try.pinned (OpenSpec.ofChange requestEndsSpec)

/-- ITS FALSE NEIGHBOUR: 'it returns false'. Refute it at one input. -/
def requestEndsWrong : ChangeSpec := { name := "requestEnds", fn := fun _ => fun
  | [d] => { results := [.lit (.bool false)], args := [d] }
  | _ => none }
def RequestEndsWrongFalsely : Prop := requestEndsRow.holds Try.pinned (OpenSpec.ofChange requestEndsWrong)

/-- 'lockboxlaw21.RequestErrs': WHATEVER THE INPUT: true; the input reads as it did. -/
def requestErrsSpec : ChangeSpec := { name := "requestErrs", fn := fun _ => fun
  | [d1, d2, d3] => { results := [.lit (.bool true)], args := [d1, d2, d3] }
  | _ => none }
def requestErrsRow : OpenClaim := { program := "ytnkkbinbeildmaa", sum := "0a2b1e31af79cdbd6b461937a37316cafe5072ddfcb7365d22d9bdf627f65846", func := "lockbox/lockboxlaw21.RequestErrs", spec := "requestErrs", inPlace := ["internal/reflectlite.TypeOf"], unfollowed := true, recurses := true, apart := false }
def RequestErrsSaid : Prop := requestErrsRow.holds Try.pinned (OpenSpec.ofChange requestErrsSpec)

/-- ITS FALSE NEIGHBOUR: 'it returns false'. Refute it at one input. -/
def requestErrsWrong : ChangeSpec := { name := "requestErrs", fn := fun _ => fun
  | [d1, d2, d3] => { results := [.lit (.bool false)], args := [d1, d2, d3] }
  | _ => none }
def RequestErrsWrongFalsely : Prop := requestErrsRow.holds Try.pinned (OpenSpec.ofChange requestErrsWrong)

/-- 'lockboxlaw21.RequestFull': WHATEVER THE INPUT: true; the input reads as it did. -/
def requestFullSpec : ChangeSpec := { name := "requestFull", fn := fun _ => fun
  | [d] => { results := [.lit (.bool true)], args := [d] }
  | _ => none }
def requestFullRow : OpenClaim := { program := "ytnkkbinbeildmaa", sum := "0a2b1e31af79cdbd6b461937a37316cafe5072ddfcb7365d22d9bdf627f65846", func := "lockbox/lockboxlaw21.RequestFull", spec := "requestFull", inPlace := ["internal/reflectlite.TypeOf"], unfollowed := true, recurses := true, apart := false }
def RequestFullSaid : Prop := requestFullRow.holds Try.pinned (OpenSpec.ofChange requestFullSpec)

/-- ITS FALSE NEIGHBOUR: 'it returns false'. Refute it at one input. -/
def requestFullWrong : ChangeSpec := { name := "requestFull", fn := fun _ => fun
  | [d] => { results := [.lit (.bool false)], args := [d] }
  | _ => none }
def RequestFullWrongFalsely : Prop := requestFullRow.holds Try.pinned (OpenSpec.ofChange requestFullWrong)

/- THE SECOND FORM. 'bulk': how many values and letters a reading holds, each counted each time it is reached (what is shared counts as often as it is met; a slice's spare places count too). A statement '..UptoSaid' is the law's where the arguments, and the package variables that the reading takes, are together of bulk at most 1048576: NARROWER than '..Said'. Prove '..Said' where nothing that the law and all that it calls make is longer than what came in: it says more and counts as full. Else prove '..UptoSaid'. A law counts once. -/
mutual
def uptoBulk {H : Type} : DataW H → Nat
  | .lit (.string bytes) => bytes.length + 1
  | .lit _ => 1
  | .nil => 1
  | .ptr d => uptoBulk d + 1
  | .slice elems spare => uptoBulkAll elems + uptoBulkAll spare + 1
  | .agg parts => uptoBulkAll parts + 1
  | .iface _ d => uptoBulk d + 1
  | .map entries => uptoBulkEntries entries + 1
  | .held _ => 1
def uptoBulkAll {H : Type} : List (DataW H) → Nat
  | [] => 0
  | d :: r => uptoBulk d + uptoBulkAll r
def uptoBulkEntries {H : Type} : List (Lit × DataW H) → Nat
  | [] => 0
  | x :: r => uptoBulkEntry x + uptoBulkEntries r
def uptoBulkEntry {H : Type} : Lit × DataW H → Nat
  | (.string bytes, d) => bytes.length + uptoBulk d + 1
  | (_, d) => uptoBulk d + 1
 end
def uptoSmall : (H : Type) → List (DataW H) → Bool := fun _ ds => decide (uptoBulkAll ds ≤ 1048576)
def OpenSpec.upto (s : _root_.Go.ChangeSpec) : _root_.Go.OpenSpec := { _root_.Go.OpenSpec.ofChange s with cond := some uptoSmall }

/-- 'lockboxlaw20.PolicyDecides', WHERE WHAT IT READS IS OF BULK AT MOST 1048576: true; the input reads as it did. -/
def policyDecidesUptoRow : OpenClaim := { program := "ytnkkbinbeildmaa", sum := "0a2b1e31af79cdbd6b461937a37316cafe5072ddfcb7365d22d9bdf627f65846", func := "lockbox/lockboxlaw20.PolicyDecides", spec := "policyDecides", inPlace := ["internal/reflectlite.TypeOf", "slices.overlaps[string]"], unfollowed := true, recurses := true, apart := false, narrowed := true }
def PolicyDecidesUptoSaid : Prop := policyDecidesUptoRow.holds Try.pinned (OpenSpec.upto policyDecidesSpec)

/-- 'lockboxlaw20.PolicyFits', WHERE WHAT IT READS IS OF BULK AT MOST 1048576: true; the input reads as it did. -/
def policyFitsUptoRow : OpenClaim := { program := "ytnkkbinbeildmaa", sum := "0a2b1e31af79cdbd6b461937a37316cafe5072ddfcb7365d22d9bdf627f65846", func := "lockbox/lockboxlaw20.PolicyFits", spec := "policyFits", inPlace := ["internal/reflectlite.TypeOf", "slices.overlaps[string]"], unfollowed := true, recurses := true, apart := false, narrowed := true }
def PolicyFitsUptoSaid : Prop := policyFitsUptoRow.holds Try.pinned (OpenSpec.upto policyFitsSpec)

/-- 'lockboxlaw20.PolicyFirst', WHERE WHAT IT READS IS OF BULK AT MOST 1048576: true; the input reads as it did. -/
def policyFirstUptoRow : OpenClaim := { program := "ytnkkbinbeildmaa", sum := "0a2b1e31af79cdbd6b461937a37316cafe5072ddfcb7365d22d9bdf627f65846", func := "lockbox/lockboxlaw20.PolicyFirst", spec := "policyFirst", inPlace := ["internal/reflectlite.TypeOf", "slices.overlaps[string]"], unfollowed := true, recurses := true, apart := false, narrowed := true }
def PolicyFirstUptoSaid : Prop := policyFirstUptoRow.holds Try.pinned (OpenSpec.upto policyFirstSpec)

/-- 'lockboxlaw21.RequestPlays', WHERE WHAT IT READS IS OF BULK AT MOST 1048576: true; the input reads as it did. -/
def requestPlaysUptoRow : OpenClaim := { program := "ytnkkbinbeildmaa", sum := "0a2b1e31af79cdbd6b461937a37316cafe5072ddfcb7365d22d9bdf627f65846", func := "lockbox/lockboxlaw21.RequestPlays", spec := "requestPlays", inPlace := ["internal/reflectlite.TypeOf"], unfollowed := true, recurses := true, apart := false, narrowed := true }
def RequestPlaysUptoSaid : Prop := requestPlaysUptoRow.holds Try.pinned (OpenSpec.upto requestPlaysSpec)

/-- 'lockboxlaw21.RequestEnds', WHERE WHAT IT READS IS OF BULK AT MOST 1048576: true; the input reads as it did. -/
def requestEndsUptoRow : OpenClaim := { program := "ytnkkbinbeildmaa", sum := "0a2b1e31af79cdbd6b461937a37316cafe5072ddfcb7365d22d9bdf627f65846", func := "lockbox/lockboxlaw21.RequestEnds", spec := "requestEnds", inPlace := ["internal/reflectlite.TypeOf"], unfollowed := true, recurses := true, apart := false, narrowed := true }
def RequestEndsUptoSaid : Prop := requestEndsUptoRow.holds Try.pinned (OpenSpec.upto requestEndsSpec)

/-- 'lockboxlaw21.RequestErrs', WHERE WHAT IT READS IS OF BULK AT MOST 1048576: true; the input reads as it did. -/
def requestErrsUptoRow : OpenClaim := { program := "ytnkkbinbeildmaa", sum := "0a2b1e31af79cdbd6b461937a37316cafe5072ddfcb7365d22d9bdf627f65846", func := "lockbox/lockboxlaw21.RequestErrs", spec := "requestErrs", inPlace := ["internal/reflectlite.TypeOf"], unfollowed := true, recurses := true, apart := false, narrowed := true }
def RequestErrsUptoSaid : Prop := requestErrsUptoRow.holds Try.pinned (OpenSpec.upto requestErrsSpec)

/-- 'lockboxlaw21.RequestFull', WHERE WHAT IT READS IS OF BULK AT MOST 1048576: true; the input reads as it did. -/
def requestFullUptoRow : OpenClaim := { program := "ytnkkbinbeildmaa", sum := "0a2b1e31af79cdbd6b461937a37316cafe5072ddfcb7365d22d9bdf627f65846", func := "lockbox/lockboxlaw21.RequestFull", spec := "requestFull", inPlace := ["internal/reflectlite.TypeOf"], unfollowed := true, recurses := true, apart := false, narrowed := true }
def RequestFullUptoSaid : Prop := requestFullUptoRow.holds Try.pinned (OpenSpec.upto requestFullSpec)

end Rows
end Go.Proofs.Ytnkkbinbeildmaa
