/-
  NARROWER THAN 'FOR EVERY INPUT', by the rows' own cells (each row's printed sentence says how): ShamirSplits: laid · ShamirCombines: laid · ShamirAny: laid · ShamirSecret: laid · ShamirOdd: laid.
  DERIVED. THE GIVEN ROWS OF THIS SEAT. 5 by the template 'for every input the law returns true; each argument reads behind the call as it read before'; 0 by the template 'total and deterministic' (their statements: YtefpfedpgedloaaDoorTotals.lean).
  GIVEN WITH THE SEED: the statements are not yours to turn. If you find one false, say at which input.
  Laid BY PROGRAM, IN A SANDBOX (cutbox-rows.mjs): the forced cells as the released guide's own fill.sh prints them over the translation bb5a71f4dfa973a5… (all of the seat's roots in one cut). By AI agents, Wed Nov 11 2026. No macro, syntax, notation, axiom, sorry.
-/
import Derived.Test.YtefpfedpgedloaaDoorChecked
import GoSem.PinnedTables
import GoSem.Claim
import GoSem.ClaimJoined
import GoSem.ClaimMapViews
import Derived.JoinedTies
import Derived.KernelRfl
namespace Go.Proofs.YtefpfedpgedloaaDoor
/- THE CELL 'sum', in the pinned program and in every row, IS THE sha256 OF THE DUMP (.gsa) THAT YtefpfedpgedloaaDoorProg.lean LOADS. Nothing in Lean hashes anything: it is a label: what it is worth is what the hold of that sum in a sandbox is worth. -/
noncomputable def Tryd.pinned : Pinned := { name := "ytefpfedpgedloaadoor", sum := "bb5a71f4dfa973a560461b9d62e3fdc4e173fa0948317a8884d3667c82e7699b", checked := Tryd.checked }
namespace Rows
def none {H : Type} : Left H := { results := [], args := [] }

/- WHAT THE LISTED PACKAGE-LEVEL VARIABLES READ AS WHEN THE CALL BEGINS. Each datum BY PROGRAM (the guide's laid-datum.mjs) off the statement by which the dump's own 'gosem.cut.vars' lays the variable. In a bare row this is a premise. The card (YtefpfedpgedloaaDoorCards.lean) ties it to the program's text. -/
def laid_unicode_utf8_acceptRanges {H : Type} : DataW H := .agg [.agg [.lit (.int .u8 128), .lit (.int .u8 191)], .agg [.lit (.int .u8 160), .lit (.int .u8 191)], .agg [.lit (.int .u8 128), .lit (.int .u8 159)], .agg [.lit (.int .u8 144), .lit (.int .u8 191)], .agg [.lit (.int .u8 128), .lit (.int .u8 143)], .agg [.lit (.int .u8 0), .lit (.int .u8 0)], .agg [.lit (.int .u8 0), .lit (.int .u8 0)], .agg [.lit (.int .u8 0), .lit (.int .u8 0)], .agg [.lit (.int .u8 0), .lit (.int .u8 0)], .agg [.lit (.int .u8 0), .lit (.int .u8 0)], .agg [.lit (.int .u8 0), .lit (.int .u8 0)], .agg [.lit (.int .u8 0), .lit (.int .u8 0)], .agg [.lit (.int .u8 0), .lit (.int .u8 0)], .agg [.lit (.int .u8 0), .lit (.int .u8 0)], .agg [.lit (.int .u8 0), .lit (.int .u8 0)], .agg [.lit (.int .u8 0), .lit (.int .u8 0)]]
/-- One of Go's own tables, pinned by name: the form's constant. -/
def laid_unicode_utf8_first : DataW Unit := Go.Pinned.utf8First

/-- 'lockboxlaw09.ShamirSplits': WHATEVER THE INPUT: true; the input reads as it did. -/
def shamirSplitsSpec : ChangeSpec := { name := "shamirSplits", fn := fun _ => fun
  | [d1, d2] => { results := [.lit (.bool true)], args := [d1, d2] }
  | _ => none }
def shamirSplitsRow : OpenClaim := { program := "ytefpfedpgedloaadoor", sum := "bb5a71f4dfa973a560461b9d62e3fdc4e173fa0948317a8884d3667c82e7699b", func := "lockbox/lockboxlaw09.ShamirSplits", spec := "shamirSplits", inPlace := ["internal/reflectlite.ValueOf", "internal/reflectlite.Swapper", "(internal/reflectlite.Value).Len", "internal/bytealg.IndexByteString", "internal/bytealg.IndexString"], unfollowed := true, recurses := true, named := ["unicode/utf8.first", "unicode/utf8.acceptRanges", "internal/bytealg.MaxLen"], apart := false, laid := [("unicode/utf8.acceptRanges", laid_unicode_utf8_acceptRanges), ("unicode/utf8.first", laid_unicode_utf8_first)] }
def ShamirSplitsSaid : Prop := shamirSplitsRow.holds Tryd.pinned (OpenSpec.ofChange shamirSplitsSpec)

/-- ITS FALSE NEIGHBOUR: 'it returns false'. Refute it at one input. -/
def shamirSplitsWrong : ChangeSpec := { name := "shamirSplits", fn := fun _ => fun
  | [d1, d2] => { results := [.lit (.bool false)], args := [d1, d2] }
  | _ => none }
def ShamirSplitsWrongFalsely : Prop := shamirSplitsRow.holds Tryd.pinned (OpenSpec.ofChange shamirSplitsWrong)

/-- 'lockboxlaw09.ShamirCombines': WHATEVER THE INPUT: true; the input reads as it did. -/
def shamirCombinesSpec : ChangeSpec := { name := "shamirCombines", fn := fun _ => fun
  | [d1, d2] => { results := [.lit (.bool true)], args := [d1, d2] }
  | _ => none }
def shamirCombinesRow : OpenClaim := { program := "ytefpfedpgedloaadoor", sum := "bb5a71f4dfa973a560461b9d62e3fdc4e173fa0948317a8884d3667c82e7699b", func := "lockbox/lockboxlaw09.ShamirCombines", spec := "shamirCombines", inPlace := ["internal/reflectlite.ValueOf", "internal/reflectlite.Swapper", "(internal/reflectlite.Value).Len", "internal/bytealg.IndexByteString", "internal/bytealg.IndexString"], unfollowed := true, recurses := true, named := ["unicode/utf8.first", "unicode/utf8.acceptRanges", "internal/bytealg.MaxLen"], apart := false, laid := [("unicode/utf8.acceptRanges", laid_unicode_utf8_acceptRanges), ("unicode/utf8.first", laid_unicode_utf8_first)] }
def ShamirCombinesSaid : Prop := shamirCombinesRow.holds Tryd.pinned (OpenSpec.ofChange shamirCombinesSpec)

/-- ITS FALSE NEIGHBOUR: 'it returns false'. Refute it at one input. -/
def shamirCombinesWrong : ChangeSpec := { name := "shamirCombines", fn := fun _ => fun
  | [d1, d2] => { results := [.lit (.bool false)], args := [d1, d2] }
  | _ => none }
def ShamirCombinesWrongFalsely : Prop := shamirCombinesRow.holds Tryd.pinned (OpenSpec.ofChange shamirCombinesWrong)

/-- 'lockboxlaw09.ShamirAny': WHATEVER THE INPUT: true; the input reads as it did. -/
def shamirAnySpec : ChangeSpec := { name := "shamirAny", fn := fun _ => fun
  | [d1, d2, d3] => { results := [.lit (.bool true)], args := [d1, d2, d3] }
  | _ => none }
def shamirAnyRow : OpenClaim := { program := "ytefpfedpgedloaadoor", sum := "bb5a71f4dfa973a560461b9d62e3fdc4e173fa0948317a8884d3667c82e7699b", func := "lockbox/lockboxlaw09.ShamirAny", spec := "shamirAny", inPlace := ["internal/reflectlite.ValueOf", "internal/reflectlite.Swapper", "(internal/reflectlite.Value).Len", "internal/bytealg.IndexByteString", "internal/bytealg.IndexString"], unfollowed := true, recurses := true, named := ["unicode/utf8.first", "unicode/utf8.acceptRanges", "internal/bytealg.MaxLen"], apart := false, laid := [("unicode/utf8.acceptRanges", laid_unicode_utf8_acceptRanges), ("unicode/utf8.first", laid_unicode_utf8_first)] }
def ShamirAnySaid : Prop := shamirAnyRow.holds Tryd.pinned (OpenSpec.ofChange shamirAnySpec)

/-- ITS FALSE NEIGHBOUR: 'it returns false'. Refute it at one input. -/
def shamirAnyWrong : ChangeSpec := { name := "shamirAny", fn := fun _ => fun
  | [d1, d2, d3] => { results := [.lit (.bool false)], args := [d1, d2, d3] }
  | _ => none }
def ShamirAnyWrongFalsely : Prop := shamirAnyRow.holds Tryd.pinned (OpenSpec.ofChange shamirAnyWrong)

/-- 'lockboxlaw09.ShamirSecret': WHATEVER THE INPUT: true; the input reads as it did. -/
def shamirSecretSpec : ChangeSpec := { name := "shamirSecret", fn := fun _ => fun
  | [d1, d2, d3] => { results := [.lit (.bool true)], args := [d1, d2, d3] }
  | _ => none }
def shamirSecretRow : OpenClaim := { program := "ytefpfedpgedloaadoor", sum := "bb5a71f4dfa973a560461b9d62e3fdc4e173fa0948317a8884d3667c82e7699b", func := "lockbox/lockboxlaw09.ShamirSecret", spec := "shamirSecret", inPlace := ["internal/reflectlite.ValueOf", "internal/reflectlite.Swapper", "(internal/reflectlite.Value).Len", "internal/bytealg.IndexByteString", "internal/bytealg.IndexString"], unfollowed := true, recurses := true, named := ["unicode/utf8.first", "unicode/utf8.acceptRanges", "internal/bytealg.MaxLen"], apart := false, laid := [("unicode/utf8.acceptRanges", laid_unicode_utf8_acceptRanges), ("unicode/utf8.first", laid_unicode_utf8_first)] }
def ShamirSecretSaid : Prop := shamirSecretRow.holds Tryd.pinned (OpenSpec.ofChange shamirSecretSpec)

/-- ITS FALSE NEIGHBOUR: 'it returns false'. Refute it at one input. -/
def shamirSecretWrong : ChangeSpec := { name := "shamirSecret", fn := fun _ => fun
  | [d1, d2, d3] => { results := [.lit (.bool false)], args := [d1, d2, d3] }
  | _ => none }
def ShamirSecretWrongFalsely : Prop := shamirSecretRow.holds Tryd.pinned (OpenSpec.ofChange shamirSecretWrong)

/-- 'lockboxlaw09.ShamirOdd': WHATEVER THE INPUT: true; the input reads as it did. -/
def shamirOddSpec : ChangeSpec := { name := "shamirOdd", fn := fun _ => fun
  | [d1, d2, d3] => { results := [.lit (.bool true)], args := [d1, d2, d3] }
  | _ => none }
def shamirOddRow : OpenClaim := { program := "ytefpfedpgedloaadoor", sum := "bb5a71f4dfa973a560461b9d62e3fdc4e173fa0948317a8884d3667c82e7699b", func := "lockbox/lockboxlaw09.ShamirOdd", spec := "shamirOdd", inPlace := ["internal/reflectlite.ValueOf", "internal/reflectlite.Swapper", "(internal/reflectlite.Value).Len", "internal/bytealg.IndexByteString", "internal/bytealg.IndexString"], unfollowed := true, recurses := true, named := ["unicode/utf8.first", "unicode/utf8.acceptRanges", "internal/bytealg.MaxLen"], apart := false, laid := [("unicode/utf8.acceptRanges", laid_unicode_utf8_acceptRanges), ("unicode/utf8.first", laid_unicode_utf8_first)] }
def ShamirOddSaid : Prop := shamirOddRow.holds Tryd.pinned (OpenSpec.ofChange shamirOddSpec)

/-- ITS FALSE NEIGHBOUR: 'it returns false'. Refute it at one input. -/
def shamirOddWrong : ChangeSpec := { name := "shamirOdd", fn := fun _ => fun
  | [d1, d2, d3] => { results := [.lit (.bool false)], args := [d1, d2, d3] }
  | _ => none }
def ShamirOddWrongFalsely : Prop := shamirOddRow.holds Tryd.pinned (OpenSpec.ofChange shamirOddWrong)

/- THE SECOND FORM. 'bulk': how many values and letters a reading holds, each counted each time it is reached (what is shared counts as often as it is met; a slice's spare places count too). A statement '..UptoSaid' is the law's where the arguments, and the package variables that the reading takes, are together of bulk at most 1048576: NARROWER than '..Said'. Prove '..Said' where nothing that the law and all that it calls make is longer than what came in: it says more and counts as full. Else prove '..UptoSaid'. A law counts once. -/
mutual
def uptoBulk {H : Type} : DataW H → Nat
  | .lit (.string bytes) => bytes.length + 1
  | .lit _ => 1
  | .nil => 1
  | .ptr d => uptoBulk d + 1
  | .slice elems spare => uptoBulkAll elems + uptoBulkAll spare + 1
  | .agg parts => uptoBulkAll parts + 1
  | .iface _ d => uptoBulk d + 1
  | .map entries => uptoBulkEntries entries + 1
  | .held _ => 1
def uptoBulkAll {H : Type} : List (DataW H) → Nat
  | [] => 0
  | d :: r => uptoBulk d + uptoBulkAll r
def uptoBulkEntries {H : Type} : List (Lit × DataW H) → Nat
  | [] => 0
  | x :: r => uptoBulkEntry x + uptoBulkEntries r
def uptoBulkEntry {H : Type} : Lit × DataW H → Nat
  | (.string bytes, d) => bytes.length + uptoBulk d + 1
  | (_, d) => uptoBulk d + 1
 end
def uptoSmall : (H : Type) → List (DataW H) → Bool := fun _ ds => decide (uptoBulkAll ds ≤ 1048576)
def OpenSpec.upto (s : _root_.Go.ChangeSpec) : _root_.Go.OpenSpec := { _root_.Go.OpenSpec.ofChange s with cond := some uptoSmall }

/-- 'lockboxlaw09.ShamirSplits', WHERE WHAT IT READS IS OF BULK AT MOST 1048576: true; the input reads as it did. -/
def shamirSplitsUptoRow : OpenClaim := { program := "ytefpfedpgedloaadoor", sum := "bb5a71f4dfa973a560461b9d62e3fdc4e173fa0948317a8884d3667c82e7699b", func := "lockbox/lockboxlaw09.ShamirSplits", spec := "shamirSplits", inPlace := ["internal/reflectlite.ValueOf", "internal/reflectlite.Swapper", "(internal/reflectlite.Value).Len", "internal/bytealg.IndexByteString", "internal/bytealg.IndexString"], unfollowed := true, recurses := true, named := ["unicode/utf8.first", "unicode/utf8.acceptRanges", "internal/bytealg.MaxLen"], apart := false, laid := [("unicode/utf8.acceptRanges", laid_unicode_utf8_acceptRanges), ("unicode/utf8.first", laid_unicode_utf8_first)], narrowed := true }
def ShamirSplitsUptoSaid : Prop := shamirSplitsUptoRow.holds Tryd.pinned (OpenSpec.upto shamirSplitsSpec)

/-- 'lockboxlaw09.ShamirCombines', WHERE WHAT IT READS IS OF BULK AT MOST 1048576: true; the input reads as it did. -/
def shamirCombinesUptoRow : OpenClaim := { program := "ytefpfedpgedloaadoor", sum := "bb5a71f4dfa973a560461b9d62e3fdc4e173fa0948317a8884d3667c82e7699b", func := "lockbox/lockboxlaw09.ShamirCombines", spec := "shamirCombines", inPlace := ["internal/reflectlite.ValueOf", "internal/reflectlite.Swapper", "(internal/reflectlite.Value).Len", "internal/bytealg.IndexByteString", "internal/bytealg.IndexString"], unfollowed := true, recurses := true, named := ["unicode/utf8.first", "unicode/utf8.acceptRanges", "internal/bytealg.MaxLen"], apart := false, laid := [("unicode/utf8.acceptRanges", laid_unicode_utf8_acceptRanges), ("unicode/utf8.first", laid_unicode_utf8_first)], narrowed := true }
def ShamirCombinesUptoSaid : Prop := shamirCombinesUptoRow.holds Tryd.pinned (OpenSpec.upto shamirCombinesSpec)

/-- 'lockboxlaw09.ShamirAny', WHERE WHAT IT READS IS OF BULK AT MOST 1048576: true; the input reads as it did. -/
def shamirAnyUptoRow : OpenClaim := { program := "ytefpfedpgedloaadoor", sum := "bb5a71f4dfa973a560461b9d62e3fdc4e173fa0948317a8884d3667c82e7699b", func := "lockbox/lockboxlaw09.ShamirAny", spec := "shamirAny", inPlace := ["internal/reflectlite.ValueOf", "internal/reflectlite.Swapper", "(internal/reflectlite.Value).Len", "internal/bytealg.IndexByteString", "internal/bytealg.IndexString"], unfollowed := true, recurses := true, named := ["unicode/utf8.first", "unicode/utf8.acceptRanges", "internal/bytealg.MaxLen"], apart := false, laid := [("unicode/utf8.acceptRanges", laid_unicode_utf8_acceptRanges), ("unicode/utf8.first", laid_unicode_utf8_first)], narrowed := true }
def ShamirAnyUptoSaid : Prop := shamirAnyUptoRow.holds Tryd.pinned (OpenSpec.upto shamirAnySpec)

/-- 'lockboxlaw09.ShamirSecret', WHERE WHAT IT READS IS OF BULK AT MOST 1048576: true; the input reads as it did. -/
def shamirSecretUptoRow : OpenClaim := { program := "ytefpfedpgedloaadoor", sum := "bb5a71f4dfa973a560461b9d62e3fdc4e173fa0948317a8884d3667c82e7699b", func := "lockbox/lockboxlaw09.ShamirSecret", spec := "shamirSecret", inPlace := ["internal/reflectlite.ValueOf", "internal/reflectlite.Swapper", "(internal/reflectlite.Value).Len", "internal/bytealg.IndexByteString", "internal/bytealg.IndexString"], unfollowed := true, recurses := true, named := ["unicode/utf8.first", "unicode/utf8.acceptRanges", "internal/bytealg.MaxLen"], apart := false, laid := [("unicode/utf8.acceptRanges", laid_unicode_utf8_acceptRanges), ("unicode/utf8.first", laid_unicode_utf8_first)], narrowed := true }
def ShamirSecretUptoSaid : Prop := shamirSecretUptoRow.holds Tryd.pinned (OpenSpec.upto shamirSecretSpec)

/-- 'lockboxlaw09.ShamirOdd', WHERE WHAT IT READS IS OF BULK AT MOST 1048576: true; the input reads as it did. -/
def shamirOddUptoRow : OpenClaim := { program := "ytefpfedpgedloaadoor", sum := "bb5a71f4dfa973a560461b9d62e3fdc4e173fa0948317a8884d3667c82e7699b", func := "lockbox/lockboxlaw09.ShamirOdd", spec := "shamirOdd", inPlace := ["internal/reflectlite.ValueOf", "internal/reflectlite.Swapper", "(internal/reflectlite.Value).Len", "internal/bytealg.IndexByteString", "internal/bytealg.IndexString"], unfollowed := true, recurses := true, named := ["unicode/utf8.first", "unicode/utf8.acceptRanges", "internal/bytealg.MaxLen"], apart := false, laid := [("unicode/utf8.acceptRanges", laid_unicode_utf8_acceptRanges), ("unicode/utf8.first", laid_unicode_utf8_first)], narrowed := true }
def ShamirOddUptoSaid : Prop := shamirOddUptoRow.holds Tryd.pinned (OpenSpec.upto shamirOddSpec)

end Rows
end Go.Proofs.YtefpfedpgedloaaDoor
