/-
  No cell of these rows narrows 'for every input' (looked for: loops, veiled, ifaces, maps, wideKeys, modest, calm, conditions, laid).
  DERIVED. THE GIVEN ROWS OF THIS SEAT. 4 by the template 'for every input the law returns true; each argument reads behind the call as it read before'; 0 by the template 'total and deterministic' (their statements: YtdmbombjkinboaaGreatTotals.lean).
  GIVEN WITH THE SEED: the statements are not yours to turn. If you find one false, say at which input.
  Laid BY PROGRAM, IN A SANDBOX (cutbox-rows.mjs): the forced cells as the released guide's own fill.sh prints them over the translation 2b20be3858ab16a0… (all of the seat's roots in one cut). By AI agents, Wed Nov 11 2026. No macro, syntax, notation, axiom, sorry.
-/
import Derived.Test.YtdmbombjkinboaaGreatChecked
import GoSem.Claim
import GoSem.ClaimJoined
import GoSem.ClaimMapViews
import Derived.JoinedTies
import Derived.KernelRfl
namespace Go.Proofs.YtdmbombjkinboaaGreat
/- THE CELL 'sum', in the pinned program and in every row, IS THE sha256 OF THE DUMP (.gsa) THAT YtdmbombjkinboaaGreatProg.lean LOADS. Nothing in Lean hashes anything: it is a label: what it is worth is what the hold of that sum in a sandbox is worth. -/
noncomputable def Tryz.pinned : Pinned := { name := "ytdmbombjkinboaagreat", sum := "2b20be3858ab16a049dabd8274473eba14e6adafc0136c194f38199ea2a05d21", checked := Tryz.checked }
namespace Rows
def none {H : Type} : Left H := { results := [], args := [] }

/-- 'lockboxlaw12.SegsStay': WHATEVER THE INPUT: true; the input reads as it did. -/
def segsStaySpec : ChangeSpec := { name := "segsStay", fn := fun _ => fun
  | [d1, d2, d3] => { results := [.lit (.bool true)], args := [d1, d2, d3] }
  | _ => none }
def segsStayRow : OpenClaim := { program := "ytdmbombjkinboaagreat", sum := "2b20be3858ab16a049dabd8274473eba14e6adafc0136c194f38199ea2a05d21", func := "lockbox/lockboxlaw12.SegsStay", spec := "segsStay", inPlace := ["internal/abi.NoEscape", "internal/bytealg.MakeNoZero"], unfollowed := true, recurses := true, apart := false }
def SegsStaySaid : Prop := segsStayRow.holds Tryz.pinned (OpenSpec.ofChange segsStaySpec)

/-- ITS FALSE NEIGHBOUR: 'it returns false'. Refute it at one input. -/
def segsStayWrong : ChangeSpec := { name := "segsStay", fn := fun _ => fun
  | [d1, d2, d3] => { results := [.lit (.bool false)], args := [d1, d2, d3] }
  | _ => none }
def SegsStayWrongFalsely : Prop := segsStayRow.holds Tryz.pinned (OpenSpec.ofChange segsStayWrong)

/-- 'lockboxlaw12.SegsHold': WHATEVER THE INPUT: true; the input reads as it did. -/
def segsHoldSpec : ChangeSpec := { name := "segsHold", fn := fun _ => fun
  | [d] => { results := [.lit (.bool true)], args := [d] }
  | _ => none }
def segsHoldRow : OpenClaim := { program := "ytdmbombjkinboaagreat", sum := "2b20be3858ab16a049dabd8274473eba14e6adafc0136c194f38199ea2a05d21", func := "lockbox/lockboxlaw12.SegsHold", spec := "segsHold", inPlace := ["internal/abi.NoEscape", "internal/bytealg.MakeNoZero"], unfollowed := true, recurses := true, apart := false }
def SegsHoldSaid : Prop := segsHoldRow.holds Tryz.pinned (OpenSpec.ofChange segsHoldSpec)

/-- ITS FALSE NEIGHBOUR: 'it returns false'. Refute it at one input. -/
def segsHoldWrong : ChangeSpec := { name := "segsHold", fn := fun _ => fun
  | [d] => { results := [.lit (.bool false)], args := [d] }
  | _ => none }
def SegsHoldWrongFalsely : Prop := segsHoldRow.holds Tryz.pinned (OpenSpec.ofChange segsHoldWrong)

/-- 'lockboxlaw12.SegsFull': WHATEVER THE INPUT: true; the input reads as it did. -/
def segsFullSpec : ChangeSpec := { name := "segsFull", fn := fun _ => fun
  | [d1, d2] => { results := [.lit (.bool true)], args := [d1, d2] }
  | _ => none }
def segsFullRow : OpenClaim := { program := "ytdmbombjkinboaagreat", sum := "2b20be3858ab16a049dabd8274473eba14e6adafc0136c194f38199ea2a05d21", func := "lockbox/lockboxlaw12.SegsFull", spec := "segsFull", inPlace := ["internal/abi.NoEscape", "internal/bytealg.MakeNoZero"], unfollowed := true, recurses := true, apart := false }
def SegsFullSaid : Prop := segsFullRow.holds Tryz.pinned (OpenSpec.ofChange segsFullSpec)

/-- ITS FALSE NEIGHBOUR: 'it returns false'. Refute it at one input. -/
def segsFullWrong : ChangeSpec := { name := "segsFull", fn := fun _ => fun
  | [d1, d2] => { results := [.lit (.bool false)], args := [d1, d2] }
  | _ => none }
def SegsFullWrongFalsely : Prop := segsFullRow.holds Tryz.pinned (OpenSpec.ofChange segsFullWrong)

/-- 'lockboxlaw12.SegsNil': WHATEVER THE INPUT: true; the input reads as it did. -/
def segsNilSpec : ChangeSpec := { name := "segsNil", fn := fun _ => fun
  | [d1, d2] => { results := [.lit (.bool true)], args := [d1, d2] }
  | _ => none }
def segsNilRow : OpenClaim := { program := "ytdmbombjkinboaagreat", sum := "2b20be3858ab16a049dabd8274473eba14e6adafc0136c194f38199ea2a05d21", func := "lockbox/lockboxlaw12.SegsNil", spec := "segsNil", inPlace := ["internal/abi.NoEscape", "internal/bytealg.MakeNoZero"], unfollowed := true, recurses := true, apart := false }
def SegsNilSaid : Prop := segsNilRow.holds Tryz.pinned (OpenSpec.ofChange segsNilSpec)

/-- ITS FALSE NEIGHBOUR: 'it returns false'. Refute it at one input. -/
def segsNilWrong : ChangeSpec := { name := "segsNil", fn := fun _ => fun
  | [d1, d2] => { results := [.lit (.bool false)], args := [d1, d2] }
  | _ => none }
def SegsNilWrongFalsely : Prop := segsNilRow.holds Tryz.pinned (OpenSpec.ofChange segsNilWrong)

/- THE SECOND FORM. 'bulk': how many values and letters a reading holds, each counted each time it is reached (what is shared counts as often as it is met; a slice's spare places count too). A statement '..UptoSaid' is the law's where the arguments, and the package variables that the reading takes, are together of bulk at most 1048576: NARROWER than '..Said'. Prove '..Said' where nothing that the law and all that it calls make is longer than what came in: it says more and counts as full. Else prove '..UptoSaid'. A law counts once. -/
mutual
def uptoBulk {H : Type} : DataW H → Nat
  | .lit (.string bytes) => bytes.length + 1
  | .lit _ => 1
  | .nil => 1
  | .ptr d => uptoBulk d + 1
  | .slice elems spare => uptoBulkAll elems + uptoBulkAll spare + 1
  | .agg parts => uptoBulkAll parts + 1
  | .iface _ d => uptoBulk d + 1
  | .map entries => uptoBulkEntries entries + 1
  | .held _ => 1
def uptoBulkAll {H : Type} : List (DataW H) → Nat
  | [] => 0
  | d :: r => uptoBulk d + uptoBulkAll r
def uptoBulkEntries {H : Type} : List (Lit × DataW H) → Nat
  | [] => 0
  | x :: r => uptoBulkEntry x + uptoBulkEntries r
def uptoBulkEntry {H : Type} : Lit × DataW H → Nat
  | (.string bytes, d) => bytes.length + uptoBulk d + 1
  | (_, d) => uptoBulk d + 1
 end
def uptoSmall : (H : Type) → List (DataW H) → Bool := fun _ ds => decide (uptoBulkAll ds ≤ 1048576)
def OpenSpec.upto (s : _root_.Go.ChangeSpec) : _root_.Go.OpenSpec := { _root_.Go.OpenSpec.ofChange s with cond := some uptoSmall }

/-- 'lockboxlaw12.SegsStay', WHERE WHAT IT READS IS OF BULK AT MOST 1048576: true; the input reads as it did. -/
def segsStayUptoRow : OpenClaim := { program := "ytdmbombjkinboaagreat", sum := "2b20be3858ab16a049dabd8274473eba14e6adafc0136c194f38199ea2a05d21", func := "lockbox/lockboxlaw12.SegsStay", spec := "segsStay", inPlace := ["internal/abi.NoEscape", "internal/bytealg.MakeNoZero"], unfollowed := true, recurses := true, apart := false, narrowed := true }
def SegsStayUptoSaid : Prop := segsStayUptoRow.holds Tryz.pinned (OpenSpec.upto segsStaySpec)

/-- 'lockboxlaw12.SegsHold', WHERE WHAT IT READS IS OF BULK AT MOST 1048576: true; the input reads as it did. -/
def segsHoldUptoRow : OpenClaim := { program := "ytdmbombjkinboaagreat", sum := "2b20be3858ab16a049dabd8274473eba14e6adafc0136c194f38199ea2a05d21", func := "lockbox/lockboxlaw12.SegsHold", spec := "segsHold", inPlace := ["internal/abi.NoEscape", "internal/bytealg.MakeNoZero"], unfollowed := true, recurses := true, apart := false, narrowed := true }
def SegsHoldUptoSaid : Prop := segsHoldUptoRow.holds Tryz.pinned (OpenSpec.upto segsHoldSpec)

/-- 'lockboxlaw12.SegsFull', WHERE WHAT IT READS IS OF BULK AT MOST 1048576: true; the input reads as it did. -/
def segsFullUptoRow : OpenClaim := { program := "ytdmbombjkinboaagreat", sum := "2b20be3858ab16a049dabd8274473eba14e6adafc0136c194f38199ea2a05d21", func := "lockbox/lockboxlaw12.SegsFull", spec := "segsFull", inPlace := ["internal/abi.NoEscape", "internal/bytealg.MakeNoZero"], unfollowed := true, recurses := true, apart := false, narrowed := true }
def SegsFullUptoSaid : Prop := segsFullUptoRow.holds Tryz.pinned (OpenSpec.upto segsFullSpec)

/-- 'lockboxlaw12.SegsNil', WHERE WHAT IT READS IS OF BULK AT MOST 1048576: true; the input reads as it did. -/
def segsNilUptoRow : OpenClaim := { program := "ytdmbombjkinboaagreat", sum := "2b20be3858ab16a049dabd8274473eba14e6adafc0136c194f38199ea2a05d21", func := "lockbox/lockboxlaw12.SegsNil", spec := "segsNil", inPlace := ["internal/abi.NoEscape", "internal/bytealg.MakeNoZero"], unfollowed := true, recurses := true, apart := false, narrowed := true }
def SegsNilUptoSaid : Prop := segsNilUptoRow.holds Tryz.pinned (OpenSpec.upto segsNilSpec)

end Rows
end Go.Proofs.YtdmbombjkinboaaGreat
