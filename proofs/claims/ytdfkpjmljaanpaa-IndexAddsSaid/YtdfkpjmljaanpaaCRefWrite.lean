/- The reference's Write. -/
import Derived.Test.YtdfkpjmljaanpaaCRefNum
import Derived.Test.YtdfkpjmljaanpaaMC6
import Derived.Deep.RegionWith
import Derived.Deep.QuietTactic
import Derived.BigQuiet
import Derived.Outline
namespace Go.Proofs.Ytdfkpjmljaanpaa
open Go.RowKit
open Cn

theorem take_next {l : List It} {i : Nat} {x : It} (hx : l[i]? = some x) : bytesAll (It.pureAll (l.take (i + 1))) = bytesAll (It.pureAll (l.take i)) ++ Cn.bytes x.pure := by
  rw [List.take_add_one, hx, It.pureAll_eq, Option.toList_some, List.map_append, bytesAll_append, ← It.pureAll_eq]; simp [bytesAll]
theorem take_len (l : List It) (i : Nat) : (bytesAll (It.pureAll (l.take i))).length ≤ (bytesAll (It.pureAll l)).length := by
  have h : bytesAll (It.pureAll l) = bytesAll (It.pureAll (l.take i)) ++ bytesAll (It.pureAll (l.drop i)) := by
    rw [It.pureAll_eq, It.pureAll_eq, It.pureAll_eq, ← bytesAll_append, ← List.map_append, List.take_append_drop]
  rw [h, List.length_append]; omega
theorem ret_str {s : ByteArray} {l : List UInt8} (h : s.data.toList = l) : Ending.returned (.string s) = .returned (.string ⟨l.toArray⟩) := by
  rw [show s = ⟨l.toArray⟩ from Go.WideShapes.bytes_inj (by simpa using h)]
end Go.Proofs.Ytdfkpjmljaanpaa
