/- CnT, what is wanted of it. -/
import Derived.Test.YtdfkpjmljaanpaaGreatDoorZMC1
import Derived.Test.YtdfkpjmljaanpaaGreatDoorZMC4
import Derived.Deep.RegionWith
import Derived.Deep.DeepCutAuto
namespace Go.Proofs.YtdfkpjmljaanpaaGreatDoor
open Go.RowKit
open Cn
def numT (n : Int) : Pt := .mk 1 n ⟨#[]⟩ []
def txtT (s : ByteArray) : Pt := .mk 2 0 s []
def lstT (l : List Pt) : Pt := .mk 3 0 ⟨#[]⟩ l
theorem may_num {n : Int} {d : Nat} (h : 0 ≤ n) (h2 : n ≤ 72057594037927935) : may (numT n) d = true := by
  have hz : (ByteArray.mk #[]).size = 0 := rfl
  unfold numT; simp [may, hz, h, h2]
theorem may_txt {s : ByteArray} {d : Nat} (h : s.size ≤ 65536) : may (txtT s) d = true := by unfold txtT; simp [may, h]
theorem may_lst {l : List Pt} {d : Nat} (h : l.length ≤ 1024) (h2 : mayAll l d = true) : may (lstT l) (d + 1) = true := by
  have hz : (ByteArray.mk #[]).size = 0 := rfl
  unfold lstT; simp [may, hz, h, h2]
theorem num_few' {n : Nat} {k : Nat} (h : n < 256 ^ k) (hk : k ≤ 8) : (num n).length ≤ k + 1 := by
  rw [num_length]
  have := width_le h hk
  omega
theorem bytes_numT (n : Int) : Cn.bytes (numT n) = num n.toNat := bytes_num n
theorem bytes_txtT (s : ByteArray) : Cn.bytes (txtT s) = 8 :: (num s.size ++ s.data.toList) := bytes_text s
theorem bytes_lstT (l : List Pt) : Cn.bytes (lstT l) = 9 :: (num l.length ++ bytesAll l) := bytes_list l
end Go.Proofs.YtdfkpjmljaanpaaGreatDoor
