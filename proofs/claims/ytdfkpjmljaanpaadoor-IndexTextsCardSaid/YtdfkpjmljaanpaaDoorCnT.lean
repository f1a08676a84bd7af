/- Items made of numbers, texts and lists: which may be, how long they are. -/
import Derived.Test.YtdfkpjmljaanpaaDoorCTxt
namespace Go.Proofs.YtdfkpjmljaanpaaDoor
open Go.RowKit
open Cn

def numT (n : Int) : Pt := .mk 1 n ⟨#[]⟩ []
def txtT (s : ByteArray) : Pt := .mk 2 0 s []
def lstT (l : List Pt) : Pt := .mk 3 0 ⟨#[]⟩ l
theorem may_num {n : Int} {d : Nat} (h : 0 ≤ n) (h2 : n ≤ 72057594037927935) : may (numT n) d = true := by
  have hz : (ByteArray.mk #[]).size = 0 := rfl
  unfold numT; simp [may, hz, h, h2]
theorem may_txt {s : ByteArray} {d : Nat} (h : s.size ≤ 65536) : may (txtT s) d = true := by unfold txtT; simp [may, h]
theorem may_lst {l : List Pt} {d : Nat} (h : l.length ≤ 1024) (h2 : mayAll l d = true) : may (lstT l) (d + 1) = true := by
  have hz : (ByteArray.mk #[]).size = 0 := rfl
  unfold lstT; simp [may, hz, h, h2]
theorem num_few' {n : Nat} {k : Nat} (h : n < 256 ^ k) (hk : k ≤ 8) : (num n).length ≤ k + 1 := by
  rw [num_length]
  have := width_le h hk
  omega
theorem bytes_numT (n : Int) : Cn.bytes (numT n) = num n.toNat := bytes_num n
theorem bytes_txtT (s : ByteArray) : Cn.bytes (txtT s) = 8 :: (num s.size ++ s.data.toList) := bytes_text s
theorem bytes_lstT (l : List Pt) : Cn.bytes (lstT l) = 9 :: (num l.length ++ bytesAll l) := bytes_list l
/-- Which items are numbers, texts, lists. -/
theorem is_num {x : Pt} {d : Nat} (hm : may x d = true) (k : Int) (n : Int) (s : ByteArray) (l : List Pt) (e : x = .mk k n s l) (hk : k = 1) : x = numT n ∧ 0 ≤ n ∧ n ≤ 72057594037927935 := by
  rcases may_cases hm with ⟨m, rfl, h1, h2⟩ | ⟨t, rfl, -⟩ | ⟨t, rfl, -, -, -⟩
  · injection e with _ e2 _ _
    subst e2
    exact ⟨rfl, h1, h2⟩
  · injection e with e1 _ _ _; omega
  · injection e with e1 _ _ _; omega
end Go.Proofs.YtdfkpjmljaanpaaDoor
