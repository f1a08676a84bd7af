/- LfMath, what is wanted of it. -/
import Derived.Test.YtdfkpjmljaanpaaGreatDoorZCnT
import Derived.Test.YtdfkpjmljaanpaaGreatDoorZMW1
namespace Go.Proofs.YtdfkpjmljaanpaaGreatDoor
open Go.RowKit
open Cn
/-- A tag, and which leaf ahead has it. -/
structure Po where
  tag : ByteArray
  prev : Int
/-- A leaf. -/
structure Lf where
  n : Int
  k : Int
  d : ByteArray
  tags : List Po
  x : ByteArray
def Lf.zero : Lf := ⟨0, 0, ⟨#[]⟩, [], ⟨#[]⟩⟩
def poB (n : Int) (p : Po) : Bool := decide (p.tag.size = 32) && decide (0 ≤ p.prev) && decide (p.prev ≤ n)
/-- Does the i-th tag stand right? -/
def tagAt (n : Int) (l : List Po) (i : Nat) : Bool := match l[i]? with
  | none => true
  | some p => poB n p && (match i with
    | 0 => true
    | j + 1 => match l[j]? with
      | none => true
      | some q => Wd.less q.tag p.tag)
def TagsOk (n : Int) (l : List Po) : Prop := ∀ i, i < l.length → tagAt n l i = true
instance (n : Int) (l : List Po) : Decidable (TagsOk n l) := inferInstanceAs (Decidable (∀ i, i < l.length → tagAt n l i = true))
end Go.Proofs.YtdfkpjmljaanpaaGreatDoor
