/- ItF, what is wanted of it. -/
import Derived.Test.YtdfkpjmljaanpaaGreatDoorZMC2
import Derived.Test.YtdfkpjmljaanpaaGreatDoorZCnT
namespace Go.Proofs.YtdfkpjmljaanpaaGreatDoor
open Go.RowKit
open Cn
namespace Fl
def N (n : Int) : It := .mk 1 n ⟨#[]⟩ none 0 []
def T (s : ByteArray) : It := .mk 2 0 s none 0 []
/-- The cells of an item. -/
def C (x : It) : List Value := [.int .i64 x.k, .int .i64 x.n, .string x.s, .slice none 0 0]
def Is (x : It) : Prop := x = .mk x.k x.n x.s none 0 []
theorem inN {w : World} {S : Nat → Prop} (n : Int) : It.In w S (N n) := ⟨Nat.zero_le _, ⟨Nat.zero_le _, fun h => absurd rfl h⟩, trivial⟩
theorem inT {w : World} {S : Nat → Prop} {s : ByteArray} (h : s.size ≤ maxLen) : It.In w S (T s) := ⟨h, ⟨Nat.zero_le _, fun h => absurd rfl h⟩, trivial⟩
theorem cells_at : ∀ (ls : List It) (j : Nat) (x : It) (r : Nat), ls[j]? = some x → r < 4 → (ls.flatMap C)[j * 4 + r]? = (C x)[r]?
  | [], _, _, _, h, _ => by simp at h
  | y :: ls, 0, x, r, h, hr => by
    injection h with h
    subst h
    rw [List.flatMap_cons, Nat.zero_mul, Nat.zero_add, List.getElem?_append_left (by simpa [C] using hr)]
  | y :: ls, j + 1, x, r, h, hr => by
    have hl : (C y).length = 4 := rfl
    rw [List.flatMap_cons, List.getElem?_append_right (by omega), ← cells_at ls j x r (by simpa using h) hr, hl]
    congr 1; omega
theorem lies {w : World} {b : Nat} {t : TypeId} {S : Nat → Prop} (ls : List It) (h : w.heap[b]? = some (.cells (ls.flatMap C).toArray t (0, 0))) (hS : S b) (hf : ∀ x ∈ ls, Is x) (hm : ls.length ≤ 1000000) : Lies w S (some ⟨b, 0, none⟩) ls := by
  refine ⟨by unfold maxLen; omega, fun _ => ⟨b, 0, rfl, (Array.getElem?_eq_some_iff.1 h).1, hS, fun j x hx => ?_⟩⟩
  have hc : ∀ i, w.cell? ⟨b, i, none⟩ = (ls.flatMap C).toArray[i]? := Lib.cell_of_heap h
  have hx2 := hf x (List.mem_of_getElem? hx)
  unfold Is at hx2
  have g := fun r hr => (hc (j * 4 + r)).trans ((List.getElem?_toArray ..).trans (cells_at ls j x r hx hr))
  have g0 := g 0 (by decide)
  have g1 := g 1 (by decide)
  have g2 := g 2 (by decide)
  have g3 := g 3 (by decide)
  rw [Nat.zero_add]
  refine ⟨g0, g1, g2, ?_⟩
  rw [g3, hx2]; rfl
end Fl
end Go.Proofs.YtdfkpjmljaanpaaGreatDoor
