/- IxShown, what is wanted of it. -/
import Derived.Test.YtdfkpjmljaanpaaGreatDoorZMX1
import Derived.Test.YtdfkpjmljaanpaaGreatDoorZMB
namespace Go.Proofs.YtdfkpjmljaanpaaGreatDoor
open Go.RowKit
open Cn
/-- The rows of a proof: where they lie, and their ways. -/
def ShAt (w : World) (a0 : Option Addr) (l : List Ix.Sh) : Prop :=
  ∀ j s, l[j]? = some s → ∃ b off wa wc, a0 = some ⟨b, off, none⟩ ∧ b < w.heap.size ∧ w.cell? ⟨b, off + j * 5, none⟩ = some (.int .i64 s.pl) ∧ w.cell? ⟨b, off + j * 5 + 1, none⟩ = some (.string s.row.tag) ∧ w.cell? ⟨b, off + j * 5 + 2, none⟩ = some (.int .i64 s.row.cnt) ∧
    w.cell? ⟨b, off + j * 5 + 3, none⟩ = some (.int .i64 s.row.last) ∧ w.cell? ⟨b, off + j * 5 + 4, none⟩ = some (.slice wa s.way.length wc) ∧ s.way.length ≤ wc ∧ wc ≤ maxLen ∧ TextsAt w wa s.way
theorem ShAt.below {w w' : World} {a0 : Option Addr} {l : List Ix.Sh} (h : ShAt w a0 l) (hb : Below w.heap.size w w') : ShAt w' a0 l := fun j s hj => by
  obtain ⟨b, off, wa, wc, rfl, hbl, h1, h2, h3, h4, h5, h6, h7, h8⟩ := h j s hj
  exact ⟨b, off, wa, wc, rfl, Nat.lt_of_lt_of_le hbl hb.size, by rw [hb.cell (p := ⟨b, _, none⟩) hbl]; exact h1, by rw [hb.cell (p := ⟨b, _, none⟩) hbl]; exact h2, by rw [hb.cell (p := ⟨b, _, none⟩) hbl]; exact h3, by rw [hb.cell (p := ⟨b, _, none⟩) hbl]; exact h4, by rw [hb.cell (p := ⟨b, _, none⟩) hbl]; exact h5, h6, h7, h8.below hb⟩
theorem ShAt.nil (w : World) (a0 : Option Addr) : ShAt w a0 [] := fun j s hj => by simp at hj
end Go.Proofs.YtdfkpjmljaanpaaGreatDoor
