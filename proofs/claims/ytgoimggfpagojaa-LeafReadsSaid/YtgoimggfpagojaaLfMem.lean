/- Leaves and their tags in memory. -/
import Derived.Test.YtgoimggfpagojaaLfMath
import Derived.Test.YtgoimggfpagojaaMB
namespace Go.Proofs.Ytgoimggfpagojaa
open Go.RowKit

/-- The tags of a slice: where they lie. -/
def PoAt (w : World) (a0 : Option Addr) (l : List Po) : Prop :=
  ∀ j p, l[j]? = some p → ∃ b off, a0 = some ⟨b, off, none⟩ ∧ b < w.heap.size ∧ w.cell? ⟨b, off + j * 2, none⟩ = some (.string p.tag) ∧ w.cell? ⟨b, off + j * 2 + 1, none⟩ = some (.int .i64 p.prev)
theorem PoAt.below {w w' : World} {a0 : Option Addr} {l : List Po} (h : PoAt w a0 l) (hb : Below w.heap.size w w') : PoAt w' a0 l := fun j p hj => by
  obtain ⟨b, off, rfl, hbl, h1, h2⟩ := h j p hj
  exact ⟨b, off, rfl, Nat.lt_of_lt_of_le hbl hb.size, by rw [hb.cell (p := ⟨b, _, none⟩) hbl]; exact h1, by rw [hb.cell (p := ⟨b, _, none⟩) hbl]; exact h2⟩
theorem PoAt.nil (w : World) (a0 : Option Addr) : PoAt w a0 [] := fun j p hj => by simp at hj
theorem PoAt.cells {w : World} {b off : Nat} {l : List Po} (h : PoAt w (some ⟨b, off, none⟩) l) {j : Nat} {p : Po} (hj : l[j]? = some p) : w.cell? ⟨b, off + j * 2, none⟩ = some (.string p.tag) ∧ w.cell? ⟨b, off + j * 2 + 1, none⟩ = some (.int .i64 p.prev) := by
  obtain ⟨b', off', e, -, h1, h2⟩ := h j p hj
  injection e with e
  injection e with e1 e2
  subst e1 e2
  exact ⟨h1, h2⟩
/-- A leaf's cells. -/
def lfCs (l : Lf) (a : Option Addr) (cap : Nat) : Array Value := #[.int .i64 l.n, .int .i64 l.k, .string l.d, .slice a l.tags.length cap, .string l.x]
theorem lf_cell {W : World} {g : Nat} {l : Lf} {a : Option Addr} {cap : Nat} {t : TypeId} (e : W.heap[g]? = some (.cells (lfCs l a cap) t (0, 0))) :
    W.cell? ⟨g, 0, none⟩ = some (.int .i64 l.n) ∧ W.cell? ⟨g, 1, none⟩ = some (.int .i64 l.k) ∧ W.cell? ⟨g, 2, none⟩ = some (.string l.d) ∧ W.cell? ⟨g, 3, none⟩ = some (.slice a l.tags.length cap) ∧ W.cell? ⟨g, 4, none⟩ = some (.string l.x) := by
  refine ⟨?_, ?_, ?_, ?_, ?_⟩ <;> (rw [cell_of_row _ _ _ _ _ _ e]; rfl)
theorem findP_drop {l : List Po} {k : Nat} {p : Po} (h : l[k]? = some p) (t : ByteArray) : findP (l.drop k) t = if p.tag = t then (p.prev, true) else findP (l.drop (k + 1)) t := by
  have hk : k < l.length := (List.getElem?_eq_some_iff.1 h).1
  have hp : l[k] = p := (List.getElem?_eq_some_iff.1 h).2
  rw [List.drop_eq_getElem_cons hk, findP, hp]
theorem text_ne {x s : ByteArray} (h : x ≠ s) : (x.toList == s.toList) = false := by
  cases e : x.toList == s.toList with
  | false => rfl
  | true => exact absurd (Wd.toList_eq (by simpa using e)) h
end Go.Proofs.Ytgoimggfpagojaa
