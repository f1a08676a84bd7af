/- Merged by program: tree.leafText, nodeText, Leaf, Node, half; the reference's Leaf, Node, split. | The reference of tree: Digests. | lockboxref13.split; tree.Root and the reference's Root. -/
import Derived.Test.YtdfkpjmljaanpaaMT1
import Derived.Test.YtdfkpjmljaanpaaBitsLen
import Derived.Test.YtdfkpjmljaanpaaMH3
import Derived.Lib.BitFns
import Derived.IntWalk
import Derived.Test.YtdfkpjmljaanpaaMX3
import Derived.Test.YtdfkpjmljaanpaaClone
import Derived.Test.YtdfkpjmljaanpaaMB
import Derived.Deep.RegionHeld
import Derived.Deep.DeepMust
namespace Go.Proofs.Ytdfkpjmljaanpaa
open Go.RowKit
open Go.RowKit (wrap64)
open Tr

theorem leafT_size (s : ByteArray) : (leafT s).size = 1 + s.size := by unfold leafT; rw [ByteArray.size_append]; rfl
theorem nodeT_size (a b : ByteArray) : (nodeT a b).size = 1 + a.size + b.size := by unfold nodeT; rw [ByteArray.size_append, ByteArray.size_append]; rfl
theorem bitLen_log2 : ∀ (n x : Nat), x ≤ n → x < 2 ^ 64 → 1 ≤ x → Lib.bitLen x = Nat.log2 x + 1 := by
  intro n
  induction n with
  | zero => intro x h1 h2 h3; omega
  | succ n ih =>
    intro x h1 h2 h3
    by_cases hx : x = 1
    · subst hx; decide
    · rw [Lib.bitLen_half x (by omega) h2, ih (x / 2) (by omega) (by omega) (by omega), Nat.log2_def x, if_pos (by omega)]
      omega
end Go.Proofs.Ytdfkpjmljaanpaa
namespace Go.Proofs.Ytdfkpjmljaanpaa
open Go.RowKit
open Tr

theorem digs_leaves (ss : List ByteArray) : Digs (ss.map leaf) := fun x hx => by
  obtain ⟨y, -, rfl⟩ := List.mem_map.1 hx
  exact sumE_size _
end Go.Proofs.Ytdfkpjmljaanpaa
namespace Go.Proofs.Ytdfkpjmljaanpaa
open Go.RowKit
open Go.RowKit (wrap64)
open Tr

theorem TextsAt.take {w : World} {a0 : Option Addr} {ss : List ByteArray} (h : TextsAt w a0 ss) (k : Nat) : TextsAt w a0 (ss.take k) := fun j hj => by
  rw [List.length_take] at hj
  obtain ⟨b, off, e, hb, hc⟩ := h j (by omega)
  refine ⟨b, off, e, hb, ?_⟩
  rw [hc, List.getD_eq_getElem?_getD, List.getD_eq_getElem?_getD, List.getElem?_take, if_pos (by omega)]
theorem TextsAt.drop {w : World} {b off : Nat} {ss : List ByteArray} (h : TextsAt w (some ⟨b, off, none⟩) ss) (k : Nat) : TextsAt w (some ⟨b, off + k, none⟩) (ss.drop k) := fun j hj => by
  rw [List.length_drop] at hj
  obtain ⟨b', off', e, hb, hc⟩ := h (k + j) (by omega)
  injection e with e
  injection e with e1 e2
  subst e1 e2
  refine ⟨b, off + k, rfl, hb, ?_⟩
  rw [Nat.add_assoc, hc, List.getD_eq_getElem?_getD, List.getD_eq_getElem?_getD, List.getElem?_drop]
theorem Tr.Digs.take {l : List ByteArray} (h : Digs l) (k : Nat) : Digs (l.take k) := fun x hx => h x (List.mem_of_mem_take hx)
theorem Tr.Digs.drop {l : List ByteArray} (h : Digs l) (k : Nat) : Digs (l.drop k) := fun x hx => h x (List.mem_of_mem_drop hx)
theorem root_size : ∀ {l : List ByteArray}, Digs l → (root l).size = 32
  | [], _ => sumE_size _
  | [x], h => h x (by simp)
  | a :: b :: r, _ => by rw [root_two (by simp)]; exact sumE_size _
end Go.Proofs.Ytdfkpjmljaanpaa
