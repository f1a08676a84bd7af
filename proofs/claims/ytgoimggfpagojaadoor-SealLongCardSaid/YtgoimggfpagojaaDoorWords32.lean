/- Slices of words of 32 bits: those that come in, those that a call makes itself. -/
import Derived.Test.YtgoimggfpagojaaDoorProg
import Derived.Test.YtgoimggfpagojaaDoorMH1
import Derived.Test.YtgoimggfpagojaaDoorMB
import Derived.WalkKit
import Derived.Lib.Hide
import Derived.Deep.AppendLies
import Derived.Laws.OwnMore
namespace Go.Proofs.YtgoimggfpagojaaDoor
open Go.RowKit

/-- The words of a slice, in memory. -/
def WordsAt (w : World) (a0 : Option Addr) (ws : List (BitVec 32)) : Prop :=
  ∀ j, j < ws.length → ∃ b off, a0 = some ⟨b, off, none⟩ ∧ b < w.heap.size ∧ w.cell? ⟨b, off + j, none⟩ = some (.int .u32 (V (ws.getD j 0)))
theorem WordsAt.below {w w' : World} {a0 : Option Addr} {ws : List (BitVec 32)} (h : WordsAt w a0 ws) (hb : Below w.heap.size w w') : WordsAt w' a0 ws := fun j hj => by
  obtain ⟨b, off, rfl, hbl, hc⟩ := h j hj
  exact ⟨b, off, rfl, Nat.lt_of_lt_of_le hbl hb.size, by rw [hb.cell (p := ⟨b, off + j, none⟩) hbl]; exact hc⟩
/-- Words as cells. -/
def qwcells (l : List (BitVec 32)) : List Value := l.map fun x => Value.int .u32 (V x)
theorem wcells_length (l : List (BitVec 32)) : (qwcells l).length = l.length := by simp [qwcells]
theorem wcells_snoc (l : List (BitVec 32)) (x : BitVec 32) : qwcells (l ++ [x]) = qwcells l ++ [.int .u32 (V x)] := by simp [qwcells]
theorem wcells_set (l : List (BitVec 32)) (j : Nat) (x : BitVec 32) : qwcells (l.set j x) = (qwcells l).set j (.int .u32 (V x)) := by simp [qwcells, List.map_set]
theorem wcells_get (l : List (BitVec 32)) (j : Nat) (hj : j < l.length) : (qwcells l)[j]? = some (.int .u32 (V (l.getD j 0))) := by
  simp [qwcells, List.getD_eq_getElem?_getD, hj]
theorem wcells_oneCell (l : List (BitVec 32)) : (qwcells l).toArray.all (·.oneCell') = true := by
  rw [Array.all_eq_true_iff_forall_mem]
  intro x hx
  simp only [qwcells, List.mem_toArray, List.mem_map] at hx
  obtain ⟨b, _, rfl⟩ := hx
  rfl
theorem Tryd.info_word : (Tryd.prog.info? 65).map (fun i => (i.zero, i.size, i.bytes)) = some (some (.int .u32 0), 1, 4) := by kernel_rfl
/-- A slice of words that the call made itself (in a block from B on), or nil: what it holds. -/
def OwnW (B : Nat) (w : World) (a : Option Addr) (cap : Nat) (l : List (BitVec 32)) : Prop :=
  w.ownsRow B 65 1 (.slice a l.length cap) l.length (qwcells l)
theorem OwnW.nil (B : Nat) (w : World) : OwnW B w none 0 [] := World.ownsRow_nil _ _ _ _
theorem OwnW.drew {B : Nat} {w : World} {a : Option Addr} {cap : Nat} {l : List (BitVec 32)} (h : OwnW B w a cap l) : OwnW B w.drew a cap l := h
theorem OwnW.alloc {B : Nat} {w : World} {a : Option Addr} {cap : Nat} {l : List (BitVec 32)} (h : OwnW B w a cap l) (o : Obj) : OwnW B (w.alloc o) a cap l := World.ownsRow.alloc h o
theorem OwnW.call {B : Nat} {w w' : World} {a : Option Addr} {cap : Nat} {l : List (BitVec 32)} (h : OwnW B w a cap l) (hb : Below w.heap.size w w') : OwnW B w' a cap l := by
  obtain ⟨h1, h2⟩ := h
  refine ⟨h1, ?_⟩
  rcases h2 with h2 | ⟨g, c, cur, e, hB, hg, h3⟩
  · exact .inl h2
  · exact .inr ⟨g, c, cur, e, hB, (hb.block g (Array.getElem?_eq_some_iff.1 hg).1).trans hg, h3⟩
theorem OwnW.words {B : Nat} {w : World} {a : Option Addr} {cap : Nat} {l : List (BitVec 32)} (h : OwnW B w a cap l) : WordsAt w a l := fun j hj => by
  rcases h.2 with ⟨e, hn⟩ | ⟨g, c, cur, e, hB, hg, hn, hc, hs, ht⟩
  · omega
  · injection e with e1 e2 e3
    subst e1 e3
    refine ⟨g, 0, rfl, (World.ownsRow.lt h g rfl).2, ?_⟩
    have := World.ownsRow.cellAt h j (by simpa using hj)
    rw [Nat.zero_add, this, wcells_get _ _ hj]
/-- Where it lies, if it holds anything. -/
theorem OwnW.at {B : Nat} {w : World} {a : Option Addr} {cap : Nat} {l : List (BitVec 32)} (h : OwnW B w a cap l) (hn : 0 < l.length) : ∃ g, a = some ⟨g, 0, none⟩ ∧ B ≤ g ∧ g < w.heap.size := by
  rcases h.2 with ⟨e, hz⟩ | ⟨g, c, cur, e, hB, hg, -⟩
  · omega
  · injection e with e1 e2 e3
    exact ⟨g, e1, hB, (Array.getElem?_eq_some_iff.1 hg).1⟩
theorem OwnW.cellAt {B : Nat} {w : World} {g cap : Nat} {l : List (BitVec 32)} (h : OwnW B w (some ⟨g, 0, none⟩) cap l) (j : Nat) (hj : j < l.length) : w.cell? ⟨g, j, none⟩ = some (.int .u32 (V (l.getD j 0))) := by
  rw [World.ownsRow.cellAt h j (by omega), wcells_get _ _ hj]
theorem OwnW.frozenAt {B : Nat} {w : World} {g cap : Nat} {l : List (BitVec 32)} (h : OwnW B w (some ⟨g, 0, none⟩) cap l) (j : Nat) : w.frozen? ⟨g, j, none⟩ = false := World.ownsRow.frozenAt h j
theorem OwnW.put {B : Nat} {w : World} {g cap : Nat} {l : List (BitVec 32)} (h : OwnW B w (some ⟨g, 0, none⟩) cap l) (j : Nat) (x : BitVec 32) :
    OwnW B (w.setCell ⟨g, j, none⟩ (.int .u32 (V x))) (some ⟨g, 0, none⟩) cap (l.set j x) := by
  unfold OwnW
  rw [List.length_set, wcells_set]
  exact (World.ownsRow.stored h j _).1
theorem OwnW.below {B : Nat} {w w' : World} {v : Value} {n : Nat} {xs : List Value} {w0 : World} (h : w.ownsRow B 65 1 v n xs) (hg : w.grownBy w' v.ownBlock) (hB : B ≤ w.heap.size) (hb : Below B w0 w) : Below B w0 w' :=
  hb.grown hg hB (fun k hk => (World.ownsRow.lt h k hk).1)
theorem cell_newW (w : World) (v : Value) (t : TypeId) : (w.alloc (.cells #[v] t)).cell? ⟨w.heap.size, 0, none⟩ = some v := by
  rw [cell_of_row _ _ _ _ _ _ (heap_alloc_new _ _)]; rfl
/-- append of one word. -/
theorem wpList_append_word {ops : Array Oper} {rest : List Oper} {o : Oper} {act : Act} {Q : Exit → Act → World → Prop} {w w0 : World} (hgd : o.guard = none) (s x : Operand)
    (ho : o.op = .call { callee := .builtin .append, args := #[s, x], argTypes := #[62, 62] })
    {B : Nat} {a : Option Addr} {cap : Nat} {l : List (BitVec 32)} (hown : OwnW B w a cap l) (n : Nat) (hn : l.length = n) (hs : act.eval s = .slice a n cap)
    (g c' : Nat) (c : BitVec 32) (hx : act.eval x = .slice (some ⟨g, 0, none⟩) 1 c') (hc : w.cell? ⟨g, 0, none⟩ = some (.int .u32 (V c)))
    (hlen : n < 1000000) (hbase : B ≤ w.heap.size) (hb0 : Below B w0 w)
    (h : ∀ g cap w', OwnW B w' (some ⟨g, 0, none⟩) cap (l ++ [c]) → Below B w0 w' → wpList Tryd.prog ops Q rest (act.put o.dst (.slice (some ⟨g, 0, none⟩) (n + 1) cap)) w') : wpList Tryd.prog ops Q (o :: rest) act w := by
  subst hn
  obtain ⟨i0, hi0, hz0, hz1, hz2⟩ := info_parts Tryd.info_word
  refine wpList_append_lies w hgd s x 62 ho B 65 i0 _ 1 4 Tryd.underlying62 hi0 hz0 hz1 hz2 rfl (by decide) (.slice a l.length cap) l.length (qwcells l) hs hown ⟨g, 0, none⟩ 1 c' [.int .u32 (V c)] hx rfl
    (fun j u hj => ?_) (by simp [Value.oneCell']) (by decide) (by unfold maxLen; omega) (by omega) hbase w.heap.size rfl (fun g cap w' h1 h2 _ _ => h g cap w' ?_ ?_)
  · match j, hj with
    | 0, hj =>
      simp at hj
      subst hj
      rw [show (⟨g, 0, none⟩ : Addr).add 0 = ⟨g, 0, none⟩ from by simp [Addr.add]]
      exact hc
  · unfold OwnW
    rw [wcells_snoc, List.length_append]; exact h1
  · exact OwnW.below hown h2 hbase hb0
/-- append of one word, at a step of a region that draws its order. -/
theorem step_append_word {ops : Array Oper} {o : Oper} {act : Act} {K : Act → World → Prop} {Q : Exit → Act → World → Prop} {E : Prop} {w w0 : World} (hgd : o.guard = none) (s x : Operand)
    (ho : o.op = .call { callee := .builtin .append, args := #[s, x], argTypes := #[62, 62] })
    {B : Nat} {a : Option Addr} {cap : Nat} {l : List (BitVec 32)} (hown : OwnW B w a cap l) (n : Nat) (hn : l.length = n) (hs : act.eval s = .slice a n cap)
    (g c' : Nat) (c : BitVec 32) (hx : act.eval x = .slice (some ⟨g, 0, none⟩) 1 c') (hc : w.cell? ⟨g, 0, none⟩ = some (.int .u32 (V c)))
    (hlen : n < 1000000) (hbase : B ≤ w.heap.size) (hb0 : Below B w0 w)
    (h : ∀ g cap w', OwnW B w' (some ⟨g, 0, none⟩) cap (l ++ [c]) → Below B w0 w' → K (act.put o.dst (.slice (some ⟨g, 0, none⟩) (n + 1) cap)) w') :
    if Region.wanted o (yielded ops act.tmps) = true then Oper.wp Tryd.prog o act w K Q else E := by
  subst hn
  obtain ⟨i0, hi0, hz0, hz1, hz2⟩ := info_parts Tryd.info_word
  refine step_append_lies w hgd s x 62 ho B 65 i0 _ 1 4 Tryd.underlying62 hi0 hz0 hz1 hz2 rfl (by decide) (.slice a l.length cap) l.length (qwcells l) hs hown ⟨g, 0, none⟩ 1 c' [.int .u32 (V c)] hx rfl
    (fun j u hj => ?_) (by simp [Value.oneCell']) (by decide) (by unfold maxLen; omega) (by omega) hbase w.heap.size rfl (fun g cap w' h1 h2 _ _ => h g cap w' ?_ ?_)
  · match j, hj with
    | 0, hj =>
      simp at hj
      subst hj
      rw [show (⟨g, 0, none⟩ : Addr).add 0 = ⟨g, 0, none⟩ from by simp [Addr.add]]
      exact hc
  · unfold OwnW
    rw [wcells_snoc, List.length_append]; exact h1
  · exact OwnW.below hown h2 hbase hb0
end Go.Proofs.YtgoimggfpagojaaDoor
