/- Slices of texts that a call made itself: append of one text, of many. -/
import Derived.Test.YtnkkbinbeildmaaMB
namespace Go.Proofs.Ytnkkbinbeildmaa
open Go.RowKit

/-- Texts as cells. -/
def scells (l : List ByteArray) : List Value := l.map Value.string
theorem scells_length (l : List ByteArray) : (scells l).length = l.length := by simp [scells]
theorem scells_snoc (l : List ByteArray) (x : ByteArray) : scells (l ++ [x]) = scells l ++ [.string x] := by simp [scells]
theorem scells_append (l m : List ByteArray) : scells (l ++ m) = scells l ++ scells m := by simp [scells]
theorem Try.info_str : (Try.prog.info? 9).map (fun i => (i.zero, i.size, i.bytes)) = some (some (.string ⟨#[]⟩), 1, 16) := by kernel_rfl
/-- A slice of texts that the call made itself (in a block from B on), or nil: what it holds. -/
def OwnT (B : Nat) (w : World) (a : Option Addr) (cap : Nat) (l : List ByteArray) : Prop :=
  w.ownsRow B 9 1 (.slice a l.length cap) l.length (scells l)
theorem OwnT.nil (B : Nat) (w : World) : OwnT B w none 0 [] := World.ownsRow_nil _ _ _ _
theorem OwnT.drew {B : Nat} {w : World} {a : Option Addr} {cap : Nat} {l : List ByteArray} (h : OwnT B w a cap l) : OwnT B w.drew a cap l := h
theorem OwnT.alloc {B : Nat} {w : World} {a : Option Addr} {cap : Nat} {l : List ByteArray} (h : OwnT B w a cap l) (o : Obj) : OwnT B (w.alloc o) a cap l := World.ownsRow.alloc h o
theorem OwnT.call {B : Nat} {w w' : World} {a : Option Addr} {cap : Nat} {l : List ByteArray} (h : OwnT B w a cap l) (hb : Below w.heap.size w w') : OwnT B w' a cap l := by
  obtain ⟨h1, h2⟩ := h
  refine ⟨h1, ?_⟩
  rcases h2 with h2 | ⟨g, c, cur, e, hB, hg, h3⟩
  · exact .inl h2
  · exact .inr ⟨g, c, cur, e, hB, (hb.block g (Array.getElem?_eq_some_iff.1 hg).1).trans hg, h3⟩
theorem OwnT.texts {B : Nat} {w : World} {a : Option Addr} {cap : Nat} {l : List ByteArray} (h : OwnT B w a cap l) : TextsAt w a l := fun j hj => by
  rcases h.2 with ⟨e, hn⟩ | ⟨g, c, cur, e, hB, hg, hn, hc, hs, ht⟩
  · omega
  · injection e with e1 e2 e3
    subst e1 e3
    refine ⟨g, 0, rfl, (World.ownsRow.lt h g rfl).2, ?_⟩
    have := World.ownsRow.cellAt h j (by simpa using hj)
    rw [Nat.zero_add, this]
    simp [scells, hj]
theorem OwnT.capy {B : Nat} {w : World} {a : Option Addr} {cap : Nat} {l : List ByteArray} (h : OwnT B w a cap l) : l.length ≤ cap ∧ cap ≤ maxLen := by
  rcases h.2 with ⟨e, hn⟩ | ⟨g, c, cur, e, hB, hg, hn, hc, hs, ht⟩
  · injection e with _ _ e3
    subst e3
    exact ⟨by omega, Nat.zero_le _⟩
  · injection e with e1 e2 e3
    subst e3
    exact ⟨hn, hc⟩
theorem OwnT.base {B C : Nat} {w : World} {a : Option Addr} {cap : Nat} {l : List ByteArray} (h : OwnT B w a cap l) (hg : ∀ g, (Value.slice a l.length cap).ownBlock = some g → C ≤ g) : OwnT C w a cap l := by
  obtain ⟨h1, h2⟩ := h
  refine ⟨h1, ?_⟩
  rcases h2 with h2 | ⟨g, c, cur, e, hB, hg2, h3⟩
  · exact .inl h2
  · refine .inr ⟨g, c, cur, e, hg g ?_, hg2, h3⟩
    rw [e]; rfl
theorem OwnT.mono {B C : Nat} {w : World} {a : Option Addr} {cap : Nat} {l : List ByteArray} (h : OwnT B w a cap l) (hC : C ≤ B) : OwnT C w a cap l :=
  h.base fun g hg => Nat.le_trans hC (World.ownsRow.lt h g hg).1
/-- Texts that lie somewhere, as what is appended. -/
theorem srcT {w : World} {b0 : Option Addr} {ls : List ByteArray} (h : TextsAt w b0 ls) (c : Nat) : Src Try.prog 1 86 (.slice b0 ls.length c) ls.length (scells ls) w := by
  cases ls with
  | nil =>
    cases b0 with
    | none => exact Src.ofNil w Try.underlying86 c
    | some a => exact Src.ofSlice w Try.underlying86 a 0 c [] rfl (fun j u hj => by cases hj) (fun u hu => by cases hu)
  | cons x r =>
    obtain ⟨b, off, rfl, hb, -⟩ := h 0 (by simp)
    refine Src.ofSlice w Try.underlying86 ⟨b, off, none⟩ _ c _ (by rw [scells_length, Nat.mul_one]) (fun j u hj => ?_) (fun u hu => ?_)
    · have hjl : j < (x :: r).length := by
        have := (List.getElem?_eq_some_iff.1 hj).1
        rwa [scells_length] at this
      obtain ⟨b', off', e, -, hc⟩ := h j hjl
      injection e with e
      injection e with e1 e2
      subst e1 e2
      rw [show (⟨b, off, none⟩ : Addr).add j = ⟨b, off + j, none⟩ from Go.WideShapes.add_plain b off j, hc, ← hj]
      unfold scells
      rw [List.getElem?_map, List.getD_eq_getElem?_getD, List.getElem?_eq_getElem hjl]; rfl
    · obtain ⟨y, -, rfl⟩ := List.mem_map.1 hu
      rfl
/-- append of many texts, at a plain region's list. -/
theorem wpList_append_texts {ops : Array Oper} {rest : List Oper} {o : Oper} {act : Act} {Q : Exit → Act → World → Prop} {w w0 : World} (hgd : o.guard = none) (s x : Operand)
    (ho : o.op = .call { callee := .builtin .append, args := #[s, x], argTypes := #[86, 86] })
    {B : Nat} {a : Option Addr} {cap : Nat} {l : List ByteArray} (hown : OwnT B w a cap l) (n : Nat) (hn : l.length = n) (hs : act.eval s = .slice a n cap)
    (b0 : Option Addr) (c' m : Nat) (ls : List ByteArray) (hm : ls.length = m) (hx : act.eval x = .slice b0 m c') (hT : TextsAt w b0 ls)
    (hlen : n + m ≤ 1000000000) (hbase : B ≤ w.heap.size) (hb0 : Below B w0 w)
    (h : ∀ ad cap w', OwnT B w' ad cap (l ++ ls) → Below B w0 w' → wpList Try.prog ops Q rest (act.put o.dst (.slice ad (n + m) cap)) w') : wpList Try.prog ops Q (o :: rest) act w := by
  subst hn hm
  obtain ⟨i0, hi0, hz0, hz1, hz2⟩ := info_parts Try.info_str
  have hown0 : w.ownsRow 0 9 1 (.slice a l.length cap) l.length (scells l) := hown.mono (Nat.zero_le _)
  refine wpList_append_src hgd s x 86 86 ho 9 i0 _ 1 16 Try.underlying86 hi0 hz0 hz1 hz2 rfl _ l.length (scells l) hs hown0 _ ls.length (scells ls) hx (srcT hT c') (by omega) (by omega) (fun ad cap' w' h1 h2 h3 => ?_)
  have hO : OwnT 0 w' ad cap' (l ++ ls) := by unfold OwnT; rw [scells_append, List.length_append]; exact h1
  refine h ad cap' w' (hO.base fun g hg => ?_) (hb0.grown h2 hbase (fun k hk => (World.ownsRow.lt hown k hk).1))
  rw [List.length_append] at hg
  rcases h3 g hg with h4 | h4
  · exact (World.ownsRow.lt hown g h4).1
  · rw [h4.1]; exact hbase
/-- append of many texts, at a step of a region that draws its order. -/
theorem step_append_texts {ops : Array Oper} {o : Oper} {act : Act} {K : Act → World → Prop} {Q : Exit → Act → World → Prop} {E : Prop} {w w0 : World} (hgd : o.guard = none) (s x : Operand)
    (ho : o.op = .call { callee := .builtin .append, args := #[s, x], argTypes := #[86, 86] })
    {B : Nat} {a : Option Addr} {cap : Nat} {l : List ByteArray} (hown : OwnT B w a cap l) (n : Nat) (hn : l.length = n) (hs : act.eval s = .slice a n cap)
    (b0 : Option Addr) (c' m : Nat) (ls : List ByteArray) (hm : ls.length = m) (hx : act.eval x = .slice b0 m c') (hT : TextsAt w b0 ls)
    (hlen : n + m ≤ 1000000000) (hbase : B ≤ w.heap.size) (hb0 : Below B w0 w)
    (h : ∀ ad cap w', OwnT B w' ad cap (l ++ ls) → Below B w0 w' → K (act.put o.dst (.slice ad (n + m) cap)) w') :
    if Region.wanted o (yielded ops act.tmps) = true then Oper.wp Try.prog o act w K Q else E := by
  subst hn hm
  obtain ⟨i0, hi0, hz0, hz1, hz2⟩ := info_parts Try.info_str
  have hown0 : w.ownsRow 0 9 1 (.slice a l.length cap) l.length (scells l) := hown.mono (Nat.zero_le _)
  refine step_append_src hgd s x 86 86 ho 9 i0 _ 1 16 Try.underlying86 hi0 hz0 hz1 hz2 rfl _ l.length (scells l) hs hown0 _ ls.length (scells ls) hx (srcT hT c') (by omega) (by omega) (fun ad cap' w' h1 h2 h3 => ?_)
  have hO : OwnT 0 w' ad cap' (l ++ ls) := by unfold OwnT; rw [scells_append, List.length_append]; exact h1
  refine h ad cap' w' (hO.base fun g hg => ?_) (hb0.grown h2 hbase (fun k hk => (World.ownsRow.lt hown k hk).1))
  rw [List.length_append] at hg
  rcases h3 g hg with h4 | h4
  · exact (World.ownsRow.lt hown g h4).1
  · rw [h4.1]; exact hbase
/-- One text in a new block. -/
theorem texts_one (W : World) (x : ByteArray) : TextsAt (W.alloc (.cells #[.string x] 9)) (some ⟨W.heap.size, 0, none⟩) [x] := fun j hj => by
  refine ⟨W.heap.size, 0, rfl, by simp, ?_⟩
  obtain rfl : j = 0 := by simp at hj; omega
  rw [cell_of_row _ _ _ _ _ _ (heap_alloc_new _ _)]
  rfl
end Go.Proofs.Ytnkkbinbeildmaa
