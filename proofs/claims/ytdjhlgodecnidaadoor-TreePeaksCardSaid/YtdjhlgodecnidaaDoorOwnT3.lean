/- append to an own list of texts, told with which block it lies in. -/
import Derived.Test.YtdjhlgodecnidaaDoorOwnT
namespace Go.Proofs.YtdjhlgodecnidaaDoor
open Go.RowKit

/-- What an append of texts leaves: the row, what else changed, where the row lies. -/
structure AppT (B : Nat) (w w' : World) (a : Option Addr) (cap : Nat) (l ls : List ByteArray) (ad : Option Addr) (cap' : Nat) : Prop where
  own : OwnT B w' ad cap' (l ++ ls)
  grown : w.grownBy w' (Value.slice a l.length cap).ownBlock
  lies : ∀ g, (Value.slice ad (l ++ ls).length cap').ownBlock = some g → (Value.slice a l.length cap).ownBlock = some g ∨ (g = w.heap.size ∧ g < w'.heap.size)
theorem appT_of {B : Nat} {w w' : World} {a : Option Addr} {cap : Nat} {l ls : List ByteArray} {ad : Option Addr} {cap' : Nat} (hown : OwnT B w a cap l) (hbase : B ≤ w.heap.size)
    (h1 : w'.ownsRow 0 9 1 (.slice ad (l.length + ls.length) cap') (l.length + ls.length) (scells l ++ scells ls)) (h2 : w.grownBy w' (Value.slice a l.length cap).ownBlock)
    (h3 : ∀ g, (Value.slice ad (l.length + ls.length) cap').ownBlock = some g → (Value.slice a l.length cap).ownBlock = some g ∨ (g = w.heap.size ∧ g < w'.heap.size)) : AppT B w w' a cap l ls ad cap' := by
  have hO : OwnT 0 w' ad cap' (l ++ ls) := by unfold OwnT; rw [scells_append, List.length_append]; exact h1
  rw [← List.length_append] at h3
  refine ⟨hO.base fun g hg => ?_, h2, h3⟩
  rcases h3 g hg with h4 | h4
  · exact (World.ownsRow.lt hown g h4).1
  · rw [h4.1]; exact hbase
theorem wpList_append_texts3 {ops : Array Oper} {rest : List Oper} {o : Oper} {act : Act} {Q : Exit → Act → World → Prop} {w : World} (hgd : o.guard = none) (s x : Operand)
    (ho : o.op = .call { callee := .builtin .append, args := #[s, x], argTypes := #[22, 22] })
    {B : Nat} {a : Option Addr} {cap : Nat} {l : List ByteArray} (hown : OwnT B w a cap l) (n : Nat) (hn : l.length = n) (hs : act.eval s = .slice a n cap)
    (b0 : Option Addr) (c' m : Nat) (ls : List ByteArray) (hm : ls.length = m) (hx : act.eval x = .slice b0 m c') (hT : TextsAt w b0 ls)
    (hlen : n + m ≤ 1000000000) (hbase : B ≤ w.heap.size)
    (h : ∀ ad cap' w', AppT B w w' a cap l ls ad cap' → wpList Tryd.prog ops Q rest (act.put o.dst (.slice ad (n + m) cap')) w') : wpList Tryd.prog ops Q (o :: rest) act w := by
  subst hn hm
  obtain ⟨i0, hi0, hz0, hz1, hz2⟩ := info_parts Tryd.info_str
  have hown0 : w.ownsRow 0 9 1 (.slice a l.length cap) l.length (scells l) := hown.mono (Nat.zero_le _)
  exact wpList_append_src hgd s x 22 22 ho 9 i0 _ 1 16 Tryd.underlying22 hi0 hz0 hz1 hz2 rfl _ l.length (scells l) hs hown0 _ ls.length (scells ls) hx (srcT hT c') (by omega) (by omega)
    (fun ad cap' w' h1 h2 h3 => h ad cap' w' (appT_of hown hbase h1 h2 h3))
theorem step_append_texts3 {ops : Array Oper} {o : Oper} {act : Act} {K : Act → World → Prop} {Q : Exit → Act → World → Prop} {E : Prop} {w : World} (hgd : o.guard = none) (s x : Operand)
    (ho : o.op = .call { callee := .builtin .append, args := #[s, x], argTypes := #[22, 22] })
    {B : Nat} {a : Option Addr} {cap : Nat} {l : List ByteArray} (hown : OwnT B w a cap l) (n : Nat) (hn : l.length = n) (hs : act.eval s = .slice a n cap)
    (b0 : Option Addr) (c' m : Nat) (ls : List ByteArray) (hm : ls.length = m) (hx : act.eval x = .slice b0 m c') (hT : TextsAt w b0 ls)
    (hlen : n + m ≤ 1000000000) (hbase : B ≤ w.heap.size)
    (h : ∀ ad cap' w', AppT B w w' a cap l ls ad cap' → K (act.put o.dst (.slice ad (n + m) cap')) w') :
    if Region.wanted o (yielded ops act.tmps) = true then Oper.wp Tryd.prog o act w K Q else E := by
  subst hn hm
  obtain ⟨i0, hi0, hz0, hz1, hz2⟩ := info_parts Tryd.info_str
  have hown0 : w.ownsRow 0 9 1 (.slice a l.length cap) l.length (scells l) := hown.mono (Nat.zero_le _)
  exact step_append_src hgd s x 22 22 ho 9 i0 _ 1 16 Tryd.underlying22 hi0 hz0 hz1 hz2 rfl _ l.length (scells l) hs hown0 _ ls.length (scells ls) hx (srcT hT c') (by omega) (by omega)
    (fun ad cap' w' h1 h2 h3 => h ad cap' w' (appT_of hown hbase h1 h2 h3))
/-- Another own list stays as it is. -/
theorem OwnT.beside {C : Nat} {w w' : World} {b : Option Addr} {cp : Nat} {m : List ByteArray} {row : Option Nat} (h : OwnT C w b cp m) (hg : w.grownBy w' row) (hd : ∀ g, row = some g → (Value.slice b m.length cp).ownBlock ≠ some g) : OwnT C w' b cp m := by
  refine World.ownsRow.kept h hg ?_
  cases hb : (Value.slice b m.length cp).ownBlock with
  | none => exact Or.inl rfl
  | some x => exact Or.inr fun e => hd x e.symm hb
end Go.Proofs.YtdjhlgodecnidaaDoor
