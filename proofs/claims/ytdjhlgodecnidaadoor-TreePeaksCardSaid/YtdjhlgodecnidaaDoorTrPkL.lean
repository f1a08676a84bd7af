/- Rows of Peaks that a call made itself: append of one; which peaks they are. -/
import Derived.Test.YtdjhlgodecnidaaDoorTrPkR
namespace Go.Proofs.YtdjhlgodecnidaaDoor
open Go.RowKit
open Tr

/-- One Peaks, as it lies in a row. -/
structure Pr where
  k : Nat
  a : Option Addr
  n : Nat
  c : Nat
def Pr.cs (x : Pr) : Array Value := #[.int .i64 (x.k : Int), .slice x.a x.n x.c]
def prCells (l : List Pr) : List Value := l.flatMap fun x => x.cs.toList
theorem prCells_length : ∀ l : List Pr, (prCells l).length = l.length * 2
  | [] => rfl
  | x :: l => by
    have h := prCells_length l
    unfold prCells at h ⊢
    rw [List.flatMap_cons, List.length_append, h, List.length_cons]; simp [Pr.cs]; omega
theorem prCells_snoc (l : List Pr) (x : Pr) : prCells (l ++ [x]) = prCells l ++ x.cs.toList := by
  unfold prCells; simp
theorem prCells_at : ∀ (l : List Pr) (k : Nat) (x : Pr), l[k]? = some x → (prCells l)[k * 2]? = some (.int .i64 (x.k : Int)) ∧ (prCells l)[k * 2 + 1]? = some (.slice x.a x.n x.c)
  | [], k, x, h => by simp at h
  | y :: l, 0, x, h => by
    simp only [List.getElem?_cons_zero, Option.some.injEq] at h
    subst h
    exact ⟨rfl, rfl⟩
  | y :: l, k + 1, x, h => by
    have ih := prCells_at l k x (by simpa using h)
    have e : prCells (y :: l) = .int .i64 (y.k : Int) :: .slice y.a y.n y.c :: prCells l := rfl
    rw [e, show (k + 1) * 2 = k * 2 + 1 + 1 by omega, List.getElem?_cons_succ, List.getElem?_cons_succ, List.getElem?_cons_succ]
    exact ⟨ih.1, ih.2⟩
def OwnP (B : Nat) (w : World) (a : Option Addr) (cap : Nat) (l : List Pr) : Prop := w.ownsRow B 32 2 (.slice a l.length cap) l.length (prCells l)
theorem OwnP.nil (B : Nat) (w : World) : OwnP B w none 0 [] := World.ownsRow_nil _ _ _ _
theorem OwnP.at {B : Nat} {w : World} {a : Option Addr} {cap : Nat} {l : List Pr} (h : OwnP B w a cap l) {i : Nat} {x : Pr} (hx : l[i]? = some x) :
    ∃ g, a = some ⟨g, 0, none⟩ ∧ w.cell? ⟨g, i * 2, none⟩ = some (.int .i64 (x.k : Int)) ∧ w.cell? ⟨g, i * 2 + 1, none⟩ = some (.slice x.a x.n x.c) ∧ g < w.heap.size := by
  have hi : i < l.length := (List.getElem?_eq_some_iff.1 hx).1
  rcases h.2 with ⟨e, hn⟩ | ⟨g, c, cur, e, hB, hg, hn, hc, hs, ht⟩
  · omega
  · injection e with e1 e2 e3
    subst e1 e3
    have h1 := World.ownsRow.cellAt h (i * 2) (by omega)
    have h2 := World.ownsRow.cellAt h (i * 2 + 1) (by omega)
    obtain ⟨k1, k2⟩ := prCells_at l i x hx
    exact ⟨g, rfl, h1.trans k1, h2.trans k2, (World.ownsRow.lt h g rfl).2⟩
theorem OwnP.call {B : Nat} {w w' : World} {a : Option Addr} {cap : Nat} {l : List Pr} (h : OwnP B w a cap l) (hb : Below w.heap.size w w') : OwnP B w' a cap l := by
  obtain ⟨h1, h2⟩ := h
  refine ⟨h1, ?_⟩
  rcases h2 with h2 | ⟨g, c, cur, e, hB, hg, h3⟩
  · exact .inl h2
  · exact .inr ⟨g, c, cur, e, hB, (hb.block g (Array.getElem?_eq_some_iff.1 hg).1).trans hg, h3⟩
theorem OwnP.alloc {B : Nat} {w : World} {a : Option Addr} {cap : Nat} {l : List Pr} (h : OwnP B w a cap l) (o : Obj) : OwnP B (w.alloc o) a cap l := World.ownsRow.alloc h o
/-- Which peaks lie there: those of the first so many; not in the block of the row. -/
structure PkR (D : List ByteArray) (lo : Nat) (W : World) (own : Option Nat) (j : Nat) (x : Pr) : Prop where
  k : x.k = j
  n : x.n = (peaks (D.take j)).length
  tx : TextsAt W x.a (peaks (D.take j))
  cap : x.n ≤ x.c ∧ x.c ≤ maxLen
  lt : ∀ b off, x.a = some ⟨b, off, none⟩ → b < W.heap.size ∧ own ≠ some b ∧ lo ≤ b
theorem PkR.call {D : List ByteArray} {lo : Nat} {W W' : World} {own : Option Nat} {j : Nat} {x : Pr} (h : PkR D lo W own j x) (hb : Below W.heap.size W W') : PkR D lo W' own j x :=
  ⟨h.k, h.n, h.tx.below hb, h.cap, fun b off e => ⟨Nat.lt_of_lt_of_le (h.lt b off e).1 hb.size, (h.lt b off e).2⟩⟩
theorem PkR.grown {D : List ByteArray} {lo : Nat} {W W' : World} {own own' : Option Nat} {j : Nat} {x : Pr} (h : PkR D lo W own j x) (hg : W.grownBy W' own) (hl : ∀ g, own' = some g → own = some g ∨ (g = W.heap.size ∧ g < W'.heap.size)) : PkR D lo W' own' j x :=
  ⟨h.k, h.n, fun i hi => by
    obtain ⟨b, off, e, hb, hc⟩ := h.tx i hi
    have h2 := h.lt b off e
    exact ⟨b, off, e, Nat.lt_of_lt_of_le hb hg.size, (World.cell?_of_block (a := ⟨b, off + i, none⟩) (hg.block b h2.1 (fun e => h2.2.1 e.symm))).trans hc⟩, h.cap, fun b off e => by
    have h2 := h.lt b off e
    refine ⟨Nat.lt_of_lt_of_le h2.1 hg.size, fun e2 => ?_, h2.2.2⟩
    rcases hl b e2 with h3 | h3
    · exact h2.2.1 h3
    · omega⟩
/-- Another block was stored into. -/
theorem PkR.set {D : List ByteArray} {lo : Nat} {W : World} {own : Option Nat} {j : Nat} {x : Pr} (h : PkR D lo W own j x) {g : Nat} (hg : g < lo) (o : Nat) (v : Value) : PkR D lo (W.setCell ⟨g, o, none⟩ v) own j x :=
  ⟨h.k, h.n, fun i hi => by
    obtain ⟨b, off, e, hb, hc⟩ := h.tx i hi
    have h2 := h.lt b off e
    exact ⟨b, off, e, by simpa [World.setCell] using hb, (World.cell?_of_block (a := ⟨b, off + i, none⟩) (Below.heap_setCell W _ v b (by show b ≠ g; omega))).trans hc⟩, h.cap, fun b off e => by
    have h2 := h.lt b off e
    exact ⟨by simpa [World.setCell] using h2.1, h2.2⟩⟩
theorem OwnP.set {B : Nat} {w : World} {a : Option Addr} {cap : Nat} {l : List Pr} (h : OwnP B w a cap l) {g : Nat} (hg : g < B) (o : Nat) (v : Value) : OwnP B (w.setCell ⟨g, o, none⟩ v) a cap l := by
  obtain ⟨h1, h2⟩ := h
  refine ⟨h1, ?_⟩
  rcases h2 with h2 | ⟨k, c, cur, e, hB, hk, h3⟩
  · exact .inl h2
  · exact .inr ⟨k, c, cur, e, hB, (Below.heap_setCell w _ v k (by show k ≠ g; omega)).trans hk, h3⟩
/-- How memory stands behind so many rounds: the row of all peaks so far, and the last of them in its box. -/
structure PkS (D : List ByteArray) (w : World) (pb i : Nat) (al : Option Addr) (cp : Nat) (rows : List Pr) (W : World) : Prop where
  low : Below w.heap.size w W
  own : OwnP (pb + 1) W al cp rows
  len : rows.length = i + 1
  all : ∀ j x, rows[j]? = some x → PkR D (pb + 1) W (Value.slice al rows.length cp).ownBlock j x
  box : ∃ x, rows[i]? = some x ∧ W.heap[pb]? = some (.cells x.cs 32 (0, 0))
theorem Tryd.info_pk : (Tryd.prog.info? 32).map (fun i => (i.zero, i.size, i.bytes)) = some (some (.agg #[.int .i64 0, .slice none 0 0]), 2, 32) := by kernel_rfl
set_option maxRecDepth 100000 in
/-- append of one Peaks, at a plain region's list. -/
theorem wpList_append_pk {ops : Array Oper} {rest : List Oper} {o : Oper} {act : Act} {Q : Exit → Act → World → Prop} {w w0 : World} (hgd : o.guard = none) (s x : Operand)
    (ho : o.op = .call { callee := .builtin .append, args := #[s, x], argTypes := #[30, 30] })
    {B : Nat} {a : Option Addr} {cap : Nat} {l : List Pr} (hown : OwnP B w a cap l) (n : Nat) (hn : l.length = n) (hs : act.eval s = .slice a n cap)
    (g c' : Nat) (c : Pr) (hx : act.eval x = .slice (some ⟨g, 0, none⟩) 1 c') (hc : w.heap[g]? = some (.cells c.cs 32 (0, 0)))
    (hlen : n < 1000000) (hbase : B ≤ w.heap.size) {B0 : Nat} (hBB : B0 ≤ B) (hb0 : Below B0 w0 w)
    (h : ∀ ad cap' w', OwnP B w' ad cap' (l ++ [c]) → Below B0 w0 w' → w.grownBy w' (Value.slice a l.length cap).ownBlock → (∀ g, (Value.slice ad (l ++ [c]).length cap').ownBlock = some g → (Value.slice a l.length cap).ownBlock = some g ∨ (g = w.heap.size ∧ g < w'.heap.size)) → wpList Tryd.prog ops Q rest (act.put o.dst (.slice ad (n + 1) cap')) w') : wpList Tryd.prog ops Q (o :: rest) act w := by
  subst hn
  obtain ⟨i0, hi0, hz0, hz1, hz2⟩ := info_parts Tryd.info_pk
  have hown0 : w.ownsRow 0 32 2 (.slice a l.length cap) l.length (prCells l) := by
    obtain ⟨h1, h2⟩ := hown
    refine ⟨h1, ?_⟩
    rcases h2 with h2 | ⟨g, c, cur, e, hB, hg, h3⟩
    · exact .inl h2
    · exact .inr ⟨g, c, cur, e, Nat.zero_le _, hg, h3⟩
  refine wpList_append_src hgd s x 30 30 ho 32 i0 (.agg #[.int .i64 0, .slice none 0 0]) 2 32 Tryd.underlying30 hi0 hz0 hz1 hz2 rfl (.slice a l.length cap) l.length (prCells l) hs hown0 (.slice (some ⟨g, 0, none⟩) 1 c') 1 c.cs.toList hx
    (Src.ofSlice w Tryd.underlying30 ⟨g, 0, none⟩ 1 c' c.cs.toList rfl (World.news_of_block hc) (by intro u hu; simp [Pr.cs] at hu; rcases hu with rfl | rfl <;> rfl)) (by omega) (by omega) (fun ad cap' w' h1 h2 h3 => ?_)
  have hO : w'.ownsRow 0 32 2 (.slice ad (l ++ [c]).length cap') (l ++ [c]).length (prCells (l ++ [c])) := by rw [prCells_snoc, List.length_append]; exact h1
  have h3' : ∀ g, (Value.slice ad (l ++ [c]).length cap').ownBlock = some g → (Value.slice a l.length cap).ownBlock = some g ∨ (g = w.heap.size ∧ g < w'.heap.size) := by rw [List.length_append]; exact h3
  refine h ad cap' w' ?_ (hb0.grown h2 (Nat.le_trans hBB hbase) (fun k hk => Nat.le_trans hBB (World.ownsRow.lt hown k hk).1)) h2 h3'
  obtain ⟨k1, k2⟩ := hO
  refine ⟨k1, ?_⟩
  rcases k2 with k2 | ⟨g, c1, cur, e, hB, hg, k3⟩
  · exact .inl k2
  · refine .inr ⟨g, c1, cur, e, ?_, hg, k3⟩
    rcases h3' g (by rw [e]; rfl) with h4 | h4
    · exact (World.ownsRow.lt hown g h4).1
    · rw [h4.1]; exact hbase
end Go.Proofs.YtdjhlgodecnidaaDoor
