/- Slices of records of any type that a call made itself: append of one record. -/
import Derived.Test.YtnkkbinbeildmaaMB
namespace Go.Proofs.Ytnkkbinbeildmaa
open Go.RowKit

/-- What a type of records is: its slices, its cells, the zero value, the bytes. -/
structure RecT (T TS : TypeId) (k bytes : Nat) (z : Value) : Prop where
  under : Try.prog.underlying TS = some (.slice T)
  info : (Try.prog.info? T).map (fun i => (i.zero, i.size, i.bytes)) = some (some z, k, bytes)
  zk : z.cells.size = k
  few : bytes ≤ 1000
section
variable {α : Type}
/-- Records' cells, one behind the other. -/
def rcs (c : α → Array Value) (l : List α) : List Value := l.flatMap fun x => (c x).toList
theorem rcs_snoc (c : α → Array Value) (l : List α) (x : α) : rcs c (l ++ [x]) = rcs c l ++ (c x).toList := by simp [rcs]
theorem rcs_length {c : α → Array Value} {k : Nat} (hk : ∀ x, (c x).size = k) : ∀ l : List α, (rcs c l).length = l.length * k
  | [] => by simp [rcs]
  | x :: l => by
    have ih := rcs_length hk l
    have h1 := hk x
    unfold rcs at ih ⊢
    rw [List.flatMap_cons, List.length_append, ih, Array.length_toList, h1, List.length_cons, Nat.succ_mul]; omega
theorem rcs_at {c : α → Array Value} {k : Nat} (hk : ∀ x, (c x).size = k) : ∀ (l : List α) (j : Nat) (x : α), l[j]? = some x → ∀ m, m < k → (rcs c l)[j * k + m]? = (c x)[m]?
  | [], j, x, h, _, _ => by simp at h
  | d :: l, 0, x, h, m, hm => by
    simp only [List.getElem?_cons_zero, Option.some.injEq] at h
    subst h
    unfold rcs
    rw [List.flatMap_cons, Nat.zero_mul, Nat.zero_add, List.getElem?_append_left (by rw [Array.length_toList, hk]; exact hm), Array.getElem?_toList]
  | d :: l, j + 1, x, h, m, hm => by
    have ih := rcs_at hk l j x (by simpa using h) m hm
    have h1 := hk d
    unfold rcs at ih ⊢
    rw [List.flatMap_cons, List.getElem?_append_right (by rw [Array.length_toList, h1, Nat.succ_mul]; omega), ← ih, Array.length_toList, h1, Nat.succ_mul]
    congr 1; omega
/-- A slice of records that the call made itself (in a block from B on), or nil: what it holds. -/
def OwnR (T : TypeId) (k : Nat) (c : α → Array Value) (B : Nat) (w : World) (a : Option Addr) (cap : Nat) (l : List α) : Prop :=
  w.ownsRow B T k (.slice a l.length cap) l.length (rcs c l)
variable {T : TypeId} {k : Nat} {c : α → Array Value} {B : Nat} {w w' : World} {a : Option Addr} {cap : Nat} {l : List α}
theorem OwnR.nil (T : TypeId) (k : Nat) (c : α → Array Value) (B : Nat) (w : World) : OwnR T k c B w none 0 [] := World.ownsRow_nil _ _ _ _
theorem OwnR.drew (h : OwnR T k c B w a cap l) : OwnR T k c B w.drew a cap l := h
theorem OwnR.alloc (h : OwnR T k c B w a cap l) (o : Obj) : OwnR T k c B (w.alloc o) a cap l := World.ownsRow.alloc h o
theorem OwnR.call (h : OwnR T k c B w a cap l) (hb : Below w.heap.size w w') : OwnR T k c B w' a cap l := by
  obtain ⟨h1, h2⟩ := h
  refine ⟨h1, ?_⟩
  rcases h2 with h2 | ⟨g, c, cur, e, hB, hg, h3⟩
  · exact .inl h2
  · exact .inr ⟨g, c, cur, e, hB, (hb.block g (Array.getElem?_eq_some_iff.1 hg).1).trans hg, h3⟩
theorem OwnR.base {C : Nat} (h : OwnR T k c B w a cap l) (hg : ∀ g, (Value.slice a l.length cap).ownBlock = some g → C ≤ g) : OwnR T k c C w a cap l := by
  obtain ⟨h1, h2⟩ := h
  refine ⟨h1, ?_⟩
  rcases h2 with h2 | ⟨g, c, cur, e, hB, hg2, h3⟩
  · exact .inl h2
  · refine .inr ⟨g, c, cur, e, hg g ?_, hg2, h3⟩
    rw [e]; rfl
theorem OwnR.mono {C : Nat} (h : OwnR T k c B w a cap l) (hC : C ≤ B) : OwnR T k c C w a cap l :=
  h.base fun g hg => Nat.le_trans hC (World.ownsRow.lt h g hg).1
theorem OwnR.capy (h : OwnR T k c B w a cap l) : l.length ≤ cap ∧ cap ≤ maxLen := by
  rcases h.2 with ⟨e, hn⟩ | ⟨g, c, cur, e, hB, hg, hn, hc, hs, ht⟩
  · injection e with _ _ e3
    subst e3
    exact ⟨by omega, Nat.zero_le _⟩
  · injection e with e1 e2 e3
    subst e3
    exact ⟨hn, hc⟩
/-- The record at a place, its cells. -/
theorem OwnR.at (h : OwnR T k c B w a cap l) (hk : ∀ x, (c x).size = k) {j : Nat} {x : α} (hj : l[j]? = some x) :
    ∃ g, a = some ⟨g, 0, none⟩ ∧ B ≤ g ∧ g < w.heap.size ∧ ∀ m, m < k → w.cell? ⟨g, j * k + m, none⟩ = (c x)[m]? := by
  have hlt := (List.getElem?_eq_some_iff.1 hj).1
  rcases h.2 with ⟨e, hn⟩ | ⟨g, cp, cur, e, hB, hg, hn, hc, hs, ht⟩
  · omega
  · injection e with e1 e2 e3
    subst e1 e3
    refine ⟨g, rfl, hB, (World.ownsRow.lt h g rfl).2, fun m hm => ?_⟩
    have hjm : j * k + m < l.length * k := by
      have h1 : (j + 1) * k ≤ l.length * k := Nat.mul_le_mul_right _ hlt
      rw [Nat.succ_mul] at h1; omega
    rw [World.ownsRow.cellAt h (j * k + m) hjm]
    exact rcs_at hk l j x hj m hm
/-- A store elsewhere. -/
theorem OwnR.other (h : OwnR T k c B w a cap l) {g o : Nat} (hg : g < B) (v : Value) : OwnR T k c B (w.setCell ⟨g, o, none⟩ v) a cap l := by
  obtain ⟨h1, h2⟩ := h
  refine ⟨h1, ?_⟩
  rcases h2 with h2 | ⟨q, c, cur, e, hB, hq, h3⟩
  · exact .inl h2
  · exact .inr ⟨q, c, cur, e, hB, (heap_setCell_other w _ q v (fun e => by have e2 : q = g := e; omega)).trans hq, h3⟩
theorem OwnR.lt (h : OwnR T k c B w a cap l) : ∀ g, (Value.slice a l.length cap).ownBlock = some g → B ≤ g ∧ g < w.heap.size := World.ownsRow.lt h
/-- append of one record, at the operation's run. -/
theorem run_append_r {TS ty : TypeId} {bytes : Nat} {z : Value} (hT : RecT T TS k bytes z) (h1c : ∀ x, ∀ u ∈ (c x).toList, u.oneCell' = true) (hk : ∀ x, (c x).size = k)
    (hown : OwnR T k c B w a cap l) (n : Nat) (hn : l.length = n) (g c' : Nat) (x : α) (hc : w.heap[g]? = some (.cells (c x) T (0, 0))) (hlen : n < 100000000) (hbase : B ≤ w.heap.size) :
    ∃ g1 cap1 w', (Builtin.append_ #[TS, TS] ty #[.slice a n cap, .slice (some ⟨g, 0, none⟩) 1 c']).run Try.prog w = .ok (.slice (some ⟨g1, 0, none⟩) (n + 1) cap1) w' ∧
      OwnR T k c B w' (some ⟨g1, 0, none⟩) cap1 (l ++ [x]) ∧ w.grownBy w' (Value.slice a n cap).ownBlock ∧ ((Value.slice a n cap).ownBlock = some g1 ∨ g1 = w.heap.size) := by
  subst hn
  obtain ⟨i0, hi0, hz0, hz1, hz2⟩ := info_parts hT.info
  have hsrc : Src Try.prog k TS (.slice (some ⟨g, 0, none⟩) 1 c') 1 (c x).toList w :=
    Src.ofSlice w hT.under ⟨g, 0, none⟩ 1 c' (c x).toList (by rw [Array.length_toList, hk, Nat.one_mul]) (World.news_of_block hc) (h1c x)
  have hown0 : w.ownsRow 0 T k (.slice a l.length cap) l.length (rcs c l) := OwnR.mono hown (Nat.zero_le _)
  have hf := hT.few
  obtain ⟨ad, cap1, w', hr, h2, h3, h4⟩ := run_append_src (P := Try.prog) w TS TS ty T i0 z k bytes hT.under hi0 hz0 hz1 hz2 hT.zk _ l.length (rcs c l) hown0 _ 1 (c x).toList hsrc (by omega)
    (Nat.le_trans (Nat.mul_le_mul (show l.length + 1 ≤ 100000000 by omega) hf) (by decide))
  have h2' : OwnR T k c 0 w' ad cap1 (l ++ [x]) := by unfold OwnR; rw [rcs_snoc, List.length_append]; exact h2
  rcases h2.2 with ⟨e, hn⟩ | ⟨g1, cp, cur, e, hB, hg, hn, hcc, hs, ht⟩
  · omega
  · injection e with e1 e2 e3
    subst e1 e3
    refine ⟨g1, _, w', hr, h2'.base fun q hq => ?_, h3, ?_⟩
    · have hq' : g1 = q := by simpa [Value.ownBlock] using hq
      subst hq'
      rcases h4 g1 rfl with e | ⟨e, -⟩
      · exact (World.ownsRow.lt hown g1 e).1
      · omega
    · rcases h4 g1 rfl with e | ⟨e, -⟩
      · exact .inl e
      · exact .inr e
theorem wpList_append_r {ops : Array Oper} {rest : List Oper} {o : Oper} {act : Act} {Q : Exit → Act → World → Prop} {w0 : World} (hgd : o.guard = none) (s x : Operand) (TS : TypeId)
    (ho : o.op = .call { callee := .builtin .append, args := #[s, x], argTypes := #[TS, TS] }) {bytes : Nat} {z : Value} (hT : RecT T TS k bytes z)
    (h1c : ∀ x, ∀ u ∈ (c x).toList, u.oneCell' = true) (hk : ∀ x, (c x).size = k)
    (hown : OwnR T k c B w a cap l) (n : Nat) (hn : l.length = n) (hs : act.eval s = .slice a n cap)
    (g c' : Nat) (y : α) (hx : act.eval x = .slice (some ⟨g, 0, none⟩) 1 c') (hc : w.heap[g]? = some (.cells (c y) T (0, 0)))
    (hlen : n < 100000000) (hbase : B ≤ w.heap.size) (hb0 : Below B w0 w)
    (h : ∀ g1 cap1 w', OwnR T k c B w' (some ⟨g1, 0, none⟩) cap1 (l ++ [y]) → Below B w0 w' → w.grownBy w' (Value.slice a n cap).ownBlock → ((Value.slice a n cap).ownBlock = some g1 ∨ g1 = w.heap.size) →
      wpList Try.prog ops Q rest (act.put o.dst (.slice (some ⟨g1, 0, none⟩) (n + 1) cap1)) w') : wpList Try.prog ops Q (o :: rest) act w :=
  wpList_plain hgd fun K hK => by
    obtain ⟨g1, cap1, w', hr, h2, h3, h4⟩ := run_append_r (ty := o.type) hT h1c hk hown n hn g c' y hc hlen hbase
    unfold Oper.wp execOp
    simp only [ho, resolve, invoke, builtin, Sem.run_bind, Sem.run_pure, Result.andThen_ok, List.map_toArray, List.map_cons, List.map_nil, hs, hx, hr]
    subst hn
    exact hK _ _ (h g1 cap1 w' h2 (hb0.grown h3 hbase (fun k hk => (World.ownsRow.lt hown k hk).1)) h3 h4)
theorem step_append_r {ops : Array Oper} {o : Oper} {act : Act} {K : Act → World → Prop} {Q : Exit → Act → World → Prop} {E : Prop} {w0 : World} (hgd : o.guard = none) (s x : Operand) (TS : TypeId)
    (ho : o.op = .call { callee := .builtin .append, args := #[s, x], argTypes := #[TS, TS] }) {bytes : Nat} {z : Value} (hT : RecT T TS k bytes z)
    (h1c : ∀ x, ∀ u ∈ (c x).toList, u.oneCell' = true) (hk : ∀ x, (c x).size = k)
    (hown : OwnR T k c B w a cap l) (n : Nat) (hn : l.length = n) (hs : act.eval s = .slice a n cap)
    (g c' : Nat) (y : α) (hx : act.eval x = .slice (some ⟨g, 0, none⟩) 1 c') (hc : w.heap[g]? = some (.cells (c y) T (0, 0)))
    (hlen : n < 100000000) (hbase : B ≤ w.heap.size) (hb0 : Below B w0 w)
    (h : ∀ g1 cap1 w', OwnR T k c B w' (some ⟨g1, 0, none⟩) cap1 (l ++ [y]) → Below B w0 w' → w.grownBy w' (Value.slice a n cap).ownBlock → ((Value.slice a n cap).ownBlock = some g1 ∨ g1 = w.heap.size) →
      K (act.put o.dst (.slice (some ⟨g1, 0, none⟩) (n + 1) cap1)) w') :
    if Region.wanted o (yielded ops act.tmps) = true then Oper.wp Try.prog o act w K Q else E := by
  have hw : Region.wanted o (yielded ops act.tmps) = true := by simp [Region.wanted, hgd]
  rw [if_pos hw]
  obtain ⟨g1, cap1, w', hr, h2, h3, h4⟩ := run_append_r (ty := o.type) hT h1c hk hown n hn g c' y hc hlen hbase
  unfold Oper.wp execOp
  simp only [ho, resolve, invoke, builtin, Sem.run_bind, Sem.run_pure, Result.andThen_ok, List.map_toArray, List.map_cons, List.map_nil, hs, hx, hr]
  subst hn
  exact h g1 cap1 w' h2 (hb0.grown h3 hbase (fun k hk => (World.ownsRow.lt hown k hk).1)) h3 h4
end
end Go.Proofs.Ytnkkbinbeildmaa
