/- The reference's reader of items: what its lists are in memory; what was read ahead of the rest. -/
import Derived.Test.YtgoimggfpagojaaCRRd
import Derived.Test.YtgoimggfpagojaaMB
namespace Go.Proofs.Ytgoimggfpagojaa
open Go.RowKit
open Cn

/-- What was read ahead of the rest. -/
theorem rcomb_step {f : Nat → List UInt8 → Except Int (Pt × Nat × List UInt8)} {done : List Pt} {n p : Nat} {l : List UInt8} {x : Pt} {p' : Nat} {l' : List UInt8} (h : f p l = .ok (x, p', l')) :
    comb done (ritems f (n + 1) p l) = comb (done ++ [x]) (ritems f n p' l') := by
  rw [ritems, h]
  simp only
  cases ritems f n p' l' with
  | error e => rfl
  | ok y => obtain ⟨ys, q, r⟩ := y; simp [comb]
theorem rcomb_err {f : Nat → List UInt8 → Except Int (Pt × Nat × List UInt8)} {done : List Pt} {n p : Nat} {l : List UInt8} {x : Int} (h : f p l = .error x) :
    comb done (ritems f (n + 1) p l) = .error x := by
  rw [ritems, h]; rfl
/-- The item that item hands back, or the error. -/
def RItP (w : World) (R : Except Int (Pt × Nat × List UInt8)) (e : Ending) (w' : World) : Prop :=
  Below w.heap.size w w' ∧ match R with
    | .error x => (x = 3 ∨ x = 7) ∧ ∃ k : Int, e = .returned (.agg (rc k 0 ⟨#[]⟩ (.slice none 0 0) 0 0 x))
    | .ok (x, q, _) => ∃ (it : It) (N : Int), it.pure = x ∧ e = .returned (.agg (rc it.k it.n it.s it.lv N q 0)) ∧ it.In w' (w.heap.size ≤ ·)
theorem RItP.err {w w' : World} {R : Except Int (Pt × Nat × List UInt8)} {x k : Int} (hR : R = .error x) (hx : x = 3 ∨ x = 7) (hb : Below w.heap.size w w') : RItP w R (.returned (.agg (rc k 0 ⟨#[]⟩ (.slice none 0 0) 0 0 x))) w' := by
  rw [hR]; exact ⟨hb, hx, k, rfl⟩
theorem rdig_err : ∀ k f acc p l x, rdig k f acc p l = .error x → x = 3 ∨ x = 7
  | 0, f, acc, p, l, x, h => by cases h
  | k + 1, f, acc, p, l, x, h => by
    rw [rdig] at h
    split at h
    · rename_i e ho
      injection h with h
      subst h
      exact oct_err ho
    · split at h
      · left; injection h with h; exact h.symm
      · exact rdig_err k _ _ _ _ x h
theorem rnum_err {p : Nat} {l : List UInt8} {x : Int} (h : rnum p l = .error x) : x = 3 ∨ x = 7 := by
  unfold rnum at h
  split at h
  · rename_i e ho
    injection h with h
    subst h
    exact oct_err ho
  · split at h
    · left; injection h with h; exact h.symm
    · split at h
      · rename_i e hd
        injection h with h
        subst h
        exact rdig_err _ _ _ _ _ _ hd
      · cases h
theorem rest_drop {l : List UInt8} {p n q : Nat} {a r : List UInt8} (h : l.drop p = a ++ r) (hn : a.length = n) (hq : q = p + n) : r = l.drop q := by
  subst hn hq
  have := congrArg (List.drop a.length) h
  rw [List.drop_drop, List.drop_left] at this
  exact this.symm
/-- Four cells stored over a Read's item. -/
theorem rc_set4 {W : World} {b : Nat} {k n : Int} {s : ByteArray} {l : Value} {N A E : Int} (h : W.heap[b]? = some (.cells (rc k n s l N A E) 91 (0, 0))) (k' n' : Int) (s' : ByteArray) (l' : Value) :
    (W.setCells b 0 [.int .i64 k', .int .i64 n', .string s', l']).heap[b]? = some (.cells (rc k' n' s' l' N A E) 91 (0, 0)) := by
  obtain ⟨c', h1, h2, h3⟩ := c_heap_setCells b 91 [.int .i64 k', .int .i64 n', .string s', l'] 0 W (rc k n s l N A E) h (by simp [rc])
  have : c' = rc k' n' s' l' N A E := by
    refine Array.ext_getElem? fun i => ?_
    rw [h3]
    unfold rc
    rcases (by omega : i = 0 ∨ i = 1 ∨ i = 2 ∨ i = 3 ∨ i = 4 ∨ i = 5 ∨ i = 6 ∨ 7 ≤ i) with rfl | rfl | rfl | rfl | rfl | rfl | rfl | hi
    all_goals try rfl
    rw [if_neg (by simp; omega), Array.getElem?_eq_none (by simp; omega), Array.getElem?_eq_none (by simp; omega)]
  rw [← this]
  exact h1
theorem info_rit : (Try.prog.info? 65).map (fun i => (i.zero, i.size, i.bytes)) = some (some (.agg #[.int .i64 0, .int .i64 0, .string ⟨#[]⟩, .slice none 0 0]), 4, 56) := by kernel_rfl
/-- A list in the making: i of n items are read; its boxes lie below B. -/
structure RList (L : Nat → List UInt8) (w : World) (g2 g3 B n d q0 : Nat) (A : Int) (i : Nat) (xs : List It) (a : Option Addr) (cap q : Nat) (wr : World) : Prop where
  below : Below w.heap.size w wr
  zero : wr.heap[w.heap.size]? = some (.cells (zrd 0 0 0) 91 (0, 0))
  row2 : wr.heap[g2]? = some (.cells (zrd n A 0) 91 (0, 0))
  row3 : wr.heap[g3]? = some (.cells #[.int .i64 3, .int .i64 0, .string ⟨#[]⟩, .slice a i cap] 65 (0, 0))
  gl : w.heap.size < g2 ∧ g2 < g3 ∧ g3 < B
  len : xs.length = i
  own : wr.ownsRow 0 65 4 (.slice a i cap) i (flat xs)
  ownB : ∀ g, (Value.slice a i cap).ownBlock = some g → B ≤ g
  all : It.InAll wr (fun b => B ≤ b ∧ (Value.slice a i cap).ownBlock ≠ some b) xs
  big : B ≤ wr.heap.size
  rest : ritems (ritem d) n q0 (L q0) = comb (It.pureAll xs) (ritems (ritem d) (n - i) q (L q))
  place : q ≤ 65536
section
variable {L : Nat → List UInt8} {w : World} {g2 g3 B n d q0 : Nat} {A : Int} {i : Nat} {xs : List It} {a : Option Addr} {cap q : Nat} {wr : World}
theorem RList.call {w' : World} (h : RList L w g2 g3 B n d q0 A i xs a cap q wr) (hb : Below wr.heap.size wr w') : RList L w g2 g3 B n d q0 A i xs a cap q w' :=
  ⟨h.below.trans (hb.mono h.below.size), (hb.block _ (lt_of_heap h.zero)).trans h.zero, (hb.block _ (lt_of_heap h.row2)).trans h.row2, (hb.block _ (lt_of_heap h.row3)).trans h.row3, h.gl, h.len,
    h.own.kept (w' := w') (row := none) ⟨hb.os, hb.tape, hb.output, hb.size, fun k hk _ => hb.block k hk⟩ (by cases h : (Value.slice a i cap).ownBlock <;> simp), h.ownB,
    It.InAll.kept (keptS_any hb) _ h.all, Nat.le_trans h.big hb.size, h.rest, h.place⟩
theorem RList.ownlt (h : RList L w g2 g3 B n d q0 A i xs a cap q wr) : ∀ b, (Value.slice a i cap).ownBlock = some b → B ≤ b ∧ b < wr.heap.size := fun b hb => ⟨h.ownB b hb, (h.own.lt b hb).2⟩
theorem RList.next {w6 w7 : World} {it : It} {g' cap' q' : Nat} (h : RList L w g2 g3 B n d q0 A i xs a cap q wr) (hi : i < n) (h4 : Below wr.heap.size wr w6) (hit : it.In w6 (wr.heap.size ≤ ·))
    (hown : w7.ownsRow 0 65 4 (.slice (some ⟨g', 0, none⟩) (i + 1) cap') (i + 1) (flat xs ++ it.cells.toList)) (hgr : w6.grownBy w7 (Value.slice a i cap).ownBlock)
    (hat : (Value.slice a i cap).ownBlock = some g' ∨ g' = w6.heap.size) (hr : ritem d q (L q) = .ok (it.pure, q', L q')) (hq : q' ≤ 65536) :
    RList L w g2 g3 B n d q0 A (i + 1) (xs ++ [it]) (some ⟨g', 0, none⟩) cap' q' (w7.setCell ⟨g3, 3, none⟩ (.slice (some ⟨g', 0, none⟩) (i + 1) cap')) := by
  have hob := h.ownlt
  have l0 := lt_of_heap h.zero
  have l2 := lt_of_heap h.row2
  have l3 := lt_of_heap h.row3
  have gl := h.gl
  have bg := h.big
  have s4 := h4.size
  have s7 := hgr.size
  have hg' : B ≤ g' := by
    rcases hat with e | e
    · exact (hob g' e).1
    · omega
  have keep : ∀ b, b < w6.heap.size → (Value.slice a i cap).ownBlock ≠ some b → w7.heap[b]? = w6.heap[b]? := fun b hb hne => hgr.block b hb (fun e => hne e.symm)
  have low : ∀ b, b < B → b < wr.heap.size → w7.heap[b]? = wr.heap[b]? := fun b hb hl => by
    rw [keep b (by omega) (fun e => by have := hob b e; omega), h4.block b hl]
  have set' : ∀ b, b ≠ g3 → (w7.setCell ⟨g3, 3, none⟩ (.slice (some ⟨g', 0, none⟩) (i + 1) cap')).heap[b]? = w7.heap[b]? := fun b hb => heap_setCell_other _ _ _ _ hb
  have ss : (w7.setCell ⟨g3, 3, none⟩ (.slice (some ⟨g', 0, none⟩) (i + 1) cap')).heap.size = w7.heap.size := by simp [World.setCell]
  exact {
    below := ((h.below.trans (h4.mono h.below.size)).grown hgr (by have := h.below.size; omega) (fun b hb => by have := hob b hb; omega)).setCell (p := ⟨g3, 3, none⟩) (by show w.heap.size ≤ g3; omega) _
    zero := by rw [set' _ (by omega), low _ (by omega) l0]; exact h.zero
    row2 := by rw [set' _ (by omega), low _ (by omega) l2]; exact h.row2
    row3 := by
      have h1 : w7.heap[g3]? = some (.cells #[.int .i64 3, .int .i64 0, .string ⟨#[]⟩, .slice a i cap] 65 (0, 0)) := (low _ (by omega) l3).trans h.row3
      rw [heap_setCell_same _ _ _ _ _ _ h1]
      rfl
    gl := gl
    len := by simp [h.len]
    own := by
      rw [flat_append]
      have h1 := hown.kept (w' := w7.setCell ⟨g3, 3, none⟩ (.slice (some ⟨g', 0, none⟩) (i + 1) cap')) (row := some g3) ⟨rfl, rfl, rfl, by rw [ss]; exact Nat.le_refl _, fun b _ hb => set' b (fun e => hb (by rw [e]))⟩ (Or.inr (fun e => by
        have h3 : g' = g3 := Option.some.inj e
        omega))
      simpa [flat] using h1
    ownB := fun b hb => by
      have : g' = b := by simpa [Value.ownBlock] using hb
      omega
    all := by
      refine It.inAll_of fun y hy => ?_
      rcases List.mem_append.1 hy with hy | hy
      · have e1 : ∀ b, (Value.slice a i cap).ownBlock ≠ some b → b < wr.heap.size → (Value.slice (some ⟨g', 0, none⟩) (i + 1) cap').ownBlock ≠ some b := fun b hb hlt e2 => by
          have h3 : g' = b := Option.some.inj e2
          rcases hat with e | e
          · exact hb (by rw [e, h3])
          · omega
        exact It.In.kept (S := fun b => B ≤ b ∧ (Value.slice a i cap).ownBlock ≠ some b) (w := wr) ⟨fun b hb hlt => ⟨⟨hb.1, e1 b hb.2 hlt⟩, by rw [set' b (by have := hb.1; omega), keep b (by omega) hb.2, h4.block b hlt]⟩, by omega⟩ y (It.inAll_mem h.all y hy)
      · obtain rfl := List.mem_singleton.1 hy
        have e1 : ∀ b, wr.heap.size ≤ b → b < w6.heap.size → (Value.slice (some ⟨g', 0, none⟩) (i + 1) cap').ownBlock ≠ some b := fun b hb hlt e2 => by
          have h3 : g' = b := Option.some.inj e2
          rcases hat with e | e
          · have := hob g' e; omega
          · omega
        exact It.In.kept (S := (wr.heap.size ≤ ·)) (w := w6) ⟨fun b hb hlt => ⟨⟨by have : wr.heap.size ≤ b := hb; omega, e1 b hb hlt⟩, by rw [set' b (by have : wr.heap.size ≤ b := hb; omega), keep b hlt (fun e => by have := hob b e; have : wr.heap.size ≤ b := hb; omega)]⟩, by omega⟩ _ hit
    big := by omega
    rest := by
      have h1 : n - i = n - (i + 1) + 1 := by omega
      rw [h.rest, h1, rcomb_step hr, It.pureAll_eq, It.pureAll_eq, List.map_append]; rfl
    place := hq }
theorem RList.err {x : Int} (h : RList L w g2 g3 B n d q0 A i xs a cap q wr) (hi : i < n) (hr : ritem d q (L q) = .error x) : ritems (ritem d) n q0 (L q0) = .error x := by
  have h1 : n - i = n - (i + 1) + 1 := by omega
  rw [h.rest, h1, rcomb_err hr]
/-- The end: the list is read. -/
theorem RList.done {R : Except Int (Pt × Nat × List UInt8)} (h : RList L w g2 g3 B n d q0 A n xs a cap q wr) (hn : n ≤ maxLen)
    (hR : R = match ritems (ritem d) n q0 (L q0) with | .error e => .error e | .ok (xs, q', r') => .ok (.mk 3 0 ⟨#[]⟩ xs, q', r')) :
    RItP w R (.returned (.agg (rc 3 0 ⟨#[]⟩ (.slice a n cap) 0 q 0))) (wr.setCells w.heap.size 0 [.int .i64 3, .int .i64 0, .string ⟨#[]⟩, .slice a n cap, .int .i64 0, .int .i64 q, .int .i64 0]) := by
  have hob := h.ownlt
  have gl := h.gl
  have hr := h.rest
  rw [Nat.sub_self, ritems] at hr
  rw [hR, hr]
  have hk : KeptS (fun b => B ≤ b ∧ (Value.slice a n cap).ownBlock ≠ some b) (w.heap.size ≤ ·) wr (wr.setCells w.heap.size 0 [.int .i64 3, .int .i64 0, .string ⟨#[]⟩, .slice a n cap, .int .i64 0, .int .i64 q, .int .i64 0]) :=
    ⟨fun b hb _ => ⟨by have := hb.1; omega, c_heap_setCells_other _ _ (by have := hb.1; omega) _ _ _⟩, by rw [c_size_setCells]; exact Nat.le_refl _⟩
  refine ⟨below_setCells _ (Nat.le_refl _) _ _ _ h.below, .mk 3 0 ⟨#[]⟩ a cap xs, 0, ?_, ?_, ⟨Nat.zero_le _, ⟨by rw [h.len]; exact hn, fun hne => ?_⟩, It.InAll.kept hk _ h.all⟩⟩
  · rw [It.pure_eq]; show Pt.mk 3 0 ⟨#[]⟩ (It.pureAll xs) = _; rw [List.append_nil]
  · simp only [It.lv, It.k, It.n, It.s, It.a, It.l, It.cap, h.len]
  · rcases h.own.2 with ⟨_, h0⟩ | ⟨g1, cap1, cur, hv, hb, hg, hnc, hcm, hcs, htk⟩
    · exact absurd (List.eq_nil_of_length_eq_zero (by have := h.len; omega)) hne
    · injection hv with e1 e2 e3
      subst e1
      have hgB := h.ownB g1 rfl
      refine ⟨g1, 0, rfl, by rw [c_size_setCells]; exact lt_of_heap hg, by show w.heap.size ≤ g1; omega, ?_⟩
      have hsame : (wr.setCells w.heap.size 0 [.int .i64 3, .int .i64 0, .string ⟨#[]⟩, .slice (some ⟨g1, 0, none⟩) n cap, .int .i64 0, .int .i64 q, .int .i64 0]).heap[g1]? = wr.heap[g1]? := c_heap_setCells_other _ _ (by omega) _ _ _
      refine RowAt.same (w := wr) (fun j x hx => ?_) hsame
      have hc : ∀ m u, m < 4 → x.cells[m]? = some u → wr.cell? ⟨g1, 0 + j * 4 + m, none⟩ = some u := fun m u hm hu => by
        have := h.own.cells (g := g1) rfl (j * 4 + m) u (by rw [flat_get xs j x m hx hm]; exact hu)
        rw [Nat.zero_add]
        rwa [show (⟨g1, 0, none⟩ : Addr).add (j * 4 + m) = ⟨g1, j * 4 + m, none⟩ by unfold Addr.add; split <;> simp_all] at this
      exact ⟨hc 0 _ (by decide) rfl, hc 1 _ (by decide) rfl, hc 2 _ (by decide) rfl, hc 3 _ (by decide) rfl⟩
end
end Go.Proofs.Ytgoimggfpagojaa
