/- MC4, what is wanted of it. -/
import Derived.Test.YtdfkpjmljaanpaaGreatDoorZMC3
import Derived.Test.YtdfkpjmljaanpaaGreatDoorZMC1
import Derived.StillTailTactics
import Derived.Deep.AppendLies
namespace Go.Proofs.YtdfkpjmljaanpaaGreatDoor
open Go.RowKit
open Cn
end Go.Proofs.YtdfkpjmljaanpaaGreatDoor
namespace Go.Proofs.YtdfkpjmljaanpaaGreatDoor
open Go.RowKit
open Cn
def zeroIt : Value := .agg #[.int .i64 0, .int .i64 0, .string ⟨#[]⟩, .slice none 0 0]
/-- How a reading of an item ends. -/
def ItPost (s : ByteArray) (g ow : Nat) (w : World) (R : Except Int (Pt × Nat × List UInt8)) (e : Ending) (w' : World) : Prop :=
  RdKept g w w' ∧ match R with
    | .error x => x ≠ 0 ∧ e = .returned (.tuple #[zeroIt, .int .i64 x])
    | .ok (x, q, r) => ∃ it : It, it.pure = x ∧ e = .returned (.tuple #[it.val, .int .i64 0]) ∧ (it.In w' (w.heap.size ≤ ·) ∧ it.l.length ≤ it.cap) ∧ Rd s g q ow w' ∧ q ≤ s.size ∧ s.data.toList.drop q = r
theorem RdKept.setCells {g : Nat} {w w' : World} (h : RdKept g w w') (b : Nat) (hb : w.heap.size ≤ b) (hg : g < b) (vs : List Value) (o : Nat) : RdKept g w (w'.setCells b o vs) :=
  ⟨below_setCells b (by omega) _ _ _ h.1, fun i hi hne => (c_heap_setCells_other b i (by omega) vs o w').trans (h.2 i hi hne)⟩
theorem Rd.setCells {s : ByteArray} {g p ow : Nat} {w : World} (h : Rd s g p ow w) (b : Nat) (hb : g < b) (vs : List Value) (o : Nat) : Rd s g p ow (w.setCells b o vs) :=
  (c_heap_setCells_other b g (by omega) vs o w).trans h
theorem extract_data (s : ByteArray) (a b : Nat) : (s.extract a b).data.toList = (s.data.toList.drop a).take (b - a) := by
  rw [ByteArray.data_extract, Array.toList_extract, List.extract_eq_take_drop]
end Go.Proofs.YtdfkpjmljaanpaaGreatDoor
namespace Go.Proofs.YtdfkpjmljaanpaaGreatDoor
open Go.RowKit
open Cn
/-- The cells of items, one behind the other. -/
def flat : List It → List Value
  | [] => []
  | x :: r => x.cells.toList ++ flat r
theorem flat_append : ∀ a b, flat (a ++ b) = flat a ++ flat b
  | [], b => rfl
  | x :: r, b => by simp [flat, flat_append r b]
theorem flat_get : ∀ (l : List It) (j : Nat) (x : It) (m : Nat), l[j]? = some x → m < 4 → (flat l)[j * 4 + m]? = x.cells[m]?
  | [], j, x, m, h, _ => by simp at h
  | y :: r, 0, x, m, h, hm => by
    simp at h
    subst h
    rw [flat, Nat.zero_mul, Nat.zero_add, List.getElem?_append_left (by simp [It.cells]; omega)]
    simp
  | y :: r, j + 1, x, m, h, hm => by
    rw [flat, List.getElem?_append_right (by simp [It.cells]; omega)]
    have := flat_get r j x m (by simpa using h) hm
    rw [← this]
    congr 1
    simp [It.cells]
    omega
/-- What was read ahead of the rest. -/
def comb (done : List Pt) : Except Int (List Pt × Nat × List UInt8) → Except Int (List Pt × Nat × List UInt8)
  | .error e => .error e
  | .ok (ys, q, r) => .ok (done ++ ys, q, r)
theorem comb_step {f : Nat → Nat → List UInt8 → Except Int (Pt × Nat × List UInt8)} {done : List Pt} {n ow p : Nat} {l : List UInt8} {x : Pt} {p' : Nat} {l' : List UInt8} (h : f (ow + n) p l = .ok (x, p', l')) :
    comb done (items f (n + 1) ow p l) = comb (done ++ [x]) (items f n ow p' l') := by
  rw [items, h]
  simp only
  cases items f n ow p' l' with
  | error e => rfl
  | ok y => obtain ⟨ys, q, r⟩ := y; simp [comb]
/-- A list in the making: i of n items are read. -/
structure Listing (s : ByteArray) (g ow n d q0 : Nat) (w : World) (i : Nat) (xs : List It) (a : Option Addr) (cap q : Nat) (wr : World) : Prop where
  len : xs.length = i
  own : wr.ownsRow (w.heap.size + 1) 184 4 (.slice a i cap) i (flat xs)
  all : It.InAll wr (fun b => w.heap.size < b ∧ (Value.slice a i cap).ownBlock ≠ some b) xs
  rd : Rd s g q (ow + (n - i)) wr
  kept : RdKept g w wr
  place : q ≤ s.size ∧ q + (n - i) + ow ≤ 65536
  res : wr.heap[w.heap.size]? = some (.cells #[.int .i64 0, .int .i64 0, .string ⟨#[]⟩, .slice none 0 0] 184 (0, 0))
  rest : items (item d) n ow q0 (s.data.toList.drop q0) = comb (It.pureAll xs) (items (item d) (n - i) ow q (s.data.toList.drop q))
theorem RdKept.grown {g : Nat} {w w' w'' : World} {row : Option Nat} (h : RdKept g w w') (hg : w'.grownBy w'' row) (hr : ∀ k, row = some k → w.heap.size ≤ k) (hgl : g < w.heap.size) : RdKept g w w'' :=
  ⟨h.1.grown hg (by have := h.1.size; omega) (fun k hk => by have := hr k hk; omega), fun b hb hne => (hg.block b (by have := h.1.size; omega) (fun e => by have := hr b e.symm; omega)).trans (h.2 b hb hne)⟩
theorem RdKept.by {g : Nat} {w w' : World} (h : RdKept g w w') : w.grownBy w' (some g) := ⟨h.1.os, h.1.tape, h.1.output, h.1.size, fun k hk hne => h.2 k hk (fun e => hne (by rw [e]))⟩
theorem ownBlock_lt {s : ByteArray} {g ow n d q0 : Nat} {w : World} {i : Nat} {xs : List It} {a : Option Addr} {cap q : Nat} {wr : World} (h : Listing s g ow n d q0 w i xs a cap q wr) :
    ∀ k, (Value.slice a i cap).ownBlock = some k → w.heap.size < k ∧ k < wr.heap.size := fun k hk => by have := h.own.lt k hk; omega
theorem Listing.start {s : ByteArray} {g ow n d q : Nat} {w wr : World} (hrd : Rd s g q (ow + n) wr) (hk : RdKept g w wr) (hq : q ≤ s.size) (hp : q + n + ow ≤ 65536)
    (hres : wr.heap[w.heap.size]? = some (.cells #[.int .i64 0, .int .i64 0, .string ⟨#[]⟩, .slice none 0 0] 184 (0, 0))) : Listing s g ow n d q w 0 [] none 0 q wr where
  len := rfl
  own := World.ownsRow_nil wr _ _ _
  all := trivial
  rd := hrd
  kept := hk
  place := ⟨hq, hp⟩
  res := hres
  rest := by
    rw [Nat.sub_zero]
    cases items (item d) n ow q (s.data.toList.drop q) with
    | error e => rfl
    | ok y => obtain ⟨ys, q, r⟩ := y; rfl
/-- One item more. -/
theorem Listing.next {s : ByteArray} {g ow n d q0 : Nat} {w : World} {i : Nat} {xs : List It} {a : Option Addr} {cap q : Nat} {wr wA w4 w6 : World} {it : It} {q' : Nat} {o1 o2 : Obj} {g' cap' : Nat}
    (h : Listing s g ow n d q0 w i xs a cap q wr) (hgl : g < w.heap.size) (hin : i < n) (hA : RdKept g wr wA) (hAs : wA.heap.size = wr.heap.size)
    (hx : item d (ow + (n - i - 1)) q (s.data.toList.drop q) = .ok (it.pure, q', s.data.toList.drop q')) (h4 : RdKept g wA w4) (hit : it.In w4 (wA.heap.size ≤ ·)) (hrd : Rd s g q' (ow + (n - i - 1)) w4) (hq' : q' ≤ s.size)
    (hown : w6.ownsRow (w.heap.size + 1) 184 4 (.slice (some ⟨g', 0, none⟩) (i + 1) cap') (i + 1) (flat xs ++ it.cells.toList)) (hgr : ((w4.alloc o1).alloc o2).grownBy w6 (Value.slice a i cap).ownBlock)
    (hat : (Value.slice a i cap).ownBlock = some g' ∨ g' = w4.heap.size + 2) : Listing s g ow n d q0 w (i + 1) (xs ++ [it]) (some ⟨g', 0, none⟩) cap' q' w6 := by
  have hob := ownBlock_lt h
  have s1 := hA.size
  have s4 := h4.size
  have sw := lt_of_heap h.res
  have s5 : ((w4.alloc o1).alloc o2).heap.size = w4.heap.size + 2 := by simp
  have s6 := hgr.size
  have hg'own : (Value.slice (some ⟨g', 0, none⟩) (i + 1) cap').ownBlock = some g' := rfl
  have keep : ∀ b, b < w4.heap.size → (Value.slice a i cap).ownBlock ≠ some b → w6.heap[b]? = w4.heap[b]? := fun b hb hne => by
    rw [hgr.block b (by omega) (fun e => hne e.symm), Lib.alloc_old _ _ _ (by simp; omega), Lib.alloc_old _ _ _ hb]
  have hgw : (Value.slice a i cap).ownBlock ≠ some g := fun e => by have := hob g e; omega
  have hk : RdKept g w ((w4.alloc o1).alloc o2) := (((h.kept.trans hA).trans h4).alloc hgl o1).alloc hgl o2
  obtain ⟨i1, i2, i3, i4⟩ := item_ok _ _ _ _ _ _ _ hx
  exact {
    len := by simp [h.len]
    own := by rw [flat_append]; simpa [flat] using hown
    all := by
      refine It.inAll_of fun y hy => ?_
      rcases List.mem_append.1 hy with hy | hy
      · have e1 : ∀ b, (Value.slice a i cap).ownBlock ≠ some b → b < wr.heap.size → (Value.slice (some ⟨g', 0, none⟩) (i + 1) cap').ownBlock ≠ some b := fun b hb hlt => by
          rw [hg'own]
          rcases hat with e | e
          · rw [← e]; exact hb
          · intro e2; have := Option.some.inj e2; omega
        exact It.In.kept (S := fun b => w.heap.size < b ∧ (Value.slice a i cap).ownBlock ≠ some b) (w := wr) ⟨fun b hb hlt => ⟨⟨hb.1, e1 b hb.2 hlt⟩, by rw [keep b (by omega) hb.2, h4.2 b (by omega) (by have := hb.1; omega), hA.2 b hlt (by have := hb.1; omega)]⟩, by omega⟩ y (It.inAll_mem h.all y hy)
      · obtain rfl := List.mem_singleton.1 hy
        have e1 : ∀ b, wA.heap.size ≤ b → b < w4.heap.size → (Value.slice (some ⟨g', 0, none⟩) (i + 1) cap').ownBlock ≠ some b := fun b hb hlt => by
          rw [hg'own]
          rcases hat with e | e
          · intro e2; have h1 := Option.some.inj e2; have := hob g' e; omega
          · intro e2; have := Option.some.inj e2; omega
        exact It.In.kept (S := (wA.heap.size ≤ ·)) (w := w4) ⟨fun b hb hlt => ⟨⟨by have : wA.heap.size ≤ b := hb; omega, e1 b hb hlt⟩, keep b hlt (fun e => by have := hob b e; have : wA.heap.size ≤ b := hb; omega)⟩, by omega⟩ _ hit
    rd := by
      have : ow + (n - (i + 1)) = ow + (n - i - 1) := by omega
      rw [this]
      exact (keep g (by omega) hgw).trans hrd
    kept := hk.grown hgr (fun k hk => by have := hob k hk; omega) hgl
    place := ⟨hq', by omega⟩
    res := by
      rw [keep _ (by omega) (fun e => by have := hob _ e; omega), h4.2 _ (by omega) (by omega), hA.2 _ (by have := lt_of_heap h.res; omega) (by omega)]
      exact h.res
    rest := by
      rw [h.rest, show n - i = n - (i + 1) + 1 by omega, comb_step (x := it.pure) (p' := q') (l' := s.data.toList.drop q') (by rw [show ow + (n - (i + 1)) = ow + (n - i - 1) by omega]; exact hx), pureAll_append]
      rfl }
end Go.Proofs.YtdfkpjmljaanpaaGreatDoor
namespace Go.Proofs.YtdfkpjmljaanpaaGreatDoor
open Go.RowKit
open Cn
end Go.Proofs.YtdfkpjmljaanpaaGreatDoor
namespace Go.Proofs.YtdfkpjmljaanpaaGreatDoor
open Go.RowKit
open Cn
abbrev zc : Array Value := #[.int .i64 0, .int .i64 0, .string ⟨#[]⟩, .slice none 0 0]
/-- The world behind 'var result': the new block, the reader as it was. -/
structure Begun (s : ByteArray) (g p ow : Nat) (w W : World) : Prop where
  row : W.heap[w.heap.size]? = some (.cells zc 184 (0, 0))
  rd : Rd s g p ow W
  kept : RdKept g w W
theorem Begun.call {s : ByteArray} {g p ow q : Nat} {w W W' : World} (h : Begun s g p ow w W) (hgl : g < w.heap.size) (hr : Rd s g q ow W') (hk : RdKept g W W') : Begun s g q ow w W' :=
  ⟨(hk.2 _ (lt_of_heap h.row) (by omega)).trans h.row, hr, h.kept.trans hk⟩
theorem ItPost.shape {s : ByteArray} {g ow : Nat} {w w' : World} {R : Except Int (Pt × Nat × List UInt8)} {e : Ending} (h : ItPost s g ow w R e w') :
    ∃ k n s' a len cap x, e = .returned (.tuple #[.agg #[.int .i64 k, .int .i64 n, .string s', .slice a len cap], .int .i64 x]) := by
  obtain ⟨-, h⟩ := h
  cases R with
  | error x => exact ⟨_, _, _, _, _, _, _, h.2⟩
  | ok y =>
    obtain ⟨x, q, r⟩ := y
    obtain ⟨it, -, he, -⟩ := h
    exact ⟨_, _, _, _, _, _, _, he⟩
theorem ItPost.store {s : ByteArray} {g ow : Nat} {w w2 w3 : World} {R : Except Int (Pt × Nat × List UInt8)} {e : Ending} (h : ItPost s g ow w2 R e w3) (hgl : g < w.heap.size) (hk : RdKept g w w2) (hs : w.heap.size < w2.heap.size) (vs : List Value) :
    ItPost s g ow w R e (w3.setCells w.heap.size 0 vs) := by
  obtain ⟨h0, h⟩ := h
  refine ⟨(hk.trans h0).setCells _ (Nat.le_refl _) hgl vs 0, ?_⟩
  cases R with
  | error x => exact h
  | ok y =>
    obtain ⟨x, q, r⟩ := y
    obtain ⟨it, h1, h2, ⟨h3, h3c⟩, h4, h5, h6⟩ := h
    refine ⟨it, h1, h2, ⟨It.In.kept ⟨fun b hb _ => ⟨by have : w2.heap.size ≤ b := hb; omega, c_heap_setCells_other _ _ (by have : w2.heap.size ≤ b := hb; omega) _ _ _⟩, by rw [c_size_setCells]; exact Nat.le_refl _⟩ it h3, h3c⟩, h4.setCells _ hgl vs 0, h5, h6⟩
end Go.Proofs.YtdfkpjmljaanpaaGreatDoor
