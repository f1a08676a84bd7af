/- Merged by program: put, Encode: an item's bytes. | Encode. | Num, Text, List (copied): items that are made. | The reader: next, room, number, count. -/
import Derived.Test.YtdfkpjmljaanpaaMC2
import Derived.Test.YtdfkpjmljaanpaaMB
import Derived.Laws.MakeOwn
import Derived.Deep.QuietTactic
import Derived.BigQuiet
import Derived.IntWalk
namespace Go.Proofs.Ytdfkpjmljaanpaa
open Go.RowKit
open Cn

/-- What was put: all of it, or too much. -/
def Put (C X D : List UInt8) : Prop := ((C ++ X).length ≤ 65536 → D = C ++ X) ∧ (65536 < (C ++ X).length → 65536 < D.length) ∧ D.length ≤ 140000
theorem Put.trans {C X D Y E : List UInt8} (h : Put C X D) (k : Put D Y E) : Put C (X ++ Y) E := by
  refine ⟨fun hl => ?_, fun hl => ?_, k.2.2⟩
  · simp only [List.length_append] at hl
    have := h.1 (by simp; omega)
    subst this
    rw [k.1 (by simp; omega), List.append_assoc]
  · by_cases hc : (C ++ X).length ≤ 65536
    · have := h.1 hc
      subst this
      exact k.2.1 (by simp at hl ⊢; omega)
    · have := h.2.1 (by omega)
      exact k.2.1 (by simp; omega)
theorem Put.whole {C X : List UInt8} (h : (C ++ X).length ≤ 140000) : Put C X (C ++ X) := ⟨fun _ => rfl, fun h => h, h⟩
theorem Put.full {C X : List UInt8} (h : 65536 < C.length) (h2 : C.length ≤ 140000) : Put C X C := ⟨fun hl => by simp at hl; omega, fun _ => h, h2⟩
theorem num_le {n : Nat} (h : n < 2 ^ 63) : (num n).length ≤ 9 := by
  rw [num_length]
  have := width_le (k := 8) (n := n) (Nat.lt_of_lt_of_le h (by decide)) (by decide)
  omega
theorem bytesAll_take (l : List It) (i : Nat) (x : It) (h : l[i]? = some x) : bytesAll (It.pureAll (l.take (i + 1))) = bytesAll (It.pureAll (l.take i)) ++ Cn.bytes x.pure := by
  rw [List.take_add_one, h, Option.toList_some, It.pureAll_eq, List.map_append, bytesAll_append, ← It.pureAll_eq]
  simp [bytesAll]
end Go.Proofs.Ytdfkpjmljaanpaa
namespace Go.Proofs.Ytdfkpjmljaanpaa
open Go.RowKit
open Cn

/-- An item's bytes, and the error. -/
def c_encS (x : Pt) : ByteArray := if may x 6 = true ∧ (Cn.bytes x).length ≤ 65536 then ⟨(Cn.bytes x).toArray⟩ else ⟨#[]⟩
def encE (x : Pt) : Int := if may x 6 = true then if (Cn.bytes x).length ≤ 65536 then 0 else 2 else 1
end Go.Proofs.Ytdfkpjmljaanpaa
namespace Go.Proofs.Ytdfkpjmljaanpaa
open Go.RowKit
open Cn

theorem lt_of_heap {w : World} {g : Nat} {o : Obj} (h : w.heap[g]? = some o) : g < w.heap.size := (Array.getElem?_eq_some_iff.1 h).1
/-- Cells that are laid over a block's cells from o on. -/
theorem c_heap_setCells (b : Nat) (t : TypeId) : ∀ (vs : List Value) (o : Nat) (w : World) (c : Array Value), w.heap[b]? = some (.cells c t (0, 0)) → o + vs.length ≤ c.size →
    ∃ c' : Array Value, (w.setCells b o vs).heap[b]? = some (.cells c' t (0, 0)) ∧ c'.size = c.size ∧ ∀ i, c'[i]? = if o ≤ i ∧ i < o + vs.length then vs[i - o]? else c[i]?
  | [], o, w, c, h, _ => ⟨c, h, rfl, fun i => by rw [if_neg (by simp)]⟩
  | v :: r, o, w, c, h, hl => by
    obtain ⟨c', h1, h2, h3⟩ := c_heap_setCells b t r (o + 1) (w.setCell ⟨b, o, none⟩ v) _ (heap_setCell_same _ _ _ _ _ _ h) (by simp at hl ⊢; omega)
    refine ⟨c', h1, by simpa using h2, fun i => ?_⟩
    rw [h3, Array.getElem?_setIfInBounds]
    simp only [List.length_cons] at hl ⊢
    by_cases e : o = i
    · subst e; rw [if_neg (by omega), if_pos rfl, if_pos (by omega), if_pos (by omega)]; simp
    · by_cases e2 : o + 1 ≤ i ∧ i < o + 1 + r.length
      · rw [if_pos e2, if_pos (by omega), show i - o = (i - (o + 1)) + 1 by omega]; simp
      · rw [if_neg e2, if_neg e, if_neg (by omega)]
theorem c_heap_setCells_other (b k : Nat) (hk : k ≠ b) : ∀ (vs : List Value) (o : Nat) (w : World), (w.setCells b o vs).heap[k]? = w.heap[k]?
  | [], _, _ => rfl
  | v :: r, o, w => (c_heap_setCells_other b k hk r (o + 1) _).trans (heap_setCell_other w _ k v hk)
theorem c_size_setCells (b : Nat) : ∀ (vs : List Value) (o : Nat) (w : World), (w.setCells b o vs).heap.size = w.heap.size
  | [], _, _ => rfl
  | v :: r, o, w => (c_size_setCells b r (o + 1) _).trans (by simp [World.setCell])
theorem pureAll_len {l l' : List It} (h : It.pureAll l = It.pureAll l') : l.length = l'.length := by
  have := congrArg List.length h
  rwa [It.pureAll_length, It.pureAll_length] at this
theorem pureAll_append (a b : List It) : It.pureAll (a ++ b) = It.pureAll a ++ It.pureAll b := by rw [It.pureAll_eq, It.pureAll_eq, It.pureAll_eq, List.map_append]
def CopyPost (l : List It) (w : World) (e : Ending) (w' : World) : Prop := ∃ a' l', e = .returned (.slice a' l.length l.length) ∧ It.pureAll l' = It.pureAll l ∧ Lies w' (w.heap.size ≤ ·) a' l' ∧ It.InAll w' (w.heap.size ≤ ·) l' ∧ Below w.heap.size w w'
/-- What List hands back. -/
def ListPost (l : List It) (w : World) (e : Ending) (w' : World) : Prop := ∃ x : It, e = .returned x.val ∧ x.pure = .mk 3 0 ⟨#[]⟩ (It.pureAll l) ∧ x.In w' (w.heap.size ≤ ·) ∧ Below w.heap.size w w'
end Go.Proofs.Ytdfkpjmljaanpaa
namespace Go.Proofs.Ytdfkpjmljaanpaa
open Go.RowKit
open Cn

/-- What a reader's call leaves: new blocks, and the reader's own. -/
def RdKept (g : Nat) (w w' : World) : Prop := Below g w w' ∧ ∀ b, b < w.heap.size → b ≠ g → w'.heap[b]? = w.heap[b]?
theorem RdKept.trans {g : Nat} {a b c : World} (h : RdKept g a b) (k : RdKept g b c) : RdKept g a c :=
  ⟨h.1.trans k.1, fun i hi hne => (k.2 i (by have := h.1.size; omega) hne).trans (h.2 i hi hne)⟩
theorem RdKept.refl (g : Nat) (w : World) : RdKept g w w := ⟨Below.refl _ _, fun _ _ _ => rfl⟩
theorem RdKept.size {g : Nat} {w w' : World} (h : RdKept g w w') : w.heap.size ≤ w'.heap.size := h.1.size
theorem RdKept.setCell {g : Nat} {w w' : World} (h : RdKept g w w') (i : Nat) (v : Value) : RdKept g w (w'.setCell ⟨g, i, none⟩ v) :=
  ⟨h.1.setCell (p := ⟨g, i, none⟩) (Nat.le_refl _) v, fun b hb hne => (heap_setCell_other w' _ b v hne).trans (h.2 b hb hne)⟩
theorem RdKept.alloc {g : Nat} {w w' : World} (h : RdKept g w w') (hg : g < w.heap.size) (o : Obj) : RdKept g w (w'.alloc o) :=
  ⟨h.1.alloc (by have := h.1.size; omega) o, fun b hb hne => (Lib.alloc_old _ _ _ (by have := h.1.size; omega)).trans (h.2 b hb hne)⟩
theorem RdKept.drew {g : Nat} {w w' : World} (h : RdKept g w w') : RdKept g w w'.drew := ⟨h.1.drew, h.2⟩
theorem below_drewN {B : Nat} {a w : World} (h : Below B a w) : ∀ n, Below B a (w.drewN n)
  | 0 => h
  | n + 1 => (below_drewN h n).drew
theorem RdKept.drewN {g : Nat} {w w' : World} (h : RdKept g w w') (n : Nat) : RdKept g w (w'.drewN n) := ⟨below_drewN h.1 n, h.2⟩
theorem heap_drewN (w : World) : ∀ n, (w.drewN n).heap = w.heap
  | 0 => rfl
  | n + 1 => heap_drewN w n
theorem or_byte (a c : Nat) (ha : a < 281474976710656) (hc : c < 256) : bits .or .i64 ((a : Int) * 256) (c : Int) = ((a * 256 + c : Nat) : Int) := by
  have h1 : a * 256 ||| c = a * 256 + c := by
    have := Nat.shiftLeft_add_eq_or_of_lt (i := 8) (b := c) (by omega) a
    rw [Nat.shiftLeft_eq] at this
    exact this.symm
  have o1 : ∀ x : Nat, x < 18446744073709551616 → (BitVec.ofInt 64 (x : Int)).toNat = x := fun x hx => by
    rw [BitVec.ofInt_natCast, BitVec.toNat_ofNat]; exact Nat.mod_eq_of_lt (by omega)
  rw [show (a : Int) * 256 = ((a * 256 : Nat) : Int) by omega]
  show IntKind.i64.wrap ((BitVec.ofInt 64 ((a * 256 : Nat) : Int) ||| BitVec.ofInt 64 (c : Int)).toNat : Int) = _
  rw [BitVec.toNat_or, o1 _ (by omega), o1 _ (by omega), h1, IntKind.wrap_i64]
  omega
theorem byte_lt (c : UInt8) : c.toNat < 256 := UInt8.toNat_lt c
theorem acc_next {acc i : Nat} {c : UInt8} (h : acc < 256 ^ i) : acc * 256 + c.toNat < 256 ^ (i + 1) := by
  have := byte_lt c
  rw [Nat.pow_succ]
  have : (acc + 1) * 256 ≤ 256 ^ i * 256 := Nat.mul_le_mul_right _ h
  omega
/-- Digits, with the place behind them. -/
def digitsAt (k : Nat) (f : Bool) (acc : Nat) (l : List UInt8) (size : Nat) : Except Int (Nat × Nat) :=
  match digits k f acc l with
  | .error x => .error x
  | .ok (n, r) => .ok (n, size - r.length)
theorem digits_err : ∀ k f acc l x, digits k f acc l = .error x → x ≠ 0
  | 0, _, _, _, _, h => by simp [digits] at h
  | _ + 1, _, _, [], x, h => by simp [digits] at h; omega
  | k + 1, f, acc, c :: l, x, h => by
    rw [digits] at h
    split at h
    · simp at h; omega
    · exact digits_err k _ _ _ x h

end Go.Proofs.Ytdfkpjmljaanpaa
