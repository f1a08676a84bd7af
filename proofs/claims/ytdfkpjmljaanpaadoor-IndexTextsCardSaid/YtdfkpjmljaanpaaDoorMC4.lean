/- Merged by program: The reader: count, text. | The reader: text. | The reader: list, item. | The reader: list. | The reader: item. -/
import Derived.Test.YtdfkpjmljaanpaaDoorMC3
import Derived.Test.YtdfkpjmljaanpaaDoorMC1
import Derived.StillTailTactics
import Derived.Deep.AppendLies
namespace Go.Proofs.YtdfkpjmljaanpaaDoor
open Go.RowKit
open Cn

def countAt (most p ow : Nat) (l : List UInt8) : Except Int (Nat × Nat) :=
  match count most p ow l with
  | .error x => .error x
  | .ok (n, q, _) => .ok (n, q)
theorem digitsAt_of {k p : Nat} {s : ByteArray} {l : List UInt8} (hl : s.data.toList.drop p = l) (hp : p ≤ s.size) : digitsAt k true 0 l s.size = (match digits k true 0 l with | .error x => .error x | .ok (n, _) => .ok (n, p + k)) := by
  unfold digitsAt
  cases h : digits k true 0 l with
  | error x => rfl
  | ok nr =>
    obtain ⟨n, r⟩ := nr
    obtain ⟨h1, -⟩ := digits_ok _ _ _ _ _ _ h
    have := congrArg List.length hl
    simp at this
    simp only
    congr 2
    omega
theorem digits7 {k : Nat} {l : List UInt8} {n : Nat} {r : List UInt8} (hk : k ≤ 7) (h : digits k true 0 l = .ok (n, r)) : n < 72057594037927936 := (digits_first hk h).2.1

end Go.Proofs.YtdfkpjmljaanpaaDoor
namespace Go.Proofs.YtdfkpjmljaanpaaDoor
open Go.RowKit
open Cn

def zeroIt : Value := .agg #[.int .i64 0, .int .i64 0, .string ⟨#[]⟩, .slice none 0 0]
def textR (p ow : Nat) (l : List UInt8) : Except Int (Pt × Nat × List UInt8) :=
  match count 65536 p ow l with
  | .error x => .error x
  | .ok (n, q, r) => if r.length < n then .error 7 else .ok (.mk 2 0 ⟨(r.take n).toArray⟩ [], q + n, r.drop n)
theorem count_rest {most p ow n q : Nat} {s : ByteArray} {r : List UInt8} (h : count most p ow (s.data.toList.drop p) = .ok (n, q, r)) : s.data.toList.drop q = r ∧ q + n + ow ≤ 65536 ∧ n ≤ most := by
  obtain ⟨h1, h2, h3, h4, h5⟩ := count_ok h
  refine ⟨?_, h5, h2⟩
  rw [h4, ← List.drop_drop, h1, List.drop_append_of_le_length (Nat.le_refl _), List.drop_of_length_le (Nat.le_refl _)]; rfl
theorem count_err {most p ow : Nat} {l : List UInt8} {x : Int} (h : count most p ow l = .error x) : x ≠ 0 := by
  cases l with
  | nil => simp [count] at h; omega
  | cons c l =>
    rw [count] at h
    split at h
    · simp at h; omega
    · split at h
      · rename_i e hd
        simp at h
        subst h
        exact digits_err _ _ _ _ _ hd
      · split at h
        · simp at h; omega
        · simp at h
theorem RdKept.of_below {g : Nat} {a b : World} (hg : g < a.heap.size) (h : Below a.heap.size a b) : RdKept g a b := ⟨h.mono (by omega), fun i hi _ => h.block i hi⟩
theorem c_size_setCells' (b : Nat) (vs : List Value) (o : Nat) (w : World) : (w.setCells b o vs).heap.size = w.heap.size := c_size_setCells b vs o w
theorem RdKept.setCells {g : Nat} {w w' : World} (h : RdKept g w w') (b : Nat) (hb : w.heap.size ≤ b) (hg : g < b) (vs : List Value) (o : Nat) : RdKept g w (w'.setCells b o vs) :=
  ⟨below_setCells b (by omega) _ _ _ h.1, fun i hi hne => (c_heap_setCells_other b i (by omega) vs o w').trans (h.2 i hi hne)⟩
theorem extract_data (s : ByteArray) (a b : Nat) : (s.extract a b).data.toList = (s.data.toList.drop a).take (b - a) := by
  rw [ByteArray.data_extract, Array.toList_extract, List.extract_eq_take_drop]
end Go.Proofs.YtdfkpjmljaanpaaDoor
namespace Go.Proofs.YtdfkpjmljaanpaaDoor
open Go.RowKit
open Cn

/-- The cells of items, one behind the other. -/
def flat : List It → List Value
  | [] => []
  | x :: r => x.cells.toList ++ flat r
theorem flat_length : ∀ l, (flat l).length = l.length * 4
  | [] => rfl
  | x :: r => by rw [flat, List.length_append, flat_length r]; simp [It.cells]; omega
theorem flat_append : ∀ a b, flat (a ++ b) = flat a ++ flat b
  | [], b => rfl
  | x :: r, b => by simp [flat, flat_append r b]
theorem flat_get : ∀ (l : List It) (j : Nat) (x : It) (m : Nat), l[j]? = some x → m < 4 → (flat l)[j * 4 + m]? = x.cells[m]?
  | [], j, x, m, h, _ => by simp at h
  | y :: r, 0, x, m, h, hm => by
    simp at h
    subst h
    rw [flat, Nat.zero_mul, Nat.zero_add, List.getElem?_append_left (by simp [It.cells]; omega)]
    simp
  | y :: r, j + 1, x, m, h, hm => by
    rw [flat, List.getElem?_append_right (by simp [It.cells]; omega)]
    have := flat_get r j x m (by simpa using h) hm
    rw [← this]
    congr 1
    simp [It.cells]
    omega
/-- What was read ahead of the rest. -/
def comb (done : List Pt) : Except Int (List Pt × Nat × List UInt8) → Except Int (List Pt × Nat × List UInt8)
  | .error e => .error e
  | .ok (ys, q, r) => .ok (done ++ ys, q, r)
theorem comb_step {f : Nat → Nat → List UInt8 → Except Int (Pt × Nat × List UInt8)} {done : List Pt} {n ow p : Nat} {l : List UInt8} {x : Pt} {p' : Nat} {l' : List UInt8} (h : f (ow + n) p l = .ok (x, p', l')) :
    comb done (items f (n + 1) ow p l) = comb (done ++ [x]) (items f n ow p' l') := by
  rw [items, h]
  simp only
  cases items f n ow p' l' with
  | error e => rfl
  | ok y => obtain ⟨ys, q, r⟩ := y; simp [comb]
theorem comb_err {f : Nat → Nat → List UInt8 → Except Int (Pt × Nat × List UInt8)} {done : List Pt} {n ow p : Nat} {l : List UInt8} {x : Int} (h : f (ow + n) p l = .error x) :
    comb done (items f (n + 1) ow p l) = .error x := by
  rw [items, h]; rfl
theorem RdKept.grown {g : Nat} {w w' w'' : World} {row : Option Nat} (h : RdKept g w w') (hg : w'.grownBy w'' row) (hr : ∀ k, row = some k → w.heap.size ≤ k) (hgl : g < w.heap.size) : RdKept g w w'' :=
  ⟨h.1.grown hg (by have := h.1.size; omega) (fun k hk => by have := hr k hk; omega), fun b hb hne => (hg.block b (by have := h.1.size; omega) (fun e => by have := hr b e.symm; omega)).trans (h.2 b hb hne)⟩
theorem RdKept.by {g : Nat} {w w' : World} (h : RdKept g w w') : w.grownBy w' (some g) := ⟨h.1.os, h.1.tape, h.1.output, h.1.size, fun k hk hne => h.2 k hk (fun e => hne (by rw [e]))⟩
end Go.Proofs.YtdfkpjmljaanpaaDoor
namespace Go.Proofs.YtdfkpjmljaanpaaDoor
open Go.RowKit
open Cn

def listR (d p ow : Nat) (l : List UInt8) : Except Int (Pt × Nat × List UInt8) :=
  match count 1024 p ow l with
  | .error x => .error x
  | .ok (n, q, r) => match items (item d) n ow q r with
    | .error x => .error x
    | .ok (xs, q', r') => .ok (.mk 3 0 ⟨#[]⟩ xs, q', r')
theorem item_err : ∀ d ow p l x, item d ow p l = .error x → x ≠ 0
  | d, ow, p, [], x, h => by cases d <;> simp [item] at h <;> omega
  | d, ow, p, c :: l, x, h => by
    have hits : ∀ d, (∀ ow p l x, item d ow p l = .error x → x ≠ 0) → ∀ n ow p l x, items (item d) n ow p l = .error x → x ≠ 0 := by
      intro d hd n
      induction n with
      | zero => intro ow p l x h; simp [items] at h
      | succ n ih =>
        intro ow p l x h
        rw [items] at h
        cases h1 : item d (ow + n) p l with
        | error y => rw [h1] at h; simp at h; subst h; exact hd _ _ _ _ h1
        | ok y =>
          obtain ⟨a, b, c⟩ := y
          rw [h1] at h
          simp only at h
          cases h2 : items (item d) n ow b c with
          | error y => rw [h2] at h; simp at h; subst h; exact ih _ _ _ _ h2
          | ok y => obtain ⟨a, b, c⟩ := y; rw [h2] at h; simp at h
    rw [item.eq_def] at h
    by_cases hd : c.toNat = 9 ∧ d = 0
    · simp [hd] at h; omega
    · simp only [if_neg hd] at h
      by_cases hroom : 9 < c.toNat ∨ 65536 < p + 1 + (if c.toNat < 8 then c.toNat else 1) + ow
      · simp [if_pos hroom] at h; omega
      · simp only [if_neg hroom] at h
        by_cases hc8 : c.toNat < 8
        · simp only [if_pos hc8] at h
          cases hdig : digits c.toNat true 0 l with
          | error e => rw [hdig] at h; simp at h; subst h; exact digits_err _ _ _ _ _ hdig
          | ok nr => obtain ⟨n, r⟩ := nr; rw [hdig] at h; simp at h
        · simp only [if_neg hc8] at h
          by_cases hceq : c.toNat = 8
          · simp only [if_pos hceq] at h
            cases hcnt : count 65536 (p + 1) ow l with
            | error e => rw [hcnt] at h; simp at h; subst h; exact count_err hcnt
            | ok nr =>
              obtain ⟨n, q, r⟩ := nr
              rw [hcnt] at h
              simp only at h
              by_cases hl : r.length < n
              · simp [hl] at h; omega
              · simp [hl] at h
          · simp only [if_neg hceq] at h
            match d, hd, h with
            | 0, hd, h => simp at h; omega
            | d + 1, hd, h =>
              simp only at h
              cases hcnt : count 1024 (p + 1) ow l with
              | error e => rw [hcnt] at h; simp at h; subst h; exact count_err hcnt
              | ok nr =>
                obtain ⟨n, q, r⟩ := nr
                rw [hcnt] at h
                simp only at h
                cases hi : items (item d) n ow q r with
                | error e => rw [hi] at h; simp at h; subst h; exact hits d (item_err d) _ _ _ _ _ hi
                | ok nr => obtain ⟨a, b, c⟩ := nr; rw [hi] at h; simp at h
end Go.Proofs.YtdfkpjmljaanpaaDoor
namespace Go.Proofs.YtdfkpjmljaanpaaDoor
open Go.RowKit
open Cn

abbrev zc : Array Value := #[.int .i64 0, .int .i64 0, .string ⟨#[]⟩, .slice none 0 0]
theorem row_cells {W : World} {b : Nat} (h : W.heap[b]? = some (.cells zc 134 (0, 0))) : W.cell? ⟨b, 0, none⟩ = some (.int .i64 0) ∧ W.cell? ⟨b, 1, none⟩ = some (.int .i64 0) ∧ W.cell? ⟨b, 2, none⟩ = some (.string ⟨#[]⟩) ∧ W.cell? ⟨b, 3, none⟩ = some (.slice none 0 0) ∧ ∀ j, W.frozen? ⟨b, j, none⟩ = false :=
  ⟨by rw [Lib.cell_of_heap h]; rfl, by rw [Lib.cell_of_heap h]; rfl, by rw [Lib.cell_of_heap h]; rfl, by rw [Lib.cell_of_heap h]; rfl, fun j => Lib.frozen_of_heap h j⟩
theorem item_eq8 {d ow p : Nat} {c : UInt8} {r : List UInt8} (hc : c.toNat = 8) : item d ow p (c :: r) = if p + 1 + 1 + ow ≤ 65536 then textR (p + 1) ow r else .error 3 := by
  rw [item.eq_def]
  simp only [hc]
  by_cases h : p + 1 + 1 + ow ≤ 65536
  · rw [if_neg (by omega), if_neg (by simp; omega), if_neg (by decide), if_pos trivial, if_pos h]
    rfl
  · rw [if_neg (by omega), if_pos (by simp; omega), if_neg h]
theorem item_eq9 {d ow p : Nat} {c : UInt8} {r : List UInt8} (hc : c.toNat = 9) : item (d + 1) ow p (c :: r) = if p + 1 + 1 + ow ≤ 65536 then listR d (p + 1) ow r else .error 3 := by
  rw [item.eq_def]
  simp only [hc]
  by_cases h : p + 1 + 1 + ow ≤ 65536
  · rw [if_neg (by omega), if_neg (by simp; omega), if_neg (by decide), if_neg (by decide), if_pos h]
    rfl
  · rw [if_neg (by omega), if_pos (by simp; omega), if_neg h]
theorem item_eqn {d ow p : Nat} {c : UInt8} {r : List UInt8} (hc : c.toNat < 8) : item d ow p (c :: r) = if p + 1 + c.toNat + ow ≤ 65536 then (match digits c.toNat true 0 r with | .error e => .error e | .ok (n, r') => .ok (.mk 1 n ⟨#[]⟩ [], p + 1 + c.toNat, r')) else .error 3 := by
  rw [item.eq_def]
  simp only [if_pos hc]
  by_cases h : p + 1 + c.toNat + ow ≤ 65536
  · rw [if_neg (by omega), if_neg (by omega), if_pos h]
    rfl
  · rw [if_neg (by omega), if_pos (by omega), if_neg h]
end Go.Proofs.YtdfkpjmljaanpaaDoor
