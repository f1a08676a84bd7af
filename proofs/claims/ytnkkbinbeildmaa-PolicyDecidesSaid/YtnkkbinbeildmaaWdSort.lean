/- slices.Sort and slices.Compact at texts of the call's own: the shelf's contracts, laid at this program; sorted texts, each once. -/
import Derived.Shelf.Sort.Plain
import Derived.Shelf.Slices.In.SortNone
import Derived.Shelf.Slices.CompactS
import Derived.Test.YtnkkbinbeildmaaMW1
import Derived.Test.YtnkkbinbeildmaaOwnT
namespace Go.Proofs
open Go.Shelf
end Go.Proofs
namespace Go.Proofs.Ytnkkbinbeildmaa
open Go.RowKit Go.Proofs

namespace Wd
theorem bl_lt : ∀ a b : List UInt8, Op.bytesLess a b = true ↔ a < b
  | [], [] => by simp [Op.bytesLess]
  | [], _ :: _ => by simp [Op.bytesLess]
  | _ :: _, [] => by simp [Op.bytesLess]
  | x :: a, y :: b => by
    rw [List.cons_lt_cons_iff, ← bl_lt a b]
    simp [Op.bytesLess]
/-- Texts as lists of bytes, sorted, each once. -/
def srt (l : List (List UInt8)) : List (List UInt8) := l.mergeSort fun x y => decide (x ≤ y)
theorem srt_perm (l : List (List UInt8)) : (srt l).Perm l := List.mergeSort_perm l _
theorem srt_sorted (l : List (List UInt8)) : (srt l).Pairwise (fun x y => x ≤ y) := by
  have h := List.pairwise_mergeSort (le := fun x y : List UInt8 => decide (x ≤ y)) (fun a b c h1 h2 => by
    simp only [decide_eq_true_eq] at h1 h2 ⊢
    exact List.le_trans h1 h2) (fun a b => by
    simp only [Bool.or_eq_true, decide_eq_true_eq]
    exact List.le_total a b) l
  exact h.imp fun h => by simpa using h
theorem keep_first (d : Array (List UInt8)) : ∀ j, ∃ i, i ≤ j ∧ Lib.keeps d i = true ∧ d[i]! = d[j]!
  | 0 => ⟨0, Nat.le_refl _, by simp [Lib.keeps], rfl⟩
  | j + 1 => by
    by_cases h : d[j + 1]! = d[j]!
    · obtain ⟨i, h1, h2, h3⟩ := keep_first d j
      exact ⟨i, by omega, h2, h3.trans h.symm⟩
    · exact ⟨j + 1, Nat.le_refl _, Lib.keeps_pos (by simpa using h), rfl⟩
theorem compact_mem (l : List (List UInt8)) (x : List UInt8) : x ∈ Lib.compact l ↔ x ∈ l := by
  unfold Lib.compact Lib.compactUpTo
  simp only [List.mem_map, List.mem_filter, List.mem_range]
  have hget : ∀ j, j < l.length → l.toArray[j]! ∈ l := fun j hj => by
    rw [getElem!_pos _ j (by simpa using hj)]
    simp
  constructor
  · rintro ⟨j, ⟨hj, -⟩, rfl⟩
    exact hget j hj
  · intro hx
    obtain ⟨j, hj, rfl⟩ := List.mem_iff_getElem.1 hx
    obtain ⟨i, h1, h2, h3⟩ := keep_first l.toArray j
    refine ⟨i, ⟨by omega, h2⟩, h3.trans ?_⟩
    rw [getElem!_pos _ j (by simpa using hj)]
    simp
theorem compact_rises {l : List (List UInt8)} (h : l.Pairwise (fun x y => x ≤ y)) : (Lib.compact l).Pairwise (fun x y => x < y) := by
  unfold Lib.compact Lib.compactUpTo
  rw [List.pairwise_map]
  have hle : ∀ i j, i ≤ j → j < l.length → l.toArray[i]! ≤ l.toArray[j]! := fun i j hij hj => by
    rw [getElem!_pos _ j (by simpa using hj), getElem!_pos _ i (by simp; omega)]
    rcases Nat.lt_or_eq_of_le hij with hlt | rfl
    · exact List.pairwise_iff_getElem.1 h i j (by omega) hj hlt
    · exact List.le_refl _
  have hp : ((List.range l.length).filter (Lib.keeps l.toArray)).Pairwise (fun i j => i < j ∧ j < l.length ∧ Lib.keeps l.toArray j = true) := by
    have h1 : ((List.range l.length).filter (Lib.keeps l.toArray)).Pairwise (fun i j => i < j) := List.Pairwise.filter _ List.pairwise_lt_range
    refine h1.imp_of_mem fun {i j} hi hj hij => ?_
    rw [List.mem_filter, List.mem_range] at hj
    exact ⟨hij, hj.1, hj.2⟩
  refine hp.imp fun {i j} hh => ?_
  obtain ⟨hij, hj, hk⟩ := hh
  have h1 := hle i (j - 1) (by omega) (by omega)
  have h2 := hle (j - 1) j (by omega) hj
  have h3 : l.toArray[j]! ≠ l.toArray[j - 1]! := by
    unfold Lib.keeps at hk
    rcases (of_decide_eq_true hk : j = 0 ∨ _) with e | e
    · omega
    · exact e
  have h4 : l.toArray[j - 1]! < l.toArray[j]! := by
    rcases Decidable.em (l.toArray[j - 1]! < l.toArray[j]!) with h | h
    · exact h
    · exact absurd (List.le_antisymm (List.not_lt.1 h) h2) h3
  exact List.lt_of_le_of_lt h1 h4
theorem compact_length (l : List (List UInt8)) : (Lib.compact l).length ≤ l.length := by
  unfold Lib.compact Lib.compactUpTo
  rw [List.length_map]
  have := List.length_filter_le (Lib.keeps l.toArray) (List.range l.length)
  simpa using this
def raw (l : List ByteArray) : List (List UInt8) := l.map fun s => s.data.toList
def tagsOf (l : List ByteArray) : List ByteArray := (Lib.compact (srt (raw l))).map str
theorem tagsOf_eq (l : List ByteArray) : tagsOf l = l.foldl put [] := by
  refine rises_unique ?_ (foldl_put_rises l List.Pairwise.nil) fun x => ?_
  · unfold tagsOf Rises
    rw [List.pairwise_map]
    refine (compact_rises (srt_sorted _)).imp fun {a b} h => ?_
    unfold less
    rw [bl_lt, ByteArray.toList_eq, ByteArray.toList_eq]
    exact h
  · rw [foldl_put_mem]
    unfold tagsOf
    rw [List.mem_map]
    constructor
    · rintro ⟨y, hy, rfl⟩
      rw [compact_mem] at hy
      have hy2 := (srt_perm _).mem_iff.1 hy
      obtain ⟨z, hz, rfl⟩ := List.mem_map.1 hy2
      exact .inl hz
    · rintro (h | h)
      · refine ⟨x.data.toList, ?_, rfl⟩
        rw [compact_mem, (srt_perm _).mem_iff]
        exact List.mem_map.2 ⟨x, h, rfl⟩
      · cases h
end Wd
/-- Texts of the call's own, as the sort has them. -/
theorem holds_of {B : Nat} {w : World} {g cap : Nat} {l : List ByteArray} (h : OwnT B w (some ⟨g, 0, none⟩) cap l) : Sort.Holds encStr w g 0 (Wd.raw l).toArray := fun j hj => by
  have hjl : j < l.length := by simpa [Wd.raw] using hj
  obtain ⟨b, off, e, hb, hc⟩ := h.texts j hjl
  injection e with e
  injection e with e1 e2
  subst e1 e2
  refine ⟨?_, World.ownsRow.frozenAt h _⟩
  rw [hc, getElem!_pos _ j hj, List.getD_eq_getElem?_getD, List.getElem?_eq_getElem hjl]
  simp [Wd.raw, encStr]
/-- A row that was laid anew. -/
theorem own_putRow {B : Nat} {w : World} {g cap : Nat} {l : List ByteArray} (h : OwnT B w (some ⟨g, 0, none⟩) cap l) (m : List (List UInt8)) (hm : m.length = l.length) (n : Nat) (os : Array Obj) :
    OwnT B (Sort.grow (Sort.putRow encStr (Sort.ahead w n) g 0 m.toArray) os) (some ⟨g, 0, none⟩) cap (m.map str) ∧ Below B w (Sort.grow (Sort.putRow encStr (Sort.ahead w n) g 0 m.toArray) os) := by
  have hlt := (World.ownsRow.lt h g rfl)
  rcases h.2 with ⟨e, hn⟩ | ⟨g', cp, cur, e, hB, hg, hn, hcm, hcs, ht⟩
  · cases e
  injection e with e1 e2 e3
  injection e1 with e1
  injection e1 with e1
  subst e1 e3
  have hother : ∀ k, k ≠ g → k < w.heap.size → (Sort.grow (Sort.putRow encStr (Sort.ahead w n) g 0 m.toArray) os).heap[k]? = w.heap[k]? := fun k hk hkl => by
    rw [Sort.heap_grow_old _ _ (by simpa using hkl)]
    show (w.heap.modify g _)[k]? = _
    rw [Array.getElem?_modify, if_neg (fun e => hk e.symm)]
  refine ⟨?_, ⟨rfl, rfl, rfl, by simp, fun k hk => hother k (by omega) (by omega)⟩⟩
  have hblk : (Sort.grow (Sort.putRow encStr (Sort.ahead w n) g 0 m.toArray) os).heap[g]? = some (.cells (Sort.putCells encStr 0 m.toArray cur) 9 (0, 0)) := by
    rw [Sort.heap_grow_old _ _ (by simpa using hlt.2)]
    show (w.heap.modify g _)[g]? = _
    rw [Array.getElem?_modify, if_pos rfl, hg]
    rfl
  unfold OwnT
  rw [List.length_map, hm]
  refine ⟨by rw [scells_length, List.length_map, hm, Nat.mul_one], .inr ⟨g, cap, _, rfl, hB, hblk, hn, hcm, ?_, ?_⟩⟩
  · unfold Sort.putCells
    rw [Array.size_mapIdx, hcs]
  · rw [Nat.mul_one]
    apply List.ext_getElem?
    intro j
    by_cases hj : j < l.length
    · rw [List.getElem?_take_of_lt hj, Array.getElem?_toList]
      unfold Sort.putCells
      rw [Array.getElem?_mapIdx, Array.getElem?_eq_getElem (by omega), Option.map_some, if_pos ⟨Nat.zero_le _, by simp; omega⟩, Nat.sub_zero, getElem!_pos _ j (by simp; omega)]
      simp [scells, List.getElem?_eq_getElem (show j < m.length by omega), encStr, str]
    · rw [List.getElem?_eq_none (by rw [List.length_take]; omega), List.getElem?_eq_none (by rw [scells_length, List.length_map]; omega)]
/-- The first ones of texts of the call's own. -/
theorem OwnT.cut {B : Nat} {w : World} {g cap : Nat} {l : List ByteArray} (h : OwnT B w (some ⟨g, 0, none⟩) cap l) (k : Nat) : OwnT B w (some ⟨g, 0, none⟩) cap (l.take k) := by
  rcases h.2 with ⟨e, hn⟩ | ⟨g', cp, cur, e, hB, hg, hn, hcm, hcs, ht⟩
  · cases e
  injection e with e1 e2 e3
  injection e1 with e1
  injection e1 with e1
  subst e1 e3
  unfold OwnT
  refine ⟨by rw [scells_length, Nat.mul_one], .inr ⟨g, cap, cur, rfl, hB, hg, by rw [List.length_take]; omega, hcm, hcs, ?_⟩⟩
  rw [Nat.mul_one] at ht ⊢
  unfold scells at ht ⊢
  rw [List.map_take, ← ht, List.take_take, List.length_take]
end Go.Proofs.Ytnkkbinbeildmaa
