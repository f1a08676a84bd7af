/- slices.Sort and slices.Compact at texts of the call's own: the shelf's contracts, laid at this program; sorted texts, each once. -/
import Derived.Shelf.Sort.Plain
import Derived.Shelf.Slices.In.SortNone
import Derived.Shelf.Slices.CompactS
import Derived.Test.YtgoimggfpagojaaDoorWdMore
import Derived.Test.YtgoimggfpagojaaDoorOwnT
namespace Go.Proofs
open Go.Shelf
def Tryd.sort_ren : Go.Shelf.Ren := ⟨fun | 125 => 60 | 128 => 94 | 129 => 95 | 190 => 38 | 258 => 59 | 302 => 86 | 303 => 87 | 304 => 88 | 305 => 89 | 306 => 90 | 307 => 91 | 308 => 79 | 309 => 92 | 310 => 93 | 329 => 115 | 330 => 116 | 333 => 114 | 334 => 117 | 335 => 118 | 336 => 109 | 344 => 134 | n => n, fun | 0 => 0 | 3 => 3 | 4 => 4 | 5 => 5 | 9 => 9 | 31 => 30 | 46 => 66 | 51 => 65 | 53 => 96 | 131 => 80 | 182 => 119 | 183 => 120 | 218 => 142 | 222 => 146 | 228 => 167 | 229 => 168 | n => n, fun | n => n⟩
theorem Tryd.sort : Go.Proofs.Lays.n190 Tryd.prog Tryd.sort_ren := {
  mixed := by kernel_rfl
  f125 := Tryd.func60.trans (congrArg some (by kernel_rfl))
  f128 := Tryd.func94.trans (congrArg some (by kernel_rfl))
  f129 := Tryd.func95.trans (congrArg some (by kernel_rfl))
  f190 := Tryd.func38.trans (congrArg some (by kernel_rfl))
  f258 := Tryd.func59.trans (congrArg some (by kernel_rfl))
  f302 := Tryd.func86.trans (congrArg some (by kernel_rfl))
  f303 := Tryd.func87.trans (congrArg some (by kernel_rfl))
  f304 := Tryd.func88.trans (congrArg some (by kernel_rfl))
  f305 := Tryd.func89.trans (congrArg some (by kernel_rfl))
  f306 := Tryd.func90.trans (congrArg some (by kernel_rfl))
  f307 := Tryd.func91.trans (congrArg some (by kernel_rfl))
  f308 := Tryd.func79.trans (congrArg some (by kernel_rfl))
  f309 := Tryd.func92.trans (congrArg some (by kernel_rfl))
  f310 := Tryd.func93.trans (congrArg some (by kernel_rfl))
  f329 := Tryd.func115.trans (congrArg some (by kernel_rfl))
  f330 := Tryd.func116.trans (congrArg some (by kernel_rfl))
  f333 := Tryd.func114.trans (congrArg some (by kernel_rfl))
  f334 := Tryd.func117.trans (congrArg some (by kernel_rfl))
  f335 := Tryd.func118.trans (congrArg some (by kernel_rfl))
  f336 := Tryd.func109.trans (congrArg some (by kernel_rfl))
  f344 := Tryd.func134.trans (congrArg some (by kernel_rfl))
  t0 := Tryd.underlying0
  a0 := Tryd.isAgg0
  z0 := Tryd.sizeOf0
  v0 := Tryd.zeroValue0
  t3 := Tryd.underlying3
  a3 := Tryd.isAgg3
  z3 := Tryd.sizeOf3
  v3 := Tryd.zeroValue3
  t4 := Tryd.underlying4
  a4 := Tryd.isAgg4
  z4 := Tryd.sizeOf4
  v4 := Tryd.zeroValue4
  t5 := Tryd.underlying5
  a5 := Tryd.isAgg5
  z5 := Tryd.sizeOf5
  v5 := Tryd.zeroValue5
  t9 := Tryd.underlying9
  a9 := Tryd.isAgg9
  z9 := Tryd.sizeOf9
  v9 := Tryd.zeroValue9
  t31 := Tryd.underlying30
  a31 := Tryd.isAgg30
  z31 := Tryd.sizeOf30
  v31 := Tryd.zeroValue30
  t46 := Tryd.underlying66
  a46 := Tryd.isAgg66
  z46 := Tryd.sizeOf66
  v46 := Tryd.zeroValue66
  t51 := Tryd.underlying65
  a51 := Tryd.isAgg65
  z51 := Tryd.sizeOf65
  v51 := Tryd.zeroValue65
  t53 := Tryd.underlying96
  a53 := Tryd.isAgg96
  z53 := Tryd.sizeOf96
  v53 := Tryd.zeroValue96
  t131 := Tryd.underlying80
  a131 := Tryd.isAgg80
  z131 := Tryd.sizeOf80
  v131 := Tryd.zeroValue80
  t182 := Tryd.underlying119
  a182 := Tryd.isAgg119
  z182 := Tryd.sizeOf119
  v182 := Tryd.zeroValue119
  t183 := Tryd.underlying120
  a183 := Tryd.isAgg120
  z183 := Tryd.sizeOf120
  v183 := Tryd.zeroValue120
  t218 := Tryd.underlying142
  a218 := Tryd.isAgg142
  z218 := Tryd.sizeOf142
  v218 := Tryd.zeroValue142
  t222 := Tryd.underlying146
  a222 := Tryd.isAgg146
  z222 := Tryd.sizeOf146
  v222 := Tryd.zeroValue146
  t228 := Tryd.underlying167
  a228 := Tryd.isAgg167
  z228 := Tryd.sizeOf167
  v228 := Tryd.zeroValue167
  t229 := Tryd.underlying168
  a229 := Tryd.isAgg168
  z229 := Tryd.sizeOf168
  v229 := Tryd.zeroValue168 }

def Tryd.compact_ren : Go.Shelf.Ren := ⟨fun | 194 => 39 | n => n, fun | 0 => 0 | 3 => 3 | 4 => 4 | 9 => 9 | 31 => 30 | n => n, fun | n => n⟩
theorem Tryd.compact : Go.Proofs.Lays.n194 Tryd.prog Tryd.compact_ren := {
  mixed := by kernel_rfl
  f194 := Tryd.func39.trans (congrArg some (by kernel_rfl))
  t0 := Tryd.underlying0
  a0 := Tryd.isAgg0
  z0 := Tryd.sizeOf0
  v0 := Tryd.zeroValue0
  t3 := Tryd.underlying3
  a3 := Tryd.isAgg3
  z3 := Tryd.sizeOf3
  v3 := Tryd.zeroValue3
  t4 := Tryd.underlying4
  a4 := Tryd.isAgg4
  z4 := Tryd.sizeOf4
  v4 := Tryd.zeroValue4
  t9 := Tryd.underlying9
  a9 := Tryd.isAgg9
  z9 := Tryd.sizeOf9
  v9 := Tryd.zeroValue9
  t31 := Tryd.underlying30
  a31 := Tryd.isAgg30
  z31 := Tryd.sizeOf30
  v31 := Tryd.zeroValue30 }

end Go.Proofs
namespace Go.Proofs.YtgoimggfpagojaaDoor
open Go.RowKit Go.Proofs

namespace Wd
theorem bl_lt : ∀ a b : List UInt8, Op.bytesLess a b = true ↔ a < b
  | [], [] => by simp [Op.bytesLess]
  | [], _ :: _ => by simp [Op.bytesLess]
  | _ :: _, [] => by simp [Op.bytesLess]
  | x :: a, y :: b => by
    rw [List.cons_lt_cons_iff, ← bl_lt a b]
    simp [Op.bytesLess]
/-- Texts as lists of bytes, sorted, each once. -/
def srt (l : List (List UInt8)) : List (List UInt8) := l.mergeSort fun x y => decide (x ≤ y)
theorem srt_perm (l : List (List UInt8)) : (srt l).Perm l := List.mergeSort_perm l _
theorem srt_sorted (l : List (List UInt8)) : (srt l).Pairwise (fun x y => x ≤ y) := by
  have h := List.pairwise_mergeSort (le := fun x y : List UInt8 => decide (x ≤ y)) (fun a b c h1 h2 => by
    simp only [decide_eq_true_eq] at h1 h2 ⊢
    exact List.le_trans h1 h2) (fun a b => by
    simp only [Bool.or_eq_true, decide_eq_true_eq]
    exact List.le_total a b) l
  exact h.imp fun h => by simpa using h
theorem keep_first (d : Array (List UInt8)) : ∀ j, ∃ i, i ≤ j ∧ Lib.keeps d i = true ∧ d[i]! = d[j]!
  | 0 => ⟨0, Nat.le_refl _, by simp [Lib.keeps], rfl⟩
  | j + 1 => by
    by_cases h : d[j + 1]! = d[j]!
    · obtain ⟨i, h1, h2, h3⟩ := keep_first d j
      exact ⟨i, by omega, h2, h3.trans h.symm⟩
    · exact ⟨j + 1, Nat.le_refl _, Lib.keeps_pos (by simpa using h), rfl⟩
theorem compact_mem (l : List (List UInt8)) (x : List UInt8) : x ∈ Lib.compact l ↔ x ∈ l := by
  unfold Lib.compact Lib.compactUpTo
  simp only [List.mem_map, List.mem_filter, List.mem_range]
  have hget : ∀ j, j < l.length → l.toArray[j]! ∈ l := fun j hj => by
    rw [getElem!_pos _ j (by simpa using hj)]
    simp
  constructor
  · rintro ⟨j, ⟨hj, -⟩, rfl⟩
    exact hget j hj
  · intro hx
    obtain ⟨j, hj, rfl⟩ := List.mem_iff_getElem.1 hx
    obtain ⟨i, h1, h2, h3⟩ := keep_first l.toArray j
    refine ⟨i, ⟨by omega, h2⟩, h3.trans ?_⟩
    rw [getElem!_pos _ j (by simpa using hj)]
    simp
theorem compact_rises {l : List (List UInt8)} (h : l.Pairwise (fun x y => x ≤ y)) : (Lib.compact l).Pairwise (fun x y => x < y) := by
  unfold Lib.compact Lib.compactUpTo
  rw [List.pairwise_map]
  have hle : ∀ i j, i ≤ j → j < l.length → l.toArray[i]! ≤ l.toArray[j]! := fun i j hij hj => by
    rw [getElem!_pos _ j (by simpa using hj), getElem!_pos _ i (by simp; omega)]
    rcases Nat.lt_or_eq_of_le hij with hlt | rfl
    · exact List.pairwise_iff_getElem.1 h i j (by omega) hj hlt
    · exact List.le_refl _
  have hp : ((List.range l.length).filter (Lib.keeps l.toArray)).Pairwise (fun i j => i < j ∧ j < l.length ∧ Lib.keeps l.toArray j = true) := by
    have h1 : ((List.range l.length).filter (Lib.keeps l.toArray)).Pairwise (fun i j => i < j) := List.Pairwise.filter _ List.pairwise_lt_range
    refine h1.imp_of_mem fun {i j} hi hj hij => ?_
    rw [List.mem_filter, List.mem_range] at hj
    exact ⟨hij, hj.1, hj.2⟩
  refine hp.imp fun {i j} hh => ?_
  obtain ⟨hij, hj, hk⟩ := hh
  have h1 := hle i (j - 1) (by omega) (by omega)
  have h2 := hle (j - 1) j (by omega) hj
  have h3 : l.toArray[j]! ≠ l.toArray[j - 1]! := by
    unfold Lib.keeps at hk
    rcases (of_decide_eq_true hk : j = 0 ∨ _) with e | e
    · omega
    · exact e
  have h4 : l.toArray[j - 1]! < l.toArray[j]! := by
    rcases Decidable.em (l.toArray[j - 1]! < l.toArray[j]!) with h | h
    · exact h
    · exact absurd (List.le_antisymm (List.not_lt.1 h) h2) h3
  exact List.lt_of_le_of_lt h1 h4
theorem compact_length (l : List (List UInt8)) : (Lib.compact l).length ≤ l.length := by
  unfold Lib.compact Lib.compactUpTo
  rw [List.length_map]
  have := List.length_filter_le (Lib.keeps l.toArray) (List.range l.length)
  simpa using this
def raw (l : List ByteArray) : List (List UInt8) := l.map fun s => s.data.toList
def tagsOf (l : List ByteArray) : List ByteArray := (Lib.compact (srt (raw l))).map str
theorem tagsOf_eq (l : List ByteArray) : tagsOf l = l.foldl put [] := by
  refine rises_unique ?_ (foldl_put_rises l List.Pairwise.nil) fun x => ?_
  · unfold tagsOf Rises
    rw [List.pairwise_map]
    refine (compact_rises (srt_sorted _)).imp fun {a b} h => ?_
    unfold less
    rw [bl_lt, ByteArray.toList_eq, ByteArray.toList_eq]
    exact h
  · rw [foldl_put_mem]
    unfold tagsOf
    rw [List.mem_map]
    constructor
    · rintro ⟨y, hy, rfl⟩
      rw [compact_mem] at hy
      have hy2 := (srt_perm _).mem_iff.1 hy
      obtain ⟨z, hz, rfl⟩ := List.mem_map.1 hy2
      exact .inl hz
    · rintro (h | h)
      · refine ⟨x.data.toList, ?_, rfl⟩
        rw [compact_mem, (srt_perm _).mem_iff]
        exact List.mem_map.2 ⟨x, h, rfl⟩
      · cases h
end Wd
/-- Texts of the call's own, as the sort has them. -/
theorem holds_of {B : Nat} {w : World} {g cap : Nat} {l : List ByteArray} (h : OwnT B w (some ⟨g, 0, none⟩) cap l) : Sort.Holds encStr w g 0 (Wd.raw l).toArray := fun j hj => by
  have hjl : j < l.length := by simpa [Wd.raw] using hj
  obtain ⟨b, off, e, hb, hc⟩ := h.texts j hjl
  injection e with e
  injection e with e1 e2
  subst e1 e2
  refine ⟨?_, World.ownsRow.frozenAt h _⟩
  rw [hc, getElem!_pos _ j hj, List.getD_eq_getElem?_getD, List.getElem?_eq_getElem hjl]
  simp [Wd.raw, encStr]
/-- A row that was laid anew. -/
theorem own_putRow {B : Nat} {w : World} {g cap : Nat} {l : List ByteArray} (h : OwnT B w (some ⟨g, 0, none⟩) cap l) (m : List (List UInt8)) (hm : m.length = l.length) (n : Nat) (os : Array Obj) :
    OwnT B (Sort.grow (Sort.putRow encStr (Sort.ahead w n) g 0 m.toArray) os) (some ⟨g, 0, none⟩) cap (m.map str) ∧ Below B w (Sort.grow (Sort.putRow encStr (Sort.ahead w n) g 0 m.toArray) os) := by
  have hlt := (World.ownsRow.lt h g rfl)
  rcases h.2 with ⟨e, hn⟩ | ⟨g', cp, cur, e, hB, hg, hn, hcm, hcs, ht⟩
  · cases e
  injection e with e1 e2 e3
  injection e1 with e1
  injection e1 with e1
  subst e1 e3
  have hother : ∀ k, k ≠ g → k < w.heap.size → (Sort.grow (Sort.putRow encStr (Sort.ahead w n) g 0 m.toArray) os).heap[k]? = w.heap[k]? := fun k hk hkl => by
    rw [Sort.heap_grow_old _ _ (by simpa using hkl)]
    show (w.heap.modify g _)[k]? = _
    rw [Array.getElem?_modify, if_neg (fun e => hk e.symm)]
  refine ⟨?_, ⟨rfl, rfl, rfl, by simp, fun k hk => hother k (by omega) (by omega)⟩⟩
  have hblk : (Sort.grow (Sort.putRow encStr (Sort.ahead w n) g 0 m.toArray) os).heap[g]? = some (.cells (Sort.putCells encStr 0 m.toArray cur) 9 (0, 0)) := by
    rw [Sort.heap_grow_old _ _ (by simpa using hlt.2)]
    show (w.heap.modify g _)[g]? = _
    rw [Array.getElem?_modify, if_pos rfl, hg]
    rfl
  unfold OwnT
  rw [List.length_map, hm]
  refine ⟨by rw [scells_length, List.length_map, hm, Nat.mul_one], .inr ⟨g, cap, _, rfl, hB, hblk, hn, hcm, ?_, ?_⟩⟩
  · unfold Sort.putCells
    rw [Array.size_mapIdx, hcs]
  · rw [Nat.mul_one]
    apply List.ext_getElem?
    intro j
    by_cases hj : j < l.length
    · rw [List.getElem?_take_of_lt hj, Array.getElem?_toList]
      unfold Sort.putCells
      rw [Array.getElem?_mapIdx, Array.getElem?_eq_getElem (by omega), Option.map_some, if_pos ⟨Nat.zero_le _, by simp; omega⟩, Nat.sub_zero, getElem!_pos _ j (by simp; omega)]
      simp [scells, List.getElem?_eq_getElem (show j < m.length by omega), encStr, str]
    · rw [List.getElem?_eq_none (by rw [List.length_take]; omega), List.getElem?_eq_none (by rw [scells_length, List.length_map]; omega)]
/-- The first ones of texts of the call's own. -/
theorem OwnT.cut {B : Nat} {w : World} {g cap : Nat} {l : List ByteArray} (h : OwnT B w (some ⟨g, 0, none⟩) cap l) (k : Nat) : OwnT B w (some ⟨g, 0, none⟩) cap (l.take k) := by
  rcases h.2 with ⟨e, hn⟩ | ⟨g', cp, cur, e, hB, hg, hn, hcm, hcs, ht⟩
  · cases e
  injection e with e1 e2 e3
  injection e1 with e1
  injection e1 with e1
  subst e1 e3
  unfold OwnT
  refine ⟨by rw [scells_length, Nat.mul_one], .inr ⟨g, cap, cur, rfl, hB, hg, by rw [List.length_take]; omega, hcm, hcs, ?_⟩⟩
  rw [Nat.mul_one] at ht ⊢
  unfold scells at ht ⊢
  rw [List.map_take, ← ht, List.take_take, List.length_take]
/-- slices.Sort and then slices.Compact. -/
theorem sort_any {B : Nat} {w : World} {ad : Option Addr} {cap : Nat} {l : List ByteArray} (h : OwnT B w ad cap l) (hl : l.length ≤ 1000000) :
    Calls Tryd.prog 38 #[.slice ad l.length cap] w fun e w' => e = .returned (.tuple #[]) ∧ OwnT B w' ad cap ((Wd.srt (Wd.raw l)).map str) ∧ Below B w w' := by
  by_cases h0 : l = []
  · subst h0
    exact (Any.slices_Sort_string_none Tryd.sort ad cap w).mono fun e w' ⟨h1, h2⟩ => ⟨h1, by rw [h2]; simpa [Wd.srt, Wd.raw] using h, by rw [h2]; exact Below.refl _ _⟩
  · obtain ⟨b, off, rfl, hb, -⟩ := h.texts 0 (List.length_pos_iff.2 h0)
    have hoff : off = 0 := by
      rcases h.2 with ⟨e, hn⟩ | ⟨g', cp, cur, e, -⟩
      · cases e
      · injection e with e1 e2 e3
        injection e1 with e1
        injection e1
    subst hoff
    have hlr : (Wd.raw l).length = l.length := by unfold Wd.raw; rw [List.length_map]
    have hc := Any.slices_Sort_string Tryd.sort b 0 cap (Wd.raw l) w (holds_of h) hb (by omega)
    rw [hlr] at hc
    refine hc.mono ?_
    rintro e w' ⟨h1, n, os, rfl⟩
    have hp := own_putRow h (Wd.srt (Wd.raw l)) (by rw [(Wd.srt_perm _).length_eq, hlr]) n os
    exact ⟨h1, hp.1, hp.2⟩
theorem compact_any {B : Nat} {w : World} {ad : Option Addr} {cap : Nat} {l : List (List UInt8)} (h : OwnT B w ad cap (l.map str)) (hl : l.length ≤ 1000000) :
    Calls Tryd.prog 39 #[.slice ad l.length cap] w fun e w' => e = .returned (.slice ad (Lib.compact l).length cap) ∧ OwnT B w' ad cap ((Lib.compact l).map str) ∧ Below B w w' := by
  by_cases h0 : l = []
  · subst h0
    exact (Any.slices_Compact_string_empty Tryd.compact ad cap w).mono fun e w' ⟨h1, h2⟩ => ⟨h1, by rw [h2]; exact h, by rw [h2]; exact Below.refl _ _⟩
  · have hls : (l.map str).length = l.length := List.length_map _
    obtain ⟨b, off, rfl, hb, -⟩ := h.texts 0 (by rw [hls]; exact List.length_pos_iff.2 h0)
    have hoff : off = 0 := by
      rcases h.2 with ⟨e, hn⟩ | ⟨g', cp, cur, e, -⟩
      · cases e
      · injection e with e1 e2 e3
        injection e1 with e1
        injection e1
    subst hoff
    have hr : Wd.raw (l.map str) = l := by
      unfold Wd.raw
      rw [List.map_map]
      conv => rhs; rw [← List.map_id l]
      rfl
    have hH := holds_of h
    rw [hr] at hH
    have hcp := h.capy
    have hc := Any.slices_Compact_string Tryd.compact b 0 cap l w hH (by omega) (by omega)
    refine hc.mono ?_
    rintro e w' ⟨h1, q, rfl⟩
    have hcl := Wd.compact_length l
    have hp := own_putRow h (Lib.compact l ++ List.replicate (l.length - (Lib.compact l).length) []) (by rw [List.length_append, List.length_replicate, hls]; omega) q #[]
    rw [Sort.grow_empty] at hp
    have h2 := hp.1.cut (Lib.compact l).length
    rw [← List.map_take, List.take_left' rfl] at h2
    exact ⟨h1, h2, hp.2⟩
end Go.Proofs.YtgoimggfpagojaaDoor
