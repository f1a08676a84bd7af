/- slices.BinarySearch and slices.Insert at texts of the call's own: the shelf's contracts, laid at this program. -/
import Derived.Shelf.Spec.SearchS
import Derived.Shelf.Spec.SlicesInsert
import Derived.Shelf.Spec.SlicesInsertGrow
import Derived.Test.YtnkkbinbeildmaaMW1
import Derived.Test.YtnkkbinbeildmaaOwnT
namespace Go.Proofs
open Go.Shelf
def Try.search_ren : Go.Shelf.Ren := ⟨fun | 26 => 80 | 33 => 83 | 34 => 84 | 38 => 87 | n => n, fun | 0 => 0 | 3 => 3 | 4 => 4 | 9 => 9 | 24 => 86 | 40 => 143 | n => n, fun | n => n⟩
theorem Try.search : Go.Proofs.Lays2.n26 Try.prog Try.search_ren := {
  mixed := by kernel_rfl
  f26 := Try.func80.trans (congrArg some (by kernel_rfl))
  f33 := Try.func83.trans (congrArg some (by kernel_rfl))
  f34 := Try.func84.trans (congrArg some (by kernel_rfl))
  f38 := Try.func87.trans (congrArg some (by kernel_rfl))
  t0 := Try.underlying0
  a0 := Try.isAgg0
  z0 := Try.sizeOf0
  v0 := Try.zeroValue0
  t3 := Try.underlying3
  a3 := Try.isAgg3
  z3 := Try.sizeOf3
  v3 := Try.zeroValue3
  t4 := Try.underlying4
  a4 := Try.isAgg4
  z4 := Try.sizeOf4
  v4 := Try.zeroValue4
  t9 := Try.underlying9
  a9 := Try.isAgg9
  z9 := Try.sizeOf9
  v9 := Try.zeroValue9
  t24 := Try.underlying86
  a24 := Try.isAgg86
  z24 := Try.sizeOf86
  v24 := Try.zeroValue86
  t40 := Try.underlying143
  a40 := Try.isAgg143
  z40 := Try.sizeOf143
  v40 := Try.zeroValue143 }

def Try.insert_ren : Go.Shelf.Ren := ⟨fun | 17 => 89 | 22 => 81 | 29 => 85 | 30 => 86 | 36 => 88 | n => n, fun | 0 => 0 | 3 => 3 | 4 => 4 | 9 => 9 | 24 => 86 | n => n, fun | n => n⟩
theorem Try.insert : Go.Proofs.Lays2.n22 Try.prog Try.insert_ren := {
  mixed := by kernel_rfl
  f17 := Try.func89.trans (congrArg some (by kernel_rfl))
  f22 := Try.func81.trans (congrArg some (by kernel_rfl))
  f29 := Try.func85.trans (congrArg some (by kernel_rfl))
  f30 := Try.func86.trans (congrArg some (by kernel_rfl))
  f36 := Try.func88.trans (congrArg some (by kernel_rfl))
  t0 := Try.underlying0
  a0 := Try.isAgg0
  z0 := Try.sizeOf0
  v0 := Try.zeroValue0
  t3 := Try.underlying3
  a3 := Try.isAgg3
  z3 := Try.sizeOf3
  v3 := Try.zeroValue3
  t4 := Try.underlying4
  a4 := Try.isAgg4
  z4 := Try.sizeOf4
  v4 := Try.zeroValue4
  t9 := Try.underlying9
  a9 := Try.isAgg9
  z9 := Try.sizeOf9
  v9 := Try.zeroValue9
  t24 := Try.underlying86
  a24 := Try.isAgg86
  z24 := Try.sizeOf86
  v24 := Try.zeroValue86
  i9 := by kernel_rfl }

end Go.Proofs
namespace Go.Proofs.Ytnkkbinbeildmaa
open Go.RowKit Go.Proofs

set_option maxRecDepth 1000000 in
set_option maxHeartbeats 2000000 in
/-- Of no text: place 0, not found. -/
theorem search_none (x : ByteArray) (a : Option Addr) (c : Nat) (w : World) : Calls Try.prog 80 #[.slice a 0 c, .string x] w fun e w' => e = .returned (.tuple #[.int .i64 0, .bool false]) ∧ w' = w := by
  go_enter Try.func80, Try.ntmps80
  go_wp2
  go_loopg [7, 8] 0 (fun _ s7 s8 wr => s7 = .int .i64 0 ∧ s8 = .int .i64 0 ∧ wr = w)
  case atStart => exact ⟨rfl, rfl, rfl⟩
  case round =>
    obtain ⟨rfl, rfl, rfl⟩ := hrel
    go_wp2
    go_ret2
    exact ⟨rfl, rfl⟩
/-- Where a text stands, or goes, in texts that rise. -/
theorem search_any {B : Nat} {w : World} {ad : Option Addr} {cap : Nat} {l : List ByteArray} (h : OwnT B w ad cap l) (hr : Wd.Rises l) (hl : l.length ≤ 1000000) (x : ByteArray) :
    Calls Try.prog 80 #[.slice ad l.length cap, .string x] w fun e w' => e = .returned (.tuple #[.int .i64 (Wd.rank l x), .bool (decide (l[Wd.rank l x]? = some x))]) ∧ ∃ q, w' = w.drewN q := by
  by_cases h0 : l = []
  · subst h0
    exact (search_none x ad cap w).mono fun e w' ⟨h1, h2⟩ => ⟨h1, 0, h2⟩
  · have hpos : 0 < l.length := List.length_pos_iff.2 h0
    obtain ⟨b, off, rfl, hb, -⟩ := h.texts 0 hpos
    have hk : Lib.bsGo (fun t => Op.bytesLess (l.getD t x).toList x.toList) l.length 0 l.length = Wd.rank l x :=
      Lib.bsGo_spec _ _ (fun t ht => Wd.rank_lt ht) (fun t ht => Wd.rank_ge hr ht) _ _ _ (by omega) (Nat.zero_le _) (Wd.rank_le l x)
    have hc := Any2.slices_BinarySearch_string Try.search b off l.length cap (fun t => l.getD t x) x w (by omega) (fun j hj => by
      obtain ⟨b', off', e, -, hc⟩ := h.texts j hj
      injection e with e
      injection e with e1 e2
      subst e1 e2
      rw [hc]
      simp only [List.getD_eq_getElem?_getD, List.getElem?_eq_getElem hj]
      rfl)
    rw [hk] at hc
    have he : decide (Wd.rank l x < l.length ∧ l.getD (Wd.rank l x) x = x) = decide (l[Wd.rank l x]? = some x) := by
      congr 1; exact propext Wd.put_has.symm
    simp only [he] at hc
    exact hc
/-- A list with one more at a place. -/
theorem ins_get (cs : List Value) (i : Nat) (hi : i ≤ cs.length) (v : Value) (j : Nat) : (cs.take i ++ v :: cs.drop i)[j]? = if j < i then cs[j]? else if j = i then some v else cs[j - 1]? := by
  by_cases h1 : j < i
  · rw [if_pos h1, List.getElem?_append_left (by rw [List.length_take]; omega), List.getElem?_take_of_lt h1]
  · rw [if_neg h1, List.getElem?_append_right (by rw [List.length_take]; omega), List.length_take, Nat.min_eq_left hi]
    by_cases h2 : j = i
    · subst h2; rw [if_pos rfl, Nat.sub_self]; rfl
    · rw [if_neg h2, show j - i = (j - i - 1) + 1 by omega, List.getElem?_cons_succ, List.getElem?_drop]
      congr 1; omega
theorem scells_ins (l : List ByteArray) (i : Nat) (x : ByteArray) : scells (l.take i ++ x :: l.drop i) = (scells l).take i ++ .string x :: (scells l).drop i := by
  unfold scells
  rw [List.map_append, List.map_cons, List.map_take, List.map_drop]
theorem ins_length (l : List ByteArray) {i : Nat} (hi : i ≤ l.length) (x : ByteArray) : (l.take i ++ x :: l.drop i).length = l.length + 1 := by
  rw [List.length_append, List.length_cons, List.length_take, List.length_drop]; omega
/-- Cells that hold a list with one more. -/
theorem own_of {B : Nat} {w : World} {g cap : Nat} {l : List ByteArray} {i : Nat} (hi : i ≤ l.length) (x : ByteArray) (c : Array Value) (hB : B ≤ g) (hg : w.heap[g]? = some (.cells c 9 (0, 0))) (hc : c.size = cap) (hn : l.length + 1 ≤ cap) (hm : cap ≤ maxLen)
    (hh : ∀ j, j < l.length + 1 → c[j]? = if j < i then (scells l)[j]? else if j = i then some (.string x) else (scells l)[j - 1]?) : OwnT B w (some ⟨g, 0, none⟩) cap (l.take i ++ x :: l.drop i) := by
  unfold OwnT
  rw [ins_length l hi x]
  refine ⟨by rw [scells_length, ins_length l hi x, Nat.mul_one], .inr ⟨g, cap, c, rfl, hB, hg, hn, hm, by rw [hc, Nat.mul_one], ?_⟩⟩
  rw [Nat.mul_one, scells_ins]
  apply List.ext_getElem?
  intro j
  rw [ins_get _ _ (by rw [scells_length]; exact hi)]
  by_cases hj : j < l.length + 1
  · rw [List.getElem?_take_of_lt hj, Array.getElem?_toList, hh j hj]
  · rw [List.getElem?_eq_none (by rw [List.length_take]; omega), if_neg (by omega), if_neg (by omega), List.getElem?_eq_none (by rw [scells_length]; omega)]
theorem one_scells (l : List ByteArray) : ∀ v ∈ scells l, v.oneCell' = true := fun v hv => by
  obtain ⟨y, -, rfl⟩ := List.mem_map.1 hv; rfl
set_option maxHeartbeats 1000000 in
/-- One more text at a place. -/
theorem insert_any {B : Nat} {w : World} {ad : Option Addr} {cap : Nat} {l : List ByteArray} (h : OwnT B w ad cap l) (hl : l.length ≤ 1000000) (x : ByteArray) (i : Nat) (hi : i ≤ l.length) (vb : Nat) (hv : w.heap[vb]? = some (.cells #[.string x] 9 (0, 0)))
    (hne : ∀ g, (Value.slice ad l.length cap).ownBlock = some g → vb ≠ g) (hB : B ≤ w.heap.size) :
    Calls Try.prog 81 #[.slice ad l.length cap, .int .i64 (i : Int), .slice (some ⟨vb, 0, none⟩) 1 1] w fun e w' => ∃ ad' cap', e = .returned (.slice ad' (l.length + 1) cap') ∧ OwnT B w' ad' cap' (l.take i ++ x :: l.drop i) ∧ Below B w w' := by
  have hvs : ∀ j v, ([Value.string x] : List Value)[j]? = some v → w.cell? ⟨vb, 0 + j, none⟩ = some v := fun j v hj => by
    have hj0 : j = 0 := by
      have := (List.getElem?_eq_some_iff.1 hj).1
      simpa using this
    subst hj0
    rw [Nat.zero_add, cell_of_row _ _ _ _ _ _ hv]
    simpa using hj
  have h1v : ∀ v ∈ ([Value.string x] : List Value), v.oneCell' = true := fun v hv => by
    rw [List.mem_singleton] at hv; subst hv; rfl
  have hsl := scells_length l
  have hz : (Value.string ⟨#[]⟩).cells.size = 1 := rfl
  rcases h.2 with ⟨e, hn0⟩ | ⟨g, cp, cur, e, hBg, hg, hn, hcm, hcs, ht⟩
  · injection e with e1 e2 e3
    subst e1 e3
    have hl0 : l = [] := List.eq_nil_of_length_eq_zero hn0
    subst hl0
    obtain rfl : i = 0 := by simpa using hi
    refine (Any2.slices_Insert_string_end_grow Try.insert none 0 0 vb 0 1 1 [] [.string x] w (by decide) (Nat.le_refl _) (by decide) (by decide) rfl rfl (fun _ => rfl) (fun a ha => by cases ha) hvs h1v).mono ?_
    rintro e w' ⟨rfl, rfl⟩
    refine ⟨_, _, rfl, own_of (l := []) (i := 0) (Nat.le_refl _) x _ hB (heap_alloc_new w.drew _) ?_ (grownCap_ge _ _ _ _) (grownCap_le_maxLen _ _ _ _ (by decide)) (fun j hj => ?_), ((Below.refl _ _).drew).alloc hB _⟩
    · have hge := grownCap_ge w (0 + 1) 0 (Try.insert_ren.t 9)
      rw [Array.size_append, size_zeroCells, hz, List.size_toArray]
      show 0 + 1 + (grownCap w (0 + 1) 0 (Try.insert_ren.t 9) - (0 + 1)) * 1 = grownCap w (0 + 1) 0 (Try.insert_ren.t 9)
      omega
    · obtain rfl : j = 0 := by simpa using hj
      rw [Array.getElem?_append_left (by simp)]
      rfl
  · injection e with e1 e2 e3
    subst e1 e3
    have hcur : ∀ j, j < l.length → cur[j]? = (scells l)[j]? := fun j hj => by
      rw [← ht, Nat.mul_one, List.getElem?_take_of_lt hj, Array.getElem?_toList]
    have hcell : ∀ j, w.cell? ⟨g, j, none⟩ = cur[j]? := fun j => cell_of_row _ _ _ _ _ _ hg
    rw [Nat.mul_one] at hcs
    have hcsv : ∀ j v, (scells l)[j]? = some v → w.cell? ⟨g, 0 + j, none⟩ = some v := fun j v hj => by
      have hjl : j < l.length := by rw [← hsl]; exact (List.getElem?_eq_some_iff.1 hj).1
      rw [Nat.zero_add, hcell, hcur j hjl, hj]
    have hfz : ∀ j, w.frozen? ⟨g, j, none⟩ = false := fun j => frozen_of_row _ _ _ _ _ hg
    have hsome : ∀ j, j < cap → (w.cell? ⟨g, j, none⟩).isSome = true := fun j hj => by rw [hcell, Array.getElem?_eq_getElem (by omega)]; rfl
    unfold maxLen at hcm
    by_cases hend : i = l.length
    · subst hend
      by_cases hroom : l.length + 1 ≤ cap
      · refine (Any2.slices_Insert_string_end_room Try.insert g 0 l.length cap vb 0 1 1 [.string x] w (by decide) hroom (by omega) rfl (fun j hj => by rw [Nat.zero_add]; exact hsome _ (by omega)) (fun j hj => hfz _) hvs h1v).mono ?_
        rintro e w' ⟨rfl, rfl⟩
        obtain ⟨c', h1, h2, h3⟩ := heap_setCells g 9 [.string x] (0 + l.length) w cur hg (by simp; omega)
        refine ⟨_, _, rfl, own_of (i := l.length) (Nat.le_refl _) x c' hBg h1 (by rw [h2, hcs]) hroom (by unfold maxLen; omega) (fun j hj => ?_), below_setCells g hBg _ _ _ (Below.refl _ _)⟩
        rw [h3, Nat.zero_add]
        by_cases hj2 : j < l.length
        · rw [if_neg (by omega), if_pos hj2, hcur j hj2]
        · obtain rfl : j = l.length := by omega
          rw [if_pos (by simp), if_neg hj2, if_pos rfl, Nat.sub_self]; rfl
      · refine (Any2.slices_Insert_string_end_grow Try.insert (some ⟨g, 0, none⟩) l.length cap vb 0 1 1 (scells l) [.string x] w (by decide) hn (by omega) (by omega) hsl rfl (fun e => by cases e) (fun a ha j v hj => by
          injection ha with ha
          subst ha
          rw [show (⟨g, 0, none⟩ : Addr).add j = ⟨g, 0 + j, none⟩ from Go.WideShapes.add_plain g 0 j]
          exact hcsv j v hj) hvs h1v).mono ?_
        rintro e w' ⟨rfl, rfl⟩
        have hge := grownCap_ge w (l.length + 1) cap 9
        refine ⟨_, _, rfl, own_of (i := l.length) (Nat.le_refl _) x _ hB (heap_alloc_new w.drew _) ?_ hge (grownCap_le_maxLen _ _ _ _ (by unfold maxLen; omega)) (fun j hj => ?_), ((Below.refl _ _).drew).alloc hB _⟩
        · simp only [Array.size_append, List.size_toArray, size_zeroCells, hz, List.length_append, hsl, List.length_singleton]
          show l.length + 1 + (grownCap w (l.length + 1) cap 9 - (l.length + 1)) * 1 = grownCap w (l.length + 1) cap 9
          omega
        · rw [Array.getElem?_append_left (by simp [hsl]; omega), List.getElem?_toArray]
          by_cases hj2 : j < l.length
          · rw [if_pos hj2, List.getElem?_append_left (by omega)]
          · obtain rfl : j = l.length := by omega
            rw [if_neg hj2, if_pos rfl, List.getElem?_append_right (by omega), hsl, Nat.sub_self]; rfl
    · have hilt : i < l.length := by omega
      have hdl : ((scells l).drop i).length = l.length - i := by rw [List.length_drop, hsl]
      by_cases hroom : l.length + 1 ≤ cap
      · refine (Any2.slices_Insert_string_shift Try.insert g 0 l.length cap i vb 0 1 1 (scells l) [.string x] w hilt (by decide) hroom (by omega) (hne g rfl) hsl rfl hcsv (fun j hj => by rw [Nat.zero_add]; exact hsome _ (by omega)) (fun j hj => hfz _) hvs (one_scells l) h1v
          9 9 1 cap (by unfold World.shape?; rw [hv]; rfl) (by unfold World.shape?; rw [hg]; simp [hcs]) (by omega) (frozen_of_row _ _ _ _ _ hv) (frozen_of_row _ _ _ _ _ hv)).mono ?_
        rintro e w' ⟨rfl, rfl⟩
        obtain ⟨c1, g1, s1, k1⟩ := heap_setCells g 9 ((scells l).drop i) (0 + (i + 1)) w.drew cur hg (by rw [hdl]; omega)
        obtain ⟨c2, g2, s2, k2⟩ := heap_setCells g 9 [.string x] (0 + i) _ c1 g1 (by simp; omega)
        refine ⟨_, _, rfl, own_of (i := i) hi x c2 hBg g2 (by rw [s2, s1, hcs]) hroom (by unfold maxLen; omega) (fun j hj => ?_), below_setCells g hBg _ _ _ (below_setCells g hBg _ _ _ (Below.refl _ _).drew)⟩
        rw [k2, k1, Nat.zero_add, Nat.zero_add, hdl]
        by_cases hj2 : j < i
        · rw [if_neg (by omega), if_neg (by omega), if_pos hj2, hcur j (by omega)]
        · by_cases hj3 : j = i
          · subst hj3
            rw [if_pos (by simp), if_neg hj2, if_pos rfl, Nat.sub_self]; rfl
          · rw [if_neg (by simp; omega), if_pos (by omega), if_neg hj2, if_neg hj3, List.getElem?_drop]
            congr 1; omega
      · refine (Any2.slices_Insert_string_grow Try.insert g 0 l.length cap i vb 0 1 1 (scells l) [.string x] w hilt (by decide) hn (by omega) (by omega) hsl rfl hcsv hvs (one_scells l) h1v).mono ?_
        rintro e w' ⟨rfl, rfl⟩
        have hge := grownCap_ge w (l.length + 1) cap 9
        obtain ⟨C, hC⟩ : ∃ C, C = grownCap w (l.length + 1) cap 9 := ⟨_, rfl⟩
        have hCm : C ≤ maxLen := by rw [hC]; exact grownCap_le_maxLen _ _ _ _ (by unfold maxLen; omega)
        have hzt : ∀ m, (Builtin.zeroCells (Value.string ⟨#[]⟩).cells m).size = m := fun m => by rw [size_zeroCells, hz, Nat.mul_one]
        have htl : ((scells l).take i).length = i := by rw [List.length_take, hsl]; omega
        change ∃ ad' cap', Ending.returned (.slice (some ⟨w.heap.size, 0, none⟩) (l.length + 1) (grownCap w (l.length + 1) cap 9)) = .returned (.slice ad' (l.length + 1) cap') ∧ OwnT B ((((w.alloc (.cells (((scells l).take i).toArray ++ Builtin.zeroCells (Value.string ⟨#[]⟩).cells (l.length + 1 - i) ++ Builtin.zeroCells (Value.string ⟨#[]⟩).cells (grownCap w (l.length + 1) cap 9 - (l.length + 1))) 9)).drew.setCells w.heap.size i [.string x]).drew).setCells w.heap.size (i + 1) ((scells l).drop i)) ad' cap' (l.take i ++ x :: l.drop i) ∧ Below B w ((((w.alloc (.cells (((scells l).take i).toArray ++ Builtin.zeroCells (Value.string ⟨#[]⟩).cells (l.length + 1 - i) ++ Builtin.zeroCells (Value.string ⟨#[]⟩).cells (grownCap w (l.length + 1) cap 9 - (l.length + 1))) 9)).drew.setCells w.heap.size i [.string x]).drew).setCells w.heap.size (i + 1) ((scells l).drop i))
        rw [← hC] at hge ⊢
        obtain ⟨c0, hc0⟩ : ∃ c0, c0 = ((scells l).take i).toArray ++ Builtin.zeroCells (Value.string ⟨#[]⟩).cells (l.length + 1 - i) ++ Builtin.zeroCells (Value.string ⟨#[]⟩).cells (C - (l.length + 1)) := ⟨_, rfl⟩
        have hs0 : c0.size = C := by
          rw [hc0, Array.size_append, Array.size_append, List.size_toArray, htl, hzt, hzt]; omega
        have hk0 : ∀ j, j < i → c0[j]? = (scells l)[j]? := fun j hj => by
          rw [hc0, Array.getElem?_append_left (by rw [Array.size_append, List.size_toArray, htl, hzt]; omega), Array.getElem?_append_left (by rw [List.size_toArray, htl]; exact hj), List.getElem?_toArray, List.getElem?_take_of_lt hj]
        rw [← hc0]
        obtain ⟨c1, g1, s1, k1⟩ := heap_setCells w.heap.size 9 [.string x] i (w.alloc (.cells c0 9)).drew c0 (heap_alloc_new w _) (by simp; omega)
        obtain ⟨c2, g2, s2, k2⟩ := heap_setCells w.heap.size 9 ((scells l).drop i) (i + 1) ((w.alloc (.cells c0 9)).drew.setCells w.heap.size i [.string x]).drew c1 g1 (by rw [hdl]; omega)
        refine ⟨_, _, rfl, own_of (i := i) hi x c2 hB g2 (by rw [s2, s1, hs0]) hge hCm (fun j hj => ?_), below_setCells _ hB _ _ _ ((below_setCells _ hB _ _ _ (((Below.refl _ _).alloc hB _).drew)).drew)⟩
        rw [k2, k1, hdl]
        by_cases hj2 : j < i
        · rw [if_neg (by omega), if_neg (by omega), if_pos hj2, hk0 j hj2]
        · by_cases hj3 : j = i
          · subst hj3
            rw [if_neg (by omega), if_pos (by simp), if_neg hj2, if_pos rfl, Nat.sub_self]; rfl
          · rw [if_pos (by omega), if_neg hj2, if_neg hj3, List.getElem?_drop]
            congr 1; omega
end Go.Proofs.Ytnkkbinbeildmaa
