/- The reference's Find (lockboxref17). -/
import Derived.Test.YtgoimggfpagojaaLfMem
namespace Go.Proofs.Ytgoimggfpagojaa
open Go.RowKit

set_option maxRecDepth 100000 in
set_option maxHeartbeats 1000000 in
theorem rfind_any (l : Lf) (tag : ByteArray) (a0 : Option Addr) (cap : Nat) (hl : l.tags.length ≤ 1000000) (w : World) (hT : PoAt w a0 l.tags) :
    Calls Try.prog 19 #[.agg (lfCs l a0 cap), .string tag] w fun e w' => e = .returned (.agg #[.int .i64 (findP l.tags tag).1, .bool (findP l.tags tag).2]) ∧ Below w.heap.size w w' := by
  obtain ⟨n, hn⟩ : ∃ n, n = l.tags.length := ⟨_, rfl⟩
  obtain ⟨F, hF⟩ : ∃ F, F = findP l.tags tag := ⟨_, rfl⟩
  obtain ⟨w1, hw1⟩ : ∃ w1, w1 = w.alloc (.cells (lfCs l a0 cap) 30) := ⟨_, rfl⟩
  obtain ⟨w2, hw2⟩ : ∃ w2, w2 = w1.alloc (.cells #[.int .i64 0, .bool false] 46) := ⟨_, rfl⟩
  have hb1 : Below w.heap.size w w1 := by rw [hw1]; exact (Below.refl _ _).alloc (Nat.le_refl _) _
  have hz1 : w1.heap.size = w.heap.size + 1 := by rw [hw1]; simp
  have hb2 : Below w1.heap.size w1 w2 := by rw [hw2]; exact (Below.refl _ _).alloc (Nat.le_refl _) _
  have hz2 : w2.heap.size = w.heap.size + 1 + 1 := by rw [hw2]; simp [hz1]
  have hg1 : w2.heap[w.heap.size]? = some (.cells (lfCs l a0 cap) 30 (0, 0)) := by rw [hb2.block _ (by omega), hw1]; exact heap_alloc_new _ _
  have hg2 : w2.heap[w.heap.size + 1]? = some (.cells #[.int .i64 0, .bool false] 46 (0, 0)) := by rw [hw2, ← hz1]; exact heap_alloc_new _ _
  have hbw : Below w.heap.size w w2 := hb1.trans (hb2.mono hb1.size)
  have HT := Lib.hid (And.intro (hT.below hbw) (And.intro hbw (And.intro hg1 (And.intro hg2 (And.intro hz2 (And.intro hn hF))))))
  rw [← hF]
  unfold lfCs at hw1 ⊢
  rw [← hn] at hl hw1 ⊢
  have h0 : F = findP (l.tags.drop 0) tag := hF
  clear hT hn hF hb1 hb2 hg1 hg2 hbw hz2 hz1
  go_enter Try.func19, Try.ntmps19
  go_wp2_with fail
  rw [← hw1, ← hw2]
  clear hw1 hw2
  go_loopw [5] (fun i wr => ∃ k : Nat, k ≤ n ∧ i = .int .i64 (k : Int) ∧ F = findP (l.tags.drop k) tag ∧ Below w2.heap.size w2 wr) (fun i _ => n - (intOf i).toNat)
  case atStart => exact ⟨0, by omega, rfl, h0, Below.refl _ _⟩
  case round =>
    clear h0
    obtain ⟨k, hk, rfl, hF, hbe⟩ := hrel
    have hr1 := (hbe.block _ (Array.getElem?_eq_some_iff.1 HT.out.2.2.1).1).trans HT.out.2.2.1
    obtain ⟨c0, c1, c2, c3, c4⟩ := lf_cell hr1
    rw [← HT.out.2.2.2.2.2.1] at c3
    by_cases hlt : k < n
    · have hkl : k < l.tags.length := by have := HT.out.2.2.2.2.2.1; omega
      obtain ⟨p, hp⟩ : ∃ p, l.tags[k]? = some p := ⟨_, List.getElem?_eq_getElem hkl⟩
      obtain ⟨b, off, rfl, -, q0, q1⟩ := HT.out.1.below hbe k p hp
      rw [findP_drop hp] at hF
      by_cases ht : p.tag = tag
      · rw [if_pos ht] at hF
        subst ht
        have hxx : (p.tag.toList == p.tag.toList) = true := by simp
        have hr2 := (hbe.block _ (Array.getElem?_eq_some_iff.1 HT.out.2.2.2.1).1).trans HT.out.2.2.2.1
        have z0 : wr.cell? ⟨w.heap.size + 1, 0, none⟩ = some (.int .i64 0) := by rw [Lib.cell_of_heap hr2]; rfl
        have z1 : wr.cell? ⟨w.heap.size + 1, 1, none⟩ = some (.bool false) := by rw [Lib.cell_of_heap hr2]; rfl
        have f : ∀ j, wr.frozen? ⟨w.heap.size + 1, j, none⟩ = false := fun j => Lib.frozen_of_heap hr2 j
        have HM := Lib.hid (And.intro hF (And.intro hbe hr2))
        clear hF hbe hr1 hr2
        go_wp2_with fail
        refine bodyPost_ret (v := .agg #[.int .i64 p.prev, .bool true]) (by simp [results, Try.results19, go_sem, z0, z1]) rfl ⟨by rw [HM.out.1], ?_⟩
        exact ((HT.out.2.1.trans (HM.out.2.1.mono HT.out.2.1.size)).setCell (Nat.le_succ _) _).setCell (Nat.le_succ _) _
      · rw [if_neg ht] at hF
        have hxx := text_ne ht
        have HM := Lib.hid (And.intro hF hbe)
        clear hF hbe hr1
        go_wp2_with fail
        go_roundw
        case rel => exact ⟨k + 1, by omega, by go_num, HM.out.1, HM.out.2⟩
        case measure => simp [intOf]; omega
    · obtain rfl : k = n := by omega
      rw [List.drop_eq_nil_of_le (by have := HT.out.2.2.2.2.2.1; omega), findP] at hF
      have hr2 := (hbe.block _ (Array.getElem?_eq_some_iff.1 HT.out.2.2.2.1).1).trans HT.out.2.2.2.1
      have z0 : wr.cell? ⟨w.heap.size + 1, 0, none⟩ = some (.int .i64 0) := by rw [Lib.cell_of_heap hr2]; rfl
      have z1 : wr.cell? ⟨w.heap.size + 1, 1, none⟩ = some (.bool false) := by rw [Lib.cell_of_heap hr2]; rfl
      have f : ∀ j, wr.frozen? ⟨w.heap.size + 1, j, none⟩ = false := fun j => Lib.frozen_of_heap hr2 j
      have HM := Lib.hid (And.intro hF (And.intro hbe hr2))
      clear hF hbe hr1 hr2
      go_wp2_with fail
      refine bodyPost_ret (v := .agg #[.int .i64 0, .bool false]) (by simp [results, Try.results19, go_sem, z0, z1]) rfl ⟨by rw [HM.out.1], ?_⟩
      exact ((HT.out.2.1.trans (HM.out.2.1.mono HT.out.2.1.size)).setCell (Nat.le_succ _) _).setCell (Nat.le_succ _) _
end Go.Proofs.Ytgoimggfpagojaa
