/- leaf.Find. -/
import Derived.Test.YtgoimggfpagojaaLfMem
namespace Go.Proofs.Ytgoimggfpagojaa
open Go.RowKit

set_option maxRecDepth 100000 in
set_option maxHeartbeats 1000000 in
theorem find_any (l : Lf) (tag : ByteArray) (a0 : Option Addr) (cap : Nat) (hl : l.tags.length ≤ 1000000000) (w : World) (hT : PoAt w a0 l.tags) :
    Calls Try.prog 18 #[.agg (lfCs l a0 cap), .string tag] w fun e w' => e = .returned (.tuple #[.int .i64 (findP l.tags tag).1, .bool (findP l.tags tag).2]) ∧ Below w.heap.size w w' := by
  obtain ⟨n, hn⟩ : ∃ n, n = l.tags.length := ⟨_, rfl⟩
  obtain ⟨F, hF⟩ : ∃ F, F = findP l.tags tag := ⟨_, rfl⟩
  obtain ⟨w1, hw1⟩ : ∃ w1, w1 = w.alloc (.cells (lfCs l a0 cap) 24) := ⟨_, rfl⟩
  have hb1 : Below w.heap.size w w1 := by rw [hw1]; exact (Below.refl _ _).alloc (Nat.le_refl _) _
  have hg1 : w1.heap[w.heap.size]? = some (.cells (lfCs l a0 cap) 24 (0, 0)) := by rw [hw1]; exact heap_alloc_new _ _
  obtain ⟨c0, c1, c2, c3, c4⟩ := lf_cell hg1
  have HT := Lib.hid (And.intro (hT.below hb1) (And.intro hb1 (And.intro hn hF)))
  rw [← hF]
  unfold lfCs at hw1 ⊢
  rw [← hn] at hl hw1 c3 ⊢
  have h0 : F = findP (l.tags.drop 0) tag := hF
  clear hT hn hF hb1 hg1
  go_enter Try.func18, Try.ntmps18
  go_wp2_with fail
  rw [← hw1]
  clear hw1
  go_wp2_with fail
  go_loopw [7, 11] (fun _ i wr => ∃ k : Nat, k ≤ n ∧ i = .int .i64 (k : Int) ∧ F = findP (l.tags.drop k) tag ∧ Below w1.heap.size w1 wr) (fun _ i _ => n - (intOf i).toNat)
  case atStart => exact ⟨0, by omega, rfl, h0, Below.refl _ _⟩
  case round =>
    clear h0 c0 c1 c2 c3 c4
    obtain ⟨k, hk, rfl, hF, hbe⟩ := hrel
    by_cases hlt : k < n
    · have hkl : k < l.tags.length := by have := HT.out.2.2.1; omega
      obtain ⟨p, hp⟩ : ∃ p, l.tags[k]? = some p := ⟨_, List.getElem?_eq_getElem hkl⟩
      obtain ⟨b, off, rfl, hbl, q0, q1⟩ := HT.out.1.below hbe k p hp
      have m1 : ¬ b = wr.heap.size := by omega
      have m2 : ¬ wr.heap.size = b := by omega
      have hsz := HT.out.2.1.trans (hbe.mono HT.out.2.1.size) |>.size
      have hsz1 := hbe.size
      rw [findP_drop hp] at hF
      by_cases ht : p.tag = tag
      · rw [if_pos ht] at hF
        subst ht
        have hxx : (p.tag.toList == p.tag.toList) = true := by simp
        have HM := Lib.hid (And.intro hF (HT.out.2.1.trans (hbe.mono HT.out.2.1.size)))
        clear hF hbe
        go_wp2_with fail
        go_ret2
        exact ⟨by rw [HM.out.1] <;> rfl, HM.out.2.alloc hsz _⟩
      · rw [if_neg ht] at hF
        have hxx := text_ne ht
        have HM := Lib.hid (And.intro hF hbe)
        clear hF hbe
        go_wp2_with fail
        go_roundw
        case rel => exact ⟨k + 1, by omega, by go_num, HM.out.1, HM.out.2.alloc hsz1 _⟩
        case measure => simp [intOf]; omega
    · obtain rfl : k = n := by omega
      rw [List.drop_eq_nil_of_le (by have := HT.out.2.2.1; omega), findP] at hF
      have HM := Lib.hid (And.intro hF (HT.out.2.1.trans (hbe.mono HT.out.2.1.size)))
      clear hF hbe
      go_wp2_with fail
      go_ret2
      exact ⟨by rw [HM.out.1] <;> rfl, HM.out.2⟩
end Go.Proofs.Ytgoimggfpagojaa
