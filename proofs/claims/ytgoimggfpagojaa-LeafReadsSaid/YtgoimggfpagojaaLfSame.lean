/- leaf.Same. -/
import Derived.Test.YtgoimggfpagojaaLfEq
import Derived.Test.YtgoimggfpagojaaMC3
namespace Go.Proofs.Ytgoimggfpagojaa
open Go.RowKit

/-- Are two leaves the same? -/
def sameL (a b : Lf) : Bool := (a.n == b.n) && (a.k == b.k) && (a.d.toList == b.d.toList) && Lib.allEq eqPo a.tags b.tags && (a.x.toList == b.x.toList)
theorem sameL_iff {a b : Lf} : sameL a b = true ↔ a = b := by
  unfold sameL
  simp only [Bool.and_eq_true, beq_iff_eq, allEq_iff]
  constructor
  · rintro ⟨⟨⟨⟨h1, h2⟩, h3⟩, h4⟩, h5⟩
    obtain ⟨a1, a2, a3, a4, a5⟩ := a
    obtain ⟨b1, b2, b3, b4, b5⟩ := b
    simp only at h1 h2 h3 h4 h5
    rw [h1, h2, Wd.toList_eq h3, h4, Wd.toList_eq h5]
  · rintro rfl
    exact ⟨⟨⟨⟨rfl, rfl⟩, rfl⟩, rfl⟩, rfl⟩
theorem sameL_eq (a b : Lf) : sameL a b = @decide (a = b) (Classical.propDecidable _) := by
  cases h : sameL a b with
  | true => rw [@decide_eq_true _ (Classical.propDecidable _) (sameL_iff.1 h)]
  | false => rw [@decide_eq_false _ (Classical.propDecidable _) (fun e => by rw [sameL_iff.2 e] at h; cases h)]
set_option maxRecDepth 100000 in
set_option maxHeartbeats 4000000 in
theorem same17_any (a b : Lf) (a1 a2 : Option Addr) (c1 c2 : Nat) (w : World) (h1 : PoAt w a1 a.tags) (h2 : PoAt w a2 b.tags) (hx : a.tags.length ≤ 1000000000) (hy : b.tags.length ≤ 1000000000) :
    Calls Try.prog 14 #[.agg (lfCs a a1 c1), .agg (lfCs b a2 c2)] w fun e w' => e = .returned (.bool (sameL a b)) ∧ Below w.heap.size w w' := by
  obtain ⟨w1, hw1⟩ : ∃ w1, w1 = w.alloc (.cells (lfCs a a1 c1) 24) := ⟨_, rfl⟩
  obtain ⟨w2, hw2⟩ : ∃ w2, w2 = w1.alloc (.cells (lfCs b a2 c2) 24) := ⟨_, rfl⟩
  have hb1 : Below w.heap.size w w1 := by rw [hw1]; exact (Below.refl _ _).alloc (Nat.le_refl _) _
  have hz1 : w1.heap.size = w.heap.size + 1 := by rw [hw1]; simp
  have hb2 : Below w1.heap.size w1 w2 := by rw [hw2]; exact (Below.refl _ _).alloc (Nat.le_refl _) _
  have hg1 : w2.heap[w.heap.size]? = some (.cells (lfCs a a1 c1) 24 (0, 0)) := by rw [hb2.block _ (by omega), hw1]; exact heap_alloc_new _ _
  have hg2 : w2.heap[w.heap.size + 1]? = some (.cells (lfCs b a2 c2) 24 (0, 0)) := by rw [hw2, ← hz1]; exact heap_alloc_new _ _
  have hbw : Below w.heap.size w w2 := hb1.trans (hb2.mono hb1.size)
  have heq := fun W (h : Below w2.heap.size w2 W) => poEqual_any a1 a2 c1 c2 a.tags b.tags W ((h1.below hbw).below h) ((h2.below hbw).below h) hx hy
  obtain ⟨x0, x1, x2, x3, x4⟩ := lf_cell hg1
  obtain ⟨y0, y1, y2, y3, y4⟩ := lf_cell hg2
  obtain ⟨R, hR⟩ : ∃ R, R = sameL a b := ⟨_, rfl⟩
  rw [← hR]
  unfold sameL at hR
  obtain ⟨n, k, d, ts, x⟩ := a
  obtain ⟨n', k', d', ts', x'⟩ := b
  unfold lfCs at *
  simp only at *
  obtain ⟨N, hN⟩ : ∃ N, N = ts.length := ⟨_, rfl⟩
  obtain ⟨M, hM⟩ : ∃ M, M = ts'.length := ⟨_, rfl⟩
  rw [← hN] at x3 hw1 heq ⊢
  rw [← hM] at y3 hw2 heq ⊢
  obtain ⟨E, hE⟩ : ∃ E, E = Lib.allEq eqPo ts ts' := ⟨_, rfl⟩
  rw [← hE] at heq hR
  have hsz := hb1.size
  have H := Lib.hid (And.intro heq hbw)
  clear heq hbw hb1 hb2 hg1 hg2 hN hM hE h1 h2 hx hy hz1
  cases p1 : (n == n') with
  | false =>
    obtain rfl : R = false := by rw [hR, p1]; simp
    clear hR
    go_enter Try.func14, Try.ntmps14
    go_upto_region 1 with fail
    rw [← hw1, ← hw2]
    clear hw1 hw2
    go_wp2_with fail
    go_ret
    exact ⟨rfl, H.out.2⟩
  | true =>
    cases p2 : (k == k') with
    | false =>
      obtain rfl : R = false := by rw [hR, p1, p2]; simp
      clear hR
      go_enter Try.func14, Try.ntmps14
      go_upto_region 1 with fail
      rw [← hw1, ← hw2]
      clear hw1 hw2
      go_wp2_with fail
      go_ret
      exact ⟨rfl, H.out.2⟩
    | true =>
      cases p3 : (d.toList == d'.toList) with
      | false =>
        obtain rfl : R = false := by rw [hR, p1, p2, p3]; simp
        clear hR
        go_enter Try.func14, Try.ntmps14
        go_upto_region 1 with fail
        rw [← hw1, ← hw2]
        clear hw1 hw2
        go_wp2_with fail
        go_ret
        exact ⟨rfl, H.out.2⟩
      | true =>
        cases E with
        | false =>
          obtain rfl : R = false := by rw [hR, p1, p2, p3]; simp
          clear hR
          go_enter Try.func14, Try.ntmps14
          go_upto_region 1 with fail
          rw [← hw1, ← hw2]
          clear hw1 hw2
          go_wp2_with fail
          refine (H.out.1 _ (Below.refl _ _)).mono ?_
          rintro e w3 ⟨rfl, q, rfl⟩
          go_wp2_with fail
          go_ret
          exact ⟨rfl, below_drewN H.out.2 _⟩
        | true =>
          cases p5 : (x.toList == x'.toList) with
          | false =>
            obtain rfl : R = false := by rw [hR, p1, p2, p3, p5]; simp
            clear hR
            go_enter Try.func14, Try.ntmps14
            go_upto_region 1 with fail
            rw [← hw1, ← hw2]
            clear hw1 hw2
            go_wp2_with fail
            refine (H.out.1 _ (Below.refl _ _)).mono ?_
            rintro e w3 ⟨rfl, q, rfl⟩
            go_wp2_with fail
            go_ret
            exact ⟨rfl, below_drewN H.out.2 _⟩
          | true =>
            obtain rfl : R = true := by rw [hR, p1, p2, p3, p5]; simp
            clear hR
            go_enter Try.func14, Try.ntmps14
            go_upto_region 1 with fail
            rw [← hw1, ← hw2]
            clear hw1 hw2
            go_wp2_with fail
            refine (H.out.1 _ (Below.refl _ _)).mono ?_
            rintro e w3 ⟨rfl, q, rfl⟩
            go_wp2_with fail
            go_ret
            exact ⟨rfl, below_drewN H.out.2 _⟩
end Go.Proofs.Ytgoimggfpagojaa
