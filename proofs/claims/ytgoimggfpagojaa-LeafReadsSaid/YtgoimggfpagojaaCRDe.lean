/- The reference's Decode. -/
import Derived.Test.YtgoimggfpagojaaCRIt2
import Derived.Deep.RegionHeld
namespace Go.Proofs.Ytgoimggfpagojaa
open Go.RowKit
open Cn

def decE : Except Int (Pt × Nat × List UInt8) → Except Int Pt
  | .error x => .error x
  | .ok (x, _, r) => if r = [] then .ok x else .error 3
theorem rdecR_eq (l : List UInt8) : rdecR l = decE (ritem 6 0 l) := by
  unfold rdecR
  cases ritem 6 0 l with
  | error x => rfl
  | ok y => rfl
set_option maxRecDepth 100000 in
set_option maxHeartbeats 1000000 in
theorem rdecode_any (s : ByteArray) (hs : s.size ≤ maxLen) (w : World) : Calls Try.prog 35 #[.string s] w (DecPost w (rdecR s.data.toList)) := by
  obtain ⟨w1, hw1⟩ : ∃ w1, w1 = w.alloc (.cells #[.int .i64 0, .int .i64 0, .string ⟨#[]⟩, .slice none 0 0] 65) := ⟨_, rfl⟩
  have hb1 : Below w.heap.size w w1 := by rw [hw1]; exact (Below.refl _ _).alloc (Nat.le_refl _) _
  have hg1 : w1.heap[w.heap.size]? = some (.cells #[.int .i64 0, .int .i64 0, .string ⟨#[]⟩, .slice none 0 0] 65 (0, 0)) := by rw [hw1]; exact heap_alloc_new _ _
  have hs1 : w1.heap.size = w.heap.size + 1 := by rw [hw1]; simp
  have hf := rfront_any s hs w1
  obtain ⟨R, hR⟩ : ∃ R, R = ritem 6 0 s.data.toList := ⟨_, rfl⟩
  have hD : rdecR s.data.toList = decE R := by rw [hR]; exact rdecR_eq _
  rw [← hR] at hf
  obtain ⟨S, hS⟩ : ∃ S, S = s.size := ⟨_, rfl⟩
  have hSi : (s.size : Int) = (S : Int) := by omega
  have hlen : s.data.toList.length = S := by rw [hS]; simp
  have hq : ∀ x q r, R = .ok (x, q, r) → S = q + r.length := fun x q r h => by
    obtain ⟨e1, -, e3, -⟩ := ritem_ok _ _ _ _ _ _ (hR.symm.trans h)
    have := congrArg List.length e1
    rw [List.length_append, hlen] at this
    omega
  have H := Lib.hid (And.intro hf (And.intro hb1 (And.intro hg1 (And.intro hs1 (And.intro hD hq)))))
  clear hf hb1 hg1 hs1 hD hq hR hlen hS hs
  go_enter Try.func35, Try.ntmps35
  go_upto_region 1 with fail
  rw [← hw1]
  clear hw1
  go_wp2_with fail
  refine H.out.1.mono ?_
  rintro e w2 ⟨hb, hres⟩
  have hz1 := lt_of_heap H.out.2.2.1
  have hb2 := H.out.2.1.trans (hb.mono H.out.2.1.size)
  cases R with
  | error x =>
    obtain ⟨hx, rfl⟩ := hres
    have hx0 : (x != 0) = true := by rcases hx with rfl | rfl <;> rfl
    have hx1 : x ≠ 0 := by rcases hx with rfl | rfl <;> decide
    obtain ⟨w3, hw3⟩ : ∃ w3, w3 = w2.alloc (.cells (zrd 0 0 x) 91) := ⟨_, rfl⟩
    have hb3 : Below w2.heap.size w2 w3 := by rw [hw3]; exact (Below.refl _ _).alloc (Nat.le_refl _) _
    have hg3 : w3.heap[w2.heap.size]? = some (.cells (zrd 0 0 x) 91 (0, 0)) := by rw [hw3]; exact heap_alloc_new _ _
    have hg2 := (hb3.block w.heap.size (Nat.lt_of_lt_of_le hz1 hb.size)).trans ((hb.block _ hz1).trans H.out.2.2.1)
    have hb23 := (hb2.trans (hb3.mono hb2.size)).drew
    obtain ⟨r0, r1, r2, r3, r4, r5, r6, fr⟩ := rc_cells hg3
    have HB := Lib.hid (And.intro hb23 (And.intro hx1 hb.size))
    clear hb hb2 hb3 hz1 hx hx1 hb23
    unfold zrd rc at hw3
    simp only [zrd, rc]
    go_upto_region 2 with fail
    rw [← hw3]
    clear hw3
    go_wp2_with fail
    clear r0 r1 r2 r3 r4 r5 r6 fr
    have hg3' : w3.drew.heap[w2.heap.size]? = some (.cells (zrd 0 0 x) 91 (0, 0)) := hg3
    have hg2' : w3.drew.heap[w.heap.size]? = some (.cells #[.int .i64 0, .int .i64 0, .string ⟨#[]⟩, .slice none 0 0] 65 (0, 0)) := hg2
    clear hg3 hg2
    obtain ⟨r0, r1, r2, r3, r4, r5, r6, fr⟩ := rc_cells hg3'
    obtain ⟨q0, q1, q2, q3⟩ := it_cells hg2'
    have f : ∀ j, w3.drew.frozen? ⟨w.heap.size, j, none⟩ = false := fun j => Lib.frozen_of_heap hg2' j
    have hne : w2.heap.size ≠ w.heap.size := by have := H.out.2.2.2.1; have := HB.out.2.2; omega
    clear r0 r1 r2 r3 r4 r5 r6 fr
    have C : w3.drew.heap[w2.heap.size]? = some (.cells (zrd 0 0 x) 91 (0, 0)) := hg3'
    clear hg3'
    refine wp_region_held (S := fun W => W.heap[w2.heap.size]? = some (.cells (zrd 0 0 x) 91 (0, 0))) (by kernel_rfl) ?_
    change wpAnyH _ _ _ _ _ _ _ _ (World.drew _)
    generalize World.drew _ = w4 at *
    refine wpAnyH_take (i := 0) (v := ?_) rfl (by kernel_rfl) (by kernel_rfl) (by kernel_rfl) (fun _ _ _ h => h) (Or.inl ⟨by kernel_rfl, ?_⟩) C ?_
    rotate_left
    · (intro W hS; obtain ⟨-, -, -, -, -, -, g6, -⟩ := rc_cells hS; clear hS; go_simp; try (with_reducible rfl))
    refine wpAnyH_take (i := 1) (v := ?_) rfl (by kernel_rfl) (by kernel_rfl) (by kernel_rfl) (fun _ _ _ h => h) (Or.inl ⟨by kernel_rfl, ?_⟩) C ?_
    rotate_left
    · (intro W hS; obtain ⟨-, -, -, -, -, -, g6, -⟩ := rc_cells hS; clear hS; go_simp; try (with_reducible rfl))
    refine wpAnyH_take (i := 2) (v := ?_) rfl (by kernel_rfl) (by kernel_rfl) (by kernel_rfl) (fun _ _ _ h => h) (Or.inl ⟨by kernel_rfl, ?_⟩) C ?_
    rotate_left
    · (intro W hS; obtain ⟨-, -, -, -, -, -, g6, -⟩ := rc_cells hS; clear hS; go_simp; try (with_reducible rfl))
    refine wpAnyH_ready (rs := [3]) (by kernel_rfl) (by simp) ?_
    refine AllReadyH.cons rfl (fun K hK => ?_) AllReadyH.nil
    go_simp
    have C7 := (c_heap_setCells_other w.heap.size w2.heap.size hne [.int .i64 0, .int .i64 0, .string ⟨#[]⟩, .slice none 0 0] 0 w4).trans C
    refine hK.out _ _ C7 (fun _ => ?_)
    clear hK K
    refine wpAnyH_take (i := 4) (v := ?_) rfl (by kernel_rfl) (by kernel_rfl) (by kernel_rfl) (fun _ _ _ h => h) (Or.inl ⟨by kernel_rfl, ?_⟩) C7 ?_
    rotate_left
    · (intro W hS; clear hS; go_simp; try (with_reducible rfl))
    refine wpAnyH_done (by kernel_rfl) ?_ _
    go_simp
    clear C C7 hg2'
    go_wp2_with fail
    refine bodyPost_ret (v := .tuple #[zeroIt, .int .i64 x]) (by simp [results, Try.results35, go_sem, q0, q1, q2, q3, zeroIt]) rfl ?_
    refine ⟨below_setCells w.heap.size (Nat.le_refl _) [.int .i64 0, .int .i64 0, .string ⟨#[]⟩, .slice none 0 0] 0 w4 HB.out.1, ?_⟩
    rw [H.out.2.2.2.2.1]
    exact ⟨HB.out.2.1, rfl⟩
  | ok y =>
    obtain ⟨x, q, r'⟩ := y
    obtain ⟨it, rfl, rfl, hin⟩ := hres
    have hqr := H.out.2.2.2.2.2 _ _ _ rfl
    obtain ⟨yk, yn, ys, ya, yc, yl⟩ := it
    simp only [It.k, It.n, It.s, It.lv, It.a, It.l, It.cap] at *
    obtain ⟨w3, hw3⟩ : ∃ w3, w3 = w2.alloc (.cells (rc yk yn ys (.slice ya yl.length yc) 0 (q : Int) 0) 91) := ⟨_, rfl⟩
    have hb3 : Below w2.heap.size w2 w3 := by rw [hw3]; exact (Below.refl _ _).alloc (Nat.le_refl _) _
    have hg3 : w3.heap[w2.heap.size]? = some (.cells (rc yk yn ys (.slice ya yl.length yc) 0 (q : Int) 0) 91 (0, 0)) := by rw [hw3]; exact heap_alloc_new _ _
    have hg2 := (hb3.block w.heap.size (Nat.lt_of_lt_of_le hz1 hb.size)).trans ((hb.block _ hz1).trans H.out.2.2.1)
    have hin3 : It.In w3 (w1.heap.size ≤ ·) (.mk yk yn ys ya yc yl) := It.In.kept (keptS_any hb3) _ hin
    obtain ⟨r0, r1, r2, r3, r4, r5, r6, fr⟩ := rc_cells hg3
    obtain ⟨q0, q1, q2, q3⟩ := it_cells hg2
    have f : ∀ j, w3.frozen? ⟨w.heap.size, j, none⟩ = false := fun j => Lib.frozen_of_heap hg2 j
    have HB := Lib.hid (And.intro (hb2.trans (hb3.mono hb2.size)) (And.intro hin3 hqr))
    clear hb hb2 hb3 hg2 hg3 hz1 hin hin3 hqr
    unfold rc at hw3
    simp only [rc]
    by_cases hr : r' = []
    · have hqS : ((q : Int) != (S : Int)) = false := by
        rw [bne_eq_false_iff_eq]
        have := HB.out.2.2
        rw [hr] at this
        simp at this
        omega
      have HR := Lib.hid hr
      clear hr
      go_upto_region 2 with fail
      rw [← hw3]
      clear hw3
      go_wp2_with fail
      refine bodyPost_ret (v := .tuple #[.agg #[.int .i64 yk, .int .i64 yn, .string ys, .slice ya yl.length yc], .int .i64 0]) (by simp [results, Try.results35, go_sem, q0, q1, q2, q3]) rfl ?_
      refine ⟨below_setCells w.heap.size (Nat.le_refl _) [.int .i64 yk, .int .i64 yn, .string ys, .slice ya yl.length yc] 0 w3 HB.out.1, ?_⟩
      rw [H.out.2.2.2.2.1]
      simp only [decE]
      rw [if_pos HR.out]
      refine ⟨.mk yk yn ys ya yc yl, rfl, rfl, ?_⟩
      refine It.In.kept (w := w3) (S := (w1.heap.size ≤ ·)) ⟨fun b hb _ => ⟨?_, ?_⟩, ?_⟩ _ HB.out.2.1
      · have h1 : w1.heap.size ≤ b := hb
        have := H.out.2.2.2.1
        show w.heap.size ≤ b
        omega
      · have h1 : w1.heap.size ≤ b := hb
        have := H.out.2.2.2.1
        exact c_heap_setCells_other w.heap.size b (by omega) [.int .i64 yk, .int .i64 yn, .string ys, .slice ya yl.length yc] 0 w3
      · exact Nat.le_of_eq (c_size_setCells w.heap.size [.int .i64 yk, .int .i64 yn, .string ys, .slice ya yl.length yc] 0 w3).symm
    · have hqS : ((q : Int) != (S : Int)) = true := by
        rw [bne_iff_ne]
        have := HB.out.2.2
        have h2 : r'.length ≠ 0 := fun e => hr (List.length_eq_zero_iff.1 e)
        omega
      have HR := Lib.hid hr
      clear hr
      go_upto_region 2 with fail
      rw [← hw3]
      clear hw3
      go_wp2_with fail
      refine bodyPost_ret (v := .tuple #[zeroIt, .int .i64 3]) (by simp [results, Try.results35, go_sem, q0, q1, q2, q3, zeroIt]) rfl ?_
      refine ⟨below_setCells w.heap.size (Nat.le_refl _) [.int .i64 0, .int .i64 0, .string ⟨#[]⟩, .slice none 0 0] 0 w3 HB.out.1, ?_⟩
      rw [H.out.2.2.2.2.1]
      simp only [decE]
      rw [if_neg HR.out]
      exact ⟨by decide, rfl⟩
end Go.Proofs.Ytgoimggfpagojaa
