/- PROVED HERE: for every three heads the law HeadLater returns true (which head could be signed behind another one; it goes through three, and each head behind itself). Its conditions: the two package-level tables hold what their initialisers lay (tied to the program's text by the card). -/
import Derived.Test.YtdjhlgodecnidaaDoorJLater
import Derived.Test.YtdjhlgodecnidaaDoorJOpen
import Derived.Test.YtdjhlgodecnidaaDoorLaid
namespace Go.Proofs.YtdjhlgodecnidaaDoor
open Go.RowKit
open Cn

/-- The boxes of the three arguments. -/
structure Three (w : World) (a b c : Hd) (W : World) : Prop where
  below : Below w.heap.size w W
  h0 : W.heap[w.heap.size]? = some (.cells a.cs 57 (0, 0))
  h1 : W.heap[w.heap.size + 1]? = some (.cells b.cs 57 (0, 0))
  h2 : W.heap[w.heap.size + 2]? = some (.cells c.cs 57 (0, 0))
theorem Three.step {w W W' : World} {a b c : Hd} (h : Three w a b c W) (hb : Below W.heap.size W W') : Three w a b c W' :=
  ⟨h.below.trans (hb.mono h.below.size), (hb.block _ (lt_of_heap h.h0)).trans h.h0, (hb.block _ (lt_of_heap h.h1)).trans h.h1, (hb.block _ (lt_of_heap h.h2)).trans h.h2⟩
theorem late_self (a : Hd) : lateB a a (a.r.toList == a.r.toList) = true := by
  unfold lateB
  rw [eq_toList rfl, Bool.or_true, Bool.and_true, decide_eq_true (Int.le_refl _), decide_eq_true (Int.le_refl _)]; rfl
theorem late_trans {a b c : Hd} (h1 : lateB a b (b.r.toList == a.r.toList) = true) (h2 : lateB b c (c.r.toList == b.r.toList) = true) : lateB a c (c.r.toList == a.r.toList) = true := by
  unfold lateB at *
  simp only [beq_texts, Bool.and_eq_true, Bool.or_eq_true, decide_eq_true_eq] at *
  obtain ⟨⟨p1, p2⟩, p3⟩ := h1
  obtain ⟨⟨q1, q2⟩, q3⟩ := h2
  refine ⟨⟨by omega, by omega⟩, ?_⟩
  rcases p3 with p3 | p3
  · exact Or.inl (by omega)
  · rcases q3 with q3 | q3
    · exact Or.inl (by omega)
    · exact Or.inr (q3.trans p3)
set_option maxRecDepth 100000 in
set_option maxHeartbeats 2000000 in
theorem laters_law {w : World} (a : Hd) (_ : a.Ok) (b : Hd) (_ : b.Ok) (c : Hd) (_ : c.Ok) (hG : Glob w) : Calls Tryd.prog 14 #[.agg a.cs, .agg b.cs, .agg c.cs] w fun e w' => e = .returned (.bool true) ∧ Below w.heap.size w w' := by
  obtain ⟨w1, hw1⟩ : ∃ w1, w1 = w.alloc (.cells a.cs 57) := ⟨_, rfl⟩
  have hb1 : Below w.heap.size w w1 := by rw [hw1]; exact (Below.refl _ _).alloc (Nat.le_refl _) _
  have hg1 : w1.heap[w.heap.size]? = some (.cells a.cs 57 (0, 0)) := by rw [hw1]; exact heap_alloc_new _ _
  have hs1 : w1.heap.size = w.heap.size + 1 := by rw [hw1]; simp
  obtain ⟨w2, hw2⟩ : ∃ w2, w2 = w1.alloc (.cells b.cs 57) := ⟨_, rfl⟩
  have hb2 : Below w1.heap.size w1 w2 := by rw [hw2]; exact (Below.refl _ _).alloc (Nat.le_refl _) _
  have hg2 : w2.heap[w.heap.size + 1]? = some (.cells b.cs 57 (0, 0)) := by rw [hw2, ← hs1]; exact heap_alloc_new _ _
  have hs2 : w2.heap.size = w.heap.size + 2 := by rw [hw2]; simp [hs1]
  obtain ⟨w3, hw3⟩ : ∃ w3, w3 = w2.alloc (.cells c.cs 57) := ⟨_, rfl⟩
  have hb3 : Below w2.heap.size w2 w3 := by rw [hw3]; exact (Below.refl _ _).alloc (Nat.le_refl _) _
  have hg3 : w3.heap[w.heap.size + 2]? = some (.cells c.cs 57 (0, 0)) := by rw [hw3, ← hs2]; exact heap_alloc_new _ _
  have hb23 := hb2.trans (hb3.mono hb2.size)
  have T3 : Three w a b c w3 := ⟨hb1.trans (hb23.mono hb1.size), (hb23.block _ (lt_of_heap hg1)).trans hg1, (hb3.block _ (lt_of_heap hg2)).trans hg2, hg3⟩
  have hfa := fun W => fewH_any ⟨#[]⟩ a W
  have hfb := fun W => fewH_any ⟨#[]⟩ b W
  have hfc := fun W => fewH_any ⟨#[]⟩ c W
  obtain ⟨A1, hA1⟩ : ∃ A, A = fewH ⟨#[]⟩ a := ⟨_, rfl⟩
  obtain ⟨A2, hA2⟩ : ∃ A, A = fewH ⟨#[]⟩ b := ⟨_, rfl⟩
  obtain ⟨A3, hA3⟩ : ∃ A, A = fewH ⟨#[]⟩ c := ⟨_, rfl⟩
  rw [← hA1] at hfa
  rw [← hA2] at hfb
  rw [← hA3] at hfc
  have hl12 := fun W => later_any a b W
  have hl11 := fun W => later_any a a W
  have hl23 := fun W => later_any b c W
  have hl13 := fun W => later_any a c W
  rw [late_self] at hl11
  have htr := late_trans (a := a) (b := b) (c := c)
  obtain ⟨X, hX⟩ : ∃ X, X = (b.r.toList == a.r.toList) := ⟨_, rfl⟩
  rw [← hX] at hl12 htr
  obtain ⟨L12, h12⟩ : ∃ L, L = lateB a b X := ⟨_, rfl⟩
  obtain ⟨L23, h23⟩ : ∃ L, L = lateB b c (c.r.toList == b.r.toList) := ⟨_, rfl⟩
  obtain ⟨L13, h13⟩ : ∃ L, L = lateB a c (c.r.toList == a.r.toList) := ⟨_, rfl⟩
  rw [← h12] at hl12 htr
  rw [← h23] at hl23 htr
  rw [← h13] at hl13 htr
  have H := Lib.hid (And.intro T3 (And.intro hfa (And.intro hfb (And.intro hfc (And.intro hl12 (And.intro hl11 (And.intro hl23 (And.intro hl13 (And.intro htr h12)))))))))
  clear hb1 hg1 hs1 hb2 hg2 hs2 hb3 hg3 hb23 T3 hfa hfb hfc hA1 hA2 hA3 hl12 hl11 hl23 hl13 htr h12 h23 h13
  have hX1 := hX.symm
  clear hX
  unfold Hd.cs at hw1 hw2 hw3 ⊢
  go_enter Tryd.func14, Tryd.ntmps14
  go_upto_region 1 with fail
  rw [← hw1]
  rw [← hw2]
  rw [← hw3]
  clear hw1 hw2 hw3
  have T0 := Lib.hid H.out.1
  obtain ⟨a0, a1, a2, a3⟩ := hd_cell T0.out.h0
  obtain ⟨b0, b1, b2, b3⟩ := hd_cell T0.out.h1
  obtain ⟨c0, c1, c2, c3⟩ := hd_cell T0.out.h2
  go_wp2_with fail
  refine (H.out.2.1 _).mono ?_
  rintro e u1 ⟨rfl, hb⟩
  have T1 := Lib.hid (T0.out.step hb)
  clear a0 a1 a2 a3 b0 b1 b2 b3 c0 c1 c2 c3
  clear hb
  cases A1 with
  | false =>
    obtain ⟨a0, a1, a2, a3⟩ := hd_cell T1.out.h0
    obtain ⟨b0, b1, b2, b3⟩ := hd_cell T1.out.h1
    obtain ⟨c0, c1, c2, c3⟩ := hd_cell T1.out.h2
    go_wp2_with fail
    refine (awake14_any _ (hG.below T1.out.below)).mono ?_
    rintro e u2 ⟨rfl, hb⟩
    have T2 := Lib.hid (T1.out.step hb)
    clear a0 a1 a2 a3 b0 b1 b2 b3 c0 c1 c2 c3
    clear hb
    obtain ⟨a0, a1, a2, a3⟩ := hd_cell T2.out.h0
    obtain ⟨b0, b1, b2, b3⟩ := hd_cell T2.out.h1
    obtain ⟨c0, c1, c2, c3⟩ := hd_cell T2.out.h2
    go_wp2_with fail
    go_ret
    exact ⟨rfl, T2.out.below⟩
  | true =>
    obtain ⟨a0, a1, a2, a3⟩ := hd_cell T1.out.h0
    obtain ⟨b0, b1, b2, b3⟩ := hd_cell T1.out.h1
    obtain ⟨c0, c1, c2, c3⟩ := hd_cell T1.out.h2
    go_wp2_with fail
    refine (H.out.2.2.1 _).mono ?_
    rintro e u3 ⟨rfl, hb⟩
    have T3 := Lib.hid (T1.out.step hb)
    clear a0 a1 a2 a3 b0 b1 b2 b3 c0 c1 c2 c3
    clear hb
    cases A2 with
    | false =>
      obtain ⟨a0, a1, a2, a3⟩ := hd_cell T3.out.h0
      obtain ⟨b0, b1, b2, b3⟩ := hd_cell T3.out.h1
      obtain ⟨c0, c1, c2, c3⟩ := hd_cell T3.out.h2
      go_wp2_with fail
      refine (awake14_any _ (hG.below T3.out.below)).mono ?_
      rintro e u4 ⟨rfl, hb⟩
      have T4 := Lib.hid (T3.out.step hb)
      clear a0 a1 a2 a3 b0 b1 b2 b3 c0 c1 c2 c3
      clear hb
      obtain ⟨a0, a1, a2, a3⟩ := hd_cell T4.out.h0
      obtain ⟨b0, b1, b2, b3⟩ := hd_cell T4.out.h1
      obtain ⟨c0, c1, c2, c3⟩ := hd_cell T4.out.h2
      go_wp2_with fail
      go_ret
      exact ⟨rfl, T4.out.below⟩
    | true =>
      obtain ⟨a0, a1, a2, a3⟩ := hd_cell T3.out.h0
      obtain ⟨b0, b1, b2, b3⟩ := hd_cell T3.out.h1
      obtain ⟨c0, c1, c2, c3⟩ := hd_cell T3.out.h2
      go_wp2_with fail
      refine (H.out.2.2.2.1 _).mono ?_
      rintro e u5 ⟨rfl, hb⟩
      have T5 := Lib.hid (T3.out.step hb)
      clear a0 a1 a2 a3 b0 b1 b2 b3 c0 c1 c2 c3
      clear hb
      cases A3 with
      | false =>
        obtain ⟨a0, a1, a2, a3⟩ := hd_cell T5.out.h0
        obtain ⟨b0, b1, b2, b3⟩ := hd_cell T5.out.h1
        obtain ⟨c0, c1, c2, c3⟩ := hd_cell T5.out.h2
        go_wp2_with fail
        refine (awake14_any _ (hG.below T5.out.below)).mono ?_
        rintro e u6 ⟨rfl, hb⟩
        have T6 := Lib.hid (T5.out.step hb)
        clear a0 a1 a2 a3 b0 b1 b2 b3 c0 c1 c2 c3
        clear hb
        obtain ⟨a0, a1, a2, a3⟩ := hd_cell T6.out.h0
        obtain ⟨b0, b1, b2, b3⟩ := hd_cell T6.out.h1
        obtain ⟨c0, c1, c2, c3⟩ := hd_cell T6.out.h2
        go_wp2_with fail
        go_ret
        exact ⟨rfl, T6.out.below⟩
      | true =>
        have h12 := H.out.2.2.2.2.2.2.2.2.2
        by_cases h1 : a.n ≤ b.n
        · by_cases h2 : a.t ≤ b.t
          · by_cases h3 : b.n = a.n
            · have n3 : (b.n != a.n) = false := by simp [h3]
              have q3 : ¬ (a.n < b.n) := by omega
              have e12 : L12 = X := by rw [h12]; unfold lateB; rw [decide_eq_true h1, decide_eq_true h2, decide_eq_false q3]; simp
              clear h12 h3 q3
              subst e12
              cases L12 with
              | false =>
                obtain ⟨a0, a1, a2, a3⟩ := hd_cell T5.out.h0
                obtain ⟨b0, b1, b2, b3⟩ := hd_cell T5.out.h1
                obtain ⟨c0, c1, c2, c3⟩ := hd_cell T5.out.h2
                go_wp2_with fail
                refine (awake14_any _ (hG.below T5.out.below)).mono ?_
                rintro e u7 ⟨rfl, hb⟩
                have T7 := Lib.hid (T5.out.step hb)
                clear a0 a1 a2 a3 b0 b1 b2 b3 c0 c1 c2 c3
                clear hb
                obtain ⟨a0, a1, a2, a3⟩ := hd_cell T7.out.h0
                obtain ⟨b0, b1, b2, b3⟩ := hd_cell T7.out.h1
                obtain ⟨c0, c1, c2, c3⟩ := hd_cell T7.out.h2
                go_wp2_with fail
                refine (H.out.2.2.2.2.1 _).mono ?_
                rintro e u8 ⟨rfl, hb⟩
                have T8 := Lib.hid (T7.out.step hb)
                clear a0 a1 a2 a3 b0 b1 b2 b3 c0 c1 c2 c3
                clear hb
                obtain ⟨a0, a1, a2, a3⟩ := hd_cell T8.out.h0
                obtain ⟨b0, b1, b2, b3⟩ := hd_cell T8.out.h1
                obtain ⟨c0, c1, c2, c3⟩ := hd_cell T8.out.h2
                go_wp2_with fail
                refine (H.out.2.2.2.2.2.1 _).mono ?_
                rintro e u9 ⟨rfl, hb⟩
                have T9 := Lib.hid (T8.out.step hb)
                clear a0 a1 a2 a3 b0 b1 b2 b3 c0 c1 c2 c3
                clear hb
                obtain ⟨a0, a1, a2, a3⟩ := hd_cell T9.out.h0
                obtain ⟨b0, b1, b2, b3⟩ := hd_cell T9.out.h1
                obtain ⟨c0, c1, c2, c3⟩ := hd_cell T9.out.h2
                go_wp2_with fail
                refine (H.out.2.2.2.2.1 _).mono ?_
                rintro e u10 ⟨rfl, hb⟩
                have T10 := Lib.hid (T9.out.step hb)
                clear a0 a1 a2 a3 b0 b1 b2 b3 c0 c1 c2 c3
                clear hb
                obtain ⟨a0, a1, a2, a3⟩ := hd_cell T10.out.h0
                obtain ⟨b0, b1, b2, b3⟩ := hd_cell T10.out.h1
                obtain ⟨c0, c1, c2, c3⟩ := hd_cell T10.out.h2
                go_wp2_with fail
                go_ret
                exact ⟨rfl, T10.out.below⟩
              | true =>
                obtain ⟨a0, a1, a2, a3⟩ := hd_cell T5.out.h0
                obtain ⟨b0, b1, b2, b3⟩ := hd_cell T5.out.h1
                obtain ⟨c0, c1, c2, c3⟩ := hd_cell T5.out.h2
                go_wp2_with fail
                refine (awake14_any _ (hG.below T5.out.below)).mono ?_
                rintro e u11 ⟨rfl, hb⟩
                have T11 := Lib.hid (T5.out.step hb)
                clear a0 a1 a2 a3 b0 b1 b2 b3 c0 c1 c2 c3
                clear hb
                obtain ⟨a0, a1, a2, a3⟩ := hd_cell T11.out.h0
                obtain ⟨b0, b1, b2, b3⟩ := hd_cell T11.out.h1
                obtain ⟨c0, c1, c2, c3⟩ := hd_cell T11.out.h2
                go_wp2_with fail
                refine (H.out.2.2.2.2.1 _).mono ?_
                rintro e u12 ⟨rfl, hb⟩
                have T12 := Lib.hid (T11.out.step hb)
                clear a0 a1 a2 a3 b0 b1 b2 b3 c0 c1 c2 c3
                clear hb
                obtain ⟨a0, a1, a2, a3⟩ := hd_cell T12.out.h0
                obtain ⟨b0, b1, b2, b3⟩ := hd_cell T12.out.h1
                obtain ⟨c0, c1, c2, c3⟩ := hd_cell T12.out.h2
                go_wp2_with fail
                refine (H.out.2.2.2.2.2.1 _).mono ?_
                rintro e u13 ⟨rfl, hb⟩
                have T13 := Lib.hid (T12.out.step hb)
                clear a0 a1 a2 a3 b0 b1 b2 b3 c0 c1 c2 c3
                clear hb
                obtain ⟨a0, a1, a2, a3⟩ := hd_cell T13.out.h0
                obtain ⟨b0, b1, b2, b3⟩ := hd_cell T13.out.h1
                obtain ⟨c0, c1, c2, c3⟩ := hd_cell T13.out.h2
                go_wp2_with fail
                refine (H.out.2.2.2.2.1 _).mono ?_
                rintro e u14 ⟨rfl, hb⟩
                have T14 := Lib.hid (T13.out.step hb)
                clear a0 a1 a2 a3 b0 b1 b2 b3 c0 c1 c2 c3
                clear hb
                obtain ⟨a0, a1, a2, a3⟩ := hd_cell T14.out.h0
                obtain ⟨b0, b1, b2, b3⟩ := hd_cell T14.out.h1
                obtain ⟨c0, c1, c2, c3⟩ := hd_cell T14.out.h2
                go_wp2_with fail
                refine (H.out.2.2.2.2.2.2.1 _).mono ?_
                rintro e u15 ⟨rfl, hb⟩
                have T15 := Lib.hid (T14.out.step hb)
                clear a0 a1 a2 a3 b0 b1 b2 b3 c0 c1 c2 c3
                clear hb
                cases L23 with
                | false =>
                  obtain ⟨a0, a1, a2, a3⟩ := hd_cell T15.out.h0
                  obtain ⟨b0, b1, b2, b3⟩ := hd_cell T15.out.h1
                  obtain ⟨c0, c1, c2, c3⟩ := hd_cell T15.out.h2
                  go_wp2_with fail
                  go_ret
                  exact ⟨rfl, T15.out.below⟩
                | true =>
                  have e13 : L13 = true := by first | exact H.out.2.2.2.2.2.2.2.2.1 (by trivial) (by trivial) | exact H.out.2.2.2.2.2.2.2.2.1 (by trivial) | exact H.out.2.2.2.2.2.2.2.2.1
                  subst e13
                  obtain ⟨a0, a1, a2, a3⟩ := hd_cell T15.out.h0
                  obtain ⟨b0, b1, b2, b3⟩ := hd_cell T15.out.h1
                  obtain ⟨c0, c1, c2, c3⟩ := hd_cell T15.out.h2
                  go_wp2_with fail
                  refine (H.out.2.2.2.2.2.2.2.1 _).mono ?_
                  rintro e u16 ⟨rfl, hb⟩
                  have T16 := Lib.hid (T15.out.step hb)
                  clear a0 a1 a2 a3 b0 b1 b2 b3 c0 c1 c2 c3
                  clear hb
                  obtain ⟨a0, a1, a2, a3⟩ := hd_cell T16.out.h0
                  obtain ⟨b0, b1, b2, b3⟩ := hd_cell T16.out.h1
                  obtain ⟨c0, c1, c2, c3⟩ := hd_cell T16.out.h2
                  go_wp2_with fail
                  go_ret
                  exact ⟨rfl, T16.out.below⟩
            · have n3 : (b.n != a.n) = true := by simpa using h3
              have q3 : a.n < b.n := by omega
              have e12 : L12 = true := by rw [h12]; unfold lateB; rw [decide_eq_true h1, decide_eq_true h2, decide_eq_true q3]; rfl
              clear h12 h3 q3
              subst e12
              obtain ⟨a0, a1, a2, a3⟩ := hd_cell T5.out.h0
              obtain ⟨b0, b1, b2, b3⟩ := hd_cell T5.out.h1
              obtain ⟨c0, c1, c2, c3⟩ := hd_cell T5.out.h2
              go_wp2_with fail
              refine (awake14_any _ (hG.below T5.out.below)).mono ?_
              rintro e u17 ⟨rfl, hb⟩
              have T17 := Lib.hid (T5.out.step hb)
              clear a0 a1 a2 a3 b0 b1 b2 b3 c0 c1 c2 c3
              clear hb
              obtain ⟨a0, a1, a2, a3⟩ := hd_cell T17.out.h0
              obtain ⟨b0, b1, b2, b3⟩ := hd_cell T17.out.h1
              obtain ⟨c0, c1, c2, c3⟩ := hd_cell T17.out.h2
              go_wp2_with fail
              refine (H.out.2.2.2.2.1 _).mono ?_
              rintro e u18 ⟨rfl, hb⟩
              have T18 := Lib.hid (T17.out.step hb)
              clear a0 a1 a2 a3 b0 b1 b2 b3 c0 c1 c2 c3
              clear hb
              obtain ⟨a0, a1, a2, a3⟩ := hd_cell T18.out.h0
              obtain ⟨b0, b1, b2, b3⟩ := hd_cell T18.out.h1
              obtain ⟨c0, c1, c2, c3⟩ := hd_cell T18.out.h2
              go_wp2_with fail
              refine (H.out.2.2.2.2.2.1 _).mono ?_
              rintro e u19 ⟨rfl, hb⟩
              have T19 := Lib.hid (T18.out.step hb)
              clear a0 a1 a2 a3 b0 b1 b2 b3 c0 c1 c2 c3
              clear hb
              obtain ⟨a0, a1, a2, a3⟩ := hd_cell T19.out.h0
              obtain ⟨b0, b1, b2, b3⟩ := hd_cell T19.out.h1
              obtain ⟨c0, c1, c2, c3⟩ := hd_cell T19.out.h2
              go_wp2_with fail
              refine (H.out.2.2.2.2.1 _).mono ?_
              rintro e u20 ⟨rfl, hb⟩
              have T20 := Lib.hid (T19.out.step hb)
              clear a0 a1 a2 a3 b0 b1 b2 b3 c0 c1 c2 c3
              clear hb
              obtain ⟨a0, a1, a2, a3⟩ := hd_cell T20.out.h0
              obtain ⟨b0, b1, b2, b3⟩ := hd_cell T20.out.h1
              obtain ⟨c0, c1, c2, c3⟩ := hd_cell T20.out.h2
              go_wp2_with fail
              refine (H.out.2.2.2.2.2.2.1 _).mono ?_
              rintro e u21 ⟨rfl, hb⟩
              have T21 := Lib.hid (T20.out.step hb)
              clear a0 a1 a2 a3 b0 b1 b2 b3 c0 c1 c2 c3
              clear hb
              cases L23 with
              | false =>
                obtain ⟨a0, a1, a2, a3⟩ := hd_cell T21.out.h0
                obtain ⟨b0, b1, b2, b3⟩ := hd_cell T21.out.h1
                obtain ⟨c0, c1, c2, c3⟩ := hd_cell T21.out.h2
                go_wp2_with fail
                go_ret
                exact ⟨rfl, T21.out.below⟩
              | true =>
                have e13 : L13 = true := by first | exact H.out.2.2.2.2.2.2.2.2.1 (by trivial) (by trivial) | exact H.out.2.2.2.2.2.2.2.2.1 (by trivial) | exact H.out.2.2.2.2.2.2.2.2.1
                subst e13
                obtain ⟨a0, a1, a2, a3⟩ := hd_cell T21.out.h0
                obtain ⟨b0, b1, b2, b3⟩ := hd_cell T21.out.h1
                obtain ⟨c0, c1, c2, c3⟩ := hd_cell T21.out.h2
                go_wp2_with fail
                refine (H.out.2.2.2.2.2.2.2.1 _).mono ?_
                rintro e u22 ⟨rfl, hb⟩
                have T22 := Lib.hid (T21.out.step hb)
                clear a0 a1 a2 a3 b0 b1 b2 b3 c0 c1 c2 c3
                clear hb
                obtain ⟨a0, a1, a2, a3⟩ := hd_cell T22.out.h0
                obtain ⟨b0, b1, b2, b3⟩ := hd_cell T22.out.h1
                obtain ⟨c0, c1, c2, c3⟩ := hd_cell T22.out.h2
                go_wp2_with fail
                go_ret
                exact ⟨rfl, T22.out.below⟩
          · have e12 : L12 = false := by rw [h12]; unfold lateB; rw [decide_eq_false h2]; simp
            clear h12
            subst e12
            obtain ⟨a0, a1, a2, a3⟩ := hd_cell T5.out.h0
            obtain ⟨b0, b1, b2, b3⟩ := hd_cell T5.out.h1
            obtain ⟨c0, c1, c2, c3⟩ := hd_cell T5.out.h2
            go_wp2_with fail
            refine (awake14_any _ (hG.below T5.out.below)).mono ?_
            rintro e u23 ⟨rfl, hb⟩
            have T23 := Lib.hid (T5.out.step hb)
            clear a0 a1 a2 a3 b0 b1 b2 b3 c0 c1 c2 c3
            clear hb
            obtain ⟨a0, a1, a2, a3⟩ := hd_cell T23.out.h0
            obtain ⟨b0, b1, b2, b3⟩ := hd_cell T23.out.h1
            obtain ⟨c0, c1, c2, c3⟩ := hd_cell T23.out.h2
            go_wp2_with fail
            refine (H.out.2.2.2.2.1 _).mono ?_
            rintro e u24 ⟨rfl, hb⟩
            have T24 := Lib.hid (T23.out.step hb)
            clear a0 a1 a2 a3 b0 b1 b2 b3 c0 c1 c2 c3
            clear hb
            obtain ⟨a0, a1, a2, a3⟩ := hd_cell T24.out.h0
            obtain ⟨b0, b1, b2, b3⟩ := hd_cell T24.out.h1
            obtain ⟨c0, c1, c2, c3⟩ := hd_cell T24.out.h2
            go_wp2_with fail
            refine (H.out.2.2.2.2.2.1 _).mono ?_
            rintro e u25 ⟨rfl, hb⟩
            have T25 := Lib.hid (T24.out.step hb)
            clear a0 a1 a2 a3 b0 b1 b2 b3 c0 c1 c2 c3
            clear hb
            obtain ⟨a0, a1, a2, a3⟩ := hd_cell T25.out.h0
            obtain ⟨b0, b1, b2, b3⟩ := hd_cell T25.out.h1
            obtain ⟨c0, c1, c2, c3⟩ := hd_cell T25.out.h2
            go_wp2_with fail
            refine (H.out.2.2.2.2.1 _).mono ?_
            rintro e u26 ⟨rfl, hb⟩
            have T26 := Lib.hid (T25.out.step hb)
            clear a0 a1 a2 a3 b0 b1 b2 b3 c0 c1 c2 c3
            clear hb
            obtain ⟨a0, a1, a2, a3⟩ := hd_cell T26.out.h0
            obtain ⟨b0, b1, b2, b3⟩ := hd_cell T26.out.h1
            obtain ⟨c0, c1, c2, c3⟩ := hd_cell T26.out.h2
            go_wp2_with fail
            go_ret
            exact ⟨rfl, T26.out.below⟩
        · have e12 : L12 = false := by rw [h12]; unfold lateB; rw [decide_eq_false h1]; simp
          clear h12
          subst e12
          obtain ⟨a0, a1, a2, a3⟩ := hd_cell T5.out.h0
          obtain ⟨b0, b1, b2, b3⟩ := hd_cell T5.out.h1
          obtain ⟨c0, c1, c2, c3⟩ := hd_cell T5.out.h2
          go_wp2_with fail
          refine (awake14_any _ (hG.below T5.out.below)).mono ?_
          rintro e u27 ⟨rfl, hb⟩
          have T27 := Lib.hid (T5.out.step hb)
          clear a0 a1 a2 a3 b0 b1 b2 b3 c0 c1 c2 c3
          clear hb
          obtain ⟨a0, a1, a2, a3⟩ := hd_cell T27.out.h0
          obtain ⟨b0, b1, b2, b3⟩ := hd_cell T27.out.h1
          obtain ⟨c0, c1, c2, c3⟩ := hd_cell T27.out.h2
          go_wp2_with fail
          refine (H.out.2.2.2.2.1 _).mono ?_
          rintro e u28 ⟨rfl, hb⟩
          have T28 := Lib.hid (T27.out.step hb)
          clear a0 a1 a2 a3 b0 b1 b2 b3 c0 c1 c2 c3
          clear hb
          obtain ⟨a0, a1, a2, a3⟩ := hd_cell T28.out.h0
          obtain ⟨b0, b1, b2, b3⟩ := hd_cell T28.out.h1
          obtain ⟨c0, c1, c2, c3⟩ := hd_cell T28.out.h2
          go_wp2_with fail
          refine (H.out.2.2.2.2.2.1 _).mono ?_
          rintro e u29 ⟨rfl, hb⟩
          have T29 := Lib.hid (T28.out.step hb)
          clear a0 a1 a2 a3 b0 b1 b2 b3 c0 c1 c2 c3
          clear hb
          obtain ⟨a0, a1, a2, a3⟩ := hd_cell T29.out.h0
          obtain ⟨b0, b1, b2, b3⟩ := hd_cell T29.out.h1
          obtain ⟨c0, c1, c2, c3⟩ := hd_cell T29.out.h2
          go_wp2_with fail
          refine (H.out.2.2.2.2.1 _).mono ?_
          rintro e u30 ⟨rfl, hb⟩
          have T30 := Lib.hid (T29.out.step hb)
          clear a0 a1 a2 a3 b0 b1 b2 b3 c0 c1 c2 c3
          clear hb
          obtain ⟨a0, a1, a2, a3⟩ := hd_cell T30.out.h0
          obtain ⟨b0, b1, b2, b3⟩ := hd_cell T30.out.h1
          obtain ⟨c0, c1, c2, c3⟩ := hd_cell T30.out.h2
          go_wp2_with fail
          go_ret
          exact ⟨rfl, T30.out.below⟩
end Go.Proofs.YtdjhlgodecnidaaDoor

namespace Go.Proofs.YtdjhlgodecnidaaDoor.headLaterLaw
open Go.ChangeShapes Go.WideShapes Go.ChangeAt Go.RowKit
open Go.ChangeMaps (open_string shut_string)

set_option maxRecDepth 100000 in
theorem contract (H : Type) (enc : TypeId × Value → H) (W : World) (base : Nat) (args : Array Value) (ds gs : List (DataW H)) (before : List MemPlace)
    (hval : ∀ (j : Nat) t v, Tryd.f14.params[j]? = some t → args[j]? = some v → Value.okWide Tryd.prog W .any base t v)
    (hW : DataW.Whole enc Tryd.prog Tryd.f14.params.toList Rows.headLaterSpec.vars false W args.toList ds gs before) (hL : laidMetH Tryd.prog Rows.headLaterRow.laid W) :
    Calls Tryd.prog 14 args W fun e W' => ∃ v, e = .returned v ∧ Rows.headLaterSpec.post enc Tryd.prog Tryd.f14 false true false false W args v W' := by
  have hW' := hW
  obtain ⟨p, q, hA0, hV, rfl, hfz, hnd⟩ := hW
  have hA : DataW.TrodAll enc Tryd.prog W 0 (fun _ => true) true Tryd.f14.params.toList args.toList ds p := hA0
  rw [Tryd.params14] at hA hval
  obtain ⟨v0, vs0, d0, ds0, p0, q0, hargs, rfl, rfl, h0, r0⟩ := trodAll_cons hA
  obtain ⟨v1, vs1, d1, ds1, p1, q1, rfl, rfl, rfl, h1, r1⟩ := trodAll_cons r0
  obtain ⟨v2, vs2, d2, ds2, p2, q2, rfl, rfl, rfl, h2, r2⟩ := trodAll_cons r1
  obtain ⟨rfl, rfl, rfl⟩ := trodAll_nil r2
  obtain rfl : args = #[v0, v1, v2] := by cases args; simp_all
  obtain ⟨rfl, rfl⟩ := trodVars_none hV
  obtain ⟨cs0, rfl, hcs0⟩ := okWide_struct Tryd.underlying57 (hval 0 57 v0 rfl rfl)
  have hk0 := h0
  obtain ⟨fuel0, hf0⟩ := h0
  obtain ⟨cs1, rfl, hcs1⟩ := okWide_struct Tryd.underlying57 (hval 1 57 v1 rfl rfl)
  have hk1 := h1
  obtain ⟨fuel1, hf1⟩ := h1
  obtain ⟨cs2, rfl, hcs2⟩ := okWide_struct Tryd.underlying57 (hval 2 57 v2 rfl rfl)
  have hk2 := h2
  obtain ⟨fuel2, hf2⟩ := h2
  clear hA0
  simp only [List.append_nil] at hW'
  have hlt0 : ∀ x ∈ p0, x.block < W.heap.size := fun x hx => by simpa using hW'.lt x (by simp [hx])
  obtain ⟨x0a, hit0, hf0a⟩ := open_head hf0
  obtain rfl : cs0 = Hd.cs x0a := Array.toList_inj.1 hit0
  have hlt1 : ∀ x ∈ p1, x.block < W.heap.size := fun x hx => by simpa using hW'.lt x (by simp [hx])
  obtain ⟨x1a, hit1, hf1a⟩ := open_head hf1
  obtain rfl : cs1 = Hd.cs x1a := Array.toList_inj.1 hit1
  have hlt2 : ∀ x ∈ p2, x.block < W.heap.size := fun x hx => by simpa using hW'.lt x (by simp [hx])
  obtain ⟨x2a, hit2, hf2a⟩ := open_head hf2
  obtain rfl : cs2 = Hd.cs x2a := Array.toList_inj.1 hit2
  refine (laters_law x0a hf0a x1a hf1a x2a hf2a (w := W) (hG := glob_of_laid hL)).mono fun e W' ⟨he, hb⟩ => ?_
  subst he
  exact ⟨_, rfl, _, _, _, [], _, [], hW', trodAll_cons_mk (shut_bool Tryd.underlying4 _) trodAll_mk0, (trodAll_cons_mk (Below.trod laidOut (by kernel_rfl) (of_decide_eq_true (by kernel_rfl)) hk0 hb hlt0) (trodAll_cons_mk (Below.trod laidOut (by kernel_rfl) (of_decide_eq_true (by kernel_rfl)) hk1 hb hlt1) (trodAll_cons_mk (Below.trod laidOut (by kernel_rfl) (of_decide_eq_true (by kernel_rfl)) hk2 hb hlt2) trodAll_mk0))), rfl, hb.frame _, fun h => by cases h⟩
theorem laid_met (os : Os) : laidMet Tryd.prog Rows.headLaterRow.laid ((laidWorld os).forCall (fun _ _ => 0) ⟨#[], #[.agg #[.int .i64 0, .string ⟨#[]⟩, .int .i64 0, .string ⟨#[]⟩], .agg #[.int .i64 0, .string ⟨#[]⟩, .int .i64 0, .string ⟨#[]⟩], .agg #[.int .i64 0, .string ⟨#[]⟩, .int .i64 0, .string ⟨#[]⟩]], []⟩).memory :=
  laidMet_of_run' 8 (by kernel_rfl) (by kernel_rfl)
theorem reads (os : Os) {H : Type} (enc : TypeId × Value → H) : ∃ places, DataW.whole enc Tryd.prog ((laidWorld os).forCall (fun _ _ => 0) ⟨#[], #[.agg #[.int .i64 0, .string ⟨#[]⟩, .int .i64 0, .string ⟨#[]⟩], .agg #[.int .i64 0, .string ⟨#[]⟩, .int .i64 0, .string ⟨#[]⟩], .agg #[.int .i64 0, .string ⟨#[]⟩, .int .i64 0, .string ⟨#[]⟩]], []⟩).memory Tryd.f14.params.toList Rows.headLaterSpec.vars false #[Value.agg #[.int .i64 0, .string ⟨#[]⟩, .int .i64 0, .string ⟨#[]⟩], .agg #[.int .i64 0, .string ⟨#[]⟩, .int .i64 0, .string ⟨#[]⟩], .agg #[.int .i64 0, .string ⟨#[]⟩, .int .i64 0, .string ⟨#[]⟩]].toList 8 = some ([.agg [.lit (.int .i64 0), .lit (.string []), .lit (.int .i64 0), .lit (.string [])], .agg [.lit (.int .i64 0), .lit (.string []), .lit (.int .i64 0), .lit (.string [])], .agg [.lit (.int .i64 0), .lit (.string []), .lit (.int .i64 0), .lit (.string [])]], [], places) :=
  ⟨[], by kernel_rfl⟩
set_option maxRecDepth 100000 in
theorem lifted (os : Os) (started : os.Started) (H : Type) (enc : TypeId × Value → H) (F : Stop.Interp) :
    ReturnsInHanded {} Tryd.checked os 14 .any ((OpenSpec.ofChange Rows.headLaterSpec).preRow enc Tryd.prog Tryd.f14 Rows.headLaterRow.domain false Rows.headLaterRow.laid) (((OpenSpec.ofChange Rows.headLaterSpec).at F).post enc Tryd.prog Tryd.f14 false true false false) := by
  obtain ⟨places, hx⟩ := reads os enc
  refine returnsInHanded_of_row (C := Tryd.checked) (s := OpenSpec.ofChange Rows.headLaterSpec) own started (by kernel_rfl) Tryd.func14
    (witness_row_at (enc := enc) (C := Tryd.checked) false (laidWorld os) #[.agg #[.int .i64 0, .string ⟨#[]⟩, .int .i64 0, .string ⟨#[]⟩], .agg #[.int .i64 0, .string ⟨#[]⟩, .int .i64 0, .string ⟨#[]⟩], .agg #[.int .i64 0, .string ⟨#[]⟩, .int .i64 0, .string ⟨#[]⟩]] rfl (by kernel_rfl) (by kernel_rfl) (by kernel_rfl)
      (OpenSpec.preRow_of_cond 8 hx (by kernel_rfl) (fun k hk => by cases hk) (by kernel_rfl) (laid_met os))) ?_
  intro W base args ds gs before hval hW _ _ _ hL _ _
  exact contract H enc W base args ds gs before hval hW hL
theorem said : Rows.HeadLaterSaid :=
  OpenClaim.holds_of_cond 14 Tryd.f14 rfl rfl rfl rfl rfl rfl rfl ⟨rfl, rfl, rfl, rfl, rfl⟩ rfl rfl rfl rfl rfl (by kernel_rfl) Tryd.func14 (by kernel_rfl)
    (of_decide_eq_true (by kernel_rfl)) (by unfold Func.isWrapper; first | (rw [if_pos (by decide +kernel)]; kernel_rfl) | (rw [if_neg (by decide +kernel)]; exact ⟨rfl, rfl⟩))
    (fun os started H enc _ F => by rw [OpenClaim.pre_eq_preRow]; exact lifted os started H enc F)
theorem plain (f : FuncId) (fn : Func) (hf : Tryd.pinned.checked.prog.funcNamed "lockbox/lockboxlaw14.HeadLater" = some f) (hfn : Tryd.pinned.checked.prog.funcs[f]? = some fn) :
    false = Tryd.pinned.checked.prog.looks [] ∧ ∀ (j : Nat) t, fn.params[j]? = some t → Tryd.pinned.checked.prog.wantsStandIn t = false := by
  obtain rfl : f = 14 := Option.some.inj ((show Tryd.prog.funcNamed "lockbox/lockboxlaw14.HeadLater" = some 14 by kernel_rfl).symm.trans hf) |>.symm
  obtain rfl : fn = Tryd.f14 := (Option.some.inj (Tryd.func14.symm.trans hfn)).symm
  refine ⟨by kernel_rfl, fun j t ht => ?_⟩
  rw [Tryd.params14] at ht
  have hm : t ∈ [57, 57, 57] := by simpa using Array.mem_of_getElem? ht
  have hall : ([57, 57, 57].all fun u => !Tryd.prog.wantsStandIn u) = true := by kernel_rfl
  exact (show Tryd.prog.wantsStandIn t = false by simpa using List.all_eq_true.1 hall t hm)
end Go.Proofs.YtdjhlgodecnidaaDoor.headLaterLaw

namespace Go.Proofs.YtdjhlgodecnidaaDoor
/-- THE CARD. -/
theorem headLater_card : Rows.HeadLaterCardSaid :=
  Claim7.holds_tied_plain_at .later [] _ _ _ _ headLaterLaw.said (fun _ h => by cases h) (by kernel_rfl) (fun _ h => by cases h) headLater_row_tie rfl ⟨rfl, rfl⟩ (by kernel_rfl) rfl headLaterLaw.plain (by kernel_rfl)
end Go.Proofs.YtdjhlgodecnidaaDoor
