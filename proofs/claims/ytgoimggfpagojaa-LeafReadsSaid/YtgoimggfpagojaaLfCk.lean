/- leaf.Check. -/
import Derived.Test.YtgoimggfpagojaaLfChk
namespace Go.Proofs.Ytgoimggfpagojaa
open Go.RowKit

theorem lfB_eq (l : Lf) : lfB l = ((decide (l.k = 1) || decide (l.k = 2)) && (decide (l.k ≠ 2) || decide (l.tags = [])) && decide (0 ≤ l.n) && decide (l.n ≤ 4095) && decide (l.d.size = 32) && hvB l.n l.tags && decide (l.x.size = 32)) := by
  unfold lfB headB hvB
  rw [Bool.eq_iff_iff]
  simp only [Bool.and_eq_true, Bool.or_eq_true, decide_eq_true_eq]
  constructor
  · rintro ⟨⟨⟨⟨⟨⟨⟨a, b⟩, c⟩, d⟩, e⟩, f⟩, g⟩, h⟩; exact ⟨⟨⟨⟨⟨⟨c, g⟩, a⟩, b⟩, d⟩, f, h⟩, e⟩
  · rintro ⟨⟨⟨⟨⟨⟨c, g⟩, a⟩, b⟩, d⟩, f, h⟩, e⟩; exact ⟨⟨⟨⟨⟨⟨⟨a, b⟩, c⟩, d⟩, e⟩, f⟩, g⟩, h⟩
set_option maxRecDepth 100000 in
set_option maxHeartbeats 4000000 in
theorem check17_any (l : Lf) (a0 : Option Addr) (cap : Nat) (hl : l.tags.length ≤ 1000000000) (w : World) (hT : PoAt w a0 l.tags) :
    Calls Try.prog 9 #[.agg (lfCs l a0 cap)] w fun e w' => e = .returned (.bool (lfB l)) ∧ Below w.heap.size w w' := by
  obtain ⟨w1, hw1⟩ : ∃ w1, w1 = w.alloc (.cells (lfCs l a0 cap) 24) := ⟨_, rfl⟩
  have hb1 : Below w.heap.size w w1 := by rw [hw1]; exact (Below.refl _ _).alloc (Nat.le_refl _) _
  have hg1 : w1.heap[w.heap.size]? = some (.cells (lfCs l a0 cap) 24 (0, 0)) := by rw [hw1]; exact heap_alloc_new _ _
  obtain ⟨R, hR⟩ : ∃ R, R = lfB l := ⟨_, rfl⟩
  rw [← hR]
  rw [lfB_eq] at hR
  have hmh := mayHave_any l.n l.tags a0 cap hl w1 (hT.below hb1)
  have hdd := fun W => isDigest_any l.d W
  have hdx := fun W => isDigest_any l.x W
  obtain ⟨c0, c1, c2, c3, c4⟩ := lf_cell hg1
  obtain ⟨n, k, d, tags, x⟩ := l
  have hlc : ∀ W, Below w1.heap.size w1 W → W.cell? ⟨w.heap.size, 0, none⟩ = some (.int .i64 n) ∧ W.cell? ⟨w.heap.size, 4, none⟩ = some (.string x) := fun W hW => by
    obtain ⟨e0, -, -, -, e4⟩ := lf_cell ((hW.block _ (Array.getElem?_eq_some_iff.1 hg1).1).trans hg1)
    exact ⟨e0, e4⟩
  obtain ⟨N, hN⟩ : ∃ N, N = tags.length := ⟨_, rfl⟩
  have hNe : decide (tags = []) = decide (N = 0) := by rw [hN]; cases tags <;> simp
  unfold lfCs at *
  simp only at *
  obtain ⟨hb, hhb⟩ : ∃ b, b = hvB n tags := ⟨_, rfl⟩
  obtain ⟨db, hdb⟩ : ∃ b, b = decide (d.size = 32) := ⟨_, rfl⟩
  obtain ⟨xb, hxb⟩ : ∃ b, b = decide (x.size = 32) := ⟨_, rfl⟩
  rw [← hN] at hw1 c3 hmh
  rw [← hdb] at hdd hR
  rw [← hxb] at hdx hR
  rw [← hhb] at hmh hR
  rw [hNe] at hR
  rw [← hN]
  clear hN hdb hxb hhb hNe hT hl hg1
  have H := Lib.hid (And.intro hb1 (And.intro hmh (And.intro hdd (And.intro hdx hlc))))
  clear hb1 hmh hdd hdx hlc
  by_cases k1 : k = 1 ∨ k = 2
  rotate_left
  · obtain rfl : R = false := by rw [hR, decide_eq_false (by omega), decide_eq_false (by omega)]; rfl
    have e1 : (k == 1) = false := by simp; omega
    have e2 : (k == 2) = false := by simp; omega
    clear hR k1
    go_enter Try.func9, Try.ntmps9
    go_wp2_with fail
    rw [← hw1]
    clear hw1
    go_wp2_with fail
    go_ret
    exact ⟨rfl, H.out.1⟩
  by_cases k2 : k = 2 ∧ 0 < N
  · obtain ⟨rfl, k2⟩ := k2
    obtain rfl : R = false := by rw [hR, decide_eq_false (show ¬ N = 0 by omega)]; rfl
    have e1 : decide ((0 : Int) < (N : Int)) = true := decide_eq_true (by omega)
    clear hR k1
    go_enter Try.func9, Try.ntmps9
    go_wp2_with fail
    rw [← hw1]
    clear hw1
    go_wp2_with fail
    go_ret
    exact ⟨rfl, H.out.1⟩
  have hR2 : R = (decide (0 ≤ n) && decide (n ≤ 4095) && db && hb && xb) := by
    rw [hR]
    rcases k1 with rfl | rfl
    · simp
    · rw [decide_eq_true (show N = 0 by omega)]; simp
  have hN0 : k = 1 ∨ (k = 2 ∧ N = 0) := by omega
  clear hR k1 k2
  rcases hN0 with rfl | ⟨rfl, hN0⟩
  · have q := True.intro
    by_cases n0 : 0 ≤ n
    rotate_left
    · obtain rfl : R = false := by rw [hR2, decide_eq_false n0]; rfl
      have e0 : decide (0 ≤ n) = false := decide_eq_false n0
      try clear hR2
      go_enter Try.func9, Try.ntmps9
      go_wp2_with fail
      rw [← hw1]
      clear hw1
      go_wp2_with fail
      go_ret
      exact ⟨rfl, H.out.1⟩
    by_cases n1 : n ≤ 4095
    rotate_left
    · obtain rfl : R = false := by rw [hR2, decide_eq_false n1]; simp
      have e1 : decide (n < 4096) = false := decide_eq_false (by omega)
      try clear hR2
      go_enter Try.func9, Try.ntmps9
      go_wp2_with fail
      rw [← hw1]
      clear hw1
      go_wp2_with fail
      go_ret
      exact ⟨rfl, H.out.1⟩
    have e1 : decide (n < 4096) = true := decide_eq_true (by omega)
    rw [decide_eq_true n0, decide_eq_true n1] at hR2
    cases db with
    | false =>
      obtain rfl : R = false := hR2
      try clear hR2
      go_enter Try.func9, Try.ntmps9
      go_wp2_with fail
      rw [← hw1]
      clear hw1
      go_wp2_with fail
      refine (H.out.2.2.1 _).mono ?_
      rintro e w2 ⟨rfl, rfl⟩
      go_wp2_with fail
      go_ret
      exact ⟨rfl, H.out.1⟩
    | true =>
      cases hb with
      | false =>
        obtain rfl : R = false := hR2
        try clear hR2
        go_enter Try.func9, Try.ntmps9
        go_wp2_with fail
        rw [← hw1]
        clear hw1
        go_wp2_with fail
        refine (H.out.2.2.1 _).mono ?_
        rintro e w2 ⟨rfl, rfl⟩
        go_wp2_with fail
        refine H.out.2.1.mono ?_
        rintro e w3 ⟨rfl, hb3⟩
        have HB := Lib.hid (H.out.1.trans (hb3.mono H.out.1.size))
        clear hb3
        go_wp2_with fail
        go_ret
        exact ⟨rfl, HB.out⟩
      | true =>
        obtain rfl : R = xb := by rw [hR2]; simp
        try clear hR2
        go_enter Try.func9, Try.ntmps9
        go_wp2_with fail
        rw [← hw1]
        clear hw1
        go_wp2_with fail
        refine (H.out.2.2.1 _).mono ?_
        rintro e w2 ⟨rfl, rfl⟩
        go_wp2_with fail
        refine H.out.2.1.mono ?_
        rintro e w3 ⟨rfl, hb3⟩
        obtain ⟨d0, d4⟩ := H.out.2.2.2.2 _ hb3
        have HB := Lib.hid (H.out.1.trans (hb3.mono H.out.1.size))
        clear hb3
        go_wp2_with fail
        refine (H.out.2.2.2.1 _).mono ?_
        rintro e w4 ⟨rfl, rfl⟩
        go_wp2_with fail
        go_ret
        exact ⟨by first | rfl | simp, HB.out⟩
  · subst hN0
    have e9 : decide ((0 : Int) < ((0 : Nat) : Int)) = false := decide_eq_false (by omega)
    by_cases n0 : 0 ≤ n
    rotate_left
    · obtain rfl : R = false := by rw [hR2, decide_eq_false n0]; rfl
      have e0 : decide (0 ≤ n) = false := decide_eq_false n0
      try clear hR2
      go_enter Try.func9, Try.ntmps9
      go_wp2_with fail
      rw [← hw1]
      clear hw1
      go_wp2_with fail
      go_ret
      exact ⟨rfl, H.out.1⟩
    by_cases n1 : n ≤ 4095
    rotate_left
    · obtain rfl : R = false := by rw [hR2, decide_eq_false n1]; simp
      have e1 : decide (n < 4096) = false := decide_eq_false (by omega)
      try clear hR2
      go_enter Try.func9, Try.ntmps9
      go_wp2_with fail
      rw [← hw1]
      clear hw1
      go_wp2_with fail
      go_ret
      exact ⟨rfl, H.out.1⟩
    have e1 : decide (n < 4096) = true := decide_eq_true (by omega)
    rw [decide_eq_true n0, decide_eq_true n1] at hR2
    cases db with
    | false =>
      obtain rfl : R = false := hR2
      try clear hR2
      go_enter Try.func9, Try.ntmps9
      go_wp2_with fail
      rw [← hw1]
      clear hw1
      go_wp2_with fail
      refine (H.out.2.2.1 _).mono ?_
      rintro e w2 ⟨rfl, rfl⟩
      go_wp2_with fail
      go_ret
      exact ⟨rfl, H.out.1⟩
    | true =>
      cases hb with
      | false =>
        obtain rfl : R = false := hR2
        try clear hR2
        go_enter Try.func9, Try.ntmps9
        go_wp2_with fail
        rw [← hw1]
        clear hw1
        go_wp2_with fail
        refine (H.out.2.2.1 _).mono ?_
        rintro e w2 ⟨rfl, rfl⟩
        go_wp2_with fail
        refine H.out.2.1.mono ?_
        rintro e w3 ⟨rfl, hb3⟩
        have HB := Lib.hid (H.out.1.trans (hb3.mono H.out.1.size))
        clear hb3
        go_wp2_with fail
        go_ret
        exact ⟨rfl, HB.out⟩
      | true =>
        obtain rfl : R = xb := by rw [hR2]; simp
        try clear hR2
        go_enter Try.func9, Try.ntmps9
        go_wp2_with fail
        rw [← hw1]
        clear hw1
        go_wp2_with fail
        refine (H.out.2.2.1 _).mono ?_
        rintro e w2 ⟨rfl, rfl⟩
        go_wp2_with fail
        refine H.out.2.1.mono ?_
        rintro e w3 ⟨rfl, hb3⟩
        obtain ⟨d0, d4⟩ := H.out.2.2.2.2 _ hb3
        have HB := Lib.hid (H.out.1.trans (hb3.mono H.out.1.size))
        clear hb3
        go_wp2_with fail
        refine (H.out.2.2.2.1 _).mono ?_
        rintro e w4 ⟨rfl, rfl⟩
        go_wp2_with fail
        go_ret
        exact ⟨by first | rfl | simp, HB.out⟩
end Go.Proofs.Ytgoimggfpagojaa
