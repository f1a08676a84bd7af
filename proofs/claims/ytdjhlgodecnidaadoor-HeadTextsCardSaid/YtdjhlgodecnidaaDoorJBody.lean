/- head.maySign, head.mayBe; the reference's Body; lockboxlaw14.few. -/
import Derived.Test.YtdjhlgodecnidaaDoorJMath
import Derived.Test.YtdjhlgodecnidaaDoorMC3
namespace Go.Proofs.YtdjhlgodecnidaaDoor
open Go.RowKit

theorem hd_cell {W : World} {g : Nat} {h : Hd} {t : TypeId} (e : W.heap[g]? = some (.cells h.cs t (0, 0))) :
    W.cell? ⟨g, 0, none⟩ = some (.int .i64 h.n) ∧ W.cell? ⟨g, 1, none⟩ = some (.string h.r) ∧ W.cell? ⟨g, 2, none⟩ = some (.int .i64 h.t) ∧ W.cell? ⟨g, 3, none⟩ = some (.string h.c) := by
  refine ⟨?_, ?_, ?_, ?_⟩ <;> (rw [cell_of_row _ _ _ _ _ _ e]; rfl)
theorem body_false {h : Hd} (e : ¬((0 ≤ h.n ∧ h.n ≤ 4096) ∧ h.r.size = 32 ∧ 0 ≤ h.t ∧ h.t ≤ 1099511627776)) : bodyB h = false := by
  cases hb : bodyB h with
  | false => rfl
  | true => exact absurd (bodyB_iff.1 hb) e
theorem may_false {h : Hd} (e : ¬(bodyB h = true ∧ h.c.size = 32)) : mayB h = false := by
  cases hb : mayB h with
  | false => rfl
  | true => exact absurd (mayB_iff.1 hb) e
set_option maxRecDepth 100000 in
set_option maxHeartbeats 1000000 in
theorem maySign_any (h : Hd) (w : World) : Calls Tryd.prog 75 #[.agg h.cs] w fun e w' => e = .returned (.bool (bodyB h)) ∧ Below w.heap.size w w' := by
  obtain ⟨n, r, t, c⟩ := h
  have hb0 : Below w.heap.size w (w.alloc (.cells (Hd.cs ⟨n, r, t, c⟩) 57)) := (Below.refl _ _).alloc (Nat.le_refl _) _
  obtain ⟨c0, c1, c2, c3⟩ := hd_cell (heap_alloc_new w (.cells (Hd.cs ⟨n, r, t, c⟩) 57))
  unfold Hd.cs at *
  simp only at c0 c1 c2 c3
  have H := Lib.hid hb0
  clear hb0
  by_cases h1 : 0 ≤ n
  · by_cases h2 : n ≤ 4096
    · by_cases h3 : r.size = 32
      · by_cases h4 : 0 ≤ t
        · by_cases h5 : t ≤ 1099511627776
          · rw [show bodyB ⟨n, r, t, c⟩ = true from bodyB_iff.2 ⟨⟨h1, h2⟩, h3, h4, h5⟩]
            have e3 : ((r.size : Int) != 32) = false := by simp; omega
            have e4 : ((r.size : Int) == 32) = true := by simp; omega
            clear h3
            go_enter Tryd.func75, Tryd.ntmps75
            go_wp2_with fail
            go_ret
            exact ⟨rfl, H.out⟩
          · rw [body_false (h := ⟨n, r, t, c⟩) (by simp only; omega)]
            have e3 : ((r.size : Int) != 32) = false := by simp; omega
            have e4 : ((r.size : Int) == 32) = true := by simp; omega
            clear h3
            go_enter Tryd.func75, Tryd.ntmps75
            go_wp2_with fail
            go_ret
            exact ⟨rfl, H.out⟩
        · rw [body_false (h := ⟨n, r, t, c⟩) (by simp only; omega)]
          have e3 : ((r.size : Int) != 32) = false := by simp; omega
          have e4 : ((r.size : Int) == 32) = true := by simp; omega
          clear h3
          go_enter Tryd.func75, Tryd.ntmps75
          go_wp2_with fail
          go_ret
          exact ⟨rfl, H.out⟩
      · rw [body_false (h := ⟨n, r, t, c⟩) (by simp only; omega)]
        have e3 : ((r.size : Int) != 32) = true := by simp; omega
        have e4 : ((r.size : Int) == 32) = false := by simp; omega
        go_enter Tryd.func75, Tryd.ntmps75
        go_wp2_with fail
        go_ret
        exact ⟨rfl, H.out⟩
    · rw [body_false (h := ⟨n, r, t, c⟩) (by simp only; omega)]
      go_enter Tryd.func75, Tryd.ntmps75
      go_wp2_with fail
      go_ret
      exact ⟨rfl, H.out⟩
  · rw [body_false (h := ⟨n, r, t, c⟩) (by simp only; omega)]
    go_enter Tryd.func75, Tryd.ntmps75
    go_wp2_with fail
    go_ret
    exact ⟨rfl, H.out⟩
set_option maxRecDepth 100000 in
set_option maxHeartbeats 1000000 in
theorem rbody_any (h : Hd) (w : World) : Calls Tryd.prog 77 #[.agg h.cs] w fun e w' => e = .returned (.bool (bodyB h)) ∧ Below w.heap.size w w' := by
  obtain ⟨n, r, t, c⟩ := h
  have hb0 : Below w.heap.size w (w.alloc (.cells (Hd.cs ⟨n, r, t, c⟩) 61)) := (Below.refl _ _).alloc (Nat.le_refl _) _
  obtain ⟨c0, c1, c2, c3⟩ := hd_cell (heap_alloc_new w (.cells (Hd.cs ⟨n, r, t, c⟩) 61))
  unfold Hd.cs at *
  simp only at c0 c1 c2 c3
  have H := Lib.hid hb0
  clear hb0
  by_cases h1 : 0 ≤ n
  · by_cases h2 : n ≤ 4096
    · by_cases h3 : r.size = 32
      · by_cases h4 : 0 ≤ t
        · by_cases h5 : t ≤ 1099511627776
          · rw [show bodyB ⟨n, r, t, c⟩ = true from bodyB_iff.2 ⟨⟨h1, h2⟩, h3, h4, h5⟩]
            have e3 : ((r.size : Int) != 32) = false := by simp; omega
            have e4 : ((r.size : Int) == 32) = true := by simp; omega
            clear h3
            go_enter Tryd.func77, Tryd.ntmps77
            go_wp2_with fail
            go_ret
            exact ⟨rfl, H.out⟩
          · rw [body_false (h := ⟨n, r, t, c⟩) (by simp only; omega)]
            have e3 : ((r.size : Int) != 32) = false := by simp; omega
            have e4 : ((r.size : Int) == 32) = true := by simp; omega
            clear h3
            go_enter Tryd.func77, Tryd.ntmps77
            go_wp2_with fail
            go_ret
            exact ⟨rfl, H.out⟩
        · rw [body_false (h := ⟨n, r, t, c⟩) (by simp only; omega)]
          have e3 : ((r.size : Int) != 32) = false := by simp; omega
          have e4 : ((r.size : Int) == 32) = true := by simp; omega
          clear h3
          go_enter Tryd.func77, Tryd.ntmps77
          go_wp2_with fail
          go_ret
          exact ⟨rfl, H.out⟩
      · rw [body_false (h := ⟨n, r, t, c⟩) (by simp only; omega)]
        have e3 : ((r.size : Int) != 32) = true := by simp; omega
        have e4 : ((r.size : Int) == 32) = false := by simp; omega
        go_enter Tryd.func77, Tryd.ntmps77
        go_wp2_with fail
        go_ret
        exact ⟨rfl, H.out⟩
    · rw [body_false (h := ⟨n, r, t, c⟩) (by simp only; omega)]
      go_enter Tryd.func77, Tryd.ntmps77
      go_wp2_with fail
      go_ret
      exact ⟨rfl, H.out⟩
  · rw [body_false (h := ⟨n, r, t, c⟩) (by simp only; omega)]
    go_enter Tryd.func77, Tryd.ntmps77
    go_wp2_with fail
    go_ret
    exact ⟨rfl, H.out⟩
set_option maxRecDepth 100000 in
set_option maxHeartbeats 1000000 in
theorem hmayBe_any (h : Hd) (w : World) : Calls Tryd.prog 85 #[.agg h.cs] w fun e w' => e = .returned (.bool (mayB h)) ∧ Below w.heap.size w w' := by
  obtain ⟨w1, hw1⟩ : ∃ w1, w1 = w.alloc (.cells h.cs 57) := ⟨_, rfl⟩
  have hb1 : Below w.heap.size w w1 := by rw [hw1]; exact (Below.refl _ _).alloc (Nat.le_refl _) _
  have hg1 : w1.heap[w.heap.size]? = some (.cells h.cs 57 (0, 0)) := by rw [hw1]; exact heap_alloc_new _ _
  have hs := maySign_any h w1
  obtain ⟨A, hA⟩ : ∃ A, A = bodyB h := ⟨_, rfl⟩
  obtain ⟨M, hM⟩ : ∃ M, M = mayB h := ⟨_, rfl⟩
  have hMA : M = (A && decide (h.c.size = 32)) := by rw [hM, hA]; rfl
  rw [← hA] at hs
  rw [← hM]
  obtain ⟨c0, c1, c2, c3⟩ := hd_cell hg1
  obtain ⟨n, r, t, c⟩ := h
  unfold Hd.cs at *
  simp only at c0 c1 c2 c3 hMA
  have H := Lib.hid (And.intro hs (And.intro hb1 hg1))
  clear hs hb1 hg1 hA hM
  go_enter Tryd.func85, Tryd.ntmps85
  go_upto_region 1 with fail
  rw [← hw1]
  clear hw1
  cases A with
  | false =>
    have hMf : M = false := by rw [hMA]; rfl
    subst hMf
    clear hMA
    go_wp2_with fail
    refine H.out.1.mono ?_
    rintro e w2 ⟨rfl, hb⟩
    have HB := Lib.hid (H.out.2.1.trans (hb.mono H.out.2.1.size))
    clear hb
    go_wp2_with fail
    go_ret
    exact ⟨rfl, HB.out⟩
  | true =>
    rw [Bool.true_and] at hMA
    by_cases h6 : c.size = 32
    · have hMf : M = true := by rw [hMA, decide_eq_true h6]
      have e4 : ((c.size : Int) == 32) = true := by simp; omega
      subst hMf
      clear hMA h6
      go_wp2_with fail
      refine H.out.1.mono ?_
      rintro e w2 ⟨rfl, hb⟩
      obtain ⟨d0, d1, d2, d3⟩ := hd_cell (h := ⟨n, r, t, c⟩) ((hb.block _ (lt_of_heap H.out.2.2)).trans H.out.2.2)
      simp only at d0 d1 d2 d3
      have HB := Lib.hid (H.out.2.1.trans (hb.mono H.out.2.1.size))
      clear hb
      go_wp2_with fail
      go_ret
      exact ⟨rfl, HB.out⟩
    · have hMf : M = false := by rw [hMA, decide_eq_false h6]
      have e4 : ((c.size : Int) == 32) = false := by simp; omega
      subst hMf
      clear hMA h6
      go_wp2_with fail
      refine H.out.1.mono ?_
      rintro e w2 ⟨rfl, hb⟩
      obtain ⟨d0, d1, d2, d3⟩ := hd_cell (h := ⟨n, r, t, c⟩) ((hb.block _ (lt_of_heap H.out.2.2)).trans H.out.2.2)
      simp only at d0 d1 d2 d3
      have HB := Lib.hid (H.out.2.1.trans (hb.mono H.out.2.1.size))
      clear hb
      go_wp2_with fail
      go_ret
      exact ⟨rfl, HB.out⟩
/-- Are texts not more than the statements go through? -/
def fewH (key : ByteArray) (h : Hd) : Bool := decide (key.size ≤ 100) && decide (h.r.size ≤ 100) && decide (h.c.size ≤ 100)
theorem fewH_iff {key : ByteArray} {h : Hd} : fewH key h = true ↔ key.size ≤ 100 ∧ h.r.size ≤ 100 ∧ h.c.size ≤ 100 := by
  unfold fewH; simp only [Bool.and_eq_true, decide_eq_true_eq]; constructor
  · rintro ⟨⟨a, b⟩, c⟩; exact ⟨a, b, c⟩
  · rintro ⟨a, b, c⟩; exact ⟨⟨a, b⟩, c⟩
set_option maxRecDepth 100000 in
set_option maxHeartbeats 1000000 in
theorem fewH_any (key : ByteArray) (h : Hd) (w : World) : Calls Tryd.prog 41 #[.string key, .agg h.cs] w fun e w' => e = .returned (.bool (fewH key h)) ∧ Below w.heap.size w w' := by
  obtain ⟨n, r, t, c⟩ := h
  have hb0 : Below w.heap.size w (w.alloc (.cells (Hd.cs ⟨n, r, t, c⟩) 57)) := (Below.refl _ _).alloc (Nat.le_refl _) _
  obtain ⟨c0, c1, c2, c3⟩ := hd_cell (heap_alloc_new w (.cells (Hd.cs ⟨n, r, t, c⟩) 57))
  unfold Hd.cs at *
  unfold fewH
  simp only at c0 c1 c2 c3 ⊢
  have H := Lib.hid hb0
  clear hb0
  by_cases h1 : key.size ≤ 100
  · have e1 : ((key.size : Int) ≤ 100) := by omega
    rw [decide_eq_true h1]
    by_cases h2 : r.size ≤ 100
    · have e2 : ((r.size : Int) ≤ 100) := by omega
      rw [decide_eq_true h2]
      by_cases h3 : c.size ≤ 100
      · have e3 : ((c.size : Int) ≤ 100) := by omega
        rw [decide_eq_true h3]
        go_enter Tryd.func41, Tryd.ntmps41
        go_wp2_with fail
        go_ret
        exact ⟨rfl, H.out⟩
      · have e3 : ¬((c.size : Int) ≤ 100) := by omega
        rw [decide_eq_false h3]
        go_enter Tryd.func41, Tryd.ntmps41
        go_wp2_with fail
        go_ret
        exact ⟨rfl, H.out⟩
    · have e2 : ¬((r.size : Int) ≤ 100) := by omega
      rw [decide_eq_false h2, Bool.and_false, Bool.false_and]
      go_enter Tryd.func41, Tryd.ntmps41
      go_wp2_with fail
      go_ret
      exact ⟨rfl, H.out⟩
  · have e1 : ¬((key.size : Int) ≤ 100) := by omega
    rw [decide_eq_false h1, Bool.false_and, Bool.false_and]
    go_enter Tryd.func41, Tryd.ntmps41
    go_wp2_with fail
    go_ret
    exact ⟨rfl, H.out⟩
end Go.Proofs.YtdjhlgodecnidaaDoor
