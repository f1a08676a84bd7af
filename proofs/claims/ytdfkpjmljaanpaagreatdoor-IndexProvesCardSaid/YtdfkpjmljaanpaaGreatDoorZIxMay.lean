/- IxMay, what is wanted of it. -/
import Derived.Test.YtdfkpjmljaanpaaGreatDoorZIxShow
import Derived.Test.YtdfkpjmljaanpaaGreatDoorZMX4
import Derived.Test.YtdfkpjmljaanpaaGreatDoorZMX2
import Derived.Laws.Cover1
import Derived.BigQuiet
import Derived.Deep.QuietTactic
namespace Go.Proofs.YtdfkpjmljaanpaaGreatDoor
open Go.RowKit
open Cn
set_option maxRecDepth 100000 in
set_option maxHeartbeats 8000000 in
theorem mayProve_any (r : Rw) (w : World) :
    Calls Tryz.prog 70 #[.agg (rwCs r)] w fun e w' => e = .returned (.bool (decide (Ix.rwOk r))) ∧ Below w.heap.size w w' := by
  obtain ⟨t, c, l⟩ := r
  obtain ⟨w1, hw1⟩ : ∃ w1, w1 = w.alloc (.cells #[.string t, .int .i64 c, .int .i64 l] 41) := ⟨_, rfl⟩
  have hb1 : Below w.heap.size w w1 := by rw [hw1]; exact (Below.refl _ _).alloc (Nat.le_refl _) _
  have c0 : w1.cell? ⟨w.heap.size, 0, none⟩ = some (.string t) := by rw [hw1, cell_of_row _ _ _ _ _ _ (heap_alloc_new _ _)]; rfl
  have c1 : w1.cell? ⟨w.heap.size, 1, none⟩ = some (.int .i64 c) := by rw [hw1, cell_of_row _ _ _ _ _ _ (heap_alloc_new _ _)]; rfl
  have c2 : w1.cell? ⟨w.heap.size, 2, none⟩ = some (.int .i64 l) := by rw [hw1, cell_of_row _ _ _ _ _ _ (heap_alloc_new _ _)]; rfl
  have hr : rwCs ⟨t, c, l⟩ = #[.string t, .int .i64 c, .int .i64 l] := rfl
  rw [hr]
  obtain ⟨Z, hZ⟩ : ∃ Z, Z = decide (Ix.rwOk ⟨t, c, l⟩) := ⟨_, rfl⟩
  rw [← hZ]
  have hZt : (t.size = 32 ∧ 1 ≤ c ∧ c ≤ 4096 ∧ 0 ≤ l ∧ l ≤ 4095) → Z = true := fun h => by rw [hZ]; exact decide_eq_true h
  have hZf : ¬ (t.size = 32 ∧ 1 ≤ c ∧ c ≤ 4096 ∧ 0 ≤ l ∧ l ≤ 4095) → Z = false := fun h => by rw [hZ]; exact decide_eq_false h
  have H := Lib.hid (And.intro hb1 (And.intro hZt hZf))
  clear hb1 hZ hZt hZf hr
  by_cases h0 : ¬ t.size = 32
  · have k0 : ((t.size : Int) == 32) = false := by
      cases e : ((t.size : Int) == 32) with
      | false => rfl
      | true => have := eq_of_beq e; omega
    obtain rfl : Z = false := H.out.2.2 (fun h => h0 h.1)
    clear h0
    go_enter Tryz.func70, Tryz.ntmps70
    go_upto_region 1 with fail
    rw [← hw1]
    clear hw1
    go_wp2_with fail
    go_ret
    exact ⟨rfl, H.out.1⟩
  have k0 : ((t.size : Int) == 32) = true := by rw [Classical.not_not.1 h0]; rfl
  have g0 := Lib.hid (Classical.not_not.1 h0)
  clear h0
  by_cases h1 : ¬ (1 ≤ c)
  · obtain rfl : Z = false := H.out.2.2 (fun h => h1 (by have := h.2.1; omega))
    go_enter Tryz.func70, Tryz.ntmps70
    go_upto_region 1 with fail
    rw [← hw1]
    clear hw1
    go_wp2_with fail
    go_ret
    exact ⟨rfl, H.out.1⟩
  have q1 : 1 ≤ c := Classical.not_not.1 h1
  clear h1
  by_cases h2 : ¬ (c ≤ 4096)
  · obtain rfl : Z = false := H.out.2.2 (fun h => h2 (by have := h.2.2.1; omega))
    go_enter Tryz.func70, Tryz.ntmps70
    go_upto_region 1 with fail
    rw [← hw1]
    clear hw1
    go_wp2_with fail
    go_ret
    exact ⟨rfl, H.out.1⟩
  have q2 : c ≤ 4096 := Classical.not_not.1 h2
  clear h2
  by_cases h3 : ¬ (0 ≤ l)
  · obtain rfl : Z = false := H.out.2.2 (fun h => h3 (by have := h.2.2.2.1; omega))
    go_enter Tryz.func70, Tryz.ntmps70
    go_upto_region 1 with fail
    rw [← hw1]
    clear hw1
    go_wp2_with fail
    go_ret
    exact ⟨rfl, H.out.1⟩
  have q3 : 0 ≤ l := Classical.not_not.1 h3
  clear h3
  by_cases h4 : ¬ (l < 4096)
  · obtain rfl : Z = false := H.out.2.2 (fun h => h4 (by have := h.2.2.2.2; omega))
    go_enter Tryz.func70, Tryz.ntmps70
    go_upto_region 1 with fail
    rw [← hw1]
    clear hw1
    go_wp2_with fail
    go_ret
    exact ⟨rfl, H.out.1⟩
  have q4 : l < 4096 := Classical.not_not.1 h4
  clear h4
  obtain rfl : Z = true := H.out.2.1 ⟨g0.out, by omega, by omega, by omega, by omega⟩
  go_enter Tryz.func70, Tryz.ntmps70
  go_upto_region 1 with fail
  rw [← hw1]
  clear hw1
  go_wp2_with fail
  go_ret
  exact ⟨rfl, H.out.1⟩
end Go.Proofs.YtdfkpjmljaanpaaGreatDoor
