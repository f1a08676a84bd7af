/- lockboxref20: rule, Check. -/
import Derived.Test.YtnkkbinbeildmaaPyC
namespace Go.Proofs.Ytnkkbinbeildmaa
open Go.RowKit
theorem norm_form (s : ByteArray) : ∃ (X : ByteArray) (k : Int), normR s = .tuple #[.string X, .int .i64 k] ∧ Py.wordB s = (decide (k = 0) && decide (X = s)) := by
  unfold normR Py.wordB
  cases hn : Wd.norm s.data.toList with
  | ok x =>
    refine ⟨str x, 0, rfl, ?_⟩
    simp only [decide_true, Bool.true_and]
    by_cases h : str x = s
    · rw [decide_eq_true h, decide_eq_true (by rw [← h]; simp [str])]
    · rw [decide_eq_false h, decide_eq_false (fun e => h (by rw [e]; apply ByteArray.ext; simp [str]))]
  | error k =>
    refine ⟨⟨#[]⟩, k, rfl, ?_⟩
    rw [decide_eq_false (pnorm_err hn)]; rfl
set_option maxRecDepth 100000 in
set_option maxHeartbeats 8000000 in
theorem rrule_any (r : Py.R) (hr : RSz r) (w : World) : Calls Try.prog 47 #[ruVal r] w fun e w' => e = .returned (.bool (Py.ruleB r)) ∧ Below w.heap.size w w' := by
  obtain ⟨Z, hZ⟩ : ∃ Z, Z = Py.ruleB r := ⟨_, rfl⟩
  rw [← hZ]
  obtain ⟨w1, hw1⟩ : ∃ w1, w1 = w.alloc (.cells (ruCs r) 49) := ⟨_, rfl⟩
  obtain ⟨ga, hga⟩ : ∃ ga, ga = w.heap.size := ⟨_, rfl⟩
  have hb1 := box_below hw1
  have a1 : w1.heap[ga]? = some (.cells (ruCs r) 49 (0, 0)) := by rw [hw1, hga]; exact heap_alloc_new _ _
  have hn := fun W => rname_any r.who hr.1 W
  have hno := fun W => rnorm_any r.word (by have := hr.2; omega) W
  obtain ⟨X, k, hX, hwb⟩ := norm_form r.word
  rw [hX] at hno
  unfold Py.ruleB at hZ
  rw [hwb] at hZ
  obtain ⟨N, hN⟩ : ∃ N, N = Py.nameB r.who := ⟨_, rfl⟩
  rw [← hN] at hn hZ
  have H := Lib.hid (And.intro hn (And.intro hno hb1))
  have HA := Lib.hid a1
  clear hn hno hb1 a1 hr hX hwb hN
  unfold Py.inB at hZ
  unfold ruVal
  unfold ruCs at hw1
  by_cases hA : r.who.size = 0
  · have gA : r.who.toList.isEmpty = true := empty_list hA
    rw [decide_eq_true hA, Bool.true_or, Bool.true_and] at hZ
    clear hA
    by_cases hC : r.word.size = 0
    · have gC : r.word.toList.isEmpty = true := empty_list hC
      rw [decide_eq_true hC, Bool.true_or] at hZ
      clear hC
      by_cases n0 : 0 ≤ r.fr
      rotate_left
      · have hz : Z = false := by rw [hZ]; simp; omega
        clear hZ
        go_enter Try.func47, Try.ntmps47
        go_upto_region 1 with fail
        rw [← hw1, ← hga]
        clear hw1 hga
        have X0 := HA.out
        have c0 : w1.cell? ⟨ga, 0, none⟩ = some (.string r.who) := by rw [cell_of_row _ _ _ _ _ _ X0]; rfl
        have c1 : w1.cell? ⟨ga, 1, none⟩ = some (.string r.word) := by rw [cell_of_row _ _ _ _ _ _ X0]; rfl
        have c2 : w1.cell? ⟨ga, 2, none⟩ = some (.int .i64 r.fr) := by rw [cell_of_row _ _ _ _ _ _ X0]; rfl
        have c3 : w1.cell? ⟨ga, 3, none⟩ = some (.int .i64 r.to) := by rw [cell_of_row _ _ _ _ _ _ X0]; rfl
        have c4 : w1.cell? ⟨ga, 4, none⟩ = some (.int .i64 r.un) := by rw [cell_of_row _ _ _ _ _ _ X0]; rfl
        have c5 : w1.cell? ⟨ga, 5, none⟩ = some (.int .i64 r.mo) := by rw [cell_of_row _ _ _ _ _ _ X0]; rfl
        have c6 : w1.cell? ⟨ga, 6, none⟩ = some (.bool r.allow) := by rw [cell_of_row _ _ _ _ _ _ X0]; rfl
        clear X0
        go_wp2_with fail
        refine (H.out.2.1 _).mono ?_
        rintro e w3 ⟨rfl, hb3⟩
        have H3 := Lib.hid (And.intro ((hb3.block ga (pblt_of_heap HA.out)).trans HA.out) (H.out.2.2.trans (hb3.mono H.out.2.2.size)))
        clear hb3 c0 c1 c2 c3 c4 c5 c6
        have X0 := H3.out.1
        have c0 : w3.cell? ⟨ga, 0, none⟩ = some (.string r.who) := by rw [cell_of_row _ _ _ _ _ _ X0]; rfl
        have c1 : w3.cell? ⟨ga, 1, none⟩ = some (.string r.word) := by rw [cell_of_row _ _ _ _ _ _ X0]; rfl
        have c2 : w3.cell? ⟨ga, 2, none⟩ = some (.int .i64 r.fr) := by rw [cell_of_row _ _ _ _ _ _ X0]; rfl
        have c3 : w3.cell? ⟨ga, 3, none⟩ = some (.int .i64 r.to) := by rw [cell_of_row _ _ _ _ _ _ X0]; rfl
        have c4 : w3.cell? ⟨ga, 4, none⟩ = some (.int .i64 r.un) := by rw [cell_of_row _ _ _ _ _ _ X0]; rfl
        have c5 : w3.cell? ⟨ga, 5, none⟩ = some (.int .i64 r.mo) := by rw [cell_of_row _ _ _ _ _ _ X0]; rfl
        have c6 : w3.cell? ⟨ga, 6, none⟩ = some (.bool r.allow) := by rw [cell_of_row _ _ _ _ _ _ X0]; rfl
        clear X0
        go_wp2_with fail
        go_ret
        exact ⟨by first | rfl | (rw [hz]; rfl), H3.out.2⟩
      by_cases n1 : r.fr ≤ 4096
      rotate_left
      · have hz : Z = false := by rw [hZ]; simp; omega
        clear hZ
        go_enter Try.func47, Try.ntmps47
        go_upto_region 1 with fail
        rw [← hw1, ← hga]
        clear hw1 hga
        have X0 := HA.out
        have c0 : w1.cell? ⟨ga, 0, none⟩ = some (.string r.who) := by rw [cell_of_row _ _ _ _ _ _ X0]; rfl
        have c1 : w1.cell? ⟨ga, 1, none⟩ = some (.string r.word) := by rw [cell_of_row _ _ _ _ _ _ X0]; rfl
        have c2 : w1.cell? ⟨ga, 2, none⟩ = some (.int .i64 r.fr) := by rw [cell_of_row _ _ _ _ _ _ X0]; rfl
        have c3 : w1.cell? ⟨ga, 3, none⟩ = some (.int .i64 r.to) := by rw [cell_of_row _ _ _ _ _ _ X0]; rfl
        have c4 : w1.cell? ⟨ga, 4, none⟩ = some (.int .i64 r.un) := by rw [cell_of_row _ _ _ _ _ _ X0]; rfl
        have c5 : w1.cell? ⟨ga, 5, none⟩ = some (.int .i64 r.mo) := by rw [cell_of_row _ _ _ _ _ _ X0]; rfl
        have c6 : w1.cell? ⟨ga, 6, none⟩ = some (.bool r.allow) := by rw [cell_of_row _ _ _ _ _ _ X0]; rfl
        clear X0
        go_wp2_with fail
        refine (H.out.2.1 _).mono ?_
        rintro e w3 ⟨rfl, hb3⟩
        have H3 := Lib.hid (And.intro ((hb3.block ga (pblt_of_heap HA.out)).trans HA.out) (H.out.2.2.trans (hb3.mono H.out.2.2.size)))
        clear hb3 c0 c1 c2 c3 c4 c5 c6
        have X0 := H3.out.1
        have c0 : w3.cell? ⟨ga, 0, none⟩ = some (.string r.who) := by rw [cell_of_row _ _ _ _ _ _ X0]; rfl
        have c1 : w3.cell? ⟨ga, 1, none⟩ = some (.string r.word) := by rw [cell_of_row _ _ _ _ _ _ X0]; rfl
        have c2 : w3.cell? ⟨ga, 2, none⟩ = some (.int .i64 r.fr) := by rw [cell_of_row _ _ _ _ _ _ X0]; rfl
        have c3 : w3.cell? ⟨ga, 3, none⟩ = some (.int .i64 r.to) := by rw [cell_of_row _ _ _ _ _ _ X0]; rfl
        have c4 : w3.cell? ⟨ga, 4, none⟩ = some (.int .i64 r.un) := by rw [cell_of_row _ _ _ _ _ _ X0]; rfl
        have c5 : w3.cell? ⟨ga, 5, none⟩ = some (.int .i64 r.mo) := by rw [cell_of_row _ _ _ _ _ _ X0]; rfl
        have c6 : w3.cell? ⟨ga, 6, none⟩ = some (.bool r.allow) := by rw [cell_of_row _ _ _ _ _ _ X0]; rfl
        clear X0
        go_wp2_with fail
        go_ret
        exact ⟨by first | rfl | (rw [hz]; rfl), H3.out.2⟩
      by_cases n2 : 0 ≤ r.to
      rotate_left
      · have hz : Z = false := by rw [hZ]; simp; omega
        clear hZ
        go_enter Try.func47, Try.ntmps47
        go_upto_region 1 with fail
        rw [← hw1, ← hga]
        clear hw1 hga
        have X0 := HA.out
        have c0 : w1.cell? ⟨ga, 0, none⟩ = some (.string r.who) := by rw [cell_of_row _ _ _ _ _ _ X0]; rfl
        have c1 : w1.cell? ⟨ga, 1, none⟩ = some (.string r.word) := by rw [cell_of_row _ _ _ _ _ _ X0]; rfl
        have c2 : w1.cell? ⟨ga, 2, none⟩ = some (.int .i64 r.fr) := by rw [cell_of_row _ _ _ _ _ _ X0]; rfl
        have c3 : w1.cell? ⟨ga, 3, none⟩ = some (.int .i64 r.to) := by rw [cell_of_row _ _ _ _ _ _ X0]; rfl
        have c4 : w1.cell? ⟨ga, 4, none⟩ = some (.int .i64 r.un) := by rw [cell_of_row _ _ _ _ _ _ X0]; rfl
        have c5 : w1.cell? ⟨ga, 5, none⟩ = some (.int .i64 r.mo) := by rw [cell_of_row _ _ _ _ _ _ X0]; rfl
        have c6 : w1.cell? ⟨ga, 6, none⟩ = some (.bool r.allow) := by rw [cell_of_row _ _ _ _ _ _ X0]; rfl
        clear X0
        go_wp2_with fail
        refine (H.out.2.1 _).mono ?_
        rintro e w3 ⟨rfl, hb3⟩
        have H3 := Lib.hid (And.intro ((hb3.block ga (pblt_of_heap HA.out)).trans HA.out) (H.out.2.2.trans (hb3.mono H.out.2.2.size)))
        clear hb3 c0 c1 c2 c3 c4 c5 c6
        have X0 := H3.out.1
        have c0 : w3.cell? ⟨ga, 0, none⟩ = some (.string r.who) := by rw [cell_of_row _ _ _ _ _ _ X0]; rfl
        have c1 : w3.cell? ⟨ga, 1, none⟩ = some (.string r.word) := by rw [cell_of_row _ _ _ _ _ _ X0]; rfl
        have c2 : w3.cell? ⟨ga, 2, none⟩ = some (.int .i64 r.fr) := by rw [cell_of_row _ _ _ _ _ _ X0]; rfl
        have c3 : w3.cell? ⟨ga, 3, none⟩ = some (.int .i64 r.to) := by rw [cell_of_row _ _ _ _ _ _ X0]; rfl
        have c4 : w3.cell? ⟨ga, 4, none⟩ = some (.int .i64 r.un) := by rw [cell_of_row _ _ _ _ _ _ X0]; rfl
        have c5 : w3.cell? ⟨ga, 5, none⟩ = some (.int .i64 r.mo) := by rw [cell_of_row _ _ _ _ _ _ X0]; rfl
        have c6 : w3.cell? ⟨ga, 6, none⟩ = some (.bool r.allow) := by rw [cell_of_row _ _ _ _ _ _ X0]; rfl
        clear X0
        go_wp2_with fail
        go_ret
        exact ⟨by first | rfl | (rw [hz]; rfl), H3.out.2⟩
      by_cases n3 : r.to ≤ 4096
      rotate_left
      · have hz : Z = false := by rw [hZ]; simp; omega
        clear hZ
        go_enter Try.func47, Try.ntmps47
        go_upto_region 1 with fail
        rw [← hw1, ← hga]
        clear hw1 hga
        have X0 := HA.out
        have c0 : w1.cell? ⟨ga, 0, none⟩ = some (.string r.who) := by rw [cell_of_row _ _ _ _ _ _ X0]; rfl
        have c1 : w1.cell? ⟨ga, 1, none⟩ = some (.string r.word) := by rw [cell_of_row _ _ _ _ _ _ X0]; rfl
        have c2 : w1.cell? ⟨ga, 2, none⟩ = some (.int .i64 r.fr) := by rw [cell_of_row _ _ _ _ _ _ X0]; rfl
        have c3 : w1.cell? ⟨ga, 3, none⟩ = some (.int .i64 r.to) := by rw [cell_of_row _ _ _ _ _ _ X0]; rfl
        have c4 : w1.cell? ⟨ga, 4, none⟩ = some (.int .i64 r.un) := by rw [cell_of_row _ _ _ _ _ _ X0]; rfl
        have c5 : w1.cell? ⟨ga, 5, none⟩ = some (.int .i64 r.mo) := by rw [cell_of_row _ _ _ _ _ _ X0]; rfl
        have c6 : w1.cell? ⟨ga, 6, none⟩ = some (.bool r.allow) := by rw [cell_of_row _ _ _ _ _ _ X0]; rfl
        clear X0
        go_wp2_with fail
        refine (H.out.2.1 _).mono ?_
        rintro e w3 ⟨rfl, hb3⟩
        have H3 := Lib.hid (And.intro ((hb3.block ga (pblt_of_heap HA.out)).trans HA.out) (H.out.2.2.trans (hb3.mono H.out.2.2.size)))
        clear hb3 c0 c1 c2 c3 c4 c5 c6
        have X0 := H3.out.1
        have c0 : w3.cell? ⟨ga, 0, none⟩ = some (.string r.who) := by rw [cell_of_row _ _ _ _ _ _ X0]; rfl
        have c1 : w3.cell? ⟨ga, 1, none⟩ = some (.string r.word) := by rw [cell_of_row _ _ _ _ _ _ X0]; rfl
        have c2 : w3.cell? ⟨ga, 2, none⟩ = some (.int .i64 r.fr) := by rw [cell_of_row _ _ _ _ _ _ X0]; rfl
        have c3 : w3.cell? ⟨ga, 3, none⟩ = some (.int .i64 r.to) := by rw [cell_of_row _ _ _ _ _ _ X0]; rfl
        have c4 : w3.cell? ⟨ga, 4, none⟩ = some (.int .i64 r.un) := by rw [cell_of_row _ _ _ _ _ _ X0]; rfl
        have c5 : w3.cell? ⟨ga, 5, none⟩ = some (.int .i64 r.mo) := by rw [cell_of_row _ _ _ _ _ _ X0]; rfl
        have c6 : w3.cell? ⟨ga, 6, none⟩ = some (.bool r.allow) := by rw [cell_of_row _ _ _ _ _ _ X0]; rfl
        clear X0
        go_wp2_with fail
        go_ret
        exact ⟨by first | rfl | (rw [hz]; rfl), H3.out.2⟩
      by_cases n4 : 0 ≤ r.un
      rotate_left
      · have hz : Z = false := by rw [hZ]; simp; omega
        clear hZ
        go_enter Try.func47, Try.ntmps47
        go_upto_region 1 with fail
        rw [← hw1, ← hga]
        clear hw1 hga
        have X0 := HA.out
        have c0 : w1.cell? ⟨ga, 0, none⟩ = some (.string r.who) := by rw [cell_of_row _ _ _ _ _ _ X0]; rfl
        have c1 : w1.cell? ⟨ga, 1, none⟩ = some (.string r.word) := by rw [cell_of_row _ _ _ _ _ _ X0]; rfl
        have c2 : w1.cell? ⟨ga, 2, none⟩ = some (.int .i64 r.fr) := by rw [cell_of_row _ _ _ _ _ _ X0]; rfl
        have c3 : w1.cell? ⟨ga, 3, none⟩ = some (.int .i64 r.to) := by rw [cell_of_row _ _ _ _ _ _ X0]; rfl
        have c4 : w1.cell? ⟨ga, 4, none⟩ = some (.int .i64 r.un) := by rw [cell_of_row _ _ _ _ _ _ X0]; rfl
        have c5 : w1.cell? ⟨ga, 5, none⟩ = some (.int .i64 r.mo) := by rw [cell_of_row _ _ _ _ _ _ X0]; rfl
        have c6 : w1.cell? ⟨ga, 6, none⟩ = some (.bool r.allow) := by rw [cell_of_row _ _ _ _ _ _ X0]; rfl
        clear X0
        go_wp2_with fail
        refine (H.out.2.1 _).mono ?_
        rintro e w3 ⟨rfl, hb3⟩
        have H3 := Lib.hid (And.intro ((hb3.block ga (pblt_of_heap HA.out)).trans HA.out) (H.out.2.2.trans (hb3.mono H.out.2.2.size)))
        clear hb3 c0 c1 c2 c3 c4 c5 c6
        have X0 := H3.out.1
        have c0 : w3.cell? ⟨ga, 0, none⟩ = some (.string r.who) := by rw [cell_of_row _ _ _ _ _ _ X0]; rfl
        have c1 : w3.cell? ⟨ga, 1, none⟩ = some (.string r.word) := by rw [cell_of_row _ _ _ _ _ _ X0]; rfl
        have c2 : w3.cell? ⟨ga, 2, none⟩ = some (.int .i64 r.fr) := by rw [cell_of_row _ _ _ _ _ _ X0]; rfl
        have c3 : w3.cell? ⟨ga, 3, none⟩ = some (.int .i64 r.to) := by rw [cell_of_row _ _ _ _ _ _ X0]; rfl
        have c4 : w3.cell? ⟨ga, 4, none⟩ = some (.int .i64 r.un) := by rw [cell_of_row _ _ _ _ _ _ X0]; rfl
        have c5 : w3.cell? ⟨ga, 5, none⟩ = some (.int .i64 r.mo) := by rw [cell_of_row _ _ _ _ _ _ X0]; rfl
        have c6 : w3.cell? ⟨ga, 6, none⟩ = some (.bool r.allow) := by rw [cell_of_row _ _ _ _ _ _ X0]; rfl
        clear X0
        go_wp2_with fail
        go_ret
        exact ⟨by first | rfl | (rw [hz]; rfl), H3.out.2⟩
      by_cases n5 : r.un ≤ 1099511627776
      rotate_left
      · have hz : Z = false := by rw [hZ]; simp; omega
        clear hZ
        go_enter Try.func47, Try.ntmps47
        go_upto_region 1 with fail
        rw [← hw1, ← hga]
        clear hw1 hga
        have X0 := HA.out
        have c0 : w1.cell? ⟨ga, 0, none⟩ = some (.string r.who) := by rw [cell_of_row _ _ _ _ _ _ X0]; rfl
        have c1 : w1.cell? ⟨ga, 1, none⟩ = some (.string r.word) := by rw [cell_of_row _ _ _ _ _ _ X0]; rfl
        have c2 : w1.cell? ⟨ga, 2, none⟩ = some (.int .i64 r.fr) := by rw [cell_of_row _ _ _ _ _ _ X0]; rfl
        have c3 : w1.cell? ⟨ga, 3, none⟩ = some (.int .i64 r.to) := by rw [cell_of_row _ _ _ _ _ _ X0]; rfl
        have c4 : w1.cell? ⟨ga, 4, none⟩ = some (.int .i64 r.un) := by rw [cell_of_row _ _ _ _ _ _ X0]; rfl
        have c5 : w1.cell? ⟨ga, 5, none⟩ = some (.int .i64 r.mo) := by rw [cell_of_row _ _ _ _ _ _ X0]; rfl
        have c6 : w1.cell? ⟨ga, 6, none⟩ = some (.bool r.allow) := by rw [cell_of_row _ _ _ _ _ _ X0]; rfl
        clear X0
        go_wp2_with fail
        refine (H.out.2.1 _).mono ?_
        rintro e w3 ⟨rfl, hb3⟩
        have H3 := Lib.hid (And.intro ((hb3.block ga (pblt_of_heap HA.out)).trans HA.out) (H.out.2.2.trans (hb3.mono H.out.2.2.size)))
        clear hb3 c0 c1 c2 c3 c4 c5 c6
        have X0 := H3.out.1
        have c0 : w3.cell? ⟨ga, 0, none⟩ = some (.string r.who) := by rw [cell_of_row _ _ _ _ _ _ X0]; rfl
        have c1 : w3.cell? ⟨ga, 1, none⟩ = some (.string r.word) := by rw [cell_of_row _ _ _ _ _ _ X0]; rfl
        have c2 : w3.cell? ⟨ga, 2, none⟩ = some (.int .i64 r.fr) := by rw [cell_of_row _ _ _ _ _ _ X0]; rfl
        have c3 : w3.cell? ⟨ga, 3, none⟩ = some (.int .i64 r.to) := by rw [cell_of_row _ _ _ _ _ _ X0]; rfl
        have c4 : w3.cell? ⟨ga, 4, none⟩ = some (.int .i64 r.un) := by rw [cell_of_row _ _ _ _ _ _ X0]; rfl
        have c5 : w3.cell? ⟨ga, 5, none⟩ = some (.int .i64 r.mo) := by rw [cell_of_row _ _ _ _ _ _ X0]; rfl
        have c6 : w3.cell? ⟨ga, 6, none⟩ = some (.bool r.allow) := by rw [cell_of_row _ _ _ _ _ _ X0]; rfl
        clear X0
        go_wp2_with fail
        go_ret
        exact ⟨by first | rfl | (rw [hz]; rfl), H3.out.2⟩
      by_cases n6 : 0 ≤ r.mo
      rotate_left
      · have hz : Z = false := by rw [hZ]; simp; omega
        clear hZ
        go_enter Try.func47, Try.ntmps47
        go_upto_region 1 with fail
        rw [← hw1, ← hga]
        clear hw1 hga
        have X0 := HA.out
        have c0 : w1.cell? ⟨ga, 0, none⟩ = some (.string r.who) := by rw [cell_of_row _ _ _ _ _ _ X0]; rfl
        have c1 : w1.cell? ⟨ga, 1, none⟩ = some (.string r.word) := by rw [cell_of_row _ _ _ _ _ _ X0]; rfl
        have c2 : w1.cell? ⟨ga, 2, none⟩ = some (.int .i64 r.fr) := by rw [cell_of_row _ _ _ _ _ _ X0]; rfl
        have c3 : w1.cell? ⟨ga, 3, none⟩ = some (.int .i64 r.to) := by rw [cell_of_row _ _ _ _ _ _ X0]; rfl
        have c4 : w1.cell? ⟨ga, 4, none⟩ = some (.int .i64 r.un) := by rw [cell_of_row _ _ _ _ _ _ X0]; rfl
        have c5 : w1.cell? ⟨ga, 5, none⟩ = some (.int .i64 r.mo) := by rw [cell_of_row _ _ _ _ _ _ X0]; rfl
        have c6 : w1.cell? ⟨ga, 6, none⟩ = some (.bool r.allow) := by rw [cell_of_row _ _ _ _ _ _ X0]; rfl
        clear X0
        go_wp2_with fail
        refine (H.out.2.1 _).mono ?_
        rintro e w3 ⟨rfl, hb3⟩
        have H3 := Lib.hid (And.intro ((hb3.block ga (pblt_of_heap HA.out)).trans HA.out) (H.out.2.2.trans (hb3.mono H.out.2.2.size)))
        clear hb3 c0 c1 c2 c3 c4 c5 c6
        have X0 := H3.out.1
        have c0 : w3.cell? ⟨ga, 0, none⟩ = some (.string r.who) := by rw [cell_of_row _ _ _ _ _ _ X0]; rfl
        have c1 : w3.cell? ⟨ga, 1, none⟩ = some (.string r.word) := by rw [cell_of_row _ _ _ _ _ _ X0]; rfl
        have c2 : w3.cell? ⟨ga, 2, none⟩ = some (.int .i64 r.fr) := by rw [cell_of_row _ _ _ _ _ _ X0]; rfl
        have c3 : w3.cell? ⟨ga, 3, none⟩ = some (.int .i64 r.to) := by rw [cell_of_row _ _ _ _ _ _ X0]; rfl
        have c4 : w3.cell? ⟨ga, 4, none⟩ = some (.int .i64 r.un) := by rw [cell_of_row _ _ _ _ _ _ X0]; rfl
        have c5 : w3.cell? ⟨ga, 5, none⟩ = some (.int .i64 r.mo) := by rw [cell_of_row _ _ _ _ _ _ X0]; rfl
        have c6 : w3.cell? ⟨ga, 6, none⟩ = some (.bool r.allow) := by rw [cell_of_row _ _ _ _ _ _ X0]; rfl
        clear X0
        go_wp2_with fail
        go_ret
        exact ⟨by first | rfl | (rw [hz]; rfl), H3.out.2⟩
      by_cases n7 : r.mo ≤ 50
      rotate_left
      · have hz : Z = false := by rw [hZ]; simp; omega
        clear hZ
        go_enter Try.func47, Try.ntmps47
        go_upto_region 1 with fail
        rw [← hw1, ← hga]
        clear hw1 hga
        have X0 := HA.out
        have c0 : w1.cell? ⟨ga, 0, none⟩ = some (.string r.who) := by rw [cell_of_row _ _ _ _ _ _ X0]; rfl
        have c1 : w1.cell? ⟨ga, 1, none⟩ = some (.string r.word) := by rw [cell_of_row _ _ _ _ _ _ X0]; rfl
        have c2 : w1.cell? ⟨ga, 2, none⟩ = some (.int .i64 r.fr) := by rw [cell_of_row _ _ _ _ _ _ X0]; rfl
        have c3 : w1.cell? ⟨ga, 3, none⟩ = some (.int .i64 r.to) := by rw [cell_of_row _ _ _ _ _ _ X0]; rfl
        have c4 : w1.cell? ⟨ga, 4, none⟩ = some (.int .i64 r.un) := by rw [cell_of_row _ _ _ _ _ _ X0]; rfl
        have c5 : w1.cell? ⟨ga, 5, none⟩ = some (.int .i64 r.mo) := by rw [cell_of_row _ _ _ _ _ _ X0]; rfl
        have c6 : w1.cell? ⟨ga, 6, none⟩ = some (.bool r.allow) := by rw [cell_of_row _ _ _ _ _ _ X0]; rfl
        clear X0
        go_wp2_with fail
        refine (H.out.2.1 _).mono ?_
        rintro e w3 ⟨rfl, hb3⟩
        have H3 := Lib.hid (And.intro ((hb3.block ga (pblt_of_heap HA.out)).trans HA.out) (H.out.2.2.trans (hb3.mono H.out.2.2.size)))
        clear hb3 c0 c1 c2 c3 c4 c5 c6
        have X0 := H3.out.1
        have c0 : w3.cell? ⟨ga, 0, none⟩ = some (.string r.who) := by rw [cell_of_row _ _ _ _ _ _ X0]; rfl
        have c1 : w3.cell? ⟨ga, 1, none⟩ = some (.string r.word) := by rw [cell_of_row _ _ _ _ _ _ X0]; rfl
        have c2 : w3.cell? ⟨ga, 2, none⟩ = some (.int .i64 r.fr) := by rw [cell_of_row _ _ _ _ _ _ X0]; rfl
        have c3 : w3.cell? ⟨ga, 3, none⟩ = some (.int .i64 r.to) := by rw [cell_of_row _ _ _ _ _ _ X0]; rfl
        have c4 : w3.cell? ⟨ga, 4, none⟩ = some (.int .i64 r.un) := by rw [cell_of_row _ _ _ _ _ _ X0]; rfl
        have c5 : w3.cell? ⟨ga, 5, none⟩ = some (.int .i64 r.mo) := by rw [cell_of_row _ _ _ _ _ _ X0]; rfl
        have c6 : w3.cell? ⟨ga, 6, none⟩ = some (.bool r.allow) := by rw [cell_of_row _ _ _ _ _ _ X0]; rfl
        clear X0
        go_wp2_with fail
        go_ret
        exact ⟨by first | rfl | (rw [hz]; rfl) | (show Ending.returned (Value.bool (decide (r.mo ≤ 50))) = _; rw [decide_eq_false (by omega), hz]) | (rw [hz]; show Ending.returned (Value.bool (decide (r.mo ≤ 50))) = _; rw [decide_eq_false (by omega)]), H3.out.2⟩
      have hz : Z = true := by rw [hZ]; simp; omega
      clear hZ
      go_enter Try.func47, Try.ntmps47
      go_upto_region 1 with fail
      rw [← hw1, ← hga]
      clear hw1 hga
      have X0 := HA.out
      have c0 : w1.cell? ⟨ga, 0, none⟩ = some (.string r.who) := by rw [cell_of_row _ _ _ _ _ _ X0]; rfl
      have c1 : w1.cell? ⟨ga, 1, none⟩ = some (.string r.word) := by rw [cell_of_row _ _ _ _ _ _ X0]; rfl
      have c2 : w1.cell? ⟨ga, 2, none⟩ = some (.int .i64 r.fr) := by rw [cell_of_row _ _ _ _ _ _ X0]; rfl
      have c3 : w1.cell? ⟨ga, 3, none⟩ = some (.int .i64 r.to) := by rw [cell_of_row _ _ _ _ _ _ X0]; rfl
      have c4 : w1.cell? ⟨ga, 4, none⟩ = some (.int .i64 r.un) := by rw [cell_of_row _ _ _ _ _ _ X0]; rfl
      have c5 : w1.cell? ⟨ga, 5, none⟩ = some (.int .i64 r.mo) := by rw [cell_of_row _ _ _ _ _ _ X0]; rfl
      have c6 : w1.cell? ⟨ga, 6, none⟩ = some (.bool r.allow) := by rw [cell_of_row _ _ _ _ _ _ X0]; rfl
      clear X0
      go_wp2_with fail
      refine (H.out.2.1 _).mono ?_
      rintro e w3 ⟨rfl, hb3⟩
      have H3 := Lib.hid (And.intro ((hb3.block ga (pblt_of_heap HA.out)).trans HA.out) (H.out.2.2.trans (hb3.mono H.out.2.2.size)))
      clear hb3 c0 c1 c2 c3 c4 c5 c6
      have X0 := H3.out.1
      have c0 : w3.cell? ⟨ga, 0, none⟩ = some (.string r.who) := by rw [cell_of_row _ _ _ _ _ _ X0]; rfl
      have c1 : w3.cell? ⟨ga, 1, none⟩ = some (.string r.word) := by rw [cell_of_row _ _ _ _ _ _ X0]; rfl
      have c2 : w3.cell? ⟨ga, 2, none⟩ = some (.int .i64 r.fr) := by rw [cell_of_row _ _ _ _ _ _ X0]; rfl
      have c3 : w3.cell? ⟨ga, 3, none⟩ = some (.int .i64 r.to) := by rw [cell_of_row _ _ _ _ _ _ X0]; rfl
      have c4 : w3.cell? ⟨ga, 4, none⟩ = some (.int .i64 r.un) := by rw [cell_of_row _ _ _ _ _ _ X0]; rfl
      have c5 : w3.cell? ⟨ga, 5, none⟩ = some (.int .i64 r.mo) := by rw [cell_of_row _ _ _ _ _ _ X0]; rfl
      have c6 : w3.cell? ⟨ga, 6, none⟩ = some (.bool r.allow) := by rw [cell_of_row _ _ _ _ _ _ X0]; rfl
      clear X0
      go_wp2_with fail
      go_ret
      exact ⟨by first | rfl | (rw [hz]; rfl) | (show Ending.returned (Value.bool (decide (r.mo ≤ 50))) = _; rw [decide_eq_true (by omega), hz]) | (rw [hz]; show Ending.returned (Value.bool (decide (r.mo ≤ 50))) = _; rw [decide_eq_true (by omega)]), H3.out.2⟩
    have gC : r.word.toList.isEmpty = false := full_list hC
    rw [decide_eq_false hC, Bool.false_or] at hZ
    clear hC
    by_cases hk : k = 0
    rotate_left
    · have gk : (k != 0) = true := by simpa using hk
      rw [decide_eq_false hk] at hZ
      clear hk
      have hz : Z = false := by rw [hZ]; simp
      clear hZ
      go_enter Try.func47, Try.ntmps47
      go_upto_region 1 with fail
      rw [← hw1, ← hga]
      clear hw1 hga
      have X0 := HA.out
      have c0 : w1.cell? ⟨ga, 0, none⟩ = some (.string r.who) := by rw [cell_of_row _ _ _ _ _ _ X0]; rfl
      have c1 : w1.cell? ⟨ga, 1, none⟩ = some (.string r.word) := by rw [cell_of_row _ _ _ _ _ _ X0]; rfl
      have c2 : w1.cell? ⟨ga, 2, none⟩ = some (.int .i64 r.fr) := by rw [cell_of_row _ _ _ _ _ _ X0]; rfl
      have c3 : w1.cell? ⟨ga, 3, none⟩ = some (.int .i64 r.to) := by rw [cell_of_row _ _ _ _ _ _ X0]; rfl
      have c4 : w1.cell? ⟨ga, 4, none⟩ = some (.int .i64 r.un) := by rw [cell_of_row _ _ _ _ _ _ X0]; rfl
      have c5 : w1.cell? ⟨ga, 5, none⟩ = some (.int .i64 r.mo) := by rw [cell_of_row _ _ _ _ _ _ X0]; rfl
      have c6 : w1.cell? ⟨ga, 6, none⟩ = some (.bool r.allow) := by rw [cell_of_row _ _ _ _ _ _ X0]; rfl
      clear X0
      go_wp2_with fail
      refine (H.out.2.1 _).mono ?_
      rintro e w3 ⟨rfl, hb3⟩
      have H3 := Lib.hid (And.intro ((hb3.block ga (pblt_of_heap HA.out)).trans HA.out) (H.out.2.2.trans (hb3.mono H.out.2.2.size)))
      clear hb3 c0 c1 c2 c3 c4 c5 c6
      have X0 := H3.out.1
      have c0 : w3.cell? ⟨ga, 0, none⟩ = some (.string r.who) := by rw [cell_of_row _ _ _ _ _ _ X0]; rfl
      have c1 : w3.cell? ⟨ga, 1, none⟩ = some (.string r.word) := by rw [cell_of_row _ _ _ _ _ _ X0]; rfl
      have c2 : w3.cell? ⟨ga, 2, none⟩ = some (.int .i64 r.fr) := by rw [cell_of_row _ _ _ _ _ _ X0]; rfl
      have c3 : w3.cell? ⟨ga, 3, none⟩ = some (.int .i64 r.to) := by rw [cell_of_row _ _ _ _ _ _ X0]; rfl
      have c4 : w3.cell? ⟨ga, 4, none⟩ = some (.int .i64 r.un) := by rw [cell_of_row _ _ _ _ _ _ X0]; rfl
      have c5 : w3.cell? ⟨ga, 5, none⟩ = some (.int .i64 r.mo) := by rw [cell_of_row _ _ _ _ _ _ X0]; rfl
      have c6 : w3.cell? ⟨ga, 6, none⟩ = some (.bool r.allow) := by rw [cell_of_row _ _ _ _ _ _ X0]; rfl
      clear X0
      go_wp2_with fail
      go_ret
      exact ⟨by first | rfl | (rw [hz]; rfl), H3.out.2⟩
    have gk : (k != 0) = false := by simpa using hk
    rw [decide_eq_true hk, Bool.true_and] at hZ
    clear hk
    by_cases hx : X = r.word
    rotate_left
    · have gx : (X.toList == r.word.toList) = false := pne_toList hx
      rw [decide_eq_false hx] at hZ
      clear hx
      have hz : Z = false := by rw [hZ]; simp
      clear hZ
      go_enter Try.func47, Try.ntmps47
      go_upto_region 1 with fail
      rw [← hw1, ← hga]
      clear hw1 hga
      have X0 := HA.out
      have c0 : w1.cell? ⟨ga, 0, none⟩ = some (.string r.who) := by rw [cell_of_row _ _ _ _ _ _ X0]; rfl
      have c1 : w1.cell? ⟨ga, 1, none⟩ = some (.string r.word) := by rw [cell_of_row _ _ _ _ _ _ X0]; rfl
      have c2 : w1.cell? ⟨ga, 2, none⟩ = some (.int .i64 r.fr) := by rw [cell_of_row _ _ _ _ _ _ X0]; rfl
      have c3 : w1.cell? ⟨ga, 3, none⟩ = some (.int .i64 r.to) := by rw [cell_of_row _ _ _ _ _ _ X0]; rfl
      have c4 : w1.cell? ⟨ga, 4, none⟩ = some (.int .i64 r.un) := by rw [cell_of_row _ _ _ _ _ _ X0]; rfl
      have c5 : w1.cell? ⟨ga, 5, none⟩ = some (.int .i64 r.mo) := by rw [cell_of_row _ _ _ _ _ _ X0]; rfl
      have c6 : w1.cell? ⟨ga, 6, none⟩ = some (.bool r.allow) := by rw [cell_of_row _ _ _ _ _ _ X0]; rfl
      clear X0
      go_wp2_with fail
      refine (H.out.2.1 _).mono ?_
      rintro e w3 ⟨rfl, hb3⟩
      have H3 := Lib.hid (And.intro ((hb3.block ga (pblt_of_heap HA.out)).trans HA.out) (H.out.2.2.trans (hb3.mono H.out.2.2.size)))
      clear hb3 c0 c1 c2 c3 c4 c5 c6
      have X0 := H3.out.1
      have c0 : w3.cell? ⟨ga, 0, none⟩ = some (.string r.who) := by rw [cell_of_row _ _ _ _ _ _ X0]; rfl
      have c1 : w3.cell? ⟨ga, 1, none⟩ = some (.string r.word) := by rw [cell_of_row _ _ _ _ _ _ X0]; rfl
      have c2 : w3.cell? ⟨ga, 2, none⟩ = some (.int .i64 r.fr) := by rw [cell_of_row _ _ _ _ _ _ X0]; rfl
      have c3 : w3.cell? ⟨ga, 3, none⟩ = some (.int .i64 r.to) := by rw [cell_of_row _ _ _ _ _ _ X0]; rfl
      have c4 : w3.cell? ⟨ga, 4, none⟩ = some (.int .i64 r.un) := by rw [cell_of_row _ _ _ _ _ _ X0]; rfl
      have c5 : w3.cell? ⟨ga, 5, none⟩ = some (.int .i64 r.mo) := by rw [cell_of_row _ _ _ _ _ _ X0]; rfl
      have c6 : w3.cell? ⟨ga, 6, none⟩ = some (.bool r.allow) := by rw [cell_of_row _ _ _ _ _ _ X0]; rfl
      clear X0
      go_wp2_with fail
      go_ret
      exact ⟨by first | rfl | (rw [hz]; rfl), H3.out.2⟩
    have gx : (X.toList == r.word.toList) = true := peq_toList hx
    rw [decide_eq_true hx] at hZ
    clear hx
    by_cases n0 : 0 ≤ r.fr
    rotate_left
    · have hz : Z = false := by rw [hZ]; simp; omega
      clear hZ
      go_enter Try.func47, Try.ntmps47
      go_upto_region 1 with fail
      rw [← hw1, ← hga]
      clear hw1 hga
      have X0 := HA.out
      have c0 : w1.cell? ⟨ga, 0, none⟩ = some (.string r.who) := by rw [cell_of_row _ _ _ _ _ _ X0]; rfl
      have c1 : w1.cell? ⟨ga, 1, none⟩ = some (.string r.word) := by rw [cell_of_row _ _ _ _ _ _ X0]; rfl
      have c2 : w1.cell? ⟨ga, 2, none⟩ = some (.int .i64 r.fr) := by rw [cell_of_row _ _ _ _ _ _ X0]; rfl
      have c3 : w1.cell? ⟨ga, 3, none⟩ = some (.int .i64 r.to) := by rw [cell_of_row _ _ _ _ _ _ X0]; rfl
      have c4 : w1.cell? ⟨ga, 4, none⟩ = some (.int .i64 r.un) := by rw [cell_of_row _ _ _ _ _ _ X0]; rfl
      have c5 : w1.cell? ⟨ga, 5, none⟩ = some (.int .i64 r.mo) := by rw [cell_of_row _ _ _ _ _ _ X0]; rfl
      have c6 : w1.cell? ⟨ga, 6, none⟩ = some (.bool r.allow) := by rw [cell_of_row _ _ _ _ _ _ X0]; rfl
      clear X0
      go_wp2_with fail
      refine (H.out.2.1 _).mono ?_
      rintro e w3 ⟨rfl, hb3⟩
      have H3 := Lib.hid (And.intro ((hb3.block ga (pblt_of_heap HA.out)).trans HA.out) (H.out.2.2.trans (hb3.mono H.out.2.2.size)))
      clear hb3 c0 c1 c2 c3 c4 c5 c6
      have X0 := H3.out.1
      have c0 : w3.cell? ⟨ga, 0, none⟩ = some (.string r.who) := by rw [cell_of_row _ _ _ _ _ _ X0]; rfl
      have c1 : w3.cell? ⟨ga, 1, none⟩ = some (.string r.word) := by rw [cell_of_row _ _ _ _ _ _ X0]; rfl
      have c2 : w3.cell? ⟨ga, 2, none⟩ = some (.int .i64 r.fr) := by rw [cell_of_row _ _ _ _ _ _ X0]; rfl
      have c3 : w3.cell? ⟨ga, 3, none⟩ = some (.int .i64 r.to) := by rw [cell_of_row _ _ _ _ _ _ X0]; rfl
      have c4 : w3.cell? ⟨ga, 4, none⟩ = some (.int .i64 r.un) := by rw [cell_of_row _ _ _ _ _ _ X0]; rfl
      have c5 : w3.cell? ⟨ga, 5, none⟩ = some (.int .i64 r.mo) := by rw [cell_of_row _ _ _ _ _ _ X0]; rfl
      have c6 : w3.cell? ⟨ga, 6, none⟩ = some (.bool r.allow) := by rw [cell_of_row _ _ _ _ _ _ X0]; rfl
      clear X0
      go_wp2_with fail
      go_ret
      exact ⟨by first | rfl | (rw [hz]; rfl), H3.out.2⟩
    by_cases n1 : r.fr ≤ 4096
    rotate_left
    · have hz : Z = false := by rw [hZ]; simp; omega
      clear hZ
      go_enter Try.func47, Try.ntmps47
      go_upto_region 1 with fail
      rw [← hw1, ← hga]
      clear hw1 hga
      have X0 := HA.out
      have c0 : w1.cell? ⟨ga, 0, none⟩ = some (.string r.who) := by rw [cell_of_row _ _ _ _ _ _ X0]; rfl
      have c1 : w1.cell? ⟨ga, 1, none⟩ = some (.string r.word) := by rw [cell_of_row _ _ _ _ _ _ X0]; rfl
      have c2 : w1.cell? ⟨ga, 2, none⟩ = some (.int .i64 r.fr) := by rw [cell_of_row _ _ _ _ _ _ X0]; rfl
      have c3 : w1.cell? ⟨ga, 3, none⟩ = some (.int .i64 r.to) := by rw [cell_of_row _ _ _ _ _ _ X0]; rfl
      have c4 : w1.cell? ⟨ga, 4, none⟩ = some (.int .i64 r.un) := by rw [cell_of_row _ _ _ _ _ _ X0]; rfl
      have c5 : w1.cell? ⟨ga, 5, none⟩ = some (.int .i64 r.mo) := by rw [cell_of_row _ _ _ _ _ _ X0]; rfl
      have c6 : w1.cell? ⟨ga, 6, none⟩ = some (.bool r.allow) := by rw [cell_of_row _ _ _ _ _ _ X0]; rfl
      clear X0
      go_wp2_with fail
      refine (H.out.2.1 _).mono ?_
      rintro e w3 ⟨rfl, hb3⟩
      have H3 := Lib.hid (And.intro ((hb3.block ga (pblt_of_heap HA.out)).trans HA.out) (H.out.2.2.trans (hb3.mono H.out.2.2.size)))
      clear hb3 c0 c1 c2 c3 c4 c5 c6
      have X0 := H3.out.1
      have c0 : w3.cell? ⟨ga, 0, none⟩ = some (.string r.who) := by rw [cell_of_row _ _ _ _ _ _ X0]; rfl
      have c1 : w3.cell? ⟨ga, 1, none⟩ = some (.string r.word) := by rw [cell_of_row _ _ _ _ _ _ X0]; rfl
      have c2 : w3.cell? ⟨ga, 2, none⟩ = some (.int .i64 r.fr) := by rw [cell_of_row _ _ _ _ _ _ X0]; rfl
      have c3 : w3.cell? ⟨ga, 3, none⟩ = some (.int .i64 r.to) := by rw [cell_of_row _ _ _ _ _ _ X0]; rfl
      have c4 : w3.cell? ⟨ga, 4, none⟩ = some (.int .i64 r.un) := by rw [cell_of_row _ _ _ _ _ _ X0]; rfl
      have c5 : w3.cell? ⟨ga, 5, none⟩ = some (.int .i64 r.mo) := by rw [cell_of_row _ _ _ _ _ _ X0]; rfl
      have c6 : w3.cell? ⟨ga, 6, none⟩ = some (.bool r.allow) := by rw [cell_of_row _ _ _ _ _ _ X0]; rfl
      clear X0
      go_wp2_with fail
      go_ret
      exact ⟨by first | rfl | (rw [hz]; rfl), H3.out.2⟩
    by_cases n2 : 0 ≤ r.to
    rotate_left
    · have hz : Z = false := by rw [hZ]; simp; omega
      clear hZ
      go_enter Try.func47, Try.ntmps47
      go_upto_region 1 with fail
      rw [← hw1, ← hga]
      clear hw1 hga
      have X0 := HA.out
      have c0 : w1.cell? ⟨ga, 0, none⟩ = some (.string r.who) := by rw [cell_of_row _ _ _ _ _ _ X0]; rfl
      have c1 : w1.cell? ⟨ga, 1, none⟩ = some (.string r.word) := by rw [cell_of_row _ _ _ _ _ _ X0]; rfl
      have c2 : w1.cell? ⟨ga, 2, none⟩ = some (.int .i64 r.fr) := by rw [cell_of_row _ _ _ _ _ _ X0]; rfl
      have c3 : w1.cell? ⟨ga, 3, none⟩ = some (.int .i64 r.to) := by rw [cell_of_row _ _ _ _ _ _ X0]; rfl
      have c4 : w1.cell? ⟨ga, 4, none⟩ = some (.int .i64 r.un) := by rw [cell_of_row _ _ _ _ _ _ X0]; rfl
      have c5 : w1.cell? ⟨ga, 5, none⟩ = some (.int .i64 r.mo) := by rw [cell_of_row _ _ _ _ _ _ X0]; rfl
      have c6 : w1.cell? ⟨ga, 6, none⟩ = some (.bool r.allow) := by rw [cell_of_row _ _ _ _ _ _ X0]; rfl
      clear X0
      go_wp2_with fail
      refine (H.out.2.1 _).mono ?_
      rintro e w3 ⟨rfl, hb3⟩
      have H3 := Lib.hid (And.intro ((hb3.block ga (pblt_of_heap HA.out)).trans HA.out) (H.out.2.2.trans (hb3.mono H.out.2.2.size)))
      clear hb3 c0 c1 c2 c3 c4 c5 c6
      have X0 := H3.out.1
      have c0 : w3.cell? ⟨ga, 0, none⟩ = some (.string r.who) := by rw [cell_of_row _ _ _ _ _ _ X0]; rfl
      have c1 : w3.cell? ⟨ga, 1, none⟩ = some (.string r.word) := by rw [cell_of_row _ _ _ _ _ _ X0]; rfl
      have c2 : w3.cell? ⟨ga, 2, none⟩ = some (.int .i64 r.fr) := by rw [cell_of_row _ _ _ _ _ _ X0]; rfl
      have c3 : w3.cell? ⟨ga, 3, none⟩ = some (.int .i64 r.to) := by rw [cell_of_row _ _ _ _ _ _ X0]; rfl
      have c4 : w3.cell? ⟨ga, 4, none⟩ = some (.int .i64 r.un) := by rw [cell_of_row _ _ _ _ _ _ X0]; rfl
      have c5 : w3.cell? ⟨ga, 5, none⟩ = some (.int .i64 r.mo) := by rw [cell_of_row _ _ _ _ _ _ X0]; rfl
      have c6 : w3.cell? ⟨ga, 6, none⟩ = some (.bool r.allow) := by rw [cell_of_row _ _ _ _ _ _ X0]; rfl
      clear X0
      go_wp2_with fail
      go_ret
      exact ⟨by first | rfl | (rw [hz]; rfl), H3.out.2⟩
    by_cases n3 : r.to ≤ 4096
    rotate_left
    · have hz : Z = false := by rw [hZ]; simp; omega
      clear hZ
      go_enter Try.func47, Try.ntmps47
      go_upto_region 1 with fail
      rw [← hw1, ← hga]
      clear hw1 hga
      have X0 := HA.out
      have c0 : w1.cell? ⟨ga, 0, none⟩ = some (.string r.who) := by rw [cell_of_row _ _ _ _ _ _ X0]; rfl
      have c1 : w1.cell? ⟨ga, 1, none⟩ = some (.string r.word) := by rw [cell_of_row _ _ _ _ _ _ X0]; rfl
      have c2 : w1.cell? ⟨ga, 2, none⟩ = some (.int .i64 r.fr) := by rw [cell_of_row _ _ _ _ _ _ X0]; rfl
      have c3 : w1.cell? ⟨ga, 3, none⟩ = some (.int .i64 r.to) := by rw [cell_of_row _ _ _ _ _ _ X0]; rfl
      have c4 : w1.cell? ⟨ga, 4, none⟩ = some (.int .i64 r.un) := by rw [cell_of_row _ _ _ _ _ _ X0]; rfl
      have c5 : w1.cell? ⟨ga, 5, none⟩ = some (.int .i64 r.mo) := by rw [cell_of_row _ _ _ _ _ _ X0]; rfl
      have c6 : w1.cell? ⟨ga, 6, none⟩ = some (.bool r.allow) := by rw [cell_of_row _ _ _ _ _ _ X0]; rfl
      clear X0
      go_wp2_with fail
      refine (H.out.2.1 _).mono ?_
      rintro e w3 ⟨rfl, hb3⟩
      have H3 := Lib.hid (And.intro ((hb3.block ga (pblt_of_heap HA.out)).trans HA.out) (H.out.2.2.trans (hb3.mono H.out.2.2.size)))
      clear hb3 c0 c1 c2 c3 c4 c5 c6
      have X0 := H3.out.1
      have c0 : w3.cell? ⟨ga, 0, none⟩ = some (.string r.who) := by rw [cell_of_row _ _ _ _ _ _ X0]; rfl
      have c1 : w3.cell? ⟨ga, 1, none⟩ = some (.string r.word) := by rw [cell_of_row _ _ _ _ _ _ X0]; rfl
      have c2 : w3.cell? ⟨ga, 2, none⟩ = some (.int .i64 r.fr) := by rw [cell_of_row _ _ _ _ _ _ X0]; rfl
      have c3 : w3.cell? ⟨ga, 3, none⟩ = some (.int .i64 r.to) := by rw [cell_of_row _ _ _ _ _ _ X0]; rfl
      have c4 : w3.cell? ⟨ga, 4, none⟩ = some (.int .i64 r.un) := by rw [cell_of_row _ _ _ _ _ _ X0]; rfl
      have c5 : w3.cell? ⟨ga, 5, none⟩ = some (.int .i64 r.mo) := by rw [cell_of_row _ _ _ _ _ _ X0]; rfl
      have c6 : w3.cell? ⟨ga, 6, none⟩ = some (.bool r.allow) := by rw [cell_of_row _ _ _ _ _ _ X0]; rfl
      clear X0
      go_wp2_with fail
      go_ret
      exact ⟨by first | rfl | (rw [hz]; rfl), H3.out.2⟩
    by_cases n4 : 0 ≤ r.un
    rotate_left
    · have hz : Z = false := by rw [hZ]; simp; omega
      clear hZ
      go_enter Try.func47, Try.ntmps47
      go_upto_region 1 with fail
      rw [← hw1, ← hga]
      clear hw1 hga
      have X0 := HA.out
      have c0 : w1.cell? ⟨ga, 0, none⟩ = some (.string r.who) := by rw [cell_of_row _ _ _ _ _ _ X0]; rfl
      have c1 : w1.cell? ⟨ga, 1, none⟩ = some (.string r.word) := by rw [cell_of_row _ _ _ _ _ _ X0]; rfl
      have c2 : w1.cell? ⟨ga, 2, none⟩ = some (.int .i64 r.fr) := by rw [cell_of_row _ _ _ _ _ _ X0]; rfl
      have c3 : w1.cell? ⟨ga, 3, none⟩ = some (.int .i64 r.to) := by rw [cell_of_row _ _ _ _ _ _ X0]; rfl
      have c4 : w1.cell? ⟨ga, 4, none⟩ = some (.int .i64 r.un) := by rw [cell_of_row _ _ _ _ _ _ X0]; rfl
      have c5 : w1.cell? ⟨ga, 5, none⟩ = some (.int .i64 r.mo) := by rw [cell_of_row _ _ _ _ _ _ X0]; rfl
      have c6 : w1.cell? ⟨ga, 6, none⟩ = some (.bool r.allow) := by rw [cell_of_row _ _ _ _ _ _ X0]; rfl
      clear X0
      go_wp2_with fail
      refine (H.out.2.1 _).mono ?_
      rintro e w3 ⟨rfl, hb3⟩
      have H3 := Lib.hid (And.intro ((hb3.block ga (pblt_of_heap HA.out)).trans HA.out) (H.out.2.2.trans (hb3.mono H.out.2.2.size)))
      clear hb3 c0 c1 c2 c3 c4 c5 c6
      have X0 := H3.out.1
      have c0 : w3.cell? ⟨ga, 0, none⟩ = some (.string r.who) := by rw [cell_of_row _ _ _ _ _ _ X0]; rfl
      have c1 : w3.cell? ⟨ga, 1, none⟩ = some (.string r.word) := by rw [cell_of_row _ _ _ _ _ _ X0]; rfl
      have c2 : w3.cell? ⟨ga, 2, none⟩ = some (.int .i64 r.fr) := by rw [cell_of_row _ _ _ _ _ _ X0]; rfl
      have c3 : w3.cell? ⟨ga, 3, none⟩ = some (.int .i64 r.to) := by rw [cell_of_row _ _ _ _ _ _ X0]; rfl
      have c4 : w3.cell? ⟨ga, 4, none⟩ = some (.int .i64 r.un) := by rw [cell_of_row _ _ _ _ _ _ X0]; rfl
      have c5 : w3.cell? ⟨ga, 5, none⟩ = some (.int .i64 r.mo) := by rw [cell_of_row _ _ _ _ _ _ X0]; rfl
      have c6 : w3.cell? ⟨ga, 6, none⟩ = some (.bool r.allow) := by rw [cell_of_row _ _ _ _ _ _ X0]; rfl
      clear X0
      go_wp2_with fail
      go_ret
      exact ⟨by first | rfl | (rw [hz]; rfl), H3.out.2⟩
    by_cases n5 : r.un ≤ 1099511627776
    rotate_left
    · have hz : Z = false := by rw [hZ]; simp; omega
      clear hZ
      go_enter Try.func47, Try.ntmps47
      go_upto_region 1 with fail
      rw [← hw1, ← hga]
      clear hw1 hga
      have X0 := HA.out
      have c0 : w1.cell? ⟨ga, 0, none⟩ = some (.string r.who) := by rw [cell_of_row _ _ _ _ _ _ X0]; rfl
      have c1 : w1.cell? ⟨ga, 1, none⟩ = some (.string r.word) := by rw [cell_of_row _ _ _ _ _ _ X0]; rfl
      have c2 : w1.cell? ⟨ga, 2, none⟩ = some (.int .i64 r.fr) := by rw [cell_of_row _ _ _ _ _ _ X0]; rfl
      have c3 : w1.cell? ⟨ga, 3, none⟩ = some (.int .i64 r.to) := by rw [cell_of_row _ _ _ _ _ _ X0]; rfl
      have c4 : w1.cell? ⟨ga, 4, none⟩ = some (.int .i64 r.un) := by rw [cell_of_row _ _ _ _ _ _ X0]; rfl
      have c5 : w1.cell? ⟨ga, 5, none⟩ = some (.int .i64 r.mo) := by rw [cell_of_row _ _ _ _ _ _ X0]; rfl
      have c6 : w1.cell? ⟨ga, 6, none⟩ = some (.bool r.allow) := by rw [cell_of_row _ _ _ _ _ _ X0]; rfl
      clear X0
      go_wp2_with fail
      refine (H.out.2.1 _).mono ?_
      rintro e w3 ⟨rfl, hb3⟩
      have H3 := Lib.hid (And.intro ((hb3.block ga (pblt_of_heap HA.out)).trans HA.out) (H.out.2.2.trans (hb3.mono H.out.2.2.size)))
      clear hb3 c0 c1 c2 c3 c4 c5 c6
      have X0 := H3.out.1
      have c0 : w3.cell? ⟨ga, 0, none⟩ = some (.string r.who) := by rw [cell_of_row _ _ _ _ _ _ X0]; rfl
      have c1 : w3.cell? ⟨ga, 1, none⟩ = some (.string r.word) := by rw [cell_of_row _ _ _ _ _ _ X0]; rfl
      have c2 : w3.cell? ⟨ga, 2, none⟩ = some (.int .i64 r.fr) := by rw [cell_of_row _ _ _ _ _ _ X0]; rfl
      have c3 : w3.cell? ⟨ga, 3, none⟩ = some (.int .i64 r.to) := by rw [cell_of_row _ _ _ _ _ _ X0]; rfl
      have c4 : w3.cell? ⟨ga, 4, none⟩ = some (.int .i64 r.un) := by rw [cell_of_row _ _ _ _ _ _ X0]; rfl
      have c5 : w3.cell? ⟨ga, 5, none⟩ = some (.int .i64 r.mo) := by rw [cell_of_row _ _ _ _ _ _ X0]; rfl
      have c6 : w3.cell? ⟨ga, 6, none⟩ = some (.bool r.allow) := by rw [cell_of_row _ _ _ _ _ _ X0]; rfl
      clear X0
      go_wp2_with fail
      go_ret
      exact ⟨by first | rfl | (rw [hz]; rfl), H3.out.2⟩
    by_cases n6 : 0 ≤ r.mo
    rotate_left
    · have hz : Z = false := by rw [hZ]; simp; omega
      clear hZ
      go_enter Try.func47, Try.ntmps47
      go_upto_region 1 with fail
      rw [← hw1, ← hga]
      clear hw1 hga
      have X0 := HA.out
      have c0 : w1.cell? ⟨ga, 0, none⟩ = some (.string r.who) := by rw [cell_of_row _ _ _ _ _ _ X0]; rfl
      have c1 : w1.cell? ⟨ga, 1, none⟩ = some (.string r.word) := by rw [cell_of_row _ _ _ _ _ _ X0]; rfl
      have c2 : w1.cell? ⟨ga, 2, none⟩ = some (.int .i64 r.fr) := by rw [cell_of_row _ _ _ _ _ _ X0]; rfl
      have c3 : w1.cell? ⟨ga, 3, none⟩ = some (.int .i64 r.to) := by rw [cell_of_row _ _ _ _ _ _ X0]; rfl
      have c4 : w1.cell? ⟨ga, 4, none⟩ = some (.int .i64 r.un) := by rw [cell_of_row _ _ _ _ _ _ X0]; rfl
      have c5 : w1.cell? ⟨ga, 5, none⟩ = some (.int .i64 r.mo) := by rw [cell_of_row _ _ _ _ _ _ X0]; rfl
      have c6 : w1.cell? ⟨ga, 6, none⟩ = some (.bool r.allow) := by rw [cell_of_row _ _ _ _ _ _ X0]; rfl
      clear X0
      go_wp2_with fail
      refine (H.out.2.1 _).mono ?_
      rintro e w3 ⟨rfl, hb3⟩
      have H3 := Lib.hid (And.intro ((hb3.block ga (pblt_of_heap HA.out)).trans HA.out) (H.out.2.2.trans (hb3.mono H.out.2.2.size)))
      clear hb3 c0 c1 c2 c3 c4 c5 c6
      have X0 := H3.out.1
      have c0 : w3.cell? ⟨ga, 0, none⟩ = some (.string r.who) := by rw [cell_of_row _ _ _ _ _ _ X0]; rfl
      have c1 : w3.cell? ⟨ga, 1, none⟩ = some (.string r.word) := by rw [cell_of_row _ _ _ _ _ _ X0]; rfl
      have c2 : w3.cell? ⟨ga, 2, none⟩ = some (.int .i64 r.fr) := by rw [cell_of_row _ _ _ _ _ _ X0]; rfl
      have c3 : w3.cell? ⟨ga, 3, none⟩ = some (.int .i64 r.to) := by rw [cell_of_row _ _ _ _ _ _ X0]; rfl
      have c4 : w3.cell? ⟨ga, 4, none⟩ = some (.int .i64 r.un) := by rw [cell_of_row _ _ _ _ _ _ X0]; rfl
      have c5 : w3.cell? ⟨ga, 5, none⟩ = some (.int .i64 r.mo) := by rw [cell_of_row _ _ _ _ _ _ X0]; rfl
      have c6 : w3.cell? ⟨ga, 6, none⟩ = some (.bool r.allow) := by rw [cell_of_row _ _ _ _ _ _ X0]; rfl
      clear X0
      go_wp2_with fail
      go_ret
      exact ⟨by first | rfl | (rw [hz]; rfl), H3.out.2⟩
    by_cases n7 : r.mo ≤ 50
    rotate_left
    · have hz : Z = false := by rw [hZ]; simp; omega
      clear hZ
      go_enter Try.func47, Try.ntmps47
      go_upto_region 1 with fail
      rw [← hw1, ← hga]
      clear hw1 hga
      have X0 := HA.out
      have c0 : w1.cell? ⟨ga, 0, none⟩ = some (.string r.who) := by rw [cell_of_row _ _ _ _ _ _ X0]; rfl
      have c1 : w1.cell? ⟨ga, 1, none⟩ = some (.string r.word) := by rw [cell_of_row _ _ _ _ _ _ X0]; rfl
      have c2 : w1.cell? ⟨ga, 2, none⟩ = some (.int .i64 r.fr) := by rw [cell_of_row _ _ _ _ _ _ X0]; rfl
      have c3 : w1.cell? ⟨ga, 3, none⟩ = some (.int .i64 r.to) := by rw [cell_of_row _ _ _ _ _ _ X0]; rfl
      have c4 : w1.cell? ⟨ga, 4, none⟩ = some (.int .i64 r.un) := by rw [cell_of_row _ _ _ _ _ _ X0]; rfl
      have c5 : w1.cell? ⟨ga, 5, none⟩ = some (.int .i64 r.mo) := by rw [cell_of_row _ _ _ _ _ _ X0]; rfl
      have c6 : w1.cell? ⟨ga, 6, none⟩ = some (.bool r.allow) := by rw [cell_of_row _ _ _ _ _ _ X0]; rfl
      clear X0
      go_wp2_with fail
      refine (H.out.2.1 _).mono ?_
      rintro e w3 ⟨rfl, hb3⟩
      have H3 := Lib.hid (And.intro ((hb3.block ga (pblt_of_heap HA.out)).trans HA.out) (H.out.2.2.trans (hb3.mono H.out.2.2.size)))
      clear hb3 c0 c1 c2 c3 c4 c5 c6
      have X0 := H3.out.1
      have c0 : w3.cell? ⟨ga, 0, none⟩ = some (.string r.who) := by rw [cell_of_row _ _ _ _ _ _ X0]; rfl
      have c1 : w3.cell? ⟨ga, 1, none⟩ = some (.string r.word) := by rw [cell_of_row _ _ _ _ _ _ X0]; rfl
      have c2 : w3.cell? ⟨ga, 2, none⟩ = some (.int .i64 r.fr) := by rw [cell_of_row _ _ _ _ _ _ X0]; rfl
      have c3 : w3.cell? ⟨ga, 3, none⟩ = some (.int .i64 r.to) := by rw [cell_of_row _ _ _ _ _ _ X0]; rfl
      have c4 : w3.cell? ⟨ga, 4, none⟩ = some (.int .i64 r.un) := by rw [cell_of_row _ _ _ _ _ _ X0]; rfl
      have c5 : w3.cell? ⟨ga, 5, none⟩ = some (.int .i64 r.mo) := by rw [cell_of_row _ _ _ _ _ _ X0]; rfl
      have c6 : w3.cell? ⟨ga, 6, none⟩ = some (.bool r.allow) := by rw [cell_of_row _ _ _ _ _ _ X0]; rfl
      clear X0
      go_wp2_with fail
      go_ret
      exact ⟨by first | rfl | (rw [hz]; rfl) | (show Ending.returned (Value.bool (decide (r.mo ≤ 50))) = _; rw [decide_eq_false (by omega), hz]) | (rw [hz]; show Ending.returned (Value.bool (decide (r.mo ≤ 50))) = _; rw [decide_eq_false (by omega)]), H3.out.2⟩
    have hz : Z = true := by rw [hZ]; simp; omega
    clear hZ
    go_enter Try.func47, Try.ntmps47
    go_upto_region 1 with fail
    rw [← hw1, ← hga]
    clear hw1 hga
    have X0 := HA.out
    have c0 : w1.cell? ⟨ga, 0, none⟩ = some (.string r.who) := by rw [cell_of_row _ _ _ _ _ _ X0]; rfl
    have c1 : w1.cell? ⟨ga, 1, none⟩ = some (.string r.word) := by rw [cell_of_row _ _ _ _ _ _ X0]; rfl
    have c2 : w1.cell? ⟨ga, 2, none⟩ = some (.int .i64 r.fr) := by rw [cell_of_row _ _ _ _ _ _ X0]; rfl
    have c3 : w1.cell? ⟨ga, 3, none⟩ = some (.int .i64 r.to) := by rw [cell_of_row _ _ _ _ _ _ X0]; rfl
    have c4 : w1.cell? ⟨ga, 4, none⟩ = some (.int .i64 r.un) := by rw [cell_of_row _ _ _ _ _ _ X0]; rfl
    have c5 : w1.cell? ⟨ga, 5, none⟩ = some (.int .i64 r.mo) := by rw [cell_of_row _ _ _ _ _ _ X0]; rfl
    have c6 : w1.cell? ⟨ga, 6, none⟩ = some (.bool r.allow) := by rw [cell_of_row _ _ _ _ _ _ X0]; rfl
    clear X0
    go_wp2_with fail
    refine (H.out.2.1 _).mono ?_
    rintro e w3 ⟨rfl, hb3⟩
    have H3 := Lib.hid (And.intro ((hb3.block ga (pblt_of_heap HA.out)).trans HA.out) (H.out.2.2.trans (hb3.mono H.out.2.2.size)))
    clear hb3 c0 c1 c2 c3 c4 c5 c6
    have X0 := H3.out.1
    have c0 : w3.cell? ⟨ga, 0, none⟩ = some (.string r.who) := by rw [cell_of_row _ _ _ _ _ _ X0]; rfl
    have c1 : w3.cell? ⟨ga, 1, none⟩ = some (.string r.word) := by rw [cell_of_row _ _ _ _ _ _ X0]; rfl
    have c2 : w3.cell? ⟨ga, 2, none⟩ = some (.int .i64 r.fr) := by rw [cell_of_row _ _ _ _ _ _ X0]; rfl
    have c3 : w3.cell? ⟨ga, 3, none⟩ = some (.int .i64 r.to) := by rw [cell_of_row _ _ _ _ _ _ X0]; rfl
    have c4 : w3.cell? ⟨ga, 4, none⟩ = some (.int .i64 r.un) := by rw [cell_of_row _ _ _ _ _ _ X0]; rfl
    have c5 : w3.cell? ⟨ga, 5, none⟩ = some (.int .i64 r.mo) := by rw [cell_of_row _ _ _ _ _ _ X0]; rfl
    have c6 : w3.cell? ⟨ga, 6, none⟩ = some (.bool r.allow) := by rw [cell_of_row _ _ _ _ _ _ X0]; rfl
    clear X0
    go_wp2_with fail
    go_ret
    exact ⟨by first | rfl | (rw [hz]; rfl) | (show Ending.returned (Value.bool (decide (r.mo ≤ 50))) = _; rw [decide_eq_true (by omega), hz]) | (rw [hz]; show Ending.returned (Value.bool (decide (r.mo ≤ 50))) = _; rw [decide_eq_true (by omega)]), H3.out.2⟩
  have gA : r.who.toList.isEmpty = false := full_list hA
  rw [decide_eq_false hA, Bool.false_or] at hZ
  clear hA
  cases N with
  | false =>
    have hz : Z = false := by rw [hZ]; simp
    clear hZ
    go_enter Try.func47, Try.ntmps47
    go_upto_region 1 with fail
    rw [← hw1, ← hga]
    clear hw1 hga
    have X0 := HA.out
    have c0 : w1.cell? ⟨ga, 0, none⟩ = some (.string r.who) := by rw [cell_of_row _ _ _ _ _ _ X0]; rfl
    have c1 : w1.cell? ⟨ga, 1, none⟩ = some (.string r.word) := by rw [cell_of_row _ _ _ _ _ _ X0]; rfl
    have c2 : w1.cell? ⟨ga, 2, none⟩ = some (.int .i64 r.fr) := by rw [cell_of_row _ _ _ _ _ _ X0]; rfl
    have c3 : w1.cell? ⟨ga, 3, none⟩ = some (.int .i64 r.to) := by rw [cell_of_row _ _ _ _ _ _ X0]; rfl
    have c4 : w1.cell? ⟨ga, 4, none⟩ = some (.int .i64 r.un) := by rw [cell_of_row _ _ _ _ _ _ X0]; rfl
    have c5 : w1.cell? ⟨ga, 5, none⟩ = some (.int .i64 r.mo) := by rw [cell_of_row _ _ _ _ _ _ X0]; rfl
    have c6 : w1.cell? ⟨ga, 6, none⟩ = some (.bool r.allow) := by rw [cell_of_row _ _ _ _ _ _ X0]; rfl
    clear X0
    go_wp2_with fail
    refine (H.out.1 _).mono ?_
    rintro e w2 ⟨rfl, hww⟩
    cases hww
    go_wp2_with fail
    go_ret
    exact ⟨by first | rfl | (rw [hz]; rfl), H.out.2.2⟩
  | true =>
  rw [Bool.true_and] at hZ
  by_cases hC : r.word.size = 0
  · have gC : r.word.toList.isEmpty = true := empty_list hC
    rw [decide_eq_true hC, Bool.true_or] at hZ
    clear hC
    by_cases n0 : 0 ≤ r.fr
    rotate_left
    · have hz : Z = false := by rw [hZ]; simp; omega
      clear hZ
      go_enter Try.func47, Try.ntmps47
      go_upto_region 1 with fail
      rw [← hw1, ← hga]
      clear hw1 hga
      have X0 := HA.out
      have c0 : w1.cell? ⟨ga, 0, none⟩ = some (.string r.who) := by rw [cell_of_row _ _ _ _ _ _ X0]; rfl
      have c1 : w1.cell? ⟨ga, 1, none⟩ = some (.string r.word) := by rw [cell_of_row _ _ _ _ _ _ X0]; rfl
      have c2 : w1.cell? ⟨ga, 2, none⟩ = some (.int .i64 r.fr) := by rw [cell_of_row _ _ _ _ _ _ X0]; rfl
      have c3 : w1.cell? ⟨ga, 3, none⟩ = some (.int .i64 r.to) := by rw [cell_of_row _ _ _ _ _ _ X0]; rfl
      have c4 : w1.cell? ⟨ga, 4, none⟩ = some (.int .i64 r.un) := by rw [cell_of_row _ _ _ _ _ _ X0]; rfl
      have c5 : w1.cell? ⟨ga, 5, none⟩ = some (.int .i64 r.mo) := by rw [cell_of_row _ _ _ _ _ _ X0]; rfl
      have c6 : w1.cell? ⟨ga, 6, none⟩ = some (.bool r.allow) := by rw [cell_of_row _ _ _ _ _ _ X0]; rfl
      clear X0
      go_wp2_with fail
      refine (H.out.1 _).mono ?_
      rintro e w2 ⟨rfl, hww⟩
      cases hww
      go_wp2_with fail
      refine (H.out.2.1 _).mono ?_
      rintro e w3 ⟨rfl, hb3⟩
      have H3 := Lib.hid (And.intro ((hb3.block ga (pblt_of_heap HA.out)).trans HA.out) (H.out.2.2.trans (hb3.mono H.out.2.2.size)))
      clear hb3 c0 c1 c2 c3 c4 c5 c6
      have X0 := H3.out.1
      have c0 : w3.cell? ⟨ga, 0, none⟩ = some (.string r.who) := by rw [cell_of_row _ _ _ _ _ _ X0]; rfl
      have c1 : w3.cell? ⟨ga, 1, none⟩ = some (.string r.word) := by rw [cell_of_row _ _ _ _ _ _ X0]; rfl
      have c2 : w3.cell? ⟨ga, 2, none⟩ = some (.int .i64 r.fr) := by rw [cell_of_row _ _ _ _ _ _ X0]; rfl
      have c3 : w3.cell? ⟨ga, 3, none⟩ = some (.int .i64 r.to) := by rw [cell_of_row _ _ _ _ _ _ X0]; rfl
      have c4 : w3.cell? ⟨ga, 4, none⟩ = some (.int .i64 r.un) := by rw [cell_of_row _ _ _ _ _ _ X0]; rfl
      have c5 : w3.cell? ⟨ga, 5, none⟩ = some (.int .i64 r.mo) := by rw [cell_of_row _ _ _ _ _ _ X0]; rfl
      have c6 : w3.cell? ⟨ga, 6, none⟩ = some (.bool r.allow) := by rw [cell_of_row _ _ _ _ _ _ X0]; rfl
      clear X0
      go_wp2_with fail
      go_ret
      exact ⟨by first | rfl | (rw [hz]; rfl), H3.out.2⟩
    by_cases n1 : r.fr ≤ 4096
    rotate_left
    · have hz : Z = false := by rw [hZ]; simp; omega
      clear hZ
      go_enter Try.func47, Try.ntmps47
      go_upto_region 1 with fail
      rw [← hw1, ← hga]
      clear hw1 hga
      have X0 := HA.out
      have c0 : w1.cell? ⟨ga, 0, none⟩ = some (.string r.who) := by rw [cell_of_row _ _ _ _ _ _ X0]; rfl
      have c1 : w1.cell? ⟨ga, 1, none⟩ = some (.string r.word) := by rw [cell_of_row _ _ _ _ _ _ X0]; rfl
      have c2 : w1.cell? ⟨ga, 2, none⟩ = some (.int .i64 r.fr) := by rw [cell_of_row _ _ _ _ _ _ X0]; rfl
      have c3 : w1.cell? ⟨ga, 3, none⟩ = some (.int .i64 r.to) := by rw [cell_of_row _ _ _ _ _ _ X0]; rfl
      have c4 : w1.cell? ⟨ga, 4, none⟩ = some (.int .i64 r.un) := by rw [cell_of_row _ _ _ _ _ _ X0]; rfl
      have c5 : w1.cell? ⟨ga, 5, none⟩ = some (.int .i64 r.mo) := by rw [cell_of_row _ _ _ _ _ _ X0]; rfl
      have c6 : w1.cell? ⟨ga, 6, none⟩ = some (.bool r.allow) := by rw [cell_of_row _ _ _ _ _ _ X0]; rfl
      clear X0
      go_wp2_with fail
      refine (H.out.1 _).mono ?_
      rintro e w2 ⟨rfl, hww⟩
      cases hww
      go_wp2_with fail
      refine (H.out.2.1 _).mono ?_
      rintro e w3 ⟨rfl, hb3⟩
      have H3 := Lib.hid (And.intro ((hb3.block ga (pblt_of_heap HA.out)).trans HA.out) (H.out.2.2.trans (hb3.mono H.out.2.2.size)))
      clear hb3 c0 c1 c2 c3 c4 c5 c6
      have X0 := H3.out.1
      have c0 : w3.cell? ⟨ga, 0, none⟩ = some (.string r.who) := by rw [cell_of_row _ _ _ _ _ _ X0]; rfl
      have c1 : w3.cell? ⟨ga, 1, none⟩ = some (.string r.word) := by rw [cell_of_row _ _ _ _ _ _ X0]; rfl
      have c2 : w3.cell? ⟨ga, 2, none⟩ = some (.int .i64 r.fr) := by rw [cell_of_row _ _ _ _ _ _ X0]; rfl
      have c3 : w3.cell? ⟨ga, 3, none⟩ = some (.int .i64 r.to) := by rw [cell_of_row _ _ _ _ _ _ X0]; rfl
      have c4 : w3.cell? ⟨ga, 4, none⟩ = some (.int .i64 r.un) := by rw [cell_of_row _ _ _ _ _ _ X0]; rfl
      have c5 : w3.cell? ⟨ga, 5, none⟩ = some (.int .i64 r.mo) := by rw [cell_of_row _ _ _ _ _ _ X0]; rfl
      have c6 : w3.cell? ⟨ga, 6, none⟩ = some (.bool r.allow) := by rw [cell_of_row _ _ _ _ _ _ X0]; rfl
      clear X0
      go_wp2_with fail
      go_ret
      exact ⟨by first | rfl | (rw [hz]; rfl), H3.out.2⟩
    by_cases n2 : 0 ≤ r.to
    rotate_left
    · have hz : Z = false := by rw [hZ]; simp; omega
      clear hZ
      go_enter Try.func47, Try.ntmps47
      go_upto_region 1 with fail
      rw [← hw1, ← hga]
      clear hw1 hga
      have X0 := HA.out
      have c0 : w1.cell? ⟨ga, 0, none⟩ = some (.string r.who) := by rw [cell_of_row _ _ _ _ _ _ X0]; rfl
      have c1 : w1.cell? ⟨ga, 1, none⟩ = some (.string r.word) := by rw [cell_of_row _ _ _ _ _ _ X0]; rfl
      have c2 : w1.cell? ⟨ga, 2, none⟩ = some (.int .i64 r.fr) := by rw [cell_of_row _ _ _ _ _ _ X0]; rfl
      have c3 : w1.cell? ⟨ga, 3, none⟩ = some (.int .i64 r.to) := by rw [cell_of_row _ _ _ _ _ _ X0]; rfl
      have c4 : w1.cell? ⟨ga, 4, none⟩ = some (.int .i64 r.un) := by rw [cell_of_row _ _ _ _ _ _ X0]; rfl
      have c5 : w1.cell? ⟨ga, 5, none⟩ = some (.int .i64 r.mo) := by rw [cell_of_row _ _ _ _ _ _ X0]; rfl
      have c6 : w1.cell? ⟨ga, 6, none⟩ = some (.bool r.allow) := by rw [cell_of_row _ _ _ _ _ _ X0]; rfl
      clear X0
      go_wp2_with fail
      refine (H.out.1 _).mono ?_
      rintro e w2 ⟨rfl, hww⟩
      cases hww
      go_wp2_with fail
      refine (H.out.2.1 _).mono ?_
      rintro e w3 ⟨rfl, hb3⟩
      have H3 := Lib.hid (And.intro ((hb3.block ga (pblt_of_heap HA.out)).trans HA.out) (H.out.2.2.trans (hb3.mono H.out.2.2.size)))
      clear hb3 c0 c1 c2 c3 c4 c5 c6
      have X0 := H3.out.1
      have c0 : w3.cell? ⟨ga, 0, none⟩ = some (.string r.who) := by rw [cell_of_row _ _ _ _ _ _ X0]; rfl
      have c1 : w3.cell? ⟨ga, 1, none⟩ = some (.string r.word) := by rw [cell_of_row _ _ _ _ _ _ X0]; rfl
      have c2 : w3.cell? ⟨ga, 2, none⟩ = some (.int .i64 r.fr) := by rw [cell_of_row _ _ _ _ _ _ X0]; rfl
      have c3 : w3.cell? ⟨ga, 3, none⟩ = some (.int .i64 r.to) := by rw [cell_of_row _ _ _ _ _ _ X0]; rfl
      have c4 : w3.cell? ⟨ga, 4, none⟩ = some (.int .i64 r.un) := by rw [cell_of_row _ _ _ _ _ _ X0]; rfl
      have c5 : w3.cell? ⟨ga, 5, none⟩ = some (.int .i64 r.mo) := by rw [cell_of_row _ _ _ _ _ _ X0]; rfl
      have c6 : w3.cell? ⟨ga, 6, none⟩ = some (.bool r.allow) := by rw [cell_of_row _ _ _ _ _ _ X0]; rfl
      clear X0
      go_wp2_with fail
      go_ret
      exact ⟨by first | rfl | (rw [hz]; rfl), H3.out.2⟩
    by_cases n3 : r.to ≤ 4096
    rotate_left
    · have hz : Z = false := by rw [hZ]; simp; omega
      clear hZ
      go_enter Try.func47, Try.ntmps47
      go_upto_region 1 with fail
      rw [← hw1, ← hga]
      clear hw1 hga
      have X0 := HA.out
      have c0 : w1.cell? ⟨ga, 0, none⟩ = some (.string r.who) := by rw [cell_of_row _ _ _ _ _ _ X0]; rfl
      have c1 : w1.cell? ⟨ga, 1, none⟩ = some (.string r.word) := by rw [cell_of_row _ _ _ _ _ _ X0]; rfl
      have c2 : w1.cell? ⟨ga, 2, none⟩ = some (.int .i64 r.fr) := by rw [cell_of_row _ _ _ _ _ _ X0]; rfl
      have c3 : w1.cell? ⟨ga, 3, none⟩ = some (.int .i64 r.to) := by rw [cell_of_row _ _ _ _ _ _ X0]; rfl
      have c4 : w1.cell? ⟨ga, 4, none⟩ = some (.int .i64 r.un) := by rw [cell_of_row _ _ _ _ _ _ X0]; rfl
      have c5 : w1.cell? ⟨ga, 5, none⟩ = some (.int .i64 r.mo) := by rw [cell_of_row _ _ _ _ _ _ X0]; rfl
      have c6 : w1.cell? ⟨ga, 6, none⟩ = some (.bool r.allow) := by rw [cell_of_row _ _ _ _ _ _ X0]; rfl
      clear X0
      go_wp2_with fail
      refine (H.out.1 _).mono ?_
      rintro e w2 ⟨rfl, hww⟩
      cases hww
      go_wp2_with fail
      refine (H.out.2.1 _).mono ?_
      rintro e w3 ⟨rfl, hb3⟩
      have H3 := Lib.hid (And.intro ((hb3.block ga (pblt_of_heap HA.out)).trans HA.out) (H.out.2.2.trans (hb3.mono H.out.2.2.size)))
      clear hb3 c0 c1 c2 c3 c4 c5 c6
      have X0 := H3.out.1
      have c0 : w3.cell? ⟨ga, 0, none⟩ = some (.string r.who) := by rw [cell_of_row _ _ _ _ _ _ X0]; rfl
      have c1 : w3.cell? ⟨ga, 1, none⟩ = some (.string r.word) := by rw [cell_of_row _ _ _ _ _ _ X0]; rfl
      have c2 : w3.cell? ⟨ga, 2, none⟩ = some (.int .i64 r.fr) := by rw [cell_of_row _ _ _ _ _ _ X0]; rfl
      have c3 : w3.cell? ⟨ga, 3, none⟩ = some (.int .i64 r.to) := by rw [cell_of_row _ _ _ _ _ _ X0]; rfl
      have c4 : w3.cell? ⟨ga, 4, none⟩ = some (.int .i64 r.un) := by rw [cell_of_row _ _ _ _ _ _ X0]; rfl
      have c5 : w3.cell? ⟨ga, 5, none⟩ = some (.int .i64 r.mo) := by rw [cell_of_row _ _ _ _ _ _ X0]; rfl
      have c6 : w3.cell? ⟨ga, 6, none⟩ = some (.bool r.allow) := by rw [cell_of_row _ _ _ _ _ _ X0]; rfl
      clear X0
      go_wp2_with fail
      go_ret
      exact ⟨by first | rfl | (rw [hz]; rfl), H3.out.2⟩
    by_cases n4 : 0 ≤ r.un
    rotate_left
    · have hz : Z = false := by rw [hZ]; simp; omega
      clear hZ
      go_enter Try.func47, Try.ntmps47
      go_upto_region 1 with fail
      rw [← hw1, ← hga]
      clear hw1 hga
      have X0 := HA.out
      have c0 : w1.cell? ⟨ga, 0, none⟩ = some (.string r.who) := by rw [cell_of_row _ _ _ _ _ _ X0]; rfl
      have c1 : w1.cell? ⟨ga, 1, none⟩ = some (.string r.word) := by rw [cell_of_row _ _ _ _ _ _ X0]; rfl
      have c2 : w1.cell? ⟨ga, 2, none⟩ = some (.int .i64 r.fr) := by rw [cell_of_row _ _ _ _ _ _ X0]; rfl
      have c3 : w1.cell? ⟨ga, 3, none⟩ = some (.int .i64 r.to) := by rw [cell_of_row _ _ _ _ _ _ X0]; rfl
      have c4 : w1.cell? ⟨ga, 4, none⟩ = some (.int .i64 r.un) := by rw [cell_of_row _ _ _ _ _ _ X0]; rfl
      have c5 : w1.cell? ⟨ga, 5, none⟩ = some (.int .i64 r.mo) := by rw [cell_of_row _ _ _ _ _ _ X0]; rfl
      have c6 : w1.cell? ⟨ga, 6, none⟩ = some (.bool r.allow) := by rw [cell_of_row _ _ _ _ _ _ X0]; rfl
      clear X0
      go_wp2_with fail
      refine (H.out.1 _).mono ?_
      rintro e w2 ⟨rfl, hww⟩
      cases hww
      go_wp2_with fail
      refine (H.out.2.1 _).mono ?_
      rintro e w3 ⟨rfl, hb3⟩
      have H3 := Lib.hid (And.intro ((hb3.block ga (pblt_of_heap HA.out)).trans HA.out) (H.out.2.2.trans (hb3.mono H.out.2.2.size)))
      clear hb3 c0 c1 c2 c3 c4 c5 c6
      have X0 := H3.out.1
      have c0 : w3.cell? ⟨ga, 0, none⟩ = some (.string r.who) := by rw [cell_of_row _ _ _ _ _ _ X0]; rfl
      have c1 : w3.cell? ⟨ga, 1, none⟩ = some (.string r.word) := by rw [cell_of_row _ _ _ _ _ _ X0]; rfl
      have c2 : w3.cell? ⟨ga, 2, none⟩ = some (.int .i64 r.fr) := by rw [cell_of_row _ _ _ _ _ _ X0]; rfl
      have c3 : w3.cell? ⟨ga, 3, none⟩ = some (.int .i64 r.to) := by rw [cell_of_row _ _ _ _ _ _ X0]; rfl
      have c4 : w3.cell? ⟨ga, 4, none⟩ = some (.int .i64 r.un) := by rw [cell_of_row _ _ _ _ _ _ X0]; rfl
      have c5 : w3.cell? ⟨ga, 5, none⟩ = some (.int .i64 r.mo) := by rw [cell_of_row _ _ _ _ _ _ X0]; rfl
      have c6 : w3.cell? ⟨ga, 6, none⟩ = some (.bool r.allow) := by rw [cell_of_row _ _ _ _ _ _ X0]; rfl
      clear X0
      go_wp2_with fail
      go_ret
      exact ⟨by first | rfl | (rw [hz]; rfl), H3.out.2⟩
    by_cases n5 : r.un ≤ 1099511627776
    rotate_left
    · have hz : Z = false := by rw [hZ]; simp; omega
      clear hZ
      go_enter Try.func47, Try.ntmps47
      go_upto_region 1 with fail
      rw [← hw1, ← hga]
      clear hw1 hga
      have X0 := HA.out
      have c0 : w1.cell? ⟨ga, 0, none⟩ = some (.string r.who) := by rw [cell_of_row _ _ _ _ _ _ X0]; rfl
      have c1 : w1.cell? ⟨ga, 1, none⟩ = some (.string r.word) := by rw [cell_of_row _ _ _ _ _ _ X0]; rfl
      have c2 : w1.cell? ⟨ga, 2, none⟩ = some (.int .i64 r.fr) := by rw [cell_of_row _ _ _ _ _ _ X0]; rfl
      have c3 : w1.cell? ⟨ga, 3, none⟩ = some (.int .i64 r.to) := by rw [cell_of_row _ _ _ _ _ _ X0]; rfl
      have c4 : w1.cell? ⟨ga, 4, none⟩ = some (.int .i64 r.un) := by rw [cell_of_row _ _ _ _ _ _ X0]; rfl
      have c5 : w1.cell? ⟨ga, 5, none⟩ = some (.int .i64 r.mo) := by rw [cell_of_row _ _ _ _ _ _ X0]; rfl
      have c6 : w1.cell? ⟨ga, 6, none⟩ = some (.bool r.allow) := by rw [cell_of_row _ _ _ _ _ _ X0]; rfl
      clear X0
      go_wp2_with fail
      refine (H.out.1 _).mono ?_
      rintro e w2 ⟨rfl, hww⟩
      cases hww
      go_wp2_with fail
      refine (H.out.2.1 _).mono ?_
      rintro e w3 ⟨rfl, hb3⟩
      have H3 := Lib.hid (And.intro ((hb3.block ga (pblt_of_heap HA.out)).trans HA.out) (H.out.2.2.trans (hb3.mono H.out.2.2.size)))
      clear hb3 c0 c1 c2 c3 c4 c5 c6
      have X0 := H3.out.1
      have c0 : w3.cell? ⟨ga, 0, none⟩ = some (.string r.who) := by rw [cell_of_row _ _ _ _ _ _ X0]; rfl
      have c1 : w3.cell? ⟨ga, 1, none⟩ = some (.string r.word) := by rw [cell_of_row _ _ _ _ _ _ X0]; rfl
      have c2 : w3.cell? ⟨ga, 2, none⟩ = some (.int .i64 r.fr) := by rw [cell_of_row _ _ _ _ _ _ X0]; rfl
      have c3 : w3.cell? ⟨ga, 3, none⟩ = some (.int .i64 r.to) := by rw [cell_of_row _ _ _ _ _ _ X0]; rfl
      have c4 : w3.cell? ⟨ga, 4, none⟩ = some (.int .i64 r.un) := by rw [cell_of_row _ _ _ _ _ _ X0]; rfl
      have c5 : w3.cell? ⟨ga, 5, none⟩ = some (.int .i64 r.mo) := by rw [cell_of_row _ _ _ _ _ _ X0]; rfl
      have c6 : w3.cell? ⟨ga, 6, none⟩ = some (.bool r.allow) := by rw [cell_of_row _ _ _ _ _ _ X0]; rfl
      clear X0
      go_wp2_with fail
      go_ret
      exact ⟨by first | rfl | (rw [hz]; rfl), H3.out.2⟩
    by_cases n6 : 0 ≤ r.mo
    rotate_left
    · have hz : Z = false := by rw [hZ]; simp; omega
      clear hZ
      go_enter Try.func47, Try.ntmps47
      go_upto_region 1 with fail
      rw [← hw1, ← hga]
      clear hw1 hga
      have X0 := HA.out
      have c0 : w1.cell? ⟨ga, 0, none⟩ = some (.string r.who) := by rw [cell_of_row _ _ _ _ _ _ X0]; rfl
      have c1 : w1.cell? ⟨ga, 1, none⟩ = some (.string r.word) := by rw [cell_of_row _ _ _ _ _ _ X0]; rfl
      have c2 : w1.cell? ⟨ga, 2, none⟩ = some (.int .i64 r.fr) := by rw [cell_of_row _ _ _ _ _ _ X0]; rfl
      have c3 : w1.cell? ⟨ga, 3, none⟩ = some (.int .i64 r.to) := by rw [cell_of_row _ _ _ _ _ _ X0]; rfl
      have c4 : w1.cell? ⟨ga, 4, none⟩ = some (.int .i64 r.un) := by rw [cell_of_row _ _ _ _ _ _ X0]; rfl
      have c5 : w1.cell? ⟨ga, 5, none⟩ = some (.int .i64 r.mo) := by rw [cell_of_row _ _ _ _ _ _ X0]; rfl
      have c6 : w1.cell? ⟨ga, 6, none⟩ = some (.bool r.allow) := by rw [cell_of_row _ _ _ _ _ _ X0]; rfl
      clear X0
      go_wp2_with fail
      refine (H.out.1 _).mono ?_
      rintro e w2 ⟨rfl, hww⟩
      cases hww
      go_wp2_with fail
      refine (H.out.2.1 _).mono ?_
      rintro e w3 ⟨rfl, hb3⟩
      have H3 := Lib.hid (And.intro ((hb3.block ga (pblt_of_heap HA.out)).trans HA.out) (H.out.2.2.trans (hb3.mono H.out.2.2.size)))
      clear hb3 c0 c1 c2 c3 c4 c5 c6
      have X0 := H3.out.1
      have c0 : w3.cell? ⟨ga, 0, none⟩ = some (.string r.who) := by rw [cell_of_row _ _ _ _ _ _ X0]; rfl
      have c1 : w3.cell? ⟨ga, 1, none⟩ = some (.string r.word) := by rw [cell_of_row _ _ _ _ _ _ X0]; rfl
      have c2 : w3.cell? ⟨ga, 2, none⟩ = some (.int .i64 r.fr) := by rw [cell_of_row _ _ _ _ _ _ X0]; rfl
      have c3 : w3.cell? ⟨ga, 3, none⟩ = some (.int .i64 r.to) := by rw [cell_of_row _ _ _ _ _ _ X0]; rfl
      have c4 : w3.cell? ⟨ga, 4, none⟩ = some (.int .i64 r.un) := by rw [cell_of_row _ _ _ _ _ _ X0]; rfl
      have c5 : w3.cell? ⟨ga, 5, none⟩ = some (.int .i64 r.mo) := by rw [cell_of_row _ _ _ _ _ _ X0]; rfl
      have c6 : w3.cell? ⟨ga, 6, none⟩ = some (.bool r.allow) := by rw [cell_of_row _ _ _ _ _ _ X0]; rfl
      clear X0
      go_wp2_with fail
      go_ret
      exact ⟨by first | rfl | (rw [hz]; rfl), H3.out.2⟩
    by_cases n7 : r.mo ≤ 50
    rotate_left
    · have hz : Z = false := by rw [hZ]; simp; omega
      clear hZ
      go_enter Try.func47, Try.ntmps47
      go_upto_region 1 with fail
      rw [← hw1, ← hga]
      clear hw1 hga
      have X0 := HA.out
      have c0 : w1.cell? ⟨ga, 0, none⟩ = some (.string r.who) := by rw [cell_of_row _ _ _ _ _ _ X0]; rfl
      have c1 : w1.cell? ⟨ga, 1, none⟩ = some (.string r.word) := by rw [cell_of_row _ _ _ _ _ _ X0]; rfl
      have c2 : w1.cell? ⟨ga, 2, none⟩ = some (.int .i64 r.fr) := by rw [cell_of_row _ _ _ _ _ _ X0]; rfl
      have c3 : w1.cell? ⟨ga, 3, none⟩ = some (.int .i64 r.to) := by rw [cell_of_row _ _ _ _ _ _ X0]; rfl
      have c4 : w1.cell? ⟨ga, 4, none⟩ = some (.int .i64 r.un) := by rw [cell_of_row _ _ _ _ _ _ X0]; rfl
      have c5 : w1.cell? ⟨ga, 5, none⟩ = some (.int .i64 r.mo) := by rw [cell_of_row _ _ _ _ _ _ X0]; rfl
      have c6 : w1.cell? ⟨ga, 6, none⟩ = some (.bool r.allow) := by rw [cell_of_row _ _ _ _ _ _ X0]; rfl
      clear X0
      go_wp2_with fail
      refine (H.out.1 _).mono ?_
      rintro e w2 ⟨rfl, hww⟩
      cases hww
      go_wp2_with fail
      refine (H.out.2.1 _).mono ?_
      rintro e w3 ⟨rfl, hb3⟩
      have H3 := Lib.hid (And.intro ((hb3.block ga (pblt_of_heap HA.out)).trans HA.out) (H.out.2.2.trans (hb3.mono H.out.2.2.size)))
      clear hb3 c0 c1 c2 c3 c4 c5 c6
      have X0 := H3.out.1
      have c0 : w3.cell? ⟨ga, 0, none⟩ = some (.string r.who) := by rw [cell_of_row _ _ _ _ _ _ X0]; rfl
      have c1 : w3.cell? ⟨ga, 1, none⟩ = some (.string r.word) := by rw [cell_of_row _ _ _ _ _ _ X0]; rfl
      have c2 : w3.cell? ⟨ga, 2, none⟩ = some (.int .i64 r.fr) := by rw [cell_of_row _ _ _ _ _ _ X0]; rfl
      have c3 : w3.cell? ⟨ga, 3, none⟩ = some (.int .i64 r.to) := by rw [cell_of_row _ _ _ _ _ _ X0]; rfl
      have c4 : w3.cell? ⟨ga, 4, none⟩ = some (.int .i64 r.un) := by rw [cell_of_row _ _ _ _ _ _ X0]; rfl
      have c5 : w3.cell? ⟨ga, 5, none⟩ = some (.int .i64 r.mo) := by rw [cell_of_row _ _ _ _ _ _ X0]; rfl
      have c6 : w3.cell? ⟨ga, 6, none⟩ = some (.bool r.allow) := by rw [cell_of_row _ _ _ _ _ _ X0]; rfl
      clear X0
      go_wp2_with fail
      go_ret
      exact ⟨by first | rfl | (rw [hz]; rfl) | (show Ending.returned (Value.bool (decide (r.mo ≤ 50))) = _; rw [decide_eq_false (by omega), hz]) | (rw [hz]; show Ending.returned (Value.bool (decide (r.mo ≤ 50))) = _; rw [decide_eq_false (by omega)]), H3.out.2⟩
    have hz : Z = true := by rw [hZ]; simp; omega
    clear hZ
    go_enter Try.func47, Try.ntmps47
    go_upto_region 1 with fail
    rw [← hw1, ← hga]
    clear hw1 hga
    have X0 := HA.out
    have c0 : w1.cell? ⟨ga, 0, none⟩ = some (.string r.who) := by rw [cell_of_row _ _ _ _ _ _ X0]; rfl
    have c1 : w1.cell? ⟨ga, 1, none⟩ = some (.string r.word) := by rw [cell_of_row _ _ _ _ _ _ X0]; rfl
    have c2 : w1.cell? ⟨ga, 2, none⟩ = some (.int .i64 r.fr) := by rw [cell_of_row _ _ _ _ _ _ X0]; rfl
    have c3 : w1.cell? ⟨ga, 3, none⟩ = some (.int .i64 r.to) := by rw [cell_of_row _ _ _ _ _ _ X0]; rfl
    have c4 : w1.cell? ⟨ga, 4, none⟩ = some (.int .i64 r.un) := by rw [cell_of_row _ _ _ _ _ _ X0]; rfl
    have c5 : w1.cell? ⟨ga, 5, none⟩ = some (.int .i64 r.mo) := by rw [cell_of_row _ _ _ _ _ _ X0]; rfl
    have c6 : w1.cell? ⟨ga, 6, none⟩ = some (.bool r.allow) := by rw [cell_of_row _ _ _ _ _ _ X0]; rfl
    clear X0
    go_wp2_with fail
    refine (H.out.1 _).mono ?_
    rintro e w2 ⟨rfl, hww⟩
    cases hww
    go_wp2_with fail
    refine (H.out.2.1 _).mono ?_
    rintro e w3 ⟨rfl, hb3⟩
    have H3 := Lib.hid (And.intro ((hb3.block ga (pblt_of_heap HA.out)).trans HA.out) (H.out.2.2.trans (hb3.mono H.out.2.2.size)))
    clear hb3 c0 c1 c2 c3 c4 c5 c6
    have X0 := H3.out.1
    have c0 : w3.cell? ⟨ga, 0, none⟩ = some (.string r.who) := by rw [cell_of_row _ _ _ _ _ _ X0]; rfl
    have c1 : w3.cell? ⟨ga, 1, none⟩ = some (.string r.word) := by rw [cell_of_row _ _ _ _ _ _ X0]; rfl
    have c2 : w3.cell? ⟨ga, 2, none⟩ = some (.int .i64 r.fr) := by rw [cell_of_row _ _ _ _ _ _ X0]; rfl
    have c3 : w3.cell? ⟨ga, 3, none⟩ = some (.int .i64 r.to) := by rw [cell_of_row _ _ _ _ _ _ X0]; rfl
    have c4 : w3.cell? ⟨ga, 4, none⟩ = some (.int .i64 r.un) := by rw [cell_of_row _ _ _ _ _ _ X0]; rfl
    have c5 : w3.cell? ⟨ga, 5, none⟩ = some (.int .i64 r.mo) := by rw [cell_of_row _ _ _ _ _ _ X0]; rfl
    have c6 : w3.cell? ⟨ga, 6, none⟩ = some (.bool r.allow) := by rw [cell_of_row _ _ _ _ _ _ X0]; rfl
    clear X0
    go_wp2_with fail
    go_ret
    exact ⟨by first | rfl | (rw [hz]; rfl) | (show Ending.returned (Value.bool (decide (r.mo ≤ 50))) = _; rw [decide_eq_true (by omega), hz]) | (rw [hz]; show Ending.returned (Value.bool (decide (r.mo ≤ 50))) = _; rw [decide_eq_true (by omega)]), H3.out.2⟩
  have gC : r.word.toList.isEmpty = false := full_list hC
  rw [decide_eq_false hC, Bool.false_or] at hZ
  clear hC
  by_cases hk : k = 0
  rotate_left
  · have gk : (k != 0) = true := by simpa using hk
    rw [decide_eq_false hk] at hZ
    clear hk
    have hz : Z = false := by rw [hZ]; simp
    clear hZ
    go_enter Try.func47, Try.ntmps47
    go_upto_region 1 with fail
    rw [← hw1, ← hga]
    clear hw1 hga
    have X0 := HA.out
    have c0 : w1.cell? ⟨ga, 0, none⟩ = some (.string r.who) := by rw [cell_of_row _ _ _ _ _ _ X0]; rfl
    have c1 : w1.cell? ⟨ga, 1, none⟩ = some (.string r.word) := by rw [cell_of_row _ _ _ _ _ _ X0]; rfl
    have c2 : w1.cell? ⟨ga, 2, none⟩ = some (.int .i64 r.fr) := by rw [cell_of_row _ _ _ _ _ _ X0]; rfl
    have c3 : w1.cell? ⟨ga, 3, none⟩ = some (.int .i64 r.to) := by rw [cell_of_row _ _ _ _ _ _ X0]; rfl
    have c4 : w1.cell? ⟨ga, 4, none⟩ = some (.int .i64 r.un) := by rw [cell_of_row _ _ _ _ _ _ X0]; rfl
    have c5 : w1.cell? ⟨ga, 5, none⟩ = some (.int .i64 r.mo) := by rw [cell_of_row _ _ _ _ _ _ X0]; rfl
    have c6 : w1.cell? ⟨ga, 6, none⟩ = some (.bool r.allow) := by rw [cell_of_row _ _ _ _ _ _ X0]; rfl
    clear X0
    go_wp2_with fail
    refine (H.out.1 _).mono ?_
    rintro e w2 ⟨rfl, hww⟩
    cases hww
    go_wp2_with fail
    refine (H.out.2.1 _).mono ?_
    rintro e w3 ⟨rfl, hb3⟩
    have H3 := Lib.hid (And.intro ((hb3.block ga (pblt_of_heap HA.out)).trans HA.out) (H.out.2.2.trans (hb3.mono H.out.2.2.size)))
    clear hb3 c0 c1 c2 c3 c4 c5 c6
    have X0 := H3.out.1
    have c0 : w3.cell? ⟨ga, 0, none⟩ = some (.string r.who) := by rw [cell_of_row _ _ _ _ _ _ X0]; rfl
    have c1 : w3.cell? ⟨ga, 1, none⟩ = some (.string r.word) := by rw [cell_of_row _ _ _ _ _ _ X0]; rfl
    have c2 : w3.cell? ⟨ga, 2, none⟩ = some (.int .i64 r.fr) := by rw [cell_of_row _ _ _ _ _ _ X0]; rfl
    have c3 : w3.cell? ⟨ga, 3, none⟩ = some (.int .i64 r.to) := by rw [cell_of_row _ _ _ _ _ _ X0]; rfl
    have c4 : w3.cell? ⟨ga, 4, none⟩ = some (.int .i64 r.un) := by rw [cell_of_row _ _ _ _ _ _ X0]; rfl
    have c5 : w3.cell? ⟨ga, 5, none⟩ = some (.int .i64 r.mo) := by rw [cell_of_row _ _ _ _ _ _ X0]; rfl
    have c6 : w3.cell? ⟨ga, 6, none⟩ = some (.bool r.allow) := by rw [cell_of_row _ _ _ _ _ _ X0]; rfl
    clear X0
    go_wp2_with fail
    go_ret
    exact ⟨by first | rfl | (rw [hz]; rfl), H3.out.2⟩
  have gk : (k != 0) = false := by simpa using hk
  rw [decide_eq_true hk, Bool.true_and] at hZ
  clear hk
  by_cases hx : X = r.word
  rotate_left
  · have gx : (X.toList == r.word.toList) = false := pne_toList hx
    rw [decide_eq_false hx] at hZ
    clear hx
    have hz : Z = false := by rw [hZ]; simp
    clear hZ
    go_enter Try.func47, Try.ntmps47
    go_upto_region 1 with fail
    rw [← hw1, ← hga]
    clear hw1 hga
    have X0 := HA.out
    have c0 : w1.cell? ⟨ga, 0, none⟩ = some (.string r.who) := by rw [cell_of_row _ _ _ _ _ _ X0]; rfl
    have c1 : w1.cell? ⟨ga, 1, none⟩ = some (.string r.word) := by rw [cell_of_row _ _ _ _ _ _ X0]; rfl
    have c2 : w1.cell? ⟨ga, 2, none⟩ = some (.int .i64 r.fr) := by rw [cell_of_row _ _ _ _ _ _ X0]; rfl
    have c3 : w1.cell? ⟨ga, 3, none⟩ = some (.int .i64 r.to) := by rw [cell_of_row _ _ _ _ _ _ X0]; rfl
    have c4 : w1.cell? ⟨ga, 4, none⟩ = some (.int .i64 r.un) := by rw [cell_of_row _ _ _ _ _ _ X0]; rfl
    have c5 : w1.cell? ⟨ga, 5, none⟩ = some (.int .i64 r.mo) := by rw [cell_of_row _ _ _ _ _ _ X0]; rfl
    have c6 : w1.cell? ⟨ga, 6, none⟩ = some (.bool r.allow) := by rw [cell_of_row _ _ _ _ _ _ X0]; rfl
    clear X0
    go_wp2_with fail
    refine (H.out.1 _).mono ?_
    rintro e w2 ⟨rfl, hww⟩
    cases hww
    go_wp2_with fail
    refine (H.out.2.1 _).mono ?_
    rintro e w3 ⟨rfl, hb3⟩
    have H3 := Lib.hid (And.intro ((hb3.block ga (pblt_of_heap HA.out)).trans HA.out) (H.out.2.2.trans (hb3.mono H.out.2.2.size)))
    clear hb3 c0 c1 c2 c3 c4 c5 c6
    have X0 := H3.out.1
    have c0 : w3.cell? ⟨ga, 0, none⟩ = some (.string r.who) := by rw [cell_of_row _ _ _ _ _ _ X0]; rfl
    have c1 : w3.cell? ⟨ga, 1, none⟩ = some (.string r.word) := by rw [cell_of_row _ _ _ _ _ _ X0]; rfl
    have c2 : w3.cell? ⟨ga, 2, none⟩ = some (.int .i64 r.fr) := by rw [cell_of_row _ _ _ _ _ _ X0]; rfl
    have c3 : w3.cell? ⟨ga, 3, none⟩ = some (.int .i64 r.to) := by rw [cell_of_row _ _ _ _ _ _ X0]; rfl
    have c4 : w3.cell? ⟨ga, 4, none⟩ = some (.int .i64 r.un) := by rw [cell_of_row _ _ _ _ _ _ X0]; rfl
    have c5 : w3.cell? ⟨ga, 5, none⟩ = some (.int .i64 r.mo) := by rw [cell_of_row _ _ _ _ _ _ X0]; rfl
    have c6 : w3.cell? ⟨ga, 6, none⟩ = some (.bool r.allow) := by rw [cell_of_row _ _ _ _ _ _ X0]; rfl
    clear X0
    go_wp2_with fail
    go_ret
    exact ⟨by first | rfl | (rw [hz]; rfl), H3.out.2⟩
  have gx : (X.toList == r.word.toList) = true := peq_toList hx
  rw [decide_eq_true hx] at hZ
  clear hx
  by_cases n0 : 0 ≤ r.fr
  rotate_left
  · have hz : Z = false := by rw [hZ]; simp; omega
    clear hZ
    go_enter Try.func47, Try.ntmps47
    go_upto_region 1 with fail
    rw [← hw1, ← hga]
    clear hw1 hga
    have X0 := HA.out
    have c0 : w1.cell? ⟨ga, 0, none⟩ = some (.string r.who) := by rw [cell_of_row _ _ _ _ _ _ X0]; rfl
    have c1 : w1.cell? ⟨ga, 1, none⟩ = some (.string r.word) := by rw [cell_of_row _ _ _ _ _ _ X0]; rfl
    have c2 : w1.cell? ⟨ga, 2, none⟩ = some (.int .i64 r.fr) := by rw [cell_of_row _ _ _ _ _ _ X0]; rfl
    have c3 : w1.cell? ⟨ga, 3, none⟩ = some (.int .i64 r.to) := by rw [cell_of_row _ _ _ _ _ _ X0]; rfl
    have c4 : w1.cell? ⟨ga, 4, none⟩ = some (.int .i64 r.un) := by rw [cell_of_row _ _ _ _ _ _ X0]; rfl
    have c5 : w1.cell? ⟨ga, 5, none⟩ = some (.int .i64 r.mo) := by rw [cell_of_row _ _ _ _ _ _ X0]; rfl
    have c6 : w1.cell? ⟨ga, 6, none⟩ = some (.bool r.allow) := by rw [cell_of_row _ _ _ _ _ _ X0]; rfl
    clear X0
    go_wp2_with fail
    refine (H.out.1 _).mono ?_
    rintro e w2 ⟨rfl, hww⟩
    cases hww
    go_wp2_with fail
    refine (H.out.2.1 _).mono ?_
    rintro e w3 ⟨rfl, hb3⟩
    have H3 := Lib.hid (And.intro ((hb3.block ga (pblt_of_heap HA.out)).trans HA.out) (H.out.2.2.trans (hb3.mono H.out.2.2.size)))
    clear hb3 c0 c1 c2 c3 c4 c5 c6
    have X0 := H3.out.1
    have c0 : w3.cell? ⟨ga, 0, none⟩ = some (.string r.who) := by rw [cell_of_row _ _ _ _ _ _ X0]; rfl
    have c1 : w3.cell? ⟨ga, 1, none⟩ = some (.string r.word) := by rw [cell_of_row _ _ _ _ _ _ X0]; rfl
    have c2 : w3.cell? ⟨ga, 2, none⟩ = some (.int .i64 r.fr) := by rw [cell_of_row _ _ _ _ _ _ X0]; rfl
    have c3 : w3.cell? ⟨ga, 3, none⟩ = some (.int .i64 r.to) := by rw [cell_of_row _ _ _ _ _ _ X0]; rfl
    have c4 : w3.cell? ⟨ga, 4, none⟩ = some (.int .i64 r.un) := by rw [cell_of_row _ _ _ _ _ _ X0]; rfl
    have c5 : w3.cell? ⟨ga, 5, none⟩ = some (.int .i64 r.mo) := by rw [cell_of_row _ _ _ _ _ _ X0]; rfl
    have c6 : w3.cell? ⟨ga, 6, none⟩ = some (.bool r.allow) := by rw [cell_of_row _ _ _ _ _ _ X0]; rfl
    clear X0
    go_wp2_with fail
    go_ret
    exact ⟨by first | rfl | (rw [hz]; rfl), H3.out.2⟩
  by_cases n1 : r.fr ≤ 4096
  rotate_left
  · have hz : Z = false := by rw [hZ]; simp; omega
    clear hZ
    go_enter Try.func47, Try.ntmps47
    go_upto_region 1 with fail
    rw [← hw1, ← hga]
    clear hw1 hga
    have X0 := HA.out
    have c0 : w1.cell? ⟨ga, 0, none⟩ = some (.string r.who) := by rw [cell_of_row _ _ _ _ _ _ X0]; rfl
    have c1 : w1.cell? ⟨ga, 1, none⟩ = some (.string r.word) := by rw [cell_of_row _ _ _ _ _ _ X0]; rfl
    have c2 : w1.cell? ⟨ga, 2, none⟩ = some (.int .i64 r.fr) := by rw [cell_of_row _ _ _ _ _ _ X0]; rfl
    have c3 : w1.cell? ⟨ga, 3, none⟩ = some (.int .i64 r.to) := by rw [cell_of_row _ _ _ _ _ _ X0]; rfl
    have c4 : w1.cell? ⟨ga, 4, none⟩ = some (.int .i64 r.un) := by rw [cell_of_row _ _ _ _ _ _ X0]; rfl
    have c5 : w1.cell? ⟨ga, 5, none⟩ = some (.int .i64 r.mo) := by rw [cell_of_row _ _ _ _ _ _ X0]; rfl
    have c6 : w1.cell? ⟨ga, 6, none⟩ = some (.bool r.allow) := by rw [cell_of_row _ _ _ _ _ _ X0]; rfl
    clear X0
    go_wp2_with fail
    refine (H.out.1 _).mono ?_
    rintro e w2 ⟨rfl, hww⟩
    cases hww
    go_wp2_with fail
    refine (H.out.2.1 _).mono ?_
    rintro e w3 ⟨rfl, hb3⟩
    have H3 := Lib.hid (And.intro ((hb3.block ga (pblt_of_heap HA.out)).trans HA.out) (H.out.2.2.trans (hb3.mono H.out.2.2.size)))
    clear hb3 c0 c1 c2 c3 c4 c5 c6
    have X0 := H3.out.1
    have c0 : w3.cell? ⟨ga, 0, none⟩ = some (.string r.who) := by rw [cell_of_row _ _ _ _ _ _ X0]; rfl
    have c1 : w3.cell? ⟨ga, 1, none⟩ = some (.string r.word) := by rw [cell_of_row _ _ _ _ _ _ X0]; rfl
    have c2 : w3.cell? ⟨ga, 2, none⟩ = some (.int .i64 r.fr) := by rw [cell_of_row _ _ _ _ _ _ X0]; rfl
    have c3 : w3.cell? ⟨ga, 3, none⟩ = some (.int .i64 r.to) := by rw [cell_of_row _ _ _ _ _ _ X0]; rfl
    have c4 : w3.cell? ⟨ga, 4, none⟩ = some (.int .i64 r.un) := by rw [cell_of_row _ _ _ _ _ _ X0]; rfl
    have c5 : w3.cell? ⟨ga, 5, none⟩ = some (.int .i64 r.mo) := by rw [cell_of_row _ _ _ _ _ _ X0]; rfl
    have c6 : w3.cell? ⟨ga, 6, none⟩ = some (.bool r.allow) := by rw [cell_of_row _ _ _ _ _ _ X0]; rfl
    clear X0
    go_wp2_with fail
    go_ret
    exact ⟨by first | rfl | (rw [hz]; rfl), H3.out.2⟩
  by_cases n2 : 0 ≤ r.to
  rotate_left
  · have hz : Z = false := by rw [hZ]; simp; omega
    clear hZ
    go_enter Try.func47, Try.ntmps47
    go_upto_region 1 with fail
    rw [← hw1, ← hga]
    clear hw1 hga
    have X0 := HA.out
    have c0 : w1.cell? ⟨ga, 0, none⟩ = some (.string r.who) := by rw [cell_of_row _ _ _ _ _ _ X0]; rfl
    have c1 : w1.cell? ⟨ga, 1, none⟩ = some (.string r.word) := by rw [cell_of_row _ _ _ _ _ _ X0]; rfl
    have c2 : w1.cell? ⟨ga, 2, none⟩ = some (.int .i64 r.fr) := by rw [cell_of_row _ _ _ _ _ _ X0]; rfl
    have c3 : w1.cell? ⟨ga, 3, none⟩ = some (.int .i64 r.to) := by rw [cell_of_row _ _ _ _ _ _ X0]; rfl
    have c4 : w1.cell? ⟨ga, 4, none⟩ = some (.int .i64 r.un) := by rw [cell_of_row _ _ _ _ _ _ X0]; rfl
    have c5 : w1.cell? ⟨ga, 5, none⟩ = some (.int .i64 r.mo) := by rw [cell_of_row _ _ _ _ _ _ X0]; rfl
    have c6 : w1.cell? ⟨ga, 6, none⟩ = some (.bool r.allow) := by rw [cell_of_row _ _ _ _ _ _ X0]; rfl
    clear X0
    go_wp2_with fail
    refine (H.out.1 _).mono ?_
    rintro e w2 ⟨rfl, hww⟩
    cases hww
    go_wp2_with fail
    refine (H.out.2.1 _).mono ?_
    rintro e w3 ⟨rfl, hb3⟩
    have H3 := Lib.hid (And.intro ((hb3.block ga (pblt_of_heap HA.out)).trans HA.out) (H.out.2.2.trans (hb3.mono H.out.2.2.size)))
    clear hb3 c0 c1 c2 c3 c4 c5 c6
    have X0 := H3.out.1
    have c0 : w3.cell? ⟨ga, 0, none⟩ = some (.string r.who) := by rw [cell_of_row _ _ _ _ _ _ X0]; rfl
    have c1 : w3.cell? ⟨ga, 1, none⟩ = some (.string r.word) := by rw [cell_of_row _ _ _ _ _ _ X0]; rfl
    have c2 : w3.cell? ⟨ga, 2, none⟩ = some (.int .i64 r.fr) := by rw [cell_of_row _ _ _ _ _ _ X0]; rfl
    have c3 : w3.cell? ⟨ga, 3, none⟩ = some (.int .i64 r.to) := by rw [cell_of_row _ _ _ _ _ _ X0]; rfl
    have c4 : w3.cell? ⟨ga, 4, none⟩ = some (.int .i64 r.un) := by rw [cell_of_row _ _ _ _ _ _ X0]; rfl
    have c5 : w3.cell? ⟨ga, 5, none⟩ = some (.int .i64 r.mo) := by rw [cell_of_row _ _ _ _ _ _ X0]; rfl
    have c6 : w3.cell? ⟨ga, 6, none⟩ = some (.bool r.allow) := by rw [cell_of_row _ _ _ _ _ _ X0]; rfl
    clear X0
    go_wp2_with fail
    go_ret
    exact ⟨by first | rfl | (rw [hz]; rfl), H3.out.2⟩
  by_cases n3 : r.to ≤ 4096
  rotate_left
  · have hz : Z = false := by rw [hZ]; simp; omega
    clear hZ
    go_enter Try.func47, Try.ntmps47
    go_upto_region 1 with fail
    rw [← hw1, ← hga]
    clear hw1 hga
    have X0 := HA.out
    have c0 : w1.cell? ⟨ga, 0, none⟩ = some (.string r.who) := by rw [cell_of_row _ _ _ _ _ _ X0]; rfl
    have c1 : w1.cell? ⟨ga, 1, none⟩ = some (.string r.word) := by rw [cell_of_row _ _ _ _ _ _ X0]; rfl
    have c2 : w1.cell? ⟨ga, 2, none⟩ = some (.int .i64 r.fr) := by rw [cell_of_row _ _ _ _ _ _ X0]; rfl
    have c3 : w1.cell? ⟨ga, 3, none⟩ = some (.int .i64 r.to) := by rw [cell_of_row _ _ _ _ _ _ X0]; rfl
    have c4 : w1.cell? ⟨ga, 4, none⟩ = some (.int .i64 r.un) := by rw [cell_of_row _ _ _ _ _ _ X0]; rfl
    have c5 : w1.cell? ⟨ga, 5, none⟩ = some (.int .i64 r.mo) := by rw [cell_of_row _ _ _ _ _ _ X0]; rfl
    have c6 : w1.cell? ⟨ga, 6, none⟩ = some (.bool r.allow) := by rw [cell_of_row _ _ _ _ _ _ X0]; rfl
    clear X0
    go_wp2_with fail
    refine (H.out.1 _).mono ?_
    rintro e w2 ⟨rfl, hww⟩
    cases hww
    go_wp2_with fail
    refine (H.out.2.1 _).mono ?_
    rintro e w3 ⟨rfl, hb3⟩
    have H3 := Lib.hid (And.intro ((hb3.block ga (pblt_of_heap HA.out)).trans HA.out) (H.out.2.2.trans (hb3.mono H.out.2.2.size)))
    clear hb3 c0 c1 c2 c3 c4 c5 c6
    have X0 := H3.out.1
    have c0 : w3.cell? ⟨ga, 0, none⟩ = some (.string r.who) := by rw [cell_of_row _ _ _ _ _ _ X0]; rfl
    have c1 : w3.cell? ⟨ga, 1, none⟩ = some (.string r.word) := by rw [cell_of_row _ _ _ _ _ _ X0]; rfl
    have c2 : w3.cell? ⟨ga, 2, none⟩ = some (.int .i64 r.fr) := by rw [cell_of_row _ _ _ _ _ _ X0]; rfl
    have c3 : w3.cell? ⟨ga, 3, none⟩ = some (.int .i64 r.to) := by rw [cell_of_row _ _ _ _ _ _ X0]; rfl
    have c4 : w3.cell? ⟨ga, 4, none⟩ = some (.int .i64 r.un) := by rw [cell_of_row _ _ _ _ _ _ X0]; rfl
    have c5 : w3.cell? ⟨ga, 5, none⟩ = some (.int .i64 r.mo) := by rw [cell_of_row _ _ _ _ _ _ X0]; rfl
    have c6 : w3.cell? ⟨ga, 6, none⟩ = some (.bool r.allow) := by rw [cell_of_row _ _ _ _ _ _ X0]; rfl
    clear X0
    go_wp2_with fail
    go_ret
    exact ⟨by first | rfl | (rw [hz]; rfl), H3.out.2⟩
  by_cases n4 : 0 ≤ r.un
  rotate_left
  · have hz : Z = false := by rw [hZ]; simp; omega
    clear hZ
    go_enter Try.func47, Try.ntmps47
    go_upto_region 1 with fail
    rw [← hw1, ← hga]
    clear hw1 hga
    have X0 := HA.out
    have c0 : w1.cell? ⟨ga, 0, none⟩ = some (.string r.who) := by rw [cell_of_row _ _ _ _ _ _ X0]; rfl
    have c1 : w1.cell? ⟨ga, 1, none⟩ = some (.string r.word) := by rw [cell_of_row _ _ _ _ _ _ X0]; rfl
    have c2 : w1.cell? ⟨ga, 2, none⟩ = some (.int .i64 r.fr) := by rw [cell_of_row _ _ _ _ _ _ X0]; rfl
    have c3 : w1.cell? ⟨ga, 3, none⟩ = some (.int .i64 r.to) := by rw [cell_of_row _ _ _ _ _ _ X0]; rfl
    have c4 : w1.cell? ⟨ga, 4, none⟩ = some (.int .i64 r.un) := by rw [cell_of_row _ _ _ _ _ _ X0]; rfl
    have c5 : w1.cell? ⟨ga, 5, none⟩ = some (.int .i64 r.mo) := by rw [cell_of_row _ _ _ _ _ _ X0]; rfl
    have c6 : w1.cell? ⟨ga, 6, none⟩ = some (.bool r.allow) := by rw [cell_of_row _ _ _ _ _ _ X0]; rfl
    clear X0
    go_wp2_with fail
    refine (H.out.1 _).mono ?_
    rintro e w2 ⟨rfl, hww⟩
    cases hww
    go_wp2_with fail
    refine (H.out.2.1 _).mono ?_
    rintro e w3 ⟨rfl, hb3⟩
    have H3 := Lib.hid (And.intro ((hb3.block ga (pblt_of_heap HA.out)).trans HA.out) (H.out.2.2.trans (hb3.mono H.out.2.2.size)))
    clear hb3 c0 c1 c2 c3 c4 c5 c6
    have X0 := H3.out.1
    have c0 : w3.cell? ⟨ga, 0, none⟩ = some (.string r.who) := by rw [cell_of_row _ _ _ _ _ _ X0]; rfl
    have c1 : w3.cell? ⟨ga, 1, none⟩ = some (.string r.word) := by rw [cell_of_row _ _ _ _ _ _ X0]; rfl
    have c2 : w3.cell? ⟨ga, 2, none⟩ = some (.int .i64 r.fr) := by rw [cell_of_row _ _ _ _ _ _ X0]; rfl
    have c3 : w3.cell? ⟨ga, 3, none⟩ = some (.int .i64 r.to) := by rw [cell_of_row _ _ _ _ _ _ X0]; rfl
    have c4 : w3.cell? ⟨ga, 4, none⟩ = some (.int .i64 r.un) := by rw [cell_of_row _ _ _ _ _ _ X0]; rfl
    have c5 : w3.cell? ⟨ga, 5, none⟩ = some (.int .i64 r.mo) := by rw [cell_of_row _ _ _ _ _ _ X0]; rfl
    have c6 : w3.cell? ⟨ga, 6, none⟩ = some (.bool r.allow) := by rw [cell_of_row _ _ _ _ _ _ X0]; rfl
    clear X0
    go_wp2_with fail
    go_ret
    exact ⟨by first | rfl | (rw [hz]; rfl), H3.out.2⟩
  by_cases n5 : r.un ≤ 1099511627776
  rotate_left
  · have hz : Z = false := by rw [hZ]; simp; omega
    clear hZ
    go_enter Try.func47, Try.ntmps47
    go_upto_region 1 with fail
    rw [← hw1, ← hga]
    clear hw1 hga
    have X0 := HA.out
    have c0 : w1.cell? ⟨ga, 0, none⟩ = some (.string r.who) := by rw [cell_of_row _ _ _ _ _ _ X0]; rfl
    have c1 : w1.cell? ⟨ga, 1, none⟩ = some (.string r.word) := by rw [cell_of_row _ _ _ _ _ _ X0]; rfl
    have c2 : w1.cell? ⟨ga, 2, none⟩ = some (.int .i64 r.fr) := by rw [cell_of_row _ _ _ _ _ _ X0]; rfl
    have c3 : w1.cell? ⟨ga, 3, none⟩ = some (.int .i64 r.to) := by rw [cell_of_row _ _ _ _ _ _ X0]; rfl
    have c4 : w1.cell? ⟨ga, 4, none⟩ = some (.int .i64 r.un) := by rw [cell_of_row _ _ _ _ _ _ X0]; rfl
    have c5 : w1.cell? ⟨ga, 5, none⟩ = some (.int .i64 r.mo) := by rw [cell_of_row _ _ _ _ _ _ X0]; rfl
    have c6 : w1.cell? ⟨ga, 6, none⟩ = some (.bool r.allow) := by rw [cell_of_row _ _ _ _ _ _ X0]; rfl
    clear X0
    go_wp2_with fail
    refine (H.out.1 _).mono ?_
    rintro e w2 ⟨rfl, hww⟩
    cases hww
    go_wp2_with fail
    refine (H.out.2.1 _).mono ?_
    rintro e w3 ⟨rfl, hb3⟩
    have H3 := Lib.hid (And.intro ((hb3.block ga (pblt_of_heap HA.out)).trans HA.out) (H.out.2.2.trans (hb3.mono H.out.2.2.size)))
    clear hb3 c0 c1 c2 c3 c4 c5 c6
    have X0 := H3.out.1
    have c0 : w3.cell? ⟨ga, 0, none⟩ = some (.string r.who) := by rw [cell_of_row _ _ _ _ _ _ X0]; rfl
    have c1 : w3.cell? ⟨ga, 1, none⟩ = some (.string r.word) := by rw [cell_of_row _ _ _ _ _ _ X0]; rfl
    have c2 : w3.cell? ⟨ga, 2, none⟩ = some (.int .i64 r.fr) := by rw [cell_of_row _ _ _ _ _ _ X0]; rfl
    have c3 : w3.cell? ⟨ga, 3, none⟩ = some (.int .i64 r.to) := by rw [cell_of_row _ _ _ _ _ _ X0]; rfl
    have c4 : w3.cell? ⟨ga, 4, none⟩ = some (.int .i64 r.un) := by rw [cell_of_row _ _ _ _ _ _ X0]; rfl
    have c5 : w3.cell? ⟨ga, 5, none⟩ = some (.int .i64 r.mo) := by rw [cell_of_row _ _ _ _ _ _ X0]; rfl
    have c6 : w3.cell? ⟨ga, 6, none⟩ = some (.bool r.allow) := by rw [cell_of_row _ _ _ _ _ _ X0]; rfl
    clear X0
    go_wp2_with fail
    go_ret
    exact ⟨by first | rfl | (rw [hz]; rfl), H3.out.2⟩
  by_cases n6 : 0 ≤ r.mo
  rotate_left
  · have hz : Z = false := by rw [hZ]; simp; omega
    clear hZ
    go_enter Try.func47, Try.ntmps47
    go_upto_region 1 with fail
    rw [← hw1, ← hga]
    clear hw1 hga
    have X0 := HA.out
    have c0 : w1.cell? ⟨ga, 0, none⟩ = some (.string r.who) := by rw [cell_of_row _ _ _ _ _ _ X0]; rfl
    have c1 : w1.cell? ⟨ga, 1, none⟩ = some (.string r.word) := by rw [cell_of_row _ _ _ _ _ _ X0]; rfl
    have c2 : w1.cell? ⟨ga, 2, none⟩ = some (.int .i64 r.fr) := by rw [cell_of_row _ _ _ _ _ _ X0]; rfl
    have c3 : w1.cell? ⟨ga, 3, none⟩ = some (.int .i64 r.to) := by rw [cell_of_row _ _ _ _ _ _ X0]; rfl
    have c4 : w1.cell? ⟨ga, 4, none⟩ = some (.int .i64 r.un) := by rw [cell_of_row _ _ _ _ _ _ X0]; rfl
    have c5 : w1.cell? ⟨ga, 5, none⟩ = some (.int .i64 r.mo) := by rw [cell_of_row _ _ _ _ _ _ X0]; rfl
    have c6 : w1.cell? ⟨ga, 6, none⟩ = some (.bool r.allow) := by rw [cell_of_row _ _ _ _ _ _ X0]; rfl
    clear X0
    go_wp2_with fail
    refine (H.out.1 _).mono ?_
    rintro e w2 ⟨rfl, hww⟩
    cases hww
    go_wp2_with fail
    refine (H.out.2.1 _).mono ?_
    rintro e w3 ⟨rfl, hb3⟩
    have H3 := Lib.hid (And.intro ((hb3.block ga (pblt_of_heap HA.out)).trans HA.out) (H.out.2.2.trans (hb3.mono H.out.2.2.size)))
    clear hb3 c0 c1 c2 c3 c4 c5 c6
    have X0 := H3.out.1
    have c0 : w3.cell? ⟨ga, 0, none⟩ = some (.string r.who) := by rw [cell_of_row _ _ _ _ _ _ X0]; rfl
    have c1 : w3.cell? ⟨ga, 1, none⟩ = some (.string r.word) := by rw [cell_of_row _ _ _ _ _ _ X0]; rfl
    have c2 : w3.cell? ⟨ga, 2, none⟩ = some (.int .i64 r.fr) := by rw [cell_of_row _ _ _ _ _ _ X0]; rfl
    have c3 : w3.cell? ⟨ga, 3, none⟩ = some (.int .i64 r.to) := by rw [cell_of_row _ _ _ _ _ _ X0]; rfl
    have c4 : w3.cell? ⟨ga, 4, none⟩ = some (.int .i64 r.un) := by rw [cell_of_row _ _ _ _ _ _ X0]; rfl
    have c5 : w3.cell? ⟨ga, 5, none⟩ = some (.int .i64 r.mo) := by rw [cell_of_row _ _ _ _ _ _ X0]; rfl
    have c6 : w3.cell? ⟨ga, 6, none⟩ = some (.bool r.allow) := by rw [cell_of_row _ _ _ _ _ _ X0]; rfl
    clear X0
    go_wp2_with fail
    go_ret
    exact ⟨by first | rfl | (rw [hz]; rfl), H3.out.2⟩
  by_cases n7 : r.mo ≤ 50
  rotate_left
  · have hz : Z = false := by rw [hZ]; simp; omega
    clear hZ
    go_enter Try.func47, Try.ntmps47
    go_upto_region 1 with fail
    rw [← hw1, ← hga]
    clear hw1 hga
    have X0 := HA.out
    have c0 : w1.cell? ⟨ga, 0, none⟩ = some (.string r.who) := by rw [cell_of_row _ _ _ _ _ _ X0]; rfl
    have c1 : w1.cell? ⟨ga, 1, none⟩ = some (.string r.word) := by rw [cell_of_row _ _ _ _ _ _ X0]; rfl
    have c2 : w1.cell? ⟨ga, 2, none⟩ = some (.int .i64 r.fr) := by rw [cell_of_row _ _ _ _ _ _ X0]; rfl
    have c3 : w1.cell? ⟨ga, 3, none⟩ = some (.int .i64 r.to) := by rw [cell_of_row _ _ _ _ _ _ X0]; rfl
    have c4 : w1.cell? ⟨ga, 4, none⟩ = some (.int .i64 r.un) := by rw [cell_of_row _ _ _ _ _ _ X0]; rfl
    have c5 : w1.cell? ⟨ga, 5, none⟩ = some (.int .i64 r.mo) := by rw [cell_of_row _ _ _ _ _ _ X0]; rfl
    have c6 : w1.cell? ⟨ga, 6, none⟩ = some (.bool r.allow) := by rw [cell_of_row _ _ _ _ _ _ X0]; rfl
    clear X0
    go_wp2_with fail
    refine (H.out.1 _).mono ?_
    rintro e w2 ⟨rfl, hww⟩
    cases hww
    go_wp2_with fail
    refine (H.out.2.1 _).mono ?_
    rintro e w3 ⟨rfl, hb3⟩
    have H3 := Lib.hid (And.intro ((hb3.block ga (pblt_of_heap HA.out)).trans HA.out) (H.out.2.2.trans (hb3.mono H.out.2.2.size)))
    clear hb3 c0 c1 c2 c3 c4 c5 c6
    have X0 := H3.out.1
    have c0 : w3.cell? ⟨ga, 0, none⟩ = some (.string r.who) := by rw [cell_of_row _ _ _ _ _ _ X0]; rfl
    have c1 : w3.cell? ⟨ga, 1, none⟩ = some (.string r.word) := by rw [cell_of_row _ _ _ _ _ _ X0]; rfl
    have c2 : w3.cell? ⟨ga, 2, none⟩ = some (.int .i64 r.fr) := by rw [cell_of_row _ _ _ _ _ _ X0]; rfl
    have c3 : w3.cell? ⟨ga, 3, none⟩ = some (.int .i64 r.to) := by rw [cell_of_row _ _ _ _ _ _ X0]; rfl
    have c4 : w3.cell? ⟨ga, 4, none⟩ = some (.int .i64 r.un) := by rw [cell_of_row _ _ _ _ _ _ X0]; rfl
    have c5 : w3.cell? ⟨ga, 5, none⟩ = some (.int .i64 r.mo) := by rw [cell_of_row _ _ _ _ _ _ X0]; rfl
    have c6 : w3.cell? ⟨ga, 6, none⟩ = some (.bool r.allow) := by rw [cell_of_row _ _ _ _ _ _ X0]; rfl
    clear X0
    go_wp2_with fail
    go_ret
    exact ⟨by first | rfl | (rw [hz]; rfl) | (show Ending.returned (Value.bool (decide (r.mo ≤ 50))) = _; rw [decide_eq_false (by omega), hz]) | (rw [hz]; show Ending.returned (Value.bool (decide (r.mo ≤ 50))) = _; rw [decide_eq_false (by omega)]), H3.out.2⟩
  have hz : Z = true := by rw [hZ]; simp; omega
  clear hZ
  go_enter Try.func47, Try.ntmps47
  go_upto_region 1 with fail
  rw [← hw1, ← hga]
  clear hw1 hga
  have X0 := HA.out
  have c0 : w1.cell? ⟨ga, 0, none⟩ = some (.string r.who) := by rw [cell_of_row _ _ _ _ _ _ X0]; rfl
  have c1 : w1.cell? ⟨ga, 1, none⟩ = some (.string r.word) := by rw [cell_of_row _ _ _ _ _ _ X0]; rfl
  have c2 : w1.cell? ⟨ga, 2, none⟩ = some (.int .i64 r.fr) := by rw [cell_of_row _ _ _ _ _ _ X0]; rfl
  have c3 : w1.cell? ⟨ga, 3, none⟩ = some (.int .i64 r.to) := by rw [cell_of_row _ _ _ _ _ _ X0]; rfl
  have c4 : w1.cell? ⟨ga, 4, none⟩ = some (.int .i64 r.un) := by rw [cell_of_row _ _ _ _ _ _ X0]; rfl
  have c5 : w1.cell? ⟨ga, 5, none⟩ = some (.int .i64 r.mo) := by rw [cell_of_row _ _ _ _ _ _ X0]; rfl
  have c6 : w1.cell? ⟨ga, 6, none⟩ = some (.bool r.allow) := by rw [cell_of_row _ _ _ _ _ _ X0]; rfl
  clear X0
  go_wp2_with fail
  refine (H.out.1 _).mono ?_
  rintro e w2 ⟨rfl, hww⟩
  cases hww
  go_wp2_with fail
  refine (H.out.2.1 _).mono ?_
  rintro e w3 ⟨rfl, hb3⟩
  have H3 := Lib.hid (And.intro ((hb3.block ga (pblt_of_heap HA.out)).trans HA.out) (H.out.2.2.trans (hb3.mono H.out.2.2.size)))
  clear hb3 c0 c1 c2 c3 c4 c5 c6
  have X0 := H3.out.1
  have c0 : w3.cell? ⟨ga, 0, none⟩ = some (.string r.who) := by rw [cell_of_row _ _ _ _ _ _ X0]; rfl
  have c1 : w3.cell? ⟨ga, 1, none⟩ = some (.string r.word) := by rw [cell_of_row _ _ _ _ _ _ X0]; rfl
  have c2 : w3.cell? ⟨ga, 2, none⟩ = some (.int .i64 r.fr) := by rw [cell_of_row _ _ _ _ _ _ X0]; rfl
  have c3 : w3.cell? ⟨ga, 3, none⟩ = some (.int .i64 r.to) := by rw [cell_of_row _ _ _ _ _ _ X0]; rfl
  have c4 : w3.cell? ⟨ga, 4, none⟩ = some (.int .i64 r.un) := by rw [cell_of_row _ _ _ _ _ _ X0]; rfl
  have c5 : w3.cell? ⟨ga, 5, none⟩ = some (.int .i64 r.mo) := by rw [cell_of_row _ _ _ _ _ _ X0]; rfl
  have c6 : w3.cell? ⟨ga, 6, none⟩ = some (.bool r.allow) := by rw [cell_of_row _ _ _ _ _ _ X0]; rfl
  clear X0
  go_wp2_with fail
  go_ret
  exact ⟨by first | rfl | (rw [hz]; rfl) | (show Ending.returned (Value.bool (decide (r.mo ≤ 50))) = _; rw [decide_eq_true (by omega), hz]) | (rw [hz]; show Ending.returned (Value.bool (decide (r.mo ≤ 50))) = _; rw [decide_eq_true (by omega)]), H3.out.2⟩
set_option maxRecDepth 100000 in
set_option maxHeartbeats 1000000 in
theorem rcheck_any20 (l : List Py.R) (a0 : Option Addr) (cap : Nat) (hm : l.length ≤ 1000000) (hsz : ∀ r ∈ l, RSz r) (w : World) (hT : RecsAt 7 ruCs w a0 l) :
    Calls Try.prog 20 #[.slice a0 l.length cap] w fun e w' => e = .returned (.bool (Py.checkB l)) ∧ Below w.heap.size w w' := by
  obtain ⟨n, hn⟩ : ∃ n, n = l.length := ⟨_, rfl⟩
  obtain ⟨Z, hZ⟩ : ∃ Z, Z = Py.checkB l := ⟨_, rfl⟩
  rw [← hZ]
  unfold Py.checkB at hZ
  rw [← hn] at hZ
  have H := Lib.hid (And.intro hT (And.intro hn (And.intro hZ hsz)))
  rw [← hn] at hm ⊢
  clear hT hZ hsz hn
  go_enter Try.func20, Try.ntmps20
  go_wp2_with fail
  go_loopw [3] (fun c wr => ∃ i : Nat, i ≤ n ∧ c = .int .i64 (i : Int) ∧ (∀ j, j < i → ∀ r, l[j]? = some r → Py.ruleB r = true) ∧ Below w.heap.size w wr) (fun c _ => n - (intOf c).toNat)
  case atStart => exact ⟨0, by omega, rfl, fun j hj => absurd hj (by omega), Below.refl _ _⟩
  case round =>
    obtain ⟨i, hi, rfl, hgood, hb⟩ := hrel
    by_cases hlt : i < n
    · obtain ⟨r, hr⟩ : ∃ r, l[i]? = some r := ⟨_, List.getElem?_eq_getElem (by have := H.out.2.1; omega)⟩
      obtain ⟨bb, off, rfl, hbl, hc⟩ := H.out.1.below hb i r hr
      have hrs := H.out.2.2.2 r (List.mem_of_getElem? hr)
      have hcall := fun W => rrule_any r hrs W
      unfold ruVal at hcall
      have hgood' : Py.ruleB r = true → ∀ j, j < i + 1 → ∀ r, l[j]? = some r → Py.ruleB r = true := fun hf j hj y hy => by
        by_cases e : j = i
        · subst e; rw [hr] at hy; injection hy with hy; subst hy; exact hf
        · exact hgood j (by omega) y hy
      have hbad : Py.ruleB r = false → Z = false := fun hf => by
        rw [H.out.2.2.1, List.all_eq_false.2 ⟨r, List.mem_of_getElem? hr, by rw [hf]; decide⟩, Bool.and_false]
      have HG := Lib.hid (And.intro hcall (And.intro hgood' (And.intro hbad hb)))
      clear hcall hgood hgood' hbad hb hr hrs
      have q0 : wr.cell? ⟨bb, off + i * 7, none⟩ = some (.string r.who) := hc 0 (by omega)
      have q1 : wr.cell? ⟨bb, off + i * 7 + 1, none⟩ = some (.string r.word) := hc 1 (by omega)
      have q2 : wr.cell? ⟨bb, off + i * 7 + 2, none⟩ = some (.int .i64 r.fr) := hc 2 (by omega)
      have q3 : wr.cell? ⟨bb, off + i * 7 + 3, none⟩ = some (.int .i64 r.to) := hc 3 (by omega)
      have q4 : wr.cell? ⟨bb, off + i * 7 + 4, none⟩ = some (.int .i64 r.un) := hc 4 (by omega)
      have q5 : wr.cell? ⟨bb, off + i * 7 + 5, none⟩ = some (.int .i64 r.mo) := hc 5 (by omega)
      have q6 : wr.cell? ⟨bb, off + i * 7 + 6, none⟩ = some (.bool r.allow) := hc 6 (by omega)
      clear hc
      cases hf : Py.ruleB r with
      | true =>
        rw [hf] at HG
        clear hf
        go_wp2_with fail
        refine (HG.out.1 _).mono ?_
        rintro e w3 ⟨rfl, hb3⟩
        have HB := Lib.hid (HG.out.2.2.2.trans (hb3.mono HG.out.2.2.2.size))
        clear hb3
        go_wp2_with fail
        go_roundw
        case rel => exact ⟨i + 1, by omega, by go_num, HG.out.2.1 (by first | rfl | trivial), HB.out⟩
        case measure => simp [intOf]; omega
      | false =>
        rw [hf] at HG
        clear hf
        go_wp2_with fail
        refine (HG.out.1 _).mono ?_
        rintro e w3 ⟨rfl, hb3⟩
        have HB := Lib.hid (HG.out.2.2.2.trans (hb3.mono HG.out.2.2.2.size))
        clear hb3
        go_wp2_with fail
        go_ret
        exact ⟨by rw [HG.out.2.2.1 (by first | rfl | trivial)]; rfl, HB.out⟩
    · have hend : l.all Py.ruleB = true := by
        rw [List.all_eq_true]
        intro r hr
        obtain ⟨j, hj⟩ := List.mem_iff_getElem?.1 hr
        exact hgood j (by have := (List.getElem?_eq_some_iff.1 hj).1; have := H.out.2.1; omega) r hj
      have hz : Z = decide (n ≤ 20) := by rw [H.out.2.2.1, hend, Bool.and_true]
      have HE := Lib.hid (And.intro hz hb)
      clear hend hb hgood hz
      by_cases h20 : n ≤ 20
      · have g20 : (n : Int) ≤ 20 := by omega
        go_wp2_with fail
        go_ret
        exact ⟨by rw [HE.out.1, decide_eq_true h20]; rfl, HE.out.2⟩
      · have g20 : ¬ ((n : Int) ≤ 20) := by omega
        go_wp2_with fail
        go_ret
        exact ⟨by rw [HE.out.1, decide_eq_false h20]; rfl, HE.out.2⟩
end Go.Proofs.Ytnkkbinbeildmaa
