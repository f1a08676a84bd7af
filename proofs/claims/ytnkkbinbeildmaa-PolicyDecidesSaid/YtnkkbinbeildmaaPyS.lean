/- lockboxref20: Fits. -/
import Derived.Test.YtnkkbinbeildmaaPyR
namespace Go.Proofs.Ytnkkbinbeildmaa
open Go.RowKit
theorem inT_step {l : List ByteArray} {i : Nat} {x : ByteArray} (hx : l[i]? = some x) (s : ByteArray) : inT (l.take (i + 1)) s = (inT (l.take i) s || decide (x = s)) := by
  unfold inT
  rw [List.take_add_one, hx, List.any_append]
  simp
set_option maxRecDepth 100000 in
set_option maxHeartbeats 8000000 in
theorem rfits_any (r : Py.R) (q : Py.Q) (now : Int) (hr : RSz r) (hq : QSz q) (hqr : q.reason.size ≤ 900000) (w : World) : Calls Try.prog 22 #[ruVal r, qVal q, .int .i64 now] w fun e w' => e = .returned (.bool (Py.fitsB r q now)) ∧ Below w.heap.size w w' := by
  obtain ⟨Z, hZ⟩ : ∃ Z, Z = Py.fitsB r q now := ⟨_, rfl⟩
  rw [← hZ]
  obtain ⟨w1, hw1⟩ : ∃ w1, w1 = (w.alloc (.cells (ruCs r) 49)).alloc (.cells (qCs q) 36) := ⟨_, rfl⟩
  obtain ⟨ga, hga⟩ : ∃ ga, ga = w.heap.size := ⟨_, rfl⟩
  obtain ⟨gq, hgq⟩ : ∃ gq, gq = w.heap.size + 1 := ⟨_, rfl⟩
  have hb1 : Below w.heap.size w w1 := by rw [hw1]; exact ((Below.refl _ _).alloc (Nat.le_refl _) _).alloc (by simp) _
  have a1 : w1.heap[ga]? = some (.cells (ruCs r) 49 (0, 0)) := by
    rw [hw1, hga]
    exact (heap_alloc_old _ _ (by simp)).trans (heap_alloc_new _ _)
  have a2 : w1.heap[gq]? = some (.cells (qCs q) 36 (0, 0)) := by
    rw [hw1, hgq]
    have := heap_alloc_new (w.alloc (.cells (ruCs r) 49)) (.cells (qCs q) 36)
    simpa using this
  have hmb := fun W => rrule_any r hr W
  have hrq := fun W => rmay_any q hq.1 hq.2 W
  have hof := fun W => rof_any q.reason hqr W
  unfold ruVal at hmb
  unfold qVal at hrq
  have h12 : (Wd.ofW q.reason.data.toList).length ≤ 12 := List.length_take_le _ _
  obtain ⟨T, hT⟩ : ∃ T, T = Wd.ofW q.reason.data.toList := ⟨_, rfl⟩
  have hhas : Py.hasW q r.word = inT T r.word := by rw [hT]; rfl
  rw [← hT] at hof h12
  obtain ⟨tn, htn⟩ : ∃ tn, tn = T.length := ⟨_, rfl⟩
  rw [← htn] at hof h12
  have H := Lib.hid (And.intro hmb (And.intro hrq (And.intro hof (And.intro htn hb1))))
  have HA := Lib.hid (And.intro a1 a2)
  unfold Py.fitsB at hZ
  rw [hhas] at hZ
  clear hmb hrq hof hb1 a1 a2 hr hq hqr hhas hT htn
  obtain ⟨M, hM⟩ : ∃ M, M = Py.ruleB r := ⟨_, rfl⟩
  obtain ⟨N, hN⟩ : ∃ N, N = Py.mayB q := ⟨_, rfl⟩
  rw [← hM] at hZ H
  rw [← hN] at hZ H
  clear hM hN
  unfold ruVal qVal
  unfold ruCs qCs at hw1
  cases M with
  | false =>
    have hz : Z = false := by rw [hZ]; rfl
    clear hZ
    go_enter Try.func22, Try.ntmps22
    go_upto_region 1 with fail
    rw [← hw1, ← hgq, ← hga]
    clear hw1 hga hgq
    have X0 := HA.out.1
    have c0 : w1.cell? ⟨ga, 0, none⟩ = some (.string r.who) := by rw [cell_of_row _ _ _ _ _ _ X0]; rfl
    have c1 : w1.cell? ⟨ga, 1, none⟩ = some (.string r.word) := by rw [cell_of_row _ _ _ _ _ _ X0]; rfl
    have c2 : w1.cell? ⟨ga, 2, none⟩ = some (.int .i64 r.fr) := by rw [cell_of_row _ _ _ _ _ _ X0]; rfl
    have c3 : w1.cell? ⟨ga, 3, none⟩ = some (.int .i64 r.to) := by rw [cell_of_row _ _ _ _ _ _ X0]; rfl
    have c4 : w1.cell? ⟨ga, 4, none⟩ = some (.int .i64 r.un) := by rw [cell_of_row _ _ _ _ _ _ X0]; rfl
    have c5 : w1.cell? ⟨ga, 5, none⟩ = some (.int .i64 r.mo) := by rw [cell_of_row _ _ _ _ _ _ X0]; rfl
    have c6 : w1.cell? ⟨ga, 6, none⟩ = some (.bool r.allow) := by rw [cell_of_row _ _ _ _ _ _ X0]; rfl
    clear X0
    have X0 := HA.out.2
    have d0 : w1.cell? ⟨gq, 0, none⟩ = some (.int .i64 q.id) := by rw [cell_of_row _ _ _ _ _ _ X0]; rfl
    have d1 : w1.cell? ⟨gq, 1, none⟩ = some (.string q.who) := by rw [cell_of_row _ _ _ _ _ _ X0]; rfl
    have d2 : w1.cell? ⟨gq, 2, none⟩ = some (.int .i64 q.entry) := by rw [cell_of_row _ _ _ _ _ _ X0]; rfl
    have d3 : w1.cell? ⟨gq, 3, none⟩ = some (.string q.reason) := by rw [cell_of_row _ _ _ _ _ _ X0]; rfl
    have d4 : w1.cell? ⟨gq, 4, none⟩ = some (.int .i64 q.exp) := by rw [cell_of_row _ _ _ _ _ _ X0]; rfl
    clear X0
    go_wp2_with fail
    refine (H.out.1 _).mono ?_
    rintro e w2 ⟨rfl, hb2⟩
    have H2 := Lib.hid (And.intro ((hb2.block ga (pblt_of_heap HA.out.1)).trans HA.out.1) (And.intro ((hb2.block gq (pblt_of_heap HA.out.2)).trans HA.out.2) (H.out.2.2.2.2.trans (hb2.mono H.out.2.2.2.2.size))))
    clear hb2 c0 c1 c2 c3 c4 c5 c6 d0 d1 d2 d3 d4
    have X0 := H2.out.1
    have c0 : w2.cell? ⟨ga, 0, none⟩ = some (.string r.who) := by rw [cell_of_row _ _ _ _ _ _ X0]; rfl
    have c1 : w2.cell? ⟨ga, 1, none⟩ = some (.string r.word) := by rw [cell_of_row _ _ _ _ _ _ X0]; rfl
    have c2 : w2.cell? ⟨ga, 2, none⟩ = some (.int .i64 r.fr) := by rw [cell_of_row _ _ _ _ _ _ X0]; rfl
    have c3 : w2.cell? ⟨ga, 3, none⟩ = some (.int .i64 r.to) := by rw [cell_of_row _ _ _ _ _ _ X0]; rfl
    have c4 : w2.cell? ⟨ga, 4, none⟩ = some (.int .i64 r.un) := by rw [cell_of_row _ _ _ _ _ _ X0]; rfl
    have c5 : w2.cell? ⟨ga, 5, none⟩ = some (.int .i64 r.mo) := by rw [cell_of_row _ _ _ _ _ _ X0]; rfl
    have c6 : w2.cell? ⟨ga, 6, none⟩ = some (.bool r.allow) := by rw [cell_of_row _ _ _ _ _ _ X0]; rfl
    clear X0
    have X0 := H2.out.2.1
    have d0 : w2.cell? ⟨gq, 0, none⟩ = some (.int .i64 q.id) := by rw [cell_of_row _ _ _ _ _ _ X0]; rfl
    have d1 : w2.cell? ⟨gq, 1, none⟩ = some (.string q.who) := by rw [cell_of_row _ _ _ _ _ _ X0]; rfl
    have d2 : w2.cell? ⟨gq, 2, none⟩ = some (.int .i64 q.entry) := by rw [cell_of_row _ _ _ _ _ _ X0]; rfl
    have d3 : w2.cell? ⟨gq, 3, none⟩ = some (.string q.reason) := by rw [cell_of_row _ _ _ _ _ _ X0]; rfl
    have d4 : w2.cell? ⟨gq, 4, none⟩ = some (.int .i64 q.exp) := by rw [cell_of_row _ _ _ _ _ _ X0]; rfl
    clear X0
    go_wp2_with fail
    go_ret
    exact ⟨by first | rfl | (rw [hz]; rfl), H2.out.2.2⟩
  | true =>
  cases N with
  | false =>
    have hz : Z = false := by rw [hZ]; rfl
    clear hZ
    go_enter Try.func22, Try.ntmps22
    go_upto_region 1 with fail
    rw [← hw1, ← hgq, ← hga]
    clear hw1 hga hgq
    have X0 := HA.out.1
    have c0 : w1.cell? ⟨ga, 0, none⟩ = some (.string r.who) := by rw [cell_of_row _ _ _ _ _ _ X0]; rfl
    have c1 : w1.cell? ⟨ga, 1, none⟩ = some (.string r.word) := by rw [cell_of_row _ _ _ _ _ _ X0]; rfl
    have c2 : w1.cell? ⟨ga, 2, none⟩ = some (.int .i64 r.fr) := by rw [cell_of_row _ _ _ _ _ _ X0]; rfl
    have c3 : w1.cell? ⟨ga, 3, none⟩ = some (.int .i64 r.to) := by rw [cell_of_row _ _ _ _ _ _ X0]; rfl
    have c4 : w1.cell? ⟨ga, 4, none⟩ = some (.int .i64 r.un) := by rw [cell_of_row _ _ _ _ _ _ X0]; rfl
    have c5 : w1.cell? ⟨ga, 5, none⟩ = some (.int .i64 r.mo) := by rw [cell_of_row _ _ _ _ _ _ X0]; rfl
    have c6 : w1.cell? ⟨ga, 6, none⟩ = some (.bool r.allow) := by rw [cell_of_row _ _ _ _ _ _ X0]; rfl
    clear X0
    have X0 := HA.out.2
    have d0 : w1.cell? ⟨gq, 0, none⟩ = some (.int .i64 q.id) := by rw [cell_of_row _ _ _ _ _ _ X0]; rfl
    have d1 : w1.cell? ⟨gq, 1, none⟩ = some (.string q.who) := by rw [cell_of_row _ _ _ _ _ _ X0]; rfl
    have d2 : w1.cell? ⟨gq, 2, none⟩ = some (.int .i64 q.entry) := by rw [cell_of_row _ _ _ _ _ _ X0]; rfl
    have d3 : w1.cell? ⟨gq, 3, none⟩ = some (.string q.reason) := by rw [cell_of_row _ _ _ _ _ _ X0]; rfl
    have d4 : w1.cell? ⟨gq, 4, none⟩ = some (.int .i64 q.exp) := by rw [cell_of_row _ _ _ _ _ _ X0]; rfl
    clear X0
    go_wp2_with fail
    refine (H.out.1 _).mono ?_
    rintro e w2 ⟨rfl, hb2⟩
    have H2 := Lib.hid (And.intro ((hb2.block ga (pblt_of_heap HA.out.1)).trans HA.out.1) (And.intro ((hb2.block gq (pblt_of_heap HA.out.2)).trans HA.out.2) (H.out.2.2.2.2.trans (hb2.mono H.out.2.2.2.2.size))))
    clear hb2 c0 c1 c2 c3 c4 c5 c6 d0 d1 d2 d3 d4
    have X0 := H2.out.1
    have c0 : w2.cell? ⟨ga, 0, none⟩ = some (.string r.who) := by rw [cell_of_row _ _ _ _ _ _ X0]; rfl
    have c1 : w2.cell? ⟨ga, 1, none⟩ = some (.string r.word) := by rw [cell_of_row _ _ _ _ _ _ X0]; rfl
    have c2 : w2.cell? ⟨ga, 2, none⟩ = some (.int .i64 r.fr) := by rw [cell_of_row _ _ _ _ _ _ X0]; rfl
    have c3 : w2.cell? ⟨ga, 3, none⟩ = some (.int .i64 r.to) := by rw [cell_of_row _ _ _ _ _ _ X0]; rfl
    have c4 : w2.cell? ⟨ga, 4, none⟩ = some (.int .i64 r.un) := by rw [cell_of_row _ _ _ _ _ _ X0]; rfl
    have c5 : w2.cell? ⟨ga, 5, none⟩ = some (.int .i64 r.mo) := by rw [cell_of_row _ _ _ _ _ _ X0]; rfl
    have c6 : w2.cell? ⟨ga, 6, none⟩ = some (.bool r.allow) := by rw [cell_of_row _ _ _ _ _ _ X0]; rfl
    clear X0
    have X0 := H2.out.2.1
    have d0 : w2.cell? ⟨gq, 0, none⟩ = some (.int .i64 q.id) := by rw [cell_of_row _ _ _ _ _ _ X0]; rfl
    have d1 : w2.cell? ⟨gq, 1, none⟩ = some (.string q.who) := by rw [cell_of_row _ _ _ _ _ _ X0]; rfl
    have d2 : w2.cell? ⟨gq, 2, none⟩ = some (.int .i64 q.entry) := by rw [cell_of_row _ _ _ _ _ _ X0]; rfl
    have d3 : w2.cell? ⟨gq, 3, none⟩ = some (.string q.reason) := by rw [cell_of_row _ _ _ _ _ _ X0]; rfl
    have d4 : w2.cell? ⟨gq, 4, none⟩ = some (.int .i64 q.exp) := by rw [cell_of_row _ _ _ _ _ _ X0]; rfl
    clear X0
    go_wp2_with fail
    refine (H.out.2.1 _).mono ?_
    rintro e w3 ⟨rfl, hb3⟩
    have H3 := Lib.hid (And.intro ((hb3.block ga (pblt_of_heap H2.out.1)).trans H2.out.1) (And.intro ((hb3.block gq (pblt_of_heap H2.out.2.1)).trans H2.out.2.1) (H2.out.2.2.trans (hb3.mono H2.out.2.2.size))))
    clear hb3 c0 c1 c2 c3 c4 c5 c6 d0 d1 d2 d3 d4
    have X0 := H3.out.1
    have c0 : w3.cell? ⟨ga, 0, none⟩ = some (.string r.who) := by rw [cell_of_row _ _ _ _ _ _ X0]; rfl
    have c1 : w3.cell? ⟨ga, 1, none⟩ = some (.string r.word) := by rw [cell_of_row _ _ _ _ _ _ X0]; rfl
    have c2 : w3.cell? ⟨ga, 2, none⟩ = some (.int .i64 r.fr) := by rw [cell_of_row _ _ _ _ _ _ X0]; rfl
    have c3 : w3.cell? ⟨ga, 3, none⟩ = some (.int .i64 r.to) := by rw [cell_of_row _ _ _ _ _ _ X0]; rfl
    have c4 : w3.cell? ⟨ga, 4, none⟩ = some (.int .i64 r.un) := by rw [cell_of_row _ _ _ _ _ _ X0]; rfl
    have c5 : w3.cell? ⟨ga, 5, none⟩ = some (.int .i64 r.mo) := by rw [cell_of_row _ _ _ _ _ _ X0]; rfl
    have c6 : w3.cell? ⟨ga, 6, none⟩ = some (.bool r.allow) := by rw [cell_of_row _ _ _ _ _ _ X0]; rfl
    clear X0
    have X0 := H3.out.2.1
    have d0 : w3.cell? ⟨gq, 0, none⟩ = some (.int .i64 q.id) := by rw [cell_of_row _ _ _ _ _ _ X0]; rfl
    have d1 : w3.cell? ⟨gq, 1, none⟩ = some (.string q.who) := by rw [cell_of_row _ _ _ _ _ _ X0]; rfl
    have d2 : w3.cell? ⟨gq, 2, none⟩ = some (.int .i64 q.entry) := by rw [cell_of_row _ _ _ _ _ _ X0]; rfl
    have d3 : w3.cell? ⟨gq, 3, none⟩ = some (.string q.reason) := by rw [cell_of_row _ _ _ _ _ _ X0]; rfl
    have d4 : w3.cell? ⟨gq, 4, none⟩ = some (.int .i64 q.exp) := by rw [cell_of_row _ _ _ _ _ _ X0]; rfl
    clear X0
    go_wp2_with fail
    go_ret
    exact ⟨by first | rfl | (rw [hz]; rfl), H3.out.2.2⟩
  | true =>
  rw [Bool.true_and, Bool.true_and] at hZ
  by_cases hA : r.who.size = 0
  · have gA : r.who.toList.isEmpty = true := empty_list hA
    rw [decide_eq_true hA, Bool.true_or, Bool.true_and] at hZ
    clear hA
    by_cases h1 : r.fr ≤ q.entry
    rotate_left
    · have hz : Z = false := by rw [hZ]; simp; omega
      clear hZ
      go_enter Try.func22, Try.ntmps22
      go_upto_region 1 with fail
      rw [← hw1, ← hgq, ← hga]
      clear hw1 hga hgq
      have X0 := HA.out.1
      have c0 : w1.cell? ⟨ga, 0, none⟩ = some (.string r.who) := by rw [cell_of_row _ _ _ _ _ _ X0]; rfl
      have c1 : w1.cell? ⟨ga, 1, none⟩ = some (.string r.word) := by rw [cell_of_row _ _ _ _ _ _ X0]; rfl
      have c2 : w1.cell? ⟨ga, 2, none⟩ = some (.int .i64 r.fr) := by rw [cell_of_row _ _ _ _ _ _ X0]; rfl
      have c3 : w1.cell? ⟨ga, 3, none⟩ = some (.int .i64 r.to) := by rw [cell_of_row _ _ _ _ _ _ X0]; rfl
      have c4 : w1.cell? ⟨ga, 4, none⟩ = some (.int .i64 r.un) := by rw [cell_of_row _ _ _ _ _ _ X0]; rfl
      have c5 : w1.cell? ⟨ga, 5, none⟩ = some (.int .i64 r.mo) := by rw [cell_of_row _ _ _ _ _ _ X0]; rfl
      have c6 : w1.cell? ⟨ga, 6, none⟩ = some (.bool r.allow) := by rw [cell_of_row _ _ _ _ _ _ X0]; rfl
      clear X0
      have X0 := HA.out.2
      have d0 : w1.cell? ⟨gq, 0, none⟩ = some (.int .i64 q.id) := by rw [cell_of_row _ _ _ _ _ _ X0]; rfl
      have d1 : w1.cell? ⟨gq, 1, none⟩ = some (.string q.who) := by rw [cell_of_row _ _ _ _ _ _ X0]; rfl
      have d2 : w1.cell? ⟨gq, 2, none⟩ = some (.int .i64 q.entry) := by rw [cell_of_row _ _ _ _ _ _ X0]; rfl
      have d3 : w1.cell? ⟨gq, 3, none⟩ = some (.string q.reason) := by rw [cell_of_row _ _ _ _ _ _ X0]; rfl
      have d4 : w1.cell? ⟨gq, 4, none⟩ = some (.int .i64 q.exp) := by rw [cell_of_row _ _ _ _ _ _ X0]; rfl
      clear X0
      go_wp2_with fail
      refine (H.out.1 _).mono ?_
      rintro e w2 ⟨rfl, hb2⟩
      have H2 := Lib.hid (And.intro ((hb2.block ga (pblt_of_heap HA.out.1)).trans HA.out.1) (And.intro ((hb2.block gq (pblt_of_heap HA.out.2)).trans HA.out.2) (H.out.2.2.2.2.trans (hb2.mono H.out.2.2.2.2.size))))
      clear hb2 c0 c1 c2 c3 c4 c5 c6 d0 d1 d2 d3 d4
      have X0 := H2.out.1
      have c0 : w2.cell? ⟨ga, 0, none⟩ = some (.string r.who) := by rw [cell_of_row _ _ _ _ _ _ X0]; rfl
      have c1 : w2.cell? ⟨ga, 1, none⟩ = some (.string r.word) := by rw [cell_of_row _ _ _ _ _ _ X0]; rfl
      have c2 : w2.cell? ⟨ga, 2, none⟩ = some (.int .i64 r.fr) := by rw [cell_of_row _ _ _ _ _ _ X0]; rfl
      have c3 : w2.cell? ⟨ga, 3, none⟩ = some (.int .i64 r.to) := by rw [cell_of_row _ _ _ _ _ _ X0]; rfl
      have c4 : w2.cell? ⟨ga, 4, none⟩ = some (.int .i64 r.un) := by rw [cell_of_row _ _ _ _ _ _ X0]; rfl
      have c5 : w2.cell? ⟨ga, 5, none⟩ = some (.int .i64 r.mo) := by rw [cell_of_row _ _ _ _ _ _ X0]; rfl
      have c6 : w2.cell? ⟨ga, 6, none⟩ = some (.bool r.allow) := by rw [cell_of_row _ _ _ _ _ _ X0]; rfl
      clear X0
      have X0 := H2.out.2.1
      have d0 : w2.cell? ⟨gq, 0, none⟩ = some (.int .i64 q.id) := by rw [cell_of_row _ _ _ _ _ _ X0]; rfl
      have d1 : w2.cell? ⟨gq, 1, none⟩ = some (.string q.who) := by rw [cell_of_row _ _ _ _ _ _ X0]; rfl
      have d2 : w2.cell? ⟨gq, 2, none⟩ = some (.int .i64 q.entry) := by rw [cell_of_row _ _ _ _ _ _ X0]; rfl
      have d3 : w2.cell? ⟨gq, 3, none⟩ = some (.string q.reason) := by rw [cell_of_row _ _ _ _ _ _ X0]; rfl
      have d4 : w2.cell? ⟨gq, 4, none⟩ = some (.int .i64 q.exp) := by rw [cell_of_row _ _ _ _ _ _ X0]; rfl
      clear X0
      go_wp2_with fail
      refine (H.out.2.1 _).mono ?_
      rintro e w3 ⟨rfl, hb3⟩
      have H3 := Lib.hid (And.intro ((hb3.block ga (pblt_of_heap H2.out.1)).trans H2.out.1) (And.intro ((hb3.block gq (pblt_of_heap H2.out.2.1)).trans H2.out.2.1) (H2.out.2.2.trans (hb3.mono H2.out.2.2.size))))
      clear hb3 c0 c1 c2 c3 c4 c5 c6 d0 d1 d2 d3 d4
      have X0 := H3.out.1
      have c0 : w3.cell? ⟨ga, 0, none⟩ = some (.string r.who) := by rw [cell_of_row _ _ _ _ _ _ X0]; rfl
      have c1 : w3.cell? ⟨ga, 1, none⟩ = some (.string r.word) := by rw [cell_of_row _ _ _ _ _ _ X0]; rfl
      have c2 : w3.cell? ⟨ga, 2, none⟩ = some (.int .i64 r.fr) := by rw [cell_of_row _ _ _ _ _ _ X0]; rfl
      have c3 : w3.cell? ⟨ga, 3, none⟩ = some (.int .i64 r.to) := by rw [cell_of_row _ _ _ _ _ _ X0]; rfl
      have c4 : w3.cell? ⟨ga, 4, none⟩ = some (.int .i64 r.un) := by rw [cell_of_row _ _ _ _ _ _ X0]; rfl
      have c5 : w3.cell? ⟨ga, 5, none⟩ = some (.int .i64 r.mo) := by rw [cell_of_row _ _ _ _ _ _ X0]; rfl
      have c6 : w3.cell? ⟨ga, 6, none⟩ = some (.bool r.allow) := by rw [cell_of_row _ _ _ _ _ _ X0]; rfl
      clear X0
      have X0 := H3.out.2.1
      have d0 : w3.cell? ⟨gq, 0, none⟩ = some (.int .i64 q.id) := by rw [cell_of_row _ _ _ _ _ _ X0]; rfl
      have d1 : w3.cell? ⟨gq, 1, none⟩ = some (.string q.who) := by rw [cell_of_row _ _ _ _ _ _ X0]; rfl
      have d2 : w3.cell? ⟨gq, 2, none⟩ = some (.int .i64 q.entry) := by rw [cell_of_row _ _ _ _ _ _ X0]; rfl
      have d3 : w3.cell? ⟨gq, 3, none⟩ = some (.string q.reason) := by rw [cell_of_row _ _ _ _ _ _ X0]; rfl
      have d4 : w3.cell? ⟨gq, 4, none⟩ = some (.int .i64 q.exp) := by rw [cell_of_row _ _ _ _ _ _ X0]; rfl
      clear X0
      go_wp2_with fail
      go_ret
      exact ⟨by first | rfl | (rw [hz]; rfl), H3.out.2.2⟩
    by_cases h2 : q.entry < r.to
    rotate_left
    · have hz : Z = false := by rw [hZ]; simp; omega
      clear hZ
      go_enter Try.func22, Try.ntmps22
      go_upto_region 1 with fail
      rw [← hw1, ← hgq, ← hga]
      clear hw1 hga hgq
      have X0 := HA.out.1
      have c0 : w1.cell? ⟨ga, 0, none⟩ = some (.string r.who) := by rw [cell_of_row _ _ _ _ _ _ X0]; rfl
      have c1 : w1.cell? ⟨ga, 1, none⟩ = some (.string r.word) := by rw [cell_of_row _ _ _ _ _ _ X0]; rfl
      have c2 : w1.cell? ⟨ga, 2, none⟩ = some (.int .i64 r.fr) := by rw [cell_of_row _ _ _ _ _ _ X0]; rfl
      have c3 : w1.cell? ⟨ga, 3, none⟩ = some (.int .i64 r.to) := by rw [cell_of_row _ _ _ _ _ _ X0]; rfl
      have c4 : w1.cell? ⟨ga, 4, none⟩ = some (.int .i64 r.un) := by rw [cell_of_row _ _ _ _ _ _ X0]; rfl
      have c5 : w1.cell? ⟨ga, 5, none⟩ = some (.int .i64 r.mo) := by rw [cell_of_row _ _ _ _ _ _ X0]; rfl
      have c6 : w1.cell? ⟨ga, 6, none⟩ = some (.bool r.allow) := by rw [cell_of_row _ _ _ _ _ _ X0]; rfl
      clear X0
      have X0 := HA.out.2
      have d0 : w1.cell? ⟨gq, 0, none⟩ = some (.int .i64 q.id) := by rw [cell_of_row _ _ _ _ _ _ X0]; rfl
      have d1 : w1.cell? ⟨gq, 1, none⟩ = some (.string q.who) := by rw [cell_of_row _ _ _ _ _ _ X0]; rfl
      have d2 : w1.cell? ⟨gq, 2, none⟩ = some (.int .i64 q.entry) := by rw [cell_of_row _ _ _ _ _ _ X0]; rfl
      have d3 : w1.cell? ⟨gq, 3, none⟩ = some (.string q.reason) := by rw [cell_of_row _ _ _ _ _ _ X0]; rfl
      have d4 : w1.cell? ⟨gq, 4, none⟩ = some (.int .i64 q.exp) := by rw [cell_of_row _ _ _ _ _ _ X0]; rfl
      clear X0
      go_wp2_with fail
      refine (H.out.1 _).mono ?_
      rintro e w2 ⟨rfl, hb2⟩
      have H2 := Lib.hid (And.intro ((hb2.block ga (pblt_of_heap HA.out.1)).trans HA.out.1) (And.intro ((hb2.block gq (pblt_of_heap HA.out.2)).trans HA.out.2) (H.out.2.2.2.2.trans (hb2.mono H.out.2.2.2.2.size))))
      clear hb2 c0 c1 c2 c3 c4 c5 c6 d0 d1 d2 d3 d4
      have X0 := H2.out.1
      have c0 : w2.cell? ⟨ga, 0, none⟩ = some (.string r.who) := by rw [cell_of_row _ _ _ _ _ _ X0]; rfl
      have c1 : w2.cell? ⟨ga, 1, none⟩ = some (.string r.word) := by rw [cell_of_row _ _ _ _ _ _ X0]; rfl
      have c2 : w2.cell? ⟨ga, 2, none⟩ = some (.int .i64 r.fr) := by rw [cell_of_row _ _ _ _ _ _ X0]; rfl
      have c3 : w2.cell? ⟨ga, 3, none⟩ = some (.int .i64 r.to) := by rw [cell_of_row _ _ _ _ _ _ X0]; rfl
      have c4 : w2.cell? ⟨ga, 4, none⟩ = some (.int .i64 r.un) := by rw [cell_of_row _ _ _ _ _ _ X0]; rfl
      have c5 : w2.cell? ⟨ga, 5, none⟩ = some (.int .i64 r.mo) := by rw [cell_of_row _ _ _ _ _ _ X0]; rfl
      have c6 : w2.cell? ⟨ga, 6, none⟩ = some (.bool r.allow) := by rw [cell_of_row _ _ _ _ _ _ X0]; rfl
      clear X0
      have X0 := H2.out.2.1
      have d0 : w2.cell? ⟨gq, 0, none⟩ = some (.int .i64 q.id) := by rw [cell_of_row _ _ _ _ _ _ X0]; rfl
      have d1 : w2.cell? ⟨gq, 1, none⟩ = some (.string q.who) := by rw [cell_of_row _ _ _ _ _ _ X0]; rfl
      have d2 : w2.cell? ⟨gq, 2, none⟩ = some (.int .i64 q.entry) := by rw [cell_of_row _ _ _ _ _ _ X0]; rfl
      have d3 : w2.cell? ⟨gq, 3, none⟩ = some (.string q.reason) := by rw [cell_of_row _ _ _ _ _ _ X0]; rfl
      have d4 : w2.cell? ⟨gq, 4, none⟩ = some (.int .i64 q.exp) := by rw [cell_of_row _ _ _ _ _ _ X0]; rfl
      clear X0
      go_wp2_with fail
      refine (H.out.2.1 _).mono ?_
      rintro e w3 ⟨rfl, hb3⟩
      have H3 := Lib.hid (And.intro ((hb3.block ga (pblt_of_heap H2.out.1)).trans H2.out.1) (And.intro ((hb3.block gq (pblt_of_heap H2.out.2.1)).trans H2.out.2.1) (H2.out.2.2.trans (hb3.mono H2.out.2.2.size))))
      clear hb3 c0 c1 c2 c3 c4 c5 c6 d0 d1 d2 d3 d4
      have X0 := H3.out.1
      have c0 : w3.cell? ⟨ga, 0, none⟩ = some (.string r.who) := by rw [cell_of_row _ _ _ _ _ _ X0]; rfl
      have c1 : w3.cell? ⟨ga, 1, none⟩ = some (.string r.word) := by rw [cell_of_row _ _ _ _ _ _ X0]; rfl
      have c2 : w3.cell? ⟨ga, 2, none⟩ = some (.int .i64 r.fr) := by rw [cell_of_row _ _ _ _ _ _ X0]; rfl
      have c3 : w3.cell? ⟨ga, 3, none⟩ = some (.int .i64 r.to) := by rw [cell_of_row _ _ _ _ _ _ X0]; rfl
      have c4 : w3.cell? ⟨ga, 4, none⟩ = some (.int .i64 r.un) := by rw [cell_of_row _ _ _ _ _ _ X0]; rfl
      have c5 : w3.cell? ⟨ga, 5, none⟩ = some (.int .i64 r.mo) := by rw [cell_of_row _ _ _ _ _ _ X0]; rfl
      have c6 : w3.cell? ⟨ga, 6, none⟩ = some (.bool r.allow) := by rw [cell_of_row _ _ _ _ _ _ X0]; rfl
      clear X0
      have X0 := H3.out.2.1
      have d0 : w3.cell? ⟨gq, 0, none⟩ = some (.int .i64 q.id) := by rw [cell_of_row _ _ _ _ _ _ X0]; rfl
      have d1 : w3.cell? ⟨gq, 1, none⟩ = some (.string q.who) := by rw [cell_of_row _ _ _ _ _ _ X0]; rfl
      have d2 : w3.cell? ⟨gq, 2, none⟩ = some (.int .i64 q.entry) := by rw [cell_of_row _ _ _ _ _ _ X0]; rfl
      have d3 : w3.cell? ⟨gq, 3, none⟩ = some (.string q.reason) := by rw [cell_of_row _ _ _ _ _ _ X0]; rfl
      have d4 : w3.cell? ⟨gq, 4, none⟩ = some (.int .i64 q.exp) := by rw [cell_of_row _ _ _ _ _ _ X0]; rfl
      clear X0
      go_wp2_with fail
      go_ret
      exact ⟨by first | rfl | (rw [hz]; rfl), H3.out.2.2⟩
    by_cases h3 : now ≤ r.un
    rotate_left
    · have hz : Z = false := by rw [hZ]; simp; omega
      clear hZ
      go_enter Try.func22, Try.ntmps22
      go_upto_region 1 with fail
      rw [← hw1, ← hgq, ← hga]
      clear hw1 hga hgq
      have X0 := HA.out.1
      have c0 : w1.cell? ⟨ga, 0, none⟩ = some (.string r.who) := by rw [cell_of_row _ _ _ _ _ _ X0]; rfl
      have c1 : w1.cell? ⟨ga, 1, none⟩ = some (.string r.word) := by rw [cell_of_row _ _ _ _ _ _ X0]; rfl
      have c2 : w1.cell? ⟨ga, 2, none⟩ = some (.int .i64 r.fr) := by rw [cell_of_row _ _ _ _ _ _ X0]; rfl
      have c3 : w1.cell? ⟨ga, 3, none⟩ = some (.int .i64 r.to) := by rw [cell_of_row _ _ _ _ _ _ X0]; rfl
      have c4 : w1.cell? ⟨ga, 4, none⟩ = some (.int .i64 r.un) := by rw [cell_of_row _ _ _ _ _ _ X0]; rfl
      have c5 : w1.cell? ⟨ga, 5, none⟩ = some (.int .i64 r.mo) := by rw [cell_of_row _ _ _ _ _ _ X0]; rfl
      have c6 : w1.cell? ⟨ga, 6, none⟩ = some (.bool r.allow) := by rw [cell_of_row _ _ _ _ _ _ X0]; rfl
      clear X0
      have X0 := HA.out.2
      have d0 : w1.cell? ⟨gq, 0, none⟩ = some (.int .i64 q.id) := by rw [cell_of_row _ _ _ _ _ _ X0]; rfl
      have d1 : w1.cell? ⟨gq, 1, none⟩ = some (.string q.who) := by rw [cell_of_row _ _ _ _ _ _ X0]; rfl
      have d2 : w1.cell? ⟨gq, 2, none⟩ = some (.int .i64 q.entry) := by rw [cell_of_row _ _ _ _ _ _ X0]; rfl
      have d3 : w1.cell? ⟨gq, 3, none⟩ = some (.string q.reason) := by rw [cell_of_row _ _ _ _ _ _ X0]; rfl
      have d4 : w1.cell? ⟨gq, 4, none⟩ = some (.int .i64 q.exp) := by rw [cell_of_row _ _ _ _ _ _ X0]; rfl
      clear X0
      go_wp2_with fail
      refine (H.out.1 _).mono ?_
      rintro e w2 ⟨rfl, hb2⟩
      have H2 := Lib.hid (And.intro ((hb2.block ga (pblt_of_heap HA.out.1)).trans HA.out.1) (And.intro ((hb2.block gq (pblt_of_heap HA.out.2)).trans HA.out.2) (H.out.2.2.2.2.trans (hb2.mono H.out.2.2.2.2.size))))
      clear hb2 c0 c1 c2 c3 c4 c5 c6 d0 d1 d2 d3 d4
      have X0 := H2.out.1
      have c0 : w2.cell? ⟨ga, 0, none⟩ = some (.string r.who) := by rw [cell_of_row _ _ _ _ _ _ X0]; rfl
      have c1 : w2.cell? ⟨ga, 1, none⟩ = some (.string r.word) := by rw [cell_of_row _ _ _ _ _ _ X0]; rfl
      have c2 : w2.cell? ⟨ga, 2, none⟩ = some (.int .i64 r.fr) := by rw [cell_of_row _ _ _ _ _ _ X0]; rfl
      have c3 : w2.cell? ⟨ga, 3, none⟩ = some (.int .i64 r.to) := by rw [cell_of_row _ _ _ _ _ _ X0]; rfl
      have c4 : w2.cell? ⟨ga, 4, none⟩ = some (.int .i64 r.un) := by rw [cell_of_row _ _ _ _ _ _ X0]; rfl
      have c5 : w2.cell? ⟨ga, 5, none⟩ = some (.int .i64 r.mo) := by rw [cell_of_row _ _ _ _ _ _ X0]; rfl
      have c6 : w2.cell? ⟨ga, 6, none⟩ = some (.bool r.allow) := by rw [cell_of_row _ _ _ _ _ _ X0]; rfl
      clear X0
      have X0 := H2.out.2.1
      have d0 : w2.cell? ⟨gq, 0, none⟩ = some (.int .i64 q.id) := by rw [cell_of_row _ _ _ _ _ _ X0]; rfl
      have d1 : w2.cell? ⟨gq, 1, none⟩ = some (.string q.who) := by rw [cell_of_row _ _ _ _ _ _ X0]; rfl
      have d2 : w2.cell? ⟨gq, 2, none⟩ = some (.int .i64 q.entry) := by rw [cell_of_row _ _ _ _ _ _ X0]; rfl
      have d3 : w2.cell? ⟨gq, 3, none⟩ = some (.string q.reason) := by rw [cell_of_row _ _ _ _ _ _ X0]; rfl
      have d4 : w2.cell? ⟨gq, 4, none⟩ = some (.int .i64 q.exp) := by rw [cell_of_row _ _ _ _ _ _ X0]; rfl
      clear X0
      go_wp2_with fail
      refine (H.out.2.1 _).mono ?_
      rintro e w3 ⟨rfl, hb3⟩
      have H3 := Lib.hid (And.intro ((hb3.block ga (pblt_of_heap H2.out.1)).trans H2.out.1) (And.intro ((hb3.block gq (pblt_of_heap H2.out.2.1)).trans H2.out.2.1) (H2.out.2.2.trans (hb3.mono H2.out.2.2.size))))
      clear hb3 c0 c1 c2 c3 c4 c5 c6 d0 d1 d2 d3 d4
      have X0 := H3.out.1
      have c0 : w3.cell? ⟨ga, 0, none⟩ = some (.string r.who) := by rw [cell_of_row _ _ _ _ _ _ X0]; rfl
      have c1 : w3.cell? ⟨ga, 1, none⟩ = some (.string r.word) := by rw [cell_of_row _ _ _ _ _ _ X0]; rfl
      have c2 : w3.cell? ⟨ga, 2, none⟩ = some (.int .i64 r.fr) := by rw [cell_of_row _ _ _ _ _ _ X0]; rfl
      have c3 : w3.cell? ⟨ga, 3, none⟩ = some (.int .i64 r.to) := by rw [cell_of_row _ _ _ _ _ _ X0]; rfl
      have c4 : w3.cell? ⟨ga, 4, none⟩ = some (.int .i64 r.un) := by rw [cell_of_row _ _ _ _ _ _ X0]; rfl
      have c5 : w3.cell? ⟨ga, 5, none⟩ = some (.int .i64 r.mo) := by rw [cell_of_row _ _ _ _ _ _ X0]; rfl
      have c6 : w3.cell? ⟨ga, 6, none⟩ = some (.bool r.allow) := by rw [cell_of_row _ _ _ _ _ _ X0]; rfl
      clear X0
      have X0 := H3.out.2.1
      have d0 : w3.cell? ⟨gq, 0, none⟩ = some (.int .i64 q.id) := by rw [cell_of_row _ _ _ _ _ _ X0]; rfl
      have d1 : w3.cell? ⟨gq, 1, none⟩ = some (.string q.who) := by rw [cell_of_row _ _ _ _ _ _ X0]; rfl
      have d2 : w3.cell? ⟨gq, 2, none⟩ = some (.int .i64 q.entry) := by rw [cell_of_row _ _ _ _ _ _ X0]; rfl
      have d3 : w3.cell? ⟨gq, 3, none⟩ = some (.string q.reason) := by rw [cell_of_row _ _ _ _ _ _ X0]; rfl
      have d4 : w3.cell? ⟨gq, 4, none⟩ = some (.int .i64 q.exp) := by rw [cell_of_row _ _ _ _ _ _ X0]; rfl
      clear X0
      go_wp2_with fail
      go_ret
      exact ⟨by first | rfl | (rw [hz]; rfl), H3.out.2.2⟩
    have hz : Z = (decide (r.word.size = 0) || inT T r.word) := by rw [hZ, decide_eq_true h1, decide_eq_true h2, decide_eq_true h3, Bool.and_true, Bool.and_true, Bool.and_true]
    clear hZ
    by_cases hC : r.word.size = 0
    · have gC : r.word.toList.isEmpty = true := empty_list hC
      rw [decide_eq_true hC] at hz
      have HZ := Lib.hid hz
      clear hz hC
      go_enter Try.func22, Try.ntmps22
      go_upto_region 1 with fail
      rw [← hw1, ← hgq, ← hga]
      clear hw1 hga hgq
      have X0 := HA.out.1
      have c0 : w1.cell? ⟨ga, 0, none⟩ = some (.string r.who) := by rw [cell_of_row _ _ _ _ _ _ X0]; rfl
      have c1 : w1.cell? ⟨ga, 1, none⟩ = some (.string r.word) := by rw [cell_of_row _ _ _ _ _ _ X0]; rfl
      have c2 : w1.cell? ⟨ga, 2, none⟩ = some (.int .i64 r.fr) := by rw [cell_of_row _ _ _ _ _ _ X0]; rfl
      have c3 : w1.cell? ⟨ga, 3, none⟩ = some (.int .i64 r.to) := by rw [cell_of_row _ _ _ _ _ _ X0]; rfl
      have c4 : w1.cell? ⟨ga, 4, none⟩ = some (.int .i64 r.un) := by rw [cell_of_row _ _ _ _ _ _ X0]; rfl
      have c5 : w1.cell? ⟨ga, 5, none⟩ = some (.int .i64 r.mo) := by rw [cell_of_row _ _ _ _ _ _ X0]; rfl
      have c6 : w1.cell? ⟨ga, 6, none⟩ = some (.bool r.allow) := by rw [cell_of_row _ _ _ _ _ _ X0]; rfl
      clear X0
      have X0 := HA.out.2
      have d0 : w1.cell? ⟨gq, 0, none⟩ = some (.int .i64 q.id) := by rw [cell_of_row _ _ _ _ _ _ X0]; rfl
      have d1 : w1.cell? ⟨gq, 1, none⟩ = some (.string q.who) := by rw [cell_of_row _ _ _ _ _ _ X0]; rfl
      have d2 : w1.cell? ⟨gq, 2, none⟩ = some (.int .i64 q.entry) := by rw [cell_of_row _ _ _ _ _ _ X0]; rfl
      have d3 : w1.cell? ⟨gq, 3, none⟩ = some (.string q.reason) := by rw [cell_of_row _ _ _ _ _ _ X0]; rfl
      have d4 : w1.cell? ⟨gq, 4, none⟩ = some (.int .i64 q.exp) := by rw [cell_of_row _ _ _ _ _ _ X0]; rfl
      clear X0
      go_wp2_with fail
      refine (H.out.1 _).mono ?_
      rintro e w2 ⟨rfl, hb2⟩
      have H2 := Lib.hid (And.intro ((hb2.block ga (pblt_of_heap HA.out.1)).trans HA.out.1) (And.intro ((hb2.block gq (pblt_of_heap HA.out.2)).trans HA.out.2) (H.out.2.2.2.2.trans (hb2.mono H.out.2.2.2.2.size))))
      clear hb2 c0 c1 c2 c3 c4 c5 c6 d0 d1 d2 d3 d4
      have X0 := H2.out.1
      have c0 : w2.cell? ⟨ga, 0, none⟩ = some (.string r.who) := by rw [cell_of_row _ _ _ _ _ _ X0]; rfl
      have c1 : w2.cell? ⟨ga, 1, none⟩ = some (.string r.word) := by rw [cell_of_row _ _ _ _ _ _ X0]; rfl
      have c2 : w2.cell? ⟨ga, 2, none⟩ = some (.int .i64 r.fr) := by rw [cell_of_row _ _ _ _ _ _ X0]; rfl
      have c3 : w2.cell? ⟨ga, 3, none⟩ = some (.int .i64 r.to) := by rw [cell_of_row _ _ _ _ _ _ X0]; rfl
      have c4 : w2.cell? ⟨ga, 4, none⟩ = some (.int .i64 r.un) := by rw [cell_of_row _ _ _ _ _ _ X0]; rfl
      have c5 : w2.cell? ⟨ga, 5, none⟩ = some (.int .i64 r.mo) := by rw [cell_of_row _ _ _ _ _ _ X0]; rfl
      have c6 : w2.cell? ⟨ga, 6, none⟩ = some (.bool r.allow) := by rw [cell_of_row _ _ _ _ _ _ X0]; rfl
      clear X0
      have X0 := H2.out.2.1
      have d0 : w2.cell? ⟨gq, 0, none⟩ = some (.int .i64 q.id) := by rw [cell_of_row _ _ _ _ _ _ X0]; rfl
      have d1 : w2.cell? ⟨gq, 1, none⟩ = some (.string q.who) := by rw [cell_of_row _ _ _ _ _ _ X0]; rfl
      have d2 : w2.cell? ⟨gq, 2, none⟩ = some (.int .i64 q.entry) := by rw [cell_of_row _ _ _ _ _ _ X0]; rfl
      have d3 : w2.cell? ⟨gq, 3, none⟩ = some (.string q.reason) := by rw [cell_of_row _ _ _ _ _ _ X0]; rfl
      have d4 : w2.cell? ⟨gq, 4, none⟩ = some (.int .i64 q.exp) := by rw [cell_of_row _ _ _ _ _ _ X0]; rfl
      clear X0
      go_wp2_with fail
      refine (H.out.2.1 _).mono ?_
      rintro e w3 ⟨rfl, hb3⟩
      have H3 := Lib.hid (And.intro ((hb3.block ga (pblt_of_heap H2.out.1)).trans H2.out.1) (And.intro ((hb3.block gq (pblt_of_heap H2.out.2.1)).trans H2.out.2.1) (H2.out.2.2.trans (hb3.mono H2.out.2.2.size))))
      clear hb3 c0 c1 c2 c3 c4 c5 c6 d0 d1 d2 d3 d4
      have X0 := H3.out.1
      have c0 : w3.cell? ⟨ga, 0, none⟩ = some (.string r.who) := by rw [cell_of_row _ _ _ _ _ _ X0]; rfl
      have c1 : w3.cell? ⟨ga, 1, none⟩ = some (.string r.word) := by rw [cell_of_row _ _ _ _ _ _ X0]; rfl
      have c2 : w3.cell? ⟨ga, 2, none⟩ = some (.int .i64 r.fr) := by rw [cell_of_row _ _ _ _ _ _ X0]; rfl
      have c3 : w3.cell? ⟨ga, 3, none⟩ = some (.int .i64 r.to) := by rw [cell_of_row _ _ _ _ _ _ X0]; rfl
      have c4 : w3.cell? ⟨ga, 4, none⟩ = some (.int .i64 r.un) := by rw [cell_of_row _ _ _ _ _ _ X0]; rfl
      have c5 : w3.cell? ⟨ga, 5, none⟩ = some (.int .i64 r.mo) := by rw [cell_of_row _ _ _ _ _ _ X0]; rfl
      have c6 : w3.cell? ⟨ga, 6, none⟩ = some (.bool r.allow) := by rw [cell_of_row _ _ _ _ _ _ X0]; rfl
      clear X0
      have X0 := H3.out.2.1
      have d0 : w3.cell? ⟨gq, 0, none⟩ = some (.int .i64 q.id) := by rw [cell_of_row _ _ _ _ _ _ X0]; rfl
      have d1 : w3.cell? ⟨gq, 1, none⟩ = some (.string q.who) := by rw [cell_of_row _ _ _ _ _ _ X0]; rfl
      have d2 : w3.cell? ⟨gq, 2, none⟩ = some (.int .i64 q.entry) := by rw [cell_of_row _ _ _ _ _ _ X0]; rfl
      have d3 : w3.cell? ⟨gq, 3, none⟩ = some (.string q.reason) := by rw [cell_of_row _ _ _ _ _ _ X0]; rfl
      have d4 : w3.cell? ⟨gq, 4, none⟩ = some (.int .i64 q.exp) := by rw [cell_of_row _ _ _ _ _ _ X0]; rfl
      clear X0
      go_wp2_with fail
      refine (H.out.2.2.1 _).mono ?_
      rintro e w5 ⟨ad, cp, rfl, hTx, hb5⟩
      have H5 := Lib.hid (And.intro ((hb5.block ga (pblt_of_heap H3.out.1)).trans H3.out.1) (And.intro hTx (H3.out.2.2.trans (hb5.mono H3.out.2.2.size))))
      clear hb5 hTx c0 c1 c2 c3 c4 c5 c6 d0 d1 d2 d3 d4
      have X0 := H5.out.1
      have c1 : w5.cell? ⟨ga, 1, none⟩ = some (.string r.word) := by rw [cell_of_row _ _ _ _ _ _ X0]; rfl
      clear X0
      go_wp2_with fail
      clear c1
      go_loopw [8, 9] (fun v8 v9 wr => ∃ i : Nat, i ≤ tn ∧ v9 = .int .i64 (i : Int) ∧ v8 = .bool (true || inT (T.take i) r.word) ∧ Below w5.heap.size w5 wr) (fun _ v9 _ => tn - (intOf v9).toNat)
      case atStart => exact ⟨0, by omega, rfl, rfl, Below.refl _ _⟩
      case round =>
        obtain ⟨i, hi, rfl, rfl, hb⟩ := hrel
        by_cases hlt : i < tn
        rotate_left
        · obtain rfl : tn = i := by omega
          have hall : T.take tn = T := List.take_of_length_le (by have := H.out.2.2.2.1; omega)
          rw [hall]
          have HB := Lib.hid hb
          clear hb hall
          go_wp2_with fail
          go_ret
          exact ⟨by rw [HZ.out]; rfl, H5.out.2.2.trans (HB.out.mono H5.out.2.2.size)⟩
        obtain ⟨x, hx⟩ : ∃ x, T[i]? = some x := ⟨_, List.getElem?_eq_getElem (by have := H.out.2.2.2.1; omega)⟩
        obtain ⟨tb, tof, rfl, htb, htc⟩ := H5.out.2.1.below hb i (by have := H.out.2.2.2.1; omega)
        have hgx : T.getD i ByteArray.empty = x := by rw [List.getD_eq_getElem?_getD, hx]; rfl
        rw [hgx] at htc
        have hst := inT_step hx r.word
        have HW := Lib.hid (And.intro ((hb.block ga (pblt_of_heap H5.out.1)).trans H5.out.1) (And.intro htc (And.intro hb hst)))
        clear hb hst htc htb hgx hx
        cases hh : (true || inT (T.take i) r.word) with
        | true =>
          have hn : (true || inT (T.take (i + 1)) r.word) = true := by rw [HW.out.2.2.2, ← Bool.or_assoc, hh, Bool.true_or]
          have HH := Lib.hid hn
          clear hn hh
          go_upto_region 8 with fail
          refine wp_region_held (S := fun W : World => (W.heap[ga]? = some (.cells (ruCs r) 49 (0, 0)) ∧ W.cell? ⟨tb, tof + i, none⟩ = some (.string x))) (by kernel_rfl) ?_
          change wpAnyH _ _ _ _ _ _ _ _ (World.drew _)
          generalize hv0 : World.drew _ = v0
          have E0 : (v0.heap[ga]? = some (.cells (ruCs r) 49 (0, 0)) ∧ v0.cell? ⟨tb, tof + i, none⟩ = some (.string x)) := by rw [← hv0]; exact ⟨HW.out.1, HW.out.2.1⟩
          have F0 : Below wr.heap.size wr v0 := by rw [← hv0]; exact ((Below.refl _ _).drew)
          clear hv0
          refine wpAnyH_take (i := 0) (v := ?_) rfl (by kernel_rfl) (by kernel_rfl) (by kernel_rfl) (fun _ _ _ h => h) (Or.inl ⟨by kernel_rfl, ?_⟩) E0 ?_
          rotate_left
          · (intro W hS; have k1 : W.cell? ⟨ga, 1, none⟩ = some (.string r.word) := (by rw [cell_of_row _ _ _ _ _ _ hS.1]; rfl); have k2 := hS.2; go_simp; try (with_reducible rfl))
          refine wpAnyH_take (i := 1) (v := ?_) rfl (by kernel_rfl) (by kernel_rfl) (by kernel_rfl) (fun _ _ _ h => h) (Or.inl ⟨by kernel_rfl, ?_⟩) E0 ?_
          rotate_left
          · (intro W hS; have k1 : W.cell? ⟨ga, 1, none⟩ = some (.string r.word) := (by rw [cell_of_row _ _ _ _ _ _ hS.1]; rfl); have k2 := hS.2; go_simp; try (with_reducible rfl))
          refine wpAnyH_take (i := 2) (v := undef) rfl (by kernel_rfl) (by kernel_rfl) (by kernel_rfl) (fun _ _ _ h => h) (Or.inr ⟨by kernel_rfl, rfl⟩) E0 ?_
          refine wpAnyH_take (i := 3) (v := undef) rfl (by kernel_rfl) (by kernel_rfl) (by kernel_rfl) (fun _ _ _ h => h) (Or.inr ⟨by kernel_rfl, rfl⟩) E0 ?_
          refine wpAnyH_take (i := 4) (v := undef) rfl (by kernel_rfl) (by kernel_rfl) (by kernel_rfl) (fun _ _ _ h => h) (Or.inr ⟨by kernel_rfl, rfl⟩) E0 ?_
          refine wpAnyH_take (i := 5) (v := undef) rfl (by kernel_rfl) (by kernel_rfl) (by kernel_rfl) (fun _ _ _ h => h) (Or.inr ⟨by kernel_rfl, rfl⟩) E0 ?_
          refine wpAnyH_take (i := 6) (v := undef) rfl (by kernel_rfl) (by kernel_rfl) (by kernel_rfl) (fun _ _ _ h => h) (Or.inr ⟨by kernel_rfl, rfl⟩) E0 ?_
          refine wpAnyH_take (i := 7) (v := undef) rfl (by kernel_rfl) (by kernel_rfl) (by kernel_rfl) (fun _ _ _ h => h) (Or.inr ⟨by kernel_rfl, rfl⟩) E0 ?_
          refine wpAnyH_take (i := 8) (v := undef) rfl (by kernel_rfl) (by kernel_rfl) (by kernel_rfl) (fun _ _ _ h => h) (Or.inr ⟨by kernel_rfl, rfl⟩) E0 ?_
          refine wpAnyH_take (i := 9) (v := ?_) rfl (by kernel_rfl) (by kernel_rfl) (by kernel_rfl) (fun _ _ _ h => h) (Or.inl ⟨by kernel_rfl, ?_⟩) E0 ?_
          rotate_left
          · (intro W hS; have k1 : W.cell? ⟨ga, 1, none⟩ = some (.string r.word) := (by rw [cell_of_row _ _ _ _ _ _ hS.1]; rfl); have k2 := hS.2; go_simp; try (with_reducible rfl))
          refine wpAnyH_take (i := 10) (v := ?_) rfl (by kernel_rfl) (by kernel_rfl) (by kernel_rfl) (fun _ _ _ h => h) (Or.inl ⟨by kernel_rfl, ?_⟩) E0 ?_
          rotate_left
          · (intro W hS; have k1 : W.cell? ⟨ga, 1, none⟩ = some (.string r.word) := (by rw [cell_of_row _ _ _ _ _ _ hS.1]; rfl); have k2 := hS.2; go_simp; try (with_reducible rfl))
          refine wpAnyH_done (by kernel_rfl) ?_ _
          go_simp
          have HF := Lib.hid F0
          clear E0 F0
          go_wp2_with fail
          go_roundw
          case rel => exact ⟨i + 1, by omega, by go_num, by rw [HH.out], HW.out.2.2.1.trans (HF.out.mono HW.out.2.2.1.size)⟩
          case measure => simp [intOf]; omega
        | false =>
          by_cases he : x = r.word
          · have ge : (x.toList == r.word.toList) = true := peq_toList he
            have hn : (true || inT (T.take (i + 1)) r.word) = true := by rw [HW.out.2.2.2, ← Bool.or_assoc, hh, decide_eq_true he]; rfl
            have HH := Lib.hid hn
            clear hn hh he
            go_upto_region 8 with fail
            refine wp_region_held (S := fun W : World => (W.heap[ga]? = some (.cells (ruCs r) 49 (0, 0)) ∧ W.cell? ⟨tb, tof + i, none⟩ = some (.string x))) (by kernel_rfl) ?_
            change wpAnyH _ _ _ _ _ _ _ _ (World.drew _)
            generalize hv0 : World.drew _ = v0
            have E0 : (v0.heap[ga]? = some (.cells (ruCs r) 49 (0, 0)) ∧ v0.cell? ⟨tb, tof + i, none⟩ = some (.string x)) := by rw [← hv0]; exact ⟨HW.out.1, HW.out.2.1⟩
            have F0 : Below wr.heap.size wr v0 := by rw [← hv0]; exact ((Below.refl _ _).drew)
            clear hv0
            refine wpAnyH_take (i := 0) (v := ?_) rfl (by kernel_rfl) (by kernel_rfl) (by kernel_rfl) (fun _ _ _ h => h) (Or.inl ⟨by kernel_rfl, ?_⟩) E0 ?_
            rotate_left
            · (intro W hS; have k1 : W.cell? ⟨ga, 1, none⟩ = some (.string r.word) := (by rw [cell_of_row _ _ _ _ _ _ hS.1]; rfl); have k2 := hS.2; go_simp; try (with_reducible rfl))
            refine wpAnyH_take (i := 1) (v := ?_) rfl (by kernel_rfl) (by kernel_rfl) (by kernel_rfl) (fun _ _ _ h => h) (Or.inl ⟨by kernel_rfl, ?_⟩) E0 ?_
            rotate_left
            · (intro W hS; have k1 : W.cell? ⟨ga, 1, none⟩ = some (.string r.word) := (by rw [cell_of_row _ _ _ _ _ _ hS.1]; rfl); have k2 := hS.2; go_simp; try (with_reducible rfl))
            refine wpAnyH_take (i := 2) (v := ?_) rfl (by kernel_rfl) (by kernel_rfl) (by kernel_rfl) (fun _ _ _ h => h) (Or.inl ⟨by kernel_rfl, ?_⟩) E0 ?_
            rotate_left
            · (intro W hS; have k1 : W.cell? ⟨ga, 1, none⟩ = some (.string r.word) := (by rw [cell_of_row _ _ _ _ _ _ hS.1]; rfl); have k2 := hS.2; go_simp; try (with_reducible rfl))
            refine wpAnyH_take (i := 3) (v := ?_) rfl (by kernel_rfl) (by kernel_rfl) (by kernel_rfl) (fun _ _ _ h => h) (Or.inl ⟨by kernel_rfl, ?_⟩) E0 ?_
            rotate_left
            · (intro W hS; have k1 : W.cell? ⟨ga, 1, none⟩ = some (.string r.word) := (by rw [cell_of_row _ _ _ _ _ _ hS.1]; rfl); have k2 := hS.2; go_simp; try (with_reducible rfl))
            refine wpAnyH_take (i := 4) (v := ?_) rfl (by kernel_rfl) (by kernel_rfl) (by kernel_rfl) (fun _ _ _ h => h) (Or.inl ⟨by kernel_rfl, ?_⟩) E0 ?_
            rotate_left
            · (intro W hS; have k1 : W.cell? ⟨ga, 1, none⟩ = some (.string r.word) := (by rw [cell_of_row _ _ _ _ _ _ hS.1]; rfl); have k2 := hS.2; go_simp; try (with_reducible rfl))
            refine wpAnyH_take (i := 5) (v := ?_) rfl (by kernel_rfl) (by kernel_rfl) (by kernel_rfl) (fun _ _ _ h => h) (Or.inl ⟨by kernel_rfl, ?_⟩) E0 ?_
            rotate_left
            · (intro W hS; have k1 : W.cell? ⟨ga, 1, none⟩ = some (.string r.word) := (by rw [cell_of_row _ _ _ _ _ _ hS.1]; rfl); have k2 := hS.2; go_simp; try (with_reducible rfl))
            refine wpAnyH_take (i := 6) (v := ?_) rfl (by kernel_rfl) (by kernel_rfl) (by kernel_rfl) (fun _ _ _ h => h) (Or.inl ⟨by kernel_rfl, ?_⟩) E0 ?_
            rotate_left
            · (intro W hS; have k1 : W.cell? ⟨ga, 1, none⟩ = some (.string r.word) := (by rw [cell_of_row _ _ _ _ _ _ hS.1]; rfl); have k2 := hS.2; go_simp; try (with_reducible rfl))
            refine wpAnyH_take (i := 7) (v := ?_) rfl (by kernel_rfl) (by kernel_rfl) (by kernel_rfl) (fun _ _ _ h => h) (Or.inl ⟨by kernel_rfl, ?_⟩) E0 ?_
            rotate_left
            · (intro W hS; have k1 : W.cell? ⟨ga, 1, none⟩ = some (.string r.word) := (by rw [cell_of_row _ _ _ _ _ _ hS.1]; rfl); have k2 := hS.2; go_simp; try (with_reducible rfl))
            refine wpAnyH_take (i := 8) (v := ?_) rfl (by kernel_rfl) (by kernel_rfl) (by kernel_rfl) (fun _ _ _ h => h) (Or.inl ⟨by kernel_rfl, ?_⟩) E0 ?_
            rotate_left
            · (intro W hS; have k1 : W.cell? ⟨ga, 1, none⟩ = some (.string r.word) := (by rw [cell_of_row _ _ _ _ _ _ hS.1]; rfl); have k2 := hS.2; go_simp; try (with_reducible rfl))
            refine wpAnyH_take (i := 9) (v := ?_) rfl (by kernel_rfl) (by kernel_rfl) (by kernel_rfl) (fun _ _ _ h => h) (Or.inl ⟨by kernel_rfl, ?_⟩) E0 ?_
            rotate_left
            · (intro W hS; have k1 : W.cell? ⟨ga, 1, none⟩ = some (.string r.word) := (by rw [cell_of_row _ _ _ _ _ _ hS.1]; rfl); have k2 := hS.2; go_simp; try (with_reducible rfl))
            refine wpAnyH_take (i := 10) (v := ?_) rfl (by kernel_rfl) (by kernel_rfl) (by kernel_rfl) (fun _ _ _ h => h) (Or.inl ⟨by kernel_rfl, ?_⟩) E0 ?_
            rotate_left
            · (intro W hS; have k1 : W.cell? ⟨ga, 1, none⟩ = some (.string r.word) := (by rw [cell_of_row _ _ _ _ _ _ hS.1]; rfl); have k2 := hS.2; go_simp; try (with_reducible rfl))
            refine wpAnyH_done (by kernel_rfl) ?_ _
            go_simp
            have HF := Lib.hid F0
            clear E0 F0
            go_wp2_with fail
            go_roundw
            case rel => exact ⟨i + 1, by omega, by go_num, by rw [HH.out], HW.out.2.2.1.trans (HF.out.mono HW.out.2.2.1.size)⟩
            case measure => simp [intOf]; omega
          · have ge : (x.toList == r.word.toList) = false := pne_toList he
            have hn : (true || inT (T.take (i + 1)) r.word) = false := by rw [HW.out.2.2.2, ← Bool.or_assoc, hh, decide_eq_false he]; rfl
            have HH := Lib.hid hn
            clear hn hh he
            go_upto_region 8 with fail
            refine wp_region_held (S := fun W : World => (W.heap[ga]? = some (.cells (ruCs r) 49 (0, 0)) ∧ W.cell? ⟨tb, tof + i, none⟩ = some (.string x))) (by kernel_rfl) ?_
            change wpAnyH _ _ _ _ _ _ _ _ (World.drew _)
            generalize hv0 : World.drew _ = v0
            have E0 : (v0.heap[ga]? = some (.cells (ruCs r) 49 (0, 0)) ∧ v0.cell? ⟨tb, tof + i, none⟩ = some (.string x)) := by rw [← hv0]; exact ⟨HW.out.1, HW.out.2.1⟩
            have F0 : Below wr.heap.size wr v0 := by rw [← hv0]; exact ((Below.refl _ _).drew)
            clear hv0
            refine wpAnyH_take (i := 0) (v := ?_) rfl (by kernel_rfl) (by kernel_rfl) (by kernel_rfl) (fun _ _ _ h => h) (Or.inl ⟨by kernel_rfl, ?_⟩) E0 ?_
            rotate_left
            · (intro W hS; have k1 : W.cell? ⟨ga, 1, none⟩ = some (.string r.word) := (by rw [cell_of_row _ _ _ _ _ _ hS.1]; rfl); have k2 := hS.2; go_simp; try (with_reducible rfl))
            refine wpAnyH_take (i := 1) (v := ?_) rfl (by kernel_rfl) (by kernel_rfl) (by kernel_rfl) (fun _ _ _ h => h) (Or.inl ⟨by kernel_rfl, ?_⟩) E0 ?_
            rotate_left
            · (intro W hS; have k1 : W.cell? ⟨ga, 1, none⟩ = some (.string r.word) := (by rw [cell_of_row _ _ _ _ _ _ hS.1]; rfl); have k2 := hS.2; go_simp; try (with_reducible rfl))
            refine wpAnyH_take (i := 2) (v := ?_) rfl (by kernel_rfl) (by kernel_rfl) (by kernel_rfl) (fun _ _ _ h => h) (Or.inl ⟨by kernel_rfl, ?_⟩) E0 ?_
            rotate_left
            · (intro W hS; have k1 : W.cell? ⟨ga, 1, none⟩ = some (.string r.word) := (by rw [cell_of_row _ _ _ _ _ _ hS.1]; rfl); have k2 := hS.2; go_simp; try (with_reducible rfl))
            refine wpAnyH_take (i := 3) (v := ?_) rfl (by kernel_rfl) (by kernel_rfl) (by kernel_rfl) (fun _ _ _ h => h) (Or.inl ⟨by kernel_rfl, ?_⟩) E0 ?_
            rotate_left
            · (intro W hS; have k1 : W.cell? ⟨ga, 1, none⟩ = some (.string r.word) := (by rw [cell_of_row _ _ _ _ _ _ hS.1]; rfl); have k2 := hS.2; go_simp; try (with_reducible rfl))
            refine wpAnyH_take (i := 4) (v := ?_) rfl (by kernel_rfl) (by kernel_rfl) (by kernel_rfl) (fun _ _ _ h => h) (Or.inl ⟨by kernel_rfl, ?_⟩) E0 ?_
            rotate_left
            · (intro W hS; have k1 : W.cell? ⟨ga, 1, none⟩ = some (.string r.word) := (by rw [cell_of_row _ _ _ _ _ _ hS.1]; rfl); have k2 := hS.2; go_simp; try (with_reducible rfl))
            refine wpAnyH_take (i := 5) (v := ?_) rfl (by kernel_rfl) (by kernel_rfl) (by kernel_rfl) (fun _ _ _ h => h) (Or.inl ⟨by kernel_rfl, ?_⟩) E0 ?_
            rotate_left
            · (intro W hS; have k1 : W.cell? ⟨ga, 1, none⟩ = some (.string r.word) := (by rw [cell_of_row _ _ _ _ _ _ hS.1]; rfl); have k2 := hS.2; go_simp; try (with_reducible rfl))
            refine wpAnyH_take (i := 6) (v := ?_) rfl (by kernel_rfl) (by kernel_rfl) (by kernel_rfl) (fun _ _ _ h => h) (Or.inl ⟨by kernel_rfl, ?_⟩) E0 ?_
            rotate_left
            · (intro W hS; have k1 : W.cell? ⟨ga, 1, none⟩ = some (.string r.word) := (by rw [cell_of_row _ _ _ _ _ _ hS.1]; rfl); have k2 := hS.2; go_simp; try (with_reducible rfl))
            refine wpAnyH_take (i := 7) (v := ?_) rfl (by kernel_rfl) (by kernel_rfl) (by kernel_rfl) (fun _ _ _ h => h) (Or.inl ⟨by kernel_rfl, ?_⟩) E0 ?_
            rotate_left
            · (intro W hS; have k1 : W.cell? ⟨ga, 1, none⟩ = some (.string r.word) := (by rw [cell_of_row _ _ _ _ _ _ hS.1]; rfl); have k2 := hS.2; go_simp; try (with_reducible rfl))
            refine wpAnyH_take (i := 8) (v := ?_) rfl (by kernel_rfl) (by kernel_rfl) (by kernel_rfl) (fun _ _ _ h => h) (Or.inl ⟨by kernel_rfl, ?_⟩) E0 ?_
            rotate_left
            · (intro W hS; have k1 : W.cell? ⟨ga, 1, none⟩ = some (.string r.word) := (by rw [cell_of_row _ _ _ _ _ _ hS.1]; rfl); have k2 := hS.2; go_simp; try (with_reducible rfl))
            refine wpAnyH_take (i := 9) (v := ?_) rfl (by kernel_rfl) (by kernel_rfl) (by kernel_rfl) (fun _ _ _ h => h) (Or.inl ⟨by kernel_rfl, ?_⟩) E0 ?_
            rotate_left
            · (intro W hS; have k1 : W.cell? ⟨ga, 1, none⟩ = some (.string r.word) := (by rw [cell_of_row _ _ _ _ _ _ hS.1]; rfl); have k2 := hS.2; go_simp; try (with_reducible rfl))
            refine wpAnyH_take (i := 10) (v := ?_) rfl (by kernel_rfl) (by kernel_rfl) (by kernel_rfl) (fun _ _ _ h => h) (Or.inl ⟨by kernel_rfl, ?_⟩) E0 ?_
            rotate_left
            · (intro W hS; have k1 : W.cell? ⟨ga, 1, none⟩ = some (.string r.word) := (by rw [cell_of_row _ _ _ _ _ _ hS.1]; rfl); have k2 := hS.2; go_simp; try (with_reducible rfl))
            refine wpAnyH_done (by kernel_rfl) ?_ _
            go_simp
            have HF := Lib.hid F0
            clear E0 F0
            go_wp2_with fail
            go_roundw
            case rel => exact ⟨i + 1, by omega, by go_num, by rw [HH.out], HW.out.2.2.1.trans (HF.out.mono HW.out.2.2.1.size)⟩
            case measure => simp [intOf]; omega
    · have gC : r.word.toList.isEmpty = false := full_list hC
      rw [decide_eq_false hC] at hz
      have HZ := Lib.hid hz
      clear hz hC
      go_enter Try.func22, Try.ntmps22
      go_upto_region 1 with fail
      rw [← hw1, ← hgq, ← hga]
      clear hw1 hga hgq
      have X0 := HA.out.1
      have c0 : w1.cell? ⟨ga, 0, none⟩ = some (.string r.who) := by rw [cell_of_row _ _ _ _ _ _ X0]; rfl
      have c1 : w1.cell? ⟨ga, 1, none⟩ = some (.string r.word) := by rw [cell_of_row _ _ _ _ _ _ X0]; rfl
      have c2 : w1.cell? ⟨ga, 2, none⟩ = some (.int .i64 r.fr) := by rw [cell_of_row _ _ _ _ _ _ X0]; rfl
      have c3 : w1.cell? ⟨ga, 3, none⟩ = some (.int .i64 r.to) := by rw [cell_of_row _ _ _ _ _ _ X0]; rfl
      have c4 : w1.cell? ⟨ga, 4, none⟩ = some (.int .i64 r.un) := by rw [cell_of_row _ _ _ _ _ _ X0]; rfl
      have c5 : w1.cell? ⟨ga, 5, none⟩ = some (.int .i64 r.mo) := by rw [cell_of_row _ _ _ _ _ _ X0]; rfl
      have c6 : w1.cell? ⟨ga, 6, none⟩ = some (.bool r.allow) := by rw [cell_of_row _ _ _ _ _ _ X0]; rfl
      clear X0
      have X0 := HA.out.2
      have d0 : w1.cell? ⟨gq, 0, none⟩ = some (.int .i64 q.id) := by rw [cell_of_row _ _ _ _ _ _ X0]; rfl
      have d1 : w1.cell? ⟨gq, 1, none⟩ = some (.string q.who) := by rw [cell_of_row _ _ _ _ _ _ X0]; rfl
      have d2 : w1.cell? ⟨gq, 2, none⟩ = some (.int .i64 q.entry) := by rw [cell_of_row _ _ _ _ _ _ X0]; rfl
      have d3 : w1.cell? ⟨gq, 3, none⟩ = some (.string q.reason) := by rw [cell_of_row _ _ _ _ _ _ X0]; rfl
      have d4 : w1.cell? ⟨gq, 4, none⟩ = some (.int .i64 q.exp) := by rw [cell_of_row _ _ _ _ _ _ X0]; rfl
      clear X0
      go_wp2_with fail
      refine (H.out.1 _).mono ?_
      rintro e w2 ⟨rfl, hb2⟩
      have H2 := Lib.hid (And.intro ((hb2.block ga (pblt_of_heap HA.out.1)).trans HA.out.1) (And.intro ((hb2.block gq (pblt_of_heap HA.out.2)).trans HA.out.2) (H.out.2.2.2.2.trans (hb2.mono H.out.2.2.2.2.size))))
      clear hb2 c0 c1 c2 c3 c4 c5 c6 d0 d1 d2 d3 d4
      have X0 := H2.out.1
      have c0 : w2.cell? ⟨ga, 0, none⟩ = some (.string r.who) := by rw [cell_of_row _ _ _ _ _ _ X0]; rfl
      have c1 : w2.cell? ⟨ga, 1, none⟩ = some (.string r.word) := by rw [cell_of_row _ _ _ _ _ _ X0]; rfl
      have c2 : w2.cell? ⟨ga, 2, none⟩ = some (.int .i64 r.fr) := by rw [cell_of_row _ _ _ _ _ _ X0]; rfl
      have c3 : w2.cell? ⟨ga, 3, none⟩ = some (.int .i64 r.to) := by rw [cell_of_row _ _ _ _ _ _ X0]; rfl
      have c4 : w2.cell? ⟨ga, 4, none⟩ = some (.int .i64 r.un) := by rw [cell_of_row _ _ _ _ _ _ X0]; rfl
      have c5 : w2.cell? ⟨ga, 5, none⟩ = some (.int .i64 r.mo) := by rw [cell_of_row _ _ _ _ _ _ X0]; rfl
      have c6 : w2.cell? ⟨ga, 6, none⟩ = some (.bool r.allow) := by rw [cell_of_row _ _ _ _ _ _ X0]; rfl
      clear X0
      have X0 := H2.out.2.1
      have d0 : w2.cell? ⟨gq, 0, none⟩ = some (.int .i64 q.id) := by rw [cell_of_row _ _ _ _ _ _ X0]; rfl
      have d1 : w2.cell? ⟨gq, 1, none⟩ = some (.string q.who) := by rw [cell_of_row _ _ _ _ _ _ X0]; rfl
      have d2 : w2.cell? ⟨gq, 2, none⟩ = some (.int .i64 q.entry) := by rw [cell_of_row _ _ _ _ _ _ X0]; rfl
      have d3 : w2.cell? ⟨gq, 3, none⟩ = some (.string q.reason) := by rw [cell_of_row _ _ _ _ _ _ X0]; rfl
      have d4 : w2.cell? ⟨gq, 4, none⟩ = some (.int .i64 q.exp) := by rw [cell_of_row _ _ _ _ _ _ X0]; rfl
      clear X0
      go_wp2_with fail
      refine (H.out.2.1 _).mono ?_
      rintro e w3 ⟨rfl, hb3⟩
      have H3 := Lib.hid (And.intro ((hb3.block ga (pblt_of_heap H2.out.1)).trans H2.out.1) (And.intro ((hb3.block gq (pblt_of_heap H2.out.2.1)).trans H2.out.2.1) (H2.out.2.2.trans (hb3.mono H2.out.2.2.size))))
      clear hb3 c0 c1 c2 c3 c4 c5 c6 d0 d1 d2 d3 d4
      have X0 := H3.out.1
      have c0 : w3.cell? ⟨ga, 0, none⟩ = some (.string r.who) := by rw [cell_of_row _ _ _ _ _ _ X0]; rfl
      have c1 : w3.cell? ⟨ga, 1, none⟩ = some (.string r.word) := by rw [cell_of_row _ _ _ _ _ _ X0]; rfl
      have c2 : w3.cell? ⟨ga, 2, none⟩ = some (.int .i64 r.fr) := by rw [cell_of_row _ _ _ _ _ _ X0]; rfl
      have c3 : w3.cell? ⟨ga, 3, none⟩ = some (.int .i64 r.to) := by rw [cell_of_row _ _ _ _ _ _ X0]; rfl
      have c4 : w3.cell? ⟨ga, 4, none⟩ = some (.int .i64 r.un) := by rw [cell_of_row _ _ _ _ _ _ X0]; rfl
      have c5 : w3.cell? ⟨ga, 5, none⟩ = some (.int .i64 r.mo) := by rw [cell_of_row _ _ _ _ _ _ X0]; rfl
      have c6 : w3.cell? ⟨ga, 6, none⟩ = some (.bool r.allow) := by rw [cell_of_row _ _ _ _ _ _ X0]; rfl
      clear X0
      have X0 := H3.out.2.1
      have d0 : w3.cell? ⟨gq, 0, none⟩ = some (.int .i64 q.id) := by rw [cell_of_row _ _ _ _ _ _ X0]; rfl
      have d1 : w3.cell? ⟨gq, 1, none⟩ = some (.string q.who) := by rw [cell_of_row _ _ _ _ _ _ X0]; rfl
      have d2 : w3.cell? ⟨gq, 2, none⟩ = some (.int .i64 q.entry) := by rw [cell_of_row _ _ _ _ _ _ X0]; rfl
      have d3 : w3.cell? ⟨gq, 3, none⟩ = some (.string q.reason) := by rw [cell_of_row _ _ _ _ _ _ X0]; rfl
      have d4 : w3.cell? ⟨gq, 4, none⟩ = some (.int .i64 q.exp) := by rw [cell_of_row _ _ _ _ _ _ X0]; rfl
      clear X0
      go_wp2_with fail
      refine (H.out.2.2.1 _).mono ?_
      rintro e w5 ⟨ad, cp, rfl, hTx, hb5⟩
      have H5 := Lib.hid (And.intro ((hb5.block ga (pblt_of_heap H3.out.1)).trans H3.out.1) (And.intro hTx (H3.out.2.2.trans (hb5.mono H3.out.2.2.size))))
      clear hb5 hTx c0 c1 c2 c3 c4 c5 c6 d0 d1 d2 d3 d4
      have X0 := H5.out.1
      have c1 : w5.cell? ⟨ga, 1, none⟩ = some (.string r.word) := by rw [cell_of_row _ _ _ _ _ _ X0]; rfl
      clear X0
      go_wp2_with fail
      clear c1
      go_loopw [8, 9] (fun v8 v9 wr => ∃ i : Nat, i ≤ tn ∧ v9 = .int .i64 (i : Int) ∧ v8 = .bool (false || inT (T.take i) r.word) ∧ Below w5.heap.size w5 wr) (fun _ v9 _ => tn - (intOf v9).toNat)
      case atStart => exact ⟨0, by omega, rfl, rfl, Below.refl _ _⟩
      case round =>
        obtain ⟨i, hi, rfl, rfl, hb⟩ := hrel
        by_cases hlt : i < tn
        rotate_left
        · obtain rfl : tn = i := by omega
          have hall : T.take tn = T := List.take_of_length_le (by have := H.out.2.2.2.1; omega)
          rw [hall]
          have HB := Lib.hid hb
          clear hb hall
          go_wp2_with fail
          go_ret
          exact ⟨by rw [HZ.out]; rfl, H5.out.2.2.trans (HB.out.mono H5.out.2.2.size)⟩
        obtain ⟨x, hx⟩ : ∃ x, T[i]? = some x := ⟨_, List.getElem?_eq_getElem (by have := H.out.2.2.2.1; omega)⟩
        obtain ⟨tb, tof, rfl, htb, htc⟩ := H5.out.2.1.below hb i (by have := H.out.2.2.2.1; omega)
        have hgx : T.getD i ByteArray.empty = x := by rw [List.getD_eq_getElem?_getD, hx]; rfl
        rw [hgx] at htc
        have hst := inT_step hx r.word
        have HW := Lib.hid (And.intro ((hb.block ga (pblt_of_heap H5.out.1)).trans H5.out.1) (And.intro htc (And.intro hb hst)))
        clear hb hst htc htb hgx hx
        cases hh : (false || inT (T.take i) r.word) with
        | true =>
          have hn : (false || inT (T.take (i + 1)) r.word) = true := by rw [HW.out.2.2.2, ← Bool.or_assoc, hh, Bool.true_or]
          have HH := Lib.hid hn
          clear hn hh
          go_upto_region 8 with fail
          refine wp_region_held (S := fun W : World => (W.heap[ga]? = some (.cells (ruCs r) 49 (0, 0)) ∧ W.cell? ⟨tb, tof + i, none⟩ = some (.string x))) (by kernel_rfl) ?_
          change wpAnyH _ _ _ _ _ _ _ _ (World.drew _)
          generalize hv0 : World.drew _ = v0
          have E0 : (v0.heap[ga]? = some (.cells (ruCs r) 49 (0, 0)) ∧ v0.cell? ⟨tb, tof + i, none⟩ = some (.string x)) := by rw [← hv0]; exact ⟨HW.out.1, HW.out.2.1⟩
          have F0 : Below wr.heap.size wr v0 := by rw [← hv0]; exact ((Below.refl _ _).drew)
          clear hv0
          refine wpAnyH_take (i := 0) (v := ?_) rfl (by kernel_rfl) (by kernel_rfl) (by kernel_rfl) (fun _ _ _ h => h) (Or.inl ⟨by kernel_rfl, ?_⟩) E0 ?_
          rotate_left
          · (intro W hS; have k1 : W.cell? ⟨ga, 1, none⟩ = some (.string r.word) := (by rw [cell_of_row _ _ _ _ _ _ hS.1]; rfl); have k2 := hS.2; go_simp; try (with_reducible rfl))
          refine wpAnyH_take (i := 1) (v := ?_) rfl (by kernel_rfl) (by kernel_rfl) (by kernel_rfl) (fun _ _ _ h => h) (Or.inl ⟨by kernel_rfl, ?_⟩) E0 ?_
          rotate_left
          · (intro W hS; have k1 : W.cell? ⟨ga, 1, none⟩ = some (.string r.word) := (by rw [cell_of_row _ _ _ _ _ _ hS.1]; rfl); have k2 := hS.2; go_simp; try (with_reducible rfl))
          refine wpAnyH_take (i := 2) (v := undef) rfl (by kernel_rfl) (by kernel_rfl) (by kernel_rfl) (fun _ _ _ h => h) (Or.inr ⟨by kernel_rfl, rfl⟩) E0 ?_
          refine wpAnyH_take (i := 3) (v := undef) rfl (by kernel_rfl) (by kernel_rfl) (by kernel_rfl) (fun _ _ _ h => h) (Or.inr ⟨by kernel_rfl, rfl⟩) E0 ?_
          refine wpAnyH_take (i := 4) (v := undef) rfl (by kernel_rfl) (by kernel_rfl) (by kernel_rfl) (fun _ _ _ h => h) (Or.inr ⟨by kernel_rfl, rfl⟩) E0 ?_
          refine wpAnyH_take (i := 5) (v := undef) rfl (by kernel_rfl) (by kernel_rfl) (by kernel_rfl) (fun _ _ _ h => h) (Or.inr ⟨by kernel_rfl, rfl⟩) E0 ?_
          refine wpAnyH_take (i := 6) (v := undef) rfl (by kernel_rfl) (by kernel_rfl) (by kernel_rfl) (fun _ _ _ h => h) (Or.inr ⟨by kernel_rfl, rfl⟩) E0 ?_
          refine wpAnyH_take (i := 7) (v := undef) rfl (by kernel_rfl) (by kernel_rfl) (by kernel_rfl) (fun _ _ _ h => h) (Or.inr ⟨by kernel_rfl, rfl⟩) E0 ?_
          refine wpAnyH_take (i := 8) (v := undef) rfl (by kernel_rfl) (by kernel_rfl) (by kernel_rfl) (fun _ _ _ h => h) (Or.inr ⟨by kernel_rfl, rfl⟩) E0 ?_
          refine wpAnyH_take (i := 9) (v := ?_) rfl (by kernel_rfl) (by kernel_rfl) (by kernel_rfl) (fun _ _ _ h => h) (Or.inl ⟨by kernel_rfl, ?_⟩) E0 ?_
          rotate_left
          · (intro W hS; have k1 : W.cell? ⟨ga, 1, none⟩ = some (.string r.word) := (by rw [cell_of_row _ _ _ _ _ _ hS.1]; rfl); have k2 := hS.2; go_simp; try (with_reducible rfl))
          refine wpAnyH_take (i := 10) (v := ?_) rfl (by kernel_rfl) (by kernel_rfl) (by kernel_rfl) (fun _ _ _ h => h) (Or.inl ⟨by kernel_rfl, ?_⟩) E0 ?_
          rotate_left
          · (intro W hS; have k1 : W.cell? ⟨ga, 1, none⟩ = some (.string r.word) := (by rw [cell_of_row _ _ _ _ _ _ hS.1]; rfl); have k2 := hS.2; go_simp; try (with_reducible rfl))
          refine wpAnyH_done (by kernel_rfl) ?_ _
          go_simp
          have HF := Lib.hid F0
          clear E0 F0
          go_wp2_with fail
          go_roundw
          case rel => exact ⟨i + 1, by omega, by go_num, by rw [HH.out], HW.out.2.2.1.trans (HF.out.mono HW.out.2.2.1.size)⟩
          case measure => simp [intOf]; omega
        | false =>
          by_cases he : x = r.word
          · have ge : (x.toList == r.word.toList) = true := peq_toList he
            have hn : (false || inT (T.take (i + 1)) r.word) = true := by rw [HW.out.2.2.2, ← Bool.or_assoc, hh, decide_eq_true he]; rfl
            have HH := Lib.hid hn
            clear hn hh he
            go_upto_region 8 with fail
            refine wp_region_held (S := fun W : World => (W.heap[ga]? = some (.cells (ruCs r) 49 (0, 0)) ∧ W.cell? ⟨tb, tof + i, none⟩ = some (.string x))) (by kernel_rfl) ?_
            change wpAnyH _ _ _ _ _ _ _ _ (World.drew _)
            generalize hv0 : World.drew _ = v0
            have E0 : (v0.heap[ga]? = some (.cells (ruCs r) 49 (0, 0)) ∧ v0.cell? ⟨tb, tof + i, none⟩ = some (.string x)) := by rw [← hv0]; exact ⟨HW.out.1, HW.out.2.1⟩
            have F0 : Below wr.heap.size wr v0 := by rw [← hv0]; exact ((Below.refl _ _).drew)
            clear hv0
            refine wpAnyH_take (i := 0) (v := ?_) rfl (by kernel_rfl) (by kernel_rfl) (by kernel_rfl) (fun _ _ _ h => h) (Or.inl ⟨by kernel_rfl, ?_⟩) E0 ?_
            rotate_left
            · (intro W hS; have k1 : W.cell? ⟨ga, 1, none⟩ = some (.string r.word) := (by rw [cell_of_row _ _ _ _ _ _ hS.1]; rfl); have k2 := hS.2; go_simp; try (with_reducible rfl))
            refine wpAnyH_take (i := 1) (v := ?_) rfl (by kernel_rfl) (by kernel_rfl) (by kernel_rfl) (fun _ _ _ h => h) (Or.inl ⟨by kernel_rfl, ?_⟩) E0 ?_
            rotate_left
            · (intro W hS; have k1 : W.cell? ⟨ga, 1, none⟩ = some (.string r.word) := (by rw [cell_of_row _ _ _ _ _ _ hS.1]; rfl); have k2 := hS.2; go_simp; try (with_reducible rfl))
            refine wpAnyH_take (i := 2) (v := ?_) rfl (by kernel_rfl) (by kernel_rfl) (by kernel_rfl) (fun _ _ _ h => h) (Or.inl ⟨by kernel_rfl, ?_⟩) E0 ?_
            rotate_left
            · (intro W hS; have k1 : W.cell? ⟨ga, 1, none⟩ = some (.string r.word) := (by rw [cell_of_row _ _ _ _ _ _ hS.1]; rfl); have k2 := hS.2; go_simp; try (with_reducible rfl))
            refine wpAnyH_take (i := 3) (v := ?_) rfl (by kernel_rfl) (by kernel_rfl) (by kernel_rfl) (fun _ _ _ h => h) (Or.inl ⟨by kernel_rfl, ?_⟩) E0 ?_
            rotate_left
            · (intro W hS; have k1 : W.cell? ⟨ga, 1, none⟩ = some (.string r.word) := (by rw [cell_of_row _ _ _ _ _ _ hS.1]; rfl); have k2 := hS.2; go_simp; try (with_reducible rfl))
            refine wpAnyH_take (i := 4) (v := ?_) rfl (by kernel_rfl) (by kernel_rfl) (by kernel_rfl) (fun _ _ _ h => h) (Or.inl ⟨by kernel_rfl, ?_⟩) E0 ?_
            rotate_left
            · (intro W hS; have k1 : W.cell? ⟨ga, 1, none⟩ = some (.string r.word) := (by rw [cell_of_row _ _ _ _ _ _ hS.1]; rfl); have k2 := hS.2; go_simp; try (with_reducible rfl))
            refine wpAnyH_take (i := 5) (v := ?_) rfl (by kernel_rfl) (by kernel_rfl) (by kernel_rfl) (fun _ _ _ h => h) (Or.inl ⟨by kernel_rfl, ?_⟩) E0 ?_
            rotate_left
            · (intro W hS; have k1 : W.cell? ⟨ga, 1, none⟩ = some (.string r.word) := (by rw [cell_of_row _ _ _ _ _ _ hS.1]; rfl); have k2 := hS.2; go_simp; try (with_reducible rfl))
            refine wpAnyH_take (i := 6) (v := ?_) rfl (by kernel_rfl) (by kernel_rfl) (by kernel_rfl) (fun _ _ _ h => h) (Or.inl ⟨by kernel_rfl, ?_⟩) E0 ?_
            rotate_left
            · (intro W hS; have k1 : W.cell? ⟨ga, 1, none⟩ = some (.string r.word) := (by rw [cell_of_row _ _ _ _ _ _ hS.1]; rfl); have k2 := hS.2; go_simp; try (with_reducible rfl))
            refine wpAnyH_take (i := 7) (v := ?_) rfl (by kernel_rfl) (by kernel_rfl) (by kernel_rfl) (fun _ _ _ h => h) (Or.inl ⟨by kernel_rfl, ?_⟩) E0 ?_
            rotate_left
            · (intro W hS; have k1 : W.cell? ⟨ga, 1, none⟩ = some (.string r.word) := (by rw [cell_of_row _ _ _ _ _ _ hS.1]; rfl); have k2 := hS.2; go_simp; try (with_reducible rfl))
            refine wpAnyH_take (i := 8) (v := ?_) rfl (by kernel_rfl) (by kernel_rfl) (by kernel_rfl) (fun _ _ _ h => h) (Or.inl ⟨by kernel_rfl, ?_⟩) E0 ?_
            rotate_left
            · (intro W hS; have k1 : W.cell? ⟨ga, 1, none⟩ = some (.string r.word) := (by rw [cell_of_row _ _ _ _ _ _ hS.1]; rfl); have k2 := hS.2; go_simp; try (with_reducible rfl))
            refine wpAnyH_take (i := 9) (v := ?_) rfl (by kernel_rfl) (by kernel_rfl) (by kernel_rfl) (fun _ _ _ h => h) (Or.inl ⟨by kernel_rfl, ?_⟩) E0 ?_
            rotate_left
            · (intro W hS; have k1 : W.cell? ⟨ga, 1, none⟩ = some (.string r.word) := (by rw [cell_of_row _ _ _ _ _ _ hS.1]; rfl); have k2 := hS.2; go_simp; try (with_reducible rfl))
            refine wpAnyH_take (i := 10) (v := ?_) rfl (by kernel_rfl) (by kernel_rfl) (by kernel_rfl) (fun _ _ _ h => h) (Or.inl ⟨by kernel_rfl, ?_⟩) E0 ?_
            rotate_left
            · (intro W hS; have k1 : W.cell? ⟨ga, 1, none⟩ = some (.string r.word) := (by rw [cell_of_row _ _ _ _ _ _ hS.1]; rfl); have k2 := hS.2; go_simp; try (with_reducible rfl))
            refine wpAnyH_done (by kernel_rfl) ?_ _
            go_simp
            have HF := Lib.hid F0
            clear E0 F0
            go_wp2_with fail
            go_roundw
            case rel => exact ⟨i + 1, by omega, by go_num, by rw [HH.out], HW.out.2.2.1.trans (HF.out.mono HW.out.2.2.1.size)⟩
            case measure => simp [intOf]; omega
          · have ge : (x.toList == r.word.toList) = false := pne_toList he
            have hn : (false || inT (T.take (i + 1)) r.word) = false := by rw [HW.out.2.2.2, ← Bool.or_assoc, hh, decide_eq_false he]; rfl
            have HH := Lib.hid hn
            clear hn hh he
            go_upto_region 8 with fail
            refine wp_region_held (S := fun W : World => (W.heap[ga]? = some (.cells (ruCs r) 49 (0, 0)) ∧ W.cell? ⟨tb, tof + i, none⟩ = some (.string x))) (by kernel_rfl) ?_
            change wpAnyH _ _ _ _ _ _ _ _ (World.drew _)
            generalize hv0 : World.drew _ = v0
            have E0 : (v0.heap[ga]? = some (.cells (ruCs r) 49 (0, 0)) ∧ v0.cell? ⟨tb, tof + i, none⟩ = some (.string x)) := by rw [← hv0]; exact ⟨HW.out.1, HW.out.2.1⟩
            have F0 : Below wr.heap.size wr v0 := by rw [← hv0]; exact ((Below.refl _ _).drew)
            clear hv0
            refine wpAnyH_take (i := 0) (v := ?_) rfl (by kernel_rfl) (by kernel_rfl) (by kernel_rfl) (fun _ _ _ h => h) (Or.inl ⟨by kernel_rfl, ?_⟩) E0 ?_
            rotate_left
            · (intro W hS; have k1 : W.cell? ⟨ga, 1, none⟩ = some (.string r.word) := (by rw [cell_of_row _ _ _ _ _ _ hS.1]; rfl); have k2 := hS.2; go_simp; try (with_reducible rfl))
            refine wpAnyH_take (i := 1) (v := ?_) rfl (by kernel_rfl) (by kernel_rfl) (by kernel_rfl) (fun _ _ _ h => h) (Or.inl ⟨by kernel_rfl, ?_⟩) E0 ?_
            rotate_left
            · (intro W hS; have k1 : W.cell? ⟨ga, 1, none⟩ = some (.string r.word) := (by rw [cell_of_row _ _ _ _ _ _ hS.1]; rfl); have k2 := hS.2; go_simp; try (with_reducible rfl))
            refine wpAnyH_take (i := 2) (v := ?_) rfl (by kernel_rfl) (by kernel_rfl) (by kernel_rfl) (fun _ _ _ h => h) (Or.inl ⟨by kernel_rfl, ?_⟩) E0 ?_
            rotate_left
            · (intro W hS; have k1 : W.cell? ⟨ga, 1, none⟩ = some (.string r.word) := (by rw [cell_of_row _ _ _ _ _ _ hS.1]; rfl); have k2 := hS.2; go_simp; try (with_reducible rfl))
            refine wpAnyH_take (i := 3) (v := ?_) rfl (by kernel_rfl) (by kernel_rfl) (by kernel_rfl) (fun _ _ _ h => h) (Or.inl ⟨by kernel_rfl, ?_⟩) E0 ?_
            rotate_left
            · (intro W hS; have k1 : W.cell? ⟨ga, 1, none⟩ = some (.string r.word) := (by rw [cell_of_row _ _ _ _ _ _ hS.1]; rfl); have k2 := hS.2; go_simp; try (with_reducible rfl))
            refine wpAnyH_take (i := 4) (v := ?_) rfl (by kernel_rfl) (by kernel_rfl) (by kernel_rfl) (fun _ _ _ h => h) (Or.inl ⟨by kernel_rfl, ?_⟩) E0 ?_
            rotate_left
            · (intro W hS; have k1 : W.cell? ⟨ga, 1, none⟩ = some (.string r.word) := (by rw [cell_of_row _ _ _ _ _ _ hS.1]; rfl); have k2 := hS.2; go_simp; try (with_reducible rfl))
            refine wpAnyH_take (i := 5) (v := ?_) rfl (by kernel_rfl) (by kernel_rfl) (by kernel_rfl) (fun _ _ _ h => h) (Or.inl ⟨by kernel_rfl, ?_⟩) E0 ?_
            rotate_left
            · (intro W hS; have k1 : W.cell? ⟨ga, 1, none⟩ = some (.string r.word) := (by rw [cell_of_row _ _ _ _ _ _ hS.1]; rfl); have k2 := hS.2; go_simp; try (with_reducible rfl))
            refine wpAnyH_take (i := 6) (v := ?_) rfl (by kernel_rfl) (by kernel_rfl) (by kernel_rfl) (fun _ _ _ h => h) (Or.inl ⟨by kernel_rfl, ?_⟩) E0 ?_
            rotate_left
            · (intro W hS; have k1 : W.cell? ⟨ga, 1, none⟩ = some (.string r.word) := (by rw [cell_of_row _ _ _ _ _ _ hS.1]; rfl); have k2 := hS.2; go_simp; try (with_reducible rfl))
            refine wpAnyH_take (i := 7) (v := ?_) rfl (by kernel_rfl) (by kernel_rfl) (by kernel_rfl) (fun _ _ _ h => h) (Or.inl ⟨by kernel_rfl, ?_⟩) E0 ?_
            rotate_left
            · (intro W hS; have k1 : W.cell? ⟨ga, 1, none⟩ = some (.string r.word) := (by rw [cell_of_row _ _ _ _ _ _ hS.1]; rfl); have k2 := hS.2; go_simp; try (with_reducible rfl))
            refine wpAnyH_take (i := 8) (v := ?_) rfl (by kernel_rfl) (by kernel_rfl) (by kernel_rfl) (fun _ _ _ h => h) (Or.inl ⟨by kernel_rfl, ?_⟩) E0 ?_
            rotate_left
            · (intro W hS; have k1 : W.cell? ⟨ga, 1, none⟩ = some (.string r.word) := (by rw [cell_of_row _ _ _ _ _ _ hS.1]; rfl); have k2 := hS.2; go_simp; try (with_reducible rfl))
            refine wpAnyH_take (i := 9) (v := ?_) rfl (by kernel_rfl) (by kernel_rfl) (by kernel_rfl) (fun _ _ _ h => h) (Or.inl ⟨by kernel_rfl, ?_⟩) E0 ?_
            rotate_left
            · (intro W hS; have k1 : W.cell? ⟨ga, 1, none⟩ = some (.string r.word) := (by rw [cell_of_row _ _ _ _ _ _ hS.1]; rfl); have k2 := hS.2; go_simp; try (with_reducible rfl))
            refine wpAnyH_take (i := 10) (v := ?_) rfl (by kernel_rfl) (by kernel_rfl) (by kernel_rfl) (fun _ _ _ h => h) (Or.inl ⟨by kernel_rfl, ?_⟩) E0 ?_
            rotate_left
            · (intro W hS; have k1 : W.cell? ⟨ga, 1, none⟩ = some (.string r.word) := (by rw [cell_of_row _ _ _ _ _ _ hS.1]; rfl); have k2 := hS.2; go_simp; try (with_reducible rfl))
            refine wpAnyH_done (by kernel_rfl) ?_ _
            go_simp
            have HF := Lib.hid F0
            clear E0 F0
            go_wp2_with fail
            go_roundw
            case rel => exact ⟨i + 1, by omega, by go_num, by rw [HH.out], HW.out.2.2.1.trans (HF.out.mono HW.out.2.2.1.size)⟩
            case measure => simp [intOf]; omega
  have gA : r.who.toList.isEmpty = false := full_list hA
  rw [decide_eq_false hA, Bool.false_or] at hZ
  clear hA
  by_cases hB : r.who = q.who
  rotate_left
  · have gB : (r.who.toList == q.who.toList) = false := pne_toList hB
    have hz : Z = false := by rw [hZ, decide_eq_false hB]; rfl
    clear hZ hB
    go_enter Try.func22, Try.ntmps22
    go_upto_region 1 with fail
    rw [← hw1, ← hgq, ← hga]
    clear hw1 hga hgq
    have X0 := HA.out.1
    have c0 : w1.cell? ⟨ga, 0, none⟩ = some (.string r.who) := by rw [cell_of_row _ _ _ _ _ _ X0]; rfl
    have c1 : w1.cell? ⟨ga, 1, none⟩ = some (.string r.word) := by rw [cell_of_row _ _ _ _ _ _ X0]; rfl
    have c2 : w1.cell? ⟨ga, 2, none⟩ = some (.int .i64 r.fr) := by rw [cell_of_row _ _ _ _ _ _ X0]; rfl
    have c3 : w1.cell? ⟨ga, 3, none⟩ = some (.int .i64 r.to) := by rw [cell_of_row _ _ _ _ _ _ X0]; rfl
    have c4 : w1.cell? ⟨ga, 4, none⟩ = some (.int .i64 r.un) := by rw [cell_of_row _ _ _ _ _ _ X0]; rfl
    have c5 : w1.cell? ⟨ga, 5, none⟩ = some (.int .i64 r.mo) := by rw [cell_of_row _ _ _ _ _ _ X0]; rfl
    have c6 : w1.cell? ⟨ga, 6, none⟩ = some (.bool r.allow) := by rw [cell_of_row _ _ _ _ _ _ X0]; rfl
    clear X0
    have X0 := HA.out.2
    have d0 : w1.cell? ⟨gq, 0, none⟩ = some (.int .i64 q.id) := by rw [cell_of_row _ _ _ _ _ _ X0]; rfl
    have d1 : w1.cell? ⟨gq, 1, none⟩ = some (.string q.who) := by rw [cell_of_row _ _ _ _ _ _ X0]; rfl
    have d2 : w1.cell? ⟨gq, 2, none⟩ = some (.int .i64 q.entry) := by rw [cell_of_row _ _ _ _ _ _ X0]; rfl
    have d3 : w1.cell? ⟨gq, 3, none⟩ = some (.string q.reason) := by rw [cell_of_row _ _ _ _ _ _ X0]; rfl
    have d4 : w1.cell? ⟨gq, 4, none⟩ = some (.int .i64 q.exp) := by rw [cell_of_row _ _ _ _ _ _ X0]; rfl
    clear X0
    go_wp2_with fail
    refine (H.out.1 _).mono ?_
    rintro e w2 ⟨rfl, hb2⟩
    have H2 := Lib.hid (And.intro ((hb2.block ga (pblt_of_heap HA.out.1)).trans HA.out.1) (And.intro ((hb2.block gq (pblt_of_heap HA.out.2)).trans HA.out.2) (H.out.2.2.2.2.trans (hb2.mono H.out.2.2.2.2.size))))
    clear hb2 c0 c1 c2 c3 c4 c5 c6 d0 d1 d2 d3 d4
    have X0 := H2.out.1
    have c0 : w2.cell? ⟨ga, 0, none⟩ = some (.string r.who) := by rw [cell_of_row _ _ _ _ _ _ X0]; rfl
    have c1 : w2.cell? ⟨ga, 1, none⟩ = some (.string r.word) := by rw [cell_of_row _ _ _ _ _ _ X0]; rfl
    have c2 : w2.cell? ⟨ga, 2, none⟩ = some (.int .i64 r.fr) := by rw [cell_of_row _ _ _ _ _ _ X0]; rfl
    have c3 : w2.cell? ⟨ga, 3, none⟩ = some (.int .i64 r.to) := by rw [cell_of_row _ _ _ _ _ _ X0]; rfl
    have c4 : w2.cell? ⟨ga, 4, none⟩ = some (.int .i64 r.un) := by rw [cell_of_row _ _ _ _ _ _ X0]; rfl
    have c5 : w2.cell? ⟨ga, 5, none⟩ = some (.int .i64 r.mo) := by rw [cell_of_row _ _ _ _ _ _ X0]; rfl
    have c6 : w2.cell? ⟨ga, 6, none⟩ = some (.bool r.allow) := by rw [cell_of_row _ _ _ _ _ _ X0]; rfl
    clear X0
    have X0 := H2.out.2.1
    have d0 : w2.cell? ⟨gq, 0, none⟩ = some (.int .i64 q.id) := by rw [cell_of_row _ _ _ _ _ _ X0]; rfl
    have d1 : w2.cell? ⟨gq, 1, none⟩ = some (.string q.who) := by rw [cell_of_row _ _ _ _ _ _ X0]; rfl
    have d2 : w2.cell? ⟨gq, 2, none⟩ = some (.int .i64 q.entry) := by rw [cell_of_row _ _ _ _ _ _ X0]; rfl
    have d3 : w2.cell? ⟨gq, 3, none⟩ = some (.string q.reason) := by rw [cell_of_row _ _ _ _ _ _ X0]; rfl
    have d4 : w2.cell? ⟨gq, 4, none⟩ = some (.int .i64 q.exp) := by rw [cell_of_row _ _ _ _ _ _ X0]; rfl
    clear X0
    go_wp2_with fail
    refine (H.out.2.1 _).mono ?_
    rintro e w3 ⟨rfl, hb3⟩
    have H3 := Lib.hid (And.intro ((hb3.block ga (pblt_of_heap H2.out.1)).trans H2.out.1) (And.intro ((hb3.block gq (pblt_of_heap H2.out.2.1)).trans H2.out.2.1) (H2.out.2.2.trans (hb3.mono H2.out.2.2.size))))
    clear hb3 c0 c1 c2 c3 c4 c5 c6 d0 d1 d2 d3 d4
    have X0 := H3.out.1
    have c0 : w3.cell? ⟨ga, 0, none⟩ = some (.string r.who) := by rw [cell_of_row _ _ _ _ _ _ X0]; rfl
    have c1 : w3.cell? ⟨ga, 1, none⟩ = some (.string r.word) := by rw [cell_of_row _ _ _ _ _ _ X0]; rfl
    have c2 : w3.cell? ⟨ga, 2, none⟩ = some (.int .i64 r.fr) := by rw [cell_of_row _ _ _ _ _ _ X0]; rfl
    have c3 : w3.cell? ⟨ga, 3, none⟩ = some (.int .i64 r.to) := by rw [cell_of_row _ _ _ _ _ _ X0]; rfl
    have c4 : w3.cell? ⟨ga, 4, none⟩ = some (.int .i64 r.un) := by rw [cell_of_row _ _ _ _ _ _ X0]; rfl
    have c5 : w3.cell? ⟨ga, 5, none⟩ = some (.int .i64 r.mo) := by rw [cell_of_row _ _ _ _ _ _ X0]; rfl
    have c6 : w3.cell? ⟨ga, 6, none⟩ = some (.bool r.allow) := by rw [cell_of_row _ _ _ _ _ _ X0]; rfl
    clear X0
    have X0 := H3.out.2.1
    have d0 : w3.cell? ⟨gq, 0, none⟩ = some (.int .i64 q.id) := by rw [cell_of_row _ _ _ _ _ _ X0]; rfl
    have d1 : w3.cell? ⟨gq, 1, none⟩ = some (.string q.who) := by rw [cell_of_row _ _ _ _ _ _ X0]; rfl
    have d2 : w3.cell? ⟨gq, 2, none⟩ = some (.int .i64 q.entry) := by rw [cell_of_row _ _ _ _ _ _ X0]; rfl
    have d3 : w3.cell? ⟨gq, 3, none⟩ = some (.string q.reason) := by rw [cell_of_row _ _ _ _ _ _ X0]; rfl
    have d4 : w3.cell? ⟨gq, 4, none⟩ = some (.int .i64 q.exp) := by rw [cell_of_row _ _ _ _ _ _ X0]; rfl
    clear X0
    go_wp2_with fail
    go_ret
    exact ⟨by first | rfl | (rw [hz]; rfl), H3.out.2.2⟩
  have gB : (r.who.toList == q.who.toList) = true := peq_toList hB
  rw [decide_eq_true hB, Bool.true_and] at hZ
  clear hB
  by_cases h1 : r.fr ≤ q.entry
  rotate_left
  · have hz : Z = false := by rw [hZ]; simp; omega
    clear hZ
    go_enter Try.func22, Try.ntmps22
    go_upto_region 1 with fail
    rw [← hw1, ← hgq, ← hga]
    clear hw1 hga hgq
    have X0 := HA.out.1
    have c0 : w1.cell? ⟨ga, 0, none⟩ = some (.string r.who) := by rw [cell_of_row _ _ _ _ _ _ X0]; rfl
    have c1 : w1.cell? ⟨ga, 1, none⟩ = some (.string r.word) := by rw [cell_of_row _ _ _ _ _ _ X0]; rfl
    have c2 : w1.cell? ⟨ga, 2, none⟩ = some (.int .i64 r.fr) := by rw [cell_of_row _ _ _ _ _ _ X0]; rfl
    have c3 : w1.cell? ⟨ga, 3, none⟩ = some (.int .i64 r.to) := by rw [cell_of_row _ _ _ _ _ _ X0]; rfl
    have c4 : w1.cell? ⟨ga, 4, none⟩ = some (.int .i64 r.un) := by rw [cell_of_row _ _ _ _ _ _ X0]; rfl
    have c5 : w1.cell? ⟨ga, 5, none⟩ = some (.int .i64 r.mo) := by rw [cell_of_row _ _ _ _ _ _ X0]; rfl
    have c6 : w1.cell? ⟨ga, 6, none⟩ = some (.bool r.allow) := by rw [cell_of_row _ _ _ _ _ _ X0]; rfl
    clear X0
    have X0 := HA.out.2
    have d0 : w1.cell? ⟨gq, 0, none⟩ = some (.int .i64 q.id) := by rw [cell_of_row _ _ _ _ _ _ X0]; rfl
    have d1 : w1.cell? ⟨gq, 1, none⟩ = some (.string q.who) := by rw [cell_of_row _ _ _ _ _ _ X0]; rfl
    have d2 : w1.cell? ⟨gq, 2, none⟩ = some (.int .i64 q.entry) := by rw [cell_of_row _ _ _ _ _ _ X0]; rfl
    have d3 : w1.cell? ⟨gq, 3, none⟩ = some (.string q.reason) := by rw [cell_of_row _ _ _ _ _ _ X0]; rfl
    have d4 : w1.cell? ⟨gq, 4, none⟩ = some (.int .i64 q.exp) := by rw [cell_of_row _ _ _ _ _ _ X0]; rfl
    clear X0
    go_wp2_with fail
    refine (H.out.1 _).mono ?_
    rintro e w2 ⟨rfl, hb2⟩
    have H2 := Lib.hid (And.intro ((hb2.block ga (pblt_of_heap HA.out.1)).trans HA.out.1) (And.intro ((hb2.block gq (pblt_of_heap HA.out.2)).trans HA.out.2) (H.out.2.2.2.2.trans (hb2.mono H.out.2.2.2.2.size))))
    clear hb2 c0 c1 c2 c3 c4 c5 c6 d0 d1 d2 d3 d4
    have X0 := H2.out.1
    have c0 : w2.cell? ⟨ga, 0, none⟩ = some (.string r.who) := by rw [cell_of_row _ _ _ _ _ _ X0]; rfl
    have c1 : w2.cell? ⟨ga, 1, none⟩ = some (.string r.word) := by rw [cell_of_row _ _ _ _ _ _ X0]; rfl
    have c2 : w2.cell? ⟨ga, 2, none⟩ = some (.int .i64 r.fr) := by rw [cell_of_row _ _ _ _ _ _ X0]; rfl
    have c3 : w2.cell? ⟨ga, 3, none⟩ = some (.int .i64 r.to) := by rw [cell_of_row _ _ _ _ _ _ X0]; rfl
    have c4 : w2.cell? ⟨ga, 4, none⟩ = some (.int .i64 r.un) := by rw [cell_of_row _ _ _ _ _ _ X0]; rfl
    have c5 : w2.cell? ⟨ga, 5, none⟩ = some (.int .i64 r.mo) := by rw [cell_of_row _ _ _ _ _ _ X0]; rfl
    have c6 : w2.cell? ⟨ga, 6, none⟩ = some (.bool r.allow) := by rw [cell_of_row _ _ _ _ _ _ X0]; rfl
    clear X0
    have X0 := H2.out.2.1
    have d0 : w2.cell? ⟨gq, 0, none⟩ = some (.int .i64 q.id) := by rw [cell_of_row _ _ _ _ _ _ X0]; rfl
    have d1 : w2.cell? ⟨gq, 1, none⟩ = some (.string q.who) := by rw [cell_of_row _ _ _ _ _ _ X0]; rfl
    have d2 : w2.cell? ⟨gq, 2, none⟩ = some (.int .i64 q.entry) := by rw [cell_of_row _ _ _ _ _ _ X0]; rfl
    have d3 : w2.cell? ⟨gq, 3, none⟩ = some (.string q.reason) := by rw [cell_of_row _ _ _ _ _ _ X0]; rfl
    have d4 : w2.cell? ⟨gq, 4, none⟩ = some (.int .i64 q.exp) := by rw [cell_of_row _ _ _ _ _ _ X0]; rfl
    clear X0
    go_wp2_with fail
    refine (H.out.2.1 _).mono ?_
    rintro e w3 ⟨rfl, hb3⟩
    have H3 := Lib.hid (And.intro ((hb3.block ga (pblt_of_heap H2.out.1)).trans H2.out.1) (And.intro ((hb3.block gq (pblt_of_heap H2.out.2.1)).trans H2.out.2.1) (H2.out.2.2.trans (hb3.mono H2.out.2.2.size))))
    clear hb3 c0 c1 c2 c3 c4 c5 c6 d0 d1 d2 d3 d4
    have X0 := H3.out.1
    have c0 : w3.cell? ⟨ga, 0, none⟩ = some (.string r.who) := by rw [cell_of_row _ _ _ _ _ _ X0]; rfl
    have c1 : w3.cell? ⟨ga, 1, none⟩ = some (.string r.word) := by rw [cell_of_row _ _ _ _ _ _ X0]; rfl
    have c2 : w3.cell? ⟨ga, 2, none⟩ = some (.int .i64 r.fr) := by rw [cell_of_row _ _ _ _ _ _ X0]; rfl
    have c3 : w3.cell? ⟨ga, 3, none⟩ = some (.int .i64 r.to) := by rw [cell_of_row _ _ _ _ _ _ X0]; rfl
    have c4 : w3.cell? ⟨ga, 4, none⟩ = some (.int .i64 r.un) := by rw [cell_of_row _ _ _ _ _ _ X0]; rfl
    have c5 : w3.cell? ⟨ga, 5, none⟩ = some (.int .i64 r.mo) := by rw [cell_of_row _ _ _ _ _ _ X0]; rfl
    have c6 : w3.cell? ⟨ga, 6, none⟩ = some (.bool r.allow) := by rw [cell_of_row _ _ _ _ _ _ X0]; rfl
    clear X0
    have X0 := H3.out.2.1
    have d0 : w3.cell? ⟨gq, 0, none⟩ = some (.int .i64 q.id) := by rw [cell_of_row _ _ _ _ _ _ X0]; rfl
    have d1 : w3.cell? ⟨gq, 1, none⟩ = some (.string q.who) := by rw [cell_of_row _ _ _ _ _ _ X0]; rfl
    have d2 : w3.cell? ⟨gq, 2, none⟩ = some (.int .i64 q.entry) := by rw [cell_of_row _ _ _ _ _ _ X0]; rfl
    have d3 : w3.cell? ⟨gq, 3, none⟩ = some (.string q.reason) := by rw [cell_of_row _ _ _ _ _ _ X0]; rfl
    have d4 : w3.cell? ⟨gq, 4, none⟩ = some (.int .i64 q.exp) := by rw [cell_of_row _ _ _ _ _ _ X0]; rfl
    clear X0
    go_wp2_with fail
    go_ret
    exact ⟨by first | rfl | (rw [hz]; rfl), H3.out.2.2⟩
  by_cases h2 : q.entry < r.to
  rotate_left
  · have hz : Z = false := by rw [hZ]; simp; omega
    clear hZ
    go_enter Try.func22, Try.ntmps22
    go_upto_region 1 with fail
    rw [← hw1, ← hgq, ← hga]
    clear hw1 hga hgq
    have X0 := HA.out.1
    have c0 : w1.cell? ⟨ga, 0, none⟩ = some (.string r.who) := by rw [cell_of_row _ _ _ _ _ _ X0]; rfl
    have c1 : w1.cell? ⟨ga, 1, none⟩ = some (.string r.word) := by rw [cell_of_row _ _ _ _ _ _ X0]; rfl
    have c2 : w1.cell? ⟨ga, 2, none⟩ = some (.int .i64 r.fr) := by rw [cell_of_row _ _ _ _ _ _ X0]; rfl
    have c3 : w1.cell? ⟨ga, 3, none⟩ = some (.int .i64 r.to) := by rw [cell_of_row _ _ _ _ _ _ X0]; rfl
    have c4 : w1.cell? ⟨ga, 4, none⟩ = some (.int .i64 r.un) := by rw [cell_of_row _ _ _ _ _ _ X0]; rfl
    have c5 : w1.cell? ⟨ga, 5, none⟩ = some (.int .i64 r.mo) := by rw [cell_of_row _ _ _ _ _ _ X0]; rfl
    have c6 : w1.cell? ⟨ga, 6, none⟩ = some (.bool r.allow) := by rw [cell_of_row _ _ _ _ _ _ X0]; rfl
    clear X0
    have X0 := HA.out.2
    have d0 : w1.cell? ⟨gq, 0, none⟩ = some (.int .i64 q.id) := by rw [cell_of_row _ _ _ _ _ _ X0]; rfl
    have d1 : w1.cell? ⟨gq, 1, none⟩ = some (.string q.who) := by rw [cell_of_row _ _ _ _ _ _ X0]; rfl
    have d2 : w1.cell? ⟨gq, 2, none⟩ = some (.int .i64 q.entry) := by rw [cell_of_row _ _ _ _ _ _ X0]; rfl
    have d3 : w1.cell? ⟨gq, 3, none⟩ = some (.string q.reason) := by rw [cell_of_row _ _ _ _ _ _ X0]; rfl
    have d4 : w1.cell? ⟨gq, 4, none⟩ = some (.int .i64 q.exp) := by rw [cell_of_row _ _ _ _ _ _ X0]; rfl
    clear X0
    go_wp2_with fail
    refine (H.out.1 _).mono ?_
    rintro e w2 ⟨rfl, hb2⟩
    have H2 := Lib.hid (And.intro ((hb2.block ga (pblt_of_heap HA.out.1)).trans HA.out.1) (And.intro ((hb2.block gq (pblt_of_heap HA.out.2)).trans HA.out.2) (H.out.2.2.2.2.trans (hb2.mono H.out.2.2.2.2.size))))
    clear hb2 c0 c1 c2 c3 c4 c5 c6 d0 d1 d2 d3 d4
    have X0 := H2.out.1
    have c0 : w2.cell? ⟨ga, 0, none⟩ = some (.string r.who) := by rw [cell_of_row _ _ _ _ _ _ X0]; rfl
    have c1 : w2.cell? ⟨ga, 1, none⟩ = some (.string r.word) := by rw [cell_of_row _ _ _ _ _ _ X0]; rfl
    have c2 : w2.cell? ⟨ga, 2, none⟩ = some (.int .i64 r.fr) := by rw [cell_of_row _ _ _ _ _ _ X0]; rfl
    have c3 : w2.cell? ⟨ga, 3, none⟩ = some (.int .i64 r.to) := by rw [cell_of_row _ _ _ _ _ _ X0]; rfl
    have c4 : w2.cell? ⟨ga, 4, none⟩ = some (.int .i64 r.un) := by rw [cell_of_row _ _ _ _ _ _ X0]; rfl
    have c5 : w2.cell? ⟨ga, 5, none⟩ = some (.int .i64 r.mo) := by rw [cell_of_row _ _ _ _ _ _ X0]; rfl
    have c6 : w2.cell? ⟨ga, 6, none⟩ = some (.bool r.allow) := by rw [cell_of_row _ _ _ _ _ _ X0]; rfl
    clear X0
    have X0 := H2.out.2.1
    have d0 : w2.cell? ⟨gq, 0, none⟩ = some (.int .i64 q.id) := by rw [cell_of_row _ _ _ _ _ _ X0]; rfl
    have d1 : w2.cell? ⟨gq, 1, none⟩ = some (.string q.who) := by rw [cell_of_row _ _ _ _ _ _ X0]; rfl
    have d2 : w2.cell? ⟨gq, 2, none⟩ = some (.int .i64 q.entry) := by rw [cell_of_row _ _ _ _ _ _ X0]; rfl
    have d3 : w2.cell? ⟨gq, 3, none⟩ = some (.string q.reason) := by rw [cell_of_row _ _ _ _ _ _ X0]; rfl
    have d4 : w2.cell? ⟨gq, 4, none⟩ = some (.int .i64 q.exp) := by rw [cell_of_row _ _ _ _ _ _ X0]; rfl
    clear X0
    go_wp2_with fail
    refine (H.out.2.1 _).mono ?_
    rintro e w3 ⟨rfl, hb3⟩
    have H3 := Lib.hid (And.intro ((hb3.block ga (pblt_of_heap H2.out.1)).trans H2.out.1) (And.intro ((hb3.block gq (pblt_of_heap H2.out.2.1)).trans H2.out.2.1) (H2.out.2.2.trans (hb3.mono H2.out.2.2.size))))
    clear hb3 c0 c1 c2 c3 c4 c5 c6 d0 d1 d2 d3 d4
    have X0 := H3.out.1
    have c0 : w3.cell? ⟨ga, 0, none⟩ = some (.string r.who) := by rw [cell_of_row _ _ _ _ _ _ X0]; rfl
    have c1 : w3.cell? ⟨ga, 1, none⟩ = some (.string r.word) := by rw [cell_of_row _ _ _ _ _ _ X0]; rfl
    have c2 : w3.cell? ⟨ga, 2, none⟩ = some (.int .i64 r.fr) := by rw [cell_of_row _ _ _ _ _ _ X0]; rfl
    have c3 : w3.cell? ⟨ga, 3, none⟩ = some (.int .i64 r.to) := by rw [cell_of_row _ _ _ _ _ _ X0]; rfl
    have c4 : w3.cell? ⟨ga, 4, none⟩ = some (.int .i64 r.un) := by rw [cell_of_row _ _ _ _ _ _ X0]; rfl
    have c5 : w3.cell? ⟨ga, 5, none⟩ = some (.int .i64 r.mo) := by rw [cell_of_row _ _ _ _ _ _ X0]; rfl
    have c6 : w3.cell? ⟨ga, 6, none⟩ = some (.bool r.allow) := by rw [cell_of_row _ _ _ _ _ _ X0]; rfl
    clear X0
    have X0 := H3.out.2.1
    have d0 : w3.cell? ⟨gq, 0, none⟩ = some (.int .i64 q.id) := by rw [cell_of_row _ _ _ _ _ _ X0]; rfl
    have d1 : w3.cell? ⟨gq, 1, none⟩ = some (.string q.who) := by rw [cell_of_row _ _ _ _ _ _ X0]; rfl
    have d2 : w3.cell? ⟨gq, 2, none⟩ = some (.int .i64 q.entry) := by rw [cell_of_row _ _ _ _ _ _ X0]; rfl
    have d3 : w3.cell? ⟨gq, 3, none⟩ = some (.string q.reason) := by rw [cell_of_row _ _ _ _ _ _ X0]; rfl
    have d4 : w3.cell? ⟨gq, 4, none⟩ = some (.int .i64 q.exp) := by rw [cell_of_row _ _ _ _ _ _ X0]; rfl
    clear X0
    go_wp2_with fail
    go_ret
    exact ⟨by first | rfl | (rw [hz]; rfl), H3.out.2.2⟩
  by_cases h3 : now ≤ r.un
  rotate_left
  · have hz : Z = false := by rw [hZ]; simp; omega
    clear hZ
    go_enter Try.func22, Try.ntmps22
    go_upto_region 1 with fail
    rw [← hw1, ← hgq, ← hga]
    clear hw1 hga hgq
    have X0 := HA.out.1
    have c0 : w1.cell? ⟨ga, 0, none⟩ = some (.string r.who) := by rw [cell_of_row _ _ _ _ _ _ X0]; rfl
    have c1 : w1.cell? ⟨ga, 1, none⟩ = some (.string r.word) := by rw [cell_of_row _ _ _ _ _ _ X0]; rfl
    have c2 : w1.cell? ⟨ga, 2, none⟩ = some (.int .i64 r.fr) := by rw [cell_of_row _ _ _ _ _ _ X0]; rfl
    have c3 : w1.cell? ⟨ga, 3, none⟩ = some (.int .i64 r.to) := by rw [cell_of_row _ _ _ _ _ _ X0]; rfl
    have c4 : w1.cell? ⟨ga, 4, none⟩ = some (.int .i64 r.un) := by rw [cell_of_row _ _ _ _ _ _ X0]; rfl
    have c5 : w1.cell? ⟨ga, 5, none⟩ = some (.int .i64 r.mo) := by rw [cell_of_row _ _ _ _ _ _ X0]; rfl
    have c6 : w1.cell? ⟨ga, 6, none⟩ = some (.bool r.allow) := by rw [cell_of_row _ _ _ _ _ _ X0]; rfl
    clear X0
    have X0 := HA.out.2
    have d0 : w1.cell? ⟨gq, 0, none⟩ = some (.int .i64 q.id) := by rw [cell_of_row _ _ _ _ _ _ X0]; rfl
    have d1 : w1.cell? ⟨gq, 1, none⟩ = some (.string q.who) := by rw [cell_of_row _ _ _ _ _ _ X0]; rfl
    have d2 : w1.cell? ⟨gq, 2, none⟩ = some (.int .i64 q.entry) := by rw [cell_of_row _ _ _ _ _ _ X0]; rfl
    have d3 : w1.cell? ⟨gq, 3, none⟩ = some (.string q.reason) := by rw [cell_of_row _ _ _ _ _ _ X0]; rfl
    have d4 : w1.cell? ⟨gq, 4, none⟩ = some (.int .i64 q.exp) := by rw [cell_of_row _ _ _ _ _ _ X0]; rfl
    clear X0
    go_wp2_with fail
    refine (H.out.1 _).mono ?_
    rintro e w2 ⟨rfl, hb2⟩
    have H2 := Lib.hid (And.intro ((hb2.block ga (pblt_of_heap HA.out.1)).trans HA.out.1) (And.intro ((hb2.block gq (pblt_of_heap HA.out.2)).trans HA.out.2) (H.out.2.2.2.2.trans (hb2.mono H.out.2.2.2.2.size))))
    clear hb2 c0 c1 c2 c3 c4 c5 c6 d0 d1 d2 d3 d4
    have X0 := H2.out.1
    have c0 : w2.cell? ⟨ga, 0, none⟩ = some (.string r.who) := by rw [cell_of_row _ _ _ _ _ _ X0]; rfl
    have c1 : w2.cell? ⟨ga, 1, none⟩ = some (.string r.word) := by rw [cell_of_row _ _ _ _ _ _ X0]; rfl
    have c2 : w2.cell? ⟨ga, 2, none⟩ = some (.int .i64 r.fr) := by rw [cell_of_row _ _ _ _ _ _ X0]; rfl
    have c3 : w2.cell? ⟨ga, 3, none⟩ = some (.int .i64 r.to) := by rw [cell_of_row _ _ _ _ _ _ X0]; rfl
    have c4 : w2.cell? ⟨ga, 4, none⟩ = some (.int .i64 r.un) := by rw [cell_of_row _ _ _ _ _ _ X0]; rfl
    have c5 : w2.cell? ⟨ga, 5, none⟩ = some (.int .i64 r.mo) := by rw [cell_of_row _ _ _ _ _ _ X0]; rfl
    have c6 : w2.cell? ⟨ga, 6, none⟩ = some (.bool r.allow) := by rw [cell_of_row _ _ _ _ _ _ X0]; rfl
    clear X0
    have X0 := H2.out.2.1
    have d0 : w2.cell? ⟨gq, 0, none⟩ = some (.int .i64 q.id) := by rw [cell_of_row _ _ _ _ _ _ X0]; rfl
    have d1 : w2.cell? ⟨gq, 1, none⟩ = some (.string q.who) := by rw [cell_of_row _ _ _ _ _ _ X0]; rfl
    have d2 : w2.cell? ⟨gq, 2, none⟩ = some (.int .i64 q.entry) := by rw [cell_of_row _ _ _ _ _ _ X0]; rfl
    have d3 : w2.cell? ⟨gq, 3, none⟩ = some (.string q.reason) := by rw [cell_of_row _ _ _ _ _ _ X0]; rfl
    have d4 : w2.cell? ⟨gq, 4, none⟩ = some (.int .i64 q.exp) := by rw [cell_of_row _ _ _ _ _ _ X0]; rfl
    clear X0
    go_wp2_with fail
    refine (H.out.2.1 _).mono ?_
    rintro e w3 ⟨rfl, hb3⟩
    have H3 := Lib.hid (And.intro ((hb3.block ga (pblt_of_heap H2.out.1)).trans H2.out.1) (And.intro ((hb3.block gq (pblt_of_heap H2.out.2.1)).trans H2.out.2.1) (H2.out.2.2.trans (hb3.mono H2.out.2.2.size))))
    clear hb3 c0 c1 c2 c3 c4 c5 c6 d0 d1 d2 d3 d4
    have X0 := H3.out.1
    have c0 : w3.cell? ⟨ga, 0, none⟩ = some (.string r.who) := by rw [cell_of_row _ _ _ _ _ _ X0]; rfl
    have c1 : w3.cell? ⟨ga, 1, none⟩ = some (.string r.word) := by rw [cell_of_row _ _ _ _ _ _ X0]; rfl
    have c2 : w3.cell? ⟨ga, 2, none⟩ = some (.int .i64 r.fr) := by rw [cell_of_row _ _ _ _ _ _ X0]; rfl
    have c3 : w3.cell? ⟨ga, 3, none⟩ = some (.int .i64 r.to) := by rw [cell_of_row _ _ _ _ _ _ X0]; rfl
    have c4 : w3.cell? ⟨ga, 4, none⟩ = some (.int .i64 r.un) := by rw [cell_of_row _ _ _ _ _ _ X0]; rfl
    have c5 : w3.cell? ⟨ga, 5, none⟩ = some (.int .i64 r.mo) := by rw [cell_of_row _ _ _ _ _ _ X0]; rfl
    have c6 : w3.cell? ⟨ga, 6, none⟩ = some (.bool r.allow) := by rw [cell_of_row _ _ _ _ _ _ X0]; rfl
    clear X0
    have X0 := H3.out.2.1
    have d0 : w3.cell? ⟨gq, 0, none⟩ = some (.int .i64 q.id) := by rw [cell_of_row _ _ _ _ _ _ X0]; rfl
    have d1 : w3.cell? ⟨gq, 1, none⟩ = some (.string q.who) := by rw [cell_of_row _ _ _ _ _ _ X0]; rfl
    have d2 : w3.cell? ⟨gq, 2, none⟩ = some (.int .i64 q.entry) := by rw [cell_of_row _ _ _ _ _ _ X0]; rfl
    have d3 : w3.cell? ⟨gq, 3, none⟩ = some (.string q.reason) := by rw [cell_of_row _ _ _ _ _ _ X0]; rfl
    have d4 : w3.cell? ⟨gq, 4, none⟩ = some (.int .i64 q.exp) := by rw [cell_of_row _ _ _ _ _ _ X0]; rfl
    clear X0
    go_wp2_with fail
    go_ret
    exact ⟨by first | rfl | (rw [hz]; rfl), H3.out.2.2⟩
  have hz : Z = (decide (r.word.size = 0) || inT T r.word) := by rw [hZ, decide_eq_true h1, decide_eq_true h2, decide_eq_true h3, Bool.and_true, Bool.and_true, Bool.and_true]
  clear hZ
  by_cases hC : r.word.size = 0
  · have gC : r.word.toList.isEmpty = true := empty_list hC
    rw [decide_eq_true hC] at hz
    have HZ := Lib.hid hz
    clear hz hC
    go_enter Try.func22, Try.ntmps22
    go_upto_region 1 with fail
    rw [← hw1, ← hgq, ← hga]
    clear hw1 hga hgq
    have X0 := HA.out.1
    have c0 : w1.cell? ⟨ga, 0, none⟩ = some (.string r.who) := by rw [cell_of_row _ _ _ _ _ _ X0]; rfl
    have c1 : w1.cell? ⟨ga, 1, none⟩ = some (.string r.word) := by rw [cell_of_row _ _ _ _ _ _ X0]; rfl
    have c2 : w1.cell? ⟨ga, 2, none⟩ = some (.int .i64 r.fr) := by rw [cell_of_row _ _ _ _ _ _ X0]; rfl
    have c3 : w1.cell? ⟨ga, 3, none⟩ = some (.int .i64 r.to) := by rw [cell_of_row _ _ _ _ _ _ X0]; rfl
    have c4 : w1.cell? ⟨ga, 4, none⟩ = some (.int .i64 r.un) := by rw [cell_of_row _ _ _ _ _ _ X0]; rfl
    have c5 : w1.cell? ⟨ga, 5, none⟩ = some (.int .i64 r.mo) := by rw [cell_of_row _ _ _ _ _ _ X0]; rfl
    have c6 : w1.cell? ⟨ga, 6, none⟩ = some (.bool r.allow) := by rw [cell_of_row _ _ _ _ _ _ X0]; rfl
    clear X0
    have X0 := HA.out.2
    have d0 : w1.cell? ⟨gq, 0, none⟩ = some (.int .i64 q.id) := by rw [cell_of_row _ _ _ _ _ _ X0]; rfl
    have d1 : w1.cell? ⟨gq, 1, none⟩ = some (.string q.who) := by rw [cell_of_row _ _ _ _ _ _ X0]; rfl
    have d2 : w1.cell? ⟨gq, 2, none⟩ = some (.int .i64 q.entry) := by rw [cell_of_row _ _ _ _ _ _ X0]; rfl
    have d3 : w1.cell? ⟨gq, 3, none⟩ = some (.string q.reason) := by rw [cell_of_row _ _ _ _ _ _ X0]; rfl
    have d4 : w1.cell? ⟨gq, 4, none⟩ = some (.int .i64 q.exp) := by rw [cell_of_row _ _ _ _ _ _ X0]; rfl
    clear X0
    go_wp2_with fail
    refine (H.out.1 _).mono ?_
    rintro e w2 ⟨rfl, hb2⟩
    have H2 := Lib.hid (And.intro ((hb2.block ga (pblt_of_heap HA.out.1)).trans HA.out.1) (And.intro ((hb2.block gq (pblt_of_heap HA.out.2)).trans HA.out.2) (H.out.2.2.2.2.trans (hb2.mono H.out.2.2.2.2.size))))
    clear hb2 c0 c1 c2 c3 c4 c5 c6 d0 d1 d2 d3 d4
    have X0 := H2.out.1
    have c0 : w2.cell? ⟨ga, 0, none⟩ = some (.string r.who) := by rw [cell_of_row _ _ _ _ _ _ X0]; rfl
    have c1 : w2.cell? ⟨ga, 1, none⟩ = some (.string r.word) := by rw [cell_of_row _ _ _ _ _ _ X0]; rfl
    have c2 : w2.cell? ⟨ga, 2, none⟩ = some (.int .i64 r.fr) := by rw [cell_of_row _ _ _ _ _ _ X0]; rfl
    have c3 : w2.cell? ⟨ga, 3, none⟩ = some (.int .i64 r.to) := by rw [cell_of_row _ _ _ _ _ _ X0]; rfl
    have c4 : w2.cell? ⟨ga, 4, none⟩ = some (.int .i64 r.un) := by rw [cell_of_row _ _ _ _ _ _ X0]; rfl
    have c5 : w2.cell? ⟨ga, 5, none⟩ = some (.int .i64 r.mo) := by rw [cell_of_row _ _ _ _ _ _ X0]; rfl
    have c6 : w2.cell? ⟨ga, 6, none⟩ = some (.bool r.allow) := by rw [cell_of_row _ _ _ _ _ _ X0]; rfl
    clear X0
    have X0 := H2.out.2.1
    have d0 : w2.cell? ⟨gq, 0, none⟩ = some (.int .i64 q.id) := by rw [cell_of_row _ _ _ _ _ _ X0]; rfl
    have d1 : w2.cell? ⟨gq, 1, none⟩ = some (.string q.who) := by rw [cell_of_row _ _ _ _ _ _ X0]; rfl
    have d2 : w2.cell? ⟨gq, 2, none⟩ = some (.int .i64 q.entry) := by rw [cell_of_row _ _ _ _ _ _ X0]; rfl
    have d3 : w2.cell? ⟨gq, 3, none⟩ = some (.string q.reason) := by rw [cell_of_row _ _ _ _ _ _ X0]; rfl
    have d4 : w2.cell? ⟨gq, 4, none⟩ = some (.int .i64 q.exp) := by rw [cell_of_row _ _ _ _ _ _ X0]; rfl
    clear X0
    go_wp2_with fail
    refine (H.out.2.1 _).mono ?_
    rintro e w3 ⟨rfl, hb3⟩
    have H3 := Lib.hid (And.intro ((hb3.block ga (pblt_of_heap H2.out.1)).trans H2.out.1) (And.intro ((hb3.block gq (pblt_of_heap H2.out.2.1)).trans H2.out.2.1) (H2.out.2.2.trans (hb3.mono H2.out.2.2.size))))
    clear hb3 c0 c1 c2 c3 c4 c5 c6 d0 d1 d2 d3 d4
    have X0 := H3.out.1
    have c0 : w3.cell? ⟨ga, 0, none⟩ = some (.string r.who) := by rw [cell_of_row _ _ _ _ _ _ X0]; rfl
    have c1 : w3.cell? ⟨ga, 1, none⟩ = some (.string r.word) := by rw [cell_of_row _ _ _ _ _ _ X0]; rfl
    have c2 : w3.cell? ⟨ga, 2, none⟩ = some (.int .i64 r.fr) := by rw [cell_of_row _ _ _ _ _ _ X0]; rfl
    have c3 : w3.cell? ⟨ga, 3, none⟩ = some (.int .i64 r.to) := by rw [cell_of_row _ _ _ _ _ _ X0]; rfl
    have c4 : w3.cell? ⟨ga, 4, none⟩ = some (.int .i64 r.un) := by rw [cell_of_row _ _ _ _ _ _ X0]; rfl
    have c5 : w3.cell? ⟨ga, 5, none⟩ = some (.int .i64 r.mo) := by rw [cell_of_row _ _ _ _ _ _ X0]; rfl
    have c6 : w3.cell? ⟨ga, 6, none⟩ = some (.bool r.allow) := by rw [cell_of_row _ _ _ _ _ _ X0]; rfl
    clear X0
    have X0 := H3.out.2.1
    have d0 : w3.cell? ⟨gq, 0, none⟩ = some (.int .i64 q.id) := by rw [cell_of_row _ _ _ _ _ _ X0]; rfl
    have d1 : w3.cell? ⟨gq, 1, none⟩ = some (.string q.who) := by rw [cell_of_row _ _ _ _ _ _ X0]; rfl
    have d2 : w3.cell? ⟨gq, 2, none⟩ = some (.int .i64 q.entry) := by rw [cell_of_row _ _ _ _ _ _ X0]; rfl
    have d3 : w3.cell? ⟨gq, 3, none⟩ = some (.string q.reason) := by rw [cell_of_row _ _ _ _ _ _ X0]; rfl
    have d4 : w3.cell? ⟨gq, 4, none⟩ = some (.int .i64 q.exp) := by rw [cell_of_row _ _ _ _ _ _ X0]; rfl
    clear X0
    go_wp2_with fail
    refine (H.out.2.2.1 _).mono ?_
    rintro e w5 ⟨ad, cp, rfl, hTx, hb5⟩
    have H5 := Lib.hid (And.intro ((hb5.block ga (pblt_of_heap H3.out.1)).trans H3.out.1) (And.intro hTx (H3.out.2.2.trans (hb5.mono H3.out.2.2.size))))
    clear hb5 hTx c0 c1 c2 c3 c4 c5 c6 d0 d1 d2 d3 d4
    have X0 := H5.out.1
    have c1 : w5.cell? ⟨ga, 1, none⟩ = some (.string r.word) := by rw [cell_of_row _ _ _ _ _ _ X0]; rfl
    clear X0
    go_wp2_with fail
    clear c1
    go_loopw [8, 9] (fun v8 v9 wr => ∃ i : Nat, i ≤ tn ∧ v9 = .int .i64 (i : Int) ∧ v8 = .bool (true || inT (T.take i) r.word) ∧ Below w5.heap.size w5 wr) (fun _ v9 _ => tn - (intOf v9).toNat)
    case atStart => exact ⟨0, by omega, rfl, rfl, Below.refl _ _⟩
    case round =>
      obtain ⟨i, hi, rfl, rfl, hb⟩ := hrel
      by_cases hlt : i < tn
      rotate_left
      · obtain rfl : tn = i := by omega
        have hall : T.take tn = T := List.take_of_length_le (by have := H.out.2.2.2.1; omega)
        rw [hall]
        have HB := Lib.hid hb
        clear hb hall
        go_wp2_with fail
        go_ret
        exact ⟨by rw [HZ.out]; rfl, H5.out.2.2.trans (HB.out.mono H5.out.2.2.size)⟩
      obtain ⟨x, hx⟩ : ∃ x, T[i]? = some x := ⟨_, List.getElem?_eq_getElem (by have := H.out.2.2.2.1; omega)⟩
      obtain ⟨tb, tof, rfl, htb, htc⟩ := H5.out.2.1.below hb i (by have := H.out.2.2.2.1; omega)
      have hgx : T.getD i ByteArray.empty = x := by rw [List.getD_eq_getElem?_getD, hx]; rfl
      rw [hgx] at htc
      have hst := inT_step hx r.word
      have HW := Lib.hid (And.intro ((hb.block ga (pblt_of_heap H5.out.1)).trans H5.out.1) (And.intro htc (And.intro hb hst)))
      clear hb hst htc htb hgx hx
      cases hh : (true || inT (T.take i) r.word) with
      | true =>
        have hn : (true || inT (T.take (i + 1)) r.word) = true := by rw [HW.out.2.2.2, ← Bool.or_assoc, hh, Bool.true_or]
        have HH := Lib.hid hn
        clear hn hh
        go_upto_region 8 with fail
        refine wp_region_held (S := fun W : World => (W.heap[ga]? = some (.cells (ruCs r) 49 (0, 0)) ∧ W.cell? ⟨tb, tof + i, none⟩ = some (.string x))) (by kernel_rfl) ?_
        change wpAnyH _ _ _ _ _ _ _ _ (World.drew _)
        generalize hv0 : World.drew _ = v0
        have E0 : (v0.heap[ga]? = some (.cells (ruCs r) 49 (0, 0)) ∧ v0.cell? ⟨tb, tof + i, none⟩ = some (.string x)) := by rw [← hv0]; exact ⟨HW.out.1, HW.out.2.1⟩
        have F0 : Below wr.heap.size wr v0 := by rw [← hv0]; exact ((Below.refl _ _).drew)
        clear hv0
        refine wpAnyH_take (i := 0) (v := ?_) rfl (by kernel_rfl) (by kernel_rfl) (by kernel_rfl) (fun _ _ _ h => h) (Or.inl ⟨by kernel_rfl, ?_⟩) E0 ?_
        rotate_left
        · (intro W hS; have k1 : W.cell? ⟨ga, 1, none⟩ = some (.string r.word) := (by rw [cell_of_row _ _ _ _ _ _ hS.1]; rfl); have k2 := hS.2; go_simp; try (with_reducible rfl))
        refine wpAnyH_take (i := 1) (v := ?_) rfl (by kernel_rfl) (by kernel_rfl) (by kernel_rfl) (fun _ _ _ h => h) (Or.inl ⟨by kernel_rfl, ?_⟩) E0 ?_
        rotate_left
        · (intro W hS; have k1 : W.cell? ⟨ga, 1, none⟩ = some (.string r.word) := (by rw [cell_of_row _ _ _ _ _ _ hS.1]; rfl); have k2 := hS.2; go_simp; try (with_reducible rfl))
        refine wpAnyH_take (i := 2) (v := undef) rfl (by kernel_rfl) (by kernel_rfl) (by kernel_rfl) (fun _ _ _ h => h) (Or.inr ⟨by kernel_rfl, rfl⟩) E0 ?_
        refine wpAnyH_take (i := 3) (v := undef) rfl (by kernel_rfl) (by kernel_rfl) (by kernel_rfl) (fun _ _ _ h => h) (Or.inr ⟨by kernel_rfl, rfl⟩) E0 ?_
        refine wpAnyH_take (i := 4) (v := undef) rfl (by kernel_rfl) (by kernel_rfl) (by kernel_rfl) (fun _ _ _ h => h) (Or.inr ⟨by kernel_rfl, rfl⟩) E0 ?_
        refine wpAnyH_take (i := 5) (v := undef) rfl (by kernel_rfl) (by kernel_rfl) (by kernel_rfl) (fun _ _ _ h => h) (Or.inr ⟨by kernel_rfl, rfl⟩) E0 ?_
        refine wpAnyH_take (i := 6) (v := undef) rfl (by kernel_rfl) (by kernel_rfl) (by kernel_rfl) (fun _ _ _ h => h) (Or.inr ⟨by kernel_rfl, rfl⟩) E0 ?_
        refine wpAnyH_take (i := 7) (v := undef) rfl (by kernel_rfl) (by kernel_rfl) (by kernel_rfl) (fun _ _ _ h => h) (Or.inr ⟨by kernel_rfl, rfl⟩) E0 ?_
        refine wpAnyH_take (i := 8) (v := undef) rfl (by kernel_rfl) (by kernel_rfl) (by kernel_rfl) (fun _ _ _ h => h) (Or.inr ⟨by kernel_rfl, rfl⟩) E0 ?_
        refine wpAnyH_take (i := 9) (v := ?_) rfl (by kernel_rfl) (by kernel_rfl) (by kernel_rfl) (fun _ _ _ h => h) (Or.inl ⟨by kernel_rfl, ?_⟩) E0 ?_
        rotate_left
        · (intro W hS; have k1 : W.cell? ⟨ga, 1, none⟩ = some (.string r.word) := (by rw [cell_of_row _ _ _ _ _ _ hS.1]; rfl); have k2 := hS.2; go_simp; try (with_reducible rfl))
        refine wpAnyH_take (i := 10) (v := ?_) rfl (by kernel_rfl) (by kernel_rfl) (by kernel_rfl) (fun _ _ _ h => h) (Or.inl ⟨by kernel_rfl, ?_⟩) E0 ?_
        rotate_left
        · (intro W hS; have k1 : W.cell? ⟨ga, 1, none⟩ = some (.string r.word) := (by rw [cell_of_row _ _ _ _ _ _ hS.1]; rfl); have k2 := hS.2; go_simp; try (with_reducible rfl))
        refine wpAnyH_done (by kernel_rfl) ?_ _
        go_simp
        have HF := Lib.hid F0
        clear E0 F0
        go_wp2_with fail
        go_roundw
        case rel => exact ⟨i + 1, by omega, by go_num, by rw [HH.out], HW.out.2.2.1.trans (HF.out.mono HW.out.2.2.1.size)⟩
        case measure => simp [intOf]; omega
      | false =>
        by_cases he : x = r.word
        · have ge : (x.toList == r.word.toList) = true := peq_toList he
          have hn : (true || inT (T.take (i + 1)) r.word) = true := by rw [HW.out.2.2.2, ← Bool.or_assoc, hh, decide_eq_true he]; rfl
          have HH := Lib.hid hn
          clear hn hh he
          go_upto_region 8 with fail
          refine wp_region_held (S := fun W : World => (W.heap[ga]? = some (.cells (ruCs r) 49 (0, 0)) ∧ W.cell? ⟨tb, tof + i, none⟩ = some (.string x))) (by kernel_rfl) ?_
          change wpAnyH _ _ _ _ _ _ _ _ (World.drew _)
          generalize hv0 : World.drew _ = v0
          have E0 : (v0.heap[ga]? = some (.cells (ruCs r) 49 (0, 0)) ∧ v0.cell? ⟨tb, tof + i, none⟩ = some (.string x)) := by rw [← hv0]; exact ⟨HW.out.1, HW.out.2.1⟩
          have F0 : Below wr.heap.size wr v0 := by rw [← hv0]; exact ((Below.refl _ _).drew)
          clear hv0
          refine wpAnyH_take (i := 0) (v := ?_) rfl (by kernel_rfl) (by kernel_rfl) (by kernel_rfl) (fun _ _ _ h => h) (Or.inl ⟨by kernel_rfl, ?_⟩) E0 ?_
          rotate_left
          · (intro W hS; have k1 : W.cell? ⟨ga, 1, none⟩ = some (.string r.word) := (by rw [cell_of_row _ _ _ _ _ _ hS.1]; rfl); have k2 := hS.2; go_simp; try (with_reducible rfl))
          refine wpAnyH_take (i := 1) (v := ?_) rfl (by kernel_rfl) (by kernel_rfl) (by kernel_rfl) (fun _ _ _ h => h) (Or.inl ⟨by kernel_rfl, ?_⟩) E0 ?_
          rotate_left
          · (intro W hS; have k1 : W.cell? ⟨ga, 1, none⟩ = some (.string r.word) := (by rw [cell_of_row _ _ _ _ _ _ hS.1]; rfl); have k2 := hS.2; go_simp; try (with_reducible rfl))
          refine wpAnyH_take (i := 2) (v := ?_) rfl (by kernel_rfl) (by kernel_rfl) (by kernel_rfl) (fun _ _ _ h => h) (Or.inl ⟨by kernel_rfl, ?_⟩) E0 ?_
          rotate_left
          · (intro W hS; have k1 : W.cell? ⟨ga, 1, none⟩ = some (.string r.word) := (by rw [cell_of_row _ _ _ _ _ _ hS.1]; rfl); have k2 := hS.2; go_simp; try (with_reducible rfl))
          refine wpAnyH_take (i := 3) (v := ?_) rfl (by kernel_rfl) (by kernel_rfl) (by kernel_rfl) (fun _ _ _ h => h) (Or.inl ⟨by kernel_rfl, ?_⟩) E0 ?_
          rotate_left
          · (intro W hS; have k1 : W.cell? ⟨ga, 1, none⟩ = some (.string r.word) := (by rw [cell_of_row _ _ _ _ _ _ hS.1]; rfl); have k2 := hS.2; go_simp; try (with_reducible rfl))
          refine wpAnyH_take (i := 4) (v := ?_) rfl (by kernel_rfl) (by kernel_rfl) (by kernel_rfl) (fun _ _ _ h => h) (Or.inl ⟨by kernel_rfl, ?_⟩) E0 ?_
          rotate_left
          · (intro W hS; have k1 : W.cell? ⟨ga, 1, none⟩ = some (.string r.word) := (by rw [cell_of_row _ _ _ _ _ _ hS.1]; rfl); have k2 := hS.2; go_simp; try (with_reducible rfl))
          refine wpAnyH_take (i := 5) (v := ?_) rfl (by kernel_rfl) (by kernel_rfl) (by kernel_rfl) (fun _ _ _ h => h) (Or.inl ⟨by kernel_rfl, ?_⟩) E0 ?_
          rotate_left
          · (intro W hS; have k1 : W.cell? ⟨ga, 1, none⟩ = some (.string r.word) := (by rw [cell_of_row _ _ _ _ _ _ hS.1]; rfl); have k2 := hS.2; go_simp; try (with_reducible rfl))
          refine wpAnyH_take (i := 6) (v := ?_) rfl (by kernel_rfl) (by kernel_rfl) (by kernel_rfl) (fun _ _ _ h => h) (Or.inl ⟨by kernel_rfl, ?_⟩) E0 ?_
          rotate_left
          · (intro W hS; have k1 : W.cell? ⟨ga, 1, none⟩ = some (.string r.word) := (by rw [cell_of_row _ _ _ _ _ _ hS.1]; rfl); have k2 := hS.2; go_simp; try (with_reducible rfl))
          refine wpAnyH_take (i := 7) (v := ?_) rfl (by kernel_rfl) (by kernel_rfl) (by kernel_rfl) (fun _ _ _ h => h) (Or.inl ⟨by kernel_rfl, ?_⟩) E0 ?_
          rotate_left
          · (intro W hS; have k1 : W.cell? ⟨ga, 1, none⟩ = some (.string r.word) := (by rw [cell_of_row _ _ _ _ _ _ hS.1]; rfl); have k2 := hS.2; go_simp; try (with_reducible rfl))
          refine wpAnyH_take (i := 8) (v := ?_) rfl (by kernel_rfl) (by kernel_rfl) (by kernel_rfl) (fun _ _ _ h => h) (Or.inl ⟨by kernel_rfl, ?_⟩) E0 ?_
          rotate_left
          · (intro W hS; have k1 : W.cell? ⟨ga, 1, none⟩ = some (.string r.word) := (by rw [cell_of_row _ _ _ _ _ _ hS.1]; rfl); have k2 := hS.2; go_simp; try (with_reducible rfl))
          refine wpAnyH_take (i := 9) (v := ?_) rfl (by kernel_rfl) (by kernel_rfl) (by kernel_rfl) (fun _ _ _ h => h) (Or.inl ⟨by kernel_rfl, ?_⟩) E0 ?_
          rotate_left
          · (intro W hS; have k1 : W.cell? ⟨ga, 1, none⟩ = some (.string r.word) := (by rw [cell_of_row _ _ _ _ _ _ hS.1]; rfl); have k2 := hS.2; go_simp; try (with_reducible rfl))
          refine wpAnyH_take (i := 10) (v := ?_) rfl (by kernel_rfl) (by kernel_rfl) (by kernel_rfl) (fun _ _ _ h => h) (Or.inl ⟨by kernel_rfl, ?_⟩) E0 ?_
          rotate_left
          · (intro W hS; have k1 : W.cell? ⟨ga, 1, none⟩ = some (.string r.word) := (by rw [cell_of_row _ _ _ _ _ _ hS.1]; rfl); have k2 := hS.2; go_simp; try (with_reducible rfl))
          refine wpAnyH_done (by kernel_rfl) ?_ _
          go_simp
          have HF := Lib.hid F0
          clear E0 F0
          go_wp2_with fail
          go_roundw
          case rel => exact ⟨i + 1, by omega, by go_num, by rw [HH.out], HW.out.2.2.1.trans (HF.out.mono HW.out.2.2.1.size)⟩
          case measure => simp [intOf]; omega
        · have ge : (x.toList == r.word.toList) = false := pne_toList he
          have hn : (true || inT (T.take (i + 1)) r.word) = false := by rw [HW.out.2.2.2, ← Bool.or_assoc, hh, decide_eq_false he]; rfl
          have HH := Lib.hid hn
          clear hn hh he
          go_upto_region 8 with fail
          refine wp_region_held (S := fun W : World => (W.heap[ga]? = some (.cells (ruCs r) 49 (0, 0)) ∧ W.cell? ⟨tb, tof + i, none⟩ = some (.string x))) (by kernel_rfl) ?_
          change wpAnyH _ _ _ _ _ _ _ _ (World.drew _)
          generalize hv0 : World.drew _ = v0
          have E0 : (v0.heap[ga]? = some (.cells (ruCs r) 49 (0, 0)) ∧ v0.cell? ⟨tb, tof + i, none⟩ = some (.string x)) := by rw [← hv0]; exact ⟨HW.out.1, HW.out.2.1⟩
          have F0 : Below wr.heap.size wr v0 := by rw [← hv0]; exact ((Below.refl _ _).drew)
          clear hv0
          refine wpAnyH_take (i := 0) (v := ?_) rfl (by kernel_rfl) (by kernel_rfl) (by kernel_rfl) (fun _ _ _ h => h) (Or.inl ⟨by kernel_rfl, ?_⟩) E0 ?_
          rotate_left
          · (intro W hS; have k1 : W.cell? ⟨ga, 1, none⟩ = some (.string r.word) := (by rw [cell_of_row _ _ _ _ _ _ hS.1]; rfl); have k2 := hS.2; go_simp; try (with_reducible rfl))
          refine wpAnyH_take (i := 1) (v := ?_) rfl (by kernel_rfl) (by kernel_rfl) (by kernel_rfl) (fun _ _ _ h => h) (Or.inl ⟨by kernel_rfl, ?_⟩) E0 ?_
          rotate_left
          · (intro W hS; have k1 : W.cell? ⟨ga, 1, none⟩ = some (.string r.word) := (by rw [cell_of_row _ _ _ _ _ _ hS.1]; rfl); have k2 := hS.2; go_simp; try (with_reducible rfl))
          refine wpAnyH_take (i := 2) (v := ?_) rfl (by kernel_rfl) (by kernel_rfl) (by kernel_rfl) (fun _ _ _ h => h) (Or.inl ⟨by kernel_rfl, ?_⟩) E0 ?_
          rotate_left
          · (intro W hS; have k1 : W.cell? ⟨ga, 1, none⟩ = some (.string r.word) := (by rw [cell_of_row _ _ _ _ _ _ hS.1]; rfl); have k2 := hS.2; go_simp; try (with_reducible rfl))
          refine wpAnyH_take (i := 3) (v := ?_) rfl (by kernel_rfl) (by kernel_rfl) (by kernel_rfl) (fun _ _ _ h => h) (Or.inl ⟨by kernel_rfl, ?_⟩) E0 ?_
          rotate_left
          · (intro W hS; have k1 : W.cell? ⟨ga, 1, none⟩ = some (.string r.word) := (by rw [cell_of_row _ _ _ _ _ _ hS.1]; rfl); have k2 := hS.2; go_simp; try (with_reducible rfl))
          refine wpAnyH_take (i := 4) (v := ?_) rfl (by kernel_rfl) (by kernel_rfl) (by kernel_rfl) (fun _ _ _ h => h) (Or.inl ⟨by kernel_rfl, ?_⟩) E0 ?_
          rotate_left
          · (intro W hS; have k1 : W.cell? ⟨ga, 1, none⟩ = some (.string r.word) := (by rw [cell_of_row _ _ _ _ _ _ hS.1]; rfl); have k2 := hS.2; go_simp; try (with_reducible rfl))
          refine wpAnyH_take (i := 5) (v := ?_) rfl (by kernel_rfl) (by kernel_rfl) (by kernel_rfl) (fun _ _ _ h => h) (Or.inl ⟨by kernel_rfl, ?_⟩) E0 ?_
          rotate_left
          · (intro W hS; have k1 : W.cell? ⟨ga, 1, none⟩ = some (.string r.word) := (by rw [cell_of_row _ _ _ _ _ _ hS.1]; rfl); have k2 := hS.2; go_simp; try (with_reducible rfl))
          refine wpAnyH_take (i := 6) (v := ?_) rfl (by kernel_rfl) (by kernel_rfl) (by kernel_rfl) (fun _ _ _ h => h) (Or.inl ⟨by kernel_rfl, ?_⟩) E0 ?_
          rotate_left
          · (intro W hS; have k1 : W.cell? ⟨ga, 1, none⟩ = some (.string r.word) := (by rw [cell_of_row _ _ _ _ _ _ hS.1]; rfl); have k2 := hS.2; go_simp; try (with_reducible rfl))
          refine wpAnyH_take (i := 7) (v := ?_) rfl (by kernel_rfl) (by kernel_rfl) (by kernel_rfl) (fun _ _ _ h => h) (Or.inl ⟨by kernel_rfl, ?_⟩) E0 ?_
          rotate_left
          · (intro W hS; have k1 : W.cell? ⟨ga, 1, none⟩ = some (.string r.word) := (by rw [cell_of_row _ _ _ _ _ _ hS.1]; rfl); have k2 := hS.2; go_simp; try (with_reducible rfl))
          refine wpAnyH_take (i := 8) (v := ?_) rfl (by kernel_rfl) (by kernel_rfl) (by kernel_rfl) (fun _ _ _ h => h) (Or.inl ⟨by kernel_rfl, ?_⟩) E0 ?_
          rotate_left
          · (intro W hS; have k1 : W.cell? ⟨ga, 1, none⟩ = some (.string r.word) := (by rw [cell_of_row _ _ _ _ _ _ hS.1]; rfl); have k2 := hS.2; go_simp; try (with_reducible rfl))
          refine wpAnyH_take (i := 9) (v := ?_) rfl (by kernel_rfl) (by kernel_rfl) (by kernel_rfl) (fun _ _ _ h => h) (Or.inl ⟨by kernel_rfl, ?_⟩) E0 ?_
          rotate_left
          · (intro W hS; have k1 : W.cell? ⟨ga, 1, none⟩ = some (.string r.word) := (by rw [cell_of_row _ _ _ _ _ _ hS.1]; rfl); have k2 := hS.2; go_simp; try (with_reducible rfl))
          refine wpAnyH_take (i := 10) (v := ?_) rfl (by kernel_rfl) (by kernel_rfl) (by kernel_rfl) (fun _ _ _ h => h) (Or.inl ⟨by kernel_rfl, ?_⟩) E0 ?_
          rotate_left
          · (intro W hS; have k1 : W.cell? ⟨ga, 1, none⟩ = some (.string r.word) := (by rw [cell_of_row _ _ _ _ _ _ hS.1]; rfl); have k2 := hS.2; go_simp; try (with_reducible rfl))
          refine wpAnyH_done (by kernel_rfl) ?_ _
          go_simp
          have HF := Lib.hid F0
          clear E0 F0
          go_wp2_with fail
          go_roundw
          case rel => exact ⟨i + 1, by omega, by go_num, by rw [HH.out], HW.out.2.2.1.trans (HF.out.mono HW.out.2.2.1.size)⟩
          case measure => simp [intOf]; omega
  · have gC : r.word.toList.isEmpty = false := full_list hC
    rw [decide_eq_false hC] at hz
    have HZ := Lib.hid hz
    clear hz hC
    go_enter Try.func22, Try.ntmps22
    go_upto_region 1 with fail
    rw [← hw1, ← hgq, ← hga]
    clear hw1 hga hgq
    have X0 := HA.out.1
    have c0 : w1.cell? ⟨ga, 0, none⟩ = some (.string r.who) := by rw [cell_of_row _ _ _ _ _ _ X0]; rfl
    have c1 : w1.cell? ⟨ga, 1, none⟩ = some (.string r.word) := by rw [cell_of_row _ _ _ _ _ _ X0]; rfl
    have c2 : w1.cell? ⟨ga, 2, none⟩ = some (.int .i64 r.fr) := by rw [cell_of_row _ _ _ _ _ _ X0]; rfl
    have c3 : w1.cell? ⟨ga, 3, none⟩ = some (.int .i64 r.to) := by rw [cell_of_row _ _ _ _ _ _ X0]; rfl
    have c4 : w1.cell? ⟨ga, 4, none⟩ = some (.int .i64 r.un) := by rw [cell_of_row _ _ _ _ _ _ X0]; rfl
    have c5 : w1.cell? ⟨ga, 5, none⟩ = some (.int .i64 r.mo) := by rw [cell_of_row _ _ _ _ _ _ X0]; rfl
    have c6 : w1.cell? ⟨ga, 6, none⟩ = some (.bool r.allow) := by rw [cell_of_row _ _ _ _ _ _ X0]; rfl
    clear X0
    have X0 := HA.out.2
    have d0 : w1.cell? ⟨gq, 0, none⟩ = some (.int .i64 q.id) := by rw [cell_of_row _ _ _ _ _ _ X0]; rfl
    have d1 : w1.cell? ⟨gq, 1, none⟩ = some (.string q.who) := by rw [cell_of_row _ _ _ _ _ _ X0]; rfl
    have d2 : w1.cell? ⟨gq, 2, none⟩ = some (.int .i64 q.entry) := by rw [cell_of_row _ _ _ _ _ _ X0]; rfl
    have d3 : w1.cell? ⟨gq, 3, none⟩ = some (.string q.reason) := by rw [cell_of_row _ _ _ _ _ _ X0]; rfl
    have d4 : w1.cell? ⟨gq, 4, none⟩ = some (.int .i64 q.exp) := by rw [cell_of_row _ _ _ _ _ _ X0]; rfl
    clear X0
    go_wp2_with fail
    refine (H.out.1 _).mono ?_
    rintro e w2 ⟨rfl, hb2⟩
    have H2 := Lib.hid (And.intro ((hb2.block ga (pblt_of_heap HA.out.1)).trans HA.out.1) (And.intro ((hb2.block gq (pblt_of_heap HA.out.2)).trans HA.out.2) (H.out.2.2.2.2.trans (hb2.mono H.out.2.2.2.2.size))))
    clear hb2 c0 c1 c2 c3 c4 c5 c6 d0 d1 d2 d3 d4
    have X0 := H2.out.1
    have c0 : w2.cell? ⟨ga, 0, none⟩ = some (.string r.who) := by rw [cell_of_row _ _ _ _ _ _ X0]; rfl
    have c1 : w2.cell? ⟨ga, 1, none⟩ = some (.string r.word) := by rw [cell_of_row _ _ _ _ _ _ X0]; rfl
    have c2 : w2.cell? ⟨ga, 2, none⟩ = some (.int .i64 r.fr) := by rw [cell_of_row _ _ _ _ _ _ X0]; rfl
    have c3 : w2.cell? ⟨ga, 3, none⟩ = some (.int .i64 r.to) := by rw [cell_of_row _ _ _ _ _ _ X0]; rfl
    have c4 : w2.cell? ⟨ga, 4, none⟩ = some (.int .i64 r.un) := by rw [cell_of_row _ _ _ _ _ _ X0]; rfl
    have c5 : w2.cell? ⟨ga, 5, none⟩ = some (.int .i64 r.mo) := by rw [cell_of_row _ _ _ _ _ _ X0]; rfl
    have c6 : w2.cell? ⟨ga, 6, none⟩ = some (.bool r.allow) := by rw [cell_of_row _ _ _ _ _ _ X0]; rfl
    clear X0
    have X0 := H2.out.2.1
    have d0 : w2.cell? ⟨gq, 0, none⟩ = some (.int .i64 q.id) := by rw [cell_of_row _ _ _ _ _ _ X0]; rfl
    have d1 : w2.cell? ⟨gq, 1, none⟩ = some (.string q.who) := by rw [cell_of_row _ _ _ _ _ _ X0]; rfl
    have d2 : w2.cell? ⟨gq, 2, none⟩ = some (.int .i64 q.entry) := by rw [cell_of_row _ _ _ _ _ _ X0]; rfl
    have d3 : w2.cell? ⟨gq, 3, none⟩ = some (.string q.reason) := by rw [cell_of_row _ _ _ _ _ _ X0]; rfl
    have d4 : w2.cell? ⟨gq, 4, none⟩ = some (.int .i64 q.exp) := by rw [cell_of_row _ _ _ _ _ _ X0]; rfl
    clear X0
    go_wp2_with fail
    refine (H.out.2.1 _).mono ?_
    rintro e w3 ⟨rfl, hb3⟩
    have H3 := Lib.hid (And.intro ((hb3.block ga (pblt_of_heap H2.out.1)).trans H2.out.1) (And.intro ((hb3.block gq (pblt_of_heap H2.out.2.1)).trans H2.out.2.1) (H2.out.2.2.trans (hb3.mono H2.out.2.2.size))))
    clear hb3 c0 c1 c2 c3 c4 c5 c6 d0 d1 d2 d3 d4
    have X0 := H3.out.1
    have c0 : w3.cell? ⟨ga, 0, none⟩ = some (.string r.who) := by rw [cell_of_row _ _ _ _ _ _ X0]; rfl
    have c1 : w3.cell? ⟨ga, 1, none⟩ = some (.string r.word) := by rw [cell_of_row _ _ _ _ _ _ X0]; rfl
    have c2 : w3.cell? ⟨ga, 2, none⟩ = some (.int .i64 r.fr) := by rw [cell_of_row _ _ _ _ _ _ X0]; rfl
    have c3 : w3.cell? ⟨ga, 3, none⟩ = some (.int .i64 r.to) := by rw [cell_of_row _ _ _ _ _ _ X0]; rfl
    have c4 : w3.cell? ⟨ga, 4, none⟩ = some (.int .i64 r.un) := by rw [cell_of_row _ _ _ _ _ _ X0]; rfl
    have c5 : w3.cell? ⟨ga, 5, none⟩ = some (.int .i64 r.mo) := by rw [cell_of_row _ _ _ _ _ _ X0]; rfl
    have c6 : w3.cell? ⟨ga, 6, none⟩ = some (.bool r.allow) := by rw [cell_of_row _ _ _ _ _ _ X0]; rfl
    clear X0
    have X0 := H3.out.2.1
    have d0 : w3.cell? ⟨gq, 0, none⟩ = some (.int .i64 q.id) := by rw [cell_of_row _ _ _ _ _ _ X0]; rfl
    have d1 : w3.cell? ⟨gq, 1, none⟩ = some (.string q.who) := by rw [cell_of_row _ _ _ _ _ _ X0]; rfl
    have d2 : w3.cell? ⟨gq, 2, none⟩ = some (.int .i64 q.entry) := by rw [cell_of_row _ _ _ _ _ _ X0]; rfl
    have d3 : w3.cell? ⟨gq, 3, none⟩ = some (.string q.reason) := by rw [cell_of_row _ _ _ _ _ _ X0]; rfl
    have d4 : w3.cell? ⟨gq, 4, none⟩ = some (.int .i64 q.exp) := by rw [cell_of_row _ _ _ _ _ _ X0]; rfl
    clear X0
    go_wp2_with fail
    refine (H.out.2.2.1 _).mono ?_
    rintro e w5 ⟨ad, cp, rfl, hTx, hb5⟩
    have H5 := Lib.hid (And.intro ((hb5.block ga (pblt_of_heap H3.out.1)).trans H3.out.1) (And.intro hTx (H3.out.2.2.trans (hb5.mono H3.out.2.2.size))))
    clear hb5 hTx c0 c1 c2 c3 c4 c5 c6 d0 d1 d2 d3 d4
    have X0 := H5.out.1
    have c1 : w5.cell? ⟨ga, 1, none⟩ = some (.string r.word) := by rw [cell_of_row _ _ _ _ _ _ X0]; rfl
    clear X0
    go_wp2_with fail
    clear c1
    go_loopw [8, 9] (fun v8 v9 wr => ∃ i : Nat, i ≤ tn ∧ v9 = .int .i64 (i : Int) ∧ v8 = .bool (false || inT (T.take i) r.word) ∧ Below w5.heap.size w5 wr) (fun _ v9 _ => tn - (intOf v9).toNat)
    case atStart => exact ⟨0, by omega, rfl, rfl, Below.refl _ _⟩
    case round =>
      obtain ⟨i, hi, rfl, rfl, hb⟩ := hrel
      by_cases hlt : i < tn
      rotate_left
      · obtain rfl : tn = i := by omega
        have hall : T.take tn = T := List.take_of_length_le (by have := H.out.2.2.2.1; omega)
        rw [hall]
        have HB := Lib.hid hb
        clear hb hall
        go_wp2_with fail
        go_ret
        exact ⟨by rw [HZ.out]; rfl, H5.out.2.2.trans (HB.out.mono H5.out.2.2.size)⟩
      obtain ⟨x, hx⟩ : ∃ x, T[i]? = some x := ⟨_, List.getElem?_eq_getElem (by have := H.out.2.2.2.1; omega)⟩
      obtain ⟨tb, tof, rfl, htb, htc⟩ := H5.out.2.1.below hb i (by have := H.out.2.2.2.1; omega)
      have hgx : T.getD i ByteArray.empty = x := by rw [List.getD_eq_getElem?_getD, hx]; rfl
      rw [hgx] at htc
      have hst := inT_step hx r.word
      have HW := Lib.hid (And.intro ((hb.block ga (pblt_of_heap H5.out.1)).trans H5.out.1) (And.intro htc (And.intro hb hst)))
      clear hb hst htc htb hgx hx
      cases hh : (false || inT (T.take i) r.word) with
      | true =>
        have hn : (false || inT (T.take (i + 1)) r.word) = true := by rw [HW.out.2.2.2, ← Bool.or_assoc, hh, Bool.true_or]
        have HH := Lib.hid hn
        clear hn hh
        go_upto_region 8 with fail
        refine wp_region_held (S := fun W : World => (W.heap[ga]? = some (.cells (ruCs r) 49 (0, 0)) ∧ W.cell? ⟨tb, tof + i, none⟩ = some (.string x))) (by kernel_rfl) ?_
        change wpAnyH _ _ _ _ _ _ _ _ (World.drew _)
        generalize hv0 : World.drew _ = v0
        have E0 : (v0.heap[ga]? = some (.cells (ruCs r) 49 (0, 0)) ∧ v0.cell? ⟨tb, tof + i, none⟩ = some (.string x)) := by rw [← hv0]; exact ⟨HW.out.1, HW.out.2.1⟩
        have F0 : Below wr.heap.size wr v0 := by rw [← hv0]; exact ((Below.refl _ _).drew)
        clear hv0
        refine wpAnyH_take (i := 0) (v := ?_) rfl (by kernel_rfl) (by kernel_rfl) (by kernel_rfl) (fun _ _ _ h => h) (Or.inl ⟨by kernel_rfl, ?_⟩) E0 ?_
        rotate_left
        · (intro W hS; have k1 : W.cell? ⟨ga, 1, none⟩ = some (.string r.word) := (by rw [cell_of_row _ _ _ _ _ _ hS.1]; rfl); have k2 := hS.2; go_simp; try (with_reducible rfl))
        refine wpAnyH_take (i := 1) (v := ?_) rfl (by kernel_rfl) (by kernel_rfl) (by kernel_rfl) (fun _ _ _ h => h) (Or.inl ⟨by kernel_rfl, ?_⟩) E0 ?_
        rotate_left
        · (intro W hS; have k1 : W.cell? ⟨ga, 1, none⟩ = some (.string r.word) := (by rw [cell_of_row _ _ _ _ _ _ hS.1]; rfl); have k2 := hS.2; go_simp; try (with_reducible rfl))
        refine wpAnyH_take (i := 2) (v := undef) rfl (by kernel_rfl) (by kernel_rfl) (by kernel_rfl) (fun _ _ _ h => h) (Or.inr ⟨by kernel_rfl, rfl⟩) E0 ?_
        refine wpAnyH_take (i := 3) (v := undef) rfl (by kernel_rfl) (by kernel_rfl) (by kernel_rfl) (fun _ _ _ h => h) (Or.inr ⟨by kernel_rfl, rfl⟩) E0 ?_
        refine wpAnyH_take (i := 4) (v := undef) rfl (by kernel_rfl) (by kernel_rfl) (by kernel_rfl) (fun _ _ _ h => h) (Or.inr ⟨by kernel_rfl, rfl⟩) E0 ?_
        refine wpAnyH_take (i := 5) (v := undef) rfl (by kernel_rfl) (by kernel_rfl) (by kernel_rfl) (fun _ _ _ h => h) (Or.inr ⟨by kernel_rfl, rfl⟩) E0 ?_
        refine wpAnyH_take (i := 6) (v := undef) rfl (by kernel_rfl) (by kernel_rfl) (by kernel_rfl) (fun _ _ _ h => h) (Or.inr ⟨by kernel_rfl, rfl⟩) E0 ?_
        refine wpAnyH_take (i := 7) (v := undef) rfl (by kernel_rfl) (by kernel_rfl) (by kernel_rfl) (fun _ _ _ h => h) (Or.inr ⟨by kernel_rfl, rfl⟩) E0 ?_
        refine wpAnyH_take (i := 8) (v := undef) rfl (by kernel_rfl) (by kernel_rfl) (by kernel_rfl) (fun _ _ _ h => h) (Or.inr ⟨by kernel_rfl, rfl⟩) E0 ?_
        refine wpAnyH_take (i := 9) (v := ?_) rfl (by kernel_rfl) (by kernel_rfl) (by kernel_rfl) (fun _ _ _ h => h) (Or.inl ⟨by kernel_rfl, ?_⟩) E0 ?_
        rotate_left
        · (intro W hS; have k1 : W.cell? ⟨ga, 1, none⟩ = some (.string r.word) := (by rw [cell_of_row _ _ _ _ _ _ hS.1]; rfl); have k2 := hS.2; go_simp; try (with_reducible rfl))
        refine wpAnyH_take (i := 10) (v := ?_) rfl (by kernel_rfl) (by kernel_rfl) (by kernel_rfl) (fun _ _ _ h => h) (Or.inl ⟨by kernel_rfl, ?_⟩) E0 ?_
        rotate_left
        · (intro W hS; have k1 : W.cell? ⟨ga, 1, none⟩ = some (.string r.word) := (by rw [cell_of_row _ _ _ _ _ _ hS.1]; rfl); have k2 := hS.2; go_simp; try (with_reducible rfl))
        refine wpAnyH_done (by kernel_rfl) ?_ _
        go_simp
        have HF := Lib.hid F0
        clear E0 F0
        go_wp2_with fail
        go_roundw
        case rel => exact ⟨i + 1, by omega, by go_num, by rw [HH.out], HW.out.2.2.1.trans (HF.out.mono HW.out.2.2.1.size)⟩
        case measure => simp [intOf]; omega
      | false =>
        by_cases he : x = r.word
        · have ge : (x.toList == r.word.toList) = true := peq_toList he
          have hn : (false || inT (T.take (i + 1)) r.word) = true := by rw [HW.out.2.2.2, ← Bool.or_assoc, hh, decide_eq_true he]; rfl
          have HH := Lib.hid hn
          clear hn hh he
          go_upto_region 8 with fail
          refine wp_region_held (S := fun W : World => (W.heap[ga]? = some (.cells (ruCs r) 49 (0, 0)) ∧ W.cell? ⟨tb, tof + i, none⟩ = some (.string x))) (by kernel_rfl) ?_
          change wpAnyH _ _ _ _ _ _ _ _ (World.drew _)
          generalize hv0 : World.drew _ = v0
          have E0 : (v0.heap[ga]? = some (.cells (ruCs r) 49 (0, 0)) ∧ v0.cell? ⟨tb, tof + i, none⟩ = some (.string x)) := by rw [← hv0]; exact ⟨HW.out.1, HW.out.2.1⟩
          have F0 : Below wr.heap.size wr v0 := by rw [← hv0]; exact ((Below.refl _ _).drew)
          clear hv0
          refine wpAnyH_take (i := 0) (v := ?_) rfl (by kernel_rfl) (by kernel_rfl) (by kernel_rfl) (fun _ _ _ h => h) (Or.inl ⟨by kernel_rfl, ?_⟩) E0 ?_
          rotate_left
          · (intro W hS; have k1 : W.cell? ⟨ga, 1, none⟩ = some (.string r.word) := (by rw [cell_of_row _ _ _ _ _ _ hS.1]; rfl); have k2 := hS.2; go_simp; try (with_reducible rfl))
          refine wpAnyH_take (i := 1) (v := ?_) rfl (by kernel_rfl) (by kernel_rfl) (by kernel_rfl) (fun _ _ _ h => h) (Or.inl ⟨by kernel_rfl, ?_⟩) E0 ?_
          rotate_left
          · (intro W hS; have k1 : W.cell? ⟨ga, 1, none⟩ = some (.string r.word) := (by rw [cell_of_row _ _ _ _ _ _ hS.1]; rfl); have k2 := hS.2; go_simp; try (with_reducible rfl))
          refine wpAnyH_take (i := 2) (v := ?_) rfl (by kernel_rfl) (by kernel_rfl) (by kernel_rfl) (fun _ _ _ h => h) (Or.inl ⟨by kernel_rfl, ?_⟩) E0 ?_
          rotate_left
          · (intro W hS; have k1 : W.cell? ⟨ga, 1, none⟩ = some (.string r.word) := (by rw [cell_of_row _ _ _ _ _ _ hS.1]; rfl); have k2 := hS.2; go_simp; try (with_reducible rfl))
          refine wpAnyH_take (i := 3) (v := ?_) rfl (by kernel_rfl) (by kernel_rfl) (by kernel_rfl) (fun _ _ _ h => h) (Or.inl ⟨by kernel_rfl, ?_⟩) E0 ?_
          rotate_left
          · (intro W hS; have k1 : W.cell? ⟨ga, 1, none⟩ = some (.string r.word) := (by rw [cell_of_row _ _ _ _ _ _ hS.1]; rfl); have k2 := hS.2; go_simp; try (with_reducible rfl))
          refine wpAnyH_take (i := 4) (v := ?_) rfl (by kernel_rfl) (by kernel_rfl) (by kernel_rfl) (fun _ _ _ h => h) (Or.inl ⟨by kernel_rfl, ?_⟩) E0 ?_
          rotate_left
          · (intro W hS; have k1 : W.cell? ⟨ga, 1, none⟩ = some (.string r.word) := (by rw [cell_of_row _ _ _ _ _ _ hS.1]; rfl); have k2 := hS.2; go_simp; try (with_reducible rfl))
          refine wpAnyH_take (i := 5) (v := ?_) rfl (by kernel_rfl) (by kernel_rfl) (by kernel_rfl) (fun _ _ _ h => h) (Or.inl ⟨by kernel_rfl, ?_⟩) E0 ?_
          rotate_left
          · (intro W hS; have k1 : W.cell? ⟨ga, 1, none⟩ = some (.string r.word) := (by rw [cell_of_row _ _ _ _ _ _ hS.1]; rfl); have k2 := hS.2; go_simp; try (with_reducible rfl))
          refine wpAnyH_take (i := 6) (v := ?_) rfl (by kernel_rfl) (by kernel_rfl) (by kernel_rfl) (fun _ _ _ h => h) (Or.inl ⟨by kernel_rfl, ?_⟩) E0 ?_
          rotate_left
          · (intro W hS; have k1 : W.cell? ⟨ga, 1, none⟩ = some (.string r.word) := (by rw [cell_of_row _ _ _ _ _ _ hS.1]; rfl); have k2 := hS.2; go_simp; try (with_reducible rfl))
          refine wpAnyH_take (i := 7) (v := ?_) rfl (by kernel_rfl) (by kernel_rfl) (by kernel_rfl) (fun _ _ _ h => h) (Or.inl ⟨by kernel_rfl, ?_⟩) E0 ?_
          rotate_left
          · (intro W hS; have k1 : W.cell? ⟨ga, 1, none⟩ = some (.string r.word) := (by rw [cell_of_row _ _ _ _ _ _ hS.1]; rfl); have k2 := hS.2; go_simp; try (with_reducible rfl))
          refine wpAnyH_take (i := 8) (v := ?_) rfl (by kernel_rfl) (by kernel_rfl) (by kernel_rfl) (fun _ _ _ h => h) (Or.inl ⟨by kernel_rfl, ?_⟩) E0 ?_
          rotate_left
          · (intro W hS; have k1 : W.cell? ⟨ga, 1, none⟩ = some (.string r.word) := (by rw [cell_of_row _ _ _ _ _ _ hS.1]; rfl); have k2 := hS.2; go_simp; try (with_reducible rfl))
          refine wpAnyH_take (i := 9) (v := ?_) rfl (by kernel_rfl) (by kernel_rfl) (by kernel_rfl) (fun _ _ _ h => h) (Or.inl ⟨by kernel_rfl, ?_⟩) E0 ?_
          rotate_left
          · (intro W hS; have k1 : W.cell? ⟨ga, 1, none⟩ = some (.string r.word) := (by rw [cell_of_row _ _ _ _ _ _ hS.1]; rfl); have k2 := hS.2; go_simp; try (with_reducible rfl))
          refine wpAnyH_take (i := 10) (v := ?_) rfl (by kernel_rfl) (by kernel_rfl) (by kernel_rfl) (fun _ _ _ h => h) (Or.inl ⟨by kernel_rfl, ?_⟩) E0 ?_
          rotate_left
          · (intro W hS; have k1 : W.cell? ⟨ga, 1, none⟩ = some (.string r.word) := (by rw [cell_of_row _ _ _ _ _ _ hS.1]; rfl); have k2 := hS.2; go_simp; try (with_reducible rfl))
          refine wpAnyH_done (by kernel_rfl) ?_ _
          go_simp
          have HF := Lib.hid F0
          clear E0 F0
          go_wp2_with fail
          go_roundw
          case rel => exact ⟨i + 1, by omega, by go_num, by rw [HH.out], HW.out.2.2.1.trans (HF.out.mono HW.out.2.2.1.size)⟩
          case measure => simp [intOf]; omega
        · have ge : (x.toList == r.word.toList) = false := pne_toList he
          have hn : (false || inT (T.take (i + 1)) r.word) = false := by rw [HW.out.2.2.2, ← Bool.or_assoc, hh, decide_eq_false he]; rfl
          have HH := Lib.hid hn
          clear hn hh he
          go_upto_region 8 with fail
          refine wp_region_held (S := fun W : World => (W.heap[ga]? = some (.cells (ruCs r) 49 (0, 0)) ∧ W.cell? ⟨tb, tof + i, none⟩ = some (.string x))) (by kernel_rfl) ?_
          change wpAnyH _ _ _ _ _ _ _ _ (World.drew _)
          generalize hv0 : World.drew _ = v0
          have E0 : (v0.heap[ga]? = some (.cells (ruCs r) 49 (0, 0)) ∧ v0.cell? ⟨tb, tof + i, none⟩ = some (.string x)) := by rw [← hv0]; exact ⟨HW.out.1, HW.out.2.1⟩
          have F0 : Below wr.heap.size wr v0 := by rw [← hv0]; exact ((Below.refl _ _).drew)
          clear hv0
          refine wpAnyH_take (i := 0) (v := ?_) rfl (by kernel_rfl) (by kernel_rfl) (by kernel_rfl) (fun _ _ _ h => h) (Or.inl ⟨by kernel_rfl, ?_⟩) E0 ?_
          rotate_left
          · (intro W hS; have k1 : W.cell? ⟨ga, 1, none⟩ = some (.string r.word) := (by rw [cell_of_row _ _ _ _ _ _ hS.1]; rfl); have k2 := hS.2; go_simp; try (with_reducible rfl))
          refine wpAnyH_take (i := 1) (v := ?_) rfl (by kernel_rfl) (by kernel_rfl) (by kernel_rfl) (fun _ _ _ h => h) (Or.inl ⟨by kernel_rfl, ?_⟩) E0 ?_
          rotate_left
          · (intro W hS; have k1 : W.cell? ⟨ga, 1, none⟩ = some (.string r.word) := (by rw [cell_of_row _ _ _ _ _ _ hS.1]; rfl); have k2 := hS.2; go_simp; try (with_reducible rfl))
          refine wpAnyH_take (i := 2) (v := ?_) rfl (by kernel_rfl) (by kernel_rfl) (by kernel_rfl) (fun _ _ _ h => h) (Or.inl ⟨by kernel_rfl, ?_⟩) E0 ?_
          rotate_left
          · (intro W hS; have k1 : W.cell? ⟨ga, 1, none⟩ = some (.string r.word) := (by rw [cell_of_row _ _ _ _ _ _ hS.1]; rfl); have k2 := hS.2; go_simp; try (with_reducible rfl))
          refine wpAnyH_take (i := 3) (v := ?_) rfl (by kernel_rfl) (by kernel_rfl) (by kernel_rfl) (fun _ _ _ h => h) (Or.inl ⟨by kernel_rfl, ?_⟩) E0 ?_
          rotate_left
          · (intro W hS; have k1 : W.cell? ⟨ga, 1, none⟩ = some (.string r.word) := (by rw [cell_of_row _ _ _ _ _ _ hS.1]; rfl); have k2 := hS.2; go_simp; try (with_reducible rfl))
          refine wpAnyH_take (i := 4) (v := ?_) rfl (by kernel_rfl) (by kernel_rfl) (by kernel_rfl) (fun _ _ _ h => h) (Or.inl ⟨by kernel_rfl, ?_⟩) E0 ?_
          rotate_left
          · (intro W hS; have k1 : W.cell? ⟨ga, 1, none⟩ = some (.string r.word) := (by rw [cell_of_row _ _ _ _ _ _ hS.1]; rfl); have k2 := hS.2; go_simp; try (with_reducible rfl))
          refine wpAnyH_take (i := 5) (v := ?_) rfl (by kernel_rfl) (by kernel_rfl) (by kernel_rfl) (fun _ _ _ h => h) (Or.inl ⟨by kernel_rfl, ?_⟩) E0 ?_
          rotate_left
          · (intro W hS; have k1 : W.cell? ⟨ga, 1, none⟩ = some (.string r.word) := (by rw [cell_of_row _ _ _ _ _ _ hS.1]; rfl); have k2 := hS.2; go_simp; try (with_reducible rfl))
          refine wpAnyH_take (i := 6) (v := ?_) rfl (by kernel_rfl) (by kernel_rfl) (by kernel_rfl) (fun _ _ _ h => h) (Or.inl ⟨by kernel_rfl, ?_⟩) E0 ?_
          rotate_left
          · (intro W hS; have k1 : W.cell? ⟨ga, 1, none⟩ = some (.string r.word) := (by rw [cell_of_row _ _ _ _ _ _ hS.1]; rfl); have k2 := hS.2; go_simp; try (with_reducible rfl))
          refine wpAnyH_take (i := 7) (v := ?_) rfl (by kernel_rfl) (by kernel_rfl) (by kernel_rfl) (fun _ _ _ h => h) (Or.inl ⟨by kernel_rfl, ?_⟩) E0 ?_
          rotate_left
          · (intro W hS; have k1 : W.cell? ⟨ga, 1, none⟩ = some (.string r.word) := (by rw [cell_of_row _ _ _ _ _ _ hS.1]; rfl); have k2 := hS.2; go_simp; try (with_reducible rfl))
          refine wpAnyH_take (i := 8) (v := ?_) rfl (by kernel_rfl) (by kernel_rfl) (by kernel_rfl) (fun _ _ _ h => h) (Or.inl ⟨by kernel_rfl, ?_⟩) E0 ?_
          rotate_left
          · (intro W hS; have k1 : W.cell? ⟨ga, 1, none⟩ = some (.string r.word) := (by rw [cell_of_row _ _ _ _ _ _ hS.1]; rfl); have k2 := hS.2; go_simp; try (with_reducible rfl))
          refine wpAnyH_take (i := 9) (v := ?_) rfl (by kernel_rfl) (by kernel_rfl) (by kernel_rfl) (fun _ _ _ h => h) (Or.inl ⟨by kernel_rfl, ?_⟩) E0 ?_
          rotate_left
          · (intro W hS; have k1 : W.cell? ⟨ga, 1, none⟩ = some (.string r.word) := (by rw [cell_of_row _ _ _ _ _ _ hS.1]; rfl); have k2 := hS.2; go_simp; try (with_reducible rfl))
          refine wpAnyH_take (i := 10) (v := ?_) rfl (by kernel_rfl) (by kernel_rfl) (by kernel_rfl) (fun _ _ _ h => h) (Or.inl ⟨by kernel_rfl, ?_⟩) E0 ?_
          rotate_left
          · (intro W hS; have k1 : W.cell? ⟨ga, 1, none⟩ = some (.string r.word) := (by rw [cell_of_row _ _ _ _ _ _ hS.1]; rfl); have k2 := hS.2; go_simp; try (with_reducible rfl))
          refine wpAnyH_done (by kernel_rfl) ?_ _
          go_simp
          have HF := Lib.hid F0
          clear E0 F0
          go_wp2_with fail
          go_roundw
          case rel => exact ⟨i + 1, by omega, by go_num, by rw [HH.out], HW.out.2.2.1.trans (HF.out.mono HW.out.2.2.1.size)⟩
          case measure => simp [intOf]; omega
end Go.Proofs.Ytnkkbinbeildmaa
