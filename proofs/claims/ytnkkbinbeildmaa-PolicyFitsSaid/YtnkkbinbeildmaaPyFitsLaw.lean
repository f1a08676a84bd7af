/- PROVED HERE: for every rule, every request and every time the law PolicyFits returns true (which rules fit any request, at any time, is what the document says). No condition. -/
import Derived.Test.YtnkkbinbeildmaaPyF
import Derived.Test.YtnkkbinbeildmaaPyS
import Derived.Test.YtnkkbinbeildmaaPyOpen
import Derived.Test.YtnkkbinbeildmaaRows
import Derived.ProofKit
import Derived.OpenShut
namespace Go.Proofs.Ytnkkbinbeildmaa
open Go.RowKit
theorem few_one {r : Py.R} {q : Py.Q} (h : fewL [r] q = true) : r.who.size ≤ 100 ∧ r.word.size ≤ 100 ∧ q.who.size ≤ 100 ∧ q.reason.size ≤ 300 := by
  simp only [fewL, fewQ, fewR, List.all_cons, List.all_nil, Bool.and_eq_true, decide_eq_true_eq] at h
  omega
set_option maxRecDepth 100000 in
set_option maxHeartbeats 4000000 in
theorem pfits_law {w : World} (r : Py.R) (hr : r.Ok) (q : Py.Q) (hq : q.Ok) (now : Int) (_ : -9223372036854775808 ≤ now) (_ : now ≤ 9223372036854775807) :
    Calls Try.prog 4 #[.agg (ruCs r), .agg (qCs q), .int .i64 now] w fun e w' => e = .returned (.bool true) ∧ Below w.heap.size w w' := by
  obtain ⟨w1, hw1⟩ : ∃ w1, w1 = (w.alloc (.cells (ruCs r) 46)).alloc (.cells (qCs q) 24) := ⟨_, rfl⟩
  obtain ⟨g0, hg0⟩ : ∃ g0, g0 = w.heap.size := ⟨_, rfl⟩
  obtain ⟨g1, hg1⟩ : ∃ g1, g1 = w.heap.size + 1 := ⟨_, rfl⟩
  have hb1 : Below w.heap.size w w1 := by rw [hw1]; exact ((Below.refl _ _).alloc (Nat.le_refl _) _).alloc (by simp) _
  have a1 : w1.heap[g0]? = some (.cells (ruCs r) 46 (0, 0)) := by
    rw [hw1, hg0]
    exact (heap_alloc_old _ _ (by simp)).trans (heap_alloc_new _ _)
  have a2 : w1.heap[g1]? = some (.cells (qCs q) 24 (0, 0)) := by rw [hw1, hg1]; exact alloc2_new _ _ _
  obtain ⟨w2, hw2⟩ : ∃ w2, w2 = w1.alloc (.cells (ruCs r) 46) := ⟨_, rfl⟩
  obtain ⟨gs, hgs⟩ : ∃ gs, gs = w1.heap.size := ⟨_, rfl⟩
  have hb2 := box_below hw2
  have a3 : w2.heap[gs]? = some (.cells (ruCs r) 46 (0, 0)) := by rw [hw2, hgs]; exact heap_alloc_new _ _
  have hone : RecsAt 7 ruCs w2 (some ⟨gs, 0, none⟩) [r] := fun j x hj => by
    cases j with
    | zero =>
      simp at hj
      subst hj
      exact ⟨gs, 0, rfl, pblt_of_heap a3, fun m hm => by simpa using cell_lit a3 m⟩
    | succ j => simp at hj
  have hfw := few20_any [r] (some ⟨gs, 0, none⟩) 1 q hq (by simp [maxLen]) (fun x hx => by simp at hx; subst hx; exact ⟨hr.who, hr.word⟩) w2 hone
  simp only [List.length_cons, List.length_nil, Nat.zero_add] at hfw
  unfold qVal at hfw
  have H := Lib.hid (And.intro hfw (And.intro hb1 (And.intro hb2 (And.intro ((hb2.block g0 (pblt_of_heap a1)).trans a1) ((hb2.block g1 (pblt_of_heap a2)).trans a2)))))
  have HA := Lib.hid (And.intro a1 a2)
  clear hfw hb1 hb2 hone a1 a2 a3 hr hq
  obtain ⟨V, hV⟩ : ∃ V, V = Py.fitsB r q now := ⟨_, rfl⟩
  unfold ruCs qCs at hw1 ⊢
  unfold ruCs at hw2
  cases hf : fewL [r] q with
  | false =>
    rw [hf] at H
    clear hf hV
    go_enter Try.func4, Try.ntmps4
    go_upto_region 1 with fail
    rw [← hw1, ← hg1, ← hg0]
    clear hw1 hg0 hg1
    have X0 := HA.out.1
    have c0 : w1.cell? ⟨g0, 0, none⟩ = some (.string r.who) := by rw [cell_of_row _ _ _ _ _ _ X0]; rfl
    have c1 : w1.cell? ⟨g0, 1, none⟩ = some (.string r.word) := by rw [cell_of_row _ _ _ _ _ _ X0]; rfl
    have c2 : w1.cell? ⟨g0, 2, none⟩ = some (.int .i64 r.fr) := by rw [cell_of_row _ _ _ _ _ _ X0]; rfl
    have c3 : w1.cell? ⟨g0, 3, none⟩ = some (.int .i64 r.to) := by rw [cell_of_row _ _ _ _ _ _ X0]; rfl
    have c4 : w1.cell? ⟨g0, 4, none⟩ = some (.int .i64 r.un) := by rw [cell_of_row _ _ _ _ _ _ X0]; rfl
    have c5 : w1.cell? ⟨g0, 5, none⟩ = some (.int .i64 r.mo) := by rw [cell_of_row _ _ _ _ _ _ X0]; rfl
    have c6 : w1.cell? ⟨g0, 6, none⟩ = some (.bool r.allow) := by rw [cell_of_row _ _ _ _ _ _ X0]; rfl
    have Y0 := HA.out.2
    have d0 : w1.cell? ⟨g1, 0, none⟩ = some (.int .i64 q.id) := by rw [cell_of_row _ _ _ _ _ _ Y0]; rfl
    have d1 : w1.cell? ⟨g1, 1, none⟩ = some (.string q.who) := by rw [cell_of_row _ _ _ _ _ _ Y0]; rfl
    have d2 : w1.cell? ⟨g1, 2, none⟩ = some (.int .i64 q.entry) := by rw [cell_of_row _ _ _ _ _ _ Y0]; rfl
    have d3 : w1.cell? ⟨g1, 3, none⟩ = some (.string q.reason) := by rw [cell_of_row _ _ _ _ _ _ Y0]; rfl
    have d4 : w1.cell? ⟨g1, 4, none⟩ = some (.int .i64 q.exp) := by rw [cell_of_row _ _ _ _ _ _ Y0]; rfl
    clear X0 Y0
    have n1 : ¬ (g1 = w1.heap.size) := by have := pblt_of_heap HA.out.2; omega
    have n2 : ¬ (w1.heap.size = g1) := by have := pblt_of_heap HA.out.2; omega
    have n3 : g1 < w1.heap.size := pblt_of_heap HA.out.2
    go_wp2_with fail
    clear n1 n2 n3
    rw [← hw2, ← hgs]
    clear hw2 hgs
    refine H.out.1.mono ?_
    rintro e w3 ⟨rfl, hb3⟩
    have H3 := Lib.hid (And.intro (H.out.2.1.trans ((H.out.2.2.1.trans (hb3.mono H.out.2.2.1.size)).mono H.out.2.1.size)) (And.intro ((hb3.block g0 (pblt_of_heap H.out.2.2.2.1)).trans H.out.2.2.2.1) ((hb3.block g1 (pblt_of_heap H.out.2.2.2.2)).trans H.out.2.2.2.2)))
    clear hb3 c0 c1 c2 c3 c4 c5 c6 d0 d1 d2 d3 d4
    go_wp2_with fail
    refine (awake20_any _).mono ?_
    rintro e w4 ⟨rfl, hb4⟩
    go_wp2_with fail
    go_ret
    exact ⟨rfl, H3.out.1.trans (hb4.mono H3.out.1.size)⟩
  | true =>
    have hs := few_one hf
    have hft := fun W => fits_any r q now ⟨by unfold maxLen; omega, by omega⟩ ⟨by unfold maxLen; omega, by unfold maxLen; omega⟩ W
    have hrt := fun W => rfits_any r q now ⟨by unfold maxLen; omega, by omega⟩ ⟨by unfold maxLen; omega, by unfold maxLen; omega⟩ (by omega) W
    have hrf := fun W => lref20_any q W
    rw [← hV] at hft hrt
    unfold ruVal qVal at hft hrt
    unfold qVal at hrf
    have HQ := Lib.hid (And.intro hft (And.intro hrt hrf))
    rw [hf] at H
    have hvv : (V == V) = true := by simp
    clear hf hV hft hrt hrf hs
    go_enter Try.func4, Try.ntmps4
    go_upto_region 1 with fail
    rw [← hw1, ← hg1, ← hg0]
    clear hw1 hg0 hg1
    have X0 := HA.out.1
    have c0 : w1.cell? ⟨g0, 0, none⟩ = some (.string r.who) := by rw [cell_of_row _ _ _ _ _ _ X0]; rfl
    have c1 : w1.cell? ⟨g0, 1, none⟩ = some (.string r.word) := by rw [cell_of_row _ _ _ _ _ _ X0]; rfl
    have c2 : w1.cell? ⟨g0, 2, none⟩ = some (.int .i64 r.fr) := by rw [cell_of_row _ _ _ _ _ _ X0]; rfl
    have c3 : w1.cell? ⟨g0, 3, none⟩ = some (.int .i64 r.to) := by rw [cell_of_row _ _ _ _ _ _ X0]; rfl
    have c4 : w1.cell? ⟨g0, 4, none⟩ = some (.int .i64 r.un) := by rw [cell_of_row _ _ _ _ _ _ X0]; rfl
    have c5 : w1.cell? ⟨g0, 5, none⟩ = some (.int .i64 r.mo) := by rw [cell_of_row _ _ _ _ _ _ X0]; rfl
    have c6 : w1.cell? ⟨g0, 6, none⟩ = some (.bool r.allow) := by rw [cell_of_row _ _ _ _ _ _ X0]; rfl
    have Y0 := HA.out.2
    have d0 : w1.cell? ⟨g1, 0, none⟩ = some (.int .i64 q.id) := by rw [cell_of_row _ _ _ _ _ _ Y0]; rfl
    have d1 : w1.cell? ⟨g1, 1, none⟩ = some (.string q.who) := by rw [cell_of_row _ _ _ _ _ _ Y0]; rfl
    have d2 : w1.cell? ⟨g1, 2, none⟩ = some (.int .i64 q.entry) := by rw [cell_of_row _ _ _ _ _ _ Y0]; rfl
    have d3 : w1.cell? ⟨g1, 3, none⟩ = some (.string q.reason) := by rw [cell_of_row _ _ _ _ _ _ Y0]; rfl
    have d4 : w1.cell? ⟨g1, 4, none⟩ = some (.int .i64 q.exp) := by rw [cell_of_row _ _ _ _ _ _ Y0]; rfl
    clear X0 Y0
    have n1 : ¬ (g1 = w1.heap.size) := by have := pblt_of_heap HA.out.2; omega
    have n2 : ¬ (w1.heap.size = g1) := by have := pblt_of_heap HA.out.2; omega
    have n3 : g1 < w1.heap.size := pblt_of_heap HA.out.2
    go_wp2_with fail
    clear n1 n2 n3
    rw [← hw2, ← hgs]
    clear hw2 hgs
    refine H.out.1.mono ?_
    rintro e w3 ⟨rfl, hb3⟩
    have H3 := Lib.hid (And.intro (H.out.2.1.trans ((H.out.2.2.1.trans (hb3.mono H.out.2.2.1.size)).mono H.out.2.1.size)) (And.intro ((hb3.block g0 (pblt_of_heap H.out.2.2.2.1)).trans H.out.2.2.2.1) ((hb3.block g1 (pblt_of_heap H.out.2.2.2.2)).trans H.out.2.2.2.2)))
    clear hb3 c0 c1 c2 c3 c4 c5 c6 d0 d1 d2 d3 d4
    go_upto_region 3 with fail
    refine wp_region_held (S := fun W : World => (W.heap[g0]? = some (.cells (ruCs r) 46 (0, 0)) ∧ W.heap[g1]? = some (.cells (qCs q) 24 (0, 0)))) (by kernel_rfl) ?_
    change wpAnyH _ _ _ _ _ _ _ _ (World.drew _)
    generalize hv0 : World.drew _ = v0
    have E0 : (v0.heap[g0]? = some (.cells (ruCs r) 46 (0, 0)) ∧ v0.heap[g1]? = some (.cells (qCs q) 24 (0, 0))) := by rw [← hv0]; exact ⟨H3.out.2.1, H3.out.2.2⟩
    have F0 : Below w3.heap.size w3 v0 := by rw [← hv0]; exact ((Below.refl _ _).drew)
    clear hv0
    refine wpAnyH_ready (rs := [0]) (by kernel_rfl) (by simp) ?_
    refine AllReadyH.cons (i := 0) rfl (fun K hK => ?_) AllReadyH.nil
    go_simp
    refine (awake20_any v0).mono ?_
    rintro e v1 ⟨rfl, hb⟩
    have F1 := F0.trans (hb.mono F0.size)
    have E1 : (v1.heap[g0]? = some (.cells (ruCs r) 46 (0, 0)) ∧ v1.heap[g1]? = some (.cells (qCs q) 24 (0, 0))) := ⟨(hb.block _ (pblt_of_heap E0.1)).trans E0.1, (hb.block _ (pblt_of_heap E0.2)).trans E0.2⟩
    refine hK.out _ _ E1 (fun _ => ?_)
    clear hK K hb
    refine wpAnyH_take (i := 1) (v := ?_) rfl (by kernel_rfl) (by kernel_rfl) (by kernel_rfl) (fun _ _ _ h => h) (Or.inl ⟨by kernel_rfl, ?_⟩) E1 ?_
    rotate_left
    · (intro W hS; have c0 : W.cell? ⟨g0, 0, none⟩ = some (.string r.who) := (by rw [cell_of_row _ _ _ _ _ _ hS.1]; rfl); have c1 : W.cell? ⟨g0, 1, none⟩ = some (.string r.word) := (by rw [cell_of_row _ _ _ _ _ _ hS.1]; rfl); have c2 : W.cell? ⟨g0, 2, none⟩ = some (.int .i64 r.fr) := (by rw [cell_of_row _ _ _ _ _ _ hS.1]; rfl); have c3 : W.cell? ⟨g0, 3, none⟩ = some (.int .i64 r.to) := (by rw [cell_of_row _ _ _ _ _ _ hS.1]; rfl); have c4 : W.cell? ⟨g0, 4, none⟩ = some (.int .i64 r.un) := (by rw [cell_of_row _ _ _ _ _ _ hS.1]; rfl); have c5 : W.cell? ⟨g0, 5, none⟩ = some (.int .i64 r.mo) := (by rw [cell_of_row _ _ _ _ _ _ hS.1]; rfl); have c6 : W.cell? ⟨g0, 6, none⟩ = some (.bool r.allow) := (by rw [cell_of_row _ _ _ _ _ _ hS.1]; rfl); have d0 : W.cell? ⟨g1, 0, none⟩ = some (.int .i64 q.id) := (by rw [cell_of_row _ _ _ _ _ _ hS.2]; rfl); have d1 : W.cell? ⟨g1, 1, none⟩ = some (.string q.who) := (by rw [cell_of_row _ _ _ _ _ _ hS.2]; rfl); have d2 : W.cell? ⟨g1, 2, none⟩ = some (.int .i64 q.entry) := (by rw [cell_of_row _ _ _ _ _ _ hS.2]; rfl); have d3 : W.cell? ⟨g1, 3, none⟩ = some (.string q.reason) := (by rw [cell_of_row _ _ _ _ _ _ hS.2]; rfl); have d4 : W.cell? ⟨g1, 4, none⟩ = some (.int .i64 q.exp) := (by rw [cell_of_row _ _ _ _ _ _ hS.2]; rfl); go_simp; try (with_reducible rfl))
    refine wpAnyH_take (i := 2) (v := ?_) rfl (by kernel_rfl) (by kernel_rfl) (by kernel_rfl) (fun _ _ _ h => h) (Or.inl ⟨by kernel_rfl, ?_⟩) E1 ?_
    rotate_left
    · (intro W hS; have c0 : W.cell? ⟨g0, 0, none⟩ = some (.string r.who) := (by rw [cell_of_row _ _ _ _ _ _ hS.1]; rfl); have c1 : W.cell? ⟨g0, 1, none⟩ = some (.string r.word) := (by rw [cell_of_row _ _ _ _ _ _ hS.1]; rfl); have c2 : W.cell? ⟨g0, 2, none⟩ = some (.int .i64 r.fr) := (by rw [cell_of_row _ _ _ _ _ _ hS.1]; rfl); have c3 : W.cell? ⟨g0, 3, none⟩ = some (.int .i64 r.to) := (by rw [cell_of_row _ _ _ _ _ _ hS.1]; rfl); have c4 : W.cell? ⟨g0, 4, none⟩ = some (.int .i64 r.un) := (by rw [cell_of_row _ _ _ _ _ _ hS.1]; rfl); have c5 : W.cell? ⟨g0, 5, none⟩ = some (.int .i64 r.mo) := (by rw [cell_of_row _ _ _ _ _ _ hS.1]; rfl); have c6 : W.cell? ⟨g0, 6, none⟩ = some (.bool r.allow) := (by rw [cell_of_row _ _ _ _ _ _ hS.1]; rfl); have d0 : W.cell? ⟨g1, 0, none⟩ = some (.int .i64 q.id) := (by rw [cell_of_row _ _ _ _ _ _ hS.2]; rfl); have d1 : W.cell? ⟨g1, 1, none⟩ = some (.string q.who) := (by rw [cell_of_row _ _ _ _ _ _ hS.2]; rfl); have d2 : W.cell? ⟨g1, 2, none⟩ = some (.int .i64 q.entry) := (by rw [cell_of_row _ _ _ _ _ _ hS.2]; rfl); have d3 : W.cell? ⟨g1, 3, none⟩ = some (.string q.reason) := (by rw [cell_of_row _ _ _ _ _ _ hS.2]; rfl); have d4 : W.cell? ⟨g1, 4, none⟩ = some (.int .i64 q.exp) := (by rw [cell_of_row _ _ _ _ _ _ hS.2]; rfl); go_simp; try (with_reducible rfl))
    refine wpAnyH_take (i := 3) (v := ?_) rfl (by kernel_rfl) (by kernel_rfl) (by kernel_rfl) (fun _ _ _ h => h) (Or.inl ⟨by kernel_rfl, ?_⟩) E1 ?_
    rotate_left
    · (intro W hS; have c0 : W.cell? ⟨g0, 0, none⟩ = some (.string r.who) := (by rw [cell_of_row _ _ _ _ _ _ hS.1]; rfl); have c1 : W.cell? ⟨g0, 1, none⟩ = some (.string r.word) := (by rw [cell_of_row _ _ _ _ _ _ hS.1]; rfl); have c2 : W.cell? ⟨g0, 2, none⟩ = some (.int .i64 r.fr) := (by rw [cell_of_row _ _ _ _ _ _ hS.1]; rfl); have c3 : W.cell? ⟨g0, 3, none⟩ = some (.int .i64 r.to) := (by rw [cell_of_row _ _ _ _ _ _ hS.1]; rfl); have c4 : W.cell? ⟨g0, 4, none⟩ = some (.int .i64 r.un) := (by rw [cell_of_row _ _ _ _ _ _ hS.1]; rfl); have c5 : W.cell? ⟨g0, 5, none⟩ = some (.int .i64 r.mo) := (by rw [cell_of_row _ _ _ _ _ _ hS.1]; rfl); have c6 : W.cell? ⟨g0, 6, none⟩ = some (.bool r.allow) := (by rw [cell_of_row _ _ _ _ _ _ hS.1]; rfl); have d0 : W.cell? ⟨g1, 0, none⟩ = some (.int .i64 q.id) := (by rw [cell_of_row _ _ _ _ _ _ hS.2]; rfl); have d1 : W.cell? ⟨g1, 1, none⟩ = some (.string q.who) := (by rw [cell_of_row _ _ _ _ _ _ hS.2]; rfl); have d2 : W.cell? ⟨g1, 2, none⟩ = some (.int .i64 q.entry) := (by rw [cell_of_row _ _ _ _ _ _ hS.2]; rfl); have d3 : W.cell? ⟨g1, 3, none⟩ = some (.string q.reason) := (by rw [cell_of_row _ _ _ _ _ _ hS.2]; rfl); have d4 : W.cell? ⟨g1, 4, none⟩ = some (.int .i64 q.exp) := (by rw [cell_of_row _ _ _ _ _ _ hS.2]; rfl); go_simp; try (with_reducible rfl))
    refine wpAnyH_take (i := 4) (v := ?_) rfl (by kernel_rfl) (by kernel_rfl) (by kernel_rfl) (fun _ _ _ h => h) (Or.inl ⟨by kernel_rfl, ?_⟩) E1 ?_
    rotate_left
    · (intro W hS; have c0 : W.cell? ⟨g0, 0, none⟩ = some (.string r.who) := (by rw [cell_of_row _ _ _ _ _ _ hS.1]; rfl); have c1 : W.cell? ⟨g0, 1, none⟩ = some (.string r.word) := (by rw [cell_of_row _ _ _ _ _ _ hS.1]; rfl); have c2 : W.cell? ⟨g0, 2, none⟩ = some (.int .i64 r.fr) := (by rw [cell_of_row _ _ _ _ _ _ hS.1]; rfl); have c3 : W.cell? ⟨g0, 3, none⟩ = some (.int .i64 r.to) := (by rw [cell_of_row _ _ _ _ _ _ hS.1]; rfl); have c4 : W.cell? ⟨g0, 4, none⟩ = some (.int .i64 r.un) := (by rw [cell_of_row _ _ _ _ _ _ hS.1]; rfl); have c5 : W.cell? ⟨g0, 5, none⟩ = some (.int .i64 r.mo) := (by rw [cell_of_row _ _ _ _ _ _ hS.1]; rfl); have c6 : W.cell? ⟨g0, 6, none⟩ = some (.bool r.allow) := (by rw [cell_of_row _ _ _ _ _ _ hS.1]; rfl); have d0 : W.cell? ⟨g1, 0, none⟩ = some (.int .i64 q.id) := (by rw [cell_of_row _ _ _ _ _ _ hS.2]; rfl); have d1 : W.cell? ⟨g1, 1, none⟩ = some (.string q.who) := (by rw [cell_of_row _ _ _ _ _ _ hS.2]; rfl); have d2 : W.cell? ⟨g1, 2, none⟩ = some (.int .i64 q.entry) := (by rw [cell_of_row _ _ _ _ _ _ hS.2]; rfl); have d3 : W.cell? ⟨g1, 3, none⟩ = some (.string q.reason) := (by rw [cell_of_row _ _ _ _ _ _ hS.2]; rfl); have d4 : W.cell? ⟨g1, 4, none⟩ = some (.int .i64 q.exp) := (by rw [cell_of_row _ _ _ _ _ _ hS.2]; rfl); go_simp; try (with_reducible rfl))
    refine wpAnyH_take (i := 6) (v := ?_) rfl (by kernel_rfl) (by kernel_rfl) (by kernel_rfl) (fun _ _ _ h => h) (Or.inl ⟨by kernel_rfl, ?_⟩) E1 ?_
    rotate_left
    · (intro W hS; have c0 : W.cell? ⟨g0, 0, none⟩ = some (.string r.who) := (by rw [cell_of_row _ _ _ _ _ _ hS.1]; rfl); have c1 : W.cell? ⟨g0, 1, none⟩ = some (.string r.word) := (by rw [cell_of_row _ _ _ _ _ _ hS.1]; rfl); have c2 : W.cell? ⟨g0, 2, none⟩ = some (.int .i64 r.fr) := (by rw [cell_of_row _ _ _ _ _ _ hS.1]; rfl); have c3 : W.cell? ⟨g0, 3, none⟩ = some (.int .i64 r.to) := (by rw [cell_of_row _ _ _ _ _ _ hS.1]; rfl); have c4 : W.cell? ⟨g0, 4, none⟩ = some (.int .i64 r.un) := (by rw [cell_of_row _ _ _ _ _ _ hS.1]; rfl); have c5 : W.cell? ⟨g0, 5, none⟩ = some (.int .i64 r.mo) := (by rw [cell_of_row _ _ _ _ _ _ hS.1]; rfl); have c6 : W.cell? ⟨g0, 6, none⟩ = some (.bool r.allow) := (by rw [cell_of_row _ _ _ _ _ _ hS.1]; rfl); have d0 : W.cell? ⟨g1, 0, none⟩ = some (.int .i64 q.id) := (by rw [cell_of_row _ _ _ _ _ _ hS.2]; rfl); have d1 : W.cell? ⟨g1, 1, none⟩ = some (.string q.who) := (by rw [cell_of_row _ _ _ _ _ _ hS.2]; rfl); have d2 : W.cell? ⟨g1, 2, none⟩ = some (.int .i64 q.entry) := (by rw [cell_of_row _ _ _ _ _ _ hS.2]; rfl); have d3 : W.cell? ⟨g1, 3, none⟩ = some (.string q.reason) := (by rw [cell_of_row _ _ _ _ _ _ hS.2]; rfl); have d4 : W.cell? ⟨g1, 4, none⟩ = some (.int .i64 q.exp) := (by rw [cell_of_row _ _ _ _ _ _ hS.2]; rfl); go_simp; try (with_reducible rfl))
    refine wpAnyH_take (i := 7) (v := ?_) rfl (by kernel_rfl) (by kernel_rfl) (by kernel_rfl) (fun _ _ _ h => h) (Or.inl ⟨by kernel_rfl, ?_⟩) E1 ?_
    rotate_left
    · (intro W hS; have c0 : W.cell? ⟨g0, 0, none⟩ = some (.string r.who) := (by rw [cell_of_row _ _ _ _ _ _ hS.1]; rfl); have c1 : W.cell? ⟨g0, 1, none⟩ = some (.string r.word) := (by rw [cell_of_row _ _ _ _ _ _ hS.1]; rfl); have c2 : W.cell? ⟨g0, 2, none⟩ = some (.int .i64 r.fr) := (by rw [cell_of_row _ _ _ _ _ _ hS.1]; rfl); have c3 : W.cell? ⟨g0, 3, none⟩ = some (.int .i64 r.to) := (by rw [cell_of_row _ _ _ _ _ _ hS.1]; rfl); have c4 : W.cell? ⟨g0, 4, none⟩ = some (.int .i64 r.un) := (by rw [cell_of_row _ _ _ _ _ _ hS.1]; rfl); have c5 : W.cell? ⟨g0, 5, none⟩ = some (.int .i64 r.mo) := (by rw [cell_of_row _ _ _ _ _ _ hS.1]; rfl); have c6 : W.cell? ⟨g0, 6, none⟩ = some (.bool r.allow) := (by rw [cell_of_row _ _ _ _ _ _ hS.1]; rfl); have d0 : W.cell? ⟨g1, 0, none⟩ = some (.int .i64 q.id) := (by rw [cell_of_row _ _ _ _ _ _ hS.2]; rfl); have d1 : W.cell? ⟨g1, 1, none⟩ = some (.string q.who) := (by rw [cell_of_row _ _ _ _ _ _ hS.2]; rfl); have d2 : W.cell? ⟨g1, 2, none⟩ = some (.int .i64 q.entry) := (by rw [cell_of_row _ _ _ _ _ _ hS.2]; rfl); have d3 : W.cell? ⟨g1, 3, none⟩ = some (.string q.reason) := (by rw [cell_of_row _ _ _ _ _ _ hS.2]; rfl); have d4 : W.cell? ⟨g1, 4, none⟩ = some (.int .i64 q.exp) := (by rw [cell_of_row _ _ _ _ _ _ hS.2]; rfl); go_simp; try (with_reducible rfl))
    refine wpAnyH_take (i := 9) (v := ?_) rfl (by kernel_rfl) (by kernel_rfl) (by kernel_rfl) (fun _ _ _ h => h) (Or.inl ⟨by kernel_rfl, ?_⟩) E1 ?_
    rotate_left
    · (intro W hS; have c0 : W.cell? ⟨g0, 0, none⟩ = some (.string r.who) := (by rw [cell_of_row _ _ _ _ _ _ hS.1]; rfl); have c1 : W.cell? ⟨g0, 1, none⟩ = some (.string r.word) := (by rw [cell_of_row _ _ _ _ _ _ hS.1]; rfl); have c2 : W.cell? ⟨g0, 2, none⟩ = some (.int .i64 r.fr) := (by rw [cell_of_row _ _ _ _ _ _ hS.1]; rfl); have c3 : W.cell? ⟨g0, 3, none⟩ = some (.int .i64 r.to) := (by rw [cell_of_row _ _ _ _ _ _ hS.1]; rfl); have c4 : W.cell? ⟨g0, 4, none⟩ = some (.int .i64 r.un) := (by rw [cell_of_row _ _ _ _ _ _ hS.1]; rfl); have c5 : W.cell? ⟨g0, 5, none⟩ = some (.int .i64 r.mo) := (by rw [cell_of_row _ _ _ _ _ _ hS.1]; rfl); have c6 : W.cell? ⟨g0, 6, none⟩ = some (.bool r.allow) := (by rw [cell_of_row _ _ _ _ _ _ hS.1]; rfl); have d0 : W.cell? ⟨g1, 0, none⟩ = some (.int .i64 q.id) := (by rw [cell_of_row _ _ _ _ _ _ hS.2]; rfl); have d1 : W.cell? ⟨g1, 1, none⟩ = some (.string q.who) := (by rw [cell_of_row _ _ _ _ _ _ hS.2]; rfl); have d2 : W.cell? ⟨g1, 2, none⟩ = some (.int .i64 q.entry) := (by rw [cell_of_row _ _ _ _ _ _ hS.2]; rfl); have d3 : W.cell? ⟨g1, 3, none⟩ = some (.string q.reason) := (by rw [cell_of_row _ _ _ _ _ _ hS.2]; rfl); have d4 : W.cell? ⟨g1, 4, none⟩ = some (.int .i64 q.exp) := (by rw [cell_of_row _ _ _ _ _ _ hS.2]; rfl); go_simp; try (with_reducible rfl))
    refine wpAnyH_ready (rs := [5]) (by kernel_rfl) (by simp) ?_
    refine AllReadyH.cons (i := 5) rfl (fun K hK => ?_) AllReadyH.nil
    go_simp
    refine (HQ.out.1 v1).mono ?_
    rintro e v2 ⟨rfl, hb⟩
    have F2 := F1.trans (hb.mono F1.size)
    have E2 : (v2.heap[g0]? = some (.cells (ruCs r) 46 (0, 0)) ∧ v2.heap[g1]? = some (.cells (qCs q) 24 (0, 0))) := ⟨(hb.block _ (pblt_of_heap E1.1)).trans E1.1, (hb.block _ (pblt_of_heap E1.2)).trans E1.2⟩
    refine hK.out _ _ E2 (fun _ => ?_)
    clear hK K hb
    refine wpAnyH_ready (rs := [8]) (by kernel_rfl) (by simp) ?_
    refine AllReadyH.cons (i := 8) rfl (fun K hK => ?_) AllReadyH.nil
    go_simp
    refine (HQ.out.2.2 v2).mono ?_
    rintro e v3 ⟨rfl, hb⟩
    have F3 := F2.trans (hb.mono F2.size)
    have E3 : (v3.heap[g0]? = some (.cells (ruCs r) 46 (0, 0)) ∧ v3.heap[g1]? = some (.cells (qCs q) 24 (0, 0))) := ⟨(hb.block _ (pblt_of_heap E2.1)).trans E2.1, (hb.block _ (pblt_of_heap E2.2)).trans E2.2⟩
    refine hK.out _ _ E3 (fun _ => ?_)
    clear hK K hb
    refine wpAnyH_ready (rs := [10]) (by kernel_rfl) (by simp) ?_
    refine AllReadyH.cons (i := 10) rfl (fun K hK => ?_) AllReadyH.nil
    go_simp
    refine (HQ.out.2.1 v3).mono ?_
    rintro e v4 ⟨rfl, hb⟩
    have F4 := F3.trans (hb.mono F3.size)
    have E4 : (v4.heap[g0]? = some (.cells (ruCs r) 46 (0, 0)) ∧ v4.heap[g1]? = some (.cells (qCs q) 24 (0, 0))) := ⟨(hb.block _ (pblt_of_heap E3.1)).trans E3.1, (hb.block _ (pblt_of_heap E3.2)).trans E3.2⟩
    refine hK.out _ _ E4 (fun _ => ?_)
    clear hK K hb
    refine wpAnyH_take (i := 11) (v := ?_) rfl (by kernel_rfl) (by kernel_rfl) (by kernel_rfl) (fun _ _ _ h => h) (Or.inl ⟨by kernel_rfl, ?_⟩) E4 ?_
    rotate_left
    · (intro W hS; have c0 : W.cell? ⟨g0, 0, none⟩ = some (.string r.who) := (by rw [cell_of_row _ _ _ _ _ _ hS.1]; rfl); have c1 : W.cell? ⟨g0, 1, none⟩ = some (.string r.word) := (by rw [cell_of_row _ _ _ _ _ _ hS.1]; rfl); have c2 : W.cell? ⟨g0, 2, none⟩ = some (.int .i64 r.fr) := (by rw [cell_of_row _ _ _ _ _ _ hS.1]; rfl); have c3 : W.cell? ⟨g0, 3, none⟩ = some (.int .i64 r.to) := (by rw [cell_of_row _ _ _ _ _ _ hS.1]; rfl); have c4 : W.cell? ⟨g0, 4, none⟩ = some (.int .i64 r.un) := (by rw [cell_of_row _ _ _ _ _ _ hS.1]; rfl); have c5 : W.cell? ⟨g0, 5, none⟩ = some (.int .i64 r.mo) := (by rw [cell_of_row _ _ _ _ _ _ hS.1]; rfl); have c6 : W.cell? ⟨g0, 6, none⟩ = some (.bool r.allow) := (by rw [cell_of_row _ _ _ _ _ _ hS.1]; rfl); have d0 : W.cell? ⟨g1, 0, none⟩ = some (.int .i64 q.id) := (by rw [cell_of_row _ _ _ _ _ _ hS.2]; rfl); have d1 : W.cell? ⟨g1, 1, none⟩ = some (.string q.who) := (by rw [cell_of_row _ _ _ _ _ _ hS.2]; rfl); have d2 : W.cell? ⟨g1, 2, none⟩ = some (.int .i64 q.entry) := (by rw [cell_of_row _ _ _ _ _ _ hS.2]; rfl); have d3 : W.cell? ⟨g1, 3, none⟩ = some (.string q.reason) := (by rw [cell_of_row _ _ _ _ _ _ hS.2]; rfl); have d4 : W.cell? ⟨g1, 4, none⟩ = some (.int .i64 q.exp) := (by rw [cell_of_row _ _ _ _ _ _ hS.2]; rfl); go_simp; try (with_reducible rfl))
    refine wpAnyH_take (i := 12) (v := ?_) rfl (by kernel_rfl) (by kernel_rfl) (by kernel_rfl) (fun _ _ _ h => h) (Or.inl ⟨by kernel_rfl, ?_⟩) E4 ?_
    rotate_left
    · (intro W hS; have c0 : W.cell? ⟨g0, 0, none⟩ = some (.string r.who) := (by rw [cell_of_row _ _ _ _ _ _ hS.1]; rfl); have c1 : W.cell? ⟨g0, 1, none⟩ = some (.string r.word) := (by rw [cell_of_row _ _ _ _ _ _ hS.1]; rfl); have c2 : W.cell? ⟨g0, 2, none⟩ = some (.int .i64 r.fr) := (by rw [cell_of_row _ _ _ _ _ _ hS.1]; rfl); have c3 : W.cell? ⟨g0, 3, none⟩ = some (.int .i64 r.to) := (by rw [cell_of_row _ _ _ _ _ _ hS.1]; rfl); have c4 : W.cell? ⟨g0, 4, none⟩ = some (.int .i64 r.un) := (by rw [cell_of_row _ _ _ _ _ _ hS.1]; rfl); have c5 : W.cell? ⟨g0, 5, none⟩ = some (.int .i64 r.mo) := (by rw [cell_of_row _ _ _ _ _ _ hS.1]; rfl); have c6 : W.cell? ⟨g0, 6, none⟩ = some (.bool r.allow) := (by rw [cell_of_row _ _ _ _ _ _ hS.1]; rfl); have d0 : W.cell? ⟨g1, 0, none⟩ = some (.int .i64 q.id) := (by rw [cell_of_row _ _ _ _ _ _ hS.2]; rfl); have d1 : W.cell? ⟨g1, 1, none⟩ = some (.string q.who) := (by rw [cell_of_row _ _ _ _ _ _ hS.2]; rfl); have d2 : W.cell? ⟨g1, 2, none⟩ = some (.int .i64 q.entry) := (by rw [cell_of_row _ _ _ _ _ _ hS.2]; rfl); have d3 : W.cell? ⟨g1, 3, none⟩ = some (.string q.reason) := (by rw [cell_of_row _ _ _ _ _ _ hS.2]; rfl); have d4 : W.cell? ⟨g1, 4, none⟩ = some (.int .i64 q.exp) := (by rw [cell_of_row _ _ _ _ _ _ hS.2]; rfl); go_simp; try (with_reducible rfl))
    refine wpAnyH_take (i := 13) (v := ?_) rfl (by kernel_rfl) (by kernel_rfl) (by kernel_rfl) (fun _ _ _ h => h) (Or.inl ⟨by kernel_rfl, ?_⟩) E4 ?_
    rotate_left
    · (intro W hS; have c0 : W.cell? ⟨g0, 0, none⟩ = some (.string r.who) := (by rw [cell_of_row _ _ _ _ _ _ hS.1]; rfl); have c1 : W.cell? ⟨g0, 1, none⟩ = some (.string r.word) := (by rw [cell_of_row _ _ _ _ _ _ hS.1]; rfl); have c2 : W.cell? ⟨g0, 2, none⟩ = some (.int .i64 r.fr) := (by rw [cell_of_row _ _ _ _ _ _ hS.1]; rfl); have c3 : W.cell? ⟨g0, 3, none⟩ = some (.int .i64 r.to) := (by rw [cell_of_row _ _ _ _ _ _ hS.1]; rfl); have c4 : W.cell? ⟨g0, 4, none⟩ = some (.int .i64 r.un) := (by rw [cell_of_row _ _ _ _ _ _ hS.1]; rfl); have c5 : W.cell? ⟨g0, 5, none⟩ = some (.int .i64 r.mo) := (by rw [cell_of_row _ _ _ _ _ _ hS.1]; rfl); have c6 : W.cell? ⟨g0, 6, none⟩ = some (.bool r.allow) := (by rw [cell_of_row _ _ _ _ _ _ hS.1]; rfl); have d0 : W.cell? ⟨g1, 0, none⟩ = some (.int .i64 q.id) := (by rw [cell_of_row _ _ _ _ _ _ hS.2]; rfl); have d1 : W.cell? ⟨g1, 1, none⟩ = some (.string q.who) := (by rw [cell_of_row _ _ _ _ _ _ hS.2]; rfl); have d2 : W.cell? ⟨g1, 2, none⟩ = some (.int .i64 q.entry) := (by rw [cell_of_row _ _ _ _ _ _ hS.2]; rfl); have d3 : W.cell? ⟨g1, 3, none⟩ = some (.string q.reason) := (by rw [cell_of_row _ _ _ _ _ _ hS.2]; rfl); have d4 : W.cell? ⟨g1, 4, none⟩ = some (.int .i64 q.exp) := (by rw [cell_of_row _ _ _ _ _ _ hS.2]; rfl); go_simp; try (with_reducible rfl))
    refine wpAnyH_done (by kernel_rfl) ?_ _
    go_simp
    have HE := Lib.hid F4
    clear F0 F4 E0 E1 E2 E3 E4
    go_wp2_with fail
    go_ret
    exact ⟨by first | rfl | (rw [hvv]; rfl), H3.out.1.trans (HE.out.mono H3.out.1.size)⟩
end Go.Proofs.Ytnkkbinbeildmaa

namespace Go.Proofs.Ytnkkbinbeildmaa.policyFitsLaw
open Go.ChangeShapes Go.WideShapes Go.ChangeAt Go.RowKit
open Go.ChangeMaps (open_string shut_string)

theorem own : ownKnob Try.prog.godebug = none := by kernel_rfl
set_option maxRecDepth 100000 in
theorem lifted (os : Os) (started : os.Started) (H : Type) (enc : TypeId × Value → H) :
    ReturnsInHanded {} Try.checked os 4 .any (Rows.policyFitsSpec.pre6 enc Try.prog Try.f4 Rows.policyFitsRow.domain false) (Rows.policyFitsSpec.post enc Try.prog Try.f4 false true false false) := by
  refine returnsInHanded_of_change (C := Try.checked) own started (by kernel_rfl) Try.func4
    (ChangeSpec.witness6 (enc := enc) (C := Try.checked) false ⟨#[], #[.agg #[.string ⟨#[]⟩, .string ⟨#[]⟩, .int .i64 0, .int .i64 0, .int .i64 0, .int .i64 0, .bool false], .agg #[.int .i64 0, .string ⟨#[]⟩, .int .i64 0, .string ⟨#[]⟩, .int .i64 0], .int .i64 0], []⟩ 8 (by kernel_rfl) (by kernel_rfl) (by kernel_rfl) (by kernel_rfl)) ?_
  intro W base args ds gs before hval0 hW hcnd _
  have hval : ∀ (j : Nat) t v, Try.f4.params[j]? = some t → args[j]? = some v → Value.okWide Try.prog W .any base t v := hval0
  have hW' := hW
  obtain ⟨p, q, hA0, hV, rfl, hfz, hnd⟩ := hW
  have hA : DataW.TrodAll enc Try.prog W 0 (fun _ => true) true Try.f4.params.toList args.toList ds p := hA0
  rw [Try.params4] at hA hval
  obtain ⟨v0, vs0, d0, ds0, p0, q0, hargs, rfl, rfl, h0, r0⟩ := trodAll_cons hA
  obtain ⟨v1, vs1, d1, ds1, p1, q1, rfl, rfl, rfl, h1, r1⟩ := trodAll_cons r0
  obtain ⟨v2, vs2, d2, ds2, p2, q2, rfl, rfl, rfl, h2, r2⟩ := trodAll_cons r1
  obtain ⟨rfl, rfl, rfl⟩ := trodAll_nil r2
  obtain rfl : args = #[v0, v1, v2] := by cases args; simp_all
  obtain ⟨rfl, rfl⟩ := trodVars_none hV
  obtain ⟨cs0, rfl, hcs0⟩ := okWide_struct Try.underlying46 (hval 0 46 v0 rfl rfl)
  have hk0 := h0
  obtain ⟨fuel0, hf0⟩ := h0
  obtain ⟨cs1, rfl, hcs1⟩ := okWide_struct Try.underlying24 (hval 1 24 v1 rfl rfl)
  have hk1 := h1
  obtain ⟨fuel1, hf1⟩ := h1
  obtain ⟨n2, rfl, rfl, rfl, ws2⟩ := open_int Try.underlying3 (hval 2 3 v2 rfl rfl) h2
  have hbd2 := ws2
  simp only [Lit.wf, Bool.and_eq_true, decide_eq_true_eq] at hbd2
  clear hA0 hval0
  simp only [List.append_nil] at hW'
  have hlt0 : ∀ x ∈ p0, x.block < W.heap.size := fun x hx => by simpa using hW'.lt x (by simp [hx])
  obtain ⟨x0a, hit0, hf0a⟩ := open_rule hf0
  obtain rfl : cs0 = ruCs x0a := Array.toList_inj.1 hit0
  have hlt1 : ∀ x ∈ p1, x.block < W.heap.size := fun x hx => by simpa using hW'.lt x (by simp [hx])
  obtain ⟨x1a, hit1, hf1a⟩ := open_req hf1
  obtain rfl : cs1 = qCs x1a := Array.toList_inj.1 hit1
  refine (pfits_law x0a hf0a x1a hf1a n2 hbd2.1 hbd2.2 (w := W)).mono fun e W' ⟨he, hb⟩ => ?_
  subst he
  exact ⟨_, rfl, _, _, _, [], _, [], hW', trodAll_cons_mk (shut_bool Try.underlying4 _) trodAll_mk0, (trodAll_cons_mk (Below.trod laidOut (by kernel_rfl) (of_decide_eq_true (by kernel_rfl)) hk0 hb hlt0) (trodAll_cons_mk (Below.trod laidOut (by kernel_rfl) (of_decide_eq_true (by kernel_rfl)) hk1 hb hlt1) (trodAll_cons_mk (shut_int Try.underlying3 ws2) trodAll_mk0))), rfl, hb.frame _, fun h => by cases h⟩
theorem over : Rows.policyFitsRow.holds Try.pinned (OpenSpec.ofChange Rows.policyFitsSpec) :=
  OpenClaim.holds_of_wide 4 Try.f4 rfl rfl rfl rfl rfl rfl rfl ⟨rfl, rfl, rfl, rfl, rfl⟩ rfl rfl rfl rfl rfl (by kernel_rfl) Try.func4 (by kernel_rfl)
    (of_decide_eq_true (by kernel_rfl)) (by unfold Func.isWrapper; first | (rw [if_pos (by decide +kernel)]; kernel_rfl) | (rw [if_neg (by decide +kernel)]; exact ⟨rfl, rfl⟩))
    (fun os started H enc _ => lifted os started H enc)
end Go.Proofs.Ytnkkbinbeildmaa.policyFitsLaw

namespace Go.Proofs.Ytnkkbinbeildmaa
theorem policyFits_said : Rows.PolicyFitsSaid := policyFitsLaw.over
end Go.Proofs.Ytnkkbinbeildmaa
