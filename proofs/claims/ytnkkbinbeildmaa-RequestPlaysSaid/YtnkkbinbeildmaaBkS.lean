/- lockboxlaw20.Ref, lockboxlaw21.Ref, lockboxref21.Do. -/
import Derived.Test.YtnkkbinbeildmaaBkR
namespace Go.Proofs.Ytnkkbinbeildmaa
open Go.RowKit
/-- The cells of an act as the document has it. -/
def raCs (a : Bk.Act) : Array Value := #[.int .i64 a.kind, .int .i64 a.q.id, .string a.q.who, .int .i64 a.q.entry, .string a.q.reason, .int .i64 a.q.exp, .int .i64 a.id, .string a.who, .int .i64 a.now]
def raVal (a : Bk.Act) : Value := .agg #[.int .i64 a.kind, .int .i64 a.q.id, .string a.q.who, .int .i64 a.q.entry, .string a.q.reason, .int .i64 a.q.exp, .int .i64 a.id, .string a.who, .int .i64 a.now]
set_option maxRecDepth 100000 in
set_option maxHeartbeats 1000000 in
theorem lref20_any (q : Py.Q) (w : World) : Calls Try.prog 15 #[qVal q] w fun e w' => e = .returned (qVal q) ∧ Below w.heap.size w w' := by
  obtain ⟨w1, hw1⟩ : ∃ w1, w1 = (w.alloc (.cells (qCs q) 24)).alloc (.cells #[.int .i64 0, .string ⟨#[]⟩, .int .i64 0, .string ⟨#[]⟩, .int .i64 0] 36) := ⟨_, rfl⟩
  obtain ⟨gq, hgq⟩ : ∃ gq, gq = w.heap.size := ⟨_, rfl⟩
  obtain ⟨gr, hgr⟩ : ∃ gr, gr = w.heap.size + 1 := ⟨_, rfl⟩
  have hb1 : Below w.heap.size w w1 := by rw [hw1]; exact ((Below.refl _ _).alloc (Nat.le_refl _) _).alloc (by simp) _
  have a1 : w1.heap[gq]? = some (.cells (qCs q) 24 (0, 0)) := by
    rw [hw1, hgq]
    exact (heap_alloc_old _ _ (by simp)).trans (heap_alloc_new _ _)
  have a2 : w1.heap[gr]? = some (.cells #[.int .i64 0, .string ⟨#[]⟩, .int .i64 0, .string ⟨#[]⟩, .int .i64 0] 36 (0, 0)) := by rw [hw1, hgr]; exact alloc2_new _ _ _
  have hlo : w.heap.size ≤ gr := by omega
  have c0 : w1.cell? ⟨gq, 0, none⟩ = some (.int .i64 q.id) := by rw [cell_of_row _ _ _ _ _ _ a1]; rfl
  have c1 : w1.cell? ⟨gq, 1, none⟩ = some (.string q.who) := by rw [cell_of_row _ _ _ _ _ _ a1]; rfl
  have c2 : w1.cell? ⟨gq, 2, none⟩ = some (.int .i64 q.entry) := by rw [cell_of_row _ _ _ _ _ _ a1]; rfl
  have c3 : w1.cell? ⟨gq, 3, none⟩ = some (.string q.reason) := by rw [cell_of_row _ _ _ _ _ _ a1]; rfl
  have c4 : w1.cell? ⟨gq, 4, none⟩ = some (.int .i64 q.exp) := by rw [cell_of_row _ _ _ _ _ _ a1]; rfl
  have d0 : w1.cell? ⟨gr, 0, none⟩ = some (.int .i64 0) := by rw [cell_of_row _ _ _ _ _ _ a2]; rfl
  have d1 : w1.cell? ⟨gr, 1, none⟩ = some (.string ⟨#[]⟩) := by rw [cell_of_row _ _ _ _ _ _ a2]; rfl
  have d2 : w1.cell? ⟨gr, 2, none⟩ = some (.int .i64 0) := by rw [cell_of_row _ _ _ _ _ _ a2]; rfl
  have d3 : w1.cell? ⟨gr, 3, none⟩ = some (.string ⟨#[]⟩) := by rw [cell_of_row _ _ _ _ _ _ a2]; rfl
  have d4 : w1.cell? ⟨gr, 4, none⟩ = some (.int .i64 0) := by rw [cell_of_row _ _ _ _ _ _ a2]; rfl
  have fz : ∀ j, w1.frozen? ⟨gr, j, none⟩ = false := fun j => frozen_of_row _ _ _ _ _ a2
  obtain ⟨w9, hw9⟩ : ∃ z, z = (((((w1.setCell ⟨gr, 0, none⟩ (.int .i64 q.id)).setCell ⟨gr, 1, none⟩ (.string q.who)).setCell ⟨gr, 2, none⟩ (.int .i64 q.entry)).setCell ⟨gr, 3, none⟩ (.string q.reason)).setCell ⟨gr, 4, none⟩ (.int .i64 q.exp)) := ⟨_, rfl⟩
  have r9 : w9.heap[gr]? = some (.cells (qCs q) 36 (0, 0)) := by rw [hw9, heap_setCell_same _ _ _ _ _ _ (heap_setCell_same _ _ _ _ _ _ (heap_setCell_same _ _ _ _ _ _ (heap_setCell_same _ _ _ _ _ _ (heap_setCell_same _ _ _ _ _ _ a2))))]; rfl
  have G9 : Below w.heap.size w w9 := by rw [hw9]; exact Below.setCell (p := ⟨gr, 4, none⟩) (Below.setCell (p := ⟨gr, 3, none⟩) (Below.setCell (p := ⟨gr, 2, none⟩) (Below.setCell (p := ⟨gr, 1, none⟩) (Below.setCell (p := ⟨gr, 0, none⟩) (hb1) hlo _) hlo _) hlo _) hlo _) hlo _
  have e0 : w9.cell? ⟨gr, 0, none⟩ = some (.int .i64 q.id) := by rw [cell_of_row _ _ _ _ _ _ r9]; rfl
  have e1 : w9.cell? ⟨gr, 1, none⟩ = some (.string q.who) := by rw [cell_of_row _ _ _ _ _ _ r9]; rfl
  have e2 : w9.cell? ⟨gr, 2, none⟩ = some (.int .i64 q.entry) := by rw [cell_of_row _ _ _ _ _ _ r9]; rfl
  have e3 : w9.cell? ⟨gr, 3, none⟩ = some (.string q.reason) := by rw [cell_of_row _ _ _ _ _ _ r9]; rfl
  have e4 : w9.cell? ⟨gr, 4, none⟩ = some (.int .i64 q.exp) := by rw [cell_of_row _ _ _ _ _ _ r9]; rfl
  have HG := Lib.hid G9
  clear G9 a1 a2 r9 hb1 hlo
  unfold qCs at hw1
  unfold qVal
  go_enter Try.func15, Try.ntmps15
  go_upto_region 1 with fail
  rw [← hw1, ← hgr, ← hgq]
  clear hw1 hgq hgr
  go_wp2_with fail
  rw [← hw9]
  clear hw9
  go_wp2_with fail
  refine bodyPost_ret (v := .agg #[.int .i64 q.id, .string q.who, .int .i64 q.entry, .string q.reason, .int .i64 q.exp]) (by simp [results, Try.results15, go_sem, e0, e1, e2, e3, e4]) rfl ?_
  exact ⟨rfl, HG.out⟩
set_option maxRecDepth 100000 in
set_option maxHeartbeats 2000000 in
theorem lref21_any (a : Bk.Act) (w : World) : Calls Try.prog 27 #[acVal a] w fun e w' => e = .returned (raVal (nk a)) ∧ Below w.heap.size w w' := by
  obtain ⟨w1, hw1⟩ : ∃ w1, w1 = (w.alloc (.cells (acCs a) 57)).alloc (.cells #[.int .i64 0, .int .i64 0, .string ⟨#[]⟩, .int .i64 0, .string ⟨#[]⟩, .int .i64 0, .int .i64 0, .string ⟨#[]⟩, .int .i64 0] 61) := ⟨_, rfl⟩
  obtain ⟨ga, hga⟩ : ∃ ga, ga = w.heap.size := ⟨_, rfl⟩
  obtain ⟨gr, hgr⟩ : ∃ gr, gr = w.heap.size + 1 := ⟨_, rfl⟩
  have hb1 : Below w.heap.size w w1 := by rw [hw1]; exact ((Below.refl _ _).alloc (Nat.le_refl _) _).alloc (by simp) _
  have a1 : w1.heap[ga]? = some (.cells (acCs a) 57 (0, 0)) := by
    rw [hw1, hga]
    exact (heap_alloc_old _ _ (by simp)).trans (heap_alloc_new _ _)
  have a2 : w1.heap[gr]? = some (.cells #[.int .i64 0, .int .i64 0, .string ⟨#[]⟩, .int .i64 0, .string ⟨#[]⟩, .int .i64 0, .int .i64 0, .string ⟨#[]⟩, .int .i64 0] 61 (0, 0)) := by rw [hw1, hgr]; exact alloc2_new _ _ _
  have hlo : w.heap.size ≤ gr := by omega
  have hne : ga ≠ gr := by omega
  have hcq := fun W => lref20_any a.q W
  unfold qVal at hcq
  have H := Lib.hid (And.intro hb1 (And.intro a1 (And.intro a2 (And.intro hlo (And.intro hne hcq)))))
  clear hb1 a1 a2 hlo hne hcq
  unfold acCs at hw1
  unfold acVal
  by_cases hk : a.kind < 0
  · have g0 := hk
    have hnk : nk a = ⟨3, a.q, a.id, a.who, a.now⟩ := by unfold nk; rw [if_pos (.inl hk)]
    rw [hnk]
    clear hnk hk
    unfold raVal
    go_enter Try.func27, Try.ntmps27
    go_upto_region 1 with fail
    rw [← hw1, ← hgr, ← hga]
    clear hw1 hga hgr
    have c0 : w1.cell? ⟨ga, 0, none⟩ = some (.int .i64 a.kind) := by rw [cell_of_row _ _ _ _ _ _ H.out.2.1]; rfl
    go_upto_region 4 with fail
    clear c0
    refine wp_region_held (S := fun W : World => W.heap[ga]? = some (.cells (acCs a) 57 (0, 0))) (by kernel_rfl) ?_
    change wpAnyH _ _ _ _ _ _ _ _ (World.drew _)
    generalize hv0 : World.drew _ = v0
    have E0 : v0.heap[ga]? = some (.cells (acCs a) 57 (0, 0)) := by rw [← hv0]; exact H.out.2.1
    have F0 : Below w1.heap.size w1 v0 := by rw [← hv0]; exact ((Below.refl _ _).drew)
    have LB : v0.heap[gr]? = some (.cells #[.int .i64 0, .int .i64 0, .string ⟨#[]⟩, .int .i64 0, .string ⟨#[]⟩, .int .i64 0, .int .i64 0, .string ⟨#[]⟩, .int .i64 0] 61 (0, 0)) := by rw [← hv0]; exact H.out.2.2.1
    clear hv0
    refine wpAnyH_take (i := 0) (v := ?_) rfl (by kernel_rfl) (by kernel_rfl) (by kernel_rfl) (fun _ _ _ h => h) (Or.inl ⟨by kernel_rfl, ?_⟩) E0 ?_
    rotate_left
    · (intro W hS; have k0 : W.cell? ⟨ga, 0, none⟩ = some (.int .i64 a.kind) := (by rw [cell_of_row _ _ _ _ _ _ hS]; rfl); have k1 : W.cell? ⟨ga, 1, none⟩ = some (.int .i64 a.id) := (by rw [cell_of_row _ _ _ _ _ _ hS]; rfl); have k2 : W.cell? ⟨ga, 2, none⟩ = some (.int .i64 a.now) := (by rw [cell_of_row _ _ _ _ _ _ hS]; rfl); have k3 : W.cell? ⟨ga, 3, none⟩ = some (.int .i64 a.q.id) := (by rw [cell_of_row _ _ _ _ _ _ hS]; rfl); have k4 : W.cell? ⟨ga, 4, none⟩ = some (.string a.q.who) := (by rw [cell_of_row _ _ _ _ _ _ hS]; rfl); have k5 : W.cell? ⟨ga, 5, none⟩ = some (.int .i64 a.q.entry) := (by rw [cell_of_row _ _ _ _ _ _ hS]; rfl); have k6 : W.cell? ⟨ga, 6, none⟩ = some (.string a.q.reason) := (by rw [cell_of_row _ _ _ _ _ _ hS]; rfl); have k7 : W.cell? ⟨ga, 7, none⟩ = some (.int .i64 a.q.exp) := (by rw [cell_of_row _ _ _ _ _ _ hS]; rfl); have k8 : W.cell? ⟨ga, 8, none⟩ = some (.string a.who) := (by rw [cell_of_row _ _ _ _ _ _ hS]; rfl); go_simp; try (with_reducible rfl))
    refine wpAnyH_take (i := 1) (v := ?_) rfl (by kernel_rfl) (by kernel_rfl) (by kernel_rfl) (fun _ _ _ h => h) (Or.inl ⟨by kernel_rfl, ?_⟩) E0 ?_
    rotate_left
    · (intro W hS; have k0 : W.cell? ⟨ga, 0, none⟩ = some (.int .i64 a.kind) := (by rw [cell_of_row _ _ _ _ _ _ hS]; rfl); have k1 : W.cell? ⟨ga, 1, none⟩ = some (.int .i64 a.id) := (by rw [cell_of_row _ _ _ _ _ _ hS]; rfl); have k2 : W.cell? ⟨ga, 2, none⟩ = some (.int .i64 a.now) := (by rw [cell_of_row _ _ _ _ _ _ hS]; rfl); have k3 : W.cell? ⟨ga, 3, none⟩ = some (.int .i64 a.q.id) := (by rw [cell_of_row _ _ _ _ _ _ hS]; rfl); have k4 : W.cell? ⟨ga, 4, none⟩ = some (.string a.q.who) := (by rw [cell_of_row _ _ _ _ _ _ hS]; rfl); have k5 : W.cell? ⟨ga, 5, none⟩ = some (.int .i64 a.q.entry) := (by rw [cell_of_row _ _ _ _ _ _ hS]; rfl); have k6 : W.cell? ⟨ga, 6, none⟩ = some (.string a.q.reason) := (by rw [cell_of_row _ _ _ _ _ _ hS]; rfl); have k7 : W.cell? ⟨ga, 7, none⟩ = some (.int .i64 a.q.exp) := (by rw [cell_of_row _ _ _ _ _ _ hS]; rfl); have k8 : W.cell? ⟨ga, 8, none⟩ = some (.string a.who) := (by rw [cell_of_row _ _ _ _ _ _ hS]; rfl); go_simp; try (with_reducible rfl))
    refine wpAnyH_take (i := 2) (v := ?_) rfl (by kernel_rfl) (by kernel_rfl) (by kernel_rfl) (fun _ _ _ h => h) (Or.inl ⟨by kernel_rfl, ?_⟩) E0 ?_
    rotate_left
    · (intro W hS; have k0 : W.cell? ⟨ga, 0, none⟩ = some (.int .i64 a.kind) := (by rw [cell_of_row _ _ _ _ _ _ hS]; rfl); have k1 : W.cell? ⟨ga, 1, none⟩ = some (.int .i64 a.id) := (by rw [cell_of_row _ _ _ _ _ _ hS]; rfl); have k2 : W.cell? ⟨ga, 2, none⟩ = some (.int .i64 a.now) := (by rw [cell_of_row _ _ _ _ _ _ hS]; rfl); have k3 : W.cell? ⟨ga, 3, none⟩ = some (.int .i64 a.q.id) := (by rw [cell_of_row _ _ _ _ _ _ hS]; rfl); have k4 : W.cell? ⟨ga, 4, none⟩ = some (.string a.q.who) := (by rw [cell_of_row _ _ _ _ _ _ hS]; rfl); have k5 : W.cell? ⟨ga, 5, none⟩ = some (.int .i64 a.q.entry) := (by rw [cell_of_row _ _ _ _ _ _ hS]; rfl); have k6 : W.cell? ⟨ga, 6, none⟩ = some (.string a.q.reason) := (by rw [cell_of_row _ _ _ _ _ _ hS]; rfl); have k7 : W.cell? ⟨ga, 7, none⟩ = some (.int .i64 a.q.exp) := (by rw [cell_of_row _ _ _ _ _ _ hS]; rfl); have k8 : W.cell? ⟨ga, 8, none⟩ = some (.string a.who) := (by rw [cell_of_row _ _ _ _ _ _ hS]; rfl); go_simp; try (with_reducible rfl))
    refine wpAnyH_take (i := 4) (v := ?_) rfl (by kernel_rfl) (by kernel_rfl) (by kernel_rfl) (fun _ _ _ h => h) (Or.inl ⟨by kernel_rfl, ?_⟩) E0 ?_
    rotate_left
    · (intro W hS; have k0 : W.cell? ⟨ga, 0, none⟩ = some (.int .i64 a.kind) := (by rw [cell_of_row _ _ _ _ _ _ hS]; rfl); have k1 : W.cell? ⟨ga, 1, none⟩ = some (.int .i64 a.id) := (by rw [cell_of_row _ _ _ _ _ _ hS]; rfl); have k2 : W.cell? ⟨ga, 2, none⟩ = some (.int .i64 a.now) := (by rw [cell_of_row _ _ _ _ _ _ hS]; rfl); have k3 : W.cell? ⟨ga, 3, none⟩ = some (.int .i64 a.q.id) := (by rw [cell_of_row _ _ _ _ _ _ hS]; rfl); have k4 : W.cell? ⟨ga, 4, none⟩ = some (.string a.q.who) := (by rw [cell_of_row _ _ _ _ _ _ hS]; rfl); have k5 : W.cell? ⟨ga, 5, none⟩ = some (.int .i64 a.q.entry) := (by rw [cell_of_row _ _ _ _ _ _ hS]; rfl); have k6 : W.cell? ⟨ga, 6, none⟩ = some (.string a.q.reason) := (by rw [cell_of_row _ _ _ _ _ _ hS]; rfl); have k7 : W.cell? ⟨ga, 7, none⟩ = some (.int .i64 a.q.exp) := (by rw [cell_of_row _ _ _ _ _ _ hS]; rfl); have k8 : W.cell? ⟨ga, 8, none⟩ = some (.string a.who) := (by rw [cell_of_row _ _ _ _ _ _ hS]; rfl); go_simp; try (with_reducible rfl))
    refine wpAnyH_take (i := 5) (v := ?_) rfl (by kernel_rfl) (by kernel_rfl) (by kernel_rfl) (fun _ _ _ h => h) (Or.inl ⟨by kernel_rfl, ?_⟩) E0 ?_
    rotate_left
    · (intro W hS; have k0 : W.cell? ⟨ga, 0, none⟩ = some (.int .i64 a.kind) := (by rw [cell_of_row _ _ _ _ _ _ hS]; rfl); have k1 : W.cell? ⟨ga, 1, none⟩ = some (.int .i64 a.id) := (by rw [cell_of_row _ _ _ _ _ _ hS]; rfl); have k2 : W.cell? ⟨ga, 2, none⟩ = some (.int .i64 a.now) := (by rw [cell_of_row _ _ _ _ _ _ hS]; rfl); have k3 : W.cell? ⟨ga, 3, none⟩ = some (.int .i64 a.q.id) := (by rw [cell_of_row _ _ _ _ _ _ hS]; rfl); have k4 : W.cell? ⟨ga, 4, none⟩ = some (.string a.q.who) := (by rw [cell_of_row _ _ _ _ _ _ hS]; rfl); have k5 : W.cell? ⟨ga, 5, none⟩ = some (.int .i64 a.q.entry) := (by rw [cell_of_row _ _ _ _ _ _ hS]; rfl); have k6 : W.cell? ⟨ga, 6, none⟩ = some (.string a.q.reason) := (by rw [cell_of_row _ _ _ _ _ _ hS]; rfl); have k7 : W.cell? ⟨ga, 7, none⟩ = some (.int .i64 a.q.exp) := (by rw [cell_of_row _ _ _ _ _ _ hS]; rfl); have k8 : W.cell? ⟨ga, 8, none⟩ = some (.string a.who) := (by rw [cell_of_row _ _ _ _ _ _ hS]; rfl); go_simp; try (with_reducible rfl))
    refine wpAnyH_take (i := 6) (v := ?_) rfl (by kernel_rfl) (by kernel_rfl) (by kernel_rfl) (fun _ _ _ h => h) (Or.inl ⟨by kernel_rfl, ?_⟩) E0 ?_
    rotate_left
    · (intro W hS; have k0 : W.cell? ⟨ga, 0, none⟩ = some (.int .i64 a.kind) := (by rw [cell_of_row _ _ _ _ _ _ hS]; rfl); have k1 : W.cell? ⟨ga, 1, none⟩ = some (.int .i64 a.id) := (by rw [cell_of_row _ _ _ _ _ _ hS]; rfl); have k2 : W.cell? ⟨ga, 2, none⟩ = some (.int .i64 a.now) := (by rw [cell_of_row _ _ _ _ _ _ hS]; rfl); have k3 : W.cell? ⟨ga, 3, none⟩ = some (.int .i64 a.q.id) := (by rw [cell_of_row _ _ _ _ _ _ hS]; rfl); have k4 : W.cell? ⟨ga, 4, none⟩ = some (.string a.q.who) := (by rw [cell_of_row _ _ _ _ _ _ hS]; rfl); have k5 : W.cell? ⟨ga, 5, none⟩ = some (.int .i64 a.q.entry) := (by rw [cell_of_row _ _ _ _ _ _ hS]; rfl); have k6 : W.cell? ⟨ga, 6, none⟩ = some (.string a.q.reason) := (by rw [cell_of_row _ _ _ _ _ _ hS]; rfl); have k7 : W.cell? ⟨ga, 7, none⟩ = some (.int .i64 a.q.exp) := (by rw [cell_of_row _ _ _ _ _ _ hS]; rfl); have k8 : W.cell? ⟨ga, 8, none⟩ = some (.string a.who) := (by rw [cell_of_row _ _ _ _ _ _ hS]; rfl); go_simp; try (with_reducible rfl))
    refine wpAnyH_take (i := 7) (v := ?_) rfl (by kernel_rfl) (by kernel_rfl) (by kernel_rfl) (fun _ _ _ h => h) (Or.inl ⟨by kernel_rfl, ?_⟩) E0 ?_
    rotate_left
    · (intro W hS; have k0 : W.cell? ⟨ga, 0, none⟩ = some (.int .i64 a.kind) := (by rw [cell_of_row _ _ _ _ _ _ hS]; rfl); have k1 : W.cell? ⟨ga, 1, none⟩ = some (.int .i64 a.id) := (by rw [cell_of_row _ _ _ _ _ _ hS]; rfl); have k2 : W.cell? ⟨ga, 2, none⟩ = some (.int .i64 a.now) := (by rw [cell_of_row _ _ _ _ _ _ hS]; rfl); have k3 : W.cell? ⟨ga, 3, none⟩ = some (.int .i64 a.q.id) := (by rw [cell_of_row _ _ _ _ _ _ hS]; rfl); have k4 : W.cell? ⟨ga, 4, none⟩ = some (.string a.q.who) := (by rw [cell_of_row _ _ _ _ _ _ hS]; rfl); have k5 : W.cell? ⟨ga, 5, none⟩ = some (.int .i64 a.q.entry) := (by rw [cell_of_row _ _ _ _ _ _ hS]; rfl); have k6 : W.cell? ⟨ga, 6, none⟩ = some (.string a.q.reason) := (by rw [cell_of_row _ _ _ _ _ _ hS]; rfl); have k7 : W.cell? ⟨ga, 7, none⟩ = some (.int .i64 a.q.exp) := (by rw [cell_of_row _ _ _ _ _ _ hS]; rfl); have k8 : W.cell? ⟨ga, 8, none⟩ = some (.string a.who) := (by rw [cell_of_row _ _ _ _ _ _ hS]; rfl); go_simp; try (with_reducible rfl))
    refine wpAnyH_take (i := 8) (v := ?_) rfl (by kernel_rfl) (by kernel_rfl) (by kernel_rfl) (fun _ _ _ h => h) (Or.inl ⟨by kernel_rfl, ?_⟩) E0 ?_
    rotate_left
    · (intro W hS; have k0 : W.cell? ⟨ga, 0, none⟩ = some (.int .i64 a.kind) := (by rw [cell_of_row _ _ _ _ _ _ hS]; rfl); have k1 : W.cell? ⟨ga, 1, none⟩ = some (.int .i64 a.id) := (by rw [cell_of_row _ _ _ _ _ _ hS]; rfl); have k2 : W.cell? ⟨ga, 2, none⟩ = some (.int .i64 a.now) := (by rw [cell_of_row _ _ _ _ _ _ hS]; rfl); have k3 : W.cell? ⟨ga, 3, none⟩ = some (.int .i64 a.q.id) := (by rw [cell_of_row _ _ _ _ _ _ hS]; rfl); have k4 : W.cell? ⟨ga, 4, none⟩ = some (.string a.q.who) := (by rw [cell_of_row _ _ _ _ _ _ hS]; rfl); have k5 : W.cell? ⟨ga, 5, none⟩ = some (.int .i64 a.q.entry) := (by rw [cell_of_row _ _ _ _ _ _ hS]; rfl); have k6 : W.cell? ⟨ga, 6, none⟩ = some (.string a.q.reason) := (by rw [cell_of_row _ _ _ _ _ _ hS]; rfl); have k7 : W.cell? ⟨ga, 7, none⟩ = some (.int .i64 a.q.exp) := (by rw [cell_of_row _ _ _ _ _ _ hS]; rfl); have k8 : W.cell? ⟨ga, 8, none⟩ = some (.string a.who) := (by rw [cell_of_row _ _ _ _ _ _ hS]; rfl); go_simp; try (with_reducible rfl))
    refine wpAnyH_take (i := 9) (v := ?_) rfl (by kernel_rfl) (by kernel_rfl) (by kernel_rfl) (fun _ _ _ h => h) (Or.inl ⟨by kernel_rfl, ?_⟩) E0 ?_
    rotate_left
    · (intro W hS; have k0 : W.cell? ⟨ga, 0, none⟩ = some (.int .i64 a.kind) := (by rw [cell_of_row _ _ _ _ _ _ hS]; rfl); have k1 : W.cell? ⟨ga, 1, none⟩ = some (.int .i64 a.id) := (by rw [cell_of_row _ _ _ _ _ _ hS]; rfl); have k2 : W.cell? ⟨ga, 2, none⟩ = some (.int .i64 a.now) := (by rw [cell_of_row _ _ _ _ _ _ hS]; rfl); have k3 : W.cell? ⟨ga, 3, none⟩ = some (.int .i64 a.q.id) := (by rw [cell_of_row _ _ _ _ _ _ hS]; rfl); have k4 : W.cell? ⟨ga, 4, none⟩ = some (.string a.q.who) := (by rw [cell_of_row _ _ _ _ _ _ hS]; rfl); have k5 : W.cell? ⟨ga, 5, none⟩ = some (.int .i64 a.q.entry) := (by rw [cell_of_row _ _ _ _ _ _ hS]; rfl); have k6 : W.cell? ⟨ga, 6, none⟩ = some (.string a.q.reason) := (by rw [cell_of_row _ _ _ _ _ _ hS]; rfl); have k7 : W.cell? ⟨ga, 7, none⟩ = some (.int .i64 a.q.exp) := (by rw [cell_of_row _ _ _ _ _ _ hS]; rfl); have k8 : W.cell? ⟨ga, 8, none⟩ = some (.string a.who) := (by rw [cell_of_row _ _ _ _ _ _ hS]; rfl); go_simp; try (with_reducible rfl))
    refine wpAnyH_ready (rs := [3]) (by kernel_rfl) (by simp) ?_
    refine AllReadyH.cons (i := 3) rfl (fun K hK => ?_) AllReadyH.nil
    go_simp
    refine (H.out.2.2.2.2.2 v0).mono ?_
    rintro e v1 ⟨rfl, hb⟩
    have F1 := F0.trans (hb.mono F0.size)
    have E1 : v1.heap[ga]? = some (.cells (acCs a) 57 (0, 0)) := (hb.block _ (blt_of_heap E0)).trans E0
    have LBn := (hb.block gr (blt_of_heap LB)).trans LB
    clear LB
    have LB := LBn
    clear LBn
    refine hK.out _ _ E1 (fun _ => ?_)
    clear hK K hb
    refine wpAnyH_take (i := 10) (v := ?_) rfl (by kernel_rfl) (by kernel_rfl) (by kernel_rfl) (fun _ _ _ h => h) (Or.inl ⟨by kernel_rfl, ?_⟩) E1 ?_
    rotate_left
    · (intro W hS; have k0 : W.cell? ⟨ga, 0, none⟩ = some (.int .i64 a.kind) := (by rw [cell_of_row _ _ _ _ _ _ hS]; rfl); have k1 : W.cell? ⟨ga, 1, none⟩ = some (.int .i64 a.id) := (by rw [cell_of_row _ _ _ _ _ _ hS]; rfl); have k2 : W.cell? ⟨ga, 2, none⟩ = some (.int .i64 a.now) := (by rw [cell_of_row _ _ _ _ _ _ hS]; rfl); have k3 : W.cell? ⟨ga, 3, none⟩ = some (.int .i64 a.q.id) := (by rw [cell_of_row _ _ _ _ _ _ hS]; rfl); have k4 : W.cell? ⟨ga, 4, none⟩ = some (.string a.q.who) := (by rw [cell_of_row _ _ _ _ _ _ hS]; rfl); have k5 : W.cell? ⟨ga, 5, none⟩ = some (.int .i64 a.q.entry) := (by rw [cell_of_row _ _ _ _ _ _ hS]; rfl); have k6 : W.cell? ⟨ga, 6, none⟩ = some (.string a.q.reason) := (by rw [cell_of_row _ _ _ _ _ _ hS]; rfl); have k7 : W.cell? ⟨ga, 7, none⟩ = some (.int .i64 a.q.exp) := (by rw [cell_of_row _ _ _ _ _ _ hS]; rfl); have k8 : W.cell? ⟨ga, 8, none⟩ = some (.string a.who) := (by rw [cell_of_row _ _ _ _ _ _ hS]; rfl); go_simp; try (with_reducible rfl))
    have fz : ∀ j, v1.frozen? ⟨gr, j, none⟩ = false := fun j => frozen_of_row _ _ _ _ _ LB
    have d0 : v1.cell? ⟨gr, 0, none⟩ = some (.int .i64 0) := by rw [cell_of_row _ _ _ _ _ _ LB]; rfl
    have d1 : v1.cell? ⟨gr, 1, none⟩ = some (.int .i64 0) := by rw [cell_of_row _ _ _ _ _ _ LB]; rfl
    have d2 : v1.cell? ⟨gr, 2, none⟩ = some (.string ⟨#[]⟩) := by rw [cell_of_row _ _ _ _ _ _ LB]; rfl
    have d3 : v1.cell? ⟨gr, 3, none⟩ = some (.int .i64 0) := by rw [cell_of_row _ _ _ _ _ _ LB]; rfl
    have d4 : v1.cell? ⟨gr, 4, none⟩ = some (.string ⟨#[]⟩) := by rw [cell_of_row _ _ _ _ _ _ LB]; rfl
    have d5 : v1.cell? ⟨gr, 5, none⟩ = some (.int .i64 0) := by rw [cell_of_row _ _ _ _ _ _ LB]; rfl
    have d6 : v1.cell? ⟨gr, 6, none⟩ = some (.int .i64 0) := by rw [cell_of_row _ _ _ _ _ _ LB]; rfl
    have d7 : v1.cell? ⟨gr, 7, none⟩ = some (.string ⟨#[]⟩) := by rw [cell_of_row _ _ _ _ _ _ LB]; rfl
    have d8 : v1.cell? ⟨gr, 8, none⟩ = some (.int .i64 0) := by rw [cell_of_row _ _ _ _ _ _ LB]; rfl
    obtain ⟨wz, hwz⟩ : ∃ z, z = (((((((((v1.setCell ⟨gr, 0, none⟩ (.int .i64 3)).setCell ⟨gr, 1, none⟩ (.int .i64 a.q.id)).setCell ⟨gr, 2, none⟩ (.string a.q.who)).setCell ⟨gr, 3, none⟩ (.int .i64 a.q.entry)).setCell ⟨gr, 4, none⟩ (.string a.q.reason)).setCell ⟨gr, 5, none⟩ (.int .i64 a.q.exp)).setCell ⟨gr, 6, none⟩ (.int .i64 a.id)).setCell ⟨gr, 7, none⟩ (.string a.who)).setCell ⟨gr, 8, none⟩ (.int .i64 a.now)) := ⟨_, rfl⟩
    have r9 : wz.heap[gr]? = some (.cells #[.int .i64 3, .int .i64 a.q.id, .string a.q.who, .int .i64 a.q.entry, .string a.q.reason, .int .i64 a.q.exp, .int .i64 a.id, .string a.who, .int .i64 a.now] 61 (0, 0)) := by rw [hwz, heap_setCell_same _ _ _ _ _ _ (heap_setCell_same _ _ _ _ _ _ (heap_setCell_same _ _ _ _ _ _ (heap_setCell_same _ _ _ _ _ _ (heap_setCell_same _ _ _ _ _ _ (heap_setCell_same _ _ _ _ _ _ (heap_setCell_same _ _ _ _ _ _ (heap_setCell_same _ _ _ _ _ _ (heap_setCell_same _ _ _ _ _ _ LB))))))))]; rfl
    have G9 : Below w.heap.size w wz := by rw [hwz]; exact Below.setCell (p := ⟨gr, 8, none⟩) (Below.setCell (p := ⟨gr, 7, none⟩) (Below.setCell (p := ⟨gr, 6, none⟩) (Below.setCell (p := ⟨gr, 5, none⟩) (Below.setCell (p := ⟨gr, 4, none⟩) (Below.setCell (p := ⟨gr, 3, none⟩) (Below.setCell (p := ⟨gr, 2, none⟩) (Below.setCell (p := ⟨gr, 1, none⟩) (Below.setCell (p := ⟨gr, 0, none⟩) (H.out.1.trans (F1.mono H.out.1.size)) H.out.2.2.2.1 _) H.out.2.2.2.1 _) H.out.2.2.2.1 _) H.out.2.2.2.1 _) H.out.2.2.2.1 _) H.out.2.2.2.1 _) H.out.2.2.2.1 _) H.out.2.2.2.1 _) H.out.2.2.2.1 _
    have EY : wz.heap[ga]? = some (.cells (acCs a) 57 (0, 0)) := by rw [hwz]; exact ((heap_setCell_other _ ⟨gr, 8, none⟩ ga _ H.out.2.2.2.2.1).trans ((heap_setCell_other _ ⟨gr, 7, none⟩ ga _ H.out.2.2.2.2.1).trans ((heap_setCell_other _ ⟨gr, 6, none⟩ ga _ H.out.2.2.2.2.1).trans ((heap_setCell_other _ ⟨gr, 5, none⟩ ga _ H.out.2.2.2.2.1).trans ((heap_setCell_other _ ⟨gr, 4, none⟩ ga _ H.out.2.2.2.2.1).trans ((heap_setCell_other _ ⟨gr, 3, none⟩ ga _ H.out.2.2.2.2.1).trans ((heap_setCell_other _ ⟨gr, 2, none⟩ ga _ H.out.2.2.2.2.1).trans ((heap_setCell_other _ ⟨gr, 1, none⟩ ga _ H.out.2.2.2.2.1).trans ((heap_setCell_other _ ⟨gr, 0, none⟩ ga _ H.out.2.2.2.2.1).trans E1)))))))))
    have e0 : wz.cell? ⟨gr, 0, none⟩ = some (.int .i64 3) := by rw [cell_of_row _ _ _ _ _ _ r9]; rfl
    have e1 : wz.cell? ⟨gr, 1, none⟩ = some (.int .i64 a.q.id) := by rw [cell_of_row _ _ _ _ _ _ r9]; rfl
    have e2 : wz.cell? ⟨gr, 2, none⟩ = some (.string a.q.who) := by rw [cell_of_row _ _ _ _ _ _ r9]; rfl
    have e3 : wz.cell? ⟨gr, 3, none⟩ = some (.int .i64 a.q.entry) := by rw [cell_of_row _ _ _ _ _ _ r9]; rfl
    have e4 : wz.cell? ⟨gr, 4, none⟩ = some (.string a.q.reason) := by rw [cell_of_row _ _ _ _ _ _ r9]; rfl
    have e5 : wz.cell? ⟨gr, 5, none⟩ = some (.int .i64 a.q.exp) := by rw [cell_of_row _ _ _ _ _ _ r9]; rfl
    have e6 : wz.cell? ⟨gr, 6, none⟩ = some (.int .i64 a.id) := by rw [cell_of_row _ _ _ _ _ _ r9]; rfl
    have e7 : wz.cell? ⟨gr, 7, none⟩ = some (.string a.who) := by rw [cell_of_row _ _ _ _ _ _ r9]; rfl
    have e8 : wz.cell? ⟨gr, 8, none⟩ = some (.int .i64 a.now) := by rw [cell_of_row _ _ _ _ _ _ r9]; rfl
    have HG := Lib.hid G9
    clear G9 r9 LB
    refine wpAnyH_ready (rs := [11]) (by kernel_rfl) (by simp) ?_
    refine AllReadyH.cons (i := 11) rfl (fun K hK => ?_) AllReadyH.nil
    go_simp
    rw [← hwz]
    refine hK.out _ _ EY (fun _ => ?_)
    clear hK K EY hwz fz d0 d1 d2 d3 d4 d5 d6 d7 d8
    refine wpAnyH_done (by kernel_rfl) ?_ _
    go_simp
    go_wp2_with fail
    refine bodyPost_ret (v := .agg #[.int .i64 3, .int .i64 a.q.id, .string a.q.who, .int .i64 a.q.entry, .string a.q.reason, .int .i64 a.q.exp, .int .i64 a.id, .string a.who, .int .i64 a.now]) (by simp [results, Try.results27, go_sem, e0, e1, e2, e3, e4, e5, e6, e7, e8]) rfl ?_
    exact ⟨rfl, HG.out⟩
  have g0 : ¬ (a.kind < 0) := hk
  clear hk
  by_cases hk : 3 < a.kind
  · have g1 := hk
    have hnk : nk a = ⟨3, a.q, a.id, a.who, a.now⟩ := by unfold nk; rw [if_pos (.inr hk)]
    rw [hnk]
    clear hnk hk
    unfold raVal
    go_enter Try.func27, Try.ntmps27
    go_upto_region 1 with fail
    rw [← hw1, ← hgr, ← hga]
    clear hw1 hga hgr
    have c0 : w1.cell? ⟨ga, 0, none⟩ = some (.int .i64 a.kind) := by rw [cell_of_row _ _ _ _ _ _ H.out.2.1]; rfl
    go_upto_region 4 with fail
    clear c0
    refine wp_region_held (S := fun W : World => W.heap[ga]? = some (.cells (acCs a) 57 (0, 0))) (by kernel_rfl) ?_
    change wpAnyH _ _ _ _ _ _ _ _ (World.drew _)
    generalize hv0 : World.drew _ = v0
    have E0 : v0.heap[ga]? = some (.cells (acCs a) 57 (0, 0)) := by rw [← hv0]; exact H.out.2.1
    have F0 : Below w1.heap.size w1 v0 := by rw [← hv0]; exact ((Below.refl _ _).drew)
    have LB : v0.heap[gr]? = some (.cells #[.int .i64 0, .int .i64 0, .string ⟨#[]⟩, .int .i64 0, .string ⟨#[]⟩, .int .i64 0, .int .i64 0, .string ⟨#[]⟩, .int .i64 0] 61 (0, 0)) := by rw [← hv0]; exact H.out.2.2.1
    clear hv0
    refine wpAnyH_take (i := 0) (v := ?_) rfl (by kernel_rfl) (by kernel_rfl) (by kernel_rfl) (fun _ _ _ h => h) (Or.inl ⟨by kernel_rfl, ?_⟩) E0 ?_
    rotate_left
    · (intro W hS; have k0 : W.cell? ⟨ga, 0, none⟩ = some (.int .i64 a.kind) := (by rw [cell_of_row _ _ _ _ _ _ hS]; rfl); have k1 : W.cell? ⟨ga, 1, none⟩ = some (.int .i64 a.id) := (by rw [cell_of_row _ _ _ _ _ _ hS]; rfl); have k2 : W.cell? ⟨ga, 2, none⟩ = some (.int .i64 a.now) := (by rw [cell_of_row _ _ _ _ _ _ hS]; rfl); have k3 : W.cell? ⟨ga, 3, none⟩ = some (.int .i64 a.q.id) := (by rw [cell_of_row _ _ _ _ _ _ hS]; rfl); have k4 : W.cell? ⟨ga, 4, none⟩ = some (.string a.q.who) := (by rw [cell_of_row _ _ _ _ _ _ hS]; rfl); have k5 : W.cell? ⟨ga, 5, none⟩ = some (.int .i64 a.q.entry) := (by rw [cell_of_row _ _ _ _ _ _ hS]; rfl); have k6 : W.cell? ⟨ga, 6, none⟩ = some (.string a.q.reason) := (by rw [cell_of_row _ _ _ _ _ _ hS]; rfl); have k7 : W.cell? ⟨ga, 7, none⟩ = some (.int .i64 a.q.exp) := (by rw [cell_of_row _ _ _ _ _ _ hS]; rfl); have k8 : W.cell? ⟨ga, 8, none⟩ = some (.string a.who) := (by rw [cell_of_row _ _ _ _ _ _ hS]; rfl); go_simp; try (with_reducible rfl))
    refine wpAnyH_take (i := 1) (v := ?_) rfl (by kernel_rfl) (by kernel_rfl) (by kernel_rfl) (fun _ _ _ h => h) (Or.inl ⟨by kernel_rfl, ?_⟩) E0 ?_
    rotate_left
    · (intro W hS; have k0 : W.cell? ⟨ga, 0, none⟩ = some (.int .i64 a.kind) := (by rw [cell_of_row _ _ _ _ _ _ hS]; rfl); have k1 : W.cell? ⟨ga, 1, none⟩ = some (.int .i64 a.id) := (by rw [cell_of_row _ _ _ _ _ _ hS]; rfl); have k2 : W.cell? ⟨ga, 2, none⟩ = some (.int .i64 a.now) := (by rw [cell_of_row _ _ _ _ _ _ hS]; rfl); have k3 : W.cell? ⟨ga, 3, none⟩ = some (.int .i64 a.q.id) := (by rw [cell_of_row _ _ _ _ _ _ hS]; rfl); have k4 : W.cell? ⟨ga, 4, none⟩ = some (.string a.q.who) := (by rw [cell_of_row _ _ _ _ _ _ hS]; rfl); have k5 : W.cell? ⟨ga, 5, none⟩ = some (.int .i64 a.q.entry) := (by rw [cell_of_row _ _ _ _ _ _ hS]; rfl); have k6 : W.cell? ⟨ga, 6, none⟩ = some (.string a.q.reason) := (by rw [cell_of_row _ _ _ _ _ _ hS]; rfl); have k7 : W.cell? ⟨ga, 7, none⟩ = some (.int .i64 a.q.exp) := (by rw [cell_of_row _ _ _ _ _ _ hS]; rfl); have k8 : W.cell? ⟨ga, 8, none⟩ = some (.string a.who) := (by rw [cell_of_row _ _ _ _ _ _ hS]; rfl); go_simp; try (with_reducible rfl))
    refine wpAnyH_take (i := 2) (v := ?_) rfl (by kernel_rfl) (by kernel_rfl) (by kernel_rfl) (fun _ _ _ h => h) (Or.inl ⟨by kernel_rfl, ?_⟩) E0 ?_
    rotate_left
    · (intro W hS; have k0 : W.cell? ⟨ga, 0, none⟩ = some (.int .i64 a.kind) := (by rw [cell_of_row _ _ _ _ _ _ hS]; rfl); have k1 : W.cell? ⟨ga, 1, none⟩ = some (.int .i64 a.id) := (by rw [cell_of_row _ _ _ _ _ _ hS]; rfl); have k2 : W.cell? ⟨ga, 2, none⟩ = some (.int .i64 a.now) := (by rw [cell_of_row _ _ _ _ _ _ hS]; rfl); have k3 : W.cell? ⟨ga, 3, none⟩ = some (.int .i64 a.q.id) := (by rw [cell_of_row _ _ _ _ _ _ hS]; rfl); have k4 : W.cell? ⟨ga, 4, none⟩ = some (.string a.q.who) := (by rw [cell_of_row _ _ _ _ _ _ hS]; rfl); have k5 : W.cell? ⟨ga, 5, none⟩ = some (.int .i64 a.q.entry) := (by rw [cell_of_row _ _ _ _ _ _ hS]; rfl); have k6 : W.cell? ⟨ga, 6, none⟩ = some (.string a.q.reason) := (by rw [cell_of_row _ _ _ _ _ _ hS]; rfl); have k7 : W.cell? ⟨ga, 7, none⟩ = some (.int .i64 a.q.exp) := (by rw [cell_of_row _ _ _ _ _ _ hS]; rfl); have k8 : W.cell? ⟨ga, 8, none⟩ = some (.string a.who) := (by rw [cell_of_row _ _ _ _ _ _ hS]; rfl); go_simp; try (with_reducible rfl))
    refine wpAnyH_take (i := 4) (v := ?_) rfl (by kernel_rfl) (by kernel_rfl) (by kernel_rfl) (fun _ _ _ h => h) (Or.inl ⟨by kernel_rfl, ?_⟩) E0 ?_
    rotate_left
    · (intro W hS; have k0 : W.cell? ⟨ga, 0, none⟩ = some (.int .i64 a.kind) := (by rw [cell_of_row _ _ _ _ _ _ hS]; rfl); have k1 : W.cell? ⟨ga, 1, none⟩ = some (.int .i64 a.id) := (by rw [cell_of_row _ _ _ _ _ _ hS]; rfl); have k2 : W.cell? ⟨ga, 2, none⟩ = some (.int .i64 a.now) := (by rw [cell_of_row _ _ _ _ _ _ hS]; rfl); have k3 : W.cell? ⟨ga, 3, none⟩ = some (.int .i64 a.q.id) := (by rw [cell_of_row _ _ _ _ _ _ hS]; rfl); have k4 : W.cell? ⟨ga, 4, none⟩ = some (.string a.q.who) := (by rw [cell_of_row _ _ _ _ _ _ hS]; rfl); have k5 : W.cell? ⟨ga, 5, none⟩ = some (.int .i64 a.q.entry) := (by rw [cell_of_row _ _ _ _ _ _ hS]; rfl); have k6 : W.cell? ⟨ga, 6, none⟩ = some (.string a.q.reason) := (by rw [cell_of_row _ _ _ _ _ _ hS]; rfl); have k7 : W.cell? ⟨ga, 7, none⟩ = some (.int .i64 a.q.exp) := (by rw [cell_of_row _ _ _ _ _ _ hS]; rfl); have k8 : W.cell? ⟨ga, 8, none⟩ = some (.string a.who) := (by rw [cell_of_row _ _ _ _ _ _ hS]; rfl); go_simp; try (with_reducible rfl))
    refine wpAnyH_take (i := 5) (v := ?_) rfl (by kernel_rfl) (by kernel_rfl) (by kernel_rfl) (fun _ _ _ h => h) (Or.inl ⟨by kernel_rfl, ?_⟩) E0 ?_
    rotate_left
    · (intro W hS; have k0 : W.cell? ⟨ga, 0, none⟩ = some (.int .i64 a.kind) := (by rw [cell_of_row _ _ _ _ _ _ hS]; rfl); have k1 : W.cell? ⟨ga, 1, none⟩ = some (.int .i64 a.id) := (by rw [cell_of_row _ _ _ _ _ _ hS]; rfl); have k2 : W.cell? ⟨ga, 2, none⟩ = some (.int .i64 a.now) := (by rw [cell_of_row _ _ _ _ _ _ hS]; rfl); have k3 : W.cell? ⟨ga, 3, none⟩ = some (.int .i64 a.q.id) := (by rw [cell_of_row _ _ _ _ _ _ hS]; rfl); have k4 : W.cell? ⟨ga, 4, none⟩ = some (.string a.q.who) := (by rw [cell_of_row _ _ _ _ _ _ hS]; rfl); have k5 : W.cell? ⟨ga, 5, none⟩ = some (.int .i64 a.q.entry) := (by rw [cell_of_row _ _ _ _ _ _ hS]; rfl); have k6 : W.cell? ⟨ga, 6, none⟩ = some (.string a.q.reason) := (by rw [cell_of_row _ _ _ _ _ _ hS]; rfl); have k7 : W.cell? ⟨ga, 7, none⟩ = some (.int .i64 a.q.exp) := (by rw [cell_of_row _ _ _ _ _ _ hS]; rfl); have k8 : W.cell? ⟨ga, 8, none⟩ = some (.string a.who) := (by rw [cell_of_row _ _ _ _ _ _ hS]; rfl); go_simp; try (with_reducible rfl))
    refine wpAnyH_take (i := 6) (v := ?_) rfl (by kernel_rfl) (by kernel_rfl) (by kernel_rfl) (fun _ _ _ h => h) (Or.inl ⟨by kernel_rfl, ?_⟩) E0 ?_
    rotate_left
    · (intro W hS; have k0 : W.cell? ⟨ga, 0, none⟩ = some (.int .i64 a.kind) := (by rw [cell_of_row _ _ _ _ _ _ hS]; rfl); have k1 : W.cell? ⟨ga, 1, none⟩ = some (.int .i64 a.id) := (by rw [cell_of_row _ _ _ _ _ _ hS]; rfl); have k2 : W.cell? ⟨ga, 2, none⟩ = some (.int .i64 a.now) := (by rw [cell_of_row _ _ _ _ _ _ hS]; rfl); have k3 : W.cell? ⟨ga, 3, none⟩ = some (.int .i64 a.q.id) := (by rw [cell_of_row _ _ _ _ _ _ hS]; rfl); have k4 : W.cell? ⟨ga, 4, none⟩ = some (.string a.q.who) := (by rw [cell_of_row _ _ _ _ _ _ hS]; rfl); have k5 : W.cell? ⟨ga, 5, none⟩ = some (.int .i64 a.q.entry) := (by rw [cell_of_row _ _ _ _ _ _ hS]; rfl); have k6 : W.cell? ⟨ga, 6, none⟩ = some (.string a.q.reason) := (by rw [cell_of_row _ _ _ _ _ _ hS]; rfl); have k7 : W.cell? ⟨ga, 7, none⟩ = some (.int .i64 a.q.exp) := (by rw [cell_of_row _ _ _ _ _ _ hS]; rfl); have k8 : W.cell? ⟨ga, 8, none⟩ = some (.string a.who) := (by rw [cell_of_row _ _ _ _ _ _ hS]; rfl); go_simp; try (with_reducible rfl))
    refine wpAnyH_take (i := 7) (v := ?_) rfl (by kernel_rfl) (by kernel_rfl) (by kernel_rfl) (fun _ _ _ h => h) (Or.inl ⟨by kernel_rfl, ?_⟩) E0 ?_
    rotate_left
    · (intro W hS; have k0 : W.cell? ⟨ga, 0, none⟩ = some (.int .i64 a.kind) := (by rw [cell_of_row _ _ _ _ _ _ hS]; rfl); have k1 : W.cell? ⟨ga, 1, none⟩ = some (.int .i64 a.id) := (by rw [cell_of_row _ _ _ _ _ _ hS]; rfl); have k2 : W.cell? ⟨ga, 2, none⟩ = some (.int .i64 a.now) := (by rw [cell_of_row _ _ _ _ _ _ hS]; rfl); have k3 : W.cell? ⟨ga, 3, none⟩ = some (.int .i64 a.q.id) := (by rw [cell_of_row _ _ _ _ _ _ hS]; rfl); have k4 : W.cell? ⟨ga, 4, none⟩ = some (.string a.q.who) := (by rw [cell_of_row _ _ _ _ _ _ hS]; rfl); have k5 : W.cell? ⟨ga, 5, none⟩ = some (.int .i64 a.q.entry) := (by rw [cell_of_row _ _ _ _ _ _ hS]; rfl); have k6 : W.cell? ⟨ga, 6, none⟩ = some (.string a.q.reason) := (by rw [cell_of_row _ _ _ _ _ _ hS]; rfl); have k7 : W.cell? ⟨ga, 7, none⟩ = some (.int .i64 a.q.exp) := (by rw [cell_of_row _ _ _ _ _ _ hS]; rfl); have k8 : W.cell? ⟨ga, 8, none⟩ = some (.string a.who) := (by rw [cell_of_row _ _ _ _ _ _ hS]; rfl); go_simp; try (with_reducible rfl))
    refine wpAnyH_take (i := 8) (v := ?_) rfl (by kernel_rfl) (by kernel_rfl) (by kernel_rfl) (fun _ _ _ h => h) (Or.inl ⟨by kernel_rfl, ?_⟩) E0 ?_
    rotate_left
    · (intro W hS; have k0 : W.cell? ⟨ga, 0, none⟩ = some (.int .i64 a.kind) := (by rw [cell_of_row _ _ _ _ _ _ hS]; rfl); have k1 : W.cell? ⟨ga, 1, none⟩ = some (.int .i64 a.id) := (by rw [cell_of_row _ _ _ _ _ _ hS]; rfl); have k2 : W.cell? ⟨ga, 2, none⟩ = some (.int .i64 a.now) := (by rw [cell_of_row _ _ _ _ _ _ hS]; rfl); have k3 : W.cell? ⟨ga, 3, none⟩ = some (.int .i64 a.q.id) := (by rw [cell_of_row _ _ _ _ _ _ hS]; rfl); have k4 : W.cell? ⟨ga, 4, none⟩ = some (.string a.q.who) := (by rw [cell_of_row _ _ _ _ _ _ hS]; rfl); have k5 : W.cell? ⟨ga, 5, none⟩ = some (.int .i64 a.q.entry) := (by rw [cell_of_row _ _ _ _ _ _ hS]; rfl); have k6 : W.cell? ⟨ga, 6, none⟩ = some (.string a.q.reason) := (by rw [cell_of_row _ _ _ _ _ _ hS]; rfl); have k7 : W.cell? ⟨ga, 7, none⟩ = some (.int .i64 a.q.exp) := (by rw [cell_of_row _ _ _ _ _ _ hS]; rfl); have k8 : W.cell? ⟨ga, 8, none⟩ = some (.string a.who) := (by rw [cell_of_row _ _ _ _ _ _ hS]; rfl); go_simp; try (with_reducible rfl))
    refine wpAnyH_take (i := 9) (v := ?_) rfl (by kernel_rfl) (by kernel_rfl) (by kernel_rfl) (fun _ _ _ h => h) (Or.inl ⟨by kernel_rfl, ?_⟩) E0 ?_
    rotate_left
    · (intro W hS; have k0 : W.cell? ⟨ga, 0, none⟩ = some (.int .i64 a.kind) := (by rw [cell_of_row _ _ _ _ _ _ hS]; rfl); have k1 : W.cell? ⟨ga, 1, none⟩ = some (.int .i64 a.id) := (by rw [cell_of_row _ _ _ _ _ _ hS]; rfl); have k2 : W.cell? ⟨ga, 2, none⟩ = some (.int .i64 a.now) := (by rw [cell_of_row _ _ _ _ _ _ hS]; rfl); have k3 : W.cell? ⟨ga, 3, none⟩ = some (.int .i64 a.q.id) := (by rw [cell_of_row _ _ _ _ _ _ hS]; rfl); have k4 : W.cell? ⟨ga, 4, none⟩ = some (.string a.q.who) := (by rw [cell_of_row _ _ _ _ _ _ hS]; rfl); have k5 : W.cell? ⟨ga, 5, none⟩ = some (.int .i64 a.q.entry) := (by rw [cell_of_row _ _ _ _ _ _ hS]; rfl); have k6 : W.cell? ⟨ga, 6, none⟩ = some (.string a.q.reason) := (by rw [cell_of_row _ _ _ _ _ _ hS]; rfl); have k7 : W.cell? ⟨ga, 7, none⟩ = some (.int .i64 a.q.exp) := (by rw [cell_of_row _ _ _ _ _ _ hS]; rfl); have k8 : W.cell? ⟨ga, 8, none⟩ = some (.string a.who) := (by rw [cell_of_row _ _ _ _ _ _ hS]; rfl); go_simp; try (with_reducible rfl))
    refine wpAnyH_ready (rs := [3]) (by kernel_rfl) (by simp) ?_
    refine AllReadyH.cons (i := 3) rfl (fun K hK => ?_) AllReadyH.nil
    go_simp
    refine (H.out.2.2.2.2.2 v0).mono ?_
    rintro e v1 ⟨rfl, hb⟩
    have F1 := F0.trans (hb.mono F0.size)
    have E1 : v1.heap[ga]? = some (.cells (acCs a) 57 (0, 0)) := (hb.block _ (blt_of_heap E0)).trans E0
    have LBn := (hb.block gr (blt_of_heap LB)).trans LB
    clear LB
    have LB := LBn
    clear LBn
    refine hK.out _ _ E1 (fun _ => ?_)
    clear hK K hb
    refine wpAnyH_take (i := 10) (v := ?_) rfl (by kernel_rfl) (by kernel_rfl) (by kernel_rfl) (fun _ _ _ h => h) (Or.inl ⟨by kernel_rfl, ?_⟩) E1 ?_
    rotate_left
    · (intro W hS; have k0 : W.cell? ⟨ga, 0, none⟩ = some (.int .i64 a.kind) := (by rw [cell_of_row _ _ _ _ _ _ hS]; rfl); have k1 : W.cell? ⟨ga, 1, none⟩ = some (.int .i64 a.id) := (by rw [cell_of_row _ _ _ _ _ _ hS]; rfl); have k2 : W.cell? ⟨ga, 2, none⟩ = some (.int .i64 a.now) := (by rw [cell_of_row _ _ _ _ _ _ hS]; rfl); have k3 : W.cell? ⟨ga, 3, none⟩ = some (.int .i64 a.q.id) := (by rw [cell_of_row _ _ _ _ _ _ hS]; rfl); have k4 : W.cell? ⟨ga, 4, none⟩ = some (.string a.q.who) := (by rw [cell_of_row _ _ _ _ _ _ hS]; rfl); have k5 : W.cell? ⟨ga, 5, none⟩ = some (.int .i64 a.q.entry) := (by rw [cell_of_row _ _ _ _ _ _ hS]; rfl); have k6 : W.cell? ⟨ga, 6, none⟩ = some (.string a.q.reason) := (by rw [cell_of_row _ _ _ _ _ _ hS]; rfl); have k7 : W.cell? ⟨ga, 7, none⟩ = some (.int .i64 a.q.exp) := (by rw [cell_of_row _ _ _ _ _ _ hS]; rfl); have k8 : W.cell? ⟨ga, 8, none⟩ = some (.string a.who) := (by rw [cell_of_row _ _ _ _ _ _ hS]; rfl); go_simp; try (with_reducible rfl))
    have fz : ∀ j, v1.frozen? ⟨gr, j, none⟩ = false := fun j => frozen_of_row _ _ _ _ _ LB
    have d0 : v1.cell? ⟨gr, 0, none⟩ = some (.int .i64 0) := by rw [cell_of_row _ _ _ _ _ _ LB]; rfl
    have d1 : v1.cell? ⟨gr, 1, none⟩ = some (.int .i64 0) := by rw [cell_of_row _ _ _ _ _ _ LB]; rfl
    have d2 : v1.cell? ⟨gr, 2, none⟩ = some (.string ⟨#[]⟩) := by rw [cell_of_row _ _ _ _ _ _ LB]; rfl
    have d3 : v1.cell? ⟨gr, 3, none⟩ = some (.int .i64 0) := by rw [cell_of_row _ _ _ _ _ _ LB]; rfl
    have d4 : v1.cell? ⟨gr, 4, none⟩ = some (.string ⟨#[]⟩) := by rw [cell_of_row _ _ _ _ _ _ LB]; rfl
    have d5 : v1.cell? ⟨gr, 5, none⟩ = some (.int .i64 0) := by rw [cell_of_row _ _ _ _ _ _ LB]; rfl
    have d6 : v1.cell? ⟨gr, 6, none⟩ = some (.int .i64 0) := by rw [cell_of_row _ _ _ _ _ _ LB]; rfl
    have d7 : v1.cell? ⟨gr, 7, none⟩ = some (.string ⟨#[]⟩) := by rw [cell_of_row _ _ _ _ _ _ LB]; rfl
    have d8 : v1.cell? ⟨gr, 8, none⟩ = some (.int .i64 0) := by rw [cell_of_row _ _ _ _ _ _ LB]; rfl
    obtain ⟨wz, hwz⟩ : ∃ z, z = (((((((((v1.setCell ⟨gr, 0, none⟩ (.int .i64 3)).setCell ⟨gr, 1, none⟩ (.int .i64 a.q.id)).setCell ⟨gr, 2, none⟩ (.string a.q.who)).setCell ⟨gr, 3, none⟩ (.int .i64 a.q.entry)).setCell ⟨gr, 4, none⟩ (.string a.q.reason)).setCell ⟨gr, 5, none⟩ (.int .i64 a.q.exp)).setCell ⟨gr, 6, none⟩ (.int .i64 a.id)).setCell ⟨gr, 7, none⟩ (.string a.who)).setCell ⟨gr, 8, none⟩ (.int .i64 a.now)) := ⟨_, rfl⟩
    have r9 : wz.heap[gr]? = some (.cells #[.int .i64 3, .int .i64 a.q.id, .string a.q.who, .int .i64 a.q.entry, .string a.q.reason, .int .i64 a.q.exp, .int .i64 a.id, .string a.who, .int .i64 a.now] 61 (0, 0)) := by rw [hwz, heap_setCell_same _ _ _ _ _ _ (heap_setCell_same _ _ _ _ _ _ (heap_setCell_same _ _ _ _ _ _ (heap_setCell_same _ _ _ _ _ _ (heap_setCell_same _ _ _ _ _ _ (heap_setCell_same _ _ _ _ _ _ (heap_setCell_same _ _ _ _ _ _ (heap_setCell_same _ _ _ _ _ _ (heap_setCell_same _ _ _ _ _ _ LB))))))))]; rfl
    have G9 : Below w.heap.size w wz := by rw [hwz]; exact Below.setCell (p := ⟨gr, 8, none⟩) (Below.setCell (p := ⟨gr, 7, none⟩) (Below.setCell (p := ⟨gr, 6, none⟩) (Below.setCell (p := ⟨gr, 5, none⟩) (Below.setCell (p := ⟨gr, 4, none⟩) (Below.setCell (p := ⟨gr, 3, none⟩) (Below.setCell (p := ⟨gr, 2, none⟩) (Below.setCell (p := ⟨gr, 1, none⟩) (Below.setCell (p := ⟨gr, 0, none⟩) (H.out.1.trans (F1.mono H.out.1.size)) H.out.2.2.2.1 _) H.out.2.2.2.1 _) H.out.2.2.2.1 _) H.out.2.2.2.1 _) H.out.2.2.2.1 _) H.out.2.2.2.1 _) H.out.2.2.2.1 _) H.out.2.2.2.1 _) H.out.2.2.2.1 _
    have EY : wz.heap[ga]? = some (.cells (acCs a) 57 (0, 0)) := by rw [hwz]; exact ((heap_setCell_other _ ⟨gr, 8, none⟩ ga _ H.out.2.2.2.2.1).trans ((heap_setCell_other _ ⟨gr, 7, none⟩ ga _ H.out.2.2.2.2.1).trans ((heap_setCell_other _ ⟨gr, 6, none⟩ ga _ H.out.2.2.2.2.1).trans ((heap_setCell_other _ ⟨gr, 5, none⟩ ga _ H.out.2.2.2.2.1).trans ((heap_setCell_other _ ⟨gr, 4, none⟩ ga _ H.out.2.2.2.2.1).trans ((heap_setCell_other _ ⟨gr, 3, none⟩ ga _ H.out.2.2.2.2.1).trans ((heap_setCell_other _ ⟨gr, 2, none⟩ ga _ H.out.2.2.2.2.1).trans ((heap_setCell_other _ ⟨gr, 1, none⟩ ga _ H.out.2.2.2.2.1).trans ((heap_setCell_other _ ⟨gr, 0, none⟩ ga _ H.out.2.2.2.2.1).trans E1)))))))))
    have e0 : wz.cell? ⟨gr, 0, none⟩ = some (.int .i64 3) := by rw [cell_of_row _ _ _ _ _ _ r9]; rfl
    have e1 : wz.cell? ⟨gr, 1, none⟩ = some (.int .i64 a.q.id) := by rw [cell_of_row _ _ _ _ _ _ r9]; rfl
    have e2 : wz.cell? ⟨gr, 2, none⟩ = some (.string a.q.who) := by rw [cell_of_row _ _ _ _ _ _ r9]; rfl
    have e3 : wz.cell? ⟨gr, 3, none⟩ = some (.int .i64 a.q.entry) := by rw [cell_of_row _ _ _ _ _ _ r9]; rfl
    have e4 : wz.cell? ⟨gr, 4, none⟩ = some (.string a.q.reason) := by rw [cell_of_row _ _ _ _ _ _ r9]; rfl
    have e5 : wz.cell? ⟨gr, 5, none⟩ = some (.int .i64 a.q.exp) := by rw [cell_of_row _ _ _ _ _ _ r9]; rfl
    have e6 : wz.cell? ⟨gr, 6, none⟩ = some (.int .i64 a.id) := by rw [cell_of_row _ _ _ _ _ _ r9]; rfl
    have e7 : wz.cell? ⟨gr, 7, none⟩ = some (.string a.who) := by rw [cell_of_row _ _ _ _ _ _ r9]; rfl
    have e8 : wz.cell? ⟨gr, 8, none⟩ = some (.int .i64 a.now) := by rw [cell_of_row _ _ _ _ _ _ r9]; rfl
    have HG := Lib.hid G9
    clear G9 r9 LB
    refine wpAnyH_ready (rs := [11]) (by kernel_rfl) (by simp) ?_
    refine AllReadyH.cons (i := 11) rfl (fun K hK => ?_) AllReadyH.nil
    go_simp
    rw [← hwz]
    refine hK.out _ _ EY (fun _ => ?_)
    clear hK K EY hwz fz d0 d1 d2 d3 d4 d5 d6 d7 d8
    refine wpAnyH_done (by kernel_rfl) ?_ _
    go_simp
    go_wp2_with fail
    refine bodyPost_ret (v := .agg #[.int .i64 3, .int .i64 a.q.id, .string a.q.who, .int .i64 a.q.entry, .string a.q.reason, .int .i64 a.q.exp, .int .i64 a.id, .string a.who, .int .i64 a.now]) (by simp [results, Try.results27, go_sem, e0, e1, e2, e3, e4, e5, e6, e7, e8]) rfl ?_
    exact ⟨rfl, HG.out⟩
  have g1 : ¬ (3 < a.kind) := hk
  have hnk : nk a = ⟨a.kind, a.q, a.id, a.who, a.now⟩ := by unfold nk; rw [if_neg (fun e => by omega)]
  rw [hnk]
  clear hnk hk
  unfold raVal
  go_enter Try.func27, Try.ntmps27
  go_upto_region 1 with fail
  rw [← hw1, ← hgr, ← hga]
  clear hw1 hga hgr
  have c0 : w1.cell? ⟨ga, 0, none⟩ = some (.int .i64 a.kind) := by rw [cell_of_row _ _ _ _ _ _ H.out.2.1]; rfl
  go_upto_region 4 with fail
  clear c0
  refine wp_region_held (S := fun W : World => W.heap[ga]? = some (.cells (acCs a) 57 (0, 0))) (by kernel_rfl) ?_
  change wpAnyH _ _ _ _ _ _ _ _ (World.drew _)
  generalize hv0 : World.drew _ = v0
  have E0 : v0.heap[ga]? = some (.cells (acCs a) 57 (0, 0)) := by rw [← hv0]; exact H.out.2.1
  have F0 : Below w1.heap.size w1 v0 := by rw [← hv0]; exact ((Below.refl _ _).drew)
  have LB : v0.heap[gr]? = some (.cells #[.int .i64 0, .int .i64 0, .string ⟨#[]⟩, .int .i64 0, .string ⟨#[]⟩, .int .i64 0, .int .i64 0, .string ⟨#[]⟩, .int .i64 0] 61 (0, 0)) := by rw [← hv0]; exact H.out.2.2.1
  clear hv0
  refine wpAnyH_take (i := 0) (v := ?_) rfl (by kernel_rfl) (by kernel_rfl) (by kernel_rfl) (fun _ _ _ h => h) (Or.inl ⟨by kernel_rfl, ?_⟩) E0 ?_
  rotate_left
  · (intro W hS; have k0 : W.cell? ⟨ga, 0, none⟩ = some (.int .i64 a.kind) := (by rw [cell_of_row _ _ _ _ _ _ hS]; rfl); have k1 : W.cell? ⟨ga, 1, none⟩ = some (.int .i64 a.id) := (by rw [cell_of_row _ _ _ _ _ _ hS]; rfl); have k2 : W.cell? ⟨ga, 2, none⟩ = some (.int .i64 a.now) := (by rw [cell_of_row _ _ _ _ _ _ hS]; rfl); have k3 : W.cell? ⟨ga, 3, none⟩ = some (.int .i64 a.q.id) := (by rw [cell_of_row _ _ _ _ _ _ hS]; rfl); have k4 : W.cell? ⟨ga, 4, none⟩ = some (.string a.q.who) := (by rw [cell_of_row _ _ _ _ _ _ hS]; rfl); have k5 : W.cell? ⟨ga, 5, none⟩ = some (.int .i64 a.q.entry) := (by rw [cell_of_row _ _ _ _ _ _ hS]; rfl); have k6 : W.cell? ⟨ga, 6, none⟩ = some (.string a.q.reason) := (by rw [cell_of_row _ _ _ _ _ _ hS]; rfl); have k7 : W.cell? ⟨ga, 7, none⟩ = some (.int .i64 a.q.exp) := (by rw [cell_of_row _ _ _ _ _ _ hS]; rfl); have k8 : W.cell? ⟨ga, 8, none⟩ = some (.string a.who) := (by rw [cell_of_row _ _ _ _ _ _ hS]; rfl); go_simp; try (with_reducible rfl))
  refine wpAnyH_take (i := 1) (v := ?_) rfl (by kernel_rfl) (by kernel_rfl) (by kernel_rfl) (fun _ _ _ h => h) (Or.inl ⟨by kernel_rfl, ?_⟩) E0 ?_
  rotate_left
  · (intro W hS; have k0 : W.cell? ⟨ga, 0, none⟩ = some (.int .i64 a.kind) := (by rw [cell_of_row _ _ _ _ _ _ hS]; rfl); have k1 : W.cell? ⟨ga, 1, none⟩ = some (.int .i64 a.id) := (by rw [cell_of_row _ _ _ _ _ _ hS]; rfl); have k2 : W.cell? ⟨ga, 2, none⟩ = some (.int .i64 a.now) := (by rw [cell_of_row _ _ _ _ _ _ hS]; rfl); have k3 : W.cell? ⟨ga, 3, none⟩ = some (.int .i64 a.q.id) := (by rw [cell_of_row _ _ _ _ _ _ hS]; rfl); have k4 : W.cell? ⟨ga, 4, none⟩ = some (.string a.q.who) := (by rw [cell_of_row _ _ _ _ _ _ hS]; rfl); have k5 : W.cell? ⟨ga, 5, none⟩ = some (.int .i64 a.q.entry) := (by rw [cell_of_row _ _ _ _ _ _ hS]; rfl); have k6 : W.cell? ⟨ga, 6, none⟩ = some (.string a.q.reason) := (by rw [cell_of_row _ _ _ _ _ _ hS]; rfl); have k7 : W.cell? ⟨ga, 7, none⟩ = some (.int .i64 a.q.exp) := (by rw [cell_of_row _ _ _ _ _ _ hS]; rfl); have k8 : W.cell? ⟨ga, 8, none⟩ = some (.string a.who) := (by rw [cell_of_row _ _ _ _ _ _ hS]; rfl); go_simp; try (with_reducible rfl))
  refine wpAnyH_take (i := 2) (v := ?_) rfl (by kernel_rfl) (by kernel_rfl) (by kernel_rfl) (fun _ _ _ h => h) (Or.inl ⟨by kernel_rfl, ?_⟩) E0 ?_
  rotate_left
  · (intro W hS; have k0 : W.cell? ⟨ga, 0, none⟩ = some (.int .i64 a.kind) := (by rw [cell_of_row _ _ _ _ _ _ hS]; rfl); have k1 : W.cell? ⟨ga, 1, none⟩ = some (.int .i64 a.id) := (by rw [cell_of_row _ _ _ _ _ _ hS]; rfl); have k2 : W.cell? ⟨ga, 2, none⟩ = some (.int .i64 a.now) := (by rw [cell_of_row _ _ _ _ _ _ hS]; rfl); have k3 : W.cell? ⟨ga, 3, none⟩ = some (.int .i64 a.q.id) := (by rw [cell_of_row _ _ _ _ _ _ hS]; rfl); have k4 : W.cell? ⟨ga, 4, none⟩ = some (.string a.q.who) := (by rw [cell_of_row _ _ _ _ _ _ hS]; rfl); have k5 : W.cell? ⟨ga, 5, none⟩ = some (.int .i64 a.q.entry) := (by rw [cell_of_row _ _ _ _ _ _ hS]; rfl); have k6 : W.cell? ⟨ga, 6, none⟩ = some (.string a.q.reason) := (by rw [cell_of_row _ _ _ _ _ _ hS]; rfl); have k7 : W.cell? ⟨ga, 7, none⟩ = some (.int .i64 a.q.exp) := (by rw [cell_of_row _ _ _ _ _ _ hS]; rfl); have k8 : W.cell? ⟨ga, 8, none⟩ = some (.string a.who) := (by rw [cell_of_row _ _ _ _ _ _ hS]; rfl); go_simp; try (with_reducible rfl))
  refine wpAnyH_take (i := 4) (v := ?_) rfl (by kernel_rfl) (by kernel_rfl) (by kernel_rfl) (fun _ _ _ h => h) (Or.inl ⟨by kernel_rfl, ?_⟩) E0 ?_
  rotate_left
  · (intro W hS; have k0 : W.cell? ⟨ga, 0, none⟩ = some (.int .i64 a.kind) := (by rw [cell_of_row _ _ _ _ _ _ hS]; rfl); have k1 : W.cell? ⟨ga, 1, none⟩ = some (.int .i64 a.id) := (by rw [cell_of_row _ _ _ _ _ _ hS]; rfl); have k2 : W.cell? ⟨ga, 2, none⟩ = some (.int .i64 a.now) := (by rw [cell_of_row _ _ _ _ _ _ hS]; rfl); have k3 : W.cell? ⟨ga, 3, none⟩ = some (.int .i64 a.q.id) := (by rw [cell_of_row _ _ _ _ _ _ hS]; rfl); have k4 : W.cell? ⟨ga, 4, none⟩ = some (.string a.q.who) := (by rw [cell_of_row _ _ _ _ _ _ hS]; rfl); have k5 : W.cell? ⟨ga, 5, none⟩ = some (.int .i64 a.q.entry) := (by rw [cell_of_row _ _ _ _ _ _ hS]; rfl); have k6 : W.cell? ⟨ga, 6, none⟩ = some (.string a.q.reason) := (by rw [cell_of_row _ _ _ _ _ _ hS]; rfl); have k7 : W.cell? ⟨ga, 7, none⟩ = some (.int .i64 a.q.exp) := (by rw [cell_of_row _ _ _ _ _ _ hS]; rfl); have k8 : W.cell? ⟨ga, 8, none⟩ = some (.string a.who) := (by rw [cell_of_row _ _ _ _ _ _ hS]; rfl); go_simp; try (with_reducible rfl))
  refine wpAnyH_take (i := 5) (v := ?_) rfl (by kernel_rfl) (by kernel_rfl) (by kernel_rfl) (fun _ _ _ h => h) (Or.inl ⟨by kernel_rfl, ?_⟩) E0 ?_
  rotate_left
  · (intro W hS; have k0 : W.cell? ⟨ga, 0, none⟩ = some (.int .i64 a.kind) := (by rw [cell_of_row _ _ _ _ _ _ hS]; rfl); have k1 : W.cell? ⟨ga, 1, none⟩ = some (.int .i64 a.id) := (by rw [cell_of_row _ _ _ _ _ _ hS]; rfl); have k2 : W.cell? ⟨ga, 2, none⟩ = some (.int .i64 a.now) := (by rw [cell_of_row _ _ _ _ _ _ hS]; rfl); have k3 : W.cell? ⟨ga, 3, none⟩ = some (.int .i64 a.q.id) := (by rw [cell_of_row _ _ _ _ _ _ hS]; rfl); have k4 : W.cell? ⟨ga, 4, none⟩ = some (.string a.q.who) := (by rw [cell_of_row _ _ _ _ _ _ hS]; rfl); have k5 : W.cell? ⟨ga, 5, none⟩ = some (.int .i64 a.q.entry) := (by rw [cell_of_row _ _ _ _ _ _ hS]; rfl); have k6 : W.cell? ⟨ga, 6, none⟩ = some (.string a.q.reason) := (by rw [cell_of_row _ _ _ _ _ _ hS]; rfl); have k7 : W.cell? ⟨ga, 7, none⟩ = some (.int .i64 a.q.exp) := (by rw [cell_of_row _ _ _ _ _ _ hS]; rfl); have k8 : W.cell? ⟨ga, 8, none⟩ = some (.string a.who) := (by rw [cell_of_row _ _ _ _ _ _ hS]; rfl); go_simp; try (with_reducible rfl))
  refine wpAnyH_take (i := 6) (v := ?_) rfl (by kernel_rfl) (by kernel_rfl) (by kernel_rfl) (fun _ _ _ h => h) (Or.inl ⟨by kernel_rfl, ?_⟩) E0 ?_
  rotate_left
  · (intro W hS; have k0 : W.cell? ⟨ga, 0, none⟩ = some (.int .i64 a.kind) := (by rw [cell_of_row _ _ _ _ _ _ hS]; rfl); have k1 : W.cell? ⟨ga, 1, none⟩ = some (.int .i64 a.id) := (by rw [cell_of_row _ _ _ _ _ _ hS]; rfl); have k2 : W.cell? ⟨ga, 2, none⟩ = some (.int .i64 a.now) := (by rw [cell_of_row _ _ _ _ _ _ hS]; rfl); have k3 : W.cell? ⟨ga, 3, none⟩ = some (.int .i64 a.q.id) := (by rw [cell_of_row _ _ _ _ _ _ hS]; rfl); have k4 : W.cell? ⟨ga, 4, none⟩ = some (.string a.q.who) := (by rw [cell_of_row _ _ _ _ _ _ hS]; rfl); have k5 : W.cell? ⟨ga, 5, none⟩ = some (.int .i64 a.q.entry) := (by rw [cell_of_row _ _ _ _ _ _ hS]; rfl); have k6 : W.cell? ⟨ga, 6, none⟩ = some (.string a.q.reason) := (by rw [cell_of_row _ _ _ _ _ _ hS]; rfl); have k7 : W.cell? ⟨ga, 7, none⟩ = some (.int .i64 a.q.exp) := (by rw [cell_of_row _ _ _ _ _ _ hS]; rfl); have k8 : W.cell? ⟨ga, 8, none⟩ = some (.string a.who) := (by rw [cell_of_row _ _ _ _ _ _ hS]; rfl); go_simp; try (with_reducible rfl))
  refine wpAnyH_take (i := 7) (v := ?_) rfl (by kernel_rfl) (by kernel_rfl) (by kernel_rfl) (fun _ _ _ h => h) (Or.inl ⟨by kernel_rfl, ?_⟩) E0 ?_
  rotate_left
  · (intro W hS; have k0 : W.cell? ⟨ga, 0, none⟩ = some (.int .i64 a.kind) := (by rw [cell_of_row _ _ _ _ _ _ hS]; rfl); have k1 : W.cell? ⟨ga, 1, none⟩ = some (.int .i64 a.id) := (by rw [cell_of_row _ _ _ _ _ _ hS]; rfl); have k2 : W.cell? ⟨ga, 2, none⟩ = some (.int .i64 a.now) := (by rw [cell_of_row _ _ _ _ _ _ hS]; rfl); have k3 : W.cell? ⟨ga, 3, none⟩ = some (.int .i64 a.q.id) := (by rw [cell_of_row _ _ _ _ _ _ hS]; rfl); have k4 : W.cell? ⟨ga, 4, none⟩ = some (.string a.q.who) := (by rw [cell_of_row _ _ _ _ _ _ hS]; rfl); have k5 : W.cell? ⟨ga, 5, none⟩ = some (.int .i64 a.q.entry) := (by rw [cell_of_row _ _ _ _ _ _ hS]; rfl); have k6 : W.cell? ⟨ga, 6, none⟩ = some (.string a.q.reason) := (by rw [cell_of_row _ _ _ _ _ _ hS]; rfl); have k7 : W.cell? ⟨ga, 7, none⟩ = some (.int .i64 a.q.exp) := (by rw [cell_of_row _ _ _ _ _ _ hS]; rfl); have k8 : W.cell? ⟨ga, 8, none⟩ = some (.string a.who) := (by rw [cell_of_row _ _ _ _ _ _ hS]; rfl); go_simp; try (with_reducible rfl))
  refine wpAnyH_take (i := 8) (v := ?_) rfl (by kernel_rfl) (by kernel_rfl) (by kernel_rfl) (fun _ _ _ h => h) (Or.inl ⟨by kernel_rfl, ?_⟩) E0 ?_
  rotate_left
  · (intro W hS; have k0 : W.cell? ⟨ga, 0, none⟩ = some (.int .i64 a.kind) := (by rw [cell_of_row _ _ _ _ _ _ hS]; rfl); have k1 : W.cell? ⟨ga, 1, none⟩ = some (.int .i64 a.id) := (by rw [cell_of_row _ _ _ _ _ _ hS]; rfl); have k2 : W.cell? ⟨ga, 2, none⟩ = some (.int .i64 a.now) := (by rw [cell_of_row _ _ _ _ _ _ hS]; rfl); have k3 : W.cell? ⟨ga, 3, none⟩ = some (.int .i64 a.q.id) := (by rw [cell_of_row _ _ _ _ _ _ hS]; rfl); have k4 : W.cell? ⟨ga, 4, none⟩ = some (.string a.q.who) := (by rw [cell_of_row _ _ _ _ _ _ hS]; rfl); have k5 : W.cell? ⟨ga, 5, none⟩ = some (.int .i64 a.q.entry) := (by rw [cell_of_row _ _ _ _ _ _ hS]; rfl); have k6 : W.cell? ⟨ga, 6, none⟩ = some (.string a.q.reason) := (by rw [cell_of_row _ _ _ _ _ _ hS]; rfl); have k7 : W.cell? ⟨ga, 7, none⟩ = some (.int .i64 a.q.exp) := (by rw [cell_of_row _ _ _ _ _ _ hS]; rfl); have k8 : W.cell? ⟨ga, 8, none⟩ = some (.string a.who) := (by rw [cell_of_row _ _ _ _ _ _ hS]; rfl); go_simp; try (with_reducible rfl))
  refine wpAnyH_take (i := 9) (v := ?_) rfl (by kernel_rfl) (by kernel_rfl) (by kernel_rfl) (fun _ _ _ h => h) (Or.inl ⟨by kernel_rfl, ?_⟩) E0 ?_
  rotate_left
  · (intro W hS; have k0 : W.cell? ⟨ga, 0, none⟩ = some (.int .i64 a.kind) := (by rw [cell_of_row _ _ _ _ _ _ hS]; rfl); have k1 : W.cell? ⟨ga, 1, none⟩ = some (.int .i64 a.id) := (by rw [cell_of_row _ _ _ _ _ _ hS]; rfl); have k2 : W.cell? ⟨ga, 2, none⟩ = some (.int .i64 a.now) := (by rw [cell_of_row _ _ _ _ _ _ hS]; rfl); have k3 : W.cell? ⟨ga, 3, none⟩ = some (.int .i64 a.q.id) := (by rw [cell_of_row _ _ _ _ _ _ hS]; rfl); have k4 : W.cell? ⟨ga, 4, none⟩ = some (.string a.q.who) := (by rw [cell_of_row _ _ _ _ _ _ hS]; rfl); have k5 : W.cell? ⟨ga, 5, none⟩ = some (.int .i64 a.q.entry) := (by rw [cell_of_row _ _ _ _ _ _ hS]; rfl); have k6 : W.cell? ⟨ga, 6, none⟩ = some (.string a.q.reason) := (by rw [cell_of_row _ _ _ _ _ _ hS]; rfl); have k7 : W.cell? ⟨ga, 7, none⟩ = some (.int .i64 a.q.exp) := (by rw [cell_of_row _ _ _ _ _ _ hS]; rfl); have k8 : W.cell? ⟨ga, 8, none⟩ = some (.string a.who) := (by rw [cell_of_row _ _ _ _ _ _ hS]; rfl); go_simp; try (with_reducible rfl))
  refine wpAnyH_ready (rs := [3]) (by kernel_rfl) (by simp) ?_
  refine AllReadyH.cons (i := 3) rfl (fun K hK => ?_) AllReadyH.nil
  go_simp
  refine (H.out.2.2.2.2.2 v0).mono ?_
  rintro e v1 ⟨rfl, hb⟩
  have F1 := F0.trans (hb.mono F0.size)
  have E1 : v1.heap[ga]? = some (.cells (acCs a) 57 (0, 0)) := (hb.block _ (blt_of_heap E0)).trans E0
  have LBn := (hb.block gr (blt_of_heap LB)).trans LB
  clear LB
  have LB := LBn
  clear LBn
  refine hK.out _ _ E1 (fun _ => ?_)
  clear hK K hb
  refine wpAnyH_take (i := 10) (v := ?_) rfl (by kernel_rfl) (by kernel_rfl) (by kernel_rfl) (fun _ _ _ h => h) (Or.inl ⟨by kernel_rfl, ?_⟩) E1 ?_
  rotate_left
  · (intro W hS; have k0 : W.cell? ⟨ga, 0, none⟩ = some (.int .i64 a.kind) := (by rw [cell_of_row _ _ _ _ _ _ hS]; rfl); have k1 : W.cell? ⟨ga, 1, none⟩ = some (.int .i64 a.id) := (by rw [cell_of_row _ _ _ _ _ _ hS]; rfl); have k2 : W.cell? ⟨ga, 2, none⟩ = some (.int .i64 a.now) := (by rw [cell_of_row _ _ _ _ _ _ hS]; rfl); have k3 : W.cell? ⟨ga, 3, none⟩ = some (.int .i64 a.q.id) := (by rw [cell_of_row _ _ _ _ _ _ hS]; rfl); have k4 : W.cell? ⟨ga, 4, none⟩ = some (.string a.q.who) := (by rw [cell_of_row _ _ _ _ _ _ hS]; rfl); have k5 : W.cell? ⟨ga, 5, none⟩ = some (.int .i64 a.q.entry) := (by rw [cell_of_row _ _ _ _ _ _ hS]; rfl); have k6 : W.cell? ⟨ga, 6, none⟩ = some (.string a.q.reason) := (by rw [cell_of_row _ _ _ _ _ _ hS]; rfl); have k7 : W.cell? ⟨ga, 7, none⟩ = some (.int .i64 a.q.exp) := (by rw [cell_of_row _ _ _ _ _ _ hS]; rfl); have k8 : W.cell? ⟨ga, 8, none⟩ = some (.string a.who) := (by rw [cell_of_row _ _ _ _ _ _ hS]; rfl); go_simp; try (with_reducible rfl))
  have fz : ∀ j, v1.frozen? ⟨gr, j, none⟩ = false := fun j => frozen_of_row _ _ _ _ _ LB
  have d0 : v1.cell? ⟨gr, 0, none⟩ = some (.int .i64 0) := by rw [cell_of_row _ _ _ _ _ _ LB]; rfl
  have d1 : v1.cell? ⟨gr, 1, none⟩ = some (.int .i64 0) := by rw [cell_of_row _ _ _ _ _ _ LB]; rfl
  have d2 : v1.cell? ⟨gr, 2, none⟩ = some (.string ⟨#[]⟩) := by rw [cell_of_row _ _ _ _ _ _ LB]; rfl
  have d3 : v1.cell? ⟨gr, 3, none⟩ = some (.int .i64 0) := by rw [cell_of_row _ _ _ _ _ _ LB]; rfl
  have d4 : v1.cell? ⟨gr, 4, none⟩ = some (.string ⟨#[]⟩) := by rw [cell_of_row _ _ _ _ _ _ LB]; rfl
  have d5 : v1.cell? ⟨gr, 5, none⟩ = some (.int .i64 0) := by rw [cell_of_row _ _ _ _ _ _ LB]; rfl
  have d6 : v1.cell? ⟨gr, 6, none⟩ = some (.int .i64 0) := by rw [cell_of_row _ _ _ _ _ _ LB]; rfl
  have d7 : v1.cell? ⟨gr, 7, none⟩ = some (.string ⟨#[]⟩) := by rw [cell_of_row _ _ _ _ _ _ LB]; rfl
  have d8 : v1.cell? ⟨gr, 8, none⟩ = some (.int .i64 0) := by rw [cell_of_row _ _ _ _ _ _ LB]; rfl
  obtain ⟨wz, hwz⟩ : ∃ z, z = (((((((((v1.setCell ⟨gr, 0, none⟩ (.int .i64 a.kind)).setCell ⟨gr, 1, none⟩ (.int .i64 a.q.id)).setCell ⟨gr, 2, none⟩ (.string a.q.who)).setCell ⟨gr, 3, none⟩ (.int .i64 a.q.entry)).setCell ⟨gr, 4, none⟩ (.string a.q.reason)).setCell ⟨gr, 5, none⟩ (.int .i64 a.q.exp)).setCell ⟨gr, 6, none⟩ (.int .i64 a.id)).setCell ⟨gr, 7, none⟩ (.string a.who)).setCell ⟨gr, 8, none⟩ (.int .i64 a.now)) := ⟨_, rfl⟩
  have r9 : wz.heap[gr]? = some (.cells #[.int .i64 a.kind, .int .i64 a.q.id, .string a.q.who, .int .i64 a.q.entry, .string a.q.reason, .int .i64 a.q.exp, .int .i64 a.id, .string a.who, .int .i64 a.now] 61 (0, 0)) := by rw [hwz, heap_setCell_same _ _ _ _ _ _ (heap_setCell_same _ _ _ _ _ _ (heap_setCell_same _ _ _ _ _ _ (heap_setCell_same _ _ _ _ _ _ (heap_setCell_same _ _ _ _ _ _ (heap_setCell_same _ _ _ _ _ _ (heap_setCell_same _ _ _ _ _ _ (heap_setCell_same _ _ _ _ _ _ (heap_setCell_same _ _ _ _ _ _ LB))))))))]; rfl
  have G9 : Below w.heap.size w wz := by rw [hwz]; exact Below.setCell (p := ⟨gr, 8, none⟩) (Below.setCell (p := ⟨gr, 7, none⟩) (Below.setCell (p := ⟨gr, 6, none⟩) (Below.setCell (p := ⟨gr, 5, none⟩) (Below.setCell (p := ⟨gr, 4, none⟩) (Below.setCell (p := ⟨gr, 3, none⟩) (Below.setCell (p := ⟨gr, 2, none⟩) (Below.setCell (p := ⟨gr, 1, none⟩) (Below.setCell (p := ⟨gr, 0, none⟩) (H.out.1.trans (F1.mono H.out.1.size)) H.out.2.2.2.1 _) H.out.2.2.2.1 _) H.out.2.2.2.1 _) H.out.2.2.2.1 _) H.out.2.2.2.1 _) H.out.2.2.2.1 _) H.out.2.2.2.1 _) H.out.2.2.2.1 _) H.out.2.2.2.1 _
  have EY : wz.heap[ga]? = some (.cells (acCs a) 57 (0, 0)) := by rw [hwz]; exact ((heap_setCell_other _ ⟨gr, 8, none⟩ ga _ H.out.2.2.2.2.1).trans ((heap_setCell_other _ ⟨gr, 7, none⟩ ga _ H.out.2.2.2.2.1).trans ((heap_setCell_other _ ⟨gr, 6, none⟩ ga _ H.out.2.2.2.2.1).trans ((heap_setCell_other _ ⟨gr, 5, none⟩ ga _ H.out.2.2.2.2.1).trans ((heap_setCell_other _ ⟨gr, 4, none⟩ ga _ H.out.2.2.2.2.1).trans ((heap_setCell_other _ ⟨gr, 3, none⟩ ga _ H.out.2.2.2.2.1).trans ((heap_setCell_other _ ⟨gr, 2, none⟩ ga _ H.out.2.2.2.2.1).trans ((heap_setCell_other _ ⟨gr, 1, none⟩ ga _ H.out.2.2.2.2.1).trans ((heap_setCell_other _ ⟨gr, 0, none⟩ ga _ H.out.2.2.2.2.1).trans E1)))))))))
  have e0 : wz.cell? ⟨gr, 0, none⟩ = some (.int .i64 a.kind) := by rw [cell_of_row _ _ _ _ _ _ r9]; rfl
  have e1 : wz.cell? ⟨gr, 1, none⟩ = some (.int .i64 a.q.id) := by rw [cell_of_row _ _ _ _ _ _ r9]; rfl
  have e2 : wz.cell? ⟨gr, 2, none⟩ = some (.string a.q.who) := by rw [cell_of_row _ _ _ _ _ _ r9]; rfl
  have e3 : wz.cell? ⟨gr, 3, none⟩ = some (.int .i64 a.q.entry) := by rw [cell_of_row _ _ _ _ _ _ r9]; rfl
  have e4 : wz.cell? ⟨gr, 4, none⟩ = some (.string a.q.reason) := by rw [cell_of_row _ _ _ _ _ _ r9]; rfl
  have e5 : wz.cell? ⟨gr, 5, none⟩ = some (.int .i64 a.q.exp) := by rw [cell_of_row _ _ _ _ _ _ r9]; rfl
  have e6 : wz.cell? ⟨gr, 6, none⟩ = some (.int .i64 a.id) := by rw [cell_of_row _ _ _ _ _ _ r9]; rfl
  have e7 : wz.cell? ⟨gr, 7, none⟩ = some (.string a.who) := by rw [cell_of_row _ _ _ _ _ _ r9]; rfl
  have e8 : wz.cell? ⟨gr, 8, none⟩ = some (.int .i64 a.now) := by rw [cell_of_row _ _ _ _ _ _ r9]; rfl
  have HG := Lib.hid G9
  clear G9 r9 LB
  refine wpAnyH_ready (rs := [11]) (by kernel_rfl) (by simp) ?_
  refine AllReadyH.cons (i := 11) rfl (fun K hK => ?_) AllReadyH.nil
  go_simp
  rw [← hwz]
  refine hK.out _ _ EY (fun _ => ?_)
  clear hK K EY hwz fz d0 d1 d2 d3 d4 d5 d6 d7 d8
  refine wpAnyH_done (by kernel_rfl) ?_ _
  go_simp
  go_wp2_with fail
  refine bodyPost_ret (v := .agg #[.int .i64 a.kind, .int .i64 a.q.id, .string a.q.who, .int .i64 a.q.entry, .string a.q.reason, .int .i64 a.q.exp, .int .i64 a.id, .string a.who, .int .i64 a.now]) (by simp [results, Try.results27, go_sem, e0, e1, e2, e3, e4, e5, e6, e7, e8]) rfl ?_
  exact ⟨rfl, HG.out⟩
set_option maxRecDepth 100000 in
set_option maxHeartbeats 4000000 in
theorem rdo21_0 (l : List En) (a0 : Option Addr) (cap : Nat) (q : Py.Q) (id : Int) (who : ByteArray) (now : Int) (hw : q.who.size ≤ maxLen) (hr : q.reason.size ≤ maxLen) (w : World) (hT : RecsAt 6 enCs w a0 l) (hm : l.length ≤ 1000000) (hst : ∀ x ∈ l, 1 ≤ x.st) :
    Calls Try.prog 26 #[.slice a0 l.length cap, .agg #[.int .i64 0, .int .i64 q.id, .string q.who, .int .i64 q.entry, .string q.reason, .int .i64 q.exp, .int .i64 id, .string who, .int .i64 now]] w fun e w' => RPost a0 w l (Bk.doI l ⟨0, q, id, who, now⟩) e w' := by
  obtain ⟨P, hP⟩ : ∃ P, P = Bk.doI l ⟨0, q, id, who, now⟩ := ⟨_, rfl⟩
  rw [← hP]
  obtain ⟨w1, hw1⟩ : ∃ w1, w1 = w.alloc (.cells #[.int .i64 0, .int .i64 q.id, .string q.who, .int .i64 q.entry, .string q.reason, .int .i64 q.exp, .int .i64 id, .string who, .int .i64 now] 61) := ⟨_, rfl⟩
  obtain ⟨ga, hga⟩ : ∃ ga, ga = w.heap.size := ⟨_, rfl⟩
  have hb1 := box_below hw1
  have a1 : w1.heap[ga]? = some (.cells #[.int .i64 0, .int .i64 q.id, .string q.who, .int .i64 q.entry, .string q.reason, .int .i64 q.exp, .int .i64 id, .string who, .int .i64 now] 61 (0, 0)) := by rw [hw1, hga]; exact heap_alloc_new _ _
  have herr := fun (c : Int) (W : World) (hb : Below w1.heap.size w1 W) => rpost_err (c := c) cap hT (hb1.trans (hb.mono hb1.size))
  have hput := rput21_any l a0 cap q now hw hr w1 (hT.below hb1) hm
  unfold qVal at hput
  obtain ⟨n, hn⟩ : ∃ n, n = l.length := ⟨_, rfl⟩
  rw [← hn] at hput herr hm ⊢
  have H := Lib.hid (And.intro hput (And.intro herr (And.intro hb1 (And.intro hT (And.intro hn hst)))))
  have HA := Lib.hid a1
  clear hput herr hb1 hT hn a1 hst hw hr
  unfold Bk.doI at hP
  simp only at hP
  by_cases h0 : now < 0
  · rw [if_pos (by unfold Py.inB; rw [decide_eq_false (by omega)]; rfl)] at hP
    have HP := Lib.hid hP
    clear hP
    go_enter Try.func26, Try.ntmps26
    go_upto_region 1 with fail
    rw [← hw1, ← hga]
    clear hw1 hga
    have X := HA.out
    have c0 : w1.cell? ⟨ga, 0, none⟩ = some (.int .i64 0) := by rw [cell_of_row _ _ _ _ _ _ X]; rfl
    have c1 : w1.cell? ⟨ga, 1, none⟩ = some (.int .i64 q.id) := by rw [cell_of_row _ _ _ _ _ _ X]; rfl
    have c2 : w1.cell? ⟨ga, 2, none⟩ = some (.string q.who) := by rw [cell_of_row _ _ _ _ _ _ X]; rfl
    have c3 : w1.cell? ⟨ga, 3, none⟩ = some (.int .i64 q.entry) := by rw [cell_of_row _ _ _ _ _ _ X]; rfl
    have c4 : w1.cell? ⟨ga, 4, none⟩ = some (.string q.reason) := by rw [cell_of_row _ _ _ _ _ _ X]; rfl
    have c5 : w1.cell? ⟨ga, 5, none⟩ = some (.int .i64 q.exp) := by rw [cell_of_row _ _ _ _ _ _ X]; rfl
    have c6 : w1.cell? ⟨ga, 6, none⟩ = some (.int .i64 id) := by rw [cell_of_row _ _ _ _ _ _ X]; rfl
    have c7 : w1.cell? ⟨ga, 7, none⟩ = some (.string who) := by rw [cell_of_row _ _ _ _ _ _ X]; rfl
    have c8 : w1.cell? ⟨ga, 8, none⟩ = some (.int .i64 now) := by rw [cell_of_row _ _ _ _ _ _ X]; rfl
    clear X
    go_wp2_with fail
    go_ret2
    rw [HP.out]
    exact H.out.2.1 1 w1 (Below.refl _ _)
  have g0 : ¬ (now < 0) := h0
  by_cases h1 : 1099511627776 < now
  · rw [if_pos (by unfold Py.inB; rw [decide_eq_false (show ¬ (now ≤ 1099511627776) by omega), Bool.and_false])] at hP
    clear h0
    have HP := Lib.hid hP
    clear hP
    go_enter Try.func26, Try.ntmps26
    go_upto_region 1 with fail
    rw [← hw1, ← hga]
    clear hw1 hga
    have X := HA.out
    have c0 : w1.cell? ⟨ga, 0, none⟩ = some (.int .i64 0) := by rw [cell_of_row _ _ _ _ _ _ X]; rfl
    have c1 : w1.cell? ⟨ga, 1, none⟩ = some (.int .i64 q.id) := by rw [cell_of_row _ _ _ _ _ _ X]; rfl
    have c2 : w1.cell? ⟨ga, 2, none⟩ = some (.string q.who) := by rw [cell_of_row _ _ _ _ _ _ X]; rfl
    have c3 : w1.cell? ⟨ga, 3, none⟩ = some (.int .i64 q.entry) := by rw [cell_of_row _ _ _ _ _ _ X]; rfl
    have c4 : w1.cell? ⟨ga, 4, none⟩ = some (.string q.reason) := by rw [cell_of_row _ _ _ _ _ _ X]; rfl
    have c5 : w1.cell? ⟨ga, 5, none⟩ = some (.int .i64 q.exp) := by rw [cell_of_row _ _ _ _ _ _ X]; rfl
    have c6 : w1.cell? ⟨ga, 6, none⟩ = some (.int .i64 id) := by rw [cell_of_row _ _ _ _ _ _ X]; rfl
    have c7 : w1.cell? ⟨ga, 7, none⟩ = some (.string who) := by rw [cell_of_row _ _ _ _ _ _ X]; rfl
    have c8 : w1.cell? ⟨ga, 8, none⟩ = some (.int .i64 now) := by rw [cell_of_row _ _ _ _ _ _ X]; rfl
    clear X
    go_wp2_with fail
    go_ret2
    rw [HP.out]
    exact H.out.2.1 1 w1 (Below.refl _ _)
  have g1 : ¬ (1099511627776 < now) := h1
  rw [if_neg (by unfold Py.inB; rw [decide_eq_true (by omega), decide_eq_true (by omega)]; decide)] at hP
  clear h0 h1
  rw [if_pos (by trivial)] at hP
  have HP := Lib.hid hP
  clear hP
  go_enter Try.func26, Try.ntmps26
  go_upto_region 1 with fail
  rw [← hw1, ← hga]
  clear hw1 hga
  have X := HA.out
  have c0 : w1.cell? ⟨ga, 0, none⟩ = some (.int .i64 0) := by rw [cell_of_row _ _ _ _ _ _ X]; rfl
  have c1 : w1.cell? ⟨ga, 1, none⟩ = some (.int .i64 q.id) := by rw [cell_of_row _ _ _ _ _ _ X]; rfl
  have c2 : w1.cell? ⟨ga, 2, none⟩ = some (.string q.who) := by rw [cell_of_row _ _ _ _ _ _ X]; rfl
  have c3 : w1.cell? ⟨ga, 3, none⟩ = some (.int .i64 q.entry) := by rw [cell_of_row _ _ _ _ _ _ X]; rfl
  have c4 : w1.cell? ⟨ga, 4, none⟩ = some (.string q.reason) := by rw [cell_of_row _ _ _ _ _ _ X]; rfl
  have c5 : w1.cell? ⟨ga, 5, none⟩ = some (.int .i64 q.exp) := by rw [cell_of_row _ _ _ _ _ _ X]; rfl
  have c6 : w1.cell? ⟨ga, 6, none⟩ = some (.int .i64 id) := by rw [cell_of_row _ _ _ _ _ _ X]; rfl
  have c7 : w1.cell? ⟨ga, 7, none⟩ = some (.string who) := by rw [cell_of_row _ _ _ _ _ _ X]; rfl
  have c8 : w1.cell? ⟨ga, 8, none⟩ = some (.int .i64 now) := by rw [cell_of_row _ _ _ _ _ _ X]; rfl
  clear X
  go_wp2_with fail
  refine H.out.1.mono ?_
  rintro e w2 ⟨ar, cr, rfl, hT2, hb2, hfr⟩
  go_wp2_with fail
  go_ret2
  rw [HP.out]
  exact ⟨ar, cr, rfl, hT2, H.out.2.2.1.trans (hb2.mono H.out.2.2.1.size), hfr.imp (fun h => h) fun h g o hg => ⟨Nat.le_trans H.out.2.2.1.size (h g o hg).1, (h g o hg).2⟩⟩
end Go.Proofs.Ytnkkbinbeildmaa
