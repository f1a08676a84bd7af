/- request: copied, Put. -/
import Derived.Test.YtnkkbinbeildmaaBkB
import Derived.Test.YtnkkbinbeildmaaClone
import Derived.Deep.RegionHeld
namespace Go.Proofs.Ytnkkbinbeildmaa
open Go.RowKit
theorem blt_of_heap {w : World} {g : Nat} {o : Obj} (h : w.heap[g]? = some o) : g < w.heap.size := (Array.getElem?_eq_some_iff.1 h).1
set_option maxRecDepth 100000 in
set_option maxHeartbeats 1000000 in
theorem bcopied_any (q : Py.Q) (hw : q.who.size ≤ 281474976710656) (hr : q.reason.size ≤ 281474976710656) (w : World) : Calls Try.prog 61 #[qVal q] w fun e w' => e = .returned (qVal q) ∧ Below w.heap.size w w' := by
  obtain ⟨w1, hw1⟩ : ∃ w1, w1 = (w.alloc (.cells (qCs q) 24)).alloc (.cells #[.int .i64 0, .string ⟨#[]⟩, .int .i64 0, .string ⟨#[]⟩, .int .i64 0] 24) := ⟨_, rfl⟩
  obtain ⟨gq, hgq⟩ : ∃ gq, gq = w.heap.size := ⟨_, rfl⟩
  obtain ⟨gr, hgr⟩ : ∃ gr, gr = w.heap.size + 1 := ⟨_, rfl⟩
  have hb1 : Below w.heap.size w w1 := by rw [hw1]; exact ((Below.refl _ _).alloc (Nat.le_refl _) _).alloc (by simp) _
  have a1 : w1.heap[gq]? = some (.cells (qCs q) 24 (0, 0)) := by
    rw [hw1, hgq]
    exact (heap_alloc_old _ _ (by simp)).trans (heap_alloc_new _ _)
  have a2 : w1.heap[gr]? = some (.cells #[.int .i64 0, .string ⟨#[]⟩, .int .i64 0, .string ⟨#[]⟩, .int .i64 0] 24 (0, 0)) := by
    rw [hw1, hgr]
    have := heap_alloc_new (w.alloc (.cells (qCs q) 24)) (.cells #[.int .i64 0, .string ⟨#[]⟩, .int .i64 0, .string ⟨#[]⟩, .int .i64 0] 24)
    simpa using this
  have hne : gr ≠ gq := by omega
  have hlo : w.heap.size ≤ gq ∧ w.heap.size ≤ gr := by omega
  have H := Lib.hid (And.intro hb1 (And.intro a1 (And.intro a2 (And.intro hne hlo))))
  clear hb1 a1 a2 hne hlo
  unfold qCs at hw1
  unfold qVal
  go_enter Try.func61, Try.ntmps61
  go_upto_region 1 with fail
  rw [← hw1, ← hgr, ← hgq]
  clear hw1 hgq hgr
  refine wp_region_held (S := fun W : World => (W.heap[gq]? = some (.cells (qCs q) 24 (0, 0)) ∧ W.heap[gr]? = some (.cells #[.int .i64 0, .string ⟨#[]⟩, .int .i64 0, .string ⟨#[]⟩, .int .i64 0] 24 (0, 0)))) (by kernel_rfl) ?_
  change wpAnyH _ _ _ _ _ _ _ _ (World.drew _)
  generalize hv0 : World.drew _ = v0
  have E0 : (v0.heap[gq]? = some (.cells (qCs q) 24 (0, 0)) ∧ v0.heap[gr]? = some (.cells #[.int .i64 0, .string ⟨#[]⟩, .int .i64 0, .string ⟨#[]⟩, .int .i64 0] 24 (0, 0))) := by rw [← hv0]; exact ⟨H.out.2.1, H.out.2.2.1⟩
  have F0 : Below w1.heap.size w1 v0 := by rw [← hv0]; exact ((Below.refl _ _).drew)
  clear hv0
  refine wpAnyH_take (i := 0) (v := ?_) rfl (by kernel_rfl) (by kernel_rfl) (by kernel_rfl) (fun _ _ _ h => h) (Or.inl ⟨by kernel_rfl, ?_⟩) E0 ?_
  rotate_left
  · (intro W hS; have k1 : W.cell? ⟨gq, 1, none⟩ = some (.string q.who) := (by rw [cell_of_row _ _ _ _ _ _ hS.1]; rfl); have k3 : W.cell? ⟨gq, 3, none⟩ = some (.string q.reason) := (by rw [cell_of_row _ _ _ _ _ _ hS.1]; rfl); go_simp; try (with_reducible rfl))
  refine wpAnyH_take (i := 1) (v := ?_) rfl (by kernel_rfl) (by kernel_rfl) (by kernel_rfl) (fun _ _ _ h => h) (Or.inl ⟨by kernel_rfl, ?_⟩) E0 ?_
  rotate_left
  · (intro W hS; have k1 : W.cell? ⟨gq, 1, none⟩ = some (.string q.who) := (by rw [cell_of_row _ _ _ _ _ _ hS.1]; rfl); have k3 : W.cell? ⟨gq, 3, none⟩ = some (.string q.reason) := (by rw [cell_of_row _ _ _ _ _ _ hS.1]; rfl); go_simp; try (with_reducible rfl))
  refine wpAnyH_take (i := 3) (v := ?_) rfl (by kernel_rfl) (by kernel_rfl) (by kernel_rfl) (fun _ _ _ h => h) (Or.inl ⟨by kernel_rfl, ?_⟩) E0 ?_
  rotate_left
  · (intro W hS; have k1 : W.cell? ⟨gq, 1, none⟩ = some (.string q.who) := (by rw [cell_of_row _ _ _ _ _ _ hS.1]; rfl); have k3 : W.cell? ⟨gq, 3, none⟩ = some (.string q.reason) := (by rw [cell_of_row _ _ _ _ _ _ hS.1]; rfl); go_simp; try (with_reducible rfl))
  refine wpAnyH_take (i := 4) (v := ?_) rfl (by kernel_rfl) (by kernel_rfl) (by kernel_rfl) (fun _ _ _ h => h) (Or.inl ⟨by kernel_rfl, ?_⟩) E0 ?_
  rotate_left
  · (intro W hS; have k1 : W.cell? ⟨gq, 1, none⟩ = some (.string q.who) := (by rw [cell_of_row _ _ _ _ _ _ hS.1]; rfl); have k3 : W.cell? ⟨gq, 3, none⟩ = some (.string q.reason) := (by rw [cell_of_row _ _ _ _ _ _ hS.1]; rfl); go_simp; try (with_reducible rfl))
  refine wpAnyH_ready (rs := [2]) (by kernel_rfl) (by simp) ?_
  refine AllReadyH.cons (i := 2) rfl (fun K hK => ?_) AllReadyH.nil
  go_simp
  refine (clone_any q.who v0 hw).mono ?_
  rintro e v1 ⟨rfl, hb⟩
  have F1 := F0.trans (hb.mono F0.size)
  have E1 : (v1.heap[gq]? = some (.cells (qCs q) 24 (0, 0)) ∧ v1.heap[gr]? = some (.cells #[.int .i64 0, .string ⟨#[]⟩, .int .i64 0, .string ⟨#[]⟩, .int .i64 0] 24 (0, 0))) := ⟨(hb.block _ (blt_of_heap E0.1)).trans E0.1, (hb.block _ (blt_of_heap E0.2)).trans E0.2⟩
  refine hK.out _ _ E1 (fun _ => ?_)
  clear hK K hb
  refine wpAnyH_take (i := 6) (v := ?_) rfl (by kernel_rfl) (by kernel_rfl) (by kernel_rfl) (fun _ _ _ h => h) (Or.inl ⟨by kernel_rfl, ?_⟩) E1 ?_
  rotate_left
  · (intro W hS; have k1 : W.cell? ⟨gq, 1, none⟩ = some (.string q.who) := (by rw [cell_of_row _ _ _ _ _ _ hS.1]; rfl); have k3 : W.cell? ⟨gq, 3, none⟩ = some (.string q.reason) := (by rw [cell_of_row _ _ _ _ _ _ hS.1]; rfl); go_simp; try (with_reducible rfl))
  refine wpAnyH_ready (rs := [5]) (by kernel_rfl) (by simp) ?_
  refine AllReadyH.cons (i := 5) rfl (fun K hK => ?_) AllReadyH.nil
  go_simp
  refine (clone_any q.reason v1 hr).mono ?_
  rintro e v2 ⟨rfl, hb⟩
  have F2 := F1.trans (hb.mono F1.size)
  have E2 : (v2.heap[gq]? = some (.cells (qCs q) 24 (0, 0)) ∧ v2.heap[gr]? = some (.cells #[.int .i64 0, .string ⟨#[]⟩, .int .i64 0, .string ⟨#[]⟩, .int .i64 0] 24 (0, 0))) := ⟨(hb.block _ (blt_of_heap E1.1)).trans E1.1, (hb.block _ (blt_of_heap E1.2)).trans E1.2⟩
  refine hK.out _ _ E2 (fun _ => ?_)
  clear hK K hb
  obtain ⟨p2, p3⟩ := E2
  have EZ : (v2.heap[gq]? = some (.cells (qCs q) 24 (0, 0)) ∧ v2.heap[gr]? = some (.cells #[.int .i64 0, .string ⟨#[]⟩, .int .i64 0, .string ⟨#[]⟩, .int .i64 0] 24 (0, 0))) := ⟨p2, p3⟩
  have s1 : v2.cell? ⟨gq, 1, none⟩ = some (.string q.who) := by rw [cell_of_row _ _ _ _ _ _ p2]; rfl
  have f1 : v2.frozen? ⟨gq, 1, none⟩ = false := frozen_of_row _ _ _ _ _ p2
  obtain ⟨z0, hz0⟩ : ∃ z, z = v2.setCell ⟨gq, 1, none⟩ (.string q.who) := ⟨_, rfl⟩
  have pz0 : z0.heap[gq]? = some (.cells (qCs q) 24 (0, 0)) := by rw [hz0, heap_setCell_same _ _ _ _ _ _ p2]; rfl
  have py0 : z0.heap[gr]? = some (.cells #[.int .i64 0, .string ⟨#[]⟩, .int .i64 0, .string ⟨#[]⟩, .int .i64 0] 24 (0, 0)) := by rw [hz0]; exact (heap_setCell_other v2 ⟨gq, 1, none⟩ gr (.string q.who) H.out.2.2.2.1).trans p3
  have G0 : Below w.heap.size w z0 := by rw [hz0]; exact Below.setCell (p := ⟨gq, 1, none⟩) (H.out.1.trans (F2.mono H.out.1.size)) H.out.2.2.2.2.1 _
  refine wpAnyH_ready (rs := [7]) (by kernel_rfl) (by simp) ?_
  refine AllReadyH.cons (i := 7) rfl (fun K hK => ?_) AllReadyH.nil
  go_simp
  rw [← hz0]
  refine hK.out _ _ ⟨pz0, py0⟩ (fun _ => ?_)
  clear hK K s1 f1 EZ hz0
  have EZ : (z0.heap[gq]? = some (.cells (qCs q) 24 (0, 0)) ∧ z0.heap[gr]? = some (.cells #[.int .i64 0, .string ⟨#[]⟩, .int .i64 0, .string ⟨#[]⟩, .int .i64 0] 24 (0, 0))) := ⟨pz0, py0⟩
  refine wpAnyH_take (i := 8) (v := ?_) rfl (by kernel_rfl) (by kernel_rfl) (by kernel_rfl) (fun _ _ _ h => h) (Or.inl ⟨by kernel_rfl, ?_⟩) EZ ?_
  rotate_left
  · (intro W hS; have k1 : W.cell? ⟨gq, 1, none⟩ = some (.string q.who) := (by rw [cell_of_row _ _ _ _ _ _ hS.1]; rfl); have k3 : W.cell? ⟨gq, 3, none⟩ = some (.string q.reason) := (by rw [cell_of_row _ _ _ _ _ _ hS.1]; rfl); go_simp; try (with_reducible rfl))
  have s1 : z0.cell? ⟨gq, 3, none⟩ = some (.string q.reason) := by rw [cell_of_row _ _ _ _ _ _ pz0]; rfl
  have f1 : z0.frozen? ⟨gq, 3, none⟩ = false := frozen_of_row _ _ _ _ _ pz0
  obtain ⟨z1, hz1⟩ : ∃ z, z = z0.setCell ⟨gq, 3, none⟩ (.string q.reason) := ⟨_, rfl⟩
  have pz1 : z1.heap[gq]? = some (.cells (qCs q) 24 (0, 0)) := by rw [hz1, heap_setCell_same _ _ _ _ _ _ pz0]; rfl
  have py1 : z1.heap[gr]? = some (.cells #[.int .i64 0, .string ⟨#[]⟩, .int .i64 0, .string ⟨#[]⟩, .int .i64 0] 24 (0, 0)) := by rw [hz1]; exact (heap_setCell_other z0 ⟨gq, 3, none⟩ gr (.string q.reason) H.out.2.2.2.1).trans py0
  have G1 : Below w.heap.size w z1 := by rw [hz1]; exact Below.setCell (p := ⟨gq, 3, none⟩) (G0) H.out.2.2.2.2.1 _
  refine wpAnyH_ready (rs := [9]) (by kernel_rfl) (by simp) ?_
  refine AllReadyH.cons (i := 9) rfl (fun K hK => ?_) AllReadyH.nil
  go_simp
  rw [← hz1]
  refine hK.out _ _ ⟨pz1, py1⟩ (fun _ => ?_)
  clear hK K s1 f1 EZ hz1
  refine wpAnyH_done (by kernel_rfl) ?_ _
  go_simp
  have c0 : z1.cell? ⟨gq, 0, none⟩ = some (.int .i64 q.id) := by rw [cell_of_row _ _ _ _ _ _ pz1]; rfl
  have c1 : z1.cell? ⟨gq, 1, none⟩ = some (.string q.who) := by rw [cell_of_row _ _ _ _ _ _ pz1]; rfl
  have c2 : z1.cell? ⟨gq, 2, none⟩ = some (.int .i64 q.entry) := by rw [cell_of_row _ _ _ _ _ _ pz1]; rfl
  have c3 : z1.cell? ⟨gq, 3, none⟩ = some (.string q.reason) := by rw [cell_of_row _ _ _ _ _ _ pz1]; rfl
  have c4 : z1.cell? ⟨gq, 4, none⟩ = some (.int .i64 q.exp) := by rw [cell_of_row _ _ _ _ _ _ pz1]; rfl
  obtain ⟨w9, hw9⟩ : ∃ z, z = ((((z1.setCell ⟨gr, 0, none⟩ (.int .i64 q.id)).setCell ⟨gr, 1, none⟩ (.string q.who)).setCell ⟨gr, 2, none⟩ (.int .i64 q.entry)).setCell ⟨gr, 3, none⟩ (.string q.reason)).setCell ⟨gr, 4, none⟩ (.int .i64 q.exp) := ⟨_, rfl⟩
  have r9 : w9.heap[gr]? = some (.cells (qCs q) 24 (0, 0)) := by rw [hw9, heap_setCell_same _ _ _ _ _ _ (heap_setCell_same _ _ _ _ _ _ (heap_setCell_same _ _ _ _ _ _ (heap_setCell_same _ _ _ _ _ _ (heap_setCell_same _ _ _ _ _ _ py1))))]; rfl
  have G9 : Below w.heap.size w w9 := by rw [hw9]; exact Below.setCell (p := ⟨gr, 4, none⟩) (Below.setCell (p := ⟨gr, 3, none⟩) (Below.setCell (p := ⟨gr, 2, none⟩) (Below.setCell (p := ⟨gr, 1, none⟩) (Below.setCell (p := ⟨gr, 0, none⟩) G1 H.out.2.2.2.2.2 _) H.out.2.2.2.2.2 _) H.out.2.2.2.2.2 _) H.out.2.2.2.2.2 _) H.out.2.2.2.2.2 _
  have d0 : z1.cell? ⟨gr, 0, none⟩ = some (.int .i64 0) := by rw [cell_of_row _ _ _ _ _ _ py1]; rfl
  have d1 : z1.cell? ⟨gr, 1, none⟩ = some (.string ⟨#[]⟩) := by rw [cell_of_row _ _ _ _ _ _ py1]; rfl
  have d2 : z1.cell? ⟨gr, 2, none⟩ = some (.int .i64 0) := by rw [cell_of_row _ _ _ _ _ _ py1]; rfl
  have d3 : z1.cell? ⟨gr, 3, none⟩ = some (.string ⟨#[]⟩) := by rw [cell_of_row _ _ _ _ _ _ py1]; rfl
  have d4 : z1.cell? ⟨gr, 4, none⟩ = some (.int .i64 0) := by rw [cell_of_row _ _ _ _ _ _ py1]; rfl
  have fz : ∀ j, z1.frozen? ⟨gr, j, none⟩ = false := fun j => frozen_of_row _ _ _ _ _ py1
  have e0 : w9.cell? ⟨gr, 0, none⟩ = some (.int .i64 q.id) := by rw [cell_of_row _ _ _ _ _ _ r9]; rfl
  have e1 : w9.cell? ⟨gr, 1, none⟩ = some (.string q.who) := by rw [cell_of_row _ _ _ _ _ _ r9]; rfl
  have e2 : w9.cell? ⟨gr, 2, none⟩ = some (.int .i64 q.entry) := by rw [cell_of_row _ _ _ _ _ _ r9]; rfl
  have e3 : w9.cell? ⟨gr, 3, none⟩ = some (.string q.reason) := by rw [cell_of_row _ _ _ _ _ _ r9]; rfl
  have e4 : w9.cell? ⟨gr, 4, none⟩ = some (.int .i64 q.exp) := by rw [cell_of_row _ _ _ _ _ _ r9]; rfl
  have HG := Lib.hid G9
  clear G0 G1 G9 py0 py1 pz0 pz1 p2 p3 r9
  go_wp2_with fail
  rw [← hw9]
  clear hw9
  go_wp2_with fail
  refine bodyPost_ret (v := .agg #[.int .i64 q.id, .string q.who, .int .i64 q.entry, .string q.reason, .int .i64 q.exp]) (by simp [results, Try.results61, go_sem, e0, e1, e2, e3, e4]) rfl ?_
  exact ⟨rfl, HG.out⟩
end Go.Proofs.Ytnkkbinbeildmaa
