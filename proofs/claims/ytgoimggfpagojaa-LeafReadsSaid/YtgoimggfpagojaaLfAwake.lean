/- lockboxlaw17.sample, awake. -/
import Derived.Test.YtgoimggfpagojaaLfText
import Derived.Test.YtgoimggfpagojaaLfRead
import Derived.Test.YtgoimggfpagojaaLfFind
import Derived.Deep.RegionWith
namespace Go.Proofs.Ytgoimggfpagojaa
open Go.RowKit
open Cn

def z32 : ByteArray := str (List.replicate 32 0)
def smp : Lf := ⟨3, 1, z32, [⟨z32, 2⟩], z32⟩
theorem smp_ok : lfB smp = true := by decide +kernel
set_option maxRecDepth 100000 in
set_option maxHeartbeats 2000000 in
theorem sample_any (w : World) : Calls Try.prog 20 #[.int .i64 3] w fun e w' => ∃ g, e = .returned (.agg (lfCs smp (some ⟨g, 0, none⟩) 1)) ∧ PoAt w' (some ⟨g, 0, none⟩) smp.tags ∧ Below w.heap.size w w' := by
  obtain ⟨w1, hw1⟩ : ∃ w1, w1 = w.alloc (.cells (lfCs Lf.zero none 0) 24) := ⟨_, rfl⟩
  have hb1 : Below w.heap.size w w1 := by rw [hw1]; exact (Below.refl _ _).alloc (Nat.le_refl _) _
  have hg1 : w1.heap[w.heap.size]? = some (.cells (lfCs Lf.zero none 0) 24 (0, 0)) := by rw [hw1]; exact heap_alloc_new _ _
  obtain ⟨w2, hmk0, hown, hb2⟩ := make_bytes w1 32 (by decide)
  have hmk : (Instr.makeSlice 52 (.int .i64 32) (.int .i64 32)).run Try.prog w1 = .ok (.slice (some ⟨w1.heap.size, 0, none⟩) 32 32) w2 := hmk0
  have hcv0 := hown.conv
  rw [List.length_replicate] at hcv0
  obtain ⟨K, hK⟩ : ∃ K, K = z32 := ⟨_, rfl⟩
  have hcv : (convert 52 9 (.slice (some ⟨w1.heap.size, 0, none⟩) 32 32)).run Try.prog w2 = .ok (.string K) w2 := by rw [hK]; exact hcv0
  have hz1 : w.heap.size < w1.heap.size := lt_of_heap hg1
  have hr2 := (hb2.block _ hz1).trans hg1
  obtain ⟨z0, z1, z2, z3, z4⟩ := lf_cell hr2
  have f := row5 hr2
  have hB2 := hb1.trans (hb2.mono hb1.size)
  have hne : w.heap.size < w2.heap.size := Nat.lt_of_lt_of_le hz1 hb2.size
  have n1 : ¬ w.heap.size = w2.heap.size := by omega
  have n2 : ¬ w2.heap.size = w.heap.size := by omega
  have cA : ∀ (o : Obj) (j : Nat), (w2.alloc o).cell? ⟨w.heap.size, j, none⟩ = w2.cell? ⟨w.heap.size, j, none⟩ := fun o j => World.cell?_of_block (a := ⟨w.heap.size, j, none⟩) (Lib.alloc_old _ _ _ hne)
  have fA : ∀ (o : Obj) (j : Nat), (w2.alloc o).frozen? ⟨w.heap.size, j, none⟩ = w2.frozen? ⟨w.heap.size, j, none⟩ := fun o j => World.frozen?_of_block (a := ⟨w.heap.size, j, none⟩) (Lib.alloc_old _ _ _ hne)
  have H := Lib.hid (And.intro hB2 (And.intro hne hK))
  clear hb1 hg1 hb2 hr2 hz1 hne hown hmk0 hcv0 hB2 hK
  unfold lfCs Lf.zero at hw1
  simp only [List.length_nil] at hw1
  go_enter Try.func20, Try.ntmps20
  go_upto_region 1 with fail
  rw [← hw1]
  clear hw1
  go_wp2_with fail
  refine bodyPost_ret (v := .agg #[.int .i64 3, .int .i64 1, .string K, .slice (some ⟨w2.heap.size, 0, none⟩) 1 1, .string K]) (by simp [results, Try.results20, go_sem, cA, z0, z1, z2, z3, z4]) rfl ?_
  refine ⟨w2.heap.size, by rw [H.out.2.2]; rfl, ?_, below_put5 (H.out.1.alloc H.out.1.size _) (Nat.le_refl _) _ _ _ _ _⟩
  intro j p hp
  have hj : j = 0 := by
    have := (List.getElem?_eq_some_iff.1 hp).1
    simpa [smp] using this
  subst hj
  have hp' : p = ⟨z32, 2⟩ := by simpa [smp] using hp.symm
  subst hp'
  have hg := heap_alloc_new w2 (.cells #[.string K, .int .i64 2] 50)
  have hk : ∀ (W : World) (a b c d e : Value), W.heap[w2.heap.size]? = some (.cells #[.string K, .int .i64 2] 50 (0, 0)) →
      (((((W.setCell ⟨w.heap.size, 0, none⟩ a).setCell ⟨w.heap.size, 1, none⟩ b).setCell ⟨w.heap.size, 2, none⟩ c).setCell ⟨w.heap.size, 3, none⟩ d).setCell ⟨w.heap.size, 4, none⟩ e).heap[w2.heap.size]? = some (.cells #[.string K, .int .i64 2] 50 (0, 0)) := fun W a b c d e h => by
    rw [heap_setCell_other _ _ _ _ n2, heap_setCell_other _ _ _ _ n2, heap_setCell_other _ _ _ _ n2, heap_setCell_other _ _ _ _ n2, heap_setCell_other _ _ _ _ n2]
    exact h
  have hh := hk _ (.int .i64 3) (.int .i64 1) (.string K) (.slice (some ⟨w2.heap.size, 0, none⟩) 1 1) (.string K) hg
  refine ⟨w2.heap.size, 0, rfl, lt_of_heap hh, ?_, ?_⟩
  · rw [cell_of_row _ _ _ _ _ _ hh, H.out.2.2]; rfl
  · rw [cell_of_row _ _ _ _ _ _ hh]; rfl
set_option maxRecDepth 100000 in
set_option maxHeartbeats 2000000 in
theorem awake17_any (w : World) : Calls Try.prog 8 #[] w fun e w' => e = .returned (.bool true) ∧ Below w.heap.size w w' := by
  go_enter Try.func8, Try.ntmps8
  go_wp2_with fail
  refine (sample_any w).mono ?_
  rintro e w1 ⟨g, rfl, hP, hb⟩
  have H1 := Lib.hid (And.intro hP hb)
  clear hP hb
  have ht := text17_any smp (some ⟨g, 0, none⟩) 1 (by decide) w1 H1.out.1
  unfold lfCs smp at ht
  simp only [List.length_cons, List.length_nil] at ht
  obtain ⟨T, hT⟩ : ∃ T, T = lfS smp := ⟨_, rfl⟩
  rw [show lfS ⟨3, 1, z32, [⟨z32, 2⟩], z32⟩ = T from hT.symm] at ht
  have hrd := fun W => read17_any T (by rw [hT]; exact Nat.le_trans (lfS_size smp) (by decide)) W
  rw [hT, rdL_ok smp_ok, ← hT] at hrd
  have HT := Lib.hid (And.intro ht (And.intro hrd hT))
  clear ht hrd hT
  unfold lfCs smp
  simp only [List.length_cons, List.length_nil]
  go_wp2_with fail
  refine HT.out.1.mono ?_
  rintro e w2 ⟨rfl, hb⟩
  have H2 := Lib.hid (H1.out.2.trans (hb.mono H1.out.2.size))
  clear hb
  go_wp2_with fail
  refine (HT.out.2.1 _).mono ?_
  rintro e w3 ⟨a, cap, rfl, hP, hb⟩
  obtain ⟨Z, hZ⟩ : ∃ Z, Z = z32 := ⟨_, rfl⟩
  obtain ⟨w4, hw4⟩ : ∃ w4, w4 = w3.alloc (.cells (lfCs smp a cap) 24) := ⟨_, rfl⟩
  have hb4 : Below w3.heap.size w3 w4 := by rw [hw4]; exact (Below.refl _ _).alloc (Nat.le_refl _) _
  have hg4 : w4.heap[w3.heap.size]? = some (.cells (lfCs smp a cap) 24 (0, 0)) := by rw [hw4]; exact heap_alloc_new _ _
  obtain ⟨w5, hmk0, hown, hb5⟩ := make_bytes w4.drew 32 (by decide)
  have hmk : (Instr.makeSlice 52 (.int .i64 32) (.int .i64 32)).run Try.prog w4.drew = .ok (.slice (some ⟨w4.heap.size, 0, none⟩) 32 32) w5 := hmk0
  have hcv0 := hown.conv
  rw [List.length_replicate] at hcv0
  have hcv : (convert 52 9 (.slice (some ⟨w4.heap.size, 0, none⟩) 32 32)).run Try.prog w5 = .ok (.string Z) w5 := by rw [hZ]; exact hcv0
  have hb45 : Below w4.heap.size w4 w5 := (Below.refl _ _).drew.trans hb5
  have hP5 := (hP.below hb4).below hb45
  have hfd := find_any smp Z a cap (by decide) w5 hP5
  have hfp : findP smp.tags Z = (2, true) := by rw [hZ]; simp [findP, smp]
  rw [hfp] at hfd
  unfold lfCs smp at hfd hw4
  simp only [List.length_cons, List.length_nil] at hfd hw4
  have B3 := H2.out.trans (hb.mono H2.out.size)
  have B4 := B3.trans (hb4.mono B3.size)
  have B5 := B4.trans (hb45.mono B4.size)
  have hr5 := (hb45.block _ (lt_of_heap hg4)).trans hg4
  have hck := fun W => check17_any Lf.zero none 0 (by decide) W (PoAt.nil _ _)
  rw [show lfB Lf.zero = false by decide +kernel] at hck
  unfold lfCs Lf.zero at hck
  simp only [List.length_nil] at hck
  simp only [lfCs, smp, List.length_cons, List.length_nil] at hr5 hg4
  have H5 := Lib.hid (And.intro hfd (And.intro B5 (And.intro hr5 (And.intro hck hg4))))
  simp only [lfCs, smp, List.length_cons, List.length_nil]
  clear hP hb hb4 hg4 hb5 hb45 hP5 hfd hfp hcv0 hown hmk0 B3 B4 B5 hr5 hck hZ
  go_upto_region 2 with fail
  rw [← hw4]
  clear hw4
  go_wp2_with fail
  refine wp_region_held (S := fun W : World => W.heap[w3.heap.size]? = some (.cells #[.int .i64 3, .int .i64 1, .string z32, .slice a 1 cap, .string z32] 24 (0, 0))) (by kernel_rfl) ?_
  change wpAnyH _ _ _ _ _ _ _ _ (World.drew _)
  have E0 : w4.drew.heap[w3.heap.size]? = some (.cells #[.int .i64 3, .int .i64 1, .string z32, .slice a 1 cap, .string z32] 24 (0, 0)) := H5.out.2.2.2.2
  refine wpAnyH_take (i := 0) (v := ?_) rfl (by kernel_rfl) (by kernel_rfl) (by kernel_rfl) (fun _ _ _ h => h) (Or.inl ⟨by kernel_rfl, ?_⟩) E0 ?_
  rotate_left
  · (intro W hS; have k0 : W.cell? ⟨w3.heap.size, 0, none⟩ = some (.int .i64 3) := cell_of_row _ _ _ _ _ _ hS; have k1 : W.cell? ⟨w3.heap.size, 1, none⟩ = some (.int .i64 1) := cell_of_row _ _ _ _ _ _ hS; have k2 : W.cell? ⟨w3.heap.size, 2, none⟩ = some (.string z32) := cell_of_row _ _ _ _ _ _ hS; have k3 : W.cell? ⟨w3.heap.size, 3, none⟩ = some (.slice a 1 cap) := cell_of_row _ _ _ _ _ _ hS; have k4 : W.cell? ⟨w3.heap.size, 4, none⟩ = some (.string z32) := cell_of_row _ _ _ _ _ _ hS; clear hS; go_simp; try (with_reducible rfl))
  refine wpAnyH_ready (rs := [1]) (by kernel_rfl) (by simp) ?_
  refine AllReadyH.cons rfl (fun K hK => ?_) AllReadyH.nil
  go_simp
  have E1 : w5.heap[w3.heap.size]? = some (.cells #[.int .i64 3, .int .i64 1, .string z32, .slice a 1 cap, .string z32] 24 (0, 0)) := H5.out.2.2.1
  refine hK.out _ _ E1 (fun _ => ?_)
  clear hK K
  refine wpAnyH_ready (rs := [2]) (by kernel_rfl) (by simp) ?_
  refine AllReadyH.cons rfl (fun K hK => ?_) AllReadyH.nil
  go_simp
  refine hK.out _ _ E1 (fun _ => ?_)
  clear hK K
  refine wpAnyH_ready (rs := [3]) (by kernel_rfl) (by simp) ?_
  refine AllReadyH.cons rfl (fun K hK => ?_) AllReadyH.nil
  go_simp
  refine H5.out.1.mono ?_
  rintro e w6 ⟨rfl, hb6⟩
  have E2 := (hb6.block _ (lt_of_heap E1)).trans E1
  have B6 := Lib.hid (H5.out.2.1.trans (hb6.mono H5.out.2.1.size))
  refine hK.out _ _ E2 (fun _ => ?_)
  clear hK K hb6
  refine wpAnyH_take (i := 4) (v := ?_) rfl (by kernel_rfl) (by kernel_rfl) (by kernel_rfl) (fun _ _ _ h => h) (Or.inl ⟨by kernel_rfl, ?_⟩) E2 ?_
  rotate_left
  · (intro W hS; clear hS; go_simp; try (with_reducible rfl))
  refine wpAnyH_take (i := 5) (v := ?_) rfl (by kernel_rfl) (by kernel_rfl) (by kernel_rfl) (fun _ _ _ h => h) (Or.inl ⟨by kernel_rfl, ?_⟩) E2 ?_
  rotate_left
  · (intro W hS; clear hS; go_simp; try (with_reducible rfl))
  refine wpAnyH_take (i := 6) (v := ?_) rfl (by kernel_rfl) (by kernel_rfl) (by kernel_rfl) (fun _ _ _ h => h) (Or.inl ⟨by kernel_rfl, ?_⟩) E2 ?_
  rotate_left
  · (intro W hS; clear hS; go_simp; try (with_reducible rfl))
  refine wpAnyH_take (i := 7) (v := ?_) rfl (by kernel_rfl) (by kernel_rfl) (by kernel_rfl) (fun _ _ _ h => h) (Or.inl ⟨by kernel_rfl, ?_⟩) E2 ?_
  rotate_left
  · (intro W hS; clear hS; go_simp; try (with_reducible rfl))
  refine wpAnyH_take (i := 8) (v := ?_) rfl (by kernel_rfl) (by kernel_rfl) (by kernel_rfl) (fun _ _ _ h => h) (Or.inl ⟨by kernel_rfl, ?_⟩) E2 ?_
  rotate_left
  · (intro W hS; clear hS; go_simp; try (with_reducible rfl))
  refine wpAnyH_done (by kernel_rfl) ?_ _
  go_simp
  have e0 : w6.cell? ⟨w3.heap.size, 0, none⟩ = some (.int .i64 3) := cell_of_row _ _ _ _ _ _ E2
  clear E0 E1 E2
  go_wp2_with fail
  refine (H5.out.2.2.2.1 _).mono ?_
  rintro e w7 ⟨rfl, hb7⟩
  have B7 := Lib.hid (B6.out.trans (hb7.mono B6.out.size))
  clear hb7
  go_wp2_with fail
  go_ret
  exact ⟨rfl, B7.out⟩
end Go.Proofs.Ytgoimggfpagojaa
