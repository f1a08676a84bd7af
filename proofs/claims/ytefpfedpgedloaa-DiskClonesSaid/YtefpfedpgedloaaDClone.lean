/- disk.Clone: a disk in memory of its own. -/
import Derived.Test.YtefpfedpgedloaaDAwake
import Derived.Test.YtefpfedpgedloaaDCopy
import Derived.Deep.DeepCutAuto
import Derived.Deep.RegionHeld
namespace Go.Proofs.Ytefpfedpgedloaa
open Go.RowKit
open Dk

theorem Touch.none_below {σ σ' : Nat → Nat} {w w' : World} (t : Touch (fun _ => False) σ σ' w w') : Below w.heap.size w w' := ⟨t.os, t.tape, t.output, t.size, fun k hk => t.same k hk (fun e => e)⟩
/-- The three lists of the clone are laid into its head. -/
theorem clone_end {w W : World} {σ : Nat → Nat} {g : Nat} {D : Disk} {ts tn ts' tn' : Nat} {wv wv' : Value} (ok : D.Ok) (h0 : w.heap.size ≤ g) (hr : σ g = 1) (hl : Lab σ W) (hb : Below w.heap.size w W)
    (hg : W.heap[g]? = some (.cells (headCells D ts tn wv) 62 (0, 0))) (hS : Tab W σ 2 fS ts' D.sure) (hN : Tab W σ 3 fN tn' D.now) (hW : Waits W σ 4 wv' D.waits) :
    DiskAt (((W.setCell ⟨g, 1, none⟩ (.slice (some ⟨ts', 0, none⟩) D.sure.length D.sure.length)).setCell ⟨g, 2, none⟩ (.slice (some ⟨tn', 0, none⟩) D.sure.length D.sure.length)).setCell ⟨g, 3, none⟩ wv') σ g D ∧
      Below w.heap.size w (((W.setCell ⟨g, 1, none⟩ (.slice (some ⟨ts', 0, none⟩) D.sure.length D.sure.length)).setCell ⟨g, 2, none⟩ (.slice (some ⟨tn', 0, none⟩) D.sure.length D.sure.length)).setCell ⟨g, 3, none⟩ wv') := by
  have ho : ∀ (V : World) j v k, k ≠ g → (V.setCell ⟨g, j, none⟩ v).heap[k]? = V.heap[k]? := fun V j v k hk => heap_setCell_other V _ k v hk
  have t1 : ∀ (V : World) j v, Touch (· = 1) σ σ V (V.setCell ⟨g, j, none⟩ v) := fun V j v => ⟨rfl, rfl, rfl, by simp, fun _ _ => rfl, fun k _ hk => ho V j v k (fun e => hk (by rw [e]; exact hr)), fun _ _ => rfl⟩
  have b1 : ∀ (V : World) j v, Below w.heap.size V (V.setCell ⟨g, j, none⟩ v) := fun V j v => ⟨rfl, rfl, rfl, by simp, fun k hk => ho V j v k (by omega)⟩
  have t := ((t1 W 1 (.slice (some ⟨ts', 0, none⟩) D.sure.length D.sure.length)).trans (t1 _ 2 (.slice (some ⟨tn', 0, none⟩) D.sure.length D.sure.length))).trans (t1 _ 3 wv')
  refine ⟨⟨⟨hr, fun k hk => hl k (by simpa using hk), Disk.now_length D, ts', tn', wv', ?_, hS.kept (t.kept (by decide)) (fun i _ => t.kept (by unfold fS; omega)), hN.kept (t.kept (by decide)) (fun i _ => t.kept (by unfold fN; omega)), hW.kept (t.kept (by decide))⟩, ok⟩, ((hb.trans (b1 _ _ _)).trans (b1 _ _ _)).trans (b1 _ _ _)⟩
  have e1 := heap_setCell_same _ _ 1 _ _ (.slice (some ⟨ts', 0, none⟩) D.sure.length D.sure.length) hg
  have e2 := heap_setCell_same _ _ 2 _ _ (.slice (some ⟨tn', 0, none⟩) D.sure.length D.sure.length) e1
  have e3 := heap_setCell_same _ _ 3 _ _ wv' e2
  rw [e3]
  rfl
set_option maxRecDepth 100000 in
set_option maxHeartbeats 2000000 in
theorem dclone_any {w : World} {ρ : Nat → Nat} {b : Nat} {D : Disk} (h : DiskAt w ρ b D) (hs : D.waits.length ≤ 1000000000) :
    Calls Try.prog 28 #[.pointer (some ⟨b, 0, none⟩)] w fun e w' => ∃ b' σ, e = .returned (.pointer (some ⟨b', 0, none⟩)) ∧ DiskAt w' σ b' D ∧ From w.heap.size σ ∧ Below w.heap.size w w' := by
  obtain ⟨ts, tn, wv, hb, hS, hN, hW⟩ := h.body
  obtain ⟨wa, wcap, rfl, hwo, hwr⟩ := hW
  obtain ⟨q0, q1, q2, q3, q4, q5, q6, q7, q8, q9, q10⟩ := head_cells hb
  have hbl : b < w.heap.size := (Array.getElem?_eq_some_iff.1 hb).1
  obtain ⟨w1, hw1⟩ : ∃ w1, w1 = w.alloc (.cells (headCells D ts tn (.slice wa D.waits.length wcap)) 62) := ⟨_, rfl⟩
  have hb1 : Below w.heap.size w w1 := by rw [hw1]; exact (Below.refl _ _).alloc (Nat.le_refl _) _
  have hg1 : w1.heap[w.heap.size]? = some (.cells (headCells D ts tn (.slice wa D.waits.length wcap)) 62 (0, 0)) := by rw [hw1]; exact heap_alloc_new _ _
  have hz1 : w1.heap.size = w.heap.size + 1 := by rw [hw1]; simp
  have hcell : ∀ W, Below w.heap.size w W → W.cell? ⟨b, 1, none⟩ = some (.slice (some ⟨ts, 0, none⟩) D.sure.length D.sure.length) ∧ W.cell? ⟨b, 2, none⟩ = some (.slice (some ⟨tn, 0, none⟩) D.sure.length D.sure.length) ∧ W.cell? ⟨b, 3, none⟩ = some (.slice wa D.waits.length wcap) :=
    fun W hW => ⟨(hW.cell (p := ⟨b, 1, none⟩) hbl).trans q1, (hW.cell (p := ⟨b, 2, none⟩) hbl).trans q2, (hW.cell (p := ⟨b, 3, none⟩) hbl).trans q3⟩
  obtain ⟨σ0, hσ⟩ : ∃ σ0, σ0 = lay (fun _ => 0) w.heap.size 1 := ⟨_, rfl⟩
  have hσ1 : σ0 w.heap.size = 1 := by rw [hσ]; exact lay_same _ _ _
  have hσf : From w.heap.size σ0 := fun k hk => by rw [hσ]; exact lay_other (by omega)
  have hσl : Lab σ0 w1 := fun k hk => by rw [hσ]; exact lay_other (by omega)
  have hd := h.raw
  have H := Lib.hid (And.intro h.ok (And.intro hS (And.intro hN (And.intro hwo (And.intro hb1 (And.intro hg1 (And.intro hσ1 (And.intro hσf (And.intro hσl hz1)))))))))
  have hok := h.ok
  clear hS hN hwo hwr hb hb1 hg1 hσ hσ1 hσf hσl hd h hz1
  go_enter Try.func28, Try.ntmps28
  go_upto_region 4 with fail
  have hw1' := hw1
  unfold headCells at hw1'
  rw [← hw1']
  clear hw1 hw1' q0 q1 q2 q3 q4 q5 q6 q7 q8 q9 q10
  have C : Below w.heap.size w w1.drew := H.out.2.2.2.2.1.drew
  have hwd : Below w1.heap.size w1 w1.drew := (Below.refl _ _).drew
  refine wp_region_held (S := fun W => Below w.heap.size w W) (by kernel_rfl) ?_
  change wpAnyH _ _ _ _ _ _ _ _ (World.drew _)
  generalize World.drew _ = wh at *
  refine wpAnyH_take (i := 0) (v := ?_) rfl (by kernel_rfl) (by kernel_rfl) (by kernel_rfl) (fun _ _ _ h => h) (Or.inl ⟨by kernel_rfl, ?_⟩) C ?_
  rotate_left
  · (intro W hS; clear hS; go_simp; try (with_reducible rfl))
  refine wpAnyH_take (i := 1) (v := ?_) rfl (by kernel_rfl) (by kernel_rfl) (by kernel_rfl) (fun _ _ _ h => h) (Or.inl ⟨by kernel_rfl, ?_⟩) C ?_
  rotate_left
  · (intro W hS; clear hS; go_simp; try (with_reducible rfl))
  refine wpAnyH_take (i := 2) (v := ?_) rfl (by kernel_rfl) (by kernel_rfl) (by kernel_rfl) (fun _ _ _ h => h) (Or.inl ⟨by kernel_rfl, ?_⟩) C ?_
  rotate_left
  · (intro W hS; clear hS; go_simp; try (with_reducible rfl))
  refine wpAnyH_take (i := 3) (v := ?_) rfl (by kernel_rfl) (by kernel_rfl) (by kernel_rfl) (fun _ _ _ h => h) (Or.inl ⟨by kernel_rfl, ?_⟩) C ?_
  rotate_left
  · (intro W hS; obtain ⟨g1, g2, g3⟩ := hcell W hS; clear hS; go_simp; try (with_reducible rfl))
  refine wpAnyH_take (i := 5) (v := ?_) rfl (by kernel_rfl) (by kernel_rfl) (by kernel_rfl) (fun _ _ _ h => h) (Or.inl ⟨by kernel_rfl, ?_⟩) C ?_
  rotate_left
  · (intro W hS; clear hS; go_simp; try (with_reducible rfl))
  refine wpAnyH_take (i := 6) (v := ?_) rfl (by kernel_rfl) (by kernel_rfl) (by kernel_rfl) (fun _ _ _ h => h) (Or.inl ⟨by kernel_rfl, ?_⟩) C ?_
  rotate_left
  · (intro W hS; clear hS; go_simp; try (with_reducible rfl))
  refine wpAnyH_take (i := 7) (v := ?_) rfl (by kernel_rfl) (by kernel_rfl) (by kernel_rfl) (fun _ _ _ h => h) (Or.inl ⟨by kernel_rfl, ?_⟩) C ?_
  rotate_left
  · (intro W hS; clear hS; go_simp; try (with_reducible rfl))
  refine wpAnyH_take (i := 8) (v := ?_) rfl (by kernel_rfl) (by kernel_rfl) (by kernel_rfl) (fun _ _ _ h => h) (Or.inl ⟨by kernel_rfl, ?_⟩) C ?_
  rotate_left
  · (intro W hS; obtain ⟨g1, g2, g3⟩ := hcell W hS; clear hS; go_simp; try (with_reducible rfl))
  refine wpAnyH_take (i := 10) (v := ?_) rfl (by kernel_rfl) (by kernel_rfl) (by kernel_rfl) (fun _ _ _ h => h) (Or.inl ⟨by kernel_rfl, ?_⟩) C ?_
  rotate_left
  · (intro W hS; clear hS; go_simp; try (with_reducible rfl))
  refine wpAnyH_take (i := 11) (v := ?_) rfl (by kernel_rfl) (by kernel_rfl) (by kernel_rfl) (fun _ _ _ h => h) (Or.inl ⟨by kernel_rfl, ?_⟩) C ?_
  rotate_left
  · (intro W hS; clear hS; go_simp; try (with_reducible rfl))
  refine wpAnyH_take (i := 12) (v := ?_) rfl (by kernel_rfl) (by kernel_rfl) (by kernel_rfl) (fun _ _ _ h => h) (Or.inl ⟨by kernel_rfl, ?_⟩) C ?_
  rotate_left
  · (intro W hS; clear hS; go_simp; try (with_reducible rfl))
  refine wpAnyH_take (i := 13) (v := ?_) rfl (by kernel_rfl) (by kernel_rfl) (by kernel_rfl) (fun _ _ _ h => h) (Or.inl ⟨by kernel_rfl, ?_⟩) C ?_
  rotate_left
  · (intro W hS; obtain ⟨g1, g2, g3⟩ := hcell W hS; clear hS; go_simp; try (with_reducible rfl))
  refine wpAnyH_ready (rs := [4]) (by kernel_rfl) (by simp) ?_
  refine AllReadyH.cons rfl (fun K hK => ?_) AllReadyH.nil
  go_simp
  refine (copied_any (H.out.2.1.kept (fun g hg e => ⟨e, C.block g hg⟩) (fun _ _ g hg e => ⟨e, C.block g hg⟩)) H.out.1.fits.sz H.out.1.num σ0 2 fS (fun i _ => by unfold fS; omega)).mono ?_
  rintro e w4 ⟨t1, σ1, rfl, hT1, hc1⟩
  have C1 : Below w.heap.size w w4 := C.trans (hc1.none_below.mono C.size)
  refine hK.out _ _ C1 (fun _ => ?_)
  clear hK K
  refine wpAnyH_ready (rs := [9]) (by kernel_rfl) (by simp) ?_
  refine AllReadyH.cons rfl (fun K hK => ?_) AllReadyH.nil
  go_simp
  have hnl := Disk.now_length D
  have hcp := copied_any (H.out.2.2.1.kept (fun g hg e => ⟨e, C1.block g hg⟩) (fun _ _ g hg e => ⟨e, C1.block g hg⟩)) hok.fits.all (by have := hok.num; show D.now.length ≤ 64; omega) σ1 3 fN (fun i _ => by unfold fN; omega)
  rw [hnl] at hcp
  refine hcp.mono ?_
  rintro e w5 ⟨t2, σ2, rfl, hT2, hc2⟩
  have C2 : Below w.heap.size w w5 := C1.trans (hc2.none_below.mono C1.size)
  refine hK.out _ _ C2 (fun _ => ?_)
  clear hK K hcp
  refine wpAnyH_ready (rs := [14]) (by kernel_rfl) (by simp) ?_
  refine AllReadyH.cons rfl (fun K hK => ?_) AllReadyH.nil
  go_simp
  refine (sclone_any D.waits wa wcap (ownsRow_same H.out.2.2.2.1 (fun g hg => C2.block g (H.out.2.2.2.1.lt g hg).2)) hs).mono ?_
  rintro e w6 ⟨wa', wc', rfl, ho3, hf3, hb3⟩
  have C3 : Below w.heap.size w w6 := C2.trans (hb3.mono C2.size)
  refine hK.out _ _ C3 (fun _ => ?_)
  clear hK K
  obtain ⟨wv', hwv⟩ : ∃ wv', wv' = Value.slice wa' D.waits.length wc' := ⟨_, rfl⟩
  rw [← hwv] at hf3 ⊢
  obtain ⟨σ3, hσ3⟩ : ∃ σ3 : Nat → Nat, σ3 = fun k => if wv'.ownBlock = some k then 4 else σ2 k := ⟨_, rfl⟩
  have hc3 : Touch (fun _ => False) σ2 σ3 w5 w6 := ⟨hb3.os, hb3.tape, hb3.output, hb3.size, fun k hk => by
      rw [hσ3]; exact if_neg (fun e => by have := (hf3 k e).1; omega), fun k hk _ => hb3.block k hk, fun k hk => by
      rw [hσ3]; exact if_neg (fun e => by have := (hf3 k e).2; omega)⟩
  have hW6 : Waits w6 σ3 4 wv' D.waits := ⟨wa', wc', hwv, ho3, fun g hg => by rw [hσ3]; rw [← hwv] at hg; exact if_pos hg⟩
  have hcc := (hc1.trans hc2).trans hc3
  have hT16 : Tab w6 σ3 2 fS t1 D.sure := hT1.kept ((hc2.trans hc3).kept (fun e => e)) (fun _ _ => (hc2.trans hc3).kept (fun e => e))
  have hT26 : Tab w6 σ3 3 fN t2 D.now := hT2.kept (hc3.kept (fun e => e)) (fun _ _ => hc3.kept (fun e => e))
  have hzh := hwd.size
  have hz1 := H.out.2.2.2.2.2.2.2.2.2
  have hr6 : σ3 w.heap.size = 1 := (hcc.old _ (by omega)).trans H.out.2.2.2.2.2.2.1
  have hl6 : Lab σ3 w6 := (Lab.below H.out.2.2.2.2.2.2.2.2.1 hzh).touch hcc
  have hf6 : From w.heap.size σ3 := H.out.2.2.2.2.2.2.2.1.touch hcc C.size
  have hg6 : w6.heap[w.heap.size]? = _ := (hcc.same _ (by omega) (fun e => e)).trans ((hwd.block _ (by omega)).trans H.out.2.2.2.2.2.1)
  have hend := clone_end hok (Nat.le_refl _) hr6 hl6 C3 hg6 hT16 hT26 hW6
  obtain ⟨p0, p1, p2, p3, -⟩ := head_cells hg6
  have f6 := head_free hg6
  have HE := Lib.hid (And.intro hend hf6)
  clear hend hf6 hr6 hl6 hg6 hT16 hT26 hW6 hcc hc1 hc2 hc3 hT1 hT2 hb3 ho3 hf3 hσ3 hwd
  subst hwv
  refine wpAnyH_take (i := 15) (v := ?_) rfl (by kernel_rfl) (by kernel_rfl) (by kernel_rfl) (fun _ _ _ h => h) (Or.inl ⟨by kernel_rfl, ?_⟩) C3 ?_
  rotate_left
  · (intro W hS; clear hS; go_simp; try (with_reducible rfl))
  refine wpAnyH_ready (rs := [16]) (by kernel_rfl) (by simp) ?_
  refine AllReadyH.cons rfl (fun K hK => ?_) AllReadyH.nil
  go_simp
  have C4 : Below w.heap.size w (w6.setCell ⟨w.heap.size, 1, none⟩ (.slice (some ⟨t1, 0, none⟩) D.sure.length D.sure.length)) := C3.setCell (Nat.le_refl _) _
  refine hK.out _ _ C4 (fun _ => ?_)
  clear hK K
  refine wpAnyH_take (i := 17) (v := ?_) rfl (by kernel_rfl) (by kernel_rfl) (by kernel_rfl) (fun _ _ _ h => h) (Or.inl ⟨by kernel_rfl, ?_⟩) C4 ?_
  rotate_left
  · (intro W hS; clear hS; go_simp; try (with_reducible rfl))
  refine wpAnyH_ready (rs := [18]) (by kernel_rfl) (by simp) ?_
  refine AllReadyH.cons rfl (fun K hK => ?_) AllReadyH.nil
  go_simp
  have C5 : Below w.heap.size w ((w6.setCell ⟨w.heap.size, 1, none⟩ (.slice (some ⟨t1, 0, none⟩) D.sure.length D.sure.length)).setCell ⟨w.heap.size, 2, none⟩ (.slice (some ⟨t2, 0, none⟩) D.sure.length D.sure.length)) := C4.setCell (Nat.le_refl _) _
  refine hK.out _ _ C5 (fun _ => ?_)
  clear hK K
  refine wpAnyH_take (i := 19) (v := ?_) rfl (by kernel_rfl) (by kernel_rfl) (by kernel_rfl) (fun _ _ _ h => h) (Or.inl ⟨by kernel_rfl, ?_⟩) C5 ?_
  rotate_left
  · (intro W hS; clear hS; go_simp; try (with_reducible rfl))
  refine wpAnyH_ready (rs := [20]) (by kernel_rfl) (by simp) ?_
  refine AllReadyH.cons rfl (fun K hK => ?_) AllReadyH.nil
  go_simp
  refine hK.out _ _ HE.out.1.2 (fun _ => ?_)
  clear hK K
  refine wpAnyH_done (by kernel_rfl) ?_ _
  go_simp
  go_wp2_with fail
  go_ret
  exact ⟨_, σ3, rfl, HE.out.1.1, HE.out.2, HE.out.1.2⟩
end Go.Proofs.Ytefpfedpgedloaa
