/- The reference's Text; head.Sign, Check and the reference's. -/
import Derived.Test.YtdjhlgodecnidaaDoorJSign
import Derived.Test.YtdjhlgodecnidaaDoorMOne
import Derived.Test.YtdjhlgodecnidaaDoorMRef
import Derived.Test.YtdjhlgodecnidaaDoorClone
import Derived.Deep.RegionWith
namespace Go.Proofs.YtdjhlgodecnidaaDoor
open Go.RowKit
open Cn

theorem zero_cells4 {W : World} {g : Nat} {t : TypeId} (h : W.heap[g]? = some (.cells Hd.zero.cs t (0, 0))) :
    W.cell? ⟨g, 0, none⟩ = some (.int .i64 0) ∧ W.cell? ⟨g, 1, none⟩ = some (.string ⟨#[]⟩) ∧ W.cell? ⟨g, 2, none⟩ = some (.int .i64 0) ∧ W.cell? ⟨g, 3, none⟩ = some (.string ⟨#[]⟩) ∧ ∀ j, W.frozen? ⟨g, j, none⟩ = false := by
  refine ⟨?_, ?_, ?_, ?_, fun j => frozen_of_row _ _ _ _ _ h⟩ <;> (rw [cell_of_row _ _ _ _ _ _ h]; rfl)
theorem put1 {B : Nat} {w0 w : World} {g : Nat} (hb : Below B w0 w) (hg : B ≤ g) (o : Nat) (v : Value) : Below B w0 (w.setCell ⟨g, o, none⟩ v) := hb.setCell hg v
theorem below_put4 {B : Nat} {w0 w : World} {g : Nat} (hb : Below B w0 w) (hg : B ≤ g) (a b c d : Value) : Below B w0 ((((w.setCell ⟨g, 0, none⟩ a).setCell ⟨g, 1, none⟩ b).setCell ⟨g, 2, none⟩ c).setCell ⟨g, 3, none⟩ d) :=
  put1 (put1 (put1 (put1 hb hg 0 a) hg 1 b) hg 2 c) hg 3 d
theorem hd_put {W : World} {g : Nat} {h : Hd} {t : TypeId} (e : W.heap[g]? = some (.cells h.cs t (0, 0))) (r c : ByteArray) :
    ((W.setCell ⟨g, 1, none⟩ (.string r)).setCell ⟨g, 3, none⟩ (.string c)).heap[g]? = some (.cells (Hd.cs ⟨h.n, r, h.t, c⟩) t (0, 0)) :=
  heap_setCell_same _ _ _ _ _ _ (heap_setCell_same _ _ _ _ _ _ e)
theorem hd_put3 {W : World} {g : Nat} {h : Hd} {t : TypeId} (e : W.heap[g]? = some (.cells h.cs t (0, 0))) (c : ByteArray) :
    (W.setCell ⟨g, 3, none⟩ (.string c)).heap[g]? = some (.cells (Hd.cs ⟨h.n, h.r, h.t, c⟩) t (0, 0)) :=
  heap_setCell_same _ _ _ _ _ _ e
theorem other_put (W : World) (g k o : Nat) (v : Value) (hk : k ≠ g) : (W.setCell ⟨g, o, none⟩ v).heap[k]? = W.heap[k]? := heap_setCell_other W _ k v hk
set_option maxRecDepth 100000 in
set_option maxHeartbeats 1000000 in
theorem rhtext_any (h : Hd) (w : World) : Calls Tryd.prog 53 #[.agg h.cs] w fun e w' => e = .returned (.string (hdS h)) ∧ Below w.heap.size w w' := by
  obtain ⟨w1, hw1⟩ : ∃ w1, w1 = w.alloc (.cells h.cs 61) := ⟨_, rfl⟩
  have hb1 : Below w.heap.size w w1 := by rw [hw1]; exact (Below.refl _ _).alloc (Nat.le_refl _) _
  have hg1 : w1.heap[w.heap.size]? = some (.cells h.cs 61 (0, 0)) := by rw [hw1]; exact heap_alloc_new _ _
  have hck := rbody_any h w1
  obtain ⟨A, hA⟩ : ∃ A, A = bodyB h := ⟨_, rfl⟩
  rw [← hA] at hck
  obtain ⟨c0, c1, c2, c3⟩ := hd_cell hg1
  have H := Lib.hid (And.intro hck (And.intro hb1 (And.intro hg1 hA)))
  clear hck hb1 hg1 hA
  unfold Hd.cs at hw1 ⊢
  go_enter Tryd.func53, Tryd.ntmps53
  go_upto_region 1 with fail
  rw [← hw1]
  clear hw1
  cases A with
  | false =>
    go_wp2_with fail
    refine H.out.1.mono ?_
    rintro e w2 ⟨rfl, hb⟩
    have HB := Lib.hid (H.out.2.1.trans (hb.mono H.out.2.1.size))
    clear hb
    go_wp2_with fail
    go_ret
    exact ⟨by unfold hdS mayB; rw [← H.out.2.2.2]; rfl, HB.out⟩
  | true =>
    by_cases h6 : h.c.size = 32
    · have e4 : ((h.c.size : Int) != 32) = false := by simp; omega
      have hAt : mayB h = true := mayB_iff.2 ⟨H.out.2.2.2.symm, h6⟩
      clear h6
      go_wp2_with fail
      refine H.out.1.mono ?_
      rintro e w2 ⟨rfl, hb⟩
      have hb2 := H.out.2.1.trans (hb.mono H.out.2.1.size)
      have hg2 := (hb.block _ (lt_of_heap H.out.2.2.1)).trans H.out.2.2.1
      obtain ⟨d0, d1, d2, d3⟩ := hd_cell hg2
      have HH := Lib.hid (And.intro hb2 hg2)
      clear hb hb2 hg2 c0 c1 c2 c3
      go_upto_region 3 with fail
      clear d0 d1 d2 d3
      have C2 : w2.drew.heap[w.heap.size]? = some (.cells h.cs 61 (0, 0)) := HH.out.2
      have B2 : Below w.heap.size w w2.drew := HH.out.1.drew
      go_wp2_with fail
      refine wp_region_held (S := fun W => W.heap[w.heap.size]? = some (.cells h.cs 61 (0, 0))) (by kernel_rfl) ?_
      change wpAnyH _ _ _ _ _ _ _ _ (World.drew _)
      generalize World.drew _ = wh at *
      refine wpAnyH_take (i := 0) (v := ?_) rfl (by kernel_rfl) (by kernel_rfl) (by kernel_rfl) (fun _ _ _ h => h) (Or.inl ⟨by kernel_rfl, ?_⟩) C2 ?_
      rotate_left
      · (intro W hS; obtain ⟨g0, g1, g2, g3⟩ := hd_cell hS; clear hS; go_simp; try (with_reducible rfl))
      refine wpAnyH_take (i := 1) (v := ?_) rfl (by kernel_rfl) (by kernel_rfl) (by kernel_rfl) (fun _ _ _ h => h) (Or.inl ⟨by kernel_rfl, ?_⟩) C2 ?_
      rotate_left
      · (intro W hS; obtain ⟨g0, g1, g2, g3⟩ := hd_cell hS; clear hS; go_simp; try (with_reducible rfl))
      refine wpAnyH_take (i := 3) (v := ?_) rfl (by kernel_rfl) (by kernel_rfl) (by kernel_rfl) (fun _ _ _ h => h) (Or.inl ⟨by kernel_rfl, ?_⟩) C2 ?_
      rotate_left
      · (intro W hS; obtain ⟨g0, g1, g2, g3⟩ := hd_cell hS; clear hS; go_simp; try (with_reducible rfl))
      refine wpAnyH_take (i := 4) (v := ?_) rfl (by kernel_rfl) (by kernel_rfl) (by kernel_rfl) (fun _ _ _ h => h) (Or.inl ⟨by kernel_rfl, ?_⟩) C2 ?_
      rotate_left
      · (intro W hS; obtain ⟨g0, g1, g2, g3⟩ := hd_cell hS; clear hS; go_simp; try (with_reducible rfl))
      refine wpAnyH_take (i := 6) (v := ?_) rfl (by kernel_rfl) (by kernel_rfl) (by kernel_rfl) (fun _ _ _ h => h) (Or.inl ⟨by kernel_rfl, ?_⟩) C2 ?_
      rotate_left
      · (intro W hS; obtain ⟨g0, g1, g2, g3⟩ := hd_cell hS; clear hS; go_simp; try (with_reducible rfl))
      refine wpAnyH_take (i := 7) (v := ?_) rfl (by kernel_rfl) (by kernel_rfl) (by kernel_rfl) (fun _ _ _ h => h) (Or.inl ⟨by kernel_rfl, ?_⟩) C2 ?_
      rotate_left
      · (intro W hS; obtain ⟨g0, g1, g2, g3⟩ := hd_cell hS; clear hS; go_simp; try (with_reducible rfl))
      refine wpAnyH_take (i := 9) (v := ?_) rfl (by kernel_rfl) (by kernel_rfl) (by kernel_rfl) (fun _ _ _ h => h) (Or.inl ⟨by kernel_rfl, ?_⟩) C2 ?_
      rotate_left
      · (intro W hS; obtain ⟨g0, g1, g2, g3⟩ := hd_cell hS; clear hS; go_simp; try (with_reducible rfl))
      refine wpAnyH_take (i := 10) (v := ?_) rfl (by kernel_rfl) (by kernel_rfl) (by kernel_rfl) (fun _ _ _ h => h) (Or.inl ⟨by kernel_rfl, ?_⟩) C2 ?_
      rotate_left
      · (intro W hS; obtain ⟨g0, g1, g2, g3⟩ := hd_cell hS; clear hS; go_simp; try (with_reducible rfl))
      refine wpAnyH_ready (rs := [2]) (by kernel_rfl) (by simp) ?_
      refine AllReadyH.cons rfl (fun K hK => ?_) AllReadyH.nil
      go_simp
      refine (rnumH_any h.n wh).mono ?_
      rintro e w3 ⟨rfl, hb⟩
      have B3 := B2.trans (hb.mono B2.size)
      have C3 := (hb.block _ (lt_of_heap C2)).trans C2
      refine hK.out _ _ C3 (fun _ => ?_)
      clear hK K hb
      refine wpAnyH_ready (rs := [5]) (by kernel_rfl) (by simp) ?_
      refine AllReadyH.cons rfl (fun K hK => ?_) AllReadyH.nil
      go_simp
      refine (rtextH_any h.r w3).mono ?_
      rintro e w4 ⟨rfl, hb⟩
      have B4 := B3.trans (hb.mono B3.size)
      have C4 := (hb.block _ (lt_of_heap C3)).trans C3
      refine hK.out _ _ C4 (fun _ => ?_)
      clear hK K hb
      refine wpAnyH_ready (rs := [8]) (by kernel_rfl) (by simp) ?_
      refine AllReadyH.cons rfl (fun K hK => ?_) AllReadyH.nil
      go_simp
      refine (rnumH_any h.t w4).mono ?_
      rintro e w5 ⟨rfl, hb⟩
      have B5 := B4.trans (hb.mono B4.size)
      have C5 := (hb.block _ (lt_of_heap C4)).trans C4
      refine hK.out _ _ C5 (fun _ => ?_)
      clear hK K hb
      refine wpAnyH_ready (rs := [11]) (by kernel_rfl) (by simp) ?_
      refine AllReadyH.cons rfl (fun K hK => ?_) AllReadyH.nil
      go_simp
      refine (rtextH_any h.c w5).mono ?_
      rintro e w6 ⟨rfl, hb⟩
      have B6 := B5.trans (hb.mono B5.size)
      have C6 := (hb.block _ (lt_of_heap C5)).trans C5
      refine hK.out _ _ C6 (fun _ => ?_)
      clear hK K hb
      obtain ⟨w7, hw7⟩ : ∃ w7, w7 = w6.alloc (.cells (itC (itN h.n) ++ itC (itT h.r) ++ itC (itN h.t) ++ itC (itT h.c)).toArray 107) := ⟨_, rfl⟩
      have hb7 : Below w6.heap.size w6 w7 := by rw [hw7]; exact (Below.refl _ _).alloc (Nat.le_refl _) _
      have hg7 : w7.heap[w6.heap.size]? = some (.cells (itC (itN h.n) ++ itC (itT h.r) ++ itC (itN h.t) ++ itC (itT h.c)).toArray 107 (0, 0)) := by rw [hw7]; exact heap_alloc_new _ _
      have C7 := (hb7.block _ (lt_of_heap C6)).trans C6
      have B7 := B6.trans (hb7.mono B6.size)
      simp only [itC, itN, itT, It.k, It.n, It.s, List.cons_append, List.nil_append] at hw7
      refine wpAnyH_ready (rs := [12]) (by kernel_rfl) (by simp) ?_
      refine AllReadyH.cons rfl (fun K hK => ?_) AllReadyH.nil
      go_simp
      rw [← hw7]
      clear hw7
      refine hK.out _ _ C7 (fun _ => ?_)
      clear hK K hb7
      have hln : Lies w7 (fun _ => True) (some ⟨w6.heap.size, 0, none⟩) (htextIts h) := four_lies hg7 trivial rfl rfl rfl rfl
      refine wpAnyH_take (i := 13) (v := ?_) rfl (by kernel_rfl) (by kernel_rfl) (by kernel_rfl) (fun _ _ _ h => h) (Or.inl ⟨by kernel_rfl, ?_⟩) C7 ?_
      rotate_left
      · (intro W hS; clear hS; go_simp; try (with_reducible rfl))
      have hsr : h.r.size ≤ maxLen := by have := (bodyB_iff.1 (mayB_iff.1 hAt).1).2.1; unfold maxLen; omega
      have hsc : h.c.size ≤ maxLen := by have := (mayB_iff.1 hAt).2; unfold maxLen; omega
      have hia : It.InAll w7 (fun _ => True) (htextIts h) := ⟨flat_in (Nat.zero_le _), flat_in hsr, flat_in (Nat.zero_le _), flat_in hsc, trivial⟩
      have hin : It.In w7 (fun _ => True) (.mk 3 0 ⟨#[]⟩ (some ⟨w6.heap.size, 0, none⟩) 4 (htextIts h)) := ⟨Nat.zero_le _, hln, hia⟩
      have hwr := rwrite_any _ _ (Nat.le_refl _) (fun _ => True) 6 w7 hin (hdT_may hAt) (Nat.le_trans (hdT_len hAt) (by decide))
      have hT : (⟨(Cn.bytes (It.mk 3 0 ⟨#[]⟩ (some ⟨w6.heap.size, 0, none⟩) 4 (htextIts h)).pure).toArray⟩ : ByteArray) = hdS h := by unfold hdS; rw [if_pos hAt]; rfl
      rw [hT] at hwr
      have hwr2 : Calls Tryd.prog 82 #[.agg #[.int .i64 3, .int .i64 0, .string ⟨#[]⟩, .slice (some ⟨w6.heap.size, 0, none⟩) 4 4]] w7 fun e w' => e = .returned (.string (hdS h)) ∧ Below w7.heap.size w7 w' := hwr
      refine wpAnyH_ready (rs := [14]) (by kernel_rfl) (by simp) ?_
      refine AllReadyH.cons rfl (fun K hK => ?_) AllReadyH.nil
      go_simp
      refine (hwr2).mono ?_
      rintro e w8 ⟨rfl, hb⟩
      have B8 := B7.trans (hb.mono B7.size)
      have C8 := (hb.block _ (lt_of_heap C7)).trans C7
      refine hK.out _ _ C8 (fun _ => ?_)
      clear hK K hb
      refine wpAnyH_take (i := 15) (v := ?_) rfl (by kernel_rfl) (by kernel_rfl) (by kernel_rfl) (fun _ _ _ h => h) (Or.inl ⟨by kernel_rfl, ?_⟩) C8 ?_
      rotate_left
      · (intro W hS; clear hS; go_simp; try (with_reducible rfl))
      refine wpAnyH_done (by kernel_rfl) ?_ _
      go_simp
      have HB := Lib.hid B8
      clear C2 B2 C3 B3 C4 B4 C5 B5 C6 B6 C7 B7 C8 B8 hwr hwr2 hia hln
      go_wp2_with fail
      go_ret
      exact ⟨rfl, HB.out⟩
    · have e4 : ((h.c.size : Int) != 32) = true := by simp; omega
      have hAt : mayB h = false := may_false (fun e => h6 e.2)
      clear h6
      go_wp2_with fail
      refine H.out.1.mono ?_
      rintro e w2 ⟨rfl, hb⟩
      obtain ⟨d0, d1, d2, d3⟩ := hd_cell ((hb.block _ (lt_of_heap H.out.2.2.1)).trans H.out.2.2.1)
      have HB := Lib.hid (H.out.2.1.trans (hb.mono H.out.2.1.size))
      clear hb
      go_wp2_with fail
      go_ret
      exact ⟨by unfold hdS; rw [hAt]; rfl, HB.out⟩
end Go.Proofs.YtdjhlgodecnidaaDoor
