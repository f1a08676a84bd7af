/- PROVED HERE: for every two leaves the law LeafTexts returns true (which leaves may be, the bytes of each, and which are the same, as the reference has them), and both read afterwards as they did. No condition. -/
import Derived.Test.YtgoimggfpagojaaLfAwake
import Derived.Test.YtgoimggfpagojaaLfLaw
import Derived.Test.YtgoimggfpagojaaLfRSame
import Derived.Test.YtgoimggfpagojaaLfRText
import Derived.Test.YtgoimggfpagojaaRows
import Derived.ProofKit
import Derived.OpenShut
namespace Go.Proofs.Ytgoimggfpagojaa
open Go.RowKit
open Cn

/-- Two leaves in boxes of their own. -/
structure Bx2 (w2 : World) (g0 g1 : Nat) (ca cb : Array Value) (W : World) : Prop where
  r0 : W.heap[g0]? = some (.cells ca 24 (0, 0))
  r1 : W.heap[g1]? = some (.cells cb 24 (0, 0))
  below : Below w2.heap.size w2 W
theorem Bx2.call {w2 : World} {g0 g1 : Nat} {ca cb : Array Value} {W W' : World} (h : Bx2 w2 g0 g1 ca cb W) (hb : Below W.heap.size W W') : Bx2 w2 g0 g1 ca cb W' :=
  ⟨(hb.block _ (lt_of_heap h.r0)).trans h.r0, (hb.block _ (lt_of_heap h.r1)).trans h.r1, h.below.trans (hb.mono h.below.size)⟩
theorem Bx2.drew {w2 : World} {g0 g1 : Nat} {ca cb : Array Value} {W : World} (h : Bx2 w2 g0 g1 ca cb W) : Bx2 w2 g0 g1 ca cb W.drew := h.call ((Below.refl _ _).drew)
set_option maxRecDepth 100000 in
set_option maxHeartbeats 8000000 in
theorem texts_law {w : World} (x : LfA) (hx : x.Ok w) (y : LfA) (hy : y.Ok w) :
    Calls Try.prog 3 #[.agg x.cs, .agg y.cs] w fun e w' => e = .returned (.bool true) ∧ Below w.heap.size w w' := by
  obtain ⟨a, pa, ka⟩ := x
  obtain ⟨b, pb, kb⟩ := y
  unfold LfA.cs
  have hTa := hx.tags
  have hTb := hy.tags
  have hma : a.tags.length ≤ maxLen := Nat.le_trans hx.len hx.cap
  have hmb : b.tags.length ≤ maxLen := Nat.le_trans hy.len hy.cap
  simp only at hTa hma hTb hmb
  clear hx hy
  obtain ⟨w1, hw1⟩ : ∃ w1, w1 = w.alloc (.cells (lfCs a pa ka) 24) := ⟨_, rfl⟩
  obtain ⟨w2, hw2⟩ : ∃ w2, w2 = w1.alloc (.cells (lfCs b pb kb) 24) := ⟨_, rfl⟩
  have hb1 : Below w.heap.size w w1 := by rw [hw1]; exact (Below.refl _ _).alloc (Nat.le_refl _) _
  have hz1 : w1.heap.size = w.heap.size + 1 := by rw [hw1]; simp
  have hb2 : Below w1.heap.size w1 w2 := by rw [hw2]; exact (Below.refl _ _).alloc (Nat.le_refl _) _
  have hg1 : w2.heap[w.heap.size]? = some (.cells (lfCs a pa ka) 24 (0, 0)) := by rw [hb2.block _ (by omega), hw1]; exact heap_alloc_new _ _
  have hg2 : w2.heap[w.heap.size + 1]? = some (.cells (lfCs b pb kb) 24 (0, 0)) := by rw [hw2, ← hz1]; exact heap_alloc_new _ _
  have hbw : Below w.heap.size w w2 := hb1.trans (hb2.mono hb1.size)
  have X2 : Bx2 w2 w.heap.size (w.heap.size + 1) (lfCs a pa ka) (lfCs b pb kb) w2 := ⟨hg1, hg2, Below.refl _ _⟩
  have hTa2 := hTa.below hbw
  have hTb2 := hTb.below hbw
  have cfa := fun W (h : Bx2 w2 w.heap.size (w.heap.size + 1) (lfCs a pa ka) (lfCs b pb kb) W) => few17_any a pa ka hma W (hTa2.below h.below)
  have cfb := fun W (h : Bx2 w2 w.heap.size (w.heap.size + 1) (lfCs a pa ka) (lfCs b pb kb) W) => few17_any b pb kb hmb W (hTb2.below h.below)
  obtain ⟨c0, c1, c2, c3, c4⟩ := lf_cell hg1
  obtain ⟨d0, d1, d2, d3, d4⟩ := lf_cell hg2
  have HB := Lib.hid hbw
  clear hb1 hb2 hg1 hg2 hTa hTb hbw
  cases hfa : fewL a with
  | false =>
    rw [hfa] at cfa
    have H := Lib.hid cfa
    clear cfa cfb hTa2 hTb2 hma hmb hfa
    unfold lfCs at *
    go_enter Try.func3, Try.ntmps3
    go_upto_region 1 with fail
    rw [← hw1, ← hw2]
    clear hw1 hw2
    go_wp2_with fail
    refine (H.out _ X2).mono ?_
    rintro e w3 ⟨rfl, hb⟩
    have X3 := X2.call hb
    clear hb
    try clear c0 c1 c2 c3 c4 d0 d1 d2 d3 d4
    obtain ⟨c0, c1, c2, c3, c4⟩ := lf_cell (l := a) X3.r0
    obtain ⟨d0, d1, d2, d3, d4⟩ := lf_cell (l := b) X3.r1
    go_wp2_with fail
    refine (awake17_any _).mono ?_
    rintro e w4 ⟨rfl, hb⟩
    have X4 := X3.call hb
    clear hb
    try clear c0 c1 c2 c3 c4 d0 d1 d2 d3 d4
    go_wp2_with fail
    go_ret
    exact ⟨rfl, HB.out.trans (X4.below.mono HB.out.size)⟩
  | true =>
    rw [hfa] at cfa
    obtain ⟨-, -, fa, -⟩ := fewL_iff.1 hfa
    cases hfb : fewL b with
    | false =>
      rw [hfb] at cfb
      have H := Lib.hid (And.intro cfa cfb)
      clear cfa cfb hTa2 hTb2 hma hmb hfa hfb fa
      unfold lfCs at *
      go_enter Try.func3, Try.ntmps3
      go_upto_region 1 with fail
      rw [← hw1, ← hw2]
      clear hw1 hw2
      go_wp2_with fail
      refine (H.out.1 _ X2).mono ?_
      rintro e w3 ⟨rfl, hb⟩
      have X3 := X2.call hb
      clear hb
      try clear c0 c1 c2 c3 c4 d0 d1 d2 d3 d4
      obtain ⟨c0, c1, c2, c3, c4⟩ := lf_cell (l := a) X3.r0
      obtain ⟨d0, d1, d2, d3, d4⟩ := lf_cell (l := b) X3.r1
      go_wp2_with fail
      refine (H.out.2 _ X3).mono ?_
      rintro e w4 ⟨rfl, hb⟩
      have X4 := X3.call hb
      clear hb
      try clear c0 c1 c2 c3 c4 d0 d1 d2 d3 d4
      obtain ⟨c0, c1, c2, c3, c4⟩ := lf_cell (l := a) X4.r0
      obtain ⟨d0, d1, d2, d3, d4⟩ := lf_cell (l := b) X4.r1
      go_wp2_with fail
      refine (awake17_any _).mono ?_
      rintro e w5 ⟨rfl, hb⟩
      have X5 := X4.call hb
      clear hb
      try clear c0 c1 c2 c3 c4 d0 d1 d2 d3 d4
      go_wp2_with fail
      go_ret
      exact ⟨rfl, HB.out.trans (X5.below.mono HB.out.size)⟩
    | true =>
      rw [hfb] at cfb
      obtain ⟨-, -, fb, -⟩ := fewL_iff.1 hfb
      have kca := fun W (h : Bx2 w2 w.heap.size (w.heap.size + 1) (lfCs a pa ka) (lfCs b pb kb) W) => check17_any a pa ka (by omega) W (hTa2.below h.below)
      have kta := fun W (h : Bx2 w2 w.heap.size (w.heap.size + 1) (lfCs a pa ka) (lfCs b pb kb) W) => text17_any a pa ka (by omega) W (hTa2.below h.below)
      have ksb := fun W (h : Bx2 w2 w.heap.size (w.heap.size + 1) (lfCs a pa ka) (lfCs b pb kb) W) => same17_any a b pa pb ka kb W (hTa2.below h.below) (hTb2.below h.below) (by omega) (by omega)
      have kra := fun W (h : Bx2 w2 w.heap.size (w.heap.size + 1) (lfCs a pa ka) (lfCs b pb kb) W) => ref17_any a pa ka (by omega) W (hTa2.below h.below)
      have krb := fun W (h : Bx2 w2 w.heap.size (w.heap.size + 1) (lfCs a pa ka) (lfCs b pb kb) W) => ref17_any b pb kb (by omega) W (hTb2.below h.below)
      have krc := fun W q c (h : PoAt W q a.tags) => rcheck17_any a q c (by omega) W h
      have krt := fun W q c (h : PoAt W q a.tags) => rtextL_any a q c (by omega) W h
      have krs := fun W q c q' c' (h : PoAt W q a.tags) (h' : PoAt W q' b.tags) => rsame17_any a b q q' c c' W h h' (by omega) (by omega)
      obtain ⟨Sa, hSa⟩ : ∃ S, S = lfS a := ⟨_, rfl⟩
      obtain ⟨M, hM⟩ : ∃ M, M = sameL a b := ⟨_, rfl⟩
      obtain ⟨Ba, hBa⟩ : ∃ B, B = lfB a := ⟨_, rfl⟩
      rw [← hSa] at kta
      rw [← hM] at ksb
      rw [← hBa] at kca
      simp only [← hSa] at krt
      simp only [← hM] at krs
      simp only [← hBa] at krc
      have hBB : (Ba == Ba) = true := by simp
      have hMM : (M == M) = true := by simp
      have hSS : (Sa.toList == Sa.toList) = true := by simp
      have H := Lib.hid (And.intro cfa (And.intro cfb (And.intro kca (And.intro kta (And.intro ksb (And.intro kra (And.intro krb (And.intro krc (And.intro krt krs)))))))))
      clear cfa cfb kca kta ksb kra krb krc krt krs hTa2 hTb2 hma hmb hfa hfb fa fb hSa hM hBa
      unfold lfCs at *
      go_enter Try.func3, Try.ntmps3
      go_upto_region 1 with fail
      rw [← hw1, ← hw2]
      clear hw1 hw2
      go_wp2_with fail
      refine (H.out.1 _ X2).mono ?_
      rintro e w3 ⟨rfl, hb⟩
      have X3 := X2.call hb
      clear hb
      try clear c0 c1 c2 c3 c4 d0 d1 d2 d3 d4
      obtain ⟨c0, c1, c2, c3, c4⟩ := lf_cell (l := a) X3.r0
      obtain ⟨d0, d1, d2, d3, d4⟩ := lf_cell (l := b) X3.r1
      go_wp2_with fail
      refine (H.out.2.1 _ X3).mono ?_
      rintro e w4 ⟨rfl, hb⟩
      have X4 := X3.call hb
      clear hb
      try clear c0 c1 c2 c3 c4 d0 d1 d2 d3 d4
      obtain ⟨c0, c1, c2, c3, c4⟩ := lf_cell (l := a) X4.r0
      obtain ⟨d0, d1, d2, d3, d4⟩ := lf_cell (l := b) X4.r1
      try clear c0 c1 c2 c3 c4 d0 d1 d2 d3 d4
      go_upto_region 3 with fail
      go_wp2_with fail
      refine wp_region_held (S := fun W : World => Bx2 w2 w.heap.size (w.heap.size + 1) (lfCs a pa ka) (lfCs b pb kb) W) (by kernel_rfl) ?_
      change wpAnyH _ _ _ _ _ _ _ _ (World.drew _)
      generalize hv0 : World.drew _ = v0
      have E0 : Bx2 w2 w.heap.size (w.heap.size + 1) (lfCs a pa ka) (lfCs b pb kb) v0 := by rw [← hv0]; exact X4.drew
      have F0 : Below w2.heap.size w2 v0 := by rw [← hv0]; exact X4.below.drew
      clear hv0
      refine wpAnyH_ready (rs := [0]) (by kernel_rfl) (by simp) ?_
      refine AllReadyH.cons rfl (fun K hK => ?_) AllReadyH.nil
      go_simp
      refine (awake17_any v0).mono ?_
      rintro e v1 ⟨rfl, hb⟩
      have F1 := F0.trans (hb.mono F0.size)
      have E1 : Bx2 w2 w.heap.size (w.heap.size + 1) (lfCs a pa ka) (lfCs b pb kb) v1 := E0.call hb
      refine hK.out _ _ E1 (fun _ => ?_)
      clear hK K hb
      refine wpAnyH_take (i := 1) (v := ?_) rfl (by kernel_rfl) (by kernel_rfl) (by kernel_rfl) (fun _ _ _ h => h) (Or.inl ⟨by kernel_rfl, ?_⟩) E1 ?_
      rotate_left
      · (intro W hS; obtain ⟨k0, k1, k2, k3, k4⟩ := lf_cell (l := a) hS.r0; obtain ⟨m0, m1, m2, m3, m4⟩ := lf_cell (l := b) hS.r1; clear hS; go_simp; try (with_reducible rfl))
      refine wpAnyH_take (i := 2) (v := ?_) rfl (by kernel_rfl) (by kernel_rfl) (by kernel_rfl) (fun _ _ _ h => h) (Or.inl ⟨by kernel_rfl, ?_⟩) E1 ?_
      rotate_left
      · (intro W hS; obtain ⟨k0, k1, k2, k3, k4⟩ := lf_cell (l := a) hS.r0; obtain ⟨m0, m1, m2, m3, m4⟩ := lf_cell (l := b) hS.r1; clear hS; go_simp; try (with_reducible rfl))
      refine wpAnyH_take (i := 4) (v := ?_) rfl (by kernel_rfl) (by kernel_rfl) (by kernel_rfl) (fun _ _ _ h => h) (Or.inl ⟨by kernel_rfl, ?_⟩) E1 ?_
      rotate_left
      · (intro W hS; obtain ⟨k0, k1, k2, k3, k4⟩ := lf_cell (l := a) hS.r0; obtain ⟨m0, m1, m2, m3, m4⟩ := lf_cell (l := b) hS.r1; clear hS; go_simp; try (with_reducible rfl))
      refine wpAnyH_ready (rs := [3]) (by kernel_rfl) (by simp) ?_
      refine AllReadyH.cons rfl (fun K hK => ?_) AllReadyH.nil
      go_simp
      refine (H.out.2.2.1 v1 E1).mono ?_
      rintro e v2 ⟨rfl, hb⟩
      have F2 := F1.trans (hb.mono F1.size)
      have E2 : Bx2 w2 w.heap.size (w.heap.size + 1) (lfCs a pa ka) (lfCs b pb kb) v2 := E1.call hb
      refine hK.out _ _ E2 (fun _ => ?_)
      clear hK K hb
      refine wpAnyH_ready (rs := [5]) (by kernel_rfl) (by simp) ?_
      refine AllReadyH.cons rfl (fun K hK => ?_) AllReadyH.nil
      go_simp
      refine (H.out.2.2.2.2.2.1 v2 E2).mono ?_
      rintro e v3 ⟨q1, c1, rfl, hq1, hb⟩
      have F3 := F2.trans (hb.mono F2.size)
      have E3 : Bx2 w2 w.heap.size (w.heap.size + 1) (lfCs a pa ka) (lfCs b pb kb) v3 := E2.call hb
      refine hK.out _ _ E3 (fun _ => ?_)
      clear hK K hb
      refine wpAnyH_ready (rs := [6]) (by kernel_rfl) (by simp) ?_
      refine AllReadyH.cons rfl (fun K hK => ?_) AllReadyH.nil
      go_simp
      refine (H.out.2.2.2.2.2.2.2.1 v3 q1 c1 hq1).mono ?_
      rintro e v4 ⟨rfl, hb⟩
      have F4 := F3.trans (hb.mono F3.size)
      have E4 : Bx2 w2 w.heap.size (w.heap.size + 1) (lfCs a pa ka) (lfCs b pb kb) v4 := E3.call hb
      refine hK.out _ _ E4 (fun _ => ?_)
      clear hK K hb
      refine wpAnyH_take (i := 7) (v := ?_) rfl (by kernel_rfl) (by kernel_rfl) (by kernel_rfl) (fun _ _ _ h => h) (Or.inl ⟨by kernel_rfl, ?_⟩) E4 ?_
      rotate_left
      · (intro W hS; obtain ⟨k0, k1, k2, k3, k4⟩ := lf_cell (l := a) hS.r0; obtain ⟨m0, m1, m2, m3, m4⟩ := lf_cell (l := b) hS.r1; clear hS; go_simp; try (with_reducible rfl))
      refine wpAnyH_take (i := 8) (v := ?_) rfl (by kernel_rfl) (by kernel_rfl) (by kernel_rfl) (fun _ _ _ h => h) (Or.inl ⟨by kernel_rfl, ?_⟩) E4 ?_
      rotate_left
      · (intro W hS; obtain ⟨k0, k1, k2, k3, k4⟩ := lf_cell (l := a) hS.r0; obtain ⟨m0, m1, m2, m3, m4⟩ := lf_cell (l := b) hS.r1; clear hS; go_simp; try (with_reducible rfl))
      refine wpAnyH_take (i := 9) (v := ?_) rfl (by kernel_rfl) (by kernel_rfl) (by kernel_rfl) (fun _ _ _ h => h) (Or.inl ⟨by kernel_rfl, ?_⟩) E4 ?_
      rotate_left
      · (intro W hS; obtain ⟨k0, k1, k2, k3, k4⟩ := lf_cell (l := a) hS.r0; obtain ⟨m0, m1, m2, m3, m4⟩ := lf_cell (l := b) hS.r1; clear hS; go_simp; try (with_reducible rfl))
      refine wpAnyH_take (i := 10) (v := ?_) rfl (by kernel_rfl) (by kernel_rfl) (by kernel_rfl) (fun _ _ _ h => h) (Or.inl ⟨by kernel_rfl, ?_⟩) E4 ?_
      rotate_left
      · (intro W hS; obtain ⟨k0, k1, k2, k3, k4⟩ := lf_cell (l := a) hS.r0; obtain ⟨m0, m1, m2, m3, m4⟩ := lf_cell (l := b) hS.r1; clear hS; go_simp; try (with_reducible rfl))
      refine wpAnyH_take (i := 12) (v := ?_) rfl (by kernel_rfl) (by kernel_rfl) (by kernel_rfl) (fun _ _ _ h => h) (Or.inl ⟨by kernel_rfl, ?_⟩) E4 ?_
      rotate_left
      · (intro W hS; obtain ⟨k0, k1, k2, k3, k4⟩ := lf_cell (l := a) hS.r0; obtain ⟨m0, m1, m2, m3, m4⟩ := lf_cell (l := b) hS.r1; clear hS; go_simp; try (with_reducible rfl))
      refine wpAnyH_ready (rs := [11]) (by kernel_rfl) (by simp) ?_
      refine AllReadyH.cons rfl (fun K hK => ?_) AllReadyH.nil
      go_simp
      refine (H.out.2.2.2.1 v4 E4).mono ?_
      rintro e v5 ⟨rfl, hb⟩
      have F5 := F4.trans (hb.mono F4.size)
      have E5 : Bx2 w2 w.heap.size (w.heap.size + 1) (lfCs a pa ka) (lfCs b pb kb) v5 := E4.call hb
      refine hK.out _ _ E5 (fun _ => ?_)
      clear hK K hb
      refine wpAnyH_ready (rs := [13]) (by kernel_rfl) (by simp) ?_
      refine AllReadyH.cons rfl (fun K hK => ?_) AllReadyH.nil
      go_simp
      refine (H.out.2.2.2.2.2.1 v5 E5).mono ?_
      rintro e v6 ⟨q2, c2, rfl, hq2, hb⟩
      have F6 := F5.trans (hb.mono F5.size)
      have E6 : Bx2 w2 w.heap.size (w.heap.size + 1) (lfCs a pa ka) (lfCs b pb kb) v6 := E5.call hb
      refine hK.out _ _ E6 (fun _ => ?_)
      clear hK K hb
      refine wpAnyH_ready (rs := [14]) (by kernel_rfl) (by simp) ?_
      refine AllReadyH.cons rfl (fun K hK => ?_) AllReadyH.nil
      go_simp
      refine (H.out.2.2.2.2.2.2.2.2.1 v6 q2 c2 hq2).mono ?_
      rintro e v7 ⟨rfl, hb⟩
      have F7 := F6.trans (hb.mono F6.size)
      have E7 : Bx2 w2 w.heap.size (w.heap.size + 1) (lfCs a pa ka) (lfCs b pb kb) v7 := E6.call hb
      refine hK.out _ _ E7 (fun _ => ?_)
      clear hK K hb
      refine wpAnyH_take (i := 15) (v := ?_) rfl (by kernel_rfl) (by kernel_rfl) (by kernel_rfl) (fun _ _ _ h => h) (Or.inl ⟨by kernel_rfl, ?_⟩) E7 ?_
      rotate_left
      · (intro W hS; obtain ⟨k0, k1, k2, k3, k4⟩ := lf_cell (l := a) hS.r0; obtain ⟨m0, m1, m2, m3, m4⟩ := lf_cell (l := b) hS.r1; clear hS; go_simp; try (with_reducible rfl))
      refine wpAnyH_take (i := 16) (v := ?_) rfl (by kernel_rfl) (by kernel_rfl) (by kernel_rfl) (fun _ _ _ h => h) (Or.inl ⟨by kernel_rfl, ?_⟩) E7 ?_
      rotate_left
      · (intro W hS; obtain ⟨k0, k1, k2, k3, k4⟩ := lf_cell (l := a) hS.r0; obtain ⟨m0, m1, m2, m3, m4⟩ := lf_cell (l := b) hS.r1; clear hS; go_simp; try (with_reducible rfl))
      refine wpAnyH_take (i := 17) (v := ?_) rfl (by kernel_rfl) (by kernel_rfl) (by kernel_rfl) (fun _ _ _ h => h) (Or.inl ⟨by kernel_rfl, ?_⟩) E7 ?_
      rotate_left
      · (intro W hS; obtain ⟨k0, k1, k2, k3, k4⟩ := lf_cell (l := a) hS.r0; obtain ⟨m0, m1, m2, m3, m4⟩ := lf_cell (l := b) hS.r1; clear hS; go_simp; try (with_reducible rfl))
      refine wpAnyH_take (i := 18) (v := ?_) rfl (by kernel_rfl) (by kernel_rfl) (by kernel_rfl) (fun _ _ _ h => h) (Or.inl ⟨by kernel_rfl, ?_⟩) E7 ?_
      rotate_left
      · (intro W hS; obtain ⟨k0, k1, k2, k3, k4⟩ := lf_cell (l := a) hS.r0; obtain ⟨m0, m1, m2, m3, m4⟩ := lf_cell (l := b) hS.r1; clear hS; go_simp; try (with_reducible rfl))
      refine wpAnyH_take (i := 19) (v := ?_) rfl (by kernel_rfl) (by kernel_rfl) (by kernel_rfl) (fun _ _ _ h => h) (Or.inl ⟨by kernel_rfl, ?_⟩) E7 ?_
      rotate_left
      · (intro W hS; obtain ⟨k0, k1, k2, k3, k4⟩ := lf_cell (l := a) hS.r0; obtain ⟨m0, m1, m2, m3, m4⟩ := lf_cell (l := b) hS.r1; clear hS; go_simp; try (with_reducible rfl))
      refine wpAnyH_take (i := 21) (v := ?_) rfl (by kernel_rfl) (by kernel_rfl) (by kernel_rfl) (fun _ _ _ h => h) (Or.inl ⟨by kernel_rfl, ?_⟩) E7 ?_
      rotate_left
      · (intro W hS; obtain ⟨k0, k1, k2, k3, k4⟩ := lf_cell (l := a) hS.r0; obtain ⟨m0, m1, m2, m3, m4⟩ := lf_cell (l := b) hS.r1; clear hS; go_simp; try (with_reducible rfl))
      refine wpAnyH_take (i := 23) (v := ?_) rfl (by kernel_rfl) (by kernel_rfl) (by kernel_rfl) (fun _ _ _ h => h) (Or.inl ⟨by kernel_rfl, ?_⟩) E7 ?_
      rotate_left
      · (intro W hS; obtain ⟨k0, k1, k2, k3, k4⟩ := lf_cell (l := a) hS.r0; obtain ⟨m0, m1, m2, m3, m4⟩ := lf_cell (l := b) hS.r1; clear hS; go_simp; try (with_reducible rfl))
      refine wpAnyH_ready (rs := [20]) (by kernel_rfl) (by simp) ?_
      refine AllReadyH.cons rfl (fun K hK => ?_) AllReadyH.nil
      go_simp
      refine (H.out.2.2.2.2.1 v7 E7).mono ?_
      rintro e v8 ⟨rfl, hb⟩
      have F8 := F7.trans (hb.mono F7.size)
      have E8 : Bx2 w2 w.heap.size (w.heap.size + 1) (lfCs a pa ka) (lfCs b pb kb) v8 := E7.call hb
      refine hK.out _ _ E8 (fun _ => ?_)
      clear hK K hb
      refine wpAnyH_ready (rs := [22]) (by kernel_rfl) (by simp) ?_
      refine AllReadyH.cons rfl (fun K hK => ?_) AllReadyH.nil
      go_simp
      refine (H.out.2.2.2.2.2.1 v8 E8).mono ?_
      rintro e v9 ⟨q3, c3, rfl, hq3, hb⟩
      have F9 := F8.trans (hb.mono F8.size)
      have E9 : Bx2 w2 w.heap.size (w.heap.size + 1) (lfCs a pa ka) (lfCs b pb kb) v9 := E8.call hb
      refine hK.out _ _ E9 (fun _ => ?_)
      clear hK K hb
      refine wpAnyH_ready (rs := [24]) (by kernel_rfl) (by simp) ?_
      refine AllReadyH.cons rfl (fun K hK => ?_) AllReadyH.nil
      go_simp
      refine (H.out.2.2.2.2.2.2.1 v9 E9).mono ?_
      rintro e v10 ⟨q4, c4, rfl, hq4, hb⟩
      have F10 := F9.trans (hb.mono F9.size)
      have E10 : Bx2 w2 w.heap.size (w.heap.size + 1) (lfCs a pa ka) (lfCs b pb kb) v10 := E9.call hb
      have hq5 := hq3.below hb
      refine hK.out _ _ E10 (fun _ => ?_)
      clear hK K hb
      refine wpAnyH_ready (rs := [25]) (by kernel_rfl) (by simp) ?_
      refine AllReadyH.cons rfl (fun K hK => ?_) AllReadyH.nil
      go_simp
      refine (H.out.2.2.2.2.2.2.2.2.2 v10 q3 c3 q4 c4 hq5 hq4).mono ?_
      rintro e v11 ⟨rfl, hb⟩
      have F11 := F10.trans (hb.mono F10.size)
      have E11 : Bx2 w2 w.heap.size (w.heap.size + 1) (lfCs a pa ka) (lfCs b pb kb) v11 := E10.call hb
      refine hK.out _ _ E11 (fun _ => ?_)
      clear hK K hb
      refine wpAnyH_take (i := 26) (v := ?_) rfl (by kernel_rfl) (by kernel_rfl) (by kernel_rfl) (fun _ _ _ h => h) (Or.inl ⟨by kernel_rfl, ?_⟩) E11 ?_
      rotate_left
      · (intro W hS; obtain ⟨k0, k1, k2, k3, k4⟩ := lf_cell (l := a) hS.r0; obtain ⟨m0, m1, m2, m3, m4⟩ := lf_cell (l := b) hS.r1; clear hS; go_simp; try (with_reducible rfl))
      refine wpAnyH_take (i := 27) (v := ?_) rfl (by kernel_rfl) (by kernel_rfl) (by kernel_rfl) (fun _ _ _ h => h) (Or.inl ⟨by kernel_rfl, ?_⟩) E11 ?_
      rotate_left
      · (intro W hS; obtain ⟨k0, k1, k2, k3, k4⟩ := lf_cell (l := a) hS.r0; obtain ⟨m0, m1, m2, m3, m4⟩ := lf_cell (l := b) hS.r1; clear hS; go_simp; try (with_reducible rfl))
      refine wpAnyH_take (i := 28) (v := ?_) rfl (by kernel_rfl) (by kernel_rfl) (by kernel_rfl) (fun _ _ _ h => h) (Or.inl ⟨by kernel_rfl, ?_⟩) E11 ?_
      rotate_left
      · (intro W hS; obtain ⟨k0, k1, k2, k3, k4⟩ := lf_cell (l := a) hS.r0; obtain ⟨m0, m1, m2, m3, m4⟩ := lf_cell (l := b) hS.r1; clear hS; go_simp; try (with_reducible rfl))
      refine wpAnyH_done (by kernel_rfl) ?_ _
      go_simp
      have HF := Lib.hid F11
      clear E0 F0 E1 F1 E2 F2 E3 F3 E4 F4 E5 F5 E6 F6 E7 F7 E8 F8 E9 F9 E10 F10 E11 F11
      go_wp2_with fail
      go_ret
      exact ⟨by first | rfl | simp, HB.out.trans (HF.out.mono HB.out.size)⟩
end Go.Proofs.Ytgoimggfpagojaa

namespace Go.Proofs.Ytgoimggfpagojaa.leafTextsLaw
open Go.ChangeShapes Go.WideShapes Go.ChangeAt Go.RowKit
open Go.ChangeMaps (open_string shut_string)

theorem own : ownKnob Try.prog.godebug = none := by kernel_rfl
set_option maxRecDepth 100000 in
theorem lifted (os : Os) (started : os.Started) (H : Type) (enc : TypeId × Value → H) :
    ReturnsInHanded {} Try.checked os 3 .any (Rows.leafTextsSpec.pre6 enc Try.prog Try.f3 Rows.leafTextsRow.domain false) (Rows.leafTextsSpec.post enc Try.prog Try.f3 false true false false) := by
  refine returnsInHanded_of_change (C := Try.checked) own started (by kernel_rfl) Try.func3
    (ChangeSpec.witness6 (enc := enc) (C := Try.checked) false ⟨#[], #[.agg #[.int .i64 0, .int .i64 0, .string ⟨#[]⟩, .slice none 0 0, .string ⟨#[]⟩], .agg #[.int .i64 0, .int .i64 0, .string ⟨#[]⟩, .slice none 0 0, .string ⟨#[]⟩]], []⟩ 8 (by kernel_rfl) (by kernel_rfl) (by kernel_rfl) (by kernel_rfl)) ?_
  intro W base args ds gs before hval0 hW hcnd _
  have hval : ∀ (j : Nat) t v, Try.f3.params[j]? = some t → args[j]? = some v → Value.okWide Try.prog W .any base t v := hval0
  have hW' := hW
  obtain ⟨p, q, hA0, hV, rfl, hfz, hnd⟩ := hW
  have hA : DataW.TrodAll enc Try.prog W 0 (fun _ => true) true Try.f3.params.toList args.toList ds p := hA0
  rw [Try.params3] at hA hval
  obtain ⟨v0, vs0, d0, ds0, p0, q0, hargs, rfl, rfl, h0, r0⟩ := trodAll_cons hA
  obtain ⟨v1, vs1, d1, ds1, p1, q1, rfl, rfl, rfl, h1, r1⟩ := trodAll_cons r0
  obtain ⟨rfl, rfl, rfl⟩ := trodAll_nil r1
  obtain rfl : args = #[v0, v1] := by cases args; simp_all
  obtain ⟨rfl, rfl⟩ := trodVars_none hV
  obtain ⟨cs0, rfl, hcs0⟩ := okWide_struct Try.underlying24 (hval 0 24 v0 rfl rfl)
  have hk0 := h0
  obtain ⟨fuel0, hf0⟩ := h0
  obtain ⟨cs1, rfl, hcs1⟩ := okWide_struct Try.underlying24 (hval 1 24 v1 rfl rfl)
  have hk1 := h1
  obtain ⟨fuel1, hf1⟩ := h1
  clear hA0 hval0
  simp only [List.append_nil] at hW'
  have hlt0 : ∀ x ∈ p0, x.block < W.heap.size := fun x hx => by simpa using hW'.lt x (by simp [hx])
  obtain ⟨x0a, hit0, hf0a⟩ := open_leaf hf0 hlt0
  obtain rfl : cs0 = LfA.cs x0a := Array.toList_inj.1 hit0
  have hlt1 : ∀ x ∈ p1, x.block < W.heap.size := fun x hx => by simpa using hW'.lt x (by simp [hx])
  obtain ⟨x1a, hit1, hf1a⟩ := open_leaf hf1 hlt1
  obtain rfl : cs1 = LfA.cs x1a := Array.toList_inj.1 hit1
  refine (texts_law x0a hf0a x1a hf1a (w := W)).mono fun e W' ⟨he, hb⟩ => ?_
  subst he
  exact ⟨_, rfl, _, _, _, [], _, [], hW', trodAll_cons_mk (shut_bool Try.underlying4 _) trodAll_mk0, (trodAll_cons_mk (Below.trod laidOut (by kernel_rfl) (of_decide_eq_true (by kernel_rfl)) hk0 hb hlt0) (trodAll_cons_mk (Below.trod laidOut (by kernel_rfl) (of_decide_eq_true (by kernel_rfl)) hk1 hb hlt1) trodAll_mk0)), rfl, hb.frame _, fun h => by cases h⟩
theorem over : Rows.leafTextsRow.holds Try.pinned (OpenSpec.ofChange Rows.leafTextsSpec) :=
  OpenClaim.holds_of_wide 3 Try.f3 rfl rfl rfl rfl rfl rfl rfl ⟨rfl, rfl, rfl, rfl, rfl⟩ rfl rfl rfl rfl rfl (by kernel_rfl) Try.func3 (by kernel_rfl)
    (of_decide_eq_true (by kernel_rfl)) (by unfold Func.isWrapper; first | (rw [if_pos (by decide +kernel)]; kernel_rfl) | (rw [if_neg (by decide +kernel)]; exact ⟨rfl, rfl⟩))
    (fun os started H enc _ => lifted os started H enc)
end Go.Proofs.Ytgoimggfpagojaa.leafTextsLaw

namespace Go.Proofs.Ytgoimggfpagojaa
theorem leafTexts_said : Rows.LeafTextsSaid := leafTextsLaw.over
end Go.Proofs.Ytgoimggfpagojaa
