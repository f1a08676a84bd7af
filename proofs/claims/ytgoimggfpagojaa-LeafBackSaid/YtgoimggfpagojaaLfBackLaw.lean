/- PROVED HERE: for every two leaves and every text the law LeafBack returns true (what is written is read as it was; what is read, written again, are the bytes that stood there; two leaves have the same bytes just if they are the same), and all read afterwards as they did. No condition. -/
import Derived.Test.YtgoimggfpagojaaLfAwake
import Derived.Test.YtgoimggfpagojaaLfLaw
import Derived.Test.YtgoimggfpagojaaLfSame
import Derived.Test.YtgoimggfpagojaaRows
import Derived.ProofKit
import Derived.OpenShut
namespace Go.Proofs.Ytgoimggfpagojaa
open Go.RowKit
open Cn

/-- Two leaves in boxes of their own. -/
structure Bx2 (w2 : World) (g0 g1 : Nat) (ca cb : Array Value) (W : World) : Prop where
  r0 : W.heap[g0]? = some (.cells ca 24 (0, 0))
  r1 : W.heap[g1]? = some (.cells cb 24 (0, 0))
  below : Below w2.heap.size w2 W
theorem Bx2.call {w2 : World} {g0 g1 : Nat} {ca cb : Array Value} {W W' : World} (h : Bx2 w2 g0 g1 ca cb W) (hb : Below W.heap.size W W') : Bx2 w2 g0 g1 ca cb W' :=
  ⟨(hb.block _ (lt_of_heap h.r0)).trans h.r0, (hb.block _ (lt_of_heap h.r1)).trans h.r1, h.below.trans (hb.mono h.below.size)⟩
theorem Bx2.drew {w2 : World} {g0 g1 : Nat} {ca cb : Array Value} {W : World} (h : Bx2 w2 g0 g1 ca cb W) : Bx2 w2 g0 g1 ca cb W.drew := h.call ((Below.refl _ _).drew)
theorem lfS_eq {a b : Lf} (ha : lfB a = true) (hb : lfB b = true) : ((lfS a).toList == (lfS b).toList) = sameL a b := by
  cases h : sameL a b with
  | true => rw [sameL_iff.1 h]; simp
  | false =>
    cases e : (lfS a).toList == (lfS b).toList with
    | false => rfl
    | true =>
      have := lfS_inj ha hb (Wd.toList_eq (by simpa using e))
      rw [sameL_iff.2 this] at h; cases h
set_option maxRecDepth 100000 in
set_option maxHeartbeats 8000000 in
theorem back_law {w : World} (x : LfA) (hx : x.Ok w) (y : LfA) (hy : y.Ok w) (s : ByteArray) (hs : s.size ≤ maxLen) :
    Calls Try.prog 5 #[.agg x.cs, .agg y.cs, .string s] w fun e w' => e = .returned (.bool true) ∧ Below w.heap.size w w' := by
  obtain ⟨a, pa, ka⟩ := x
  obtain ⟨b, pb, kb⟩ := y
  unfold LfA.cs
  unfold maxLen at hs
  have hTa := hx.tags
  have hTb := hy.tags
  have hma : a.tags.length ≤ maxLen := Nat.le_trans hx.len hx.cap
  have hmb : b.tags.length ≤ maxLen := Nat.le_trans hy.len hy.cap
  simp only at hTa hma hTb hmb
  clear hx hy
  obtain ⟨w1, hw1⟩ : ∃ w1, w1 = w.alloc (.cells (lfCs a pa ka) 24) := ⟨_, rfl⟩
  obtain ⟨w2, hw2⟩ : ∃ w2, w2 = w1.alloc (.cells (lfCs b pb kb) 24) := ⟨_, rfl⟩
  have hb1 : Below w.heap.size w w1 := by rw [hw1]; exact (Below.refl _ _).alloc (Nat.le_refl _) _
  have hz1 : w1.heap.size = w.heap.size + 1 := by rw [hw1]; simp
  have hb2 : Below w1.heap.size w1 w2 := by rw [hw2]; exact (Below.refl _ _).alloc (Nat.le_refl _) _
  have hg1 : w2.heap[w.heap.size]? = some (.cells (lfCs a pa ka) 24 (0, 0)) := by rw [hb2.block _ (by omega), hw1]; exact heap_alloc_new _ _
  have hg2 : w2.heap[w.heap.size + 1]? = some (.cells (lfCs b pb kb) 24 (0, 0)) := by rw [hw2, ← hz1]; exact heap_alloc_new _ _
  have hbw : Below w.heap.size w w2 := hb1.trans (hb2.mono hb1.size)
  have X2 : Bx2 w2 w.heap.size (w.heap.size + 1) (lfCs a pa ka) (lfCs b pb kb) w2 := ⟨hg1, hg2, Below.refl _ _⟩
  have hTa2 := hTa.below hbw
  have hTb2 := hTb.below hbw
  have cfa := fun W (h : Bx2 w2 w.heap.size (w.heap.size + 1) (lfCs a pa ka) (lfCs b pb kb) W) => few17_any a pa ka hma W (hTa2.below h.below)
  have cfb := fun W (h : Bx2 w2 w.heap.size (w.heap.size + 1) (lfCs a pa ka) (lfCs b pb kb) W) => few17_any b pb kb hmb W (hTb2.below h.below)
  obtain ⟨c0, c1, c2, c3, c4⟩ := lf_cell hg1
  obtain ⟨d0, d1, d2, d3, d4⟩ := lf_cell hg2
  have HB := Lib.hid hbw
  clear hb1 hb2 hg1 hg2 hTa hTb hbw
  cases hfa : fewL a with
  | false =>
    rw [hfa] at cfa
    have H := Lib.hid cfa
    clear cfa cfb hTa2 hTb2 hma hmb hfa
    unfold lfCs at *
    go_enter Try.func5, Try.ntmps5
    go_upto_region 1 with fail
    rw [← hw1, ← hw2]
    clear hw1 hw2
    go_wp2_with fail
    refine (H.out _ X2).mono ?_
    rintro e w3 ⟨rfl, hb⟩
    have X3 := X2.call hb
    clear hb
    try clear c0 c1 c2 c3 c4 d0 d1 d2 d3 d4
    obtain ⟨c0, c1, c2, c3, c4⟩ := lf_cell (l := a) X3.r0
    obtain ⟨d0, d1, d2, d3, d4⟩ := lf_cell (l := b) X3.r1
    go_wp2_with fail
    refine (awake17_any _).mono ?_
    rintro e w4 ⟨rfl, hb⟩
    have X4 := X3.call hb
    clear hb
    try clear c0 c1 c2 c3 c4 d0 d1 d2 d3 d4
    go_wp2_with fail
    go_ret
    exact ⟨rfl, HB.out.trans (X4.below.mono HB.out.size)⟩
  | true =>
    rw [hfa] at cfa
    obtain ⟨-, -, fa, -⟩ := fewL_iff.1 hfa
    cases hfb : fewL b with
    | false =>
      rw [hfb] at cfb
      have H := Lib.hid (And.intro cfa cfb)
      clear cfa cfb hTa2 hTb2 hma hmb hfa hfb fa
      unfold lfCs at *
      go_enter Try.func5, Try.ntmps5
      go_upto_region 1 with fail
      rw [← hw1, ← hw2]
      clear hw1 hw2
      go_wp2_with fail
      refine (H.out.1 _ X2).mono ?_
      rintro e w3 ⟨rfl, hb⟩
      have X3 := X2.call hb
      clear hb
      try clear c0 c1 c2 c3 c4 d0 d1 d2 d3 d4
      obtain ⟨c0, c1, c2, c3, c4⟩ := lf_cell (l := a) X3.r0
      obtain ⟨d0, d1, d2, d3, d4⟩ := lf_cell (l := b) X3.r1
      go_wp2_with fail
      refine (H.out.2 _ X3).mono ?_
      rintro e w4 ⟨rfl, hb⟩
      have X4 := X3.call hb
      clear hb
      try clear c0 c1 c2 c3 c4 d0 d1 d2 d3 d4
      obtain ⟨c0, c1, c2, c3, c4⟩ := lf_cell (l := a) X4.r0
      obtain ⟨d0, d1, d2, d3, d4⟩ := lf_cell (l := b) X4.r1
      go_wp2_with fail
      refine (awake17_any _).mono ?_
      rintro e w5 ⟨rfl, hb⟩
      have X5 := X4.call hb
      clear hb
      try clear c0 c1 c2 c3 c4 d0 d1 d2 d3 d4
      go_wp2_with fail
      go_ret
      exact ⟨rfl, HB.out.trans (X5.below.mono HB.out.size)⟩
    | true =>
      rw [hfb] at cfb
      obtain ⟨-, -, fb, -⟩ := fewL_iff.1 hfb
      by_cases hs5 : s.size ≤ 1500
      rotate_left
      · have e1 : decide ((1500 : Int) < (s.size : Int)) = true := decide_eq_true (by omega)
        have H := Lib.hid (And.intro cfa cfb)
        clear cfa cfb hTa2 hTb2 hma hmb hfa hfb fa fb hs5
        unfold lfCs at *
        go_enter Try.func5, Try.ntmps5
        go_upto_region 1 with fail
        rw [← hw1, ← hw2]
        clear hw1 hw2
        go_wp2_with fail
        refine (H.out.1 _ X2).mono ?_
        rintro e w3 ⟨rfl, hb⟩
        have X3 := X2.call hb
        clear hb
        try clear c0 c1 c2 c3 c4 d0 d1 d2 d3 d4
        obtain ⟨c0, c1, c2, c3, c4⟩ := lf_cell (l := a) X3.r0
        obtain ⟨d0, d1, d2, d3, d4⟩ := lf_cell (l := b) X3.r1
        go_wp2_with fail
        refine (H.out.2 _ X3).mono ?_
        rintro e w4 ⟨rfl, hb⟩
        have X4 := X3.call hb
        clear hb
        try clear c0 c1 c2 c3 c4 d0 d1 d2 d3 d4
        obtain ⟨c0, c1, c2, c3, c4⟩ := lf_cell (l := a) X4.r0
        obtain ⟨d0, d1, d2, d3, d4⟩ := lf_cell (l := b) X4.r1
        go_wp2_with fail
        refine (awake17_any _).mono ?_
        rintro e w5 ⟨rfl, hb⟩
        have X5 := X4.call hb
        clear hb
        try clear c0 c1 c2 c3 c4 d0 d1 d2 d3 d4
        go_wp2_with fail
        go_ret
        exact ⟨rfl, HB.out.trans (X5.below.mono HB.out.size)⟩
      have e1 : decide ((1500 : Int) < (s.size : Int)) = false := decide_eq_false (by omega)
      have kca := fun W (h : Bx2 w2 w.heap.size (w.heap.size + 1) (lfCs a pa ka) (lfCs b pb kb) W) => check17_any a pa ka (by omega) W (hTa2.below h.below)
      have kcb := fun W (h : Bx2 w2 w.heap.size (w.heap.size + 1) (lfCs a pa ka) (lfCs b pb kb) W) => check17_any b pb kb (by omega) W (hTb2.below h.below)
      have kta := fun W (h : Bx2 w2 w.heap.size (w.heap.size + 1) (lfCs a pa ka) (lfCs b pb kb) W) => text17_any a pa ka (by omega) W (hTa2.below h.below)
      have ktb := fun W (h : Bx2 w2 w.heap.size (w.heap.size + 1) (lfCs a pa ka) (lfCs b pb kb) W) => text17_any b pb kb (by omega) W (hTb2.below h.below)
      have ksb := fun W (h : Bx2 w2 w.heap.size (w.heap.size + 1) (lfCs a pa ka) (lfCs b pb kb) W) => same17_any a b pa pb ka kb W (hTa2.below h.below) (hTb2.below h.below) (by omega) (by omega)
      have ksx := fun W (h : Bx2 w2 w.heap.size (w.heap.size + 1) (lfCs a pa ka) (lfCs b pb kb) W) q c (hq : PoAt W q a.tags) => same17_any a a pa q ka c W (hTa2.below h.below) hq (by omega) (by omega)
      rw [sameL_iff.2 rfl] at ksx
      obtain ⟨Sa, hSa⟩ : ∃ S, S = lfS a := ⟨_, rfl⟩
      obtain ⟨Sb, hSb⟩ : ∃ S, S = lfS b := ⟨_, rfl⟩
      obtain ⟨M, hM⟩ : ∃ M, M = sameL a b := ⟨_, rfl⟩
      have krd := fun W => read17_any s (by omega) W
      have kra := fun W => read17_any Sa (by rw [hSa]; exact Nat.le_trans (lfS_size a) (by decide)) W
      rw [← hSa] at kta
      rw [← hSb] at ktb
      rw [← hM] at ksb
      obtain ⟨Ba, hBa⟩ : ∃ B, B = lfB a := ⟨_, rfl⟩
      obtain ⟨Bb, hBb⟩ : ∃ B, B = lfB b := ⟨_, rfl⟩
      rw [← hBa] at kca
      rw [← hBb] at kcb
      have hra : Ba = true → rdL Sa = (a, 0) := fun h => by rw [hSa]; exact rdL_ok (hBa.symm.trans h)
      have heq : Ba = true → Bb = true → (Sa.toList == Sb.toList) = M := fun h1 h2 => by rw [hSa, hSb, hM]; exact lfS_eq (hBa.symm.trans h1) (hBb.symm.trans h2)
      have H := Lib.hid (And.intro cfa (And.intro cfb (And.intro kca (And.intro kcb (And.intro kta (And.intro ktb (And.intro ksb (And.intro ksx (And.intro krd (And.intro kra (And.intro hra heq)))))))))))
      clear cfa cfb kca kcb kta ktb ksb ksx krd kra hra heq hTa2 hTb2 hma hmb hfa hfb fa fb hs5 hSa hSb hM hBa hBb
      cases Ba with
      | false =>
        unfold lfCs at *
        go_enter Try.func5, Try.ntmps5
        go_upto_region 1 with fail
        rw [← hw1, ← hw2]
        clear hw1 hw2
        go_wp2_with fail
        refine (H.out.1 _ X2).mono ?_
        rintro e w3 ⟨rfl, hb⟩
        have X3 := X2.call hb
        clear hb
        try clear c0 c1 c2 c3 c4 d0 d1 d2 d3 d4
        obtain ⟨c0, c1, c2, c3, c4⟩ := lf_cell (l := a) X3.r0
        obtain ⟨d0, d1, d2, d3, d4⟩ := lf_cell (l := b) X3.r1
        go_wp2_with fail
        refine (H.out.2.1 _ X3).mono ?_
        rintro e w4 ⟨rfl, hb⟩
        have X4 := X3.call hb
        clear hb
        try clear c0 c1 c2 c3 c4 d0 d1 d2 d3 d4
        obtain ⟨c0, c1, c2, c3, c4⟩ := lf_cell (l := a) X4.r0
        obtain ⟨d0, d1, d2, d3, d4⟩ := lf_cell (l := b) X4.r1
        go_wp2_with fail
        refine (H.out.2.2.1 _ X4).mono ?_
        rintro e w5 ⟨rfl, hb⟩
        have X5 := X4.call hb
        clear hb
        try clear c0 c1 c2 c3 c4 d0 d1 d2 d3 d4
        obtain ⟨c0, c1, c2, c3, c4⟩ := lf_cell (l := a) X5.r0
        obtain ⟨d0, d1, d2, d3, d4⟩ := lf_cell (l := b) X5.r1
        go_upto_region 7 with fail
        try clear c0 c1 c2 c3 c4 d0 d1 d2 d3 d4
        go_wp2_with fail
        refine wp_region_held (S := fun W : World => Bx2 w2 w.heap.size (w.heap.size + 1) (lfCs a pa ka) (lfCs b pb kb) W) (by kernel_rfl) ?_
        change wpAnyH _ _ _ _ _ _ _ _ (World.drew _)
        generalize hv0 : World.drew _ = v0
        have E0 : Bx2 w2 w.heap.size (w.heap.size + 1) (lfCs a pa ka) (lfCs b pb kb) v0 := by rw [← hv0]; exact X5.drew
        have F0 : Below w2.heap.size w2 v0 := by rw [← hv0]; exact X5.below.drew
        clear hv0
        refine wpAnyH_take (i := 0) (v := ?_) rfl (by kernel_rfl) (by kernel_rfl) (by kernel_rfl) (fun _ _ _ h => h) (Or.inl ⟨by kernel_rfl, ?_⟩) E0 ?_
        rotate_left
        · (intro W hS; obtain ⟨k0, k1, k2, k3, k4⟩ := lf_cell (l := a) hS.r0; obtain ⟨m0, m1, m2, m3, m4⟩ := lf_cell (l := b) hS.r1; clear hS; go_simp; try (with_reducible rfl))
        refine wpAnyH_ready (rs := [1]) (by kernel_rfl) (by simp) ?_
        refine AllReadyH.cons rfl (fun K hK => ?_) AllReadyH.nil
        go_simp
        refine (H.out.2.2.1 v0 E0).mono ?_
        rintro e v1 ⟨rfl, hb⟩
        have F1 := F0.trans (hb.mono F0.size)
        have E1 : Bx2 w2 w.heap.size (w.heap.size + 1) (lfCs a pa ka) (lfCs b pb kb) v1 := E0.call hb
        refine hK.out _ _ E1 (fun _ => ?_)
        clear hK K hb
        refine wpAnyH_take (i := 2) (v := ?_) rfl (by kernel_rfl) (by kernel_rfl) (by kernel_rfl) (fun _ _ _ h => h) (Or.inl ⟨by kernel_rfl, ?_⟩) E1 ?_
        rotate_left
        · (intro W hS; obtain ⟨k0, k1, k2, k3, k4⟩ := lf_cell (l := a) hS.r0; obtain ⟨m0, m1, m2, m3, m4⟩ := lf_cell (l := b) hS.r1; clear hS; go_simp; try (with_reducible rfl))
        refine wpAnyH_take (i := 3) (v := undef) rfl (by kernel_rfl) (by kernel_rfl) (by kernel_rfl) (fun _ _ _ h => h) (Or.inr ⟨by kernel_rfl, rfl⟩) E1 ?_
        refine wpAnyH_take (i := 4) (v := undef) rfl (by kernel_rfl) (by kernel_rfl) (by kernel_rfl) (fun _ _ _ h => h) (Or.inr ⟨by kernel_rfl, rfl⟩) E1 ?_
        refine wpAnyH_take (i := 5) (v := ?_) rfl (by kernel_rfl) (by kernel_rfl) (by kernel_rfl) (fun _ _ _ h => h) (Or.inl ⟨by kernel_rfl, ?_⟩) E1 ?_
        rotate_left
        · (intro W hS; obtain ⟨k0, k1, k2, k3, k4⟩ := lf_cell (l := a) hS.r0; obtain ⟨m0, m1, m2, m3, m4⟩ := lf_cell (l := b) hS.r1; clear hS; go_simp; try (with_reducible rfl))
        refine wpAnyH_take (i := 6) (v := ?_) rfl (by kernel_rfl) (by kernel_rfl) (by kernel_rfl) (fun _ _ _ h => h) (Or.inl ⟨by kernel_rfl, ?_⟩) E1 ?_
        rotate_left
        · (intro W hS; obtain ⟨k0, k1, k2, k3, k4⟩ := lf_cell (l := a) hS.r0; obtain ⟨m0, m1, m2, m3, m4⟩ := lf_cell (l := b) hS.r1; clear hS; go_simp; try (with_reducible rfl))
        refine wpAnyH_take (i := 7) (v := undef) rfl (by kernel_rfl) (by kernel_rfl) (by kernel_rfl) (fun _ _ _ h => h) (Or.inr ⟨by kernel_rfl, rfl⟩) E1 ?_
        refine wpAnyH_take (i := 8) (v := undef) rfl (by kernel_rfl) (by kernel_rfl) (by kernel_rfl) (fun _ _ _ h => h) (Or.inr ⟨by kernel_rfl, rfl⟩) E1 ?_
        refine wpAnyH_take (i := 9) (v := undef) rfl (by kernel_rfl) (by kernel_rfl) (by kernel_rfl) (fun _ _ _ h => h) (Or.inr ⟨by kernel_rfl, rfl⟩) E1 ?_
        refine wpAnyH_take (i := 10) (v := undef) rfl (by kernel_rfl) (by kernel_rfl) (by kernel_rfl) (fun _ _ _ h => h) (Or.inr ⟨by kernel_rfl, rfl⟩) E1 ?_
        refine wpAnyH_take (i := 11) (v := undef) rfl (by kernel_rfl) (by kernel_rfl) (by kernel_rfl) (fun _ _ _ h => h) (Or.inr ⟨by kernel_rfl, rfl⟩) E1 ?_
        refine wpAnyH_take (i := 12) (v := undef) rfl (by kernel_rfl) (by kernel_rfl) (by kernel_rfl) (fun _ _ _ h => h) (Or.inr ⟨by kernel_rfl, rfl⟩) E1 ?_
        refine wpAnyH_take (i := 13) (v := undef) rfl (by kernel_rfl) (by kernel_rfl) (by kernel_rfl) (fun _ _ _ h => h) (Or.inr ⟨by kernel_rfl, rfl⟩) E1 ?_
        refine wpAnyH_take (i := 14) (v := undef) rfl (by kernel_rfl) (by kernel_rfl) (by kernel_rfl) (fun _ _ _ h => h) (Or.inr ⟨by kernel_rfl, rfl⟩) E1 ?_
        refine wpAnyH_take (i := 15) (v := undef) rfl (by kernel_rfl) (by kernel_rfl) (by kernel_rfl) (fun _ _ _ h => h) (Or.inr ⟨by kernel_rfl, rfl⟩) E1 ?_
        refine wpAnyH_take (i := 16) (v := ?_) rfl (by kernel_rfl) (by kernel_rfl) (by kernel_rfl) (fun _ _ _ h => h) (Or.inl ⟨by kernel_rfl, ?_⟩) E1 ?_
        rotate_left
        · (intro W hS; obtain ⟨k0, k1, k2, k3, k4⟩ := lf_cell (l := a) hS.r0; obtain ⟨m0, m1, m2, m3, m4⟩ := lf_cell (l := b) hS.r1; clear hS; go_simp; try (with_reducible rfl))
        refine wpAnyH_done (by kernel_rfl) ?_ _
        go_simp
        have X6 := E1
        clear E0 F0 E1 F1
        go_wp2_with fail
        refine (H.out.2.2.2.2.2.2.2.2.1 _).mono ?_
        rintro e w7 ⟨pz, kz, rfl, hPz, hb⟩
        have X7 := X6.call hb
        clear hb
        try clear c0 c1 c2 c3 c4 d0 d1 d2 d3 d4
        rcases rdL_cases s with ⟨z, hz1, hz2, hz3⟩ | ⟨-, hz3⟩
        · rw [hz3] at hPz ⊢
          obtain ⟨v0, hv0⟩ : ∃ v, v = w7.alloc (.cells (lfCs z pz kz) 24) := ⟨_, rfl⟩
          have hb : Below w7.heap.size w7 v0 := by rw [hv0]; exact (Below.refl _ _).alloc (Nat.le_refl _) _
          have hgv : v0.heap[w7.heap.size]? = some (.cells (lfCs z pz kz) 24 (0, 0)) := by rw [hv0]; exact heap_alloc_new _ _
          have X8 := X7.call hb
          have hlz : z.tags.length ≤ 1000000000 := by have := (headB_iff.1 (lfB_iff.1 hz1).1).2.2.2.2.1; omega
          have kz1 := fun W (h : Below v0.heap.size v0 W) => text17_any z pz kz hlz W ((hPz.below hb).below h)
          have kz2 := fun W (h : Below v0.heap.size v0 W) => check17_any z pz kz hlz W ((hPz.below hb).below h)
          simp only [hz2] at kz1
          simp only [hz1] at kz2
          have hss : (s.toList == s.toList) = true := by simp
          have HZ := Lib.hid (And.intro kz1 (And.intro kz2 hgv))
          clear kz1 kz2 hz1 hz2 hz3 hlz hgv hPz hb
          unfold lfCs at *
          try simp only at hv0 ⊢
          go_upto_region 10 with fail
          rw [← hv0]
          clear hv0
          go_wp2_with fail
          refine (awake17_any _).mono ?_
          rintro e v1 ⟨rfl, hb⟩
          have Y1 := X8.call hb
          have HW := Lib.hid (And.intro hb ((hb.block _ (lt_of_heap HZ.out.2.2)).trans HZ.out.2.2))
          clear hb
          obtain ⟨e0, e1', e2, e3, e4⟩ := lf_cell (l := z) HW.out.2
          go_wp2_with fail
          refine (HZ.out.1 _ HW.out.1).mono ?_
          rintro e v2 ⟨rfl, hb⟩
          have Y2 := Y1.call hb
          have HW2 := Lib.hid (And.intro (HW.out.1.trans (hb.mono HW.out.1.size)) ((hb.block _ (lt_of_heap HW.out.2)).trans HW.out.2))
          clear hb e0 e1' e2 e3 e4
          obtain ⟨e0, e1', e2, e3, e4⟩ := lf_cell (l := z) HW2.out.2
          go_wp2_with fail
          refine (HZ.out.2.1 _ HW2.out.1).mono ?_
          rintro e v3 ⟨rfl, hb⟩
          have Y3 := Y2.call hb
          clear hb e0 e1' e2 e3 e4
          go_wp2_with fail
          go_ret
          exact ⟨rfl, HB.out.trans (Y3.below.mono HB.out.size)⟩
        · rw [hz3]
          obtain ⟨v0, hv0⟩ : ∃ v, v = w7.alloc (.cells (lfCs Lf.zero pz kz) 24) := ⟨_, rfl⟩
          have hb : Below w7.heap.size w7 v0 := by rw [hv0]; exact (Below.refl _ _).alloc (Nat.le_refl _) _
          have hgv : v0.heap[w7.heap.size]? = some (.cells (lfCs Lf.zero pz kz) 24 (0, 0)) := by rw [hv0]; exact heap_alloc_new _ _
          have X8 := X7.call hb
          clear hz3 hgv hPz hb
          unfold Lf.zero at hv0 ⊢
          unfold lfCs at *
          try simp only [List.length_nil] at hv0 ⊢
          go_upto_region 10 with fail
          rw [← hv0]
          clear hv0
          go_wp2_with fail
          refine (awake17_any _).mono ?_
          rintro e v1 ⟨rfl, hb⟩
          have Y1 := X8.call hb
          clear hb
          go_wp2_with fail
          go_ret
          exact ⟨rfl, HB.out.trans (Y1.below.mono HB.out.size)⟩
      | true =>
        have hra := H.out.2.2.2.2.2.2.2.2.2.2.1 rfl
        have HR := Lib.hid hra
        clear hra
        cases Bb with
        | false =>
          unfold lfCs at *
          go_enter Try.func5, Try.ntmps5
          go_upto_region 1 with fail
          rw [← hw1, ← hw2]
          clear hw1 hw2
          go_wp2_with fail
          refine (H.out.1 _ X2).mono ?_
          rintro e w3 ⟨rfl, hb⟩
          have X3 := X2.call hb
          clear hb
          try clear c0 c1 c2 c3 c4 d0 d1 d2 d3 d4
          obtain ⟨c0, c1, c2, c3, c4⟩ := lf_cell (l := a) X3.r0
          obtain ⟨d0, d1, d2, d3, d4⟩ := lf_cell (l := b) X3.r1
          go_wp2_with fail
          refine (H.out.2.1 _ X3).mono ?_
          rintro e w4 ⟨rfl, hb⟩
          have X4 := X3.call hb
          clear hb
          try clear c0 c1 c2 c3 c4 d0 d1 d2 d3 d4
          obtain ⟨c0, c1, c2, c3, c4⟩ := lf_cell (l := a) X4.r0
          obtain ⟨d0, d1, d2, d3, d4⟩ := lf_cell (l := b) X4.r1
          go_wp2_with fail
          refine (H.out.2.2.1 _ X4).mono ?_
          rintro e w5 ⟨rfl, hb⟩
          have X5 := X4.call hb
          clear hb
          try clear c0 c1 c2 c3 c4 d0 d1 d2 d3 d4
          obtain ⟨c0, c1, c2, c3, c4⟩ := lf_cell (l := a) X5.r0
          obtain ⟨d0, d1, d2, d3, d4⟩ := lf_cell (l := b) X5.r1
          go_wp2_with fail
          refine (H.out.2.2.2.2.1 _ X5).mono ?_
          rintro e w6 ⟨rfl, hb⟩
          have X6 := X5.call hb
          clear hb
          try clear c0 c1 c2 c3 c4 d0 d1 d2 d3 d4
          obtain ⟨c0, c1, c2, c3, c4⟩ := lf_cell (l := a) X6.r0
          obtain ⟨d0, d1, d2, d3, d4⟩ := lf_cell (l := b) X6.r1
          go_wp2_with fail
          refine (H.out.2.2.2.2.2.2.2.2.2.1 _).mono ?_
          rintro e w7 ⟨pq, kq, rfl, hPq, hb⟩
          have X7 := X6.call hb
          clear hb
          try clear c0 c1 c2 c3 c4 d0 d1 d2 d3 d4
          rw [HR.out] at hPq ⊢
          obtain ⟨w8, hw8⟩ : ∃ v, v = w7.alloc (.cells (lfCs a pq kq) 24) := ⟨_, rfl⟩
          have hb : Below w7.heap.size w7 w8 := by rw [hw8]; exact (Below.refl _ _).alloc (Nat.le_refl _) _
          have hg8 : w8.heap[w7.heap.size]? = some (.cells (lfCs a pq kq) 24 (0, 0)) := by rw [hw8]; exact heap_alloc_new _ _
          have X8 := X7.call hb
          have ks8 := H.out.2.2.2.2.2.2.2.1 w8 X8 pq kq (hPq.below hb)
          have H8 := Lib.hid ks8
          obtain ⟨c0, c1, c2, c3, c4⟩ := lf_cell (l := a) X8.r0
          obtain ⟨d0, d1, d2, d3, d4⟩ := lf_cell (l := b) X8.r1
          obtain ⟨q0, q1, q2, q3, q4⟩ := lf_cell (l := a) hg8
          clear ks8 hb hg8 hPq
          unfold lfCs at *
          go_upto_region 5 with fail
          rw [← hw8]
          clear hw8
          go_wp2_with fail
          refine H8.out.mono ?_
          rintro e w9 ⟨rfl, hb⟩
          have X9 := X8.call hb
          clear hb q0 q1 q2 q3 q4
          try clear c0 c1 c2 c3 c4 d0 d1 d2 d3 d4
          go_upto_region 7 with fail
          try clear c0 c1 c2 c3 c4 d0 d1 d2 d3 d4
          go_wp2_with fail
          refine wp_region_held (S := fun W : World => Bx2 w2 w.heap.size (w.heap.size + 1) (lfCs a pa ka) (lfCs b pb kb) W) (by kernel_rfl) ?_
          change wpAnyH _ _ _ _ _ _ _ _ (World.drew _)
          generalize hv0 : World.drew _ = v0
          have E0 : Bx2 w2 w.heap.size (w.heap.size + 1) (lfCs a pa ka) (lfCs b pb kb) v0 := by rw [← hv0]; exact X9.drew
          have F0 : Below w2.heap.size w2 v0 := by rw [← hv0]; exact X9.below.drew
          clear hv0
          refine wpAnyH_take (i := 0) (v := ?_) rfl (by kernel_rfl) (by kernel_rfl) (by kernel_rfl) (fun _ _ _ h => h) (Or.inl ⟨by kernel_rfl, ?_⟩) E0 ?_
          rotate_left
          · (intro W hS; obtain ⟨k0, k1, k2, k3, k4⟩ := lf_cell (l := a) hS.r0; obtain ⟨m0, m1, m2, m3, m4⟩ := lf_cell (l := b) hS.r1; clear hS; go_simp; try (with_reducible rfl))
          refine wpAnyH_ready (rs := [1]) (by kernel_rfl) (by simp) ?_
          refine AllReadyH.cons rfl (fun K hK => ?_) AllReadyH.nil
          go_simp
          refine (H.out.2.2.1 v0 E0).mono ?_
          rintro e v1 ⟨rfl, hb⟩
          have F1 := F0.trans (hb.mono F0.size)
          have E1 : Bx2 w2 w.heap.size (w.heap.size + 1) (lfCs a pa ka) (lfCs b pb kb) v1 := E0.call hb
          refine hK.out _ _ E1 (fun _ => ?_)
          clear hK K hb
          refine wpAnyH_take (i := 2) (v := ?_) rfl (by kernel_rfl) (by kernel_rfl) (by kernel_rfl) (fun _ _ _ h => h) (Or.inl ⟨by kernel_rfl, ?_⟩) E1 ?_
          rotate_left
          · (intro W hS; obtain ⟨k0, k1, k2, k3, k4⟩ := lf_cell (l := a) hS.r0; obtain ⟨m0, m1, m2, m3, m4⟩ := lf_cell (l := b) hS.r1; clear hS; go_simp; try (with_reducible rfl))
          refine wpAnyH_take (i := 3) (v := ?_) rfl (by kernel_rfl) (by kernel_rfl) (by kernel_rfl) (fun _ _ _ h => h) (Or.inl ⟨by kernel_rfl, ?_⟩) E1 ?_
          rotate_left
          · (intro W hS; obtain ⟨k0, k1, k2, k3, k4⟩ := lf_cell (l := a) hS.r0; obtain ⟨m0, m1, m2, m3, m4⟩ := lf_cell (l := b) hS.r1; clear hS; go_simp; try (with_reducible rfl))
          refine wpAnyH_ready (rs := [4]) (by kernel_rfl) (by simp) ?_
          refine AllReadyH.cons rfl (fun K hK => ?_) AllReadyH.nil
          go_simp
          refine (H.out.2.2.2.1 v1 E1).mono ?_
          rintro e v2 ⟨rfl, hb⟩
          have F2 := F1.trans (hb.mono F1.size)
          have E2 : Bx2 w2 w.heap.size (w.heap.size + 1) (lfCs a pa ka) (lfCs b pb kb) v2 := E1.call hb
          refine hK.out _ _ E2 (fun _ => ?_)
          clear hK K hb
          refine wpAnyH_take (i := 5) (v := ?_) rfl (by kernel_rfl) (by kernel_rfl) (by kernel_rfl) (fun _ _ _ h => h) (Or.inl ⟨by kernel_rfl, ?_⟩) E2 ?_
          rotate_left
          · (intro W hS; obtain ⟨k0, k1, k2, k3, k4⟩ := lf_cell (l := a) hS.r0; obtain ⟨m0, m1, m2, m3, m4⟩ := lf_cell (l := b) hS.r1; clear hS; go_simp; try (with_reducible rfl))
          refine wpAnyH_take (i := 6) (v := ?_) rfl (by kernel_rfl) (by kernel_rfl) (by kernel_rfl) (fun _ _ _ h => h) (Or.inl ⟨by kernel_rfl, ?_⟩) E2 ?_
          rotate_left
          · (intro W hS; obtain ⟨k0, k1, k2, k3, k4⟩ := lf_cell (l := a) hS.r0; obtain ⟨m0, m1, m2, m3, m4⟩ := lf_cell (l := b) hS.r1; clear hS; go_simp; try (with_reducible rfl))
          refine wpAnyH_take (i := 7) (v := undef) rfl (by kernel_rfl) (by kernel_rfl) (by kernel_rfl) (fun _ _ _ h => h) (Or.inr ⟨by kernel_rfl, rfl⟩) E2 ?_
          refine wpAnyH_take (i := 8) (v := undef) rfl (by kernel_rfl) (by kernel_rfl) (by kernel_rfl) (fun _ _ _ h => h) (Or.inr ⟨by kernel_rfl, rfl⟩) E2 ?_
          refine wpAnyH_take (i := 9) (v := undef) rfl (by kernel_rfl) (by kernel_rfl) (by kernel_rfl) (fun _ _ _ h => h) (Or.inr ⟨by kernel_rfl, rfl⟩) E2 ?_
          refine wpAnyH_take (i := 10) (v := undef) rfl (by kernel_rfl) (by kernel_rfl) (by kernel_rfl) (fun _ _ _ h => h) (Or.inr ⟨by kernel_rfl, rfl⟩) E2 ?_
          refine wpAnyH_take (i := 11) (v := undef) rfl (by kernel_rfl) (by kernel_rfl) (by kernel_rfl) (fun _ _ _ h => h) (Or.inr ⟨by kernel_rfl, rfl⟩) E2 ?_
          refine wpAnyH_take (i := 12) (v := undef) rfl (by kernel_rfl) (by kernel_rfl) (by kernel_rfl) (fun _ _ _ h => h) (Or.inr ⟨by kernel_rfl, rfl⟩) E2 ?_
          refine wpAnyH_take (i := 13) (v := undef) rfl (by kernel_rfl) (by kernel_rfl) (by kernel_rfl) (fun _ _ _ h => h) (Or.inr ⟨by kernel_rfl, rfl⟩) E2 ?_
          refine wpAnyH_take (i := 14) (v := undef) rfl (by kernel_rfl) (by kernel_rfl) (by kernel_rfl) (fun _ _ _ h => h) (Or.inr ⟨by kernel_rfl, rfl⟩) E2 ?_
          refine wpAnyH_take (i := 15) (v := undef) rfl (by kernel_rfl) (by kernel_rfl) (by kernel_rfl) (fun _ _ _ h => h) (Or.inr ⟨by kernel_rfl, rfl⟩) E2 ?_
          refine wpAnyH_take (i := 16) (v := ?_) rfl (by kernel_rfl) (by kernel_rfl) (by kernel_rfl) (fun _ _ _ h => h) (Or.inl ⟨by kernel_rfl, ?_⟩) E2 ?_
          rotate_left
          · (intro W hS; obtain ⟨k0, k1, k2, k3, k4⟩ := lf_cell (l := a) hS.r0; obtain ⟨m0, m1, m2, m3, m4⟩ := lf_cell (l := b) hS.r1; clear hS; go_simp; try (with_reducible rfl))
          refine wpAnyH_done (by kernel_rfl) ?_ _
          go_simp
          have X10 := E2
          clear E0 F0 E1 F1 E2 F2
          go_wp2_with fail
          refine (H.out.2.2.2.2.2.2.2.2.1 _).mono ?_
          rintro e w11 ⟨pz, kz, rfl, hPz, hb⟩
          have X11 := X10.call hb
          clear hb
          try clear c0 c1 c2 c3 c4 d0 d1 d2 d3 d4
          rcases rdL_cases s with ⟨z, hz1, hz2, hz3⟩ | ⟨-, hz3⟩
          · rw [hz3] at hPz ⊢
            obtain ⟨v0, hv0⟩ : ∃ v, v = w11.alloc (.cells (lfCs z pz kz) 24) := ⟨_, rfl⟩
            have hb : Below w11.heap.size w11 v0 := by rw [hv0]; exact (Below.refl _ _).alloc (Nat.le_refl _) _
            have hgv : v0.heap[w11.heap.size]? = some (.cells (lfCs z pz kz) 24 (0, 0)) := by rw [hv0]; exact heap_alloc_new _ _
            have X12 := X11.call hb
            have hlz : z.tags.length ≤ 1000000000 := by have := (headB_iff.1 (lfB_iff.1 hz1).1).2.2.2.2.1; omega
            have kz1 := fun W (h : Below v0.heap.size v0 W) => text17_any z pz kz hlz W ((hPz.below hb).below h)
            have kz2 := fun W (h : Below v0.heap.size v0 W) => check17_any z pz kz hlz W ((hPz.below hb).below h)
            simp only [hz2] at kz1
            simp only [hz1] at kz2
            have hss : (s.toList == s.toList) = true := by simp
            have HZ := Lib.hid (And.intro kz1 (And.intro kz2 hgv))
            clear kz1 kz2 hz1 hz2 hz3 hlz hgv hPz hb
            unfold lfCs at *
            try simp only at hv0 ⊢
            go_upto_region 10 with fail
            rw [← hv0]
            clear hv0
            go_wp2_with fail
            refine (awake17_any _).mono ?_
            rintro e v1 ⟨rfl, hb⟩
            have Y1 := X12.call hb
            have HW := Lib.hid (And.intro hb ((hb.block _ (lt_of_heap HZ.out.2.2)).trans HZ.out.2.2))
            clear hb
            obtain ⟨e0, e1', e2, e3, e4⟩ := lf_cell (l := z) HW.out.2
            go_wp2_with fail
            refine (HZ.out.1 _ HW.out.1).mono ?_
            rintro e v2 ⟨rfl, hb⟩
            have Y2 := Y1.call hb
            have HW2 := Lib.hid (And.intro (HW.out.1.trans (hb.mono HW.out.1.size)) ((hb.block _ (lt_of_heap HW.out.2)).trans HW.out.2))
            clear hb e0 e1' e2 e3 e4
            obtain ⟨e0, e1', e2, e3, e4⟩ := lf_cell (l := z) HW2.out.2
            go_wp2_with fail
            refine (HZ.out.2.1 _ HW2.out.1).mono ?_
            rintro e v3 ⟨rfl, hb⟩
            have Y3 := Y2.call hb
            clear hb e0 e1' e2 e3 e4
            go_wp2_with fail
            go_ret
            exact ⟨rfl, HB.out.trans (Y3.below.mono HB.out.size)⟩
          · rw [hz3]
            obtain ⟨v0, hv0⟩ : ∃ v, v = w11.alloc (.cells (lfCs Lf.zero pz kz) 24) := ⟨_, rfl⟩
            have hb : Below w11.heap.size w11 v0 := by rw [hv0]; exact (Below.refl _ _).alloc (Nat.le_refl _) _
            have hgv : v0.heap[w11.heap.size]? = some (.cells (lfCs Lf.zero pz kz) 24 (0, 0)) := by rw [hv0]; exact heap_alloc_new _ _
            have X12 := X11.call hb
            clear hz3 hgv hPz hb
            unfold Lf.zero at hv0 ⊢
            unfold lfCs at *
            try simp only [List.length_nil] at hv0 ⊢
            go_upto_region 10 with fail
            rw [← hv0]
            clear hv0
            go_wp2_with fail
            refine (awake17_any _).mono ?_
            rintro e v1 ⟨rfl, hb⟩
            have Y1 := X12.call hb
            clear hb
            go_wp2_with fail
            go_ret
            exact ⟨rfl, HB.out.trans (Y1.below.mono HB.out.size)⟩
        | true =>
          have heq := H.out.2.2.2.2.2.2.2.2.2.2.2 rfl rfl
          have hne : (M != M) = false := by simp
          unfold lfCs at *
          go_enter Try.func5, Try.ntmps5
          go_upto_region 1 with fail
          rw [← hw1, ← hw2]
          clear hw1 hw2
          go_wp2_with fail
          refine (H.out.1 _ X2).mono ?_
          rintro e w3 ⟨rfl, hb⟩
          have X3 := X2.call hb
          clear hb
          try clear c0 c1 c2 c3 c4 d0 d1 d2 d3 d4
          obtain ⟨c0, c1, c2, c3, c4⟩ := lf_cell (l := a) X3.r0
          obtain ⟨d0, d1, d2, d3, d4⟩ := lf_cell (l := b) X3.r1
          go_wp2_with fail
          refine (H.out.2.1 _ X3).mono ?_
          rintro e w4 ⟨rfl, hb⟩
          have X4 := X3.call hb
          clear hb
          try clear c0 c1 c2 c3 c4 d0 d1 d2 d3 d4
          obtain ⟨c0, c1, c2, c3, c4⟩ := lf_cell (l := a) X4.r0
          obtain ⟨d0, d1, d2, d3, d4⟩ := lf_cell (l := b) X4.r1
          go_wp2_with fail
          refine (H.out.2.2.1 _ X4).mono ?_
          rintro e w5 ⟨rfl, hb⟩
          have X5 := X4.call hb
          clear hb
          try clear c0 c1 c2 c3 c4 d0 d1 d2 d3 d4
          obtain ⟨c0, c1, c2, c3, c4⟩ := lf_cell (l := a) X5.r0
          obtain ⟨d0, d1, d2, d3, d4⟩ := lf_cell (l := b) X5.r1
          go_wp2_with fail
          refine (H.out.2.2.2.2.1 _ X5).mono ?_
          rintro e w6 ⟨rfl, hb⟩
          have X6 := X5.call hb
          clear hb
          try clear c0 c1 c2 c3 c4 d0 d1 d2 d3 d4
          obtain ⟨c0, c1, c2, c3, c4⟩ := lf_cell (l := a) X6.r0
          obtain ⟨d0, d1, d2, d3, d4⟩ := lf_cell (l := b) X6.r1
          go_wp2_with fail
          refine (H.out.2.2.2.2.2.2.2.2.2.1 _).mono ?_
          rintro e w7 ⟨pq, kq, rfl, hPq, hb⟩
          have X7 := X6.call hb
          clear hb
          try clear c0 c1 c2 c3 c4 d0 d1 d2 d3 d4
          rw [HR.out] at hPq ⊢
          obtain ⟨w8, hw8⟩ : ∃ v, v = w7.alloc (.cells (lfCs a pq kq) 24) := ⟨_, rfl⟩
          have hb : Below w7.heap.size w7 w8 := by rw [hw8]; exact (Below.refl _ _).alloc (Nat.le_refl _) _
          have hg8 : w8.heap[w7.heap.size]? = some (.cells (lfCs a pq kq) 24 (0, 0)) := by rw [hw8]; exact heap_alloc_new _ _
          have X8 := X7.call hb
          have ks8 := H.out.2.2.2.2.2.2.2.1 w8 X8 pq kq (hPq.below hb)
          have H8 := Lib.hid ks8
          obtain ⟨c0, c1, c2, c3, c4⟩ := lf_cell (l := a) X8.r0
          obtain ⟨d0, d1, d2, d3, d4⟩ := lf_cell (l := b) X8.r1
          obtain ⟨q0, q1, q2, q3, q4⟩ := lf_cell (l := a) hg8
          clear ks8 hb hg8 hPq
          unfold lfCs at *
          go_upto_region 5 with fail
          rw [← hw8]
          clear hw8
          go_wp2_with fail
          refine H8.out.mono ?_
          rintro e w9 ⟨rfl, hb⟩
          have X9 := X8.call hb
          clear hb q0 q1 q2 q3 q4
          try clear c0 c1 c2 c3 c4 d0 d1 d2 d3 d4
          go_upto_region 7 with fail
          try clear c0 c1 c2 c3 c4 d0 d1 d2 d3 d4
          go_wp2_with fail
          refine wp_region_held (S := fun W : World => Bx2 w2 w.heap.size (w.heap.size + 1) (lfCs a pa ka) (lfCs b pb kb) W) (by kernel_rfl) ?_
          change wpAnyH _ _ _ _ _ _ _ _ (World.drew _)
          generalize hv0 : World.drew _ = v0
          have E0 : Bx2 w2 w.heap.size (w.heap.size + 1) (lfCs a pa ka) (lfCs b pb kb) v0 := by rw [← hv0]; exact X9.drew
          have F0 : Below w2.heap.size w2 v0 := by rw [← hv0]; exact X9.below.drew
          clear hv0
          refine wpAnyH_take (i := 0) (v := ?_) rfl (by kernel_rfl) (by kernel_rfl) (by kernel_rfl) (fun _ _ _ h => h) (Or.inl ⟨by kernel_rfl, ?_⟩) E0 ?_
          rotate_left
          · (intro W hS; obtain ⟨k0, k1, k2, k3, k4⟩ := lf_cell (l := a) hS.r0; obtain ⟨m0, m1, m2, m3, m4⟩ := lf_cell (l := b) hS.r1; clear hS; go_simp; try (with_reducible rfl))
          refine wpAnyH_ready (rs := [1]) (by kernel_rfl) (by simp) ?_
          refine AllReadyH.cons rfl (fun K hK => ?_) AllReadyH.nil
          go_simp
          refine (H.out.2.2.1 v0 E0).mono ?_
          rintro e v1 ⟨rfl, hb⟩
          have F1 := F0.trans (hb.mono F0.size)
          have E1 : Bx2 w2 w.heap.size (w.heap.size + 1) (lfCs a pa ka) (lfCs b pb kb) v1 := E0.call hb
          refine hK.out _ _ E1 (fun _ => ?_)
          clear hK K hb
          refine wpAnyH_take (i := 2) (v := ?_) rfl (by kernel_rfl) (by kernel_rfl) (by kernel_rfl) (fun _ _ _ h => h) (Or.inl ⟨by kernel_rfl, ?_⟩) E1 ?_
          rotate_left
          · (intro W hS; obtain ⟨k0, k1, k2, k3, k4⟩ := lf_cell (l := a) hS.r0; obtain ⟨m0, m1, m2, m3, m4⟩ := lf_cell (l := b) hS.r1; clear hS; go_simp; try (with_reducible rfl))
          refine wpAnyH_take (i := 3) (v := ?_) rfl (by kernel_rfl) (by kernel_rfl) (by kernel_rfl) (fun _ _ _ h => h) (Or.inl ⟨by kernel_rfl, ?_⟩) E1 ?_
          rotate_left
          · (intro W hS; obtain ⟨k0, k1, k2, k3, k4⟩ := lf_cell (l := a) hS.r0; obtain ⟨m0, m1, m2, m3, m4⟩ := lf_cell (l := b) hS.r1; clear hS; go_simp; try (with_reducible rfl))
          refine wpAnyH_ready (rs := [4]) (by kernel_rfl) (by simp) ?_
          refine AllReadyH.cons rfl (fun K hK => ?_) AllReadyH.nil
          go_simp
          refine (H.out.2.2.2.1 v1 E1).mono ?_
          rintro e v2 ⟨rfl, hb⟩
          have F2 := F1.trans (hb.mono F1.size)
          have E2 : Bx2 w2 w.heap.size (w.heap.size + 1) (lfCs a pa ka) (lfCs b pb kb) v2 := E1.call hb
          refine hK.out _ _ E2 (fun _ => ?_)
          clear hK K hb
          refine wpAnyH_take (i := 5) (v := ?_) rfl (by kernel_rfl) (by kernel_rfl) (by kernel_rfl) (fun _ _ _ h => h) (Or.inl ⟨by kernel_rfl, ?_⟩) E2 ?_
          rotate_left
          · (intro W hS; obtain ⟨k0, k1, k2, k3, k4⟩ := lf_cell (l := a) hS.r0; obtain ⟨m0, m1, m2, m3, m4⟩ := lf_cell (l := b) hS.r1; clear hS; go_simp; try (with_reducible rfl))
          refine wpAnyH_take (i := 6) (v := ?_) rfl (by kernel_rfl) (by kernel_rfl) (by kernel_rfl) (fun _ _ _ h => h) (Or.inl ⟨by kernel_rfl, ?_⟩) E2 ?_
          rotate_left
          · (intro W hS; obtain ⟨k0, k1, k2, k3, k4⟩ := lf_cell (l := a) hS.r0; obtain ⟨m0, m1, m2, m3, m4⟩ := lf_cell (l := b) hS.r1; clear hS; go_simp; try (with_reducible rfl))
          refine wpAnyH_take (i := 7) (v := ?_) rfl (by kernel_rfl) (by kernel_rfl) (by kernel_rfl) (fun _ _ _ h => h) (Or.inl ⟨by kernel_rfl, ?_⟩) E2 ?_
          rotate_left
          · (intro W hS; obtain ⟨k0, k1, k2, k3, k4⟩ := lf_cell (l := a) hS.r0; obtain ⟨m0, m1, m2, m3, m4⟩ := lf_cell (l := b) hS.r1; clear hS; go_simp; try (with_reducible rfl))
          refine wpAnyH_take (i := 9) (v := ?_) rfl (by kernel_rfl) (by kernel_rfl) (by kernel_rfl) (fun _ _ _ h => h) (Or.inl ⟨by kernel_rfl, ?_⟩) E2 ?_
          rotate_left
          · (intro W hS; obtain ⟨k0, k1, k2, k3, k4⟩ := lf_cell (l := a) hS.r0; obtain ⟨m0, m1, m2, m3, m4⟩ := lf_cell (l := b) hS.r1; clear hS; go_simp; try (with_reducible rfl))
          refine wpAnyH_take (i := 12) (v := ?_) rfl (by kernel_rfl) (by kernel_rfl) (by kernel_rfl) (fun _ _ _ h => h) (Or.inl ⟨by kernel_rfl, ?_⟩) E2 ?_
          rotate_left
          · (intro W hS; obtain ⟨k0, k1, k2, k3, k4⟩ := lf_cell (l := a) hS.r0; obtain ⟨m0, m1, m2, m3, m4⟩ := lf_cell (l := b) hS.r1; clear hS; go_simp; try (with_reducible rfl))
          refine wpAnyH_take (i := 13) (v := ?_) rfl (by kernel_rfl) (by kernel_rfl) (by kernel_rfl) (fun _ _ _ h => h) (Or.inl ⟨by kernel_rfl, ?_⟩) E2 ?_
          rotate_left
          · (intro W hS; obtain ⟨k0, k1, k2, k3, k4⟩ := lf_cell (l := a) hS.r0; obtain ⟨m0, m1, m2, m3, m4⟩ := lf_cell (l := b) hS.r1; clear hS; go_simp; try (with_reducible rfl))
          refine wpAnyH_ready (rs := [8]) (by kernel_rfl) (by simp) ?_
          refine AllReadyH.cons rfl (fun K hK => ?_) AllReadyH.nil
          go_simp
          refine (H.out.2.2.2.2.1 v2 E2).mono ?_
          rintro e v3 ⟨rfl, hb⟩
          have F3 := F2.trans (hb.mono F2.size)
          have E3 : Bx2 w2 w.heap.size (w.heap.size + 1) (lfCs a pa ka) (lfCs b pb kb) v3 := E2.call hb
          refine hK.out _ _ E3 (fun _ => ?_)
          clear hK K hb
          refine wpAnyH_ready (rs := [10]) (by kernel_rfl) (by simp) ?_
          refine AllReadyH.cons rfl (fun K hK => ?_) AllReadyH.nil
          go_simp
          refine (H.out.2.2.2.2.2.1 v3 E3).mono ?_
          rintro e v4 ⟨rfl, hb⟩
          have F4 := F3.trans (hb.mono F3.size)
          have E4 : Bx2 w2 w.heap.size (w.heap.size + 1) (lfCs a pa ka) (lfCs b pb kb) v4 := E3.call hb
          refine hK.out _ _ E4 (fun _ => ?_)
          clear hK K hb
          refine wpAnyH_take (i := 11) (v := ?_) rfl (by kernel_rfl) (by kernel_rfl) (by kernel_rfl) (fun _ _ _ h => h) (Or.inl ⟨by kernel_rfl, ?_⟩) E4 ?_
          rotate_left
          · (intro W hS; obtain ⟨k0, k1, k2, k3, k4⟩ := lf_cell (l := a) hS.r0; obtain ⟨m0, m1, m2, m3, m4⟩ := lf_cell (l := b) hS.r1; clear hS; go_simp; try (with_reducible rfl))
          refine wpAnyH_ready (rs := [14]) (by kernel_rfl) (by simp) ?_
          refine AllReadyH.cons rfl (fun K hK => ?_) AllReadyH.nil
          go_simp
          refine (H.out.2.2.2.2.2.2.1 v4 E4).mono ?_
          rintro e v5 ⟨rfl, hb⟩
          have F5 := F4.trans (hb.mono F4.size)
          have E5 : Bx2 w2 w.heap.size (w.heap.size + 1) (lfCs a pa ka) (lfCs b pb kb) v5 := E4.call hb
          refine hK.out _ _ E5 (fun _ => ?_)
          clear hK K hb
          refine wpAnyH_take (i := 15) (v := ?_) rfl (by kernel_rfl) (by kernel_rfl) (by kernel_rfl) (fun _ _ _ h => h) (Or.inl ⟨by kernel_rfl, ?_⟩) E5 ?_
          rotate_left
          · (intro W hS; obtain ⟨k0, k1, k2, k3, k4⟩ := lf_cell (l := a) hS.r0; obtain ⟨m0, m1, m2, m3, m4⟩ := lf_cell (l := b) hS.r1; clear hS; go_simp; try (with_reducible rfl))
          refine wpAnyH_take (i := 16) (v := ?_) rfl (by kernel_rfl) (by kernel_rfl) (by kernel_rfl) (fun _ _ _ h => h) (Or.inl ⟨by kernel_rfl, ?_⟩) E5 ?_
          rotate_left
          · (intro W hS; obtain ⟨k0, k1, k2, k3, k4⟩ := lf_cell (l := a) hS.r0; obtain ⟨m0, m1, m2, m3, m4⟩ := lf_cell (l := b) hS.r1; clear hS; go_simp; try (with_reducible rfl))
          refine wpAnyH_done (by kernel_rfl) ?_ _
          go_simp
          have X10 := E5
          clear E0 F0 E1 F1 E2 F2 E3 F3 E4 F4 E5 F5
          go_wp2_with fail
          refine (H.out.2.2.2.2.2.2.2.2.1 _).mono ?_
          rintro e w11 ⟨pz, kz, rfl, hPz, hb⟩
          have X11 := X10.call hb
          clear hb
          try clear c0 c1 c2 c3 c4 d0 d1 d2 d3 d4
          rcases rdL_cases s with ⟨z, hz1, hz2, hz3⟩ | ⟨-, hz3⟩
          · rw [hz3] at hPz ⊢
            obtain ⟨v0, hv0⟩ : ∃ v, v = w11.alloc (.cells (lfCs z pz kz) 24) := ⟨_, rfl⟩
            have hb : Below w11.heap.size w11 v0 := by rw [hv0]; exact (Below.refl _ _).alloc (Nat.le_refl _) _
            have hgv : v0.heap[w11.heap.size]? = some (.cells (lfCs z pz kz) 24 (0, 0)) := by rw [hv0]; exact heap_alloc_new _ _
            have X12 := X11.call hb
            have hlz : z.tags.length ≤ 1000000000 := by have := (headB_iff.1 (lfB_iff.1 hz1).1).2.2.2.2.1; omega
            have kz1 := fun W (h : Below v0.heap.size v0 W) => text17_any z pz kz hlz W ((hPz.below hb).below h)
            have kz2 := fun W (h : Below v0.heap.size v0 W) => check17_any z pz kz hlz W ((hPz.below hb).below h)
            simp only [hz2] at kz1
            simp only [hz1] at kz2
            have hss : (s.toList == s.toList) = true := by simp
            have HZ := Lib.hid (And.intro kz1 (And.intro kz2 hgv))
            clear kz1 kz2 hz1 hz2 hz3 hlz hgv hPz hb
            unfold lfCs at *
            try simp only at hv0 ⊢
            go_upto_region 10 with fail
            rw [← hv0]
            clear hv0
            go_wp2_with fail
            refine (awake17_any _).mono ?_
            rintro e v1 ⟨rfl, hb⟩
            have Y1 := X12.call hb
            have HW := Lib.hid (And.intro hb ((hb.block _ (lt_of_heap HZ.out.2.2)).trans HZ.out.2.2))
            clear hb
            obtain ⟨e0, e1', e2, e3, e4⟩ := lf_cell (l := z) HW.out.2
            go_wp2_with fail
            refine (HZ.out.1 _ HW.out.1).mono ?_
            rintro e v2 ⟨rfl, hb⟩
            have Y2 := Y1.call hb
            have HW2 := Lib.hid (And.intro (HW.out.1.trans (hb.mono HW.out.1.size)) ((hb.block _ (lt_of_heap HW.out.2)).trans HW.out.2))
            clear hb e0 e1' e2 e3 e4
            obtain ⟨e0, e1', e2, e3, e4⟩ := lf_cell (l := z) HW2.out.2
            go_wp2_with fail
            refine (HZ.out.2.1 _ HW2.out.1).mono ?_
            rintro e v3 ⟨rfl, hb⟩
            have Y3 := Y2.call hb
            clear hb e0 e1' e2 e3 e4
            go_wp2_with fail
            go_ret
            exact ⟨rfl, HB.out.trans (Y3.below.mono HB.out.size)⟩
          · rw [hz3]
            obtain ⟨v0, hv0⟩ : ∃ v, v = w11.alloc (.cells (lfCs Lf.zero pz kz) 24) := ⟨_, rfl⟩
            have hb : Below w11.heap.size w11 v0 := by rw [hv0]; exact (Below.refl _ _).alloc (Nat.le_refl _) _
            have hgv : v0.heap[w11.heap.size]? = some (.cells (lfCs Lf.zero pz kz) 24 (0, 0)) := by rw [hv0]; exact heap_alloc_new _ _
            have X12 := X11.call hb
            clear hz3 hgv hPz hb
            unfold Lf.zero at hv0 ⊢
            unfold lfCs at *
            try simp only [List.length_nil] at hv0 ⊢
            go_upto_region 10 with fail
            rw [← hv0]
            clear hv0
            go_wp2_with fail
            refine (awake17_any _).mono ?_
            rintro e v1 ⟨rfl, hb⟩
            have Y1 := X12.call hb
            clear hb
            go_wp2_with fail
            go_ret
            exact ⟨rfl, HB.out.trans (Y1.below.mono HB.out.size)⟩
end Go.Proofs.Ytgoimggfpagojaa

namespace Go.Proofs.Ytgoimggfpagojaa.leafBackLaw
open Go.ChangeShapes Go.WideShapes Go.ChangeAt Go.RowKit
open Go.ChangeMaps (open_string shut_string)

theorem own : ownKnob Try.prog.godebug = none := by kernel_rfl
set_option maxRecDepth 100000 in
theorem lifted (os : Os) (started : os.Started) (H : Type) (enc : TypeId × Value → H) :
    ReturnsInHanded {} Try.checked os 5 .any (Rows.leafBackSpec.pre6 enc Try.prog Try.f5 Rows.leafBackRow.domain false) (Rows.leafBackSpec.post enc Try.prog Try.f5 false true false false) := by
  refine returnsInHanded_of_change (C := Try.checked) own started (by kernel_rfl) Try.func5
    (ChangeSpec.witness6 (enc := enc) (C := Try.checked) false ⟨#[], #[.agg #[.int .i64 0, .int .i64 0, .string ⟨#[]⟩, .slice none 0 0, .string ⟨#[]⟩], .agg #[.int .i64 0, .int .i64 0, .string ⟨#[]⟩, .slice none 0 0, .string ⟨#[]⟩], .string ⟨#[]⟩], []⟩ 8 (by kernel_rfl) (by kernel_rfl) (by kernel_rfl) (by kernel_rfl)) ?_
  intro W base args ds gs before hval0 hW hcnd _
  have hval : ∀ (j : Nat) t v, Try.f5.params[j]? = some t → args[j]? = some v → Value.okWide Try.prog W .any base t v := hval0
  have hW' := hW
  obtain ⟨p, q, hA0, hV, rfl, hfz, hnd⟩ := hW
  have hA : DataW.TrodAll enc Try.prog W 0 (fun _ => true) true Try.f5.params.toList args.toList ds p := hA0
  rw [Try.params5] at hA hval
  obtain ⟨v0, vs0, d0, ds0, p0, q0, hargs, rfl, rfl, h0, r0⟩ := trodAll_cons hA
  obtain ⟨v1, vs1, d1, ds1, p1, q1, rfl, rfl, rfl, h1, r1⟩ := trodAll_cons r0
  obtain ⟨v2, vs2, d2, ds2, p2, q2, rfl, rfl, rfl, h2, r2⟩ := trodAll_cons r1
  obtain ⟨rfl, rfl, rfl⟩ := trodAll_nil r2
  obtain rfl : args = #[v0, v1, v2] := by cases args; simp_all
  obtain ⟨rfl, rfl⟩ := trodVars_none hV
  obtain ⟨cs0, rfl, hcs0⟩ := okWide_struct Try.underlying24 (hval 0 24 v0 rfl rfl)
  have hk0 := h0
  obtain ⟨fuel0, hf0⟩ := h0
  obtain ⟨cs1, rfl, hcs1⟩ := okWide_struct Try.underlying24 (hval 1 24 v1 rfl rfl)
  have hk1 := h1
  obtain ⟨fuel1, hf1⟩ := h1
  obtain ⟨s2, rfl, rfl, rfl, ws2⟩ := open_string Try.underlying9 (hval 2 9 v2 rfl rfl) h2
  clear hA0 hval0
  simp only [List.append_nil] at hW'
  have hlt0 : ∀ x ∈ p0, x.block < W.heap.size := fun x hx => by simpa using hW'.lt x (by simp [hx])
  obtain ⟨x0a, hit0, hf0a⟩ := open_leaf hf0 hlt0
  obtain rfl : cs0 = LfA.cs x0a := Array.toList_inj.1 hit0
  have hlt1 : ∀ x ∈ p1, x.block < W.heap.size := fun x hx => by simpa using hW'.lt x (by simp [hx])
  obtain ⟨x1a, hit1, hf1a⟩ := open_leaf hf1 hlt1
  obtain rfl : cs1 = LfA.cs x1a := Array.toList_inj.1 hit1
  refine (back_law x0a hf0a x1a hf1a s2 (by simpa using ws2) (w := W)).mono fun e W' ⟨he, hb⟩ => ?_
  subst he
  exact ⟨_, rfl, _, _, _, [], _, [], hW', trodAll_cons_mk (shut_bool Try.underlying4 _) trodAll_mk0, (trodAll_cons_mk (Below.trod laidOut (by kernel_rfl) (of_decide_eq_true (by kernel_rfl)) hk0 hb hlt0) (trodAll_cons_mk (Below.trod laidOut (by kernel_rfl) (of_decide_eq_true (by kernel_rfl)) hk1 hb hlt1) (trodAll_cons_mk (shut_string Try.underlying9 ws2) trodAll_mk0))), rfl, hb.frame _, fun h => by cases h⟩
theorem over : Rows.leafBackRow.holds Try.pinned (OpenSpec.ofChange Rows.leafBackSpec) :=
  OpenClaim.holds_of_wide 5 Try.f5 rfl rfl rfl rfl rfl rfl rfl ⟨rfl, rfl, rfl, rfl, rfl⟩ rfl rfl rfl rfl rfl (by kernel_rfl) Try.func5 (by kernel_rfl)
    (of_decide_eq_true (by kernel_rfl)) (by unfold Func.isWrapper; first | (rw [if_pos (by decide +kernel)]; kernel_rfl) | (rw [if_neg (by decide +kernel)]; exact ⟨rfl, rfl⟩))
    (fun os started H enc _ => lifted os started H enc)
end Go.Proofs.Ytgoimggfpagojaa.leafBackLaw

namespace Go.Proofs.Ytgoimggfpagojaa
theorem leafBack_said : Rows.LeafBackSaid := leafBackLaw.over
end Go.Proofs.Ytgoimggfpagojaa
