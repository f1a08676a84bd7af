/- head.Sign, Check and the reference's. -/
import Derived.Test.YtdjhlgodecnidaaDoorJSg
namespace Go.Proofs.YtdjhlgodecnidaaDoor
open Go.RowKit
open Cn

theorem key_ne {key : ByteArray} (h : key.size ≠ 32) : ((key.size : Int) != 32) = true := by simp; omega
theorem key_eq {key : ByteArray} (h : key.size = 32) : ((key.size : Int) != 32) = false := by simp; omega
set_option maxRecDepth 100000 in
set_option maxHeartbeats 2000000 in
theorem rsign_any (key : ByteArray) (h : Hd) (w : World) :
    Calls Tryd.prog 44 #[.string key, .int .i64 h.n, .string h.r, .int .i64 h.t] w fun e w' => e = .returned (.tuple #[.agg (signP key h).1.cs, .int .i64 (signP key h).2]) ∧ Below w.heap.size w w' := by
  obtain ⟨S, hS⟩ : ∃ S, S = signP key h := ⟨_, rfl⟩
  rw [← hS]
  unfold signP at hS
  obtain ⟨h0, hh0⟩ : ∃ h0 : Hd, h0 = ⟨h.n, h.r, h.t, ⟨#[]⟩⟩ := ⟨_, rfl⟩
  obtain ⟨w1, hw1⟩ : ∃ w1, w1 = w.alloc (.cells Hd.zero.cs 61) := ⟨_, rfl⟩
  have hb1 : Below w.heap.size w w1 := by rw [hw1]; exact (Below.refl _ _).alloc (Nat.le_refl _) _
  have hg1 : w1.heap[w.heap.size]? = some (.cells Hd.zero.cs 61 (0, 0)) := by rw [hw1]; exact heap_alloc_new _ _
  obtain ⟨w2, hw2⟩ : ∃ w2, w2 = w1.alloc (.cells h0.cs 61) := ⟨_, rfl⟩
  have hb2 : Below w1.heap.size w1 w2 := by rw [hw2]; exact (Below.refl _ _).alloc (Nat.le_refl _) _
  have hg2 : w2.heap[w1.heap.size]? = some (.cells h0.cs 61 (0, 0)) := by rw [hw2]; exact heap_alloc_new _ _
  have hz1 := lt_of_heap hg1
  have hg12 := (hb2.block _ hz1).trans hg1
  have hb12 := hb1.trans (hb2.mono hb1.size)
  rw [hh0] at hw2
  unfold Hd.zero Hd.cs at hw1
  unfold Hd.cs at hw2
  simp only at hw1 hw2
  have hne : w.heap.size ≠ w1.heap.size := by omega
  have hle : w.heap.size ≤ w1.heap.size := by omega
  have H := Lib.hid (And.intro hb12 (And.intro hg12 (And.intro hg2 (And.intro hS (And.intro hh0 (And.intro hne hle))))))
  clear hb1 hg1 hb2 hg2 hg12 hb12 hS hz1 hne hle
  by_cases hk2 : key.size = 32
  · have e1 := key_eq hk2
    have hck := rbody_any h0 w2
    rw [show bodyB h0 = bodyB h by rw [H.out.2.2.2.2.1]; rfl] at hck
    obtain ⟨A, hA⟩ : ∃ A, A = bodyB h := ⟨_, rfl⟩
    rw [← hA] at hck
    have hS := H.out.2.2.2.1
    rw [if_neg (fun hx => hx hk2), ← hA] at hS
    have hb3 : A = true → h.r.size = 32 := fun e => (bodyB_iff.1 (hA.symm.trans e)).2.1
    have H2 := Lib.hid (And.intro hck (And.intro hS (And.intro hk2 hb3)))
    clear hck hS hA hk2 hh0 hb3
    go_enter Tryd.func44, Tryd.ntmps44
    go_upto_region 1 with fail
    rw [← hw1]
    clear hw1
    go_upto_region 2 with fail
    rw [← hw2]
    clear hw2
    obtain ⟨b0, b1, b2, b3⟩ := hd_cell H.out.2.2.1
    go_wp2_with fail
    refine H2.out.1.mono ?_
    rintro e w3 ⟨rfl, hb⟩
    have hb3 := H.out.1.trans (hb.mono H.out.1.size)
    have hr3 := (hb.block _ (lt_of_heap H.out.2.2.1)).trans H.out.2.2.1
    have hz3 := (hb.block _ (lt_of_heap H.out.2.1)).trans H.out.2.1
    clear b0 b1 b2 b3
    cases A with
    | false =>
      have hS := H2.out.2.1
      rw [if_pos rfl] at hS
      have HB := Lib.hid (And.intro hb3 hS)
      obtain ⟨c0, c1, c2, c3, cf⟩ := zero_cells4 hz3
      clear hb hb3 hr3 hz3 hS
      go_wp2_with fail
      refine bodyPost_ret (v := .tuple #[.agg #[.int .i64 0, .string ⟨#[]⟩, .int .i64 0, .string ⟨#[]⟩], .int .i64 1]) (by simp [results, Tryd.results44, go_sem, c0, c1, c2, c3]) rfl ?_
      exact ⟨by rw [HB.out.2]; rfl, below_put4 HB.out.1 (Nat.le_refl _) _ _ _ _⟩
    | true =>
      have hS := H2.out.2.1
      rw [if_neg (by decide)] at hS
      have hrs := H2.out.2.2.2 rfl
      obtain ⟨T, hT⟩ : ∃ T, T = sgS h := ⟨_, rfl⟩
      have hsg : ∀ W, Calls Tryd.prog 47 #[.agg h0.cs] W fun e w' => e = .returned (.string T) ∧ Below W.heap.size W w' := fun W => by
        have := rsigned_any h0 W
        rw [show sgS h0 = T by rw [hT, H.out.2.2.2.2.1]; rfl] at this
        exact this
      have hTs : T.size ≤ 1000 := by rw [hT]; exact sgS_size h
      obtain ⟨K0, hK0⟩ : ∃ K, K = str (code key.data.toList T.data.toList) := ⟨_, rfl⟩
      rw [← hT, ← hK0] at hS
      have HB := Lib.hid (And.intro hb3 (And.intro hS (And.intro hr3 (And.intro hz3 (And.intro hsg (And.intro hTs (And.intro hK0 hrs)))))))
      obtain ⟨b0, b1, b2, b3⟩ := hd_cell hr3
      clear hb hb3 hr3 hz3 hS hrs hT hsg hTs hK0
      go_wp2_with fail
      refine (HB.out.2.2.2.2.1 _).mono ?_
      rintro e w4 ⟨rfl, hb4⟩
      go_wp2_with fail
      refine (rcode_any key T (by rw [H2.out.2.2.1]; decide) (by have := HB.out.2.2.2.2.2.1; omega) w4).mono ?_
      rintro e w5 ⟨rfl, hb5⟩
      rw [← HB.out.2.2.2.2.2.2.1]
      have hb45 := hb4.trans (hb5.mono hb4.size)
      have hr5 := (hb45.block _ (lt_of_heap HB.out.2.2.1)).trans HB.out.2.2.1
      have hz5 := (hb45.block _ (lt_of_heap HB.out.2.2.2.1)).trans HB.out.2.2.2.1
      have hB5 := HB.out.1.trans (hb45.mono HB.out.1.size)
      clear b0 b1 b2 b3
      obtain ⟨b0, b1, b2, b3⟩ := hd_cell hr5
      have bf := fun j => frozen_of_row w5 w1.heap.size j _ _ hr5
      have hr6 := hd_put3 hr5 K0
      have hz6 := (other_put w5 w1.heap.size w.heap.size 3 (.string K0) H.out.2.2.2.2.2.1).trans hz5
      have hB6 := put1 hB5 H.out.2.2.2.2.2.2 3 (.string K0)
      have HC := Lib.hid (And.intro hr6 (And.intro hz6 hB6))
      clear hb4 hb5 hb45 hr5 hz5 hB5 hr6 hz6 hB6
      go_upto_region 7 with fail
      generalize World.setCell _ _ _ = w6 at *
      obtain ⟨b0, b1, b2, b3⟩ := hd_cell HC.out.1
      obtain ⟨c0, c1, c2, c3, cf⟩ := zero_cells4 HC.out.2.1
      have hF : S.1.cs = Hd.cs ⟨h0.n, h0.r, h0.t, K0⟩ := by rw [HB.out.2.1, H.out.2.2.2.2.1]
      have hF2 : S.2 = 0 := by rw [HB.out.2.1]
      have HF := Lib.hid (And.intro hF hF2)
      have HD := Lib.hid HC.out.2.2
      clear hF hF2 HC
      go_wp2_with fail
      refine bodyPost_ret (v := .tuple #[.agg (Hd.cs ⟨h0.n, h0.r, h0.t, K0⟩), .int .i64 0]) (by simp [results, Tryd.results44, go_sem, c0, c1, c2, c3, Hd.cs]) rfl ?_
      exact ⟨by rw [HF.out.1, HF.out.2], below_put4 HD.out (Nat.le_refl _) _ _ _ _⟩
  · have e1 := key_ne hk2
    have hS := H.out.2.2.2.1
    rw [if_pos hk2] at hS
    have HB := Lib.hid (And.intro H.out.1 hS)
    obtain ⟨c0, c1, c2, c3, cf⟩ := zero_cells4 H.out.2.1
    clear hS hk2 hh0
    go_enter Tryd.func44, Tryd.ntmps44
    go_upto_region 1 with fail
    rw [← hw1]
    clear hw1
    go_upto_region 2 with fail
    rw [← hw2]
    clear hw2
    go_wp2_with fail
    refine bodyPost_ret (v := .tuple #[.agg #[.int .i64 0, .string ⟨#[]⟩, .int .i64 0, .string ⟨#[]⟩], .int .i64 13]) (by simp [results, Tryd.results44, go_sem, c0, c1, c2, c3]) rfl ?_
    exact ⟨by rw [HB.out.2]; rfl, below_put4 HB.out.1 (Nat.le_refl _) _ _ _ _⟩
set_option maxRecDepth 100000 in
set_option maxHeartbeats 2000000 in
theorem sign_any (key : ByteArray) (h : Hd) (w : World) (hG : Glob w) :
    Calls Tryd.prog 43 #[.string key, .int .i64 h.n, .string h.r, .int .i64 h.t] w fun e w' => e = .returned (.tuple #[.agg (signP key h).1.cs, .int .i64 (signP key h).2]) ∧ Below w.heap.size w w' := by
  obtain ⟨S, hS⟩ : ∃ S, S = signP key h := ⟨_, rfl⟩
  rw [← hS]
  unfold signP at hS
  obtain ⟨h0, hh0⟩ : ∃ h0 : Hd, h0 = ⟨h.n, h.r, h.t, ⟨#[]⟩⟩ := ⟨_, rfl⟩
  obtain ⟨w1, hw1⟩ : ∃ w1, w1 = w.alloc (.cells Hd.zero.cs 57) := ⟨_, rfl⟩
  have hb1 : Below w.heap.size w w1 := by rw [hw1]; exact (Below.refl _ _).alloc (Nat.le_refl _) _
  have hg1 : w1.heap[w.heap.size]? = some (.cells Hd.zero.cs 57 (0, 0)) := by rw [hw1]; exact heap_alloc_new _ _
  obtain ⟨w2, hw2⟩ : ∃ w2, w2 = w1.alloc (.cells h0.cs 57) := ⟨_, rfl⟩
  have hb2 : Below w1.heap.size w1 w2 := by rw [hw2]; exact (Below.refl _ _).alloc (Nat.le_refl _) _
  have hg2 : w2.heap[w1.heap.size]? = some (.cells h0.cs 57 (0, 0)) := by rw [hw2]; exact heap_alloc_new _ _
  have hz1 := lt_of_heap hg1
  have hg12 := (hb2.block _ hz1).trans hg1
  have hb12 := hb1.trans (hb2.mono hb1.size)
  rw [hh0] at hw2
  unfold Hd.zero Hd.cs at hw1
  unfold Hd.cs at hw2
  simp only at hw1 hw2
  have hne : w.heap.size ≠ w1.heap.size := by omega
  have hle : w.heap.size ≤ w1.heap.size := by omega
  have H := Lib.hid (And.intro hb12 (And.intro hg12 (And.intro hg2 (And.intro hS (And.intro hh0 (And.intro hne hle))))))
  clear hb1 hg1 hb2 hg2 hg12 hb12 hS hz1 hne hle
  by_cases hk2 : key.size = 32
  · have e1 := key_eq hk2
    have hck := maySign_any h0 w2
    rw [show bodyB h0 = bodyB h by rw [H.out.2.2.2.2.1]; rfl] at hck
    obtain ⟨A, hA⟩ : ∃ A, A = bodyB h := ⟨_, rfl⟩
    rw [← hA] at hck
    have hS := H.out.2.2.2.1
    rw [if_neg (fun hx => hx hk2), ← hA] at hS
    have hb3 : A = true → h.r.size = 32 := fun e => (bodyB_iff.1 (hA.symm.trans e)).2.1
    have H2 := Lib.hid (And.intro hck (And.intro hS (And.intro hk2 hb3)))
    clear hck hS hA hk2 hh0 hb3
    go_enter Tryd.func43, Tryd.ntmps43
    go_upto_region 1 with fail
    rw [← hw1]
    clear hw1
    go_upto_region 2 with fail
    rw [← hw2]
    clear hw2
    obtain ⟨b0, b1, b2, b3⟩ := hd_cell H.out.2.2.1
    go_wp2_with fail
    refine H2.out.1.mono ?_
    rintro e w3 ⟨rfl, hb⟩
    have hb3 := H.out.1.trans (hb.mono H.out.1.size)
    have hr3 := (hb.block _ (lt_of_heap H.out.2.2.1)).trans H.out.2.2.1
    have hz3 := (hb.block _ (lt_of_heap H.out.2.1)).trans H.out.2.1
    clear b0 b1 b2 b3
    cases A with
    | false =>
      have hS := H2.out.2.1
      rw [if_pos rfl] at hS
      have HB := Lib.hid (And.intro hb3 hS)
      obtain ⟨c0, c1, c2, c3, cf⟩ := zero_cells4 hz3
      clear hb hb3 hr3 hz3 hS
      go_wp2_with fail
      refine bodyPost_ret (v := .tuple #[.agg #[.int .i64 0, .string ⟨#[]⟩, .int .i64 0, .string ⟨#[]⟩], .int .i64 1]) (by simp [results, Tryd.results43, go_sem, c0, c1, c2, c3]) rfl ?_
      exact ⟨by rw [HB.out.2]; rfl, below_put4 HB.out.1 (Nat.le_refl _) _ _ _ _⟩
    | true =>
      have hS := H2.out.2.1
      rw [if_neg (by decide)] at hS
      have hrs := H2.out.2.2.2 rfl
      obtain ⟨T, hT⟩ : ∃ T, T = sgS h := ⟨_, rfl⟩
      have hsg : ∀ W, Calls Tryd.prog 46 #[.agg h0.cs] W fun e w' => e = .returned (.string T) ∧ Below W.heap.size W w' := fun W => by
        have := signed_any h0 W
        rw [show sgS h0 = T by rw [hT, H.out.2.2.2.2.1]; rfl] at this
        exact this
      have hTs : T.size ≤ 1000 := by rw [hT]; exact sgS_size h
      obtain ⟨K0, hK0⟩ : ∃ K, K = str (code key.data.toList T.data.toList) := ⟨_, rfl⟩
      rw [← hT, ← hK0] at hS
      have HB := Lib.hid (And.intro hb3 (And.intro hS (And.intro hr3 (And.intro hz3 (And.intro hsg (And.intro hTs (And.intro hK0 hrs)))))))
      have C2 : w3.drew.heap[w1.heap.size]? = some (.cells h0.cs 57 (0, 0)) := hr3
      have Z2 : w3.drew.heap[w.heap.size]? = some (.cells Hd.zero.cs 57 (0, 0)) := hz3
      have B2 : Below w.heap.size w w3.drew := hb3.drew
      have G2 : Glob w3.drew := hG.below hb3.drew
      clear hb hb3 hr3 hz3 hS hrs hT hsg hTs hK0
      go_wp2_with fail
      refine wp_region_held (S := fun _ => True) (by kernel_rfl) ?_
      change wpAnyH _ _ _ _ _ _ _ _ (World.drew _)
      generalize World.drew _ = wh at *
      refine wpAnyH_take (i := 0) (v := ?_) rfl (by kernel_rfl) (by kernel_rfl) (by kernel_rfl) (fun _ _ _ h => h) (Or.inl ⟨by kernel_rfl, ?_⟩) trivial ?_
      rotate_left
      · (intro W hS; clear hS; go_simp; try (with_reducible rfl))
      refine wpAnyH_take (i := 2) (v := ?_) rfl (by kernel_rfl) (by kernel_rfl) (by kernel_rfl) (fun _ _ _ h => h) (Or.inl ⟨by kernel_rfl, ?_⟩) trivial ?_
      rotate_left
      · (intro W hS; clear hS; go_simp; try (with_reducible rfl))
      refine wpAnyH_ready (rs := [1, 3]) (by kernel_rfl) (by simp) ?_
      refine AllReadyH.cons rfl (fun K hK => ?_) (AllReadyH.cons rfl (fun K hK => ?_) AllReadyH.nil)
      · go_simp
        refine (clone_any h.r wh (by have := HB.out.2.2.2.2.2.2.2; omega)).mono ?_
        rintro e w4 ⟨rfl, hb⟩
        have C4 := (hb.block _ (lt_of_heap C2)).trans C2
        have Z4 := (hb.block _ (lt_of_heap Z2)).trans Z2
        have B4 := B2.trans (hb.mono B2.size)
        have G4 := G2.below hb
        refine hK.out _ _ trivial (fun _ => ?_)
        clear hK K hb
        refine wpAnyH_ready (rs := [3]) (by kernel_rfl) (by simp) ?_
        refine AllReadyH.cons rfl (fun K hK => ?_) AllReadyH.nil
        obtain ⟨b0, b1, b2, b3⟩ := hd_cell C4
        go_simp
        refine hK.out _ _ trivial (fun _ => ?_)
        clear hK K b0 b1 b2 b3
        refine wpAnyH_take (i := 7) (v := ?_) rfl (by kernel_rfl) (by kernel_rfl) (by kernel_rfl) (fun _ _ _ h => h) (Or.inl ⟨by kernel_rfl, ?_⟩) trivial ?_
        rotate_left
        · (intro W hS; clear hS; go_simp; try (with_reducible rfl))
        refine wpAnyH_ready (rs := [4]) (by kernel_rfl) (by simp) ?_
        refine AllReadyH.cons rfl (fun K hK => ?_) AllReadyH.nil
        go_simp
        refine (HB.out.2.2.2.2.1 _).mono ?_
        rintro e w5 ⟨rfl, hb⟩
        have C5 := (hb.block _ (lt_of_heap C4)).trans C4
        have Z5 := (hb.block _ (lt_of_heap Z4)).trans Z4
        have B5 := B4.trans (hb.mono B4.size)
        have G5 := G4.below hb
        refine hK.out _ _ trivial (fun _ => ?_)
        clear hK K hb
        refine wpAnyH_ready (rs := [5]) (by kernel_rfl) (by simp) ?_
        refine AllReadyH.cons rfl (fun K hK => ?_) AllReadyH.nil
        go_simp
        refine hK.out _ _ trivial (fun _ => ?_)
        clear hK K
        refine wpAnyH_ready (rs := [6]) (by kernel_rfl) (by simp) ?_
        refine AllReadyH.cons rfl (fun K hK => ?_) AllReadyH.nil
        go_simp
        refine (mcode1 key T (by rw [H2.out.2.2.1]; decide) (by have := HB.out.2.2.2.2.2.1; omega) w5 w5 G5 (Below.refl _ _)).mono ?_
        rintro e w7 ⟨rfl, hb⟩
        rw [← HB.out.2.2.2.2.2.2.1]
        have C7 := (hb.block _ (lt_of_heap C5)).trans C5
        have Z7 := (hb.block _ (lt_of_heap Z5)).trans Z5
        have B7 := B5.trans (hb.mono B5.size)
        refine hK.out _ _ trivial (fun _ => ?_)
        clear hK K hb
        refine wpAnyH_ready (rs := [8]) (by kernel_rfl) (by simp) ?_
        refine AllReadyH.cons rfl (fun K hK => ?_) AllReadyH.nil
        obtain ⟨b0, b1, b2, b3⟩ := hd_cell C7
        have bf := fun j => frozen_of_row w7 w1.heap.size j _ _ C7
        go_simp
        refine hK.out _ _ trivial (fun _ => ?_)
        clear hK K
        refine wpAnyH_take (i := 9) (v := ?_) rfl (by kernel_rfl) (by kernel_rfl) (by kernel_rfl) (fun _ _ _ h => h) (Or.inl ⟨by kernel_rfl, ?_⟩) trivial ?_
        rotate_left
        · (intro W hS; clear hS; go_simp; try (with_reducible rfl))
        have b3b : (w7.setCell ⟨w1.heap.size, 1, none⟩ (.string h.r)).cell? ⟨w1.heap.size, 3, none⟩ = some (.string h0.c) := by rw [cell_of_row _ _ _ _ _ _ (heap_setCell_same _ _ _ _ _ _ C7)]; rfl
        have bfb : ∀ j, (w7.setCell ⟨w1.heap.size, 1, none⟩ (.string h.r)).frozen? ⟨w1.heap.size, j, none⟩ = false := fun j => frozen_of_row _ _ _ _ _ (heap_setCell_same _ _ _ _ _ _ C7)
        refine wpAnyH_ready (rs := [10]) (by kernel_rfl) (by simp) ?_
        refine AllReadyH.cons rfl (fun K hK => ?_) AllReadyH.nil
        go_simp
        refine hK.out _ _ trivial (fun _ => ?_)
        clear hK K
        refine wpAnyH_done (by kernel_rfl) ?_ _
        go_simp
        have hr6 := hd_put C7 h.r K0
        have hz6 := (other_put (w7.setCell ⟨w1.heap.size, 1, none⟩ (.string h.r)) w1.heap.size w.heap.size 3 (.string K0) H.out.2.2.2.2.2.1).trans ((other_put w7 w1.heap.size w.heap.size 1 (.string h.r) H.out.2.2.2.2.2.1).trans Z7)
        have hB6 := put1 (put1 B7 H.out.2.2.2.2.2.2 1 (.string h.r)) H.out.2.2.2.2.2.2 3 (.string K0)
        have HC := Lib.hid (And.intro hr6 (And.intro hz6 hB6))
        clear C2 Z2 B2 G2 C4 Z4 B4 G4 C5 Z5 B5 G5 C7 Z7 B7 hr6 hz6 hB6 b0 b1 b2 b3 bf b3b bfb
        generalize World.setCell (World.setCell _ _ _) _ _ = w6 at *
        obtain ⟨b0, b1, b2, b3⟩ := hd_cell HC.out.1
        obtain ⟨c0, c1, c2, c3, cf⟩ := zero_cells4 HC.out.2.1
        have hF : S.1.cs = Hd.cs ⟨h0.n, h.r, h0.t, K0⟩ := by rw [HB.out.2.1, H.out.2.2.2.2.1]
        have hF2 : S.2 = 0 := by rw [HB.out.2.1]
        have HF := Lib.hid (And.intro hF hF2)
        have HD := Lib.hid HC.out.2.2
        clear hF hF2 HC
        go_wp2_with fail
        refine bodyPost_ret (v := .tuple #[.agg (Hd.cs ⟨h0.n, h.r, h0.t, K0⟩), .int .i64 0]) (by simp [results, Tryd.results43, go_sem, c0, c1, c2, c3, Hd.cs]) rfl ?_
        exact ⟨by rw [HF.out.1, HF.out.2], below_put4 HD.out (Nat.le_refl _) _ _ _ _⟩
      · obtain ⟨b0, b1, b2, b3⟩ := hd_cell C2
        go_simp
        refine hK.out _ _ trivial (fun _ => ?_)
        clear hK K b0 b1 b2 b3
        refine wpAnyH_ready (rs := [1]) (by kernel_rfl) (by simp) ?_
        refine AllReadyH.cons rfl (fun K hK => ?_) AllReadyH.nil
        go_simp
        refine (clone_any h.r wh (by have := HB.out.2.2.2.2.2.2.2; omega)).mono ?_
        rintro e w4 ⟨rfl, hb⟩
        have C4 := (hb.block _ (lt_of_heap C2)).trans C2
        have Z4 := (hb.block _ (lt_of_heap Z2)).trans Z2
        have B4 := B2.trans (hb.mono B2.size)
        have G4 := G2.below hb
        refine hK.out _ _ trivial (fun _ => ?_)
        clear hK K hb
        refine wpAnyH_take (i := 7) (v := ?_) rfl (by kernel_rfl) (by kernel_rfl) (by kernel_rfl) (fun _ _ _ h => h) (Or.inl ⟨by kernel_rfl, ?_⟩) trivial ?_
        rotate_left
        · (intro W hS; clear hS; go_simp; try (with_reducible rfl))
        refine wpAnyH_ready (rs := [4]) (by kernel_rfl) (by simp) ?_
        refine AllReadyH.cons rfl (fun K hK => ?_) AllReadyH.nil
        go_simp
        refine (HB.out.2.2.2.2.1 _).mono ?_
        rintro e w5 ⟨rfl, hb⟩
        have C5 := (hb.block _ (lt_of_heap C4)).trans C4
        have Z5 := (hb.block _ (lt_of_heap Z4)).trans Z4
        have B5 := B4.trans (hb.mono B4.size)
        have G5 := G4.below hb
        refine hK.out _ _ trivial (fun _ => ?_)
        clear hK K hb
        refine wpAnyH_ready (rs := [5]) (by kernel_rfl) (by simp) ?_
        refine AllReadyH.cons rfl (fun K hK => ?_) AllReadyH.nil
        go_simp
        refine hK.out _ _ trivial (fun _ => ?_)
        clear hK K
        refine wpAnyH_ready (rs := [6]) (by kernel_rfl) (by simp) ?_
        refine AllReadyH.cons rfl (fun K hK => ?_) AllReadyH.nil
        go_simp
        refine (mcode1 key T (by rw [H2.out.2.2.1]; decide) (by have := HB.out.2.2.2.2.2.1; omega) w5 w5 G5 (Below.refl _ _)).mono ?_
        rintro e w7 ⟨rfl, hb⟩
        rw [← HB.out.2.2.2.2.2.2.1]
        have C7 := (hb.block _ (lt_of_heap C5)).trans C5
        have Z7 := (hb.block _ (lt_of_heap Z5)).trans Z5
        have B7 := B5.trans (hb.mono B5.size)
        refine hK.out _ _ trivial (fun _ => ?_)
        clear hK K hb
        refine wpAnyH_ready (rs := [8]) (by kernel_rfl) (by simp) ?_
        refine AllReadyH.cons rfl (fun K hK => ?_) AllReadyH.nil
        obtain ⟨b0, b1, b2, b3⟩ := hd_cell C7
        have bf := fun j => frozen_of_row w7 w1.heap.size j _ _ C7
        go_simp
        refine hK.out _ _ trivial (fun _ => ?_)
        clear hK K
        refine wpAnyH_take (i := 9) (v := ?_) rfl (by kernel_rfl) (by kernel_rfl) (by kernel_rfl) (fun _ _ _ h => h) (Or.inl ⟨by kernel_rfl, ?_⟩) trivial ?_
        rotate_left
        · (intro W hS; clear hS; go_simp; try (with_reducible rfl))
        have b3b : (w7.setCell ⟨w1.heap.size, 1, none⟩ (.string h.r)).cell? ⟨w1.heap.size, 3, none⟩ = some (.string h0.c) := by rw [cell_of_row _ _ _ _ _ _ (heap_setCell_same _ _ _ _ _ _ C7)]; rfl
        have bfb : ∀ j, (w7.setCell ⟨w1.heap.size, 1, none⟩ (.string h.r)).frozen? ⟨w1.heap.size, j, none⟩ = false := fun j => frozen_of_row _ _ _ _ _ (heap_setCell_same _ _ _ _ _ _ C7)
        refine wpAnyH_ready (rs := [10]) (by kernel_rfl) (by simp) ?_
        refine AllReadyH.cons rfl (fun K hK => ?_) AllReadyH.nil
        go_simp
        refine hK.out _ _ trivial (fun _ => ?_)
        clear hK K
        refine wpAnyH_done (by kernel_rfl) ?_ _
        go_simp
        have hr6 := hd_put C7 h.r K0
        have hz6 := (other_put (w7.setCell ⟨w1.heap.size, 1, none⟩ (.string h.r)) w1.heap.size w.heap.size 3 (.string K0) H.out.2.2.2.2.2.1).trans ((other_put w7 w1.heap.size w.heap.size 1 (.string h.r) H.out.2.2.2.2.2.1).trans Z7)
        have hB6 := put1 (put1 B7 H.out.2.2.2.2.2.2 1 (.string h.r)) H.out.2.2.2.2.2.2 3 (.string K0)
        have HC := Lib.hid (And.intro hr6 (And.intro hz6 hB6))
        clear C2 Z2 B2 G2 C4 Z4 B4 G4 C5 Z5 B5 G5 C7 Z7 B7 hr6 hz6 hB6 b0 b1 b2 b3 bf b3b bfb
        generalize World.setCell (World.setCell _ _ _) _ _ = w6 at *
        obtain ⟨b0, b1, b2, b3⟩ := hd_cell HC.out.1
        obtain ⟨c0, c1, c2, c3, cf⟩ := zero_cells4 HC.out.2.1
        have hF : S.1.cs = Hd.cs ⟨h0.n, h.r, h0.t, K0⟩ := by rw [HB.out.2.1, H.out.2.2.2.2.1]
        have hF2 : S.2 = 0 := by rw [HB.out.2.1]
        have HF := Lib.hid (And.intro hF hF2)
        have HD := Lib.hid HC.out.2.2
        clear hF hF2 HC
        go_wp2_with fail
        refine bodyPost_ret (v := .tuple #[.agg (Hd.cs ⟨h0.n, h.r, h0.t, K0⟩), .int .i64 0]) (by simp [results, Tryd.results43, go_sem, c0, c1, c2, c3, Hd.cs]) rfl ?_
        exact ⟨by rw [HF.out.1, HF.out.2], below_put4 HD.out (Nat.le_refl _) _ _ _ _⟩
  · have e1 := key_ne hk2
    have hS := H.out.2.2.2.1
    rw [if_pos hk2] at hS
    have HB := Lib.hid (And.intro H.out.1 hS)
    obtain ⟨c0, c1, c2, c3, cf⟩ := zero_cells4 H.out.2.1
    clear hS hk2 hh0
    go_enter Tryd.func43, Tryd.ntmps43
    go_upto_region 1 with fail
    rw [← hw1]
    clear hw1
    go_upto_region 2 with fail
    rw [← hw2]
    clear hw2
    go_wp2_with fail
    refine bodyPost_ret (v := .tuple #[.agg #[.int .i64 0, .string ⟨#[]⟩, .int .i64 0, .string ⟨#[]⟩], .int .i64 13]) (by simp [results, Tryd.results43, go_sem, c0, c1, c2, c3]) rfl ?_
    exact ⟨by rw [HB.out.2]; rfl, below_put4 HB.out.1 (Nat.le_refl _) _ _ _ _⟩
end Go.Proofs.YtdjhlgodecnidaaDoor
