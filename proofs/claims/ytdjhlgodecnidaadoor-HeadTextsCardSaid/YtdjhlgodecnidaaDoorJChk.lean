/- head.Check and the reference's; head.Later; lockboxlaw14.Ref. -/
import Derived.Test.YtdjhlgodecnidaaDoorJSig
namespace Go.Proofs.YtdjhlgodecnidaaDoor
open Go.RowKit
open Cn

theorem beq_texts (a b : ByteArray) : (a.toList == b.toList) = decide (a = b) := by
  by_cases h : a = b
  · subst h; simp
  · rw [decide_eq_false h]
    cases hb : (a.toList == b.toList) with
    | false => rfl
    | true =>
      have := beq_iff_eq.1 hb
      rw [toList_data, toList_data] at this
      exact absurd (Go.WideShapes.bytes_inj this) h
theorem eq_toList {a b : ByteArray} (h : a = b) : (a.toList == b.toList) = true := by rw [beq_texts, decide_eq_true h]
theorem ne_toList {a b : ByteArray} (h : a ≠ b) : (a.toList == b.toList) = false := by rw [beq_texts, decide_eq_false h]
set_option maxRecDepth 100000 in
set_option maxHeartbeats 2000000 in
theorem rhcheck_any (key : ByteArray) (h : Hd) (w : World) :
    Calls Tryd.prog 49 #[.string key, .agg h.cs] w fun e w' => e = .returned (.int .i64 (checkP key h)) ∧ Below w.heap.size w w' := by
  obtain ⟨S, hS⟩ : ∃ S, S = checkP key h := ⟨_, rfl⟩
  rw [← hS]
  unfold checkP at hS
  obtain ⟨w1, hw1⟩ : ∃ w1, w1 = w.alloc (.cells h.cs 61) := ⟨_, rfl⟩
  have hb1 : Below w.heap.size w w1 := by rw [hw1]; exact (Below.refl _ _).alloc (Nat.le_refl _) _
  have hg1 : w1.heap[w.heap.size]? = some (.cells h.cs 61 (0, 0)) := by rw [hw1]; exact heap_alloc_new _ _
  have H := Lib.hid (And.intro hb1 hg1)
  clear hb1 hg1
  unfold Hd.cs at hw1 ⊢
  by_cases hk2 : key.size = 32
  · have e1 := key_eq hk2
    rw [if_neg (fun hx => hx hk2)] at hS
    have hck := rbody_any h w1
    obtain ⟨A, hA⟩ : ∃ A, A = bodyB h := ⟨_, rfl⟩
    rw [← hA] at hck
    have H2 := Lib.hid (And.intro hck (And.intro hA hk2))
    clear hck hA hk2
    go_enter Tryd.func49, Tryd.ntmps49
    go_upto_region 1 with fail
    rw [← hw1]
    clear hw1
    obtain ⟨b0, b1, b2, b3⟩ := hd_cell H.out.2
    cases A with
    | false =>
      go_wp2_with fail
      refine H2.out.1.mono ?_
      rintro e w2 ⟨rfl, hb⟩
      rw [if_pos (by unfold mayB; rw [← H2.out.2.1]; rfl)] at hS
      have HB := Lib.hid (And.intro (H.out.1.trans (hb.mono H.out.1.size)) hS)
      clear hb hS
      go_wp2_with fail
      go_ret
      exact ⟨by rw [HB.out.2] <;> rfl, HB.out.1⟩
    | true =>
      by_cases h6 : h.c.size = 32
      rotate_left
      · have e4 : ((h.c.size : Int) != 32) = true := key_ne h6
        have hm := may_false (h := h) (fun e => h6 e.2)
        clear h6
        go_wp2_with fail
        refine H2.out.1.mono ?_
        rintro e w2 ⟨rfl, hb⟩
        clear b0 b1 b2 b3
        obtain ⟨b0, b1, b2, b3⟩ := hd_cell ((hb.block _ (lt_of_heap H.out.2)).trans H.out.2)
        rw [if_pos hm] at hS
        have HB := Lib.hid (And.intro (H.out.1.trans (hb.mono H.out.1.size)) hS)
        clear hb hS
        go_wp2_with fail
        go_ret
        exact ⟨by rw [HB.out.2] <;> rfl, HB.out.1⟩
      have e4 : ((h.c.size : Int) != 32) = false := key_eq h6
      have hm : mayB h = true := mayB_iff.2 ⟨H2.out.2.1.symm, h6⟩
      clear h6
      rw [if_neg (by rw [hm]; decide)] at hS
      clear hm
      have HS := Lib.hid hS
      clear hS
      go_wp2_with fail
      refine H2.out.1.mono ?_
      rintro e w2 ⟨rfl, hb⟩
      have hS := HS.out
      obtain ⟨T, hT⟩ : ∃ T, T = sgS h := ⟨_, rfl⟩
      have hsg : ∀ W, Calls Tryd.prog 47 #[.agg h.cs] W fun e w' => e = .returned (.string T) ∧ Below W.heap.size W w' := fun W => by rw [hT]; exact rsigned_any h W
      have hTs : T.size ≤ 1000 := by rw [hT]; exact sgS_size h
      obtain ⟨K0, hK0⟩ : ∃ K, K = str (code key.data.toList T.data.toList) := ⟨_, rfl⟩
      rw [← hT, ← hK0] at hS
      obtain ⟨X, hX⟩ : ∃ X, X = (K0.toList == h.c.toList) := ⟨_, rfl⟩
      have hSX : S = if X = true then 0 else 8 := by
        rw [hS, hX]
        by_cases hq : K0 = h.c
        · rw [if_pos hq, if_pos (eq_toList hq)]
        · rw [if_neg hq, if_neg (by rw [ne_toList hq]; decide)]
      have HB := Lib.hid (And.intro hsg (And.intro hTs (And.intro hK0 (And.intro hX hSX))))
      have B2 := H.out.1.trans (hb.mono H.out.1.size)
      have C2 := (hb.block _ (lt_of_heap H.out.2)).trans H.out.2
      clear b0 b1 b2 b3
      obtain ⟨b0, b1, b2, b3⟩ := hd_cell C2
      have HC := Lib.hid (And.intro B2 C2)
      clear hsg hTs hK0 hX hSX hS hT hb B2 C2
      go_upto_region 5 with fail
      clear b0 b1 b2 b3
      have C3 : w2.drew.heap[w.heap.size]? = some (.cells h.cs 61 (0, 0)) := HC.out.2
      have B3 : Below w.heap.size w w2.drew := HC.out.1.drew
      go_wp2_with fail
      refine wp_region_held (S := fun W => W.heap[w.heap.size]? = some (.cells h.cs 61 (0, 0))) (by kernel_rfl) ?_
      change wpAnyH _ _ _ _ _ _ _ _ (World.drew _)
      generalize World.drew _ = wh at *
      refine wpAnyH_take (i := 0) (v := ?_) rfl (by kernel_rfl) (by kernel_rfl) (by kernel_rfl) (fun _ _ _ h => h) (Or.inl ⟨by kernel_rfl, ?_⟩) C3 ?_
      rotate_left
      · (intro W hS; obtain ⟨g0, g1, g2, g3⟩ := hd_cell hS; clear hS; go_simp; try (with_reducible rfl))
      refine wpAnyH_take (i := 1) (v := ?_) rfl (by kernel_rfl) (by kernel_rfl) (by kernel_rfl) (fun _ _ _ h => h) (Or.inl ⟨by kernel_rfl, ?_⟩) C3 ?_
      rotate_left
      · (intro W hS; obtain ⟨g0, g1, g2, g3⟩ := hd_cell hS; clear hS; go_simp; try (with_reducible rfl))
      refine wpAnyH_take (i := 4) (v := ?_) rfl (by kernel_rfl) (by kernel_rfl) (by kernel_rfl) (fun _ _ _ h => h) (Or.inl ⟨by kernel_rfl, ?_⟩) C3 ?_
      rotate_left
      · (intro W hS; obtain ⟨g0, g1, g2, g3⟩ := hd_cell hS; clear hS; go_simp; try (with_reducible rfl))
      refine wpAnyH_take (i := 5) (v := ?_) rfl (by kernel_rfl) (by kernel_rfl) (by kernel_rfl) (fun _ _ _ h => h) (Or.inl ⟨by kernel_rfl, ?_⟩) C3 ?_
      rotate_left
      · (intro W hS; obtain ⟨g0, g1, g2, g3⟩ := hd_cell hS; clear hS; go_simp; try (with_reducible rfl))
      refine wpAnyH_ready (rs := [2]) (by kernel_rfl) (by simp) ?_
      refine AllReadyH.cons rfl (fun K hK => ?_) AllReadyH.nil
      go_simp
      refine (HB.out.1 _).mono ?_
      rintro e w4 ⟨rfl, hb⟩
      have C4 := (hb.block _ (lt_of_heap C3)).trans C3
      have B4 := B3.trans (hb.mono B3.size)
      refine hK.out _ _ C4 (fun _ => ?_)
      clear hK K hb
      refine wpAnyH_ready (rs := [3]) (by kernel_rfl) (by simp) ?_
      refine AllReadyH.cons rfl (fun K hK => ?_) AllReadyH.nil
      go_simp
      refine (rcode_any key T (by rw [H2.out.2.2]; decide) (by have := HB.out.2.1; omega) w4).mono ?_
      rintro e w5 ⟨rfl, hb⟩
      rw [← HB.out.2.2.1]
      have C5 := (hb.block _ (lt_of_heap C4)).trans C4
      have B5 := B4.trans (hb.mono B4.size)
      refine hK.out _ _ C5 (fun _ => ?_)
      clear hK K hb
      have hX1 := HB.out.2.2.2.1.symm
      refine wpAnyH_take (i := 6) (v := ?_) rfl (by kernel_rfl) (by kernel_rfl) (by kernel_rfl) (fun _ _ _ h => h) (Or.inl ⟨by kernel_rfl, ?_⟩) C5 ?_
      rotate_left
      · (intro W hS; clear hS; go_simp; try (with_reducible rfl))
      clear hX1
      refine wpAnyH_done (by kernel_rfl) ?_ _
      go_simp
      have HD := Lib.hid B5
      clear C3 B3 C4 B4 C5 B5
      have hSX := HB.out.2.2.2.2
      cases X with
      | false =>
        rw [if_neg (by decide)] at hSX
        have HE := Lib.hid hSX
        clear hSX
        go_wp2_with fail
        go_ret
        exact ⟨by rw [HE.out] <;> rfl, HD.out⟩
      | true =>
        rw [if_pos rfl] at hSX
        have HE := Lib.hid hSX
        clear hSX
        go_wp2_with fail
        go_ret
        exact ⟨by rw [HE.out] <;> rfl, HD.out⟩
  · have e1 := key_ne hk2
    rw [if_pos hk2] at hS
    have HB := Lib.hid (And.intro H.out.1 hS)
    clear hS hk2
    go_enter Tryd.func49, Tryd.ntmps49
    go_upto_region 1 with fail
    rw [← hw1]
    clear hw1
    go_wp2_with fail
    go_ret
    exact ⟨by rw [HB.out.2] <;> rfl, HB.out.1⟩
set_option maxRecDepth 100000 in
set_option maxHeartbeats 2000000 in
theorem hcheck_any (key : ByteArray) (h : Hd) (w : World) (hG : Glob w) :
    Calls Tryd.prog 48 #[.string key, .agg h.cs] w fun e w' => e = .returned (.int .i64 (checkP key h)) ∧ Below w.heap.size w w' := by
  obtain ⟨S, hS⟩ : ∃ S, S = checkP key h := ⟨_, rfl⟩
  rw [← hS]
  unfold checkP at hS
  obtain ⟨w1, hw1⟩ : ∃ w1, w1 = w.alloc (.cells h.cs 57) := ⟨_, rfl⟩
  have hb1 : Below w.heap.size w w1 := by rw [hw1]; exact (Below.refl _ _).alloc (Nat.le_refl _) _
  have hg1 : w1.heap[w.heap.size]? = some (.cells h.cs 57 (0, 0)) := by rw [hw1]; exact heap_alloc_new _ _
  have H := Lib.hid (And.intro hb1 hg1)
  clear hb1 hg1
  unfold Hd.cs at hw1 ⊢
  by_cases hk2 : key.size = 32
  · have e1 := key_eq hk2
    rw [if_neg (fun hx => hx hk2)] at hS
    have hck := hmayBe_any h w1
    obtain ⟨A, hA⟩ : ∃ A, A = mayB h := ⟨_, rfl⟩
    rw [← hA] at hck hS
    have H2 := Lib.hid (And.intro hck (And.intro hA hk2))
    clear hck hA hk2
    go_enter Tryd.func48, Tryd.ntmps48
    go_upto_region 1 with fail
    rw [← hw1]
    clear hw1
    obtain ⟨b0, b1, b2, b3⟩ := hd_cell H.out.2
    go_wp2_with fail
    refine H2.out.1.mono ?_
    rintro e w2 ⟨rfl, hb⟩
    cases A with
    | false =>
      rw [if_pos rfl] at hS
      have HB := Lib.hid (And.intro (H.out.1.trans (hb.mono H.out.1.size)) hS)
      clear hb hS
      go_wp2_with fail
      go_ret
      exact ⟨by rw [HB.out.2] <;> rfl, HB.out.1⟩
    | true =>
      rw [if_neg (by decide)] at hS
      obtain ⟨T, hT⟩ : ∃ T, T = sgS h := ⟨_, rfl⟩
      have hsg : ∀ W, Calls Tryd.prog 46 #[.agg h.cs] W fun e w' => e = .returned (.string T) ∧ Below W.heap.size W w' := fun W => by rw [hT]; exact signed_any h W
      have hTs : T.size ≤ 1000 := by rw [hT]; exact sgS_size h
      obtain ⟨K0, hK0⟩ : ∃ K, K = str (code key.data.toList T.data.toList) := ⟨_, rfl⟩
      rw [← hT, ← hK0] at hS
      obtain ⟨X, hX⟩ : ∃ X, X = (K0.toList == h.c.toList) := ⟨_, rfl⟩
      have hSX : S = if X = true then 0 else 8 := by
        rw [hS, hX]
        by_cases hq : K0 = h.c
        · rw [if_pos hq, if_pos (eq_toList hq)]
        · rw [if_neg hq, if_neg (by rw [ne_toList hq]; decide)]
      have HB := Lib.hid (And.intro hsg (And.intro hTs (And.intro hK0 (And.intro hX hSX))))
      have B2 := H.out.1.trans (hb.mono H.out.1.size)
      have C2 := (hb.block _ (lt_of_heap H.out.2)).trans H.out.2
      have C3 : w2.drew.heap[w.heap.size]? = some (.cells h.cs 57 (0, 0)) := C2
      have B3 : Below w.heap.size w w2.drew := B2.drew
      have G3 : Glob w2.drew := hG.below B2.drew
      clear hsg hTs hK0 hX hSX hS hT hb B2 C2 b0 b1 b2 b3
      go_wp2_with fail
      refine wp_region_held (S := fun W => W.heap[w.heap.size]? = some (.cells h.cs 57 (0, 0))) (by kernel_rfl) ?_
      change wpAnyH _ _ _ _ _ _ _ _ (World.drew _)
      generalize World.drew _ = wh at *
      refine wpAnyH_take (i := 0) (v := ?_) rfl (by kernel_rfl) (by kernel_rfl) (by kernel_rfl) (fun _ _ _ h => h) (Or.inl ⟨by kernel_rfl, ?_⟩) C3 ?_
      rotate_left
      · (intro W hS; obtain ⟨g0, g1, g2, g3⟩ := hd_cell hS; clear hS; go_simp; try (with_reducible rfl))
      refine wpAnyH_take (i := 1) (v := ?_) rfl (by kernel_rfl) (by kernel_rfl) (by kernel_rfl) (fun _ _ _ h => h) (Or.inl ⟨by kernel_rfl, ?_⟩) C3 ?_
      rotate_left
      · (intro W hS; obtain ⟨g0, g1, g2, g3⟩ := hd_cell hS; clear hS; go_simp; try (with_reducible rfl))
      refine wpAnyH_take (i := 3) (v := ?_) rfl (by kernel_rfl) (by kernel_rfl) (by kernel_rfl) (fun _ _ _ h => h) (Or.inl ⟨by kernel_rfl, ?_⟩) C3 ?_
      rotate_left
      · (intro W hS; obtain ⟨g0, g1, g2, g3⟩ := hd_cell hS; clear hS; go_simp; try (with_reducible rfl))
      refine wpAnyH_take (i := 4) (v := ?_) rfl (by kernel_rfl) (by kernel_rfl) (by kernel_rfl) (fun _ _ _ h => h) (Or.inl ⟨by kernel_rfl, ?_⟩) C3 ?_
      rotate_left
      · (intro W hS; obtain ⟨g0, g1, g2, g3⟩ := hd_cell hS; clear hS; go_simp; try (with_reducible rfl))
      refine wpAnyH_ready (rs := [2]) (by kernel_rfl) (by simp) ?_
      refine AllReadyH.cons rfl (fun K hK => ?_) AllReadyH.nil
      go_simp
      refine (HB.out.1 _).mono ?_
      rintro e w4 ⟨rfl, hb⟩
      have C4 := (hb.block _ (lt_of_heap C3)).trans C3
      have B4 := B3.trans (hb.mono B3.size)
      have G4 := G3.below hb
      refine hK.out _ _ C4 (fun _ => ?_)
      clear hK K hb
      refine wpAnyH_ready (rs := [5]) (by kernel_rfl) (by simp) ?_
      refine AllReadyH.cons rfl (fun K hK => ?_) AllReadyH.nil
      go_simp
      refine (check_any key T h.c (by rw [H2.out.2.2]; decide) (by have := HB.out.2.1; omega) w4 G4).mono ?_
      rintro e w5 ⟨rfl, hb⟩
      rw [← HB.out.2.2.1, ← HB.out.2.2.2.1]
      have C5 := (hb.block _ (lt_of_heap C4)).trans C4
      have B5 := B4.trans (hb.mono B4.size)
      refine hK.out _ _ C5 (fun _ => ?_)
      clear hK K hb
      refine wpAnyH_take (i := 6) (v := ?_) rfl (by kernel_rfl) (by kernel_rfl) (by kernel_rfl) (fun _ _ _ h => h) (Or.inl ⟨by kernel_rfl, ?_⟩) C5 ?_
      rotate_left
      · (intro W hS; clear hS; go_simp; try (with_reducible rfl))
      refine wpAnyH_take (i := 7) (v := ?_) rfl (by kernel_rfl) (by kernel_rfl) (by kernel_rfl) (fun _ _ _ h => h) (Or.inl ⟨by kernel_rfl, ?_⟩) C5 ?_
      rotate_left
      · (intro W hS; clear hS; go_simp; try (with_reducible rfl))
      refine wpAnyH_done (by kernel_rfl) ?_ _
      go_simp
      have HD := Lib.hid B5
      clear C3 B3 C4 B4 C5 B5 G3 G4
      have hSX := HB.out.2.2.2.2
      cases X with
      | false =>
        rw [if_neg (by decide)] at hSX
        have HE := Lib.hid hSX
        clear hSX
        go_wp2_with fail
        go_ret
        exact ⟨by rw [HE.out] <;> rfl, HD.out⟩
      | true =>
        rw [if_pos rfl] at hSX
        have HE := Lib.hid hSX
        clear hSX
        go_wp2_with fail
        go_ret
        exact ⟨by rw [HE.out] <;> rfl, HD.out⟩
  · have e1 := key_ne hk2
    rw [if_pos hk2] at hS
    have HB := Lib.hid (And.intro H.out.1 hS)
    clear hS hk2
    go_enter Tryd.func48, Tryd.ntmps48
    go_upto_region 1 with fail
    rw [← hw1]
    clear hw1
    go_wp2_with fail
    go_ret
    exact ⟨by rw [HB.out.2] <;> rfl, HB.out.1⟩
end Go.Proofs.YtdjhlgodecnidaaDoor
