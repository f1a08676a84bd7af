/- PROVED HERE: for every head and every text the law HeadTexts returns true (a head's bytes, and the head of bytes, or the error, are the document's; what is written is read as it was). Its conditions: the two package-level tables hold what their initialisers lay (tied to the program's text by the card). -/
import Derived.Test.YtdjhlgodecnidaaDoorJLater
import Derived.Test.YtdjhlgodecnidaaDoorJRead
import Derived.Test.YtdjhlgodecnidaaDoorJOpen
import Derived.Test.YtdjhlgodecnidaaDoorLaid
namespace Go.Proofs.YtdjhlgodecnidaaDoor
open Go.RowKit
open Cn

theorem empty_of {T : ByteArray} (h : T.size = 0) : T.toList.isEmpty = true := by
  rw [toList_data]
  have : T.data.toList.length = 0 := by simpa using h
  rw [List.length_eq_zero_iff.1 this]; rfl
theorem not_empty_of {T : ByteArray} (h : T.size ≠ 0) : T.toList.isEmpty = false := by
  rw [toList_data]
  cases hl : T.data.toList with
  | nil => exact absurd (by have := congrArg List.length hl; simpa using this) h
  | cons a l => rfl
set_option maxRecDepth 100000 in
set_option maxHeartbeats 4000000 in
theorem htexts_law {w : World} (x : Hd) (_ : x.Ok) (s : ByteArray) (hs : s.size ≤ maxLen) (hG : Glob w) : Calls Tryd.prog 12 #[.agg x.cs, .string s] w fun e w' => e = .returned (.bool true) ∧ Below w.heap.size w w' := by
  obtain ⟨w1, hw1⟩ : ∃ w1, w1 = w.alloc (.cells x.cs 57) := ⟨_, rfl⟩
  have hb1 : Below w.heap.size w w1 := by rw [hw1]; exact (Below.refl _ _).alloc (Nat.le_refl _) _
  have hg1 : w1.heap[w.heap.size]? = some (.cells x.cs 57 (0, 0)) := by rw [hw1]; exact heap_alloc_new _ _
  have hfw := fewH_any ⟨#[]⟩ x w1
  obtain ⟨A, hA⟩ : ∃ A, A = fewH ⟨#[]⟩ x := ⟨_, rfl⟩
  rw [← hA] at hfw
  have htx := fun W => htext_any x W
  have hrt := fun W => rhtext_any x W
  have hrd := fun W => hread_any s hs W
  have hrr := fun W => rhread_any s hs W
  have hba := fun (h : (rdH s).2 = 0) => txt_rdH h
  obtain ⟨T, hT⟩ : ∃ T, T = hdS x := ⟨_, rfl⟩
  obtain ⟨S, hS⟩ : ∃ S, S = (rdH s).1 := ⟨_, rfl⟩
  obtain ⟨q, hq⟩ : ∃ q, q = (rdH s).2 := ⟨_, rfl⟩
  have hta := fun W => htext_any S W
  obtain ⟨T2, hT2⟩ : ∃ T2, T2 = hdS S := ⟨_, rfl⟩
  rw [← hT2] at hta
  rw [← hS, ← hq, ← hT2] at hba
  rw [← hT] at htx hrt
  rw [← hS, ← hq] at hrd hrr
  have hrT : mayB x = true → ∀ W, Calls Tryd.prog 51 #[.string T] W fun e w' => e = .returned (.tuple #[.agg x.cs, .int .i64 0]) ∧ Below W.heap.size W w' := fun hm W => by
    have := hread_any (hdS x) (Nat.le_trans (hdS_size x) (by unfold maxLen; decide)) W
    rw [rdH_txt hm] at this
    rw [hT]; exact this
  have hem : (mayB x = true ∧ T.toList.isEmpty = false) ∨ T.toList.isEmpty = true := by
    rw [hT]
    cases hm : mayB x with
    | false => exact Or.inr (empty_of (hdS_empty.2 hm))
    | true => exact Or.inl ⟨rfl, not_empty_of (fun e => by rw [hdS_empty.1 e] at hm; cases hm)⟩
  have H := Lib.hid (And.intro hb1 (And.intro hg1 (And.intro hfw (And.intro htx (And.intro hrt (And.intro hrd (And.intro hrr (And.intro hba (And.intro hta (And.intro hrT hem))))))))))
  obtain ⟨c0, c1, c2, c3⟩ := hd_cell hg1
  clear hb1 hg1 hfw hA htx hrt hrd hrr hba hta hrT hem hT hS hq hT2 hs
  unfold Hd.cs at hw1 ⊢
  go_enter Tryd.func12, Tryd.ntmps12
  go_upto_region 1 with fail
  rw [← hw1]
  clear hw1
  cases A with
  | false =>
    go_wp2_with fail
    refine H.out.2.2.1.mono ?_
    rintro e w2 ⟨rfl, hb⟩
    have B2 := H.out.1.trans (hb.mono H.out.1.size)
    have C2 := (hb.block _ (lt_of_heap H.out.2.1)).trans H.out.2.1
    clear hb c0 c1 c2 c3
    have HB := Lib.hid B2
    clear B2 C2
    go_wp2_with fail
    refine (awake14_any _ (hG.below HB.out)).mono ?_
    rintro e w3 ⟨rfl, hb⟩
    have HC := Lib.hid (HB.out.trans (hb.mono HB.out.size))
    clear hb
    go_wp2_with fail
    go_ret
    exact ⟨rfl, HC.out⟩
  | true =>
    by_cases hlen : (300 : Int) < s.size
    · go_wp2_with fail
      refine H.out.2.2.1.mono ?_
      rintro e w2 ⟨rfl, hb⟩
      have B2 := H.out.1.trans (hb.mono H.out.1.size)
      have C2 := (hb.block _ (lt_of_heap H.out.2.1)).trans H.out.2.1
      clear hb c0 c1 c2 c3
      have HB := Lib.hid B2
      clear B2 C2
      go_wp2_with fail
      refine (awake14_any _ (hG.below HB.out)).mono ?_
      rintro e w3 ⟨rfl, hb⟩
      have HC := Lib.hid (HB.out.trans (hb.mono HB.out.size))
      clear hb
      go_wp2_with fail
      go_ret
      exact ⟨rfl, HC.out⟩
    go_wp2_with fail
    refine H.out.2.2.1.mono ?_
    rintro e w2 ⟨rfl, hb⟩
    have B2 := H.out.1.trans (hb.mono H.out.1.size)
    have C2 := (hb.block _ (lt_of_heap H.out.2.1)).trans H.out.2.1
    clear hb c0 c1 c2 c3
    have HB := Lib.hid (And.intro B2 C2)
    obtain ⟨c0, c1, c2, c3⟩ := hd_cell C2
    clear B2 C2
    go_wp2_with fail
    refine (H.out.2.2.2.1 _).mono ?_
    rintro e w3 ⟨rfl, hb3⟩
    have X3 := (hb3.block _ (lt_of_heap HB.out.2)).trans HB.out.2
    have B3 := HB.out.1.trans (hb3.mono HB.out.1.size)
    clear c0 c1 c2 c3
    have HC := Lib.hid (And.intro X3 B3)
    clear hb3 X3 B3
    go_wp2_with fail
    refine (H.out.2.2.2.2.2.1 _).mono ?_
    rintro e w4 ⟨rfl, hb4⟩
    obtain ⟨w5, hw5⟩ : ∃ w5, w5 = w4.alloc (.cells S.cs 57) := ⟨_, rfl⟩
    have hb5 : Below w4.heap.size w4 w5 := by rw [hw5]; exact (Below.refl _ _).alloc (Nat.le_refl _) _
    have S5 : w5.heap[w4.heap.size]? = some (.cells S.cs 57 (0, 0)) := by rw [hw5]; exact heap_alloc_new _ _
    have hb45 := hb4.trans (hb5.mono hb4.size)
    have X5 := (hb45.block _ (lt_of_heap HC.out.1)).trans HC.out.1
    have B5 := HC.out.2.trans (hb45.mono HC.out.2.size)
    have HD := Lib.hid (And.intro X5 (And.intro S5 B5))
    clear hb4 hb5 hb45 X5 S5 B5
    unfold Hd.cs at hw5 ⊢
    go_upto_region 5 with fail
    rw [← hw5]
    clear hw5
    go_wp2_with fail
    refine (H.out.2.2.2.2.2.2.1 _).mono ?_
    rintro e w6 ⟨rfl, hb6⟩
    obtain ⟨w7, hw7⟩ : ∃ w7, w7 = w6.alloc (.cells S.cs 61) := ⟨_, rfl⟩
    have hb7 : Below w6.heap.size w6 w7 := by rw [hw7]; exact (Below.refl _ _).alloc (Nat.le_refl _) _
    have R7 : w7.heap[w6.heap.size]? = some (.cells S.cs 61 (0, 0)) := by rw [hw7]; exact heap_alloc_new _ _
    have hb67 := hb6.trans (hb7.mono hb6.size)
    have X7 := (hb67.block _ (lt_of_heap HD.out.1)).trans HD.out.1
    have S7 := (hb67.block _ (lt_of_heap HD.out.2.1)).trans HD.out.2.1
    have B7 := HD.out.2.2.trans (hb67.mono HD.out.2.2.size)
    have HE := Lib.hid (And.intro X7 (And.intro S7 (And.intro R7 B7)))
    clear hb6 hb7 hb67 X7 S7 R7 B7
    unfold Hd.cs at hw7 ⊢
    go_upto_region 6 with fail
    rw [← hw7]
    clear hw7
    have E0 := (show w7.drew.heap[w.heap.size]? = some (.cells x.cs 57 (0, 0)) ∧ w7.drew.heap[w4.heap.size]? = some (.cells S.cs 57 (0, 0)) ∧ w7.drew.heap[w6.heap.size]? = some (.cells S.cs 61 (0, 0)) from ⟨HE.out.1, HE.out.2.1, HE.out.2.2.1⟩)
    have F0 := HE.out.2.2.2.drew
    go_wp2_with fail
    refine wp_region_held (S := fun W => W.heap[w.heap.size]? = some (.cells x.cs 57 (0, 0)) ∧ W.heap[w4.heap.size]? = some (.cells S.cs 57 (0, 0)) ∧ W.heap[w6.heap.size]? = some (.cells S.cs 61 (0, 0))) (by kernel_rfl) ?_
    change wpAnyH _ _ _ _ _ _ _ _ (World.drew _)
    generalize World.drew _ = v0 at *
    refine wpAnyH_take (i := 0) (v := ?_) rfl (by kernel_rfl) (by kernel_rfl) (by kernel_rfl) (fun _ _ _ h => h) (Or.inl ⟨by kernel_rfl, ?_⟩) E0 ?_
    rotate_left
    · (intro W hS; clear hS; go_simp; try (with_reducible rfl))
    refine wpAnyH_take (i := 1) (v := ?_) rfl (by kernel_rfl) (by kernel_rfl) (by kernel_rfl) (fun _ _ _ h => h) (Or.inl ⟨by kernel_rfl, ?_⟩) E0 ?_
    rotate_left
    · (intro W hS; obtain ⟨g0, g1, g2, g3⟩ := hd_cell hS.1; obtain ⟨k0, k1, k2, k3⟩ := hd_cell hS.2.1; obtain ⟨l0, l1, l2, l3⟩ := hd_cell hS.2.2; clear hS; go_simp; try (with_reducible rfl))
    refine wpAnyH_ready (rs := [2]) (by kernel_rfl) (by simp) ?_
    refine AllReadyH.cons rfl (fun K hK => ?_) AllReadyH.nil
    go_simp
    refine (ref_any x v0).mono ?_
    rintro e v1 ⟨rfl, hb⟩
    unfold Hd.cs
    have F1 := F0.trans (hb.mono F0.size)
    have E1 : v1.heap[w.heap.size]? = some (.cells x.cs 57 (0, 0)) ∧ v1.heap[w4.heap.size]? = some (.cells S.cs 57 (0, 0)) ∧ v1.heap[w6.heap.size]? = some (.cells S.cs 61 (0, 0)) := ⟨(hb.block _ (lt_of_heap E0.1)).trans E0.1, (hb.block _ (lt_of_heap E0.2.1)).trans E0.2.1, (hb.block _ (lt_of_heap E0.2.2)).trans E0.2.2⟩
    refine hK.out _ _ E1 (fun _ => ?_)
    clear hK K hb
    refine wpAnyH_ready (rs := [3]) (by kernel_rfl) (by simp) ?_
    refine AllReadyH.cons rfl (fun K hK => ?_) AllReadyH.nil
    go_simp
    refine (H.out.2.2.2.2.1 v1).mono ?_
    rintro e v2 ⟨rfl, hb⟩
    have F2 := F1.trans (hb.mono F1.size)
    have E2 : v2.heap[w.heap.size]? = some (.cells x.cs 57 (0, 0)) ∧ v2.heap[w4.heap.size]? = some (.cells S.cs 57 (0, 0)) ∧ v2.heap[w6.heap.size]? = some (.cells S.cs 61 (0, 0)) := ⟨(hb.block _ (lt_of_heap E1.1)).trans E1.1, (hb.block _ (lt_of_heap E1.2.1)).trans E1.2.1, (hb.block _ (lt_of_heap E1.2.2)).trans E1.2.2⟩
    refine hK.out _ _ E2 (fun _ => ?_)
    clear hK K hb
    refine wpAnyH_take (i := 4) (v := ?_) rfl (by kernel_rfl) (by kernel_rfl) (by kernel_rfl) (fun _ _ _ h => h) (Or.inl ⟨by kernel_rfl, ?_⟩) E2 ?_
    rotate_left
    · (intro W hS; clear hS; go_simp; try (with_reducible rfl))
    refine wpAnyH_take (i := 5) (v := ?_) rfl (by kernel_rfl) (by kernel_rfl) (by kernel_rfl) (fun _ _ _ h => h) (Or.inl ⟨by kernel_rfl, ?_⟩) E2 ?_
    rotate_left
    · (intro W hS; clear hS; go_simp; try (with_reducible rfl))
    refine wpAnyH_take (i := 6) (v := ?_) rfl (by kernel_rfl) (by kernel_rfl) (by kernel_rfl) (fun _ _ _ h => h) (Or.inl ⟨by kernel_rfl, ?_⟩) E2 ?_
    rotate_left
    · (intro W hS; obtain ⟨g0, g1, g2, g3⟩ := hd_cell hS.1; obtain ⟨k0, k1, k2, k3⟩ := hd_cell hS.2.1; obtain ⟨l0, l1, l2, l3⟩ := hd_cell hS.2.2; clear hS; go_simp; try (with_reducible rfl))
    refine wpAnyH_take (i := 8) (v := ?_) rfl (by kernel_rfl) (by kernel_rfl) (by kernel_rfl) (fun _ _ _ h => h) (Or.inl ⟨by kernel_rfl, ?_⟩) E2 ?_
    rotate_left
    · (intro W hS; obtain ⟨g0, g1, g2, g3⟩ := hd_cell hS.1; obtain ⟨k0, k1, k2, k3⟩ := hd_cell hS.2.1; obtain ⟨l0, l1, l2, l3⟩ := hd_cell hS.2.2; clear hS; go_simp; try (with_reducible rfl))
    refine wpAnyH_ready (rs := [7]) (by kernel_rfl) (by simp) ?_
    refine AllReadyH.cons rfl (fun K hK => ?_) AllReadyH.nil
    go_simp
    refine (ref_any S v2).mono ?_
    rintro e v3 ⟨rfl, hb⟩
    unfold Hd.cs
    have F3 := F2.trans (hb.mono F2.size)
    have E3 : v3.heap[w.heap.size]? = some (.cells x.cs 57 (0, 0)) ∧ v3.heap[w4.heap.size]? = some (.cells S.cs 57 (0, 0)) ∧ v3.heap[w6.heap.size]? = some (.cells S.cs 61 (0, 0)) := ⟨(hb.block _ (lt_of_heap E2.1)).trans E2.1, (hb.block _ (lt_of_heap E2.2.1)).trans E2.2.1, (hb.block _ (lt_of_heap E2.2.2)).trans E2.2.2⟩
    refine hK.out _ _ E3 (fun _ => ?_)
    clear hK K hb
    refine wpAnyH_take (i := 9) (v := ?_) rfl (by kernel_rfl) (by kernel_rfl) (by kernel_rfl) (fun _ _ _ h => h) (Or.inl ⟨by kernel_rfl, ?_⟩) E3 ?_
    rotate_left
    · (intro W hS; clear hS; go_simp; try (with_reducible rfl))
    refine wpAnyH_take (i := 10) (v := ?_) rfl (by kernel_rfl) (by kernel_rfl) (by kernel_rfl) (fun _ _ _ h => h) (Or.inl ⟨by kernel_rfl, ?_⟩) E3 ?_
    rotate_left
    · (intro W hS; clear hS; go_simp; try (with_reducible rfl))
    refine wpAnyH_take (i := 11) (v := ?_) rfl (by kernel_rfl) (by kernel_rfl) (by kernel_rfl) (fun _ _ _ h => h) (Or.inl ⟨by kernel_rfl, ?_⟩) E3 ?_
    rotate_left
    · (intro W hS; clear hS; go_simp; try (with_reducible rfl))
    refine wpAnyH_take (i := 12) (v := ?_) rfl (by kernel_rfl) (by kernel_rfl) (by kernel_rfl) (fun _ _ _ h => h) (Or.inl ⟨by kernel_rfl, ?_⟩) E3 ?_
    rotate_left
    · (intro W hS; clear hS; go_simp; try (with_reducible rfl))
    refine wpAnyH_take (i := 13) (v := ?_) rfl (by kernel_rfl) (by kernel_rfl) (by kernel_rfl) (fun _ _ _ h => h) (Or.inl ⟨by kernel_rfl, ?_⟩) E3 ?_
    rotate_left
    · (intro W hS; clear hS; go_simp; try (with_reducible rfl))
    refine wpAnyH_take (i := 14) (v := ?_) rfl (by kernel_rfl) (by kernel_rfl) (by kernel_rfl) (fun _ _ _ h => h) (Or.inl ⟨by kernel_rfl, ?_⟩) E3 ?_
    rotate_left
    · (intro W hS; clear hS; go_simp; try (with_reducible rfl))
    refine wpAnyH_take (i := 15) (v := ?_) rfl (by kernel_rfl) (by kernel_rfl) (by kernel_rfl) (fun _ _ _ h => h) (Or.inl ⟨by kernel_rfl, ?_⟩) E3 ?_
    rotate_left
    · (intro W hS; clear hS; go_simp; try (with_reducible rfl))
    refine wpAnyH_done (by kernel_rfl) ?_ _
    go_simp
    obtain ⟨v, hv⟩ : ∃ v, v = v3 := ⟨_, rfl⟩
    rw [← hv]
    have HF := Lib.hid (show v.heap[w.heap.size]? = some (.cells x.cs 57 (0, 0)) ∧ v.heap[w4.heap.size]? = some (.cells S.cs 57 (0, 0)) ∧ Below w.heap.size w v from by rw [hv]; exact ⟨E3.1, E3.2.1, F3⟩)
    clear hv
    clear E0 F0 E1 F1 E2 F2 E3 F3
    rcases H.out.2.2.2.2.2.2.2.2.2.2 with ⟨hm, he⟩ | he
    · have hrT := H.out.2.2.2.2.2.2.2.2.2.1 hm
      have HT := Lib.hid hrT
      clear hm hrT
      go_wp2_with fail
      refine (HT.out _).mono ?_
      rintro e u0 ⟨rfl, hb0⟩
      obtain ⟨u1, hu1⟩ : ∃ u1, u1 = u0.alloc (.cells x.cs 57) := ⟨_, rfl⟩
      have hb1 : Below u0.heap.size u0 u1 := by rw [hu1]; exact (Below.refl _ _).alloc (Nat.le_refl _) _
      have Y1 : u1.heap[u0.heap.size]? = some (.cells x.cs 57 (0, 0)) := by rw [hu1]; exact heap_alloc_new _ _
      have hb01 := hb0.trans (hb1.mono hb0.size)
      have X1 := (hb01.block _ (lt_of_heap HF.out.1)).trans HF.out.1
      have S1 := (hb01.block _ (lt_of_heap HF.out.2.1)).trans HF.out.2.1
      have B1 := HF.out.2.2.trans (hb01.mono HF.out.2.2.size)
      have HU := Lib.hid (And.intro X1 (And.intro S1 B1))
      obtain ⟨g0, g1, g2, g3⟩ := hd_cell X1
      obtain ⟨y0, y1, y2, y3⟩ := hd_cell Y1
      clear hb0 hb1 hb01 X1 S1 B1 Y1
      unfold Hd.cs at hu1 ⊢
      go_upto_region 10 with fail
      rw [← hu1]
      clear hu1
      go_upto_region 12 with fail
      clear g0 g1 g2 g3 y0 y1 y2 y3 he
      by_cases hq : q = 0
      · have e1 : (q != 0) = false := by simpa using hq
        have eT : (T2.toList == s.toList) = true := eq_toList (H.out.2.2.2.2.2.2.2.1 hq)
        clear hq
        obtain ⟨k0, k1, k2, k3⟩ := hd_cell HU.out.2.1
        go_wp2_with fail
        refine (awake14_any _ (hG.below HU.out.2.2)).mono ?_
        rintro e u2 ⟨rfl, hb⟩
        have HX := Lib.hid (And.intro ((hb.block _ (lt_of_heap HU.out.2.1)).trans HU.out.2.1) (HU.out.2.2.trans (hb.mono HU.out.2.2.size)))
        clear hb k0 k1 k2 k3
        obtain ⟨k0, k1, k2, k3⟩ := hd_cell HX.out.1
        go_wp2_with fail
        refine (H.out.2.2.2.2.2.2.2.2.1 _).mono ?_
        rintro e u3 ⟨rfl, hb⟩
        have HY := Lib.hid (HX.out.2.trans (hb.mono HX.out.2.size))
        clear hb
        go_wp2_with fail
        go_ret
        exact ⟨rfl, HY.out⟩
      · have e1 : (q != 0) = true := by simpa using hq
        clear hq
        obtain ⟨k0, k1, k2, k3⟩ := hd_cell HU.out.2.1
        go_wp2_with fail
        refine (awake14_any _ (hG.below HU.out.2.2)).mono ?_
        rintro e u2 ⟨rfl, hb⟩
        have HX := Lib.hid (HU.out.2.2.trans (hb.mono HU.out.2.2.size))
        clear hb
        go_wp2_with fail
        go_ret
        exact ⟨rfl, HX.out⟩
    · go_upto_region 12 with fail
      clear he
      by_cases hq : q = 0
      · have e1 : (q != 0) = false := by simpa using hq
        have eT : (T2.toList == s.toList) = true := eq_toList (H.out.2.2.2.2.2.2.2.1 hq)
        clear hq
        obtain ⟨k0, k1, k2, k3⟩ := hd_cell HF.out.2.1
        go_wp2_with fail
        refine (awake14_any _ (hG.below HF.out.2.2)).mono ?_
        rintro e u2 ⟨rfl, hb⟩
        have HX := Lib.hid (And.intro ((hb.block _ (lt_of_heap HF.out.2.1)).trans HF.out.2.1) (HF.out.2.2.trans (hb.mono HF.out.2.2.size)))
        clear hb k0 k1 k2 k3
        obtain ⟨k0, k1, k2, k3⟩ := hd_cell HX.out.1
        go_wp2_with fail
        refine (H.out.2.2.2.2.2.2.2.2.1 _).mono ?_
        rintro e u3 ⟨rfl, hb⟩
        have HY := Lib.hid (HX.out.2.trans (hb.mono HX.out.2.size))
        clear hb
        go_wp2_with fail
        go_ret
        exact ⟨rfl, HY.out⟩
      · have e1 : (q != 0) = true := by simpa using hq
        clear hq
        obtain ⟨k0, k1, k2, k3⟩ := hd_cell HF.out.2.1
        go_wp2_with fail
        refine (awake14_any _ (hG.below HF.out.2.2)).mono ?_
        rintro e u2 ⟨rfl, hb⟩
        have HX := Lib.hid (HF.out.2.2.trans (hb.mono HF.out.2.2.size))
        clear hb
        go_wp2_with fail
        go_ret
        exact ⟨rfl, HX.out⟩
end Go.Proofs.YtdjhlgodecnidaaDoor

namespace Go.Proofs.YtdjhlgodecnidaaDoor.headTextsLaw
open Go.ChangeShapes Go.WideShapes Go.ChangeAt Go.RowKit
open Go.ChangeMaps (open_string shut_string)

set_option maxRecDepth 100000 in
theorem contract (H : Type) (enc : TypeId × Value → H) (W : World) (base : Nat) (args : Array Value) (ds gs : List (DataW H)) (before : List MemPlace)
    (hval : ∀ (j : Nat) t v, Tryd.f12.params[j]? = some t → args[j]? = some v → Value.okWide Tryd.prog W .any base t v)
    (hW : DataW.Whole enc Tryd.prog Tryd.f12.params.toList Rows.headTextsSpec.vars false W args.toList ds gs before) (hL : laidMetH Tryd.prog Rows.headTextsRow.laid W) :
    Calls Tryd.prog 12 args W fun e W' => ∃ v, e = .returned v ∧ Rows.headTextsSpec.post enc Tryd.prog Tryd.f12 false true false false W args v W' := by
  have hW' := hW
  obtain ⟨p, q, hA0, hV, rfl, hfz, hnd⟩ := hW
  have hA : DataW.TrodAll enc Tryd.prog W 0 (fun _ => true) true Tryd.f12.params.toList args.toList ds p := hA0
  rw [Tryd.params12] at hA hval
  obtain ⟨v0, vs0, d0, ds0, p0, q0, hargs, rfl, rfl, h0, r0⟩ := trodAll_cons hA
  obtain ⟨v1, vs1, d1, ds1, p1, q1, rfl, rfl, rfl, h1, r1⟩ := trodAll_cons r0
  obtain ⟨rfl, rfl, rfl⟩ := trodAll_nil r1
  obtain rfl : args = #[v0, v1] := by cases args; simp_all
  obtain ⟨rfl, rfl⟩ := trodVars_none hV
  obtain ⟨cs0, rfl, hcs0⟩ := okWide_struct Tryd.underlying57 (hval 0 57 v0 rfl rfl)
  have hk0 := h0
  obtain ⟨fuel0, hf0⟩ := h0
  obtain ⟨s1, rfl, rfl, rfl, ws1⟩ := open_string Tryd.underlying9 (hval 1 9 v1 rfl rfl) h1
  clear hA0
  simp only [List.append_nil] at hW'
  have hlt0 : ∀ x ∈ p0, x.block < W.heap.size := fun x hx => by simpa using hW'.lt x (by simp [hx])
  obtain ⟨x0a, hit0, hf0a⟩ := open_head hf0
  obtain rfl : cs0 = Hd.cs x0a := Array.toList_inj.1 hit0
  refine (htexts_law x0a hf0a s1 (by simpa using ws1) (w := W) (hG := glob_of_laid hL)).mono fun e W' ⟨he, hb⟩ => ?_
  subst he
  exact ⟨_, rfl, _, _, _, [], _, [], hW', trodAll_cons_mk (shut_bool Tryd.underlying4 _) trodAll_mk0, (trodAll_cons_mk (Below.trod laidOut (by kernel_rfl) (of_decide_eq_true (by kernel_rfl)) hk0 hb hlt0) (trodAll_cons_mk (shut_string Tryd.underlying9 ws1) trodAll_mk0)), rfl, hb.frame _, fun h => by cases h⟩
theorem laid_met (os : Os) : laidMet Tryd.prog Rows.headTextsRow.laid ((laidWorld os).forCall (fun _ _ => 0) ⟨#[], #[.agg #[.int .i64 0, .string ⟨#[]⟩, .int .i64 0, .string ⟨#[]⟩], .string ⟨#[]⟩], []⟩).memory :=
  laidMet_of_run' 8 (by kernel_rfl) (by kernel_rfl)
theorem reads (os : Os) {H : Type} (enc : TypeId × Value → H) : ∃ places, DataW.whole enc Tryd.prog ((laidWorld os).forCall (fun _ _ => 0) ⟨#[], #[.agg #[.int .i64 0, .string ⟨#[]⟩, .int .i64 0, .string ⟨#[]⟩], .string ⟨#[]⟩], []⟩).memory Tryd.f12.params.toList Rows.headTextsSpec.vars false #[Value.agg #[.int .i64 0, .string ⟨#[]⟩, .int .i64 0, .string ⟨#[]⟩], .string ⟨#[]⟩].toList 8 = some ([.agg [.lit (.int .i64 0), .lit (.string []), .lit (.int .i64 0), .lit (.string [])], .lit (.string [])], [], places) :=
  ⟨[], by kernel_rfl⟩
set_option maxRecDepth 100000 in
theorem lifted (os : Os) (started : os.Started) (H : Type) (enc : TypeId × Value → H) (F : Stop.Interp) :
    ReturnsInHanded {} Tryd.checked os 12 .any ((OpenSpec.ofChange Rows.headTextsSpec).preRow enc Tryd.prog Tryd.f12 Rows.headTextsRow.domain false Rows.headTextsRow.laid) (((OpenSpec.ofChange Rows.headTextsSpec).at F).post enc Tryd.prog Tryd.f12 false true false false) := by
  obtain ⟨places, hx⟩ := reads os enc
  refine returnsInHanded_of_row (C := Tryd.checked) (s := OpenSpec.ofChange Rows.headTextsSpec) own started (by kernel_rfl) Tryd.func12
    (witness_row_at (enc := enc) (C := Tryd.checked) false (laidWorld os) #[.agg #[.int .i64 0, .string ⟨#[]⟩, .int .i64 0, .string ⟨#[]⟩], .string ⟨#[]⟩] rfl (by kernel_rfl) (by kernel_rfl) (by kernel_rfl)
      (OpenSpec.preRow_of_cond 8 hx (by kernel_rfl) (fun k hk => by cases hk) (by kernel_rfl) (laid_met os))) ?_
  intro W base args ds gs before hval hW _ _ _ hL _ _
  exact contract H enc W base args ds gs before hval hW hL
theorem said : Rows.HeadTextsSaid :=
  OpenClaim.holds_of_cond 12 Tryd.f12 rfl rfl rfl rfl rfl rfl rfl ⟨rfl, rfl, rfl, rfl, rfl⟩ rfl rfl rfl rfl rfl (by kernel_rfl) Tryd.func12 (by kernel_rfl)
    (of_decide_eq_true (by kernel_rfl)) (by unfold Func.isWrapper; first | (rw [if_pos (by decide +kernel)]; kernel_rfl) | (rw [if_neg (by decide +kernel)]; exact ⟨rfl, rfl⟩))
    (fun os started H enc _ F => by rw [OpenClaim.pre_eq_preRow]; exact lifted os started H enc F)
theorem plain (f : FuncId) (fn : Func) (hf : Tryd.pinned.checked.prog.funcNamed "lockbox/lockboxlaw14.HeadTexts" = some f) (hfn : Tryd.pinned.checked.prog.funcs[f]? = some fn) :
    false = Tryd.pinned.checked.prog.looks [] ∧ ∀ (j : Nat) t, fn.params[j]? = some t → Tryd.pinned.checked.prog.wantsStandIn t = false := by
  obtain rfl : f = 12 := Option.some.inj ((show Tryd.prog.funcNamed "lockbox/lockboxlaw14.HeadTexts" = some 12 by kernel_rfl).symm.trans hf) |>.symm
  obtain rfl : fn = Tryd.f12 := (Option.some.inj (Tryd.func12.symm.trans hfn)).symm
  refine ⟨by kernel_rfl, fun j t ht => ?_⟩
  rw [Tryd.params12] at ht
  have hm : t ∈ [57, 9] := by simpa using Array.mem_of_getElem? ht
  have hall : ([57, 9].all fun u => !Tryd.prog.wantsStandIn u) = true := by kernel_rfl
  exact (show Tryd.prog.wantsStandIn t = false by simpa using List.all_eq_true.1 hall t hm)
end Go.Proofs.YtdjhlgodecnidaaDoor.headTextsLaw

namespace Go.Proofs.YtdjhlgodecnidaaDoor
/-- THE CARD. -/
theorem headTexts_card : Rows.HeadTextsCardSaid :=
  Claim7.holds_tied_plain_at .later [] _ _ _ _ headTextsLaw.said (fun _ h => by cases h) (by kernel_rfl) (fun _ h => by cases h) headTexts_row_tie rfl ⟨rfl, rfl⟩ (by kernel_rfl) rfl headTextsLaw.plain (by kernel_rfl)
end Go.Proofs.YtdjhlgodecnidaaDoor
