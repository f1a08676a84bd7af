/- PROVED HERE: for every key and every head the law HeadBack returns true (what is signed is found to be, written and read again, too; under one key a head has one code). Its conditions: the two package-level tables hold what their initialisers lay (tied to the program's text by the card). -/
import Derived.Test.YtdjhlgodecnidaaDoorJLater
import Derived.Test.YtdjhlgodecnidaaDoorJRead
import Derived.Test.YtdjhlgodecnidaaDoorJOpen
import Derived.Test.YtdjhlgodecnidaaDoorLaid
namespace Go.Proofs.YtdjhlgodecnidaaDoor
open Go.RowKit
open Cn

theorem sign_cases (key : ByteArray) (x : Hd) : ((signP key x).2 = 0 ∧ key.size = 32 ∧ bodyB x = true) ∨ ((signP key x).1 = Hd.zero ∧ (signP key x).2 ≠ 0) := by
  by_cases hk : key.size = 32
  · cases hb : bodyB x with
    | true => exact Or.inl ⟨sign_ok hk hb, hk, rfl⟩
    | false =>
      right
      unfold signP
      rw [if_neg (fun e => e hk), if_pos hb]
      exact ⟨rfl, by decide⟩
  · right
    unfold signP
    rw [if_pos hk]
    exact ⟨rfl, by decide⟩
/-- Under one key a head has one code. -/
theorem check_back {key : ByteArray} {x : Hd} (hk : key.size = 32) (hb : bodyB x = true) (y : ByteArray) :
    (checkP key ⟨(signP key x).1.n, (signP key x).1.r, (signP key x).1.t, y⟩ == 0) = (y.toList == (signP key x).1.c.toList) := by
  rw [sign_is hk hb]
  simp only
  rw [beq_texts]
  unfold checkP
  rw [if_neg (fun e => e hk)]
  by_cases hm : mayB ⟨x.n, x.r, x.t, y⟩ = true
  · rw [if_neg (by rw [hm]; decide)]
    by_cases he : str (code key.data.toList (sgS ⟨x.n, x.r, x.t, y⟩).data.toList) = y
    · rw [if_pos he]
      rw [show sgS ⟨x.n, x.r, x.t, y⟩ = sgS x from rfl] at he
      rw [decide_eq_true he.symm]; rfl
    · rw [if_neg he]
      rw [show sgS ⟨x.n, x.r, x.t, y⟩ = sgS x from rfl] at he
      rw [decide_eq_false (fun e => he e.symm)]; rfl
  · rw [if_pos (by simpa using hm), decide_eq_false]
    · rfl
    · intro e
      refine hm (mayB_iff.2 ⟨hb, ?_⟩)
      simp only
      rw [e]; exact str_code_size _ _
set_option maxRecDepth 100000 in
set_option maxHeartbeats 2000000 in
theorem backs_law {w : World} (key : ByteArray) (_ : key.size ≤ maxLen) (x : Hd) (_ : x.Ok) (hG : Glob w) : Calls Tryd.prog 13 #[.string key, .agg x.cs] w fun e w' => e = .returned (.bool true) ∧ Below w.heap.size w w' := by
  obtain ⟨w1, hw1⟩ : ∃ w1, w1 = w.alloc (.cells x.cs 57) := ⟨_, rfl⟩
  have hb1 : Below w.heap.size w w1 := by rw [hw1]; exact (Below.refl _ _).alloc (Nat.le_refl _) _
  have hg1 : w1.heap[w.heap.size]? = some (.cells x.cs 57 (0, 0)) := by rw [hw1]; exact heap_alloc_new _ _
  have hfw := fewH_any key x w1
  obtain ⟨A, hA⟩ : ∃ A, A = fewH key x := ⟨_, rfl⟩
  rw [← hA] at hfw
  have hsc := sign_cases key x
  have hcb := fun hk hb => check_back (key := key) (x := x) hk hb x.c
  have hcs := fun hk hb => check_sign (key := key) (h := x) hk hb
  have hsm := fun hk hb => sign_may (key := key) (h := x) hk hb
  obtain ⟨S, hS⟩ : ∃ S, S = (signP key x).1 := ⟨_, rfl⟩
  obtain ⟨q, hq⟩ : ∃ q, q = (signP key x).2 := ⟨_, rfl⟩
  have hsn := fun W hG => sign_any key x W hG
  rw [← hS, ← hq] at hsn
  rw [← hS, ← hq] at hsc
  rw [← hS] at hcb hcs hsm
  have H := Lib.hid (And.intro hb1 (And.intro hg1 (And.intro hfw (And.intro hsn (And.intro hsc (And.intro hcb (And.intro hcs hsm)))))))
  obtain ⟨c0, c1, c2, c3⟩ := hd_cell hg1
  clear hb1 hg1 hfw hA hsn hsc hcb hcs hsm hS hq
  unfold Hd.cs at hw1 ⊢
  go_enter Tryd.func13, Tryd.ntmps13
  go_upto_region 1 with fail
  rw [← hw1]
  clear hw1
  go_wp2_with fail
  refine H.out.2.2.1.mono ?_
  rintro e w2 ⟨rfl, hb⟩
  have B2 := H.out.1.trans (hb.mono H.out.1.size)
  have C2 := (hb.block _ (lt_of_heap H.out.2.1)).trans H.out.2.1
  clear hb c0 c1 c2 c3
  cases A with
  | false =>
    have HB := Lib.hid B2
    clear B2 C2
    go_wp2_with fail
    refine (awake14_any _ (hG.below HB.out)).mono ?_
    rintro e w3 ⟨rfl, hb⟩
    have HC := Lib.hid (HB.out.trans (hb.mono HB.out.size))
    clear hb
    go_wp2_with fail
    go_ret
    exact ⟨rfl, HC.out⟩
  | true =>
    have HB := Lib.hid (And.intro B2 C2)
    obtain ⟨c0, c1, c2, c3⟩ := hd_cell C2
    clear B2 C2
    go_wp2_with fail
    refine (H.out.2.2.2.1 _ (hG.below HB.out.1)).mono ?_
    rintro e w3 ⟨rfl, hb3⟩
    obtain ⟨w4, hw4⟩ : ∃ w4, w4 = w3.alloc (.cells S.cs 57) := ⟨_, rfl⟩
    have hb4 : Below w3.heap.size w3 w4 := by rw [hw4]; exact (Below.refl _ _).alloc (Nat.le_refl _) _
    have A4 : w4.heap[w3.heap.size]? = some (.cells S.cs 57 (0, 0)) := by rw [hw4]; exact heap_alloc_new _ _
    have hb34 := hb3.trans (hb4.mono hb3.size)
    have X4 := (hb34.block _ (lt_of_heap HB.out.2)).trans HB.out.2
    have B4 := HB.out.1.trans (hb34.mono HB.out.1.size)
    have HC := Lib.hid (And.intro X4 (And.intro A4 B4))
    clear c0 c1 c2 c3
    obtain ⟨c0, c1, c2, c3⟩ := hd_cell A4
    clear hb3 hb4 hb34 X4 A4 B4
    unfold Hd.cs at hw4 ⊢
    go_upto_region 4 with fail
    rw [← hw4]
    clear hw4
    rcases H.out.2.2.2.2.1 with ⟨rfl, hk, hbd⟩ | ⟨rfl, hq⟩
    rotate_left
    · have hq0 : (q != 0) = true := by simpa using hq
      have HQ := Lib.hid hq
      clear hq
      simp only [Hd.zero] at c0 c1 c2 c3
      go_wp2_with fail
      refine (awake14_any _ (hG.below HC.out.2.2)).mono ?_
      rintro e w5 ⟨rfl, hb⟩
      obtain ⟨d0, d1, d2, d3, -⟩ := zero_cells4 ((hb.block _ (lt_of_heap HC.out.2.1)).trans HC.out.2.1)
      have HD := Lib.hid (HC.out.2.2.trans (hb.mono HC.out.2.2.size))
      clear hb c0 c1 c2 c3
      go_wp2_with fail
      go_ret
      exact ⟨rfl, HD.out⟩
    have hmS := H.out.2.2.2.2.2.2.2 hk hbd
    have hcS := H.out.2.2.2.2.2.2.1 hk hbd
    have hcB := H.out.2.2.2.2.2.1 hk hbd
    have htx := fun W => htext_any S W
    have hrd := fun W => hread_any (hdS S) (Nat.le_trans (hdS_size S) (by unfold maxLen; decide)) W
    rw [rdH_txt hmS] at hrd
    obtain ⟨T, hT⟩ : ∃ T, T = hdS S := ⟨_, rfl⟩
    rw [← hT] at htx hrd
    have hck := fun W hG => hcheck_any key S W hG
    rw [hcS] at hck
    obtain ⟨Y, hY⟩ : ∃ Y : Hd, Y = ⟨S.n, S.r, S.t, x.c⟩ := ⟨_, rfl⟩
    have hck2 := fun W hG => hcheck_any key Y W hG
    rw [← hY] at hcB
    obtain ⟨Q, hQ⟩ : ∃ Q, Q = checkP key Y := ⟨_, rfl⟩
    rw [← hQ] at hck2 hcB
    obtain ⟨X, hX⟩ : ∃ X, X = (x.c.toList == S.c.toList) := ⟨_, rfl⟩
    rw [← hX] at hcB
    have H2 := Lib.hid (And.intro htx (And.intro hrd (And.intro hck (And.intro hck2 (And.intro hcB (And.intro hX hY))))))
    clear hmS hcS hcB htx hrd hT hck hck2 hQ hX hY hk hbd
    go_wp2_with fail
    refine (H2.out.1 _).mono ?_
    rintro e w5 ⟨rfl, hb5⟩
    go_wp2_with fail
    refine (H2.out.2.1 _).mono ?_
    rintro e w6 ⟨rfl, hb6⟩
    have hb56 := hb5.trans (hb6.mono hb5.size)
    obtain ⟨w7, hw7⟩ : ∃ w7, w7 = w6.alloc (.cells S.cs 57) := ⟨_, rfl⟩
    have hb7 : Below w6.heap.size w6 w7 := by rw [hw7]; exact (Below.refl _ _).alloc (Nat.le_refl _) _
    have D7 : w7.heap[w6.heap.size]? = some (.cells S.cs 57 (0, 0)) := by rw [hw7]; exact heap_alloc_new _ _
    have hb57 := hb56.trans (hb7.mono hb56.size)
    have X7 := (hb57.block _ (lt_of_heap HC.out.1)).trans HC.out.1
    have A7 := (hb57.block _ (lt_of_heap HC.out.2.1)).trans HC.out.2.1
    have B7 := HC.out.2.2.trans (hb57.mono HC.out.2.2.size)
    have HD := Lib.hid (And.intro X7 (And.intro A7 (And.intro D7 B7)))
    clear c0 c1 c2 c3 hb5 hb6 hb56 hb7 hb57 X7 D7 B7
    obtain ⟨c0, c1, c2, c3⟩ := hd_cell A7
    clear A7
    unfold Hd.cs at hw7 ⊢
    go_upto_region 7 with fail
    rw [← hw7]
    clear hw7
    obtain ⟨w8, hw8⟩ : ∃ w8, w8 = w7.alloc (.cells S.cs 57) := ⟨_, rfl⟩
    have hb8 : Below w7.heap.size w7 w8 := by rw [hw8]; exact (Below.refl _ _).alloc (Nat.le_refl _) _
    have Y8 : w8.heap[w7.heap.size]? = some (.cells S.cs 57 (0, 0)) := by rw [hw8]; exact heap_alloc_new _ _
    have X8 := (hb8.block _ (lt_of_heap HD.out.1)).trans HD.out.1
    have A8 := (hb8.block _ (lt_of_heap HD.out.2.1)).trans HD.out.2.1
    have D8 := (hb8.block _ (lt_of_heap HD.out.2.2.1)).trans HD.out.2.2.1
    have B8 := HD.out.2.2.2.trans (hb8.mono HD.out.2.2.2.size)
    have n1 := lt_of_heap HD.out.1
    have n2 := lt_of_heap HD.out.2.1
    have n3 := lt_of_heap HD.out.2.2.1
    have n4 : w.heap.size ≤ w7.heap.size := by omega
    have n5 : w.heap.size ≠ w7.heap.size := by omega
    have n6 : w3.heap.size ≠ w7.heap.size := by omega
    have n7 : w6.heap.size ≠ w7.heap.size := by omega
    have hput := hd_put3 Y8 x.c
    rw [show (⟨S.n, S.r, S.t, x.c⟩ : Hd) = Y from H2.out.2.2.2.2.2.2.symm] at hput
    have X9 := (other_put w8 w7.heap.size w.heap.size 3 (.string x.c) n5).trans X8
    have A9 := (other_put w8 w7.heap.size w3.heap.size 3 (.string x.c) n6).trans A8
    have D9 := (other_put w8 w7.heap.size w6.heap.size 3 (.string x.c) n7).trans D8
    have B9 := put1 B8 n4 3 (.string x.c)
    have HE := Lib.hid (And.intro X9 (And.intro A9 (And.intro D9 (And.intro hput B9))))
    obtain ⟨x0, x1, x2, x3⟩ := hd_cell X8
    obtain ⟨y0, y1, y2, y3⟩ := hd_cell Y8
    have yf := fun j => frozen_of_row w8 w7.heap.size j _ _ Y8
    clear hb8 Y8 X8 A8 D8 B8 n1 n2 n3 n4 n5 n6 n7 hput X9 A9 D9 B9
    unfold Hd.cs at hw8
    go_upto_region 8 with fail
    rw [← hw8]
    clear hw8 c0 c1 c2 c3
    go_upto_region 9 with fail
    generalize World.setCell _ _ _ = w9 at *
    clear x0 x1 x2 x3 y0 y1 y2 y3 yf
    have hX : (Y.c.toList == S.c.toList) = X := by rw [show Y.c = x.c by rw [H2.out.2.2.2.2.2.2]]; exact H2.out.2.2.2.2.2.1.symm
    have E0 := (show w9.drew.heap[w.heap.size]? = some (.cells x.cs 57 (0, 0)) ∧ w9.drew.heap[w3.heap.size]? = some (.cells S.cs 57 (0, 0)) ∧ w9.drew.heap[w6.heap.size]? = some (.cells S.cs 57 (0, 0)) ∧ w9.drew.heap[w7.heap.size]? = some (.cells Y.cs 57 (0, 0)) from ⟨HE.out.1, HE.out.2.1, HE.out.2.2.1, HE.out.2.2.2.1⟩)
    have F0 := HE.out.2.2.2.2.drew
    go_wp2_with fail
    refine wp_region_held (S := fun W => W.heap[w.heap.size]? = some (.cells x.cs 57 (0, 0)) ∧ W.heap[w3.heap.size]? = some (.cells S.cs 57 (0, 0)) ∧ W.heap[w6.heap.size]? = some (.cells S.cs 57 (0, 0)) ∧ W.heap[w7.heap.size]? = some (.cells Y.cs 57 (0, 0))) (by kernel_rfl) ?_
    change wpAnyH _ _ _ _ _ _ _ _ (World.drew _)
    generalize World.drew _ = v0 at *
    refine wpAnyH_ready (rs := [0]) (by kernel_rfl) (by simp) ?_
    refine AllReadyH.cons rfl (fun K hK => ?_) AllReadyH.nil
    go_simp
    refine (awake14_any v0 (hG.below F0)).mono ?_
    rintro e v1 ⟨rfl, hb⟩
    have F1 := F0.trans (hb.mono F0.size)
    have E1 : v1.heap[w.heap.size]? = some (.cells x.cs 57 (0, 0)) ∧ v1.heap[w3.heap.size]? = some (.cells S.cs 57 (0, 0)) ∧ v1.heap[w6.heap.size]? = some (.cells S.cs 57 (0, 0)) ∧ v1.heap[w7.heap.size]? = some (.cells Y.cs 57 (0, 0)) := ⟨(hb.block _ (lt_of_heap E0.1)).trans E0.1, (hb.block _ (lt_of_heap E0.2.1)).trans E0.2.1, (hb.block _ (lt_of_heap E0.2.2.1)).trans E0.2.2.1, (hb.block _ (lt_of_heap E0.2.2.2)).trans E0.2.2.2⟩
    refine hK.out _ _ E1 (fun _ => ?_)
    clear hK K hb
    refine wpAnyH_take (i := 1) (v := ?_) rfl (by kernel_rfl) (by kernel_rfl) (by kernel_rfl) (fun _ _ _ h => h) (Or.inl ⟨by kernel_rfl, ?_⟩) E1 ?_
    rotate_left
    · (intro W hS; clear hS; go_simp; try (with_reducible rfl))
    refine wpAnyH_take (i := 2) (v := ?_) rfl (by kernel_rfl) (by kernel_rfl) (by kernel_rfl) (fun _ _ _ h => h) (Or.inl ⟨by kernel_rfl, ?_⟩) E1 ?_
    rotate_left
    · (intro W hS; clear hS; go_simp; try (with_reducible rfl))
    refine wpAnyH_take (i := 3) (v := ?_) rfl (by kernel_rfl) (by kernel_rfl) (by kernel_rfl) (fun _ _ _ h => h) (Or.inl ⟨by kernel_rfl, ?_⟩) E1 ?_
    rotate_left
    · (intro W hS; clear hS; go_simp; try (with_reducible rfl))
    refine wpAnyH_take (i := 4) (v := ?_) rfl (by kernel_rfl) (by kernel_rfl) (by kernel_rfl) (fun _ _ _ h => h) (Or.inl ⟨by kernel_rfl, ?_⟩) E1 ?_
    rotate_left
    · (intro W hS; clear hS; go_simp; try (with_reducible rfl))
    refine wpAnyH_take (i := 5) (v := ?_) rfl (by kernel_rfl) (by kernel_rfl) (by kernel_rfl) (fun _ _ _ h => h) (Or.inl ⟨by kernel_rfl, ?_⟩) E1 ?_
    rotate_left
    · (intro W hS; clear hS; go_simp; try (with_reducible rfl))
    refine wpAnyH_take (i := 6) (v := ?_) rfl (by kernel_rfl) (by kernel_rfl) (by kernel_rfl) (fun _ _ _ h => h) (Or.inl ⟨by kernel_rfl, ?_⟩) E1 ?_
    rotate_left
    · (intro W hS; obtain ⟨g0, g1, g2, g3⟩ := hd_cell hS.1; obtain ⟨k0, k1, k2, k3⟩ := hd_cell hS.2.1; obtain ⟨l0, l1, l2, l3⟩ := hd_cell hS.2.2.1; obtain ⟨m0, m1, m2, m3⟩ := hd_cell hS.2.2.2; clear hS; go_simp; try (with_reducible rfl))
    refine wpAnyH_take (i := 7) (v := ?_) rfl (by kernel_rfl) (by kernel_rfl) (by kernel_rfl) (fun _ _ _ h => h) (Or.inl ⟨by kernel_rfl, ?_⟩) E1 ?_
    rotate_left
    · (intro W hS; obtain ⟨g0, g1, g2, g3⟩ := hd_cell hS.1; obtain ⟨k0, k1, k2, k3⟩ := hd_cell hS.2.1; obtain ⟨l0, l1, l2, l3⟩ := hd_cell hS.2.2.1; obtain ⟨m0, m1, m2, m3⟩ := hd_cell hS.2.2.2; clear hS; go_simp; try (with_reducible rfl))
    refine wpAnyH_take (i := 8) (v := ?_) rfl (by kernel_rfl) (by kernel_rfl) (by kernel_rfl) (fun _ _ _ h => h) (Or.inl ⟨by kernel_rfl, ?_⟩) E1 ?_
    rotate_left
    · (intro W hS; clear hS; go_simp; try (with_reducible rfl))
    refine wpAnyH_take (i := 9) (v := ?_) rfl (by kernel_rfl) (by kernel_rfl) (by kernel_rfl) (fun _ _ _ h => h) (Or.inl ⟨by kernel_rfl, ?_⟩) E1 ?_
    rotate_left
    · (intro W hS; clear hS; go_simp; try (with_reducible rfl))
    refine wpAnyH_take (i := 10) (v := ?_) rfl (by kernel_rfl) (by kernel_rfl) (by kernel_rfl) (fun _ _ _ h => h) (Or.inl ⟨by kernel_rfl, ?_⟩) E1 ?_
    rotate_left
    · (intro W hS; clear hS; go_simp; try (with_reducible rfl))
    refine wpAnyH_take (i := 11) (v := ?_) rfl (by kernel_rfl) (by kernel_rfl) (by kernel_rfl) (fun _ _ _ h => h) (Or.inl ⟨by kernel_rfl, ?_⟩) E1 ?_
    rotate_left
    · (intro W hS; clear hS; go_simp; try (with_reducible rfl))
    refine wpAnyH_take (i := 12) (v := ?_) rfl (by kernel_rfl) (by kernel_rfl) (by kernel_rfl) (fun _ _ _ h => h) (Or.inl ⟨by kernel_rfl, ?_⟩) E1 ?_
    rotate_left
    · (intro W hS; obtain ⟨g0, g1, g2, g3⟩ := hd_cell hS.1; obtain ⟨k0, k1, k2, k3⟩ := hd_cell hS.2.1; obtain ⟨l0, l1, l2, l3⟩ := hd_cell hS.2.2.1; obtain ⟨m0, m1, m2, m3⟩ := hd_cell hS.2.2.2; clear hS; go_simp; try (with_reducible rfl))
    refine wpAnyH_ready (rs := [13]) (by kernel_rfl) (by simp) ?_
    refine AllReadyH.cons rfl (fun K hK => ?_) AllReadyH.nil
    go_simp
    refine (H2.out.2.2.1 v1 (hG.below F1)).mono ?_
    rintro e v2 ⟨rfl, hb⟩
    have F2 := F1.trans (hb.mono F1.size)
    have E2 : v2.heap[w.heap.size]? = some (.cells x.cs 57 (0, 0)) ∧ v2.heap[w3.heap.size]? = some (.cells S.cs 57 (0, 0)) ∧ v2.heap[w6.heap.size]? = some (.cells S.cs 57 (0, 0)) ∧ v2.heap[w7.heap.size]? = some (.cells Y.cs 57 (0, 0)) := ⟨(hb.block _ (lt_of_heap E1.1)).trans E1.1, (hb.block _ (lt_of_heap E1.2.1)).trans E1.2.1, (hb.block _ (lt_of_heap E1.2.2.1)).trans E1.2.2.1, (hb.block _ (lt_of_heap E1.2.2.2)).trans E1.2.2.2⟩
    refine hK.out _ _ E2 (fun _ => ?_)
    clear hK K hb
    refine wpAnyH_take (i := 14) (v := ?_) rfl (by kernel_rfl) (by kernel_rfl) (by kernel_rfl) (fun _ _ _ h => h) (Or.inl ⟨by kernel_rfl, ?_⟩) E2 ?_
    rotate_left
    · (intro W hS; clear hS; go_simp; try (with_reducible rfl))
    refine wpAnyH_take (i := 15) (v := ?_) rfl (by kernel_rfl) (by kernel_rfl) (by kernel_rfl) (fun _ _ _ h => h) (Or.inl ⟨by kernel_rfl, ?_⟩) E2 ?_
    rotate_left
    · (intro W hS; clear hS; go_simp; try (with_reducible rfl))
    refine wpAnyH_take (i := 16) (v := ?_) rfl (by kernel_rfl) (by kernel_rfl) (by kernel_rfl) (fun _ _ _ h => h) (Or.inl ⟨by kernel_rfl, ?_⟩) E2 ?_
    rotate_left
    · (intro W hS; clear hS; go_simp; try (with_reducible rfl))
    refine wpAnyH_take (i := 17) (v := ?_) rfl (by kernel_rfl) (by kernel_rfl) (by kernel_rfl) (fun _ _ _ h => h) (Or.inl ⟨by kernel_rfl, ?_⟩) E2 ?_
    rotate_left
    · (intro W hS; clear hS; go_simp; try (with_reducible rfl))
    refine wpAnyH_take (i := 18) (v := ?_) rfl (by kernel_rfl) (by kernel_rfl) (by kernel_rfl) (fun _ _ _ h => h) (Or.inl ⟨by kernel_rfl, ?_⟩) E2 ?_
    rotate_left
    · (intro W hS; obtain ⟨g0, g1, g2, g3⟩ := hd_cell hS.1; obtain ⟨k0, k1, k2, k3⟩ := hd_cell hS.2.1; obtain ⟨l0, l1, l2, l3⟩ := hd_cell hS.2.2.1; obtain ⟨m0, m1, m2, m3⟩ := hd_cell hS.2.2.2; clear hS; go_simp; try (with_reducible rfl))
    refine wpAnyH_take (i := 21) (v := ?_) rfl (by kernel_rfl) (by kernel_rfl) (by kernel_rfl) (fun _ _ _ h => h) (Or.inl ⟨by kernel_rfl, ?_⟩) E2 ?_
    rotate_left
    · (intro W hS; obtain ⟨g0, g1, g2, g3⟩ := hd_cell hS.1; obtain ⟨k0, k1, k2, k3⟩ := hd_cell hS.2.1; obtain ⟨l0, l1, l2, l3⟩ := hd_cell hS.2.2.1; obtain ⟨m0, m1, m2, m3⟩ := hd_cell hS.2.2.2; clear hS; go_simp; try (with_reducible rfl))
    refine wpAnyH_take (i := 22) (v := ?_) rfl (by kernel_rfl) (by kernel_rfl) (by kernel_rfl) (fun _ _ _ h => h) (Or.inl ⟨by kernel_rfl, ?_⟩) E2 ?_
    rotate_left
    · (intro W hS; obtain ⟨g0, g1, g2, g3⟩ := hd_cell hS.1; obtain ⟨k0, k1, k2, k3⟩ := hd_cell hS.2.1; obtain ⟨l0, l1, l2, l3⟩ := hd_cell hS.2.2.1; obtain ⟨m0, m1, m2, m3⟩ := hd_cell hS.2.2.2; clear hS; go_simp; try (with_reducible rfl))
    refine wpAnyH_take (i := 23) (v := ?_) rfl (by kernel_rfl) (by kernel_rfl) (by kernel_rfl) (fun _ _ _ h => h) (Or.inl ⟨by kernel_rfl, ?_⟩) E2 ?_
    rotate_left
    · (intro W hS; obtain ⟨g0, g1, g2, g3⟩ := hd_cell hS.1; obtain ⟨k0, k1, k2, k3⟩ := hd_cell hS.2.1; obtain ⟨l0, l1, l2, l3⟩ := hd_cell hS.2.2.1; obtain ⟨m0, m1, m2, m3⟩ := hd_cell hS.2.2.2; clear hS; go_simp; try (with_reducible rfl))
    refine wpAnyH_take (i := 24) (v := ?_) rfl (by kernel_rfl) (by kernel_rfl) (by kernel_rfl) (fun _ _ _ h => h) (Or.inl ⟨by kernel_rfl, ?_⟩) E2 ?_
    rotate_left
    · (intro W hS; obtain ⟨g0, g1, g2, g3⟩ := hd_cell hS.1; obtain ⟨k0, k1, k2, k3⟩ := hd_cell hS.2.1; obtain ⟨l0, l1, l2, l3⟩ := hd_cell hS.2.2.1; obtain ⟨m0, m1, m2, m3⟩ := hd_cell hS.2.2.2; clear hS; go_simp; try (with_reducible rfl))
    refine wpAnyH_take (i := 25) (v := ?_) rfl (by kernel_rfl) (by kernel_rfl) (by kernel_rfl) (fun _ _ _ h => h) (Or.inl ⟨by kernel_rfl, ?_⟩) E2 ?_
    rotate_left
    · (intro W hS; clear hS; go_simp; try (with_reducible rfl))
    refine wpAnyH_ready (rs := [19]) (by kernel_rfl) (by simp) ?_
    refine AllReadyH.cons rfl (fun K hK => ?_) AllReadyH.nil
    go_simp
    refine (H2.out.2.2.2.1 v2 (hG.below F2)).mono ?_
    rintro e v3 ⟨rfl, hb⟩
    have F3 := F2.trans (hb.mono F2.size)
    have E3 : v3.heap[w.heap.size]? = some (.cells x.cs 57 (0, 0)) ∧ v3.heap[w3.heap.size]? = some (.cells S.cs 57 (0, 0)) ∧ v3.heap[w6.heap.size]? = some (.cells S.cs 57 (0, 0)) ∧ v3.heap[w7.heap.size]? = some (.cells Y.cs 57 (0, 0)) := ⟨(hb.block _ (lt_of_heap E2.1)).trans E2.1, (hb.block _ (lt_of_heap E2.2.1)).trans E2.2.1, (hb.block _ (lt_of_heap E2.2.2.1)).trans E2.2.2.1, (hb.block _ (lt_of_heap E2.2.2.2)).trans E2.2.2.2⟩
    refine hK.out _ _ E3 (fun _ => ?_)
    clear hK K hb
    have eQ := H2.out.2.2.2.2.1
    refine wpAnyH_take (i := 20) (v := ?_) rfl (by kernel_rfl) (by kernel_rfl) (by kernel_rfl) (fun _ _ _ h => h) (Or.inl ⟨by kernel_rfl, ?_⟩) E3 ?_
    rotate_left
    · (intro W hS; clear hS; go_simp; try (with_reducible rfl))
    clear eQ hX
    cases X
    · refine wpAnyH_take (i := 26) (v := ?_) rfl (by kernel_rfl) (by kernel_rfl) (by kernel_rfl) (fun _ _ _ h => h) (Or.inl ⟨by kernel_rfl, ?_⟩) E3 ?_
      rotate_left
      · (intro W hS; clear hS; go_simp; try (with_reducible rfl))
      refine wpAnyH_take (i := 27) (v := ?_) rfl (by kernel_rfl) (by kernel_rfl) (by kernel_rfl) (fun _ _ _ h => h) (Or.inl ⟨by kernel_rfl, ?_⟩) E3 ?_
      rotate_left
      · (intro W hS; clear hS; go_simp; try (with_reducible rfl))
      refine wpAnyH_take (i := 28) (v := ?_) rfl (by kernel_rfl) (by kernel_rfl) (by kernel_rfl) (fun _ _ _ h => h) (Or.inl ⟨by kernel_rfl, ?_⟩) E3 ?_
      rotate_left
      · (intro W hS; clear hS; go_simp; try (with_reducible rfl))
      refine wpAnyH_done (by kernel_rfl) ?_ _
      go_simp
      have HF := Lib.hid F3
      clear E0 F0 E1 F1 E2 F2 E3 F3
      go_wp2_with fail
      go_ret
      exact ⟨rfl, HF.out⟩
    · refine wpAnyH_take (i := 26) (v := ?_) rfl (by kernel_rfl) (by kernel_rfl) (by kernel_rfl) (fun _ _ _ h => h) (Or.inl ⟨by kernel_rfl, ?_⟩) E3 ?_
      rotate_left
      · (intro W hS; clear hS; go_simp; try (with_reducible rfl))
      refine wpAnyH_take (i := 27) (v := ?_) rfl (by kernel_rfl) (by kernel_rfl) (by kernel_rfl) (fun _ _ _ h => h) (Or.inl ⟨by kernel_rfl, ?_⟩) E3 ?_
      rotate_left
      · (intro W hS; clear hS; go_simp; try (with_reducible rfl))
      refine wpAnyH_take (i := 28) (v := ?_) rfl (by kernel_rfl) (by kernel_rfl) (by kernel_rfl) (fun _ _ _ h => h) (Or.inl ⟨by kernel_rfl, ?_⟩) E3 ?_
      rotate_left
      · (intro W hS; clear hS; go_simp; try (with_reducible rfl))
      refine wpAnyH_done (by kernel_rfl) ?_ _
      go_simp
      have HF := Lib.hid F3
      clear E0 F0 E1 F1 E2 F2 E3 F3
      go_wp2_with fail
      go_ret
      exact ⟨rfl, HF.out⟩
end Go.Proofs.YtdjhlgodecnidaaDoor

namespace Go.Proofs.YtdjhlgodecnidaaDoor.headBackLaw
open Go.ChangeShapes Go.WideShapes Go.ChangeAt Go.RowKit
open Go.ChangeMaps (open_string shut_string)

set_option maxRecDepth 100000 in
theorem contract (H : Type) (enc : TypeId × Value → H) (W : World) (base : Nat) (args : Array Value) (ds gs : List (DataW H)) (before : List MemPlace)
    (hval : ∀ (j : Nat) t v, Tryd.f13.params[j]? = some t → args[j]? = some v → Value.okWide Tryd.prog W .any base t v)
    (hW : DataW.Whole enc Tryd.prog Tryd.f13.params.toList Rows.headBackSpec.vars false W args.toList ds gs before) (hL : laidMetH Tryd.prog Rows.headBackRow.laid W) :
    Calls Tryd.prog 13 args W fun e W' => ∃ v, e = .returned v ∧ Rows.headBackSpec.post enc Tryd.prog Tryd.f13 false true false false W args v W' := by
  have hW' := hW
  obtain ⟨p, q, hA0, hV, rfl, hfz, hnd⟩ := hW
  have hA : DataW.TrodAll enc Tryd.prog W 0 (fun _ => true) true Tryd.f13.params.toList args.toList ds p := hA0
  rw [Tryd.params13] at hA hval
  obtain ⟨v0, vs0, d0, ds0, p0, q0, hargs, rfl, rfl, h0, r0⟩ := trodAll_cons hA
  obtain ⟨v1, vs1, d1, ds1, p1, q1, rfl, rfl, rfl, h1, r1⟩ := trodAll_cons r0
  obtain ⟨rfl, rfl, rfl⟩ := trodAll_nil r1
  obtain rfl : args = #[v0, v1] := by cases args; simp_all
  obtain ⟨rfl, rfl⟩ := trodVars_none hV
  obtain ⟨s0, rfl, rfl, rfl, ws0⟩ := open_string Tryd.underlying9 (hval 0 9 v0 rfl rfl) h0
  obtain ⟨cs1, rfl, hcs1⟩ := okWide_struct Tryd.underlying57 (hval 1 57 v1 rfl rfl)
  have hk1 := h1
  obtain ⟨fuel1, hf1⟩ := h1
  clear hA0
  simp only [List.append_nil, List.nil_append] at hW'
  have hlt1 : ∀ x ∈ p1, x.block < W.heap.size := fun x hx => by simpa using hW'.lt x (by simp [hx])
  obtain ⟨x1a, hit1, hf1a⟩ := open_head hf1
  obtain rfl : cs1 = Hd.cs x1a := Array.toList_inj.1 hit1
  refine (backs_law s0 (by simpa using ws0) x1a hf1a (w := W) (hG := glob_of_laid hL)).mono fun e W' ⟨he, hb⟩ => ?_
  subst he
  exact ⟨_, rfl, _, _, _, [], _, [], hW', trodAll_cons_mk (shut_bool Tryd.underlying4 _) trodAll_mk0, (trodAll_cons_mk (shut_string Tryd.underlying9 ws0) (trodAll_cons_mk (Below.trod laidOut (by kernel_rfl) (of_decide_eq_true (by kernel_rfl)) hk1 hb hlt1) trodAll_mk0)), rfl, hb.frame _, fun h => by cases h⟩
theorem laid_met (os : Os) : laidMet Tryd.prog Rows.headBackRow.laid ((laidWorld os).forCall (fun _ _ => 0) ⟨#[], #[.string ⟨#[]⟩, .agg #[.int .i64 0, .string ⟨#[]⟩, .int .i64 0, .string ⟨#[]⟩]], []⟩).memory :=
  laidMet_of_run' 8 (by kernel_rfl) (by kernel_rfl)
theorem reads (os : Os) {H : Type} (enc : TypeId × Value → H) : ∃ places, DataW.whole enc Tryd.prog ((laidWorld os).forCall (fun _ _ => 0) ⟨#[], #[.string ⟨#[]⟩, .agg #[.int .i64 0, .string ⟨#[]⟩, .int .i64 0, .string ⟨#[]⟩]], []⟩).memory Tryd.f13.params.toList Rows.headBackSpec.vars false #[Value.string ⟨#[]⟩, .agg #[.int .i64 0, .string ⟨#[]⟩, .int .i64 0, .string ⟨#[]⟩]].toList 8 = some ([.lit (.string []), .agg [.lit (.int .i64 0), .lit (.string []), .lit (.int .i64 0), .lit (.string [])]], [], places) :=
  ⟨[], by kernel_rfl⟩
set_option maxRecDepth 100000 in
theorem lifted (os : Os) (started : os.Started) (H : Type) (enc : TypeId × Value → H) (F : Stop.Interp) :
    ReturnsInHanded {} Tryd.checked os 13 .any ((OpenSpec.ofChange Rows.headBackSpec).preRow enc Tryd.prog Tryd.f13 Rows.headBackRow.domain false Rows.headBackRow.laid) (((OpenSpec.ofChange Rows.headBackSpec).at F).post enc Tryd.prog Tryd.f13 false true false false) := by
  obtain ⟨places, hx⟩ := reads os enc
  refine returnsInHanded_of_row (C := Tryd.checked) (s := OpenSpec.ofChange Rows.headBackSpec) own started (by kernel_rfl) Tryd.func13
    (witness_row_at (enc := enc) (C := Tryd.checked) false (laidWorld os) #[.string ⟨#[]⟩, .agg #[.int .i64 0, .string ⟨#[]⟩, .int .i64 0, .string ⟨#[]⟩]] rfl (by kernel_rfl) (by kernel_rfl) (by kernel_rfl)
      (OpenSpec.preRow_of_cond 8 hx (by kernel_rfl) (fun k hk => by cases hk) (by kernel_rfl) (laid_met os))) ?_
  intro W base args ds gs before hval hW _ _ _ hL _ _
  exact contract H enc W base args ds gs before hval hW hL
theorem said : Rows.HeadBackSaid :=
  OpenClaim.holds_of_cond 13 Tryd.f13 rfl rfl rfl rfl rfl rfl rfl ⟨rfl, rfl, rfl, rfl, rfl⟩ rfl rfl rfl rfl rfl (by kernel_rfl) Tryd.func13 (by kernel_rfl)
    (of_decide_eq_true (by kernel_rfl)) (by unfold Func.isWrapper; first | (rw [if_pos (by decide +kernel)]; kernel_rfl) | (rw [if_neg (by decide +kernel)]; exact ⟨rfl, rfl⟩))
    (fun os started H enc _ F => by rw [OpenClaim.pre_eq_preRow]; exact lifted os started H enc F)
theorem plain (f : FuncId) (fn : Func) (hf : Tryd.pinned.checked.prog.funcNamed "lockbox/lockboxlaw14.HeadBack" = some f) (hfn : Tryd.pinned.checked.prog.funcs[f]? = some fn) :
    false = Tryd.pinned.checked.prog.looks [] ∧ ∀ (j : Nat) t, fn.params[j]? = some t → Tryd.pinned.checked.prog.wantsStandIn t = false := by
  obtain rfl : f = 13 := Option.some.inj ((show Tryd.prog.funcNamed "lockbox/lockboxlaw14.HeadBack" = some 13 by kernel_rfl).symm.trans hf) |>.symm
  obtain rfl : fn = Tryd.f13 := (Option.some.inj (Tryd.func13.symm.trans hfn)).symm
  refine ⟨by kernel_rfl, fun j t ht => ?_⟩
  rw [Tryd.params13] at ht
  have hm : t ∈ [9, 57] := by simpa using Array.mem_of_getElem? ht
  have hall : ([9, 57].all fun u => !Tryd.prog.wantsStandIn u) = true := by kernel_rfl
  exact (show Tryd.prog.wantsStandIn t = false by simpa using List.all_eq_true.1 hall t hm)
end Go.Proofs.YtdjhlgodecnidaaDoor.headBackLaw

namespace Go.Proofs.YtdjhlgodecnidaaDoor
/-- THE CARD. -/
theorem headBack_card : Rows.HeadBackCardSaid :=
  Claim7.holds_tied_plain_at .later [] _ _ _ _ headBackLaw.said (fun _ h => by cases h) (by kernel_rfl) (fun _ h => by cases h) headBack_row_tie rfl ⟨rfl, rfl⟩ (by kernel_rfl) rfl headBackLaw.plain (by kernel_rfl)
end Go.Proofs.YtdjhlgodecnidaaDoor
