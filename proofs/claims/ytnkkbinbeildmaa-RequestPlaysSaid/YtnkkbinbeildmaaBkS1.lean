/- lockboxref21.Do: kind 1. -/
import Derived.Test.YtnkkbinbeildmaaBkR
namespace Go.Proofs.Ytnkkbinbeildmaa
open Go.RowKit
set_option maxRecDepth 100000 in
set_option maxHeartbeats 4000000 in
theorem rdo21_1 (l : List En) (a0 : Option Addr) (cap : Nat) (q : Py.Q) (id : Int) (who : ByteArray) (now : Int) (w : World) (hT : RecsAt 6 enCs w a0 l) (hm : l.length ≤ 1000000) (hst : ∀ x ∈ l, 1 ≤ x.st) :
    Calls Try.prog 26 #[.slice a0 l.length cap, .agg #[.int .i64 1, .int .i64 q.id, .string q.who, .int .i64 q.entry, .string q.reason, .int .i64 q.exp, .int .i64 id, .string who, .int .i64 now]] w fun e w' => RPost a0 w l (Bk.doI l ⟨1, q, id, who, now⟩) e w' := by
  obtain ⟨P, hP⟩ : ∃ P, P = Bk.doI l ⟨1, q, id, who, now⟩ := ⟨_, rfl⟩
  rw [← hP]
  obtain ⟨w1, hw1⟩ : ∃ w1, w1 = w.alloc (.cells #[.int .i64 1, .int .i64 q.id, .string q.who, .int .i64 q.entry, .string q.reason, .int .i64 q.exp, .int .i64 id, .string who, .int .i64 now] 61) := ⟨_, rfl⟩
  obtain ⟨ga, hga⟩ : ∃ ga, ga = w.heap.size := ⟨_, rfl⟩
  have hb1 := box_below hw1
  have a1 : w1.heap[ga]? = some (.cells #[.int .i64 1, .int .i64 q.id, .string q.who, .int .i64 q.entry, .string q.reason, .int .i64 q.exp, .int .i64 id, .string who, .int .i64 now] 61 (0, 0)) := by rw [hw1, hga]; exact heap_alloc_new _ _
  have herr := fun (c : Int) (W : World) (hb : Below w1.heap.size w1 W) => rpost_err (c := c) cap hT (hb1.trans (hb.mono hb1.size))
  have hfind := rfind_any l a0 cap id w1 (hT.below hb1) hm
  have hwi := fun (i : Nat) (s : Int) (W : World) (hb : Below w1.heap.size w1 W) => rwith_any l a0 cap i s W (hT.below (hb1.trans (hb.mono hb1.size))) hm
  obtain ⟨n, hn⟩ : ∃ n, n = l.length := ⟨_, rfl⟩
  rw [← hn] at hfind herr hm hwi ⊢
  have H := Lib.hid (And.intro hfind (And.intro herr (And.intro hb1 (And.intro hT (And.intro hn hst)))))
  have HA := Lib.hid a1
  have HW := Lib.hid hwi
  clear hfind hwi herr hb1 hT hn a1 hst
  unfold Bk.doI at hP
  simp only at hP
  by_cases h0 : now < 0
  · rw [if_pos (by unfold Py.inB; rw [decide_eq_false (by omega)]; rfl)] at hP
    have HP := Lib.hid hP
    clear hP
    go_enter Try.func26, Try.ntmps26
    go_upto_region 1 with fail
    rw [← hw1, ← hga]
    clear hw1 hga
    have X := HA.out
    have c0 : w1.cell? ⟨ga, 0, none⟩ = some (.int .i64 1) := by rw [cell_of_row _ _ _ _ _ _ X]; rfl
    have c1 : w1.cell? ⟨ga, 1, none⟩ = some (.int .i64 q.id) := by rw [cell_of_row _ _ _ _ _ _ X]; rfl
    have c2 : w1.cell? ⟨ga, 2, none⟩ = some (.string q.who) := by rw [cell_of_row _ _ _ _ _ _ X]; rfl
    have c3 : w1.cell? ⟨ga, 3, none⟩ = some (.int .i64 q.entry) := by rw [cell_of_row _ _ _ _ _ _ X]; rfl
    have c4 : w1.cell? ⟨ga, 4, none⟩ = some (.string q.reason) := by rw [cell_of_row _ _ _ _ _ _ X]; rfl
    have c5 : w1.cell? ⟨ga, 5, none⟩ = some (.int .i64 q.exp) := by rw [cell_of_row _ _ _ _ _ _ X]; rfl
    have c6 : w1.cell? ⟨ga, 6, none⟩ = some (.int .i64 id) := by rw [cell_of_row _ _ _ _ _ _ X]; rfl
    have c7 : w1.cell? ⟨ga, 7, none⟩ = some (.string who) := by rw [cell_of_row _ _ _ _ _ _ X]; rfl
    have c8 : w1.cell? ⟨ga, 8, none⟩ = some (.int .i64 now) := by rw [cell_of_row _ _ _ _ _ _ X]; rfl
    clear X
    go_wp2_with fail
    go_ret2
    rw [HP.out]
    exact H.out.2.1 1 w1 (Below.refl _ _)
  have g0 : ¬ (now < 0) := h0
  by_cases h1 : 1099511627776 < now
  · rw [if_pos (by unfold Py.inB; rw [decide_eq_false (show ¬ (now ≤ 1099511627776) by omega), Bool.and_false])] at hP
    clear h0
    have HP := Lib.hid hP
    clear hP
    go_enter Try.func26, Try.ntmps26
    go_upto_region 1 with fail
    rw [← hw1, ← hga]
    clear hw1 hga
    have X := HA.out
    have c0 : w1.cell? ⟨ga, 0, none⟩ = some (.int .i64 1) := by rw [cell_of_row _ _ _ _ _ _ X]; rfl
    have c1 : w1.cell? ⟨ga, 1, none⟩ = some (.int .i64 q.id) := by rw [cell_of_row _ _ _ _ _ _ X]; rfl
    have c2 : w1.cell? ⟨ga, 2, none⟩ = some (.string q.who) := by rw [cell_of_row _ _ _ _ _ _ X]; rfl
    have c3 : w1.cell? ⟨ga, 3, none⟩ = some (.int .i64 q.entry) := by rw [cell_of_row _ _ _ _ _ _ X]; rfl
    have c4 : w1.cell? ⟨ga, 4, none⟩ = some (.string q.reason) := by rw [cell_of_row _ _ _ _ _ _ X]; rfl
    have c5 : w1.cell? ⟨ga, 5, none⟩ = some (.int .i64 q.exp) := by rw [cell_of_row _ _ _ _ _ _ X]; rfl
    have c6 : w1.cell? ⟨ga, 6, none⟩ = some (.int .i64 id) := by rw [cell_of_row _ _ _ _ _ _ X]; rfl
    have c7 : w1.cell? ⟨ga, 7, none⟩ = some (.string who) := by rw [cell_of_row _ _ _ _ _ _ X]; rfl
    have c8 : w1.cell? ⟨ga, 8, none⟩ = some (.int .i64 now) := by rw [cell_of_row _ _ _ _ _ _ X]; rfl
    clear X
    go_wp2_with fail
    go_ret2
    rw [HP.out]
    exact H.out.2.1 1 w1 (Below.refl _ _)
  have g1 : ¬ (1099511627776 < now) := h1
  rw [if_neg (by unfold Py.inB; rw [decide_eq_true (by omega), decide_eq_true (by omega)]; decide)] at hP
  clear h0 h1
  rw [if_neg (by decide)] at hP
  cases hx : l[Bk.findN l id]? with
  | none =>
    rw [hx] at hP
    simp only at hP
    have hfx := bIdx_no hx
    rw [hfx] at H
    clear hfx hx
    have HP := Lib.hid hP
    clear hP
    go_enter Try.func26, Try.ntmps26
    go_upto_region 1 with fail
    rw [← hw1, ← hga]
    clear hw1 hga
    have X := HA.out
    have c0 : w1.cell? ⟨ga, 0, none⟩ = some (.int .i64 1) := by rw [cell_of_row _ _ _ _ _ _ X]; rfl
    have c1 : w1.cell? ⟨ga, 1, none⟩ = some (.int .i64 q.id) := by rw [cell_of_row _ _ _ _ _ _ X]; rfl
    have c2 : w1.cell? ⟨ga, 2, none⟩ = some (.string q.who) := by rw [cell_of_row _ _ _ _ _ _ X]; rfl
    have c3 : w1.cell? ⟨ga, 3, none⟩ = some (.int .i64 q.entry) := by rw [cell_of_row _ _ _ _ _ _ X]; rfl
    have c4 : w1.cell? ⟨ga, 4, none⟩ = some (.string q.reason) := by rw [cell_of_row _ _ _ _ _ _ X]; rfl
    have c5 : w1.cell? ⟨ga, 5, none⟩ = some (.int .i64 q.exp) := by rw [cell_of_row _ _ _ _ _ _ X]; rfl
    have c6 : w1.cell? ⟨ga, 6, none⟩ = some (.int .i64 id) := by rw [cell_of_row _ _ _ _ _ _ X]; rfl
    have c7 : w1.cell? ⟨ga, 7, none⟩ = some (.string who) := by rw [cell_of_row _ _ _ _ _ _ X]; rfl
    have c8 : w1.cell? ⟨ga, 8, none⟩ = some (.int .i64 now) := by rw [cell_of_row _ _ _ _ _ _ X]; rfl
    clear X
    go_wp2_with fail
    refine H.out.1.mono ?_
    rintro e w2 ⟨rfl, hww⟩
    cases hww
    go_wp2_with fail
    go_ret2
    rw [HP.out]
    exact H.out.2.1 4 w1 (Below.refl _ _)
  | some x =>
    rw [hx] at hP
    simp only at hP
    have hfx := bIdx_at hx
    rw [hfx] at H
    have hlt := (List.getElem?_eq_some_iff.1 hx).1
    obtain ⟨bb, off, rfl, hbl, hc⟩ := H.out.2.2.2.1 _ x hx
    have hat := fun W => rstands_any x (H.out.2.2.2.2.2 x (List.mem_of_getElem? hx)) now W
    obtain ⟨J, hJ⟩ : ∃ J, J = Bk.judI x ⟨1, q, id, who, now⟩ := ⟨_, rfl⟩
    rw [← hJ] at hP
    unfold Bk.judI at hJ
    simp only at hJ
    obtain ⟨i, hi⟩ : ∃ i, i = Bk.findN l id := ⟨_, rfl⟩
    obtain ⟨s, hs⟩ : ∃ s, s = Bk.atI x now := ⟨_, rfl⟩
    rw [← hi] at hP H hlt hc
    rw [← hs] at hJ hat
    have hlt : i < n := by have := H.out.2.2.2.2.1; omega
    unfold enVal at hat
    have hcc := fun (W : World) (hb : Below w1.heap.size w1 W) (m : Nat) (hm : m < 6) => ((H.out.2.2.1.trans (hb.mono H.out.2.2.1.size)).cell (p := ⟨bb, off + i * 6 + m, none⟩) hbl).trans (hc m hm)
    have hbb : bb < w1.heap.size := Nat.lt_of_lt_of_le hbl H.out.2.2.1.size
    have HX := Lib.hid (And.intro hat (And.intro hcc hbb))
    have HS := Lib.hid hs
    clear hat hcc hbb hc hbl hx hfx hi hs
    rw [if_neg (fun e => absurd e.1 (by decide))] at hJ
    by_cases h5 : s = 5
    · rw [if_pos h5] at hJ
      rw [hJ, if_neg (by decide)] at hP
      clear hJ
      have g5 : (s == 5) = true := by simpa using h5
      clear h5
      have HP := Lib.hid hP
      clear hP
      go_enter Try.func26, Try.ntmps26
      go_upto_region 1 with fail
      rw [← hw1, ← hga]
      clear hw1 hga
      have X := HA.out
      have c0 : w1.cell? ⟨ga, 0, none⟩ = some (.int .i64 1) := by rw [cell_of_row _ _ _ _ _ _ X]; rfl
      have c1 : w1.cell? ⟨ga, 1, none⟩ = some (.int .i64 q.id) := by rw [cell_of_row _ _ _ _ _ _ X]; rfl
      have c2 : w1.cell? ⟨ga, 2, none⟩ = some (.string q.who) := by rw [cell_of_row _ _ _ _ _ _ X]; rfl
      have c3 : w1.cell? ⟨ga, 3, none⟩ = some (.int .i64 q.entry) := by rw [cell_of_row _ _ _ _ _ _ X]; rfl
      have c4 : w1.cell? ⟨ga, 4, none⟩ = some (.string q.reason) := by rw [cell_of_row _ _ _ _ _ _ X]; rfl
      have c5 : w1.cell? ⟨ga, 5, none⟩ = some (.int .i64 q.exp) := by rw [cell_of_row _ _ _ _ _ _ X]; rfl
      have c6 : w1.cell? ⟨ga, 6, none⟩ = some (.int .i64 id) := by rw [cell_of_row _ _ _ _ _ _ X]; rfl
      have c7 : w1.cell? ⟨ga, 7, none⟩ = some (.string who) := by rw [cell_of_row _ _ _ _ _ _ X]; rfl
      have c8 : w1.cell? ⟨ga, 8, none⟩ = some (.int .i64 now) := by rw [cell_of_row _ _ _ _ _ _ X]; rfl
      clear X
      go_wp2_with fail
      refine H.out.1.mono ?_
      rintro e w2 ⟨rfl, hww⟩
      cases hww
      go_upto_region 8 with fail
      clear c0 c1 c2 c3 c4 c5 c6 c7 c8
      refine wp_region_held (S := fun W : World => (W.heap[ga]? = some (.cells #[.int .i64 1, .int .i64 q.id, .string q.who, .int .i64 q.entry, .string q.reason, .int .i64 q.exp, .int .i64 id, .string who, .int .i64 now] 61 (0, 0)) ∧ W.cell? ⟨bb, off + i * 6 + 1, none⟩ = some (.string x.q.who))) (by kernel_rfl) ?_
      change wpAnyH _ _ _ _ _ _ _ _ (World.drew _)
      generalize hv0 : World.drew _ = v0
      have E0 : (v0.heap[ga]? = some (.cells #[.int .i64 1, .int .i64 q.id, .string q.who, .int .i64 q.entry, .string q.reason, .int .i64 q.exp, .int .i64 id, .string who, .int .i64 now] 61 (0, 0)) ∧ v0.cell? ⟨bb, off + i * 6 + 1, none⟩ = some (.string x.q.who)) := by rw [← hv0]; exact ⟨HA.out, HX.out.2.1 w1 (Below.refl _ _) 1 (by omega)⟩
      have F0 : Below w1.heap.size w1 v0 := by rw [← hv0]; exact ((Below.refl _ _).drew)
      clear hv0
      refine wpAnyH_take (i := 0) (v := ?_) rfl (by kernel_rfl) (by kernel_rfl) (by kernel_rfl) (fun _ _ _ h => h) (Or.inl ⟨by kernel_rfl, ?_⟩) E0 ?_
      rotate_left
      · (intro W hS; have k0 : W.cell? ⟨ga, 0, none⟩ = some (.int .i64 1) := (by rw [cell_of_row _ _ _ _ _ _ hS.1]; rfl); have k7 : W.cell? ⟨ga, 7, none⟩ = some (.string who) := (by rw [cell_of_row _ _ _ _ _ _ hS.1]; rfl); have k9 := hS.2; go_simp; try (with_reducible rfl))
      refine wpAnyH_take (i := 1) (v := ?_) rfl (by kernel_rfl) (by kernel_rfl) (by kernel_rfl) (fun _ _ _ h => h) (Or.inl ⟨by kernel_rfl, ?_⟩) E0 ?_
      rotate_left
      · (intro W hS; have k0 : W.cell? ⟨ga, 0, none⟩ = some (.int .i64 1) := (by rw [cell_of_row _ _ _ _ _ _ hS.1]; rfl); have k7 : W.cell? ⟨ga, 7, none⟩ = some (.string who) := (by rw [cell_of_row _ _ _ _ _ _ hS.1]; rfl); have k9 := hS.2; go_simp; try (with_reducible rfl))
      refine wpAnyH_take (i := 2) (v := ?_) rfl (by kernel_rfl) (by kernel_rfl) (by kernel_rfl) (fun _ _ _ h => h) (Or.inl ⟨by kernel_rfl, ?_⟩) E0 ?_
      rotate_left
      · (intro W hS; have k0 : W.cell? ⟨ga, 0, none⟩ = some (.int .i64 1) := (by rw [cell_of_row _ _ _ _ _ _ hS.1]; rfl); have k7 : W.cell? ⟨ga, 7, none⟩ = some (.string who) := (by rw [cell_of_row _ _ _ _ _ _ hS.1]; rfl); have k9 := hS.2; go_simp; try (with_reducible rfl))
      refine wpAnyH_take (i := 3) (v := ?_) rfl (by kernel_rfl) (by kernel_rfl) (by kernel_rfl) (fun _ _ _ h => h) (Or.inl ⟨by kernel_rfl, ?_⟩) E0 ?_
      rotate_left
      · (intro W hS; have k0 : W.cell? ⟨ga, 0, none⟩ = some (.int .i64 1) := (by rw [cell_of_row _ _ _ _ _ _ hS.1]; rfl); have k7 : W.cell? ⟨ga, 7, none⟩ = some (.string who) := (by rw [cell_of_row _ _ _ _ _ _ hS.1]; rfl); have k9 := hS.2; go_simp; try (with_reducible rfl))
      refine wpAnyH_take (i := 4) (v := undef) rfl (by kernel_rfl) (by kernel_rfl) (by kernel_rfl) (fun _ _ _ h => h) (Or.inr ⟨by kernel_rfl, rfl⟩) E0 ?_
      refine wpAnyH_take (i := 5) (v := undef) rfl (by kernel_rfl) (by kernel_rfl) (by kernel_rfl) (fun _ _ _ h => h) (Or.inr ⟨by kernel_rfl, rfl⟩) E0 ?_
      refine wpAnyH_take (i := 6) (v := undef) rfl (by kernel_rfl) (by kernel_rfl) (by kernel_rfl) (fun _ _ _ h => h) (Or.inr ⟨by kernel_rfl, rfl⟩) E0 ?_
      refine wpAnyH_take (i := 7) (v := undef) rfl (by kernel_rfl) (by kernel_rfl) (by kernel_rfl) (fun _ _ _ h => h) (Or.inr ⟨by kernel_rfl, rfl⟩) E0 ?_
      refine wpAnyH_take (i := 8) (v := undef) rfl (by kernel_rfl) (by kernel_rfl) (by kernel_rfl) (fun _ _ _ h => h) (Or.inr ⟨by kernel_rfl, rfl⟩) E0 ?_
      refine wpAnyH_take (i := 9) (v := undef) rfl (by kernel_rfl) (by kernel_rfl) (by kernel_rfl) (fun _ _ _ h => h) (Or.inr ⟨by kernel_rfl, rfl⟩) E0 ?_
      refine wpAnyH_take (i := 10) (v := undef) rfl (by kernel_rfl) (by kernel_rfl) (by kernel_rfl) (fun _ _ _ h => h) (Or.inr ⟨by kernel_rfl, rfl⟩) E0 ?_
      refine wpAnyH_take (i := 11) (v := undef) rfl (by kernel_rfl) (by kernel_rfl) (by kernel_rfl) (fun _ _ _ h => h) (Or.inr ⟨by kernel_rfl, rfl⟩) E0 ?_
      refine wpAnyH_take (i := 12) (v := undef) rfl (by kernel_rfl) (by kernel_rfl) (by kernel_rfl) (fun _ _ _ h => h) (Or.inr ⟨by kernel_rfl, rfl⟩) E0 ?_
      refine wpAnyH_take (i := 13) (v := ?_) rfl (by kernel_rfl) (by kernel_rfl) (by kernel_rfl) (fun _ _ _ h => h) (Or.inl ⟨by kernel_rfl, ?_⟩) E0 ?_
      rotate_left
      · (intro W hS; have k0 : W.cell? ⟨ga, 0, none⟩ = some (.int .i64 1) := (by rw [cell_of_row _ _ _ _ _ _ hS.1]; rfl); have k7 : W.cell? ⟨ga, 7, none⟩ = some (.string who) := (by rw [cell_of_row _ _ _ _ _ _ hS.1]; rfl); have k9 := hS.2; go_simp; try (with_reducible rfl))
      refine wpAnyH_done (by kernel_rfl) ?_ _
      go_simp
      clear E0
      obtain ⟨wu, hwu⟩ : ∃ wu, wu = v0 := ⟨_, rfl⟩
      rw [← hwu] at F0
      try rw [← hwu]
      clear hwu
      have HU := Lib.hid F0
      clear F0
      have X := ((HU.out.block ga (blt_of_heap HA.out)).trans HA.out)
      have c0 : wu.cell? ⟨ga, 0, none⟩ = some (.int .i64 1) := by rw [cell_of_row _ _ _ _ _ _ X]; rfl
      have c8 : wu.cell? ⟨ga, 8, none⟩ = some (.int .i64 now) := by rw [cell_of_row _ _ _ _ _ _ X]; rfl
      clear X
      go_upto_region 10 with fail
      clear c0 c8
      refine wp_region_held (S := fun W : World => ((W.heap[ga]? = some (.cells #[.int .i64 1, .int .i64 q.id, .string q.who, .int .i64 q.entry, .string q.reason, .int .i64 q.exp, .int .i64 id, .string who, .int .i64 now] 61 (0, 0)) ∧ bb < W.heap.size) ∧ ∀ m, m < 6 → W.cell? ⟨bb, off + i * 6 + m, none⟩ = (enCs x)[m]?)) (by kernel_rfl) ?_
      change wpAnyH _ _ _ _ _ _ _ _ (World.drew _)
      generalize hv0 : World.drew _ = v0
      have E0 : ((v0.heap[ga]? = some (.cells #[.int .i64 1, .int .i64 q.id, .string q.who, .int .i64 q.entry, .string q.reason, .int .i64 q.exp, .int .i64 id, .string who, .int .i64 now] 61 (0, 0)) ∧ bb < v0.heap.size) ∧ ∀ m, m < 6 → v0.cell? ⟨bb, off + i * 6 + m, none⟩ = (enCs x)[m]?) := by rw [← hv0]; exact ⟨⟨(HU.out.block ga (blt_of_heap HA.out)).trans HA.out, Nat.lt_of_lt_of_le HX.out.2.2 HU.out.size⟩, HX.out.2.1 wu HU.out⟩
      have F0 : Below wu.heap.size wu v0 := by rw [← hv0]; exact ((Below.refl _ _).drew)
      clear hv0
      refine wpAnyH_take (i := 0) (v := ?_) rfl (by kernel_rfl) (by kernel_rfl) (by kernel_rfl) (fun _ _ _ h => h) (Or.inl ⟨by kernel_rfl, ?_⟩) E0 ?_
      rotate_left
      · (intro W hS; have k8 : W.cell? ⟨ga, 8, none⟩ = some (.int .i64 now) := (by rw [cell_of_row _ _ _ _ _ _ hS.1.1]; rfl); have j0 : W.cell? ⟨bb, off + i * 6, none⟩ = some (.int .i64 x.q.id) := hS.2 0 (by omega); have j1 : W.cell? ⟨bb, off + i * 6 + 1, none⟩ = some (.string x.q.who) := hS.2 1 (by omega); have j2 : W.cell? ⟨bb, off + i * 6 + 2, none⟩ = some (.int .i64 x.q.entry) := hS.2 2 (by omega); have j3 : W.cell? ⟨bb, off + i * 6 + 3, none⟩ = some (.string x.q.reason) := hS.2 3 (by omega); have j4 : W.cell? ⟨bb, off + i * 6 + 4, none⟩ = some (.int .i64 x.q.exp) := hS.2 4 (by omega); have j5 : W.cell? ⟨bb, off + i * 6 + 5, none⟩ = some (.int .i64 x.st) := hS.2 5 (by omega); clear hS; go_simp; try (with_reducible rfl))
      refine wpAnyH_take (i := 1) (v := ?_) rfl (by kernel_rfl) (by kernel_rfl) (by kernel_rfl) (fun _ _ _ h => h) (Or.inl ⟨by kernel_rfl, ?_⟩) E0 ?_
      rotate_left
      · (intro W hS; have k8 : W.cell? ⟨ga, 8, none⟩ = some (.int .i64 now) := (by rw [cell_of_row _ _ _ _ _ _ hS.1.1]; rfl); have j0 : W.cell? ⟨bb, off + i * 6, none⟩ = some (.int .i64 x.q.id) := hS.2 0 (by omega); have j1 : W.cell? ⟨bb, off + i * 6 + 1, none⟩ = some (.string x.q.who) := hS.2 1 (by omega); have j2 : W.cell? ⟨bb, off + i * 6 + 2, none⟩ = some (.int .i64 x.q.entry) := hS.2 2 (by omega); have j3 : W.cell? ⟨bb, off + i * 6 + 3, none⟩ = some (.string x.q.reason) := hS.2 3 (by omega); have j4 : W.cell? ⟨bb, off + i * 6 + 4, none⟩ = some (.int .i64 x.q.exp) := hS.2 4 (by omega); have j5 : W.cell? ⟨bb, off + i * 6 + 5, none⟩ = some (.int .i64 x.st) := hS.2 5 (by omega); clear hS; go_simp; try (with_reducible rfl))
      refine wpAnyH_take (i := 2) (v := ?_) rfl (by kernel_rfl) (by kernel_rfl) (by kernel_rfl) (fun _ _ _ h => h) (Or.inl ⟨by kernel_rfl, ?_⟩) E0 ?_
      rotate_left
      · (intro W hS; have k8 : W.cell? ⟨ga, 8, none⟩ = some (.int .i64 now) := (by rw [cell_of_row _ _ _ _ _ _ hS.1.1]; rfl); have j0 : W.cell? ⟨bb, off + i * 6, none⟩ = some (.int .i64 x.q.id) := hS.2 0 (by omega); have j1 : W.cell? ⟨bb, off + i * 6 + 1, none⟩ = some (.string x.q.who) := hS.2 1 (by omega); have j2 : W.cell? ⟨bb, off + i * 6 + 2, none⟩ = some (.int .i64 x.q.entry) := hS.2 2 (by omega); have j3 : W.cell? ⟨bb, off + i * 6 + 3, none⟩ = some (.string x.q.reason) := hS.2 3 (by omega); have j4 : W.cell? ⟨bb, off + i * 6 + 4, none⟩ = some (.int .i64 x.q.exp) := hS.2 4 (by omega); have j5 : W.cell? ⟨bb, off + i * 6 + 5, none⟩ = some (.int .i64 x.st) := hS.2 5 (by omega); clear hS; go_simp; try (with_reducible rfl))
      refine wpAnyH_take (i := 3) (v := ?_) rfl (by kernel_rfl) (by kernel_rfl) (by kernel_rfl) (fun _ _ _ h => h) (Or.inl ⟨by kernel_rfl, ?_⟩) E0 ?_
      rotate_left
      · (intro W hS; have k8 : W.cell? ⟨ga, 8, none⟩ = some (.int .i64 now) := (by rw [cell_of_row _ _ _ _ _ _ hS.1.1]; rfl); have j0 : W.cell? ⟨bb, off + i * 6, none⟩ = some (.int .i64 x.q.id) := hS.2 0 (by omega); have j1 : W.cell? ⟨bb, off + i * 6 + 1, none⟩ = some (.string x.q.who) := hS.2 1 (by omega); have j2 : W.cell? ⟨bb, off + i * 6 + 2, none⟩ = some (.int .i64 x.q.entry) := hS.2 2 (by omega); have j3 : W.cell? ⟨bb, off + i * 6 + 3, none⟩ = some (.string x.q.reason) := hS.2 3 (by omega); have j4 : W.cell? ⟨bb, off + i * 6 + 4, none⟩ = some (.int .i64 x.q.exp) := hS.2 4 (by omega); have j5 : W.cell? ⟨bb, off + i * 6 + 5, none⟩ = some (.int .i64 x.st) := hS.2 5 (by omega); clear hS; go_simp; try (with_reducible rfl))
      refine wpAnyH_take (i := 4) (v := ?_) rfl (by kernel_rfl) (by kernel_rfl) (by kernel_rfl) (fun _ _ _ h => h) (Or.inl ⟨by kernel_rfl, ?_⟩) E0 ?_
      rotate_left
      · (intro W hS; have k8 : W.cell? ⟨ga, 8, none⟩ = some (.int .i64 now) := (by rw [cell_of_row _ _ _ _ _ _ hS.1.1]; rfl); have j0 : W.cell? ⟨bb, off + i * 6, none⟩ = some (.int .i64 x.q.id) := hS.2 0 (by omega); have j1 : W.cell? ⟨bb, off + i * 6 + 1, none⟩ = some (.string x.q.who) := hS.2 1 (by omega); have j2 : W.cell? ⟨bb, off + i * 6 + 2, none⟩ = some (.int .i64 x.q.entry) := hS.2 2 (by omega); have j3 : W.cell? ⟨bb, off + i * 6 + 3, none⟩ = some (.string x.q.reason) := hS.2 3 (by omega); have j4 : W.cell? ⟨bb, off + i * 6 + 4, none⟩ = some (.int .i64 x.q.exp) := hS.2 4 (by omega); have j5 : W.cell? ⟨bb, off + i * 6 + 5, none⟩ = some (.int .i64 x.st) := hS.2 5 (by omega); clear hS; go_simp; try (with_reducible rfl))
      refine wpAnyH_take (i := 5) (v := ?_) rfl (by kernel_rfl) (by kernel_rfl) (by kernel_rfl) (fun _ _ _ h => h) (Or.inl ⟨by kernel_rfl, ?_⟩) E0 ?_
      rotate_left
      · (intro W hS; have k8 : W.cell? ⟨ga, 8, none⟩ = some (.int .i64 now) := (by rw [cell_of_row _ _ _ _ _ _ hS.1.1]; rfl); have j0 : W.cell? ⟨bb, off + i * 6, none⟩ = some (.int .i64 x.q.id) := hS.2 0 (by omega); have j1 : W.cell? ⟨bb, off + i * 6 + 1, none⟩ = some (.string x.q.who) := hS.2 1 (by omega); have j2 : W.cell? ⟨bb, off + i * 6 + 2, none⟩ = some (.int .i64 x.q.entry) := hS.2 2 (by omega); have j3 : W.cell? ⟨bb, off + i * 6 + 3, none⟩ = some (.string x.q.reason) := hS.2 3 (by omega); have j4 : W.cell? ⟨bb, off + i * 6 + 4, none⟩ = some (.int .i64 x.q.exp) := hS.2 4 (by omega); have j5 : W.cell? ⟨bb, off + i * 6 + 5, none⟩ = some (.int .i64 x.st) := hS.2 5 (by omega); clear hS; go_simp; try (with_reducible rfl))
      refine wpAnyH_ready (rs := [6]) (by kernel_rfl) (by simp) ?_
      refine AllReadyH.cons (i := 6) rfl (fun K hK => ?_) AllReadyH.nil
      go_simp
      refine (HX.out.1 v0).mono ?_
      rintro e v1 ⟨rfl, hb⟩
      have F1 := F0.trans (hb.mono F0.size)
      have E1 : ((v1.heap[ga]? = some (.cells #[.int .i64 1, .int .i64 q.id, .string q.who, .int .i64 q.entry, .string q.reason, .int .i64 q.exp, .int .i64 id, .string who, .int .i64 now] 61 (0, 0)) ∧ bb < v1.heap.size) ∧ ∀ m, m < 6 → v1.cell? ⟨bb, off + i * 6 + m, none⟩ = (enCs x)[m]?) := ⟨⟨(hb.block _ (blt_of_heap E0.1.1)).trans E0.1.1, Nat.lt_of_lt_of_le E0.1.2 hb.size⟩, fun m hm => (hb.cell (p := ⟨bb, off + i * 6 + m, none⟩) E0.1.2).trans (E0.2 m hm)⟩
      refine hK.out _ _ E1 (fun _ => ?_)
      clear hK K hb
      refine wpAnyH_take (i := 7) (v := ?_) rfl (by kernel_rfl) (by kernel_rfl) (by kernel_rfl) (fun _ _ _ h => h) (Or.inl ⟨by kernel_rfl, ?_⟩) E1 ?_
      rotate_left
      · (intro W hS; have k8 : W.cell? ⟨ga, 8, none⟩ = some (.int .i64 now) := (by rw [cell_of_row _ _ _ _ _ _ hS.1.1]; rfl); have j0 : W.cell? ⟨bb, off + i * 6, none⟩ = some (.int .i64 x.q.id) := hS.2 0 (by omega); have j1 : W.cell? ⟨bb, off + i * 6 + 1, none⟩ = some (.string x.q.who) := hS.2 1 (by omega); have j2 : W.cell? ⟨bb, off + i * 6 + 2, none⟩ = some (.int .i64 x.q.entry) := hS.2 2 (by omega); have j3 : W.cell? ⟨bb, off + i * 6 + 3, none⟩ = some (.string x.q.reason) := hS.2 3 (by omega); have j4 : W.cell? ⟨bb, off + i * 6 + 4, none⟩ = some (.int .i64 x.q.exp) := hS.2 4 (by omega); have j5 : W.cell? ⟨bb, off + i * 6 + 5, none⟩ = some (.int .i64 x.st) := hS.2 5 (by omega); clear hS; go_simp; try (with_reducible rfl))
      refine wpAnyH_done (by kernel_rfl) ?_ _
      go_simp
      have HV := Lib.hid (And.intro (HU.out.trans (F1.mono HU.out.size)) E1.1.1)
      clear F0 F1 E0 E1
      have X := HV.out.2
      have c0 : v1.cell? ⟨ga, 0, none⟩ = some (.int .i64 1) := by rw [cell_of_row _ _ _ _ _ _ X]; rfl
      clear X
      go_wp2_with fail
      go_ret2
      rw [HP.out]
      exact H.out.2.1 11 _ HV.out.1
    rw [if_neg h5] at hJ
    have g5 : (s == 5) = false := by simpa using h5
    clear h5
    by_cases hk : s = 2
    · rw [if_pos (show s = 1 + 1 by omega)] at hJ
      rw [hJ, if_neg (by decide)] at hP
      clear hJ
      have g6 : (s == 2) = true := by simpa using hk
      clear hk
      have HP := Lib.hid hP
      clear hP
      go_enter Try.func26, Try.ntmps26
      go_upto_region 1 with fail
      rw [← hw1, ← hga]
      clear hw1 hga
      have X := HA.out
      have c0 : w1.cell? ⟨ga, 0, none⟩ = some (.int .i64 1) := by rw [cell_of_row _ _ _ _ _ _ X]; rfl
      have c1 : w1.cell? ⟨ga, 1, none⟩ = some (.int .i64 q.id) := by rw [cell_of_row _ _ _ _ _ _ X]; rfl
      have c2 : w1.cell? ⟨ga, 2, none⟩ = some (.string q.who) := by rw [cell_of_row _ _ _ _ _ _ X]; rfl
      have c3 : w1.cell? ⟨ga, 3, none⟩ = some (.int .i64 q.entry) := by rw [cell_of_row _ _ _ _ _ _ X]; rfl
      have c4 : w1.cell? ⟨ga, 4, none⟩ = some (.string q.reason) := by rw [cell_of_row _ _ _ _ _ _ X]; rfl
      have c5 : w1.cell? ⟨ga, 5, none⟩ = some (.int .i64 q.exp) := by rw [cell_of_row _ _ _ _ _ _ X]; rfl
      have c6 : w1.cell? ⟨ga, 6, none⟩ = some (.int .i64 id) := by rw [cell_of_row _ _ _ _ _ _ X]; rfl
      have c7 : w1.cell? ⟨ga, 7, none⟩ = some (.string who) := by rw [cell_of_row _ _ _ _ _ _ X]; rfl
      have c8 : w1.cell? ⟨ga, 8, none⟩ = some (.int .i64 now) := by rw [cell_of_row _ _ _ _ _ _ X]; rfl
      clear X
      go_wp2_with fail
      refine H.out.1.mono ?_
      rintro e w2 ⟨rfl, hww⟩
      cases hww
      go_upto_region 8 with fail
      clear c0 c1 c2 c3 c4 c5 c6 c7 c8
      refine wp_region_held (S := fun W : World => (W.heap[ga]? = some (.cells #[.int .i64 1, .int .i64 q.id, .string q.who, .int .i64 q.entry, .string q.reason, .int .i64 q.exp, .int .i64 id, .string who, .int .i64 now] 61 (0, 0)) ∧ W.cell? ⟨bb, off + i * 6 + 1, none⟩ = some (.string x.q.who))) (by kernel_rfl) ?_
      change wpAnyH _ _ _ _ _ _ _ _ (World.drew _)
      generalize hv0 : World.drew _ = v0
      have E0 : (v0.heap[ga]? = some (.cells #[.int .i64 1, .int .i64 q.id, .string q.who, .int .i64 q.entry, .string q.reason, .int .i64 q.exp, .int .i64 id, .string who, .int .i64 now] 61 (0, 0)) ∧ v0.cell? ⟨bb, off + i * 6 + 1, none⟩ = some (.string x.q.who)) := by rw [← hv0]; exact ⟨HA.out, HX.out.2.1 w1 (Below.refl _ _) 1 (by omega)⟩
      have F0 : Below w1.heap.size w1 v0 := by rw [← hv0]; exact ((Below.refl _ _).drew)
      clear hv0
      refine wpAnyH_take (i := 0) (v := ?_) rfl (by kernel_rfl) (by kernel_rfl) (by kernel_rfl) (fun _ _ _ h => h) (Or.inl ⟨by kernel_rfl, ?_⟩) E0 ?_
      rotate_left
      · (intro W hS; have k0 : W.cell? ⟨ga, 0, none⟩ = some (.int .i64 1) := (by rw [cell_of_row _ _ _ _ _ _ hS.1]; rfl); have k7 : W.cell? ⟨ga, 7, none⟩ = some (.string who) := (by rw [cell_of_row _ _ _ _ _ _ hS.1]; rfl); have k9 := hS.2; go_simp; try (with_reducible rfl))
      refine wpAnyH_take (i := 1) (v := ?_) rfl (by kernel_rfl) (by kernel_rfl) (by kernel_rfl) (fun _ _ _ h => h) (Or.inl ⟨by kernel_rfl, ?_⟩) E0 ?_
      rotate_left
      · (intro W hS; have k0 : W.cell? ⟨ga, 0, none⟩ = some (.int .i64 1) := (by rw [cell_of_row _ _ _ _ _ _ hS.1]; rfl); have k7 : W.cell? ⟨ga, 7, none⟩ = some (.string who) := (by rw [cell_of_row _ _ _ _ _ _ hS.1]; rfl); have k9 := hS.2; go_simp; try (with_reducible rfl))
      refine wpAnyH_take (i := 2) (v := ?_) rfl (by kernel_rfl) (by kernel_rfl) (by kernel_rfl) (fun _ _ _ h => h) (Or.inl ⟨by kernel_rfl, ?_⟩) E0 ?_
      rotate_left
      · (intro W hS; have k0 : W.cell? ⟨ga, 0, none⟩ = some (.int .i64 1) := (by rw [cell_of_row _ _ _ _ _ _ hS.1]; rfl); have k7 : W.cell? ⟨ga, 7, none⟩ = some (.string who) := (by rw [cell_of_row _ _ _ _ _ _ hS.1]; rfl); have k9 := hS.2; go_simp; try (with_reducible rfl))
      refine wpAnyH_take (i := 3) (v := ?_) rfl (by kernel_rfl) (by kernel_rfl) (by kernel_rfl) (fun _ _ _ h => h) (Or.inl ⟨by kernel_rfl, ?_⟩) E0 ?_
      rotate_left
      · (intro W hS; have k0 : W.cell? ⟨ga, 0, none⟩ = some (.int .i64 1) := (by rw [cell_of_row _ _ _ _ _ _ hS.1]; rfl); have k7 : W.cell? ⟨ga, 7, none⟩ = some (.string who) := (by rw [cell_of_row _ _ _ _ _ _ hS.1]; rfl); have k9 := hS.2; go_simp; try (with_reducible rfl))
      refine wpAnyH_take (i := 4) (v := undef) rfl (by kernel_rfl) (by kernel_rfl) (by kernel_rfl) (fun _ _ _ h => h) (Or.inr ⟨by kernel_rfl, rfl⟩) E0 ?_
      refine wpAnyH_take (i := 5) (v := undef) rfl (by kernel_rfl) (by kernel_rfl) (by kernel_rfl) (fun _ _ _ h => h) (Or.inr ⟨by kernel_rfl, rfl⟩) E0 ?_
      refine wpAnyH_take (i := 6) (v := undef) rfl (by kernel_rfl) (by kernel_rfl) (by kernel_rfl) (fun _ _ _ h => h) (Or.inr ⟨by kernel_rfl, rfl⟩) E0 ?_
      refine wpAnyH_take (i := 7) (v := undef) rfl (by kernel_rfl) (by kernel_rfl) (by kernel_rfl) (fun _ _ _ h => h) (Or.inr ⟨by kernel_rfl, rfl⟩) E0 ?_
      refine wpAnyH_take (i := 8) (v := undef) rfl (by kernel_rfl) (by kernel_rfl) (by kernel_rfl) (fun _ _ _ h => h) (Or.inr ⟨by kernel_rfl, rfl⟩) E0 ?_
      refine wpAnyH_take (i := 9) (v := undef) rfl (by kernel_rfl) (by kernel_rfl) (by kernel_rfl) (fun _ _ _ h => h) (Or.inr ⟨by kernel_rfl, rfl⟩) E0 ?_
      refine wpAnyH_take (i := 10) (v := undef) rfl (by kernel_rfl) (by kernel_rfl) (by kernel_rfl) (fun _ _ _ h => h) (Or.inr ⟨by kernel_rfl, rfl⟩) E0 ?_
      refine wpAnyH_take (i := 11) (v := undef) rfl (by kernel_rfl) (by kernel_rfl) (by kernel_rfl) (fun _ _ _ h => h) (Or.inr ⟨by kernel_rfl, rfl⟩) E0 ?_
      refine wpAnyH_take (i := 12) (v := undef) rfl (by kernel_rfl) (by kernel_rfl) (by kernel_rfl) (fun _ _ _ h => h) (Or.inr ⟨by kernel_rfl, rfl⟩) E0 ?_
      refine wpAnyH_take (i := 13) (v := ?_) rfl (by kernel_rfl) (by kernel_rfl) (by kernel_rfl) (fun _ _ _ h => h) (Or.inl ⟨by kernel_rfl, ?_⟩) E0 ?_
      rotate_left
      · (intro W hS; have k0 : W.cell? ⟨ga, 0, none⟩ = some (.int .i64 1) := (by rw [cell_of_row _ _ _ _ _ _ hS.1]; rfl); have k7 : W.cell? ⟨ga, 7, none⟩ = some (.string who) := (by rw [cell_of_row _ _ _ _ _ _ hS.1]; rfl); have k9 := hS.2; go_simp; try (with_reducible rfl))
      refine wpAnyH_done (by kernel_rfl) ?_ _
      go_simp
      clear E0
      obtain ⟨wu, hwu⟩ : ∃ wu, wu = v0 := ⟨_, rfl⟩
      rw [← hwu] at F0
      try rw [← hwu]
      clear hwu
      have HU := Lib.hid F0
      clear F0
      have X := ((HU.out.block ga (blt_of_heap HA.out)).trans HA.out)
      have c0 : wu.cell? ⟨ga, 0, none⟩ = some (.int .i64 1) := by rw [cell_of_row _ _ _ _ _ _ X]; rfl
      have c8 : wu.cell? ⟨ga, 8, none⟩ = some (.int .i64 now) := by rw [cell_of_row _ _ _ _ _ _ X]; rfl
      clear X
      go_upto_region 10 with fail
      clear c0 c8
      refine wp_region_held (S := fun W : World => ((W.heap[ga]? = some (.cells #[.int .i64 1, .int .i64 q.id, .string q.who, .int .i64 q.entry, .string q.reason, .int .i64 q.exp, .int .i64 id, .string who, .int .i64 now] 61 (0, 0)) ∧ bb < W.heap.size) ∧ ∀ m, m < 6 → W.cell? ⟨bb, off + i * 6 + m, none⟩ = (enCs x)[m]?)) (by kernel_rfl) ?_
      change wpAnyH _ _ _ _ _ _ _ _ (World.drew _)
      generalize hv0 : World.drew _ = v0
      have E0 : ((v0.heap[ga]? = some (.cells #[.int .i64 1, .int .i64 q.id, .string q.who, .int .i64 q.entry, .string q.reason, .int .i64 q.exp, .int .i64 id, .string who, .int .i64 now] 61 (0, 0)) ∧ bb < v0.heap.size) ∧ ∀ m, m < 6 → v0.cell? ⟨bb, off + i * 6 + m, none⟩ = (enCs x)[m]?) := by rw [← hv0]; exact ⟨⟨(HU.out.block ga (blt_of_heap HA.out)).trans HA.out, Nat.lt_of_lt_of_le HX.out.2.2 HU.out.size⟩, HX.out.2.1 wu HU.out⟩
      have F0 : Below wu.heap.size wu v0 := by rw [← hv0]; exact ((Below.refl _ _).drew)
      clear hv0
      refine wpAnyH_take (i := 0) (v := ?_) rfl (by kernel_rfl) (by kernel_rfl) (by kernel_rfl) (fun _ _ _ h => h) (Or.inl ⟨by kernel_rfl, ?_⟩) E0 ?_
      rotate_left
      · (intro W hS; have k8 : W.cell? ⟨ga, 8, none⟩ = some (.int .i64 now) := (by rw [cell_of_row _ _ _ _ _ _ hS.1.1]; rfl); have j0 : W.cell? ⟨bb, off + i * 6, none⟩ = some (.int .i64 x.q.id) := hS.2 0 (by omega); have j1 : W.cell? ⟨bb, off + i * 6 + 1, none⟩ = some (.string x.q.who) := hS.2 1 (by omega); have j2 : W.cell? ⟨bb, off + i * 6 + 2, none⟩ = some (.int .i64 x.q.entry) := hS.2 2 (by omega); have j3 : W.cell? ⟨bb, off + i * 6 + 3, none⟩ = some (.string x.q.reason) := hS.2 3 (by omega); have j4 : W.cell? ⟨bb, off + i * 6 + 4, none⟩ = some (.int .i64 x.q.exp) := hS.2 4 (by omega); have j5 : W.cell? ⟨bb, off + i * 6 + 5, none⟩ = some (.int .i64 x.st) := hS.2 5 (by omega); clear hS; go_simp; try (with_reducible rfl))
      refine wpAnyH_take (i := 1) (v := ?_) rfl (by kernel_rfl) (by kernel_rfl) (by kernel_rfl) (fun _ _ _ h => h) (Or.inl ⟨by kernel_rfl, ?_⟩) E0 ?_
      rotate_left
      · (intro W hS; have k8 : W.cell? ⟨ga, 8, none⟩ = some (.int .i64 now) := (by rw [cell_of_row _ _ _ _ _ _ hS.1.1]; rfl); have j0 : W.cell? ⟨bb, off + i * 6, none⟩ = some (.int .i64 x.q.id) := hS.2 0 (by omega); have j1 : W.cell? ⟨bb, off + i * 6 + 1, none⟩ = some (.string x.q.who) := hS.2 1 (by omega); have j2 : W.cell? ⟨bb, off + i * 6 + 2, none⟩ = some (.int .i64 x.q.entry) := hS.2 2 (by omega); have j3 : W.cell? ⟨bb, off + i * 6 + 3, none⟩ = some (.string x.q.reason) := hS.2 3 (by omega); have j4 : W.cell? ⟨bb, off + i * 6 + 4, none⟩ = some (.int .i64 x.q.exp) := hS.2 4 (by omega); have j5 : W.cell? ⟨bb, off + i * 6 + 5, none⟩ = some (.int .i64 x.st) := hS.2 5 (by omega); clear hS; go_simp; try (with_reducible rfl))
      refine wpAnyH_take (i := 2) (v := ?_) rfl (by kernel_rfl) (by kernel_rfl) (by kernel_rfl) (fun _ _ _ h => h) (Or.inl ⟨by kernel_rfl, ?_⟩) E0 ?_
      rotate_left
      · (intro W hS; have k8 : W.cell? ⟨ga, 8, none⟩ = some (.int .i64 now) := (by rw [cell_of_row _ _ _ _ _ _ hS.1.1]; rfl); have j0 : W.cell? ⟨bb, off + i * 6, none⟩ = some (.int .i64 x.q.id) := hS.2 0 (by omega); have j1 : W.cell? ⟨bb, off + i * 6 + 1, none⟩ = some (.string x.q.who) := hS.2 1 (by omega); have j2 : W.cell? ⟨bb, off + i * 6 + 2, none⟩ = some (.int .i64 x.q.entry) := hS.2 2 (by omega); have j3 : W.cell? ⟨bb, off + i * 6 + 3, none⟩ = some (.string x.q.reason) := hS.2 3 (by omega); have j4 : W.cell? ⟨bb, off + i * 6 + 4, none⟩ = some (.int .i64 x.q.exp) := hS.2 4 (by omega); have j5 : W.cell? ⟨bb, off + i * 6 + 5, none⟩ = some (.int .i64 x.st) := hS.2 5 (by omega); clear hS; go_simp; try (with_reducible rfl))
      refine wpAnyH_take (i := 3) (v := ?_) rfl (by kernel_rfl) (by kernel_rfl) (by kernel_rfl) (fun _ _ _ h => h) (Or.inl ⟨by kernel_rfl, ?_⟩) E0 ?_
      rotate_left
      · (intro W hS; have k8 : W.cell? ⟨ga, 8, none⟩ = some (.int .i64 now) := (by rw [cell_of_row _ _ _ _ _ _ hS.1.1]; rfl); have j0 : W.cell? ⟨bb, off + i * 6, none⟩ = some (.int .i64 x.q.id) := hS.2 0 (by omega); have j1 : W.cell? ⟨bb, off + i * 6 + 1, none⟩ = some (.string x.q.who) := hS.2 1 (by omega); have j2 : W.cell? ⟨bb, off + i * 6 + 2, none⟩ = some (.int .i64 x.q.entry) := hS.2 2 (by omega); have j3 : W.cell? ⟨bb, off + i * 6 + 3, none⟩ = some (.string x.q.reason) := hS.2 3 (by omega); have j4 : W.cell? ⟨bb, off + i * 6 + 4, none⟩ = some (.int .i64 x.q.exp) := hS.2 4 (by omega); have j5 : W.cell? ⟨bb, off + i * 6 + 5, none⟩ = some (.int .i64 x.st) := hS.2 5 (by omega); clear hS; go_simp; try (with_reducible rfl))
      refine wpAnyH_take (i := 4) (v := ?_) rfl (by kernel_rfl) (by kernel_rfl) (by kernel_rfl) (fun _ _ _ h => h) (Or.inl ⟨by kernel_rfl, ?_⟩) E0 ?_
      rotate_left
      · (intro W hS; have k8 : W.cell? ⟨ga, 8, none⟩ = some (.int .i64 now) := (by rw [cell_of_row _ _ _ _ _ _ hS.1.1]; rfl); have j0 : W.cell? ⟨bb, off + i * 6, none⟩ = some (.int .i64 x.q.id) := hS.2 0 (by omega); have j1 : W.cell? ⟨bb, off + i * 6 + 1, none⟩ = some (.string x.q.who) := hS.2 1 (by omega); have j2 : W.cell? ⟨bb, off + i * 6 + 2, none⟩ = some (.int .i64 x.q.entry) := hS.2 2 (by omega); have j3 : W.cell? ⟨bb, off + i * 6 + 3, none⟩ = some (.string x.q.reason) := hS.2 3 (by omega); have j4 : W.cell? ⟨bb, off + i * 6 + 4, none⟩ = some (.int .i64 x.q.exp) := hS.2 4 (by omega); have j5 : W.cell? ⟨bb, off + i * 6 + 5, none⟩ = some (.int .i64 x.st) := hS.2 5 (by omega); clear hS; go_simp; try (with_reducible rfl))
      refine wpAnyH_take (i := 5) (v := ?_) rfl (by kernel_rfl) (by kernel_rfl) (by kernel_rfl) (fun _ _ _ h => h) (Or.inl ⟨by kernel_rfl, ?_⟩) E0 ?_
      rotate_left
      · (intro W hS; have k8 : W.cell? ⟨ga, 8, none⟩ = some (.int .i64 now) := (by rw [cell_of_row _ _ _ _ _ _ hS.1.1]; rfl); have j0 : W.cell? ⟨bb, off + i * 6, none⟩ = some (.int .i64 x.q.id) := hS.2 0 (by omega); have j1 : W.cell? ⟨bb, off + i * 6 + 1, none⟩ = some (.string x.q.who) := hS.2 1 (by omega); have j2 : W.cell? ⟨bb, off + i * 6 + 2, none⟩ = some (.int .i64 x.q.entry) := hS.2 2 (by omega); have j3 : W.cell? ⟨bb, off + i * 6 + 3, none⟩ = some (.string x.q.reason) := hS.2 3 (by omega); have j4 : W.cell? ⟨bb, off + i * 6 + 4, none⟩ = some (.int .i64 x.q.exp) := hS.2 4 (by omega); have j5 : W.cell? ⟨bb, off + i * 6 + 5, none⟩ = some (.int .i64 x.st) := hS.2 5 (by omega); clear hS; go_simp; try (with_reducible rfl))
      refine wpAnyH_ready (rs := [6]) (by kernel_rfl) (by simp) ?_
      refine AllReadyH.cons (i := 6) rfl (fun K hK => ?_) AllReadyH.nil
      go_simp
      refine (HX.out.1 v0).mono ?_
      rintro e v1 ⟨rfl, hb⟩
      have F1 := F0.trans (hb.mono F0.size)
      have E1 : ((v1.heap[ga]? = some (.cells #[.int .i64 1, .int .i64 q.id, .string q.who, .int .i64 q.entry, .string q.reason, .int .i64 q.exp, .int .i64 id, .string who, .int .i64 now] 61 (0, 0)) ∧ bb < v1.heap.size) ∧ ∀ m, m < 6 → v1.cell? ⟨bb, off + i * 6 + m, none⟩ = (enCs x)[m]?) := ⟨⟨(hb.block _ (blt_of_heap E0.1.1)).trans E0.1.1, Nat.lt_of_lt_of_le E0.1.2 hb.size⟩, fun m hm => (hb.cell (p := ⟨bb, off + i * 6 + m, none⟩) E0.1.2).trans (E0.2 m hm)⟩
      refine hK.out _ _ E1 (fun _ => ?_)
      clear hK K hb
      refine wpAnyH_take (i := 7) (v := ?_) rfl (by kernel_rfl) (by kernel_rfl) (by kernel_rfl) (fun _ _ _ h => h) (Or.inl ⟨by kernel_rfl, ?_⟩) E1 ?_
      rotate_left
      · (intro W hS; have k8 : W.cell? ⟨ga, 8, none⟩ = some (.int .i64 now) := (by rw [cell_of_row _ _ _ _ _ _ hS.1.1]; rfl); have j0 : W.cell? ⟨bb, off + i * 6, none⟩ = some (.int .i64 x.q.id) := hS.2 0 (by omega); have j1 : W.cell? ⟨bb, off + i * 6 + 1, none⟩ = some (.string x.q.who) := hS.2 1 (by omega); have j2 : W.cell? ⟨bb, off + i * 6 + 2, none⟩ = some (.int .i64 x.q.entry) := hS.2 2 (by omega); have j3 : W.cell? ⟨bb, off + i * 6 + 3, none⟩ = some (.string x.q.reason) := hS.2 3 (by omega); have j4 : W.cell? ⟨bb, off + i * 6 + 4, none⟩ = some (.int .i64 x.q.exp) := hS.2 4 (by omega); have j5 : W.cell? ⟨bb, off + i * 6 + 5, none⟩ = some (.int .i64 x.st) := hS.2 5 (by omega); clear hS; go_simp; try (with_reducible rfl))
      refine wpAnyH_done (by kernel_rfl) ?_ _
      go_simp
      have HV := Lib.hid (And.intro (HU.out.trans (F1.mono HU.out.size)) E1.1.1)
      clear F0 F1 E0 E1
      have X := HV.out.2
      have c0 : v1.cell? ⟨ga, 0, none⟩ = some (.int .i64 1) := by rw [cell_of_row _ _ _ _ _ _ X]; rfl
      clear X
      go_wp2_with fail
      go_ret2
      rw [HP.out]
      exact H.out.2.1 5 _ HV.out.1
    rw [if_neg (show ¬ s = 1 + 1 by omega)] at hJ
    have g6 : (s == 2) = false := by simpa using hk
    clear hk
    by_cases hk1 : s = 1
    · rw [if_pos (.inl hk1)] at hJ
      rw [hJ, if_pos rfl] at hP
      clear hJ
      have g7 : (s == 1) = true := by simpa using hk1
      clear hk1
      have HP := Lib.hid hP
      clear hP
      go_enter Try.func26, Try.ntmps26
      go_upto_region 1 with fail
      rw [← hw1, ← hga]
      clear hw1 hga
      have X := HA.out
      have c0 : w1.cell? ⟨ga, 0, none⟩ = some (.int .i64 1) := by rw [cell_of_row _ _ _ _ _ _ X]; rfl
      have c1 : w1.cell? ⟨ga, 1, none⟩ = some (.int .i64 q.id) := by rw [cell_of_row _ _ _ _ _ _ X]; rfl
      have c2 : w1.cell? ⟨ga, 2, none⟩ = some (.string q.who) := by rw [cell_of_row _ _ _ _ _ _ X]; rfl
      have c3 : w1.cell? ⟨ga, 3, none⟩ = some (.int .i64 q.entry) := by rw [cell_of_row _ _ _ _ _ _ X]; rfl
      have c4 : w1.cell? ⟨ga, 4, none⟩ = some (.string q.reason) := by rw [cell_of_row _ _ _ _ _ _ X]; rfl
      have c5 : w1.cell? ⟨ga, 5, none⟩ = some (.int .i64 q.exp) := by rw [cell_of_row _ _ _ _ _ _ X]; rfl
      have c6 : w1.cell? ⟨ga, 6, none⟩ = some (.int .i64 id) := by rw [cell_of_row _ _ _ _ _ _ X]; rfl
      have c7 : w1.cell? ⟨ga, 7, none⟩ = some (.string who) := by rw [cell_of_row _ _ _ _ _ _ X]; rfl
      have c8 : w1.cell? ⟨ga, 8, none⟩ = some (.int .i64 now) := by rw [cell_of_row _ _ _ _ _ _ X]; rfl
      clear X
      go_wp2_with fail
      refine H.out.1.mono ?_
      rintro e w2 ⟨rfl, hww⟩
      cases hww
      go_upto_region 8 with fail
      clear c0 c1 c2 c3 c4 c5 c6 c7 c8
      refine wp_region_held (S := fun W : World => (W.heap[ga]? = some (.cells #[.int .i64 1, .int .i64 q.id, .string q.who, .int .i64 q.entry, .string q.reason, .int .i64 q.exp, .int .i64 id, .string who, .int .i64 now] 61 (0, 0)) ∧ W.cell? ⟨bb, off + i * 6 + 1, none⟩ = some (.string x.q.who))) (by kernel_rfl) ?_
      change wpAnyH _ _ _ _ _ _ _ _ (World.drew _)
      generalize hv0 : World.drew _ = v0
      have E0 : (v0.heap[ga]? = some (.cells #[.int .i64 1, .int .i64 q.id, .string q.who, .int .i64 q.entry, .string q.reason, .int .i64 q.exp, .int .i64 id, .string who, .int .i64 now] 61 (0, 0)) ∧ v0.cell? ⟨bb, off + i * 6 + 1, none⟩ = some (.string x.q.who)) := by rw [← hv0]; exact ⟨HA.out, HX.out.2.1 w1 (Below.refl _ _) 1 (by omega)⟩
      have F0 : Below w1.heap.size w1 v0 := by rw [← hv0]; exact ((Below.refl _ _).drew)
      clear hv0
      refine wpAnyH_take (i := 0) (v := ?_) rfl (by kernel_rfl) (by kernel_rfl) (by kernel_rfl) (fun _ _ _ h => h) (Or.inl ⟨by kernel_rfl, ?_⟩) E0 ?_
      rotate_left
      · (intro W hS; have k0 : W.cell? ⟨ga, 0, none⟩ = some (.int .i64 1) := (by rw [cell_of_row _ _ _ _ _ _ hS.1]; rfl); have k7 : W.cell? ⟨ga, 7, none⟩ = some (.string who) := (by rw [cell_of_row _ _ _ _ _ _ hS.1]; rfl); have k9 := hS.2; go_simp; try (with_reducible rfl))
      refine wpAnyH_take (i := 1) (v := ?_) rfl (by kernel_rfl) (by kernel_rfl) (by kernel_rfl) (fun _ _ _ h => h) (Or.inl ⟨by kernel_rfl, ?_⟩) E0 ?_
      rotate_left
      · (intro W hS; have k0 : W.cell? ⟨ga, 0, none⟩ = some (.int .i64 1) := (by rw [cell_of_row _ _ _ _ _ _ hS.1]; rfl); have k7 : W.cell? ⟨ga, 7, none⟩ = some (.string who) := (by rw [cell_of_row _ _ _ _ _ _ hS.1]; rfl); have k9 := hS.2; go_simp; try (with_reducible rfl))
      refine wpAnyH_take (i := 2) (v := ?_) rfl (by kernel_rfl) (by kernel_rfl) (by kernel_rfl) (fun _ _ _ h => h) (Or.inl ⟨by kernel_rfl, ?_⟩) E0 ?_
      rotate_left
      · (intro W hS; have k0 : W.cell? ⟨ga, 0, none⟩ = some (.int .i64 1) := (by rw [cell_of_row _ _ _ _ _ _ hS.1]; rfl); have k7 : W.cell? ⟨ga, 7, none⟩ = some (.string who) := (by rw [cell_of_row _ _ _ _ _ _ hS.1]; rfl); have k9 := hS.2; go_simp; try (with_reducible rfl))
      refine wpAnyH_take (i := 3) (v := ?_) rfl (by kernel_rfl) (by kernel_rfl) (by kernel_rfl) (fun _ _ _ h => h) (Or.inl ⟨by kernel_rfl, ?_⟩) E0 ?_
      rotate_left
      · (intro W hS; have k0 : W.cell? ⟨ga, 0, none⟩ = some (.int .i64 1) := (by rw [cell_of_row _ _ _ _ _ _ hS.1]; rfl); have k7 : W.cell? ⟨ga, 7, none⟩ = some (.string who) := (by rw [cell_of_row _ _ _ _ _ _ hS.1]; rfl); have k9 := hS.2; go_simp; try (with_reducible rfl))
      refine wpAnyH_take (i := 4) (v := undef) rfl (by kernel_rfl) (by kernel_rfl) (by kernel_rfl) (fun _ _ _ h => h) (Or.inr ⟨by kernel_rfl, rfl⟩) E0 ?_
      refine wpAnyH_take (i := 5) (v := undef) rfl (by kernel_rfl) (by kernel_rfl) (by kernel_rfl) (fun _ _ _ h => h) (Or.inr ⟨by kernel_rfl, rfl⟩) E0 ?_
      refine wpAnyH_take (i := 6) (v := undef) rfl (by kernel_rfl) (by kernel_rfl) (by kernel_rfl) (fun _ _ _ h => h) (Or.inr ⟨by kernel_rfl, rfl⟩) E0 ?_
      refine wpAnyH_take (i := 7) (v := undef) rfl (by kernel_rfl) (by kernel_rfl) (by kernel_rfl) (fun _ _ _ h => h) (Or.inr ⟨by kernel_rfl, rfl⟩) E0 ?_
      refine wpAnyH_take (i := 8) (v := undef) rfl (by kernel_rfl) (by kernel_rfl) (by kernel_rfl) (fun _ _ _ h => h) (Or.inr ⟨by kernel_rfl, rfl⟩) E0 ?_
      refine wpAnyH_take (i := 9) (v := undef) rfl (by kernel_rfl) (by kernel_rfl) (by kernel_rfl) (fun _ _ _ h => h) (Or.inr ⟨by kernel_rfl, rfl⟩) E0 ?_
      refine wpAnyH_take (i := 10) (v := undef) rfl (by kernel_rfl) (by kernel_rfl) (by kernel_rfl) (fun _ _ _ h => h) (Or.inr ⟨by kernel_rfl, rfl⟩) E0 ?_
      refine wpAnyH_take (i := 11) (v := undef) rfl (by kernel_rfl) (by kernel_rfl) (by kernel_rfl) (fun _ _ _ h => h) (Or.inr ⟨by kernel_rfl, rfl⟩) E0 ?_
      refine wpAnyH_take (i := 12) (v := undef) rfl (by kernel_rfl) (by kernel_rfl) (by kernel_rfl) (fun _ _ _ h => h) (Or.inr ⟨by kernel_rfl, rfl⟩) E0 ?_
      refine wpAnyH_take (i := 13) (v := ?_) rfl (by kernel_rfl) (by kernel_rfl) (by kernel_rfl) (fun _ _ _ h => h) (Or.inl ⟨by kernel_rfl, ?_⟩) E0 ?_
      rotate_left
      · (intro W hS; have k0 : W.cell? ⟨ga, 0, none⟩ = some (.int .i64 1) := (by rw [cell_of_row _ _ _ _ _ _ hS.1]; rfl); have k7 : W.cell? ⟨ga, 7, none⟩ = some (.string who) := (by rw [cell_of_row _ _ _ _ _ _ hS.1]; rfl); have k9 := hS.2; go_simp; try (with_reducible rfl))
      refine wpAnyH_done (by kernel_rfl) ?_ _
      go_simp
      clear E0
      obtain ⟨wu, hwu⟩ : ∃ wu, wu = v0 := ⟨_, rfl⟩
      rw [← hwu] at F0
      try rw [← hwu]
      clear hwu
      have HU := Lib.hid F0
      clear F0
      have X := ((HU.out.block ga (blt_of_heap HA.out)).trans HA.out)
      have c0 : wu.cell? ⟨ga, 0, none⟩ = some (.int .i64 1) := by rw [cell_of_row _ _ _ _ _ _ X]; rfl
      have c8 : wu.cell? ⟨ga, 8, none⟩ = some (.int .i64 now) := by rw [cell_of_row _ _ _ _ _ _ X]; rfl
      clear X
      go_upto_region 10 with fail
      clear c0 c8
      refine wp_region_held (S := fun W : World => ((W.heap[ga]? = some (.cells #[.int .i64 1, .int .i64 q.id, .string q.who, .int .i64 q.entry, .string q.reason, .int .i64 q.exp, .int .i64 id, .string who, .int .i64 now] 61 (0, 0)) ∧ bb < W.heap.size) ∧ ∀ m, m < 6 → W.cell? ⟨bb, off + i * 6 + m, none⟩ = (enCs x)[m]?)) (by kernel_rfl) ?_
      change wpAnyH _ _ _ _ _ _ _ _ (World.drew _)
      generalize hv0 : World.drew _ = v0
      have E0 : ((v0.heap[ga]? = some (.cells #[.int .i64 1, .int .i64 q.id, .string q.who, .int .i64 q.entry, .string q.reason, .int .i64 q.exp, .int .i64 id, .string who, .int .i64 now] 61 (0, 0)) ∧ bb < v0.heap.size) ∧ ∀ m, m < 6 → v0.cell? ⟨bb, off + i * 6 + m, none⟩ = (enCs x)[m]?) := by rw [← hv0]; exact ⟨⟨(HU.out.block ga (blt_of_heap HA.out)).trans HA.out, Nat.lt_of_lt_of_le HX.out.2.2 HU.out.size⟩, HX.out.2.1 wu HU.out⟩
      have F0 : Below wu.heap.size wu v0 := by rw [← hv0]; exact ((Below.refl _ _).drew)
      clear hv0
      refine wpAnyH_take (i := 0) (v := ?_) rfl (by kernel_rfl) (by kernel_rfl) (by kernel_rfl) (fun _ _ _ h => h) (Or.inl ⟨by kernel_rfl, ?_⟩) E0 ?_
      rotate_left
      · (intro W hS; have k8 : W.cell? ⟨ga, 8, none⟩ = some (.int .i64 now) := (by rw [cell_of_row _ _ _ _ _ _ hS.1.1]; rfl); have j0 : W.cell? ⟨bb, off + i * 6, none⟩ = some (.int .i64 x.q.id) := hS.2 0 (by omega); have j1 : W.cell? ⟨bb, off + i * 6 + 1, none⟩ = some (.string x.q.who) := hS.2 1 (by omega); have j2 : W.cell? ⟨bb, off + i * 6 + 2, none⟩ = some (.int .i64 x.q.entry) := hS.2 2 (by omega); have j3 : W.cell? ⟨bb, off + i * 6 + 3, none⟩ = some (.string x.q.reason) := hS.2 3 (by omega); have j4 : W.cell? ⟨bb, off + i * 6 + 4, none⟩ = some (.int .i64 x.q.exp) := hS.2 4 (by omega); have j5 : W.cell? ⟨bb, off + i * 6 + 5, none⟩ = some (.int .i64 x.st) := hS.2 5 (by omega); clear hS; go_simp; try (with_reducible rfl))
      refine wpAnyH_take (i := 1) (v := ?_) rfl (by kernel_rfl) (by kernel_rfl) (by kernel_rfl) (fun _ _ _ h => h) (Or.inl ⟨by kernel_rfl, ?_⟩) E0 ?_
      rotate_left
      · (intro W hS; have k8 : W.cell? ⟨ga, 8, none⟩ = some (.int .i64 now) := (by rw [cell_of_row _ _ _ _ _ _ hS.1.1]; rfl); have j0 : W.cell? ⟨bb, off + i * 6, none⟩ = some (.int .i64 x.q.id) := hS.2 0 (by omega); have j1 : W.cell? ⟨bb, off + i * 6 + 1, none⟩ = some (.string x.q.who) := hS.2 1 (by omega); have j2 : W.cell? ⟨bb, off + i * 6 + 2, none⟩ = some (.int .i64 x.q.entry) := hS.2 2 (by omega); have j3 : W.cell? ⟨bb, off + i * 6 + 3, none⟩ = some (.string x.q.reason) := hS.2 3 (by omega); have j4 : W.cell? ⟨bb, off + i * 6 + 4, none⟩ = some (.int .i64 x.q.exp) := hS.2 4 (by omega); have j5 : W.cell? ⟨bb, off + i * 6 + 5, none⟩ = some (.int .i64 x.st) := hS.2 5 (by omega); clear hS; go_simp; try (with_reducible rfl))
      refine wpAnyH_take (i := 2) (v := ?_) rfl (by kernel_rfl) (by kernel_rfl) (by kernel_rfl) (fun _ _ _ h => h) (Or.inl ⟨by kernel_rfl, ?_⟩) E0 ?_
      rotate_left
      · (intro W hS; have k8 : W.cell? ⟨ga, 8, none⟩ = some (.int .i64 now) := (by rw [cell_of_row _ _ _ _ _ _ hS.1.1]; rfl); have j0 : W.cell? ⟨bb, off + i * 6, none⟩ = some (.int .i64 x.q.id) := hS.2 0 (by omega); have j1 : W.cell? ⟨bb, off + i * 6 + 1, none⟩ = some (.string x.q.who) := hS.2 1 (by omega); have j2 : W.cell? ⟨bb, off + i * 6 + 2, none⟩ = some (.int .i64 x.q.entry) := hS.2 2 (by omega); have j3 : W.cell? ⟨bb, off + i * 6 + 3, none⟩ = some (.string x.q.reason) := hS.2 3 (by omega); have j4 : W.cell? ⟨bb, off + i * 6 + 4, none⟩ = some (.int .i64 x.q.exp) := hS.2 4 (by omega); have j5 : W.cell? ⟨bb, off + i * 6 + 5, none⟩ = some (.int .i64 x.st) := hS.2 5 (by omega); clear hS; go_simp; try (with_reducible rfl))
      refine wpAnyH_take (i := 3) (v := ?_) rfl (by kernel_rfl) (by kernel_rfl) (by kernel_rfl) (fun _ _ _ h => h) (Or.inl ⟨by kernel_rfl, ?_⟩) E0 ?_
      rotate_left
      · (intro W hS; have k8 : W.cell? ⟨ga, 8, none⟩ = some (.int .i64 now) := (by rw [cell_of_row _ _ _ _ _ _ hS.1.1]; rfl); have j0 : W.cell? ⟨bb, off + i * 6, none⟩ = some (.int .i64 x.q.id) := hS.2 0 (by omega); have j1 : W.cell? ⟨bb, off + i * 6 + 1, none⟩ = some (.string x.q.who) := hS.2 1 (by omega); have j2 : W.cell? ⟨bb, off + i * 6 + 2, none⟩ = some (.int .i64 x.q.entry) := hS.2 2 (by omega); have j3 : W.cell? ⟨bb, off + i * 6 + 3, none⟩ = some (.string x.q.reason) := hS.2 3 (by omega); have j4 : W.cell? ⟨bb, off + i * 6 + 4, none⟩ = some (.int .i64 x.q.exp) := hS.2 4 (by omega); have j5 : W.cell? ⟨bb, off + i * 6 + 5, none⟩ = some (.int .i64 x.st) := hS.2 5 (by omega); clear hS; go_simp; try (with_reducible rfl))
      refine wpAnyH_take (i := 4) (v := ?_) rfl (by kernel_rfl) (by kernel_rfl) (by kernel_rfl) (fun _ _ _ h => h) (Or.inl ⟨by kernel_rfl, ?_⟩) E0 ?_
      rotate_left
      · (intro W hS; have k8 : W.cell? ⟨ga, 8, none⟩ = some (.int .i64 now) := (by rw [cell_of_row _ _ _ _ _ _ hS.1.1]; rfl); have j0 : W.cell? ⟨bb, off + i * 6, none⟩ = some (.int .i64 x.q.id) := hS.2 0 (by omega); have j1 : W.cell? ⟨bb, off + i * 6 + 1, none⟩ = some (.string x.q.who) := hS.2 1 (by omega); have j2 : W.cell? ⟨bb, off + i * 6 + 2, none⟩ = some (.int .i64 x.q.entry) := hS.2 2 (by omega); have j3 : W.cell? ⟨bb, off + i * 6 + 3, none⟩ = some (.string x.q.reason) := hS.2 3 (by omega); have j4 : W.cell? ⟨bb, off + i * 6 + 4, none⟩ = some (.int .i64 x.q.exp) := hS.2 4 (by omega); have j5 : W.cell? ⟨bb, off + i * 6 + 5, none⟩ = some (.int .i64 x.st) := hS.2 5 (by omega); clear hS; go_simp; try (with_reducible rfl))
      refine wpAnyH_take (i := 5) (v := ?_) rfl (by kernel_rfl) (by kernel_rfl) (by kernel_rfl) (fun _ _ _ h => h) (Or.inl ⟨by kernel_rfl, ?_⟩) E0 ?_
      rotate_left
      · (intro W hS; have k8 : W.cell? ⟨ga, 8, none⟩ = some (.int .i64 now) := (by rw [cell_of_row _ _ _ _ _ _ hS.1.1]; rfl); have j0 : W.cell? ⟨bb, off + i * 6, none⟩ = some (.int .i64 x.q.id) := hS.2 0 (by omega); have j1 : W.cell? ⟨bb, off + i * 6 + 1, none⟩ = some (.string x.q.who) := hS.2 1 (by omega); have j2 : W.cell? ⟨bb, off + i * 6 + 2, none⟩ = some (.int .i64 x.q.entry) := hS.2 2 (by omega); have j3 : W.cell? ⟨bb, off + i * 6 + 3, none⟩ = some (.string x.q.reason) := hS.2 3 (by omega); have j4 : W.cell? ⟨bb, off + i * 6 + 4, none⟩ = some (.int .i64 x.q.exp) := hS.2 4 (by omega); have j5 : W.cell? ⟨bb, off + i * 6 + 5, none⟩ = some (.int .i64 x.st) := hS.2 5 (by omega); clear hS; go_simp; try (with_reducible rfl))
      refine wpAnyH_ready (rs := [6]) (by kernel_rfl) (by simp) ?_
      refine AllReadyH.cons (i := 6) rfl (fun K hK => ?_) AllReadyH.nil
      go_simp
      refine (HX.out.1 v0).mono ?_
      rintro e v1 ⟨rfl, hb⟩
      have F1 := F0.trans (hb.mono F0.size)
      have E1 : ((v1.heap[ga]? = some (.cells #[.int .i64 1, .int .i64 q.id, .string q.who, .int .i64 q.entry, .string q.reason, .int .i64 q.exp, .int .i64 id, .string who, .int .i64 now] 61 (0, 0)) ∧ bb < v1.heap.size) ∧ ∀ m, m < 6 → v1.cell? ⟨bb, off + i * 6 + m, none⟩ = (enCs x)[m]?) := ⟨⟨(hb.block _ (blt_of_heap E0.1.1)).trans E0.1.1, Nat.lt_of_lt_of_le E0.1.2 hb.size⟩, fun m hm => (hb.cell (p := ⟨bb, off + i * 6 + m, none⟩) E0.1.2).trans (E0.2 m hm)⟩
      refine hK.out _ _ E1 (fun _ => ?_)
      clear hK K hb
      refine wpAnyH_take (i := 7) (v := ?_) rfl (by kernel_rfl) (by kernel_rfl) (by kernel_rfl) (fun _ _ _ h => h) (Or.inl ⟨by kernel_rfl, ?_⟩) E1 ?_
      rotate_left
      · (intro W hS; have k8 : W.cell? ⟨ga, 8, none⟩ = some (.int .i64 now) := (by rw [cell_of_row _ _ _ _ _ _ hS.1.1]; rfl); have j0 : W.cell? ⟨bb, off + i * 6, none⟩ = some (.int .i64 x.q.id) := hS.2 0 (by omega); have j1 : W.cell? ⟨bb, off + i * 6 + 1, none⟩ = some (.string x.q.who) := hS.2 1 (by omega); have j2 : W.cell? ⟨bb, off + i * 6 + 2, none⟩ = some (.int .i64 x.q.entry) := hS.2 2 (by omega); have j3 : W.cell? ⟨bb, off + i * 6 + 3, none⟩ = some (.string x.q.reason) := hS.2 3 (by omega); have j4 : W.cell? ⟨bb, off + i * 6 + 4, none⟩ = some (.int .i64 x.q.exp) := hS.2 4 (by omega); have j5 : W.cell? ⟨bb, off + i * 6 + 5, none⟩ = some (.int .i64 x.st) := hS.2 5 (by omega); clear hS; go_simp; try (with_reducible rfl))
      refine wpAnyH_done (by kernel_rfl) ?_ _
      go_simp
      have HV := Lib.hid (And.intro (HU.out.trans (F1.mono HU.out.size)) E1.1.1)
      clear F0 F1 E0 E1
      have X := HV.out.2
      have c0 : v1.cell? ⟨ga, 0, none⟩ = some (.int .i64 1) := by rw [cell_of_row _ _ _ _ _ _ X]; rfl
      clear X
      go_wp2_with fail
      refine (HW.out i 2 _ HV.out.1).mono ?_
      rintro e w6 ⟨ad, cp, rfl, hO, hb6⟩
      go_wp2_with fail
      go_ret2
      rw [HP.out]
      have hbz := H.out.2.2.1.trans (HV.out.1.mono H.out.2.2.1.size)
      exact ⟨ad, cp, by rw [Option.getD_some, Bk.setS_length, ← H.out.2.2.2.2.1]; rfl, by rw [Option.getD_some]; exact hO.recs en_size, hbz.trans (hb6.mono hbz.size), .inr fun g o hg => by
        subst hg
        rcases hO.2 with ⟨e, -⟩ | ⟨g2, c2, cur, e, hB, hq2, -⟩
        · injection e with e1; cases e1
        · injection e with e1; injection e1 with e1; injection e1 with e2; have := hbz.size; have := blt_of_heap hq2; omega⟩
    have g7 : (s == 1) = false := by simpa using hk1
    rw [if_neg (fun e => by omega)] at hJ
    clear hk1
    rw [hJ, if_neg (by decide)] at hP
    clear hJ
    have HP := Lib.hid hP
    clear hP
    go_enter Try.func26, Try.ntmps26
    go_upto_region 1 with fail
    rw [← hw1, ← hga]
    clear hw1 hga
    have X := HA.out
    have c0 : w1.cell? ⟨ga, 0, none⟩ = some (.int .i64 1) := by rw [cell_of_row _ _ _ _ _ _ X]; rfl
    have c1 : w1.cell? ⟨ga, 1, none⟩ = some (.int .i64 q.id) := by rw [cell_of_row _ _ _ _ _ _ X]; rfl
    have c2 : w1.cell? ⟨ga, 2, none⟩ = some (.string q.who) := by rw [cell_of_row _ _ _ _ _ _ X]; rfl
    have c3 : w1.cell? ⟨ga, 3, none⟩ = some (.int .i64 q.entry) := by rw [cell_of_row _ _ _ _ _ _ X]; rfl
    have c4 : w1.cell? ⟨ga, 4, none⟩ = some (.string q.reason) := by rw [cell_of_row _ _ _ _ _ _ X]; rfl
    have c5 : w1.cell? ⟨ga, 5, none⟩ = some (.int .i64 q.exp) := by rw [cell_of_row _ _ _ _ _ _ X]; rfl
    have c6 : w1.cell? ⟨ga, 6, none⟩ = some (.int .i64 id) := by rw [cell_of_row _ _ _ _ _ _ X]; rfl
    have c7 : w1.cell? ⟨ga, 7, none⟩ = some (.string who) := by rw [cell_of_row _ _ _ _ _ _ X]; rfl
    have c8 : w1.cell? ⟨ga, 8, none⟩ = some (.int .i64 now) := by rw [cell_of_row _ _ _ _ _ _ X]; rfl
    clear X
    go_wp2_with fail
    refine H.out.1.mono ?_
    rintro e w2 ⟨rfl, hww⟩
    cases hww
    go_upto_region 8 with fail
    clear c0 c1 c2 c3 c4 c5 c6 c7 c8
    refine wp_region_held (S := fun W : World => (W.heap[ga]? = some (.cells #[.int .i64 1, .int .i64 q.id, .string q.who, .int .i64 q.entry, .string q.reason, .int .i64 q.exp, .int .i64 id, .string who, .int .i64 now] 61 (0, 0)) ∧ W.cell? ⟨bb, off + i * 6 + 1, none⟩ = some (.string x.q.who))) (by kernel_rfl) ?_
    change wpAnyH _ _ _ _ _ _ _ _ (World.drew _)
    generalize hv0 : World.drew _ = v0
    have E0 : (v0.heap[ga]? = some (.cells #[.int .i64 1, .int .i64 q.id, .string q.who, .int .i64 q.entry, .string q.reason, .int .i64 q.exp, .int .i64 id, .string who, .int .i64 now] 61 (0, 0)) ∧ v0.cell? ⟨bb, off + i * 6 + 1, none⟩ = some (.string x.q.who)) := by rw [← hv0]; exact ⟨HA.out, HX.out.2.1 w1 (Below.refl _ _) 1 (by omega)⟩
    have F0 : Below w1.heap.size w1 v0 := by rw [← hv0]; exact ((Below.refl _ _).drew)
    clear hv0
    refine wpAnyH_take (i := 0) (v := ?_) rfl (by kernel_rfl) (by kernel_rfl) (by kernel_rfl) (fun _ _ _ h => h) (Or.inl ⟨by kernel_rfl, ?_⟩) E0 ?_
    rotate_left
    · (intro W hS; have k0 : W.cell? ⟨ga, 0, none⟩ = some (.int .i64 1) := (by rw [cell_of_row _ _ _ _ _ _ hS.1]; rfl); have k7 : W.cell? ⟨ga, 7, none⟩ = some (.string who) := (by rw [cell_of_row _ _ _ _ _ _ hS.1]; rfl); have k9 := hS.2; go_simp; try (with_reducible rfl))
    refine wpAnyH_take (i := 1) (v := ?_) rfl (by kernel_rfl) (by kernel_rfl) (by kernel_rfl) (fun _ _ _ h => h) (Or.inl ⟨by kernel_rfl, ?_⟩) E0 ?_
    rotate_left
    · (intro W hS; have k0 : W.cell? ⟨ga, 0, none⟩ = some (.int .i64 1) := (by rw [cell_of_row _ _ _ _ _ _ hS.1]; rfl); have k7 : W.cell? ⟨ga, 7, none⟩ = some (.string who) := (by rw [cell_of_row _ _ _ _ _ _ hS.1]; rfl); have k9 := hS.2; go_simp; try (with_reducible rfl))
    refine wpAnyH_take (i := 2) (v := ?_) rfl (by kernel_rfl) (by kernel_rfl) (by kernel_rfl) (fun _ _ _ h => h) (Or.inl ⟨by kernel_rfl, ?_⟩) E0 ?_
    rotate_left
    · (intro W hS; have k0 : W.cell? ⟨ga, 0, none⟩ = some (.int .i64 1) := (by rw [cell_of_row _ _ _ _ _ _ hS.1]; rfl); have k7 : W.cell? ⟨ga, 7, none⟩ = some (.string who) := (by rw [cell_of_row _ _ _ _ _ _ hS.1]; rfl); have k9 := hS.2; go_simp; try (with_reducible rfl))
    refine wpAnyH_take (i := 3) (v := ?_) rfl (by kernel_rfl) (by kernel_rfl) (by kernel_rfl) (fun _ _ _ h => h) (Or.inl ⟨by kernel_rfl, ?_⟩) E0 ?_
    rotate_left
    · (intro W hS; have k0 : W.cell? ⟨ga, 0, none⟩ = some (.int .i64 1) := (by rw [cell_of_row _ _ _ _ _ _ hS.1]; rfl); have k7 : W.cell? ⟨ga, 7, none⟩ = some (.string who) := (by rw [cell_of_row _ _ _ _ _ _ hS.1]; rfl); have k9 := hS.2; go_simp; try (with_reducible rfl))
    refine wpAnyH_take (i := 4) (v := undef) rfl (by kernel_rfl) (by kernel_rfl) (by kernel_rfl) (fun _ _ _ h => h) (Or.inr ⟨by kernel_rfl, rfl⟩) E0 ?_
    refine wpAnyH_take (i := 5) (v := undef) rfl (by kernel_rfl) (by kernel_rfl) (by kernel_rfl) (fun _ _ _ h => h) (Or.inr ⟨by kernel_rfl, rfl⟩) E0 ?_
    refine wpAnyH_take (i := 6) (v := undef) rfl (by kernel_rfl) (by kernel_rfl) (by kernel_rfl) (fun _ _ _ h => h) (Or.inr ⟨by kernel_rfl, rfl⟩) E0 ?_
    refine wpAnyH_take (i := 7) (v := undef) rfl (by kernel_rfl) (by kernel_rfl) (by kernel_rfl) (fun _ _ _ h => h) (Or.inr ⟨by kernel_rfl, rfl⟩) E0 ?_
    refine wpAnyH_take (i := 8) (v := undef) rfl (by kernel_rfl) (by kernel_rfl) (by kernel_rfl) (fun _ _ _ h => h) (Or.inr ⟨by kernel_rfl, rfl⟩) E0 ?_
    refine wpAnyH_take (i := 9) (v := undef) rfl (by kernel_rfl) (by kernel_rfl) (by kernel_rfl) (fun _ _ _ h => h) (Or.inr ⟨by kernel_rfl, rfl⟩) E0 ?_
    refine wpAnyH_take (i := 10) (v := undef) rfl (by kernel_rfl) (by kernel_rfl) (by kernel_rfl) (fun _ _ _ h => h) (Or.inr ⟨by kernel_rfl, rfl⟩) E0 ?_
    refine wpAnyH_take (i := 11) (v := undef) rfl (by kernel_rfl) (by kernel_rfl) (by kernel_rfl) (fun _ _ _ h => h) (Or.inr ⟨by kernel_rfl, rfl⟩) E0 ?_
    refine wpAnyH_take (i := 12) (v := undef) rfl (by kernel_rfl) (by kernel_rfl) (by kernel_rfl) (fun _ _ _ h => h) (Or.inr ⟨by kernel_rfl, rfl⟩) E0 ?_
    refine wpAnyH_take (i := 13) (v := ?_) rfl (by kernel_rfl) (by kernel_rfl) (by kernel_rfl) (fun _ _ _ h => h) (Or.inl ⟨by kernel_rfl, ?_⟩) E0 ?_
    rotate_left
    · (intro W hS; have k0 : W.cell? ⟨ga, 0, none⟩ = some (.int .i64 1) := (by rw [cell_of_row _ _ _ _ _ _ hS.1]; rfl); have k7 : W.cell? ⟨ga, 7, none⟩ = some (.string who) := (by rw [cell_of_row _ _ _ _ _ _ hS.1]; rfl); have k9 := hS.2; go_simp; try (with_reducible rfl))
    refine wpAnyH_done (by kernel_rfl) ?_ _
    go_simp
    clear E0
    obtain ⟨wu, hwu⟩ : ∃ wu, wu = v0 := ⟨_, rfl⟩
    rw [← hwu] at F0
    try rw [← hwu]
    clear hwu
    have HU := Lib.hid F0
    clear F0
    have X := ((HU.out.block ga (blt_of_heap HA.out)).trans HA.out)
    have c0 : wu.cell? ⟨ga, 0, none⟩ = some (.int .i64 1) := by rw [cell_of_row _ _ _ _ _ _ X]; rfl
    have c8 : wu.cell? ⟨ga, 8, none⟩ = some (.int .i64 now) := by rw [cell_of_row _ _ _ _ _ _ X]; rfl
    clear X
    go_upto_region 10 with fail
    clear c0 c8
    refine wp_region_held (S := fun W : World => ((W.heap[ga]? = some (.cells #[.int .i64 1, .int .i64 q.id, .string q.who, .int .i64 q.entry, .string q.reason, .int .i64 q.exp, .int .i64 id, .string who, .int .i64 now] 61 (0, 0)) ∧ bb < W.heap.size) ∧ ∀ m, m < 6 → W.cell? ⟨bb, off + i * 6 + m, none⟩ = (enCs x)[m]?)) (by kernel_rfl) ?_
    change wpAnyH _ _ _ _ _ _ _ _ (World.drew _)
    generalize hv0 : World.drew _ = v0
    have E0 : ((v0.heap[ga]? = some (.cells #[.int .i64 1, .int .i64 q.id, .string q.who, .int .i64 q.entry, .string q.reason, .int .i64 q.exp, .int .i64 id, .string who, .int .i64 now] 61 (0, 0)) ∧ bb < v0.heap.size) ∧ ∀ m, m < 6 → v0.cell? ⟨bb, off + i * 6 + m, none⟩ = (enCs x)[m]?) := by rw [← hv0]; exact ⟨⟨(HU.out.block ga (blt_of_heap HA.out)).trans HA.out, Nat.lt_of_lt_of_le HX.out.2.2 HU.out.size⟩, HX.out.2.1 wu HU.out⟩
    have F0 : Below wu.heap.size wu v0 := by rw [← hv0]; exact ((Below.refl _ _).drew)
    clear hv0
    refine wpAnyH_take (i := 0) (v := ?_) rfl (by kernel_rfl) (by kernel_rfl) (by kernel_rfl) (fun _ _ _ h => h) (Or.inl ⟨by kernel_rfl, ?_⟩) E0 ?_
    rotate_left
    · (intro W hS; have k8 : W.cell? ⟨ga, 8, none⟩ = some (.int .i64 now) := (by rw [cell_of_row _ _ _ _ _ _ hS.1.1]; rfl); have j0 : W.cell? ⟨bb, off + i * 6, none⟩ = some (.int .i64 x.q.id) := hS.2 0 (by omega); have j1 : W.cell? ⟨bb, off + i * 6 + 1, none⟩ = some (.string x.q.who) := hS.2 1 (by omega); have j2 : W.cell? ⟨bb, off + i * 6 + 2, none⟩ = some (.int .i64 x.q.entry) := hS.2 2 (by omega); have j3 : W.cell? ⟨bb, off + i * 6 + 3, none⟩ = some (.string x.q.reason) := hS.2 3 (by omega); have j4 : W.cell? ⟨bb, off + i * 6 + 4, none⟩ = some (.int .i64 x.q.exp) := hS.2 4 (by omega); have j5 : W.cell? ⟨bb, off + i * 6 + 5, none⟩ = some (.int .i64 x.st) := hS.2 5 (by omega); clear hS; go_simp; try (with_reducible rfl))
    refine wpAnyH_take (i := 1) (v := ?_) rfl (by kernel_rfl) (by kernel_rfl) (by kernel_rfl) (fun _ _ _ h => h) (Or.inl ⟨by kernel_rfl, ?_⟩) E0 ?_
    rotate_left
    · (intro W hS; have k8 : W.cell? ⟨ga, 8, none⟩ = some (.int .i64 now) := (by rw [cell_of_row _ _ _ _ _ _ hS.1.1]; rfl); have j0 : W.cell? ⟨bb, off + i * 6, none⟩ = some (.int .i64 x.q.id) := hS.2 0 (by omega); have j1 : W.cell? ⟨bb, off + i * 6 + 1, none⟩ = some (.string x.q.who) := hS.2 1 (by omega); have j2 : W.cell? ⟨bb, off + i * 6 + 2, none⟩ = some (.int .i64 x.q.entry) := hS.2 2 (by omega); have j3 : W.cell? ⟨bb, off + i * 6 + 3, none⟩ = some (.string x.q.reason) := hS.2 3 (by omega); have j4 : W.cell? ⟨bb, off + i * 6 + 4, none⟩ = some (.int .i64 x.q.exp) := hS.2 4 (by omega); have j5 : W.cell? ⟨bb, off + i * 6 + 5, none⟩ = some (.int .i64 x.st) := hS.2 5 (by omega); clear hS; go_simp; try (with_reducible rfl))
    refine wpAnyH_take (i := 2) (v := ?_) rfl (by kernel_rfl) (by kernel_rfl) (by kernel_rfl) (fun _ _ _ h => h) (Or.inl ⟨by kernel_rfl, ?_⟩) E0 ?_
    rotate_left
    · (intro W hS; have k8 : W.cell? ⟨ga, 8, none⟩ = some (.int .i64 now) := (by rw [cell_of_row _ _ _ _ _ _ hS.1.1]; rfl); have j0 : W.cell? ⟨bb, off + i * 6, none⟩ = some (.int .i64 x.q.id) := hS.2 0 (by omega); have j1 : W.cell? ⟨bb, off + i * 6 + 1, none⟩ = some (.string x.q.who) := hS.2 1 (by omega); have j2 : W.cell? ⟨bb, off + i * 6 + 2, none⟩ = some (.int .i64 x.q.entry) := hS.2 2 (by omega); have j3 : W.cell? ⟨bb, off + i * 6 + 3, none⟩ = some (.string x.q.reason) := hS.2 3 (by omega); have j4 : W.cell? ⟨bb, off + i * 6 + 4, none⟩ = some (.int .i64 x.q.exp) := hS.2 4 (by omega); have j5 : W.cell? ⟨bb, off + i * 6 + 5, none⟩ = some (.int .i64 x.st) := hS.2 5 (by omega); clear hS; go_simp; try (with_reducible rfl))
    refine wpAnyH_take (i := 3) (v := ?_) rfl (by kernel_rfl) (by kernel_rfl) (by kernel_rfl) (fun _ _ _ h => h) (Or.inl ⟨by kernel_rfl, ?_⟩) E0 ?_
    rotate_left
    · (intro W hS; have k8 : W.cell? ⟨ga, 8, none⟩ = some (.int .i64 now) := (by rw [cell_of_row _ _ _ _ _ _ hS.1.1]; rfl); have j0 : W.cell? ⟨bb, off + i * 6, none⟩ = some (.int .i64 x.q.id) := hS.2 0 (by omega); have j1 : W.cell? ⟨bb, off + i * 6 + 1, none⟩ = some (.string x.q.who) := hS.2 1 (by omega); have j2 : W.cell? ⟨bb, off + i * 6 + 2, none⟩ = some (.int .i64 x.q.entry) := hS.2 2 (by omega); have j3 : W.cell? ⟨bb, off + i * 6 + 3, none⟩ = some (.string x.q.reason) := hS.2 3 (by omega); have j4 : W.cell? ⟨bb, off + i * 6 + 4, none⟩ = some (.int .i64 x.q.exp) := hS.2 4 (by omega); have j5 : W.cell? ⟨bb, off + i * 6 + 5, none⟩ = some (.int .i64 x.st) := hS.2 5 (by omega); clear hS; go_simp; try (with_reducible rfl))
    refine wpAnyH_take (i := 4) (v := ?_) rfl (by kernel_rfl) (by kernel_rfl) (by kernel_rfl) (fun _ _ _ h => h) (Or.inl ⟨by kernel_rfl, ?_⟩) E0 ?_
    rotate_left
    · (intro W hS; have k8 : W.cell? ⟨ga, 8, none⟩ = some (.int .i64 now) := (by rw [cell_of_row _ _ _ _ _ _ hS.1.1]; rfl); have j0 : W.cell? ⟨bb, off + i * 6, none⟩ = some (.int .i64 x.q.id) := hS.2 0 (by omega); have j1 : W.cell? ⟨bb, off + i * 6 + 1, none⟩ = some (.string x.q.who) := hS.2 1 (by omega); have j2 : W.cell? ⟨bb, off + i * 6 + 2, none⟩ = some (.int .i64 x.q.entry) := hS.2 2 (by omega); have j3 : W.cell? ⟨bb, off + i * 6 + 3, none⟩ = some (.string x.q.reason) := hS.2 3 (by omega); have j4 : W.cell? ⟨bb, off + i * 6 + 4, none⟩ = some (.int .i64 x.q.exp) := hS.2 4 (by omega); have j5 : W.cell? ⟨bb, off + i * 6 + 5, none⟩ = some (.int .i64 x.st) := hS.2 5 (by omega); clear hS; go_simp; try (with_reducible rfl))
    refine wpAnyH_take (i := 5) (v := ?_) rfl (by kernel_rfl) (by kernel_rfl) (by kernel_rfl) (fun _ _ _ h => h) (Or.inl ⟨by kernel_rfl, ?_⟩) E0 ?_
    rotate_left
    · (intro W hS; have k8 : W.cell? ⟨ga, 8, none⟩ = some (.int .i64 now) := (by rw [cell_of_row _ _ _ _ _ _ hS.1.1]; rfl); have j0 : W.cell? ⟨bb, off + i * 6, none⟩ = some (.int .i64 x.q.id) := hS.2 0 (by omega); have j1 : W.cell? ⟨bb, off + i * 6 + 1, none⟩ = some (.string x.q.who) := hS.2 1 (by omega); have j2 : W.cell? ⟨bb, off + i * 6 + 2, none⟩ = some (.int .i64 x.q.entry) := hS.2 2 (by omega); have j3 : W.cell? ⟨bb, off + i * 6 + 3, none⟩ = some (.string x.q.reason) := hS.2 3 (by omega); have j4 : W.cell? ⟨bb, off + i * 6 + 4, none⟩ = some (.int .i64 x.q.exp) := hS.2 4 (by omega); have j5 : W.cell? ⟨bb, off + i * 6 + 5, none⟩ = some (.int .i64 x.st) := hS.2 5 (by omega); clear hS; go_simp; try (with_reducible rfl))
    refine wpAnyH_ready (rs := [6]) (by kernel_rfl) (by simp) ?_
    refine AllReadyH.cons (i := 6) rfl (fun K hK => ?_) AllReadyH.nil
    go_simp
    refine (HX.out.1 v0).mono ?_
    rintro e v1 ⟨rfl, hb⟩
    have F1 := F0.trans (hb.mono F0.size)
    have E1 : ((v1.heap[ga]? = some (.cells #[.int .i64 1, .int .i64 q.id, .string q.who, .int .i64 q.entry, .string q.reason, .int .i64 q.exp, .int .i64 id, .string who, .int .i64 now] 61 (0, 0)) ∧ bb < v1.heap.size) ∧ ∀ m, m < 6 → v1.cell? ⟨bb, off + i * 6 + m, none⟩ = (enCs x)[m]?) := ⟨⟨(hb.block _ (blt_of_heap E0.1.1)).trans E0.1.1, Nat.lt_of_lt_of_le E0.1.2 hb.size⟩, fun m hm => (hb.cell (p := ⟨bb, off + i * 6 + m, none⟩) E0.1.2).trans (E0.2 m hm)⟩
    refine hK.out _ _ E1 (fun _ => ?_)
    clear hK K hb
    refine wpAnyH_take (i := 7) (v := ?_) rfl (by kernel_rfl) (by kernel_rfl) (by kernel_rfl) (fun _ _ _ h => h) (Or.inl ⟨by kernel_rfl, ?_⟩) E1 ?_
    rotate_left
    · (intro W hS; have k8 : W.cell? ⟨ga, 8, none⟩ = some (.int .i64 now) := (by rw [cell_of_row _ _ _ _ _ _ hS.1.1]; rfl); have j0 : W.cell? ⟨bb, off + i * 6, none⟩ = some (.int .i64 x.q.id) := hS.2 0 (by omega); have j1 : W.cell? ⟨bb, off + i * 6 + 1, none⟩ = some (.string x.q.who) := hS.2 1 (by omega); have j2 : W.cell? ⟨bb, off + i * 6 + 2, none⟩ = some (.int .i64 x.q.entry) := hS.2 2 (by omega); have j3 : W.cell? ⟨bb, off + i * 6 + 3, none⟩ = some (.string x.q.reason) := hS.2 3 (by omega); have j4 : W.cell? ⟨bb, off + i * 6 + 4, none⟩ = some (.int .i64 x.q.exp) := hS.2 4 (by omega); have j5 : W.cell? ⟨bb, off + i * 6 + 5, none⟩ = some (.int .i64 x.st) := hS.2 5 (by omega); clear hS; go_simp; try (with_reducible rfl))
    refine wpAnyH_done (by kernel_rfl) ?_ _
    go_simp
    have HV := Lib.hid (And.intro (HU.out.trans (F1.mono HU.out.size)) E1.1.1)
    clear F0 F1 E0 E1
    have X := HV.out.2
    have c0 : v1.cell? ⟨ga, 0, none⟩ = some (.int .i64 1) := by rw [cell_of_row _ _ _ _ _ _ X]; rfl
    clear X
    go_wp2_with fail
    go_ret2
    rw [HP.out]
    exact H.out.2.1 10 _ HV.out.1
end Go.Proofs.Ytnkkbinbeildmaa
