/- PROVED HERE: for every text the law LeafReads returns true (which leaf any bytes say, or none, as the reference has it), and it reads afterwards as it did. No condition. -/
import Derived.Test.YtgoimggfpagojaaLfAwake
import Derived.Test.YtgoimggfpagojaaLfRRead
import Derived.Test.YtgoimggfpagojaaLfRSame
import Derived.Test.YtgoimggfpagojaaRows
import Derived.ProofKit
import Derived.OpenShut
namespace Go.Proofs.Ytgoimggfpagojaa
open Go.RowKit
open Cn

/-- Two leaves, one of them the reference's, in boxes. -/
structure Bx3 (w2 : World) (g0 g1 : Nat) (ca cb : Array Value) (W : World) : Prop where
  r0 : W.heap[g0]? = some (.cells ca 24 (0, 0))
  r1 : W.heap[g1]? = some (.cells cb 30 (0, 0))
  below : Below w2.heap.size w2 W
theorem Bx3.call {w2 : World} {g0 g1 : Nat} {ca cb : Array Value} {W W' : World} (h : Bx3 w2 g0 g1 ca cb W) (hb : Below W.heap.size W W') : Bx3 w2 g0 g1 ca cb W' :=
  ⟨(hb.block _ (lt_of_heap h.r0)).trans h.r0, (hb.block _ (lt_of_heap h.r1)).trans h.r1, h.below.trans (hb.mono h.below.size)⟩
theorem Bx3.drew {w2 : World} {g0 g1 : Nat} {ca cb : Array Value} {W : World} (h : Bx3 w2 g0 g1 ca cb W) : Bx3 w2 g0 g1 ca cb W.drew := h.call ((Below.refl _ _).drew)
theorem rdL_len (s : ByteArray) : (rdL s).1.tags.length ≤ 12 := by
  rcases rdL_cases s with ⟨l, h1, -, h3⟩ | ⟨-, h3⟩
  · rw [h3]; exact (headB_iff.1 (lfB_iff.1 h1).1).2.2.2.2.1
  · rw [h3]; exact Nat.zero_le _
set_option maxRecDepth 100000 in
set_option maxHeartbeats 8000000 in
theorem reads_law {w : World} (s : ByteArray) (hs : s.size ≤ maxLen) :
    Calls Try.prog 4 #[.string s] w fun e w' => e = .returned (.bool true) ∧ Below w.heap.size w w' := by
  unfold maxLen at hs
  by_cases hs5 : s.size ≤ 1500
  rotate_left
  · have e1 : decide ((1500 : Int) < (s.size : Int)) = true := decide_eq_true (by omega)
    clear hs5
    go_enter Try.func4, Try.ntmps4
    go_wp2_with fail
    refine (awake17_any _).mono ?_
    rintro e w2 ⟨rfl, hb⟩
    have HB := Lib.hid hb
    clear hb
    go_wp2_with fail
    go_ret
    exact ⟨rfl, HB.out⟩
  have e1 : decide ((1500 : Int) < (s.size : Int)) = false := decide_eq_false (by omega)
  have hr := fun W => read17_any s (by omega) W
  have hrr := fun W => rread17_any s (by omega) W
  have hlen := rdL_len s
  obtain ⟨V, hV⟩ : ∃ V, V = rdL s := ⟨_, rfl⟩
  rw [← hV] at hr hrr hlen
  obtain ⟨l, E⟩ := V
  simp only at hlen
  have krs := fun W q c q' c' (h : PoAt W q l.tags) (h' : PoAt W q' l.tags) => rsame17_any l l q q' c c' W h h' (by omega) (by omega)
  rw [sameL_iff.2 rfl] at krs
  have kra := fun W q c (h : PoAt W q l.tags) => ref17_any l q c (by omega) W h
  have hEE : (E == E) = true := by simp
  have H := Lib.hid (And.intro hr (And.intro hrr (And.intro krs kra)))
  clear hr hrr hlen hV krs kra hs5
  go_enter Try.func4, Try.ntmps4
  go_wp2_with fail
  refine (H.out.1 _).mono ?_
  rintro e w2 ⟨a1, c1, rfl, hP1, hb⟩
  obtain ⟨w3, hw3⟩ : ∃ w3, w3 = w2.alloc (.cells (lfCs l a1 c1) 24) := ⟨_, rfl⟩
  have hb3 : Below w2.heap.size w2 w3 := by rw [hw3]; exact (Below.refl _ _).alloc (Nat.le_refl _) _
  have hg3 : w3.heap[w2.heap.size]? = some (.cells (lfCs l a1 c1) 24 (0, 0)) := by rw [hw3]; exact heap_alloc_new _ _
  have H3 := Lib.hid (And.intro (hb.trans (hb3.mono hb.size)) (And.intro hg3 (hP1.below hb3)))
  clear hb hb3 hg3 hP1
  unfold lfCs at *
  go_upto_region 4 with fail
  rw [← hw3]
  clear hw3
  go_wp2_with fail
  refine (H.out.2.1 _).mono ?_
  rintro e w4 ⟨a2, c2, rfl, hP2, hb⟩
  obtain ⟨w5, hw5⟩ : ∃ w5, w5 = w4.alloc (.cells (lfCs l a2 c2) 30) := ⟨_, rfl⟩
  have hb5 : Below w4.heap.size w4 w5 := by rw [hw5]; exact (Below.refl _ _).alloc (Nat.le_refl _) _
  have hg5 : w5.heap[w4.heap.size]? = some (.cells (lfCs l a2 c2) 30 (0, 0)) := by rw [hw5]; exact heap_alloc_new _ _
  have hb35 := hb.trans (hb5.mono hb.size)
  have X5 : Bx3 w5 w2.heap.size w4.heap.size (lfCs l a1 c1) (lfCs l a2 c2) w5 := ⟨(hb35.block _ (lt_of_heap H3.out.2.1)).trans H3.out.2.1, hg5, Below.refl _ _⟩
  have H5 := Lib.hid (And.intro (H3.out.1.trans (hb35.mono H3.out.1.size)) (And.intro (H3.out.2.2.below hb35) (hP2.below hb5)))
  clear hb hb5 hg5 hP2 hb35
  unfold lfCs at *
  go_upto_region 5 with fail
  rw [← hw5]
  clear hw5
  go_wp2_with fail
  refine wp_region_held (S := fun W : World => Bx3 w5 w2.heap.size w4.heap.size (lfCs l a1 c1) (lfCs l a2 c2) W) (by kernel_rfl) ?_
  change wpAnyH _ _ _ _ _ _ _ _ (World.drew _)
  generalize hv0 : World.drew _ = v0
  have E0 : Bx3 w5 w2.heap.size w4.heap.size (lfCs l a1 c1) (lfCs l a2 c2) v0 := by rw [← hv0]; exact X5.drew
  have F0 : Below w5.heap.size w5 v0 := by rw [← hv0]; exact X5.below.drew
  clear hv0
  refine wpAnyH_ready (rs := [0]) (by kernel_rfl) (by simp) ?_
  refine AllReadyH.cons rfl (fun K hK => ?_) AllReadyH.nil
  go_simp
  refine (awake17_any v0).mono ?_
  rintro e v1 ⟨rfl, hb⟩
  have F1 := F0.trans (hb.mono F0.size)
  have E1 : Bx3 w5 w2.heap.size w4.heap.size (lfCs l a1 c1) (lfCs l a2 c2) v1 := E0.call hb
  refine hK.out _ _ E1 (fun _ => ?_)
  clear hK K hb
  refine wpAnyH_take (i := 1) (v := ?_) rfl (by kernel_rfl) (by kernel_rfl) (by kernel_rfl) (fun _ _ _ h => h) (Or.inl ⟨by kernel_rfl, ?_⟩) E1 ?_
  rotate_left
  · (intro W hS; obtain ⟨k0, k1, k2, k3, k4⟩ := lf_cell (l := l) hS.r0; obtain ⟨m0, m1, m2, m3, m4⟩ := lf_cell (l := l) hS.r1; clear hS; go_simp; try (with_reducible rfl))
  refine wpAnyH_take (i := 2) (v := ?_) rfl (by kernel_rfl) (by kernel_rfl) (by kernel_rfl) (fun _ _ _ h => h) (Or.inl ⟨by kernel_rfl, ?_⟩) E1 ?_
  rotate_left
  · (intro W hS; obtain ⟨k0, k1, k2, k3, k4⟩ := lf_cell (l := l) hS.r0; obtain ⟨m0, m1, m2, m3, m4⟩ := lf_cell (l := l) hS.r1; clear hS; go_simp; try (with_reducible rfl))
  refine wpAnyH_take (i := 4) (v := ?_) rfl (by kernel_rfl) (by kernel_rfl) (by kernel_rfl) (fun _ _ _ h => h) (Or.inl ⟨by kernel_rfl, ?_⟩) E1 ?_
  rotate_left
  · (intro W hS; obtain ⟨k0, k1, k2, k3, k4⟩ := lf_cell (l := l) hS.r0; obtain ⟨m0, m1, m2, m3, m4⟩ := lf_cell (l := l) hS.r1; clear hS; go_simp; try (with_reducible rfl))
  refine wpAnyH_ready (rs := [3]) (by kernel_rfl) (by simp) ?_
  refine AllReadyH.cons rfl (fun K hK => ?_) AllReadyH.nil
  go_simp
  refine (H.out.2.2.2 v1 a1 c1 (H5.out.2.1.below E1.below)).mono ?_
  rintro e v2 ⟨q1, d1, rfl, hq1, hb⟩
  have F2 := F1.trans (hb.mono F1.size)
  have E2 : Bx3 w5 w2.heap.size w4.heap.size (lfCs l a1 c1) (lfCs l a2 c2) v2 := E1.call hb
  refine hK.out _ _ E2 (fun _ => ?_)
  clear hK K hb
  refine wpAnyH_ready (rs := [5]) (by kernel_rfl) (by simp) ?_
  refine AllReadyH.cons rfl (fun K hK => ?_) AllReadyH.nil
  go_simp
  refine (H.out.2.2.1 v2 q1 d1 a2 c2 hq1 (H5.out.2.2.below E2.below)).mono ?_
  rintro e v3 ⟨rfl, hb⟩
  have F3 := F2.trans (hb.mono F2.size)
  have E3 : Bx3 w5 w2.heap.size w4.heap.size (lfCs l a1 c1) (lfCs l a2 c2) v3 := E2.call hb
  refine hK.out _ _ E3 (fun _ => ?_)
  clear hK K hb
  refine wpAnyH_take (i := 6) (v := ?_) rfl (by kernel_rfl) (by kernel_rfl) (by kernel_rfl) (fun _ _ _ h => h) (Or.inl ⟨by kernel_rfl, ?_⟩) E3 ?_
  rotate_left
  · (intro W hS; obtain ⟨k0, k1, k2, k3, k4⟩ := lf_cell (l := l) hS.r0; obtain ⟨m0, m1, m2, m3, m4⟩ := lf_cell (l := l) hS.r1; clear hS; go_simp; try (with_reducible rfl))
  refine wpAnyH_take (i := 7) (v := ?_) rfl (by kernel_rfl) (by kernel_rfl) (by kernel_rfl) (fun _ _ _ h => h) (Or.inl ⟨by kernel_rfl, ?_⟩) E3 ?_
  rotate_left
  · (intro W hS; obtain ⟨k0, k1, k2, k3, k4⟩ := lf_cell (l := l) hS.r0; obtain ⟨m0, m1, m2, m3, m4⟩ := lf_cell (l := l) hS.r1; clear hS; go_simp; try (with_reducible rfl))
  refine wpAnyH_take (i := 8) (v := ?_) rfl (by kernel_rfl) (by kernel_rfl) (by kernel_rfl) (fun _ _ _ h => h) (Or.inl ⟨by kernel_rfl, ?_⟩) E3 ?_
  rotate_left
  · (intro W hS; obtain ⟨k0, k1, k2, k3, k4⟩ := lf_cell (l := l) hS.r0; obtain ⟨m0, m1, m2, m3, m4⟩ := lf_cell (l := l) hS.r1; clear hS; go_simp; try (with_reducible rfl))
  refine wpAnyH_take (i := 9) (v := ?_) rfl (by kernel_rfl) (by kernel_rfl) (by kernel_rfl) (fun _ _ _ h => h) (Or.inl ⟨by kernel_rfl, ?_⟩) E3 ?_
  rotate_left
  · (intro W hS; obtain ⟨k0, k1, k2, k3, k4⟩ := lf_cell (l := l) hS.r0; obtain ⟨m0, m1, m2, m3, m4⟩ := lf_cell (l := l) hS.r1; clear hS; go_simp; try (with_reducible rfl))
  refine wpAnyH_take (i := 10) (v := ?_) rfl (by kernel_rfl) (by kernel_rfl) (by kernel_rfl) (fun _ _ _ h => h) (Or.inl ⟨by kernel_rfl, ?_⟩) E3 ?_
  rotate_left
  · (intro W hS; obtain ⟨k0, k1, k2, k3, k4⟩ := lf_cell (l := l) hS.r0; obtain ⟨m0, m1, m2, m3, m4⟩ := lf_cell (l := l) hS.r1; clear hS; go_simp; try (with_reducible rfl))
  refine wpAnyH_take (i := 11) (v := ?_) rfl (by kernel_rfl) (by kernel_rfl) (by kernel_rfl) (fun _ _ _ h => h) (Or.inl ⟨by kernel_rfl, ?_⟩) E3 ?_
  rotate_left
  · (intro W hS; obtain ⟨k0, k1, k2, k3, k4⟩ := lf_cell (l := l) hS.r0; obtain ⟨m0, m1, m2, m3, m4⟩ := lf_cell (l := l) hS.r1; clear hS; go_simp; try (with_reducible rfl))
  refine wpAnyH_take (i := 12) (v := ?_) rfl (by kernel_rfl) (by kernel_rfl) (by kernel_rfl) (fun _ _ _ h => h) (Or.inl ⟨by kernel_rfl, ?_⟩) E3 ?_
  rotate_left
  · (intro W hS; obtain ⟨k0, k1, k2, k3, k4⟩ := lf_cell (l := l) hS.r0; obtain ⟨m0, m1, m2, m3, m4⟩ := lf_cell (l := l) hS.r1; clear hS; go_simp; try (with_reducible rfl))
  refine wpAnyH_done (by kernel_rfl) ?_ _
  go_simp
  have HF := Lib.hid (H5.out.1.trans (F3.mono H5.out.1.size))
  clear E0 F0 E1 F1 E2 F2 E3 F3
  go_wp2_with fail
  go_ret
  exact ⟨by first | rfl | simp, HF.out⟩
end Go.Proofs.Ytgoimggfpagojaa

namespace Go.Proofs.Ytgoimggfpagojaa.leafReadsLaw
open Go.ChangeShapes Go.WideShapes Go.ChangeAt Go.RowKit
open Go.ChangeMaps (open_string shut_string)

theorem own : ownKnob Try.prog.godebug = none := by kernel_rfl
set_option maxRecDepth 100000 in
theorem lifted (os : Os) (started : os.Started) (H : Type) (enc : TypeId × Value → H) :
    ReturnsInHanded {} Try.checked os 4 .any (Rows.leafReadsSpec.pre6 enc Try.prog Try.f4 Rows.leafReadsRow.domain false) (Rows.leafReadsSpec.post enc Try.prog Try.f4 false true false false) := by
  refine returnsInHanded_of_change (C := Try.checked) own started (by kernel_rfl) Try.func4
    (ChangeSpec.witness6 (enc := enc) (C := Try.checked) false ⟨#[], #[.string ⟨#[]⟩], []⟩ 8 (by kernel_rfl) (by kernel_rfl) (by kernel_rfl) (by kernel_rfl)) ?_
  intro W base args ds gs before hval0 hW hcnd _
  have hval : ∀ (j : Nat) t v, Try.f4.params[j]? = some t → args[j]? = some v → Value.okWide Try.prog W .any base t v := hval0
  have hW' := hW
  obtain ⟨p, q, hA0, hV, rfl, hfz, hnd⟩ := hW
  have hA : DataW.TrodAll enc Try.prog W 0 (fun _ => true) true Try.f4.params.toList args.toList ds p := hA0
  rw [Try.params4] at hA hval
  obtain ⟨v0, vs0, d0, ds0, p0, q0, hargs, rfl, rfl, h0, r0⟩ := trodAll_cons hA
  obtain ⟨rfl, rfl, rfl⟩ := trodAll_nil r0
  obtain rfl : args = #[v0] := by cases args; simp_all
  obtain ⟨rfl, rfl⟩ := trodVars_none hV
  obtain ⟨s0, rfl, rfl, rfl, ws0⟩ := open_string Try.underlying9 (hval 0 9 v0 rfl rfl) h0
  clear hA0 hval0
  simp only [List.append_nil] at hW'
  refine (reads_law s0 (by simpa using ws0) (w := W)).mono fun e W' ⟨he, hb⟩ => ?_
  subst he
  exact ⟨_, rfl, _, _, _, [], [], [], hW', trodAll_cons_mk (shut_bool Try.underlying4 _) trodAll_mk0, (trodAll_cons_mk (shut_string Try.underlying9 ws0) trodAll_mk0), rfl, hb.frame _, fun h => by cases h⟩
theorem over : Rows.leafReadsRow.holds Try.pinned (OpenSpec.ofChange Rows.leafReadsSpec) :=
  OpenClaim.holds_of_wide 4 Try.f4 rfl rfl rfl rfl rfl rfl rfl ⟨rfl, rfl, rfl, rfl, rfl⟩ rfl rfl rfl rfl rfl (by kernel_rfl) Try.func4 (by kernel_rfl)
    (of_decide_eq_true (by kernel_rfl)) (by unfold Func.isWrapper; first | (rw [if_pos (by decide +kernel)]; kernel_rfl) | (rw [if_neg (by decide +kernel)]; exact ⟨rfl, rfl⟩))
    (fun os started H enc _ => lifted os started H enc)
end Go.Proofs.Ytgoimggfpagojaa.leafReadsLaw

namespace Go.Proofs.Ytgoimggfpagojaa
theorem leafReads_said : Rows.LeafReadsSaid := leafReadsLaw.over
end Go.Proofs.Ytgoimggfpagojaa
