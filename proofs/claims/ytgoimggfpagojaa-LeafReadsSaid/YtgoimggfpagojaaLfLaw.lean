/- lockboxlaw17.Few, Ref. -/
import Derived.Test.YtgoimggfpagojaaLfRead
import Derived.Test.YtgoimggfpagojaaLfOpen
import Derived.Deep.QuietTactic
import Derived.BigQuiet
namespace Go.Proofs.Ytgoimggfpagojaa
open Go.RowKit
open Cn

/-- Is a leaf not more than the statements go through? -/
def fewL (l : Lf) : Bool := decide (l.d.size ≤ 100) && decide (l.x.size ≤ 100) && decide (l.tags.length ≤ 20) && l.tags.all fun p => decide (p.tag.size ≤ 100)
theorem fewL_iff {l : Lf} : fewL l = true ↔ l.d.size ≤ 100 ∧ l.x.size ≤ 100 ∧ l.tags.length ≤ 20 ∧ ∀ p ∈ l.tags, p.tag.size ≤ 100 := by
  unfold fewL
  simp only [Bool.and_eq_true, decide_eq_true_eq, List.all_eq_true]
  constructor
  · rintro ⟨⟨⟨a, b⟩, c⟩, d⟩; exact ⟨a, b, c, d⟩
  · rintro ⟨a, b, c, d⟩; exact ⟨⟨⟨a, b⟩, c⟩, d⟩
theorem fewL_not {l : Lf} (h : ¬ (l.d.size ≤ 100 ∧ l.x.size ≤ 100 ∧ l.tags.length ≤ 20 ∧ ∀ p ∈ l.tags, p.tag.size ≤ 100)) : fewL l = false := by
  cases e : fewL l with
  | false => rfl
  | true => exact absurd (fewL_iff.1 e) h
set_option maxRecDepth 100000 in
set_option maxHeartbeats 4000000 in
theorem few17_any (l : Lf) (a0 : Option Addr) (cap : Nat) (hl : l.tags.length ≤ maxLen) (w : World) (hT : PoAt w a0 l.tags) :
    Calls Try.prog 7 #[.agg (lfCs l a0 cap)] w fun e w' => e = .returned (.bool (fewL l)) ∧ Below w.heap.size w w' := by
  unfold maxLen at hl
  obtain ⟨w1, hw1⟩ : ∃ w1, w1 = w.alloc (.cells (lfCs l a0 cap) 24) := ⟨_, rfl⟩
  have hb1 : Below w.heap.size w w1 := by rw [hw1]; exact (Below.refl _ _).alloc (Nat.le_refl _) _
  have hg1 : w1.heap[w.heap.size]? = some (.cells (lfCs l a0 cap) 24 (0, 0)) := by rw [hw1]; exact heap_alloc_new _ _
  obtain ⟨R, hR⟩ : ∃ R, R = fewL l := ⟨_, rfl⟩
  rw [← hR]
  have hT1 := hT.below hb1
  obtain ⟨c0, c1, c2, c3, c4⟩ := lf_cell hg1
  obtain ⟨n, k, d, tags, x⟩ := l
  unfold lfCs at *
  simp only at *
  obtain ⟨N, hN⟩ : ∃ N, N = tags.length := ⟨_, rfl⟩
  rw [← hN] at hl hw1 hg1 c3 ⊢
  have H := Lib.hid (And.intro hb1 (And.intro hT1 (And.intro hg1 (And.intro hN hR))))
  clear hb1 hT1 hg1 hT
  by_cases h1 : d.size ≤ 100
  rotate_left
  · obtain rfl : R = false := by rw [hR]; exact fewL_not (by simp only; omega)
    have e1 : decide ((100 : Int) < (d.size : Int)) = true := decide_eq_true (by omega)
    clear hR hN h1
    go_enter Try.func7, Try.ntmps7
    go_upto_region 1 with fail
    rw [← hw1]
    clear hw1
    go_wp2_with fail
    go_ret
    exact ⟨rfl, H.out.1⟩
  have e1 : decide ((100 : Int) < (d.size : Int)) = false := decide_eq_false (by omega)
  by_cases h2 : x.size ≤ 100
  rotate_left
  · obtain rfl : R = false := by rw [hR]; exact fewL_not (by simp only; omega)
    have e2 : decide ((100 : Int) < (x.size : Int)) = true := decide_eq_true (by omega)
    clear hR hN h1 h2
    go_enter Try.func7, Try.ntmps7
    go_upto_region 1 with fail
    rw [← hw1]
    clear hw1
    go_wp2_with fail
    go_ret
    exact ⟨rfl, H.out.1⟩
  have e2 : decide ((100 : Int) < (x.size : Int)) = false := decide_eq_false (by omega)
  by_cases h3 : N ≤ 20
  rotate_left
  · obtain rfl : R = false := by rw [hR]; exact fewL_not (by simp only; omega)
    have e3 : decide ((20 : Int) < (N : Int)) = true := decide_eq_true (by omega)
    clear hR hN h1 h2 h3
    go_enter Try.func7, Try.ntmps7
    go_upto_region 1 with fail
    rw [← hw1]
    clear hw1
    go_wp2_with fail
    go_ret
    exact ⟨rfl, H.out.1⟩
  have e3 : decide ((20 : Int) < (N : Int)) = false := decide_eq_false (by omega)
  have hRt : (∀ (q : Nat) (p : Po), tags[q]? = some p → p.tag.size ≤ 100) → R = true := fun h => by
    rw [hR]
    refine fewL_iff.2 ⟨h1, h2, by show tags.length ≤ 20; omega, fun p hp => ?_⟩
    obtain ⟨q, hq⟩ := List.getElem?_of_mem hp
    exact h q p hq
  have hRf : ∀ (q : Nat) (p : Po), tags[q]? = some p → ¬ p.tag.size ≤ 100 → R = false := fun q p hq h => by
    rw [hR]
    exact fewL_not (fun h4 => h (h4.2.2.2 p (List.mem_of_getElem? hq)))
  have HR := Lib.hid (And.intro hRt hRf)
  clear hRt hRf hR hN h1 h2
  go_enter Try.func7, Try.ntmps7
  go_upto_region 1 with fail
  rw [← hw1]
  clear hw1
  go_wp2_with fail
  go_loop [3] (fun i => ∃ j : Nat, j ≤ N ∧ i = .int .i64 (j : Int) ∧ ∀ (q : Nat) (p : Po), q < j → tags[q]? = some p → p.tag.size ≤ 100) (fun i => N - (intOf i).toNat)
  case atStart => exact ⟨0, by omega, rfl, fun q p hq => absurd hq (by omega)⟩
  case round =>
    obtain ⟨j, hj, rfl, hgood⟩ := hrel
    by_cases hlt : j < N
    · have hjl : j < tags.length := by have := H.out.2.2.2.1; omega
      obtain ⟨p, hp⟩ : ∃ p, tags[j]? = some p := ⟨_, List.getElem?_eq_getElem hjl⟩
      obtain ⟨b, off, rfl, hbl, q0, q1⟩ := H.out.2.1 j p hp
      by_cases g1 : p.tag.size ≤ 100
      · have g1a : decide ((100 : Int) < (p.tag.size : Int)) = false := decide_eq_false (by omega)
        have hok : ∀ (q : Nat) (p : Po), q < j + 1 → tags[q]? = some p → p.tag.size ≤ 100 := fun q p' hq hp' => by
          rcases Nat.lt_succ_iff_lt_or_eq.1 hq with h | h
          · exact hgood q p' h hp'
          · subst h; rw [hp] at hp'; injection hp' with hp'; subst hp'; exact g1
        have HM := Lib.hid hok
        clear hgood hok hp g1
        go_wp2_with fail
        go_round
        case rel => exact ⟨j + 1, by omega, by go_num, HM.out⟩
        case measure => simp [intOf]; omega
      · have g1a : decide ((100 : Int) < (p.tag.size : Int)) = true := decide_eq_true (by omega)
        have HM := Lib.hid (HR.out.2 j p hp g1)
        clear hgood hp g1
        go_wp2_with fail
        go_ret
        exact ⟨by rw [HM.out]; rfl, H.out.1⟩
    · obtain rfl : j = N := by omega
      have HM := Lib.hid (HR.out.1 (fun q p hq => hgood q p (by have := (List.getElem?_eq_some_iff.1 hq).1; have := H.out.2.2.2.1; omega) hq))
      clear hgood
      go_wp2_with fail
      go_ret
      exact ⟨by rw [HM.out]; rfl, H.out.1⟩
/-- What the region that takes a tag over reads. -/
def RfQ (g0 b o : Nat) (N cap : Nat) (a : Option Addr) (p : Po) (W : World) : Prop :=
  W.cell? ⟨g0, 3, none⟩ = some (.slice a N cap) ∧ W.cell? ⟨b, o, none⟩ = some (.string p.tag) ∧ W.cell? ⟨b, o + 1, none⟩ = some (.int .i64 p.prev) ∧ g0 < W.heap.size ∧ b < W.heap.size
theorem RfQ.same {g0 b o N cap : Nat} {a : Option Addr} {p : Po} {W W' : World} (h : RfQ g0 b o N cap a p W) (h1 : W'.heap[g0]? = W.heap[g0]?) (h2 : W'.heap[b]? = W.heap[b]?) (hs : W.heap.size ≤ W'.heap.size) : RfQ g0 b o N cap a p W' :=
  ⟨(World.cell?_of_block (a := ⟨g0, 3, none⟩) h1).trans h.1, (World.cell?_of_block (a := ⟨b, o, none⟩) h2).trans h.2.1, (World.cell?_of_block (a := ⟨b, o + 1, none⟩) h2).trans h.2.2.1, Nat.lt_of_lt_of_le h.2.2.2.1 hs, Nat.lt_of_lt_of_le h.2.2.2.2 hs⟩
theorem RfQ.keep {g0 b o N cap : Nat} {a : Option Addr} {p : Po} {W W' : World} (h : RfQ g0 b o N cap a p W) (hb : Below W.heap.size W W') : RfQ g0 b o N cap a p W' :=
  h.same (hb.block _ h.2.2.2.1) (hb.block _ h.2.2.2.2) hb.size
set_option maxRecDepth 100000 in
set_option maxHeartbeats 4000000 in
theorem ref17_any (l : Lf) (a0 : Option Addr) (cap : Nat) (hl : l.tags.length ≤ 1000000) (w : World) (hT : PoAt w a0 l.tags) :
    Calls Try.prog 11 #[.agg (lfCs l a0 cap)] w fun e w' => ∃ a c, e = .returned (.agg (lfCs l a c)) ∧ PoAt w' a l.tags ∧ Below w.heap.size w w' := by
  obtain ⟨w1, hw1⟩ : ∃ w1, w1 = w.alloc (.cells (lfCs l a0 cap) 24) := ⟨_, rfl⟩
  obtain ⟨w2, hw2⟩ : ∃ w2, w2 = w1.alloc (.cells (lfCs Lf.zero none 0) 30) := ⟨_, rfl⟩
  have hb1 : Below w.heap.size w w1 := by rw [hw1]; exact (Below.refl _ _).alloc (Nat.le_refl _) _
  have hz1 : w1.heap.size = w.heap.size + 1 := by rw [hw1]; simp
  have hb2 : Below w1.heap.size w1 w2 := by rw [hw2]; exact (Below.refl _ _).alloc (Nat.le_refl _) _
  have hg1 : w2.heap[w.heap.size]? = some (.cells (lfCs l a0 cap) 24 (0, 0)) := by rw [hb2.block _ (by omega), hw1]; exact heap_alloc_new _ _
  have hg2 : w2.heap[w.heap.size + 1]? = some (.cells (lfCs Lf.zero none 0) 30 (0, 0)) := by rw [hw2, ← hz1]; exact heap_alloc_new _ _
  have hbw : Below w.heap.size w w2 := hb1.trans (hb2.mono hb1.size)
  have hT2 := hT.below hbw
  obtain ⟨c0, c1, c2, c3, c4⟩ := lf_cell hg1
  obtain ⟨n, k, d, tags, x⟩ := l
  obtain ⟨w3, hw3⟩ : ∃ w3, w3 = w2.alloc (.cells (lfCs ⟨n, k, d, [], x⟩ none 0) 30) := ⟨_, rfl⟩
  have hb3 : Below w2.heap.size w2 w3 := by rw [hw3]; exact (Below.refl _ _).alloc (Nat.le_refl _) _
  have hL0 : LdS 30 54 w2 w2.heap.size ⟨n, k, d, [], x⟩ none 0 w3 := ⟨Nat.le_refl _, by rw [hw3]; exact heap_alloc_new _ _, OwnR.nil _ _ _ _ _, hb3⟩
  unfold Lf.zero at hw2 hg2
  unfold lfCs at *
  simp only [List.length_nil] at *
  obtain ⟨N, hN⟩ : ∃ N, N = tags.length := ⟨_, rfl⟩
  rw [← hN] at hl hw1 c3 ⊢
  have H := Lib.hid (And.intro hbw (And.intro hT2 (And.intro hg1 (And.intro hN (And.intro hL0 hg2)))))
  clear hb1 hb2 hT2 hg1 hT hbw hN hL0 hb3 hg2
  go_enter Try.func11, Try.ntmps11
  go_upto_region 1 with fail
  rw [← hw1, ← hw2]
  clear hw1 hw2
  go_upto_region 2 with fail
  rw [← hw3]
  clear hw3 c0 c1 c2 c3 c4
  go_wp2_with fail
  go_loopw [4] (fun i wr => ∃ (j : Nat) (ad : Option Addr) (cp : Nat), j ≤ N ∧ i = .int .i64 (j : Int) ∧ LdS 30 54 w2 w2.heap.size ⟨n, k, d, tags.take j, x⟩ ad cp wr) (fun i _ => N - (intOf i).toNat)
  case atStart => exact ⟨0, none, 0, by omega, rfl, H.out.2.2.2.2.1⟩
  case round =>
    obtain ⟨j, ad, cp, hj, rfl, hL⟩ := hrel
    have hr1 := (hL.below.block _ (lt_of_heap H.out.2.2.1)).trans H.out.2.2.1
    obtain ⟨c0, c1, c2, c3, c4⟩ := lf_cell (l := ⟨n, k, d, tags, x⟩) hr1
    simp only at c0 c1 c2 c3 c4
    rw [← H.out.2.2.2.1] at c3
    by_cases hlt : j < N
    · have hjl : j < tags.length := by have := H.out.2.2.2.1; omega
      obtain ⟨p, hp⟩ : ∃ p, tags[j]? = some p := ⟨_, List.getElem?_eq_getElem hjl⟩
      obtain ⟨b, off, rfl, hbl, q0, q1⟩ := H.out.2.1.below hL.below j p hp
      have hb2l : b < w2.heap.size := by
        obtain ⟨b', o', e, hl2, -⟩ := H.out.2.1 j p hp
        injection e with e
        injection e with e1
        omega
      have hsn : tags.take (j + 1) = tags.take j ++ [p] := by rw [List.take_add_one, hp]; rfl
      have hlen : (tags.take j).length = j := by rw [List.length_take]; omega
      have hQ : RfQ w.heap.size b (off + j * 2) N cap (some ⟨b, off, none⟩) p wr := ⟨c3, q0, q1, lt_of_heap hr1, hbl⟩
      have HM := Lib.hid (And.intro hL (And.intro hQ (And.intro hsn (And.intro hlen (And.intro hb2l (lt_of_heap H.out.2.2.1))))))
      clear hL hQ hsn hlen hb2l hr1 q0 q1 c0 c1 c2 c4
      go_wp2_with fail
      clear c3
      refine wp_region_held (S := RfQ w.heap.size b (off + j * 2) N cap (some ⟨b, off, none⟩) p) (by kernel_rfl) ?_
      have E0 : RfQ w.heap.size b (off + j * 2) N cap (some ⟨b, off, none⟩) p wr.drew := HM.out.2.1.keep ((Below.refl _ _).drew)
      have L0 := HM.out.1.drew
      have F0 : Below wr.heap.size wr wr.drew := (Below.refl _ _).drew
      change wpAnyH _ _ _ _ _ _ _ _ (World.drew _)
      generalize World.drew _ = v0 at *
      refine wpAnyH_take (i := 0) (v := ?_) rfl (by kernel_rfl) (by kernel_rfl) (by kernel_rfl) (fun _ _ _ h => h) (Or.inl ⟨by kernel_rfl, ?_⟩) E0 ?_
      rotate_left
      · (intro W hS; obtain ⟨g0, g1, g2, g3, g4⟩ := hS; go_simp; try (with_reducible rfl))
      refine wpAnyH_take (i := 2) (v := ?_) rfl (by kernel_rfl) (by kernel_rfl) (by kernel_rfl) (fun _ _ _ h => h) (Or.inl ⟨by kernel_rfl, ?_⟩) E0 ?_
      rotate_left
      · (intro W hS; obtain ⟨g0, g1, g2, g3, g4⟩ := hS; go_simp; try (with_reducible rfl))
      refine wpAnyH_take (i := 3) (v := ?_) rfl (by kernel_rfl) (by kernel_rfl) (by kernel_rfl) (fun _ _ _ h => h) (Or.inl ⟨by kernel_rfl, ?_⟩) E0 ?_
      rotate_left
      · (intro W hS; obtain ⟨g0, g1, g2, g3, g4⟩ := hS; go_simp; try (with_reducible rfl))
      refine wpAnyH_take (i := 4) (v := ?_) rfl (by kernel_rfl) (by kernel_rfl) (by kernel_rfl) (fun _ _ _ h => h) (Or.inl ⟨by kernel_rfl, ?_⟩) E0 ?_
      rotate_left
      · (intro W hS; obtain ⟨g0, g1, g2, g3, g4⟩ := hS; go_simp; try (with_reducible rfl))
      refine wpAnyH_take (i := 5) (v := ?_) rfl (by kernel_rfl) (by kernel_rfl) (by kernel_rfl) (fun _ _ _ h => h) (Or.inl ⟨by kernel_rfl, ?_⟩) E0 ?_
      rotate_left
      · (intro W hS; obtain ⟨g0, g1, g2, g3, g4⟩ := hS; go_simp; try (with_reducible rfl))
      refine wpAnyH_take (i := 6) (v := ?_) rfl (by kernel_rfl) (by kernel_rfl) (by kernel_rfl) (fun _ _ _ h => h) (Or.inl ⟨by kernel_rfl, ?_⟩) E0 ?_
      rotate_left
      · (intro W hS; obtain ⟨g0, g1, g2, g3, g4⟩ := hS; go_simp; try (with_reducible rfl))
      refine wpAnyH_ready (rs := [1, 7]) (by kernel_rfl) (by simp) ?_
      refine AllReadyH.cons rfl (fun K hK => ?_) (AllReadyH.cons rfl (fun K hK => ?_) AllReadyH.nil)
      · have qs := L0.slice
        simp only [HM.out.2.2.2.1] at qs
        go_simp
        refine hK.out _ _ E0 (fun _ => ?_)
        clear hK K qs
        refine wpAnyH_ready (rs := [7]) (by kernel_rfl) (by simp) ?_
        refine AllReadyH.cons rfl (fun K hK => ?_) AllReadyH.nil
        obtain ⟨v1, hv⟩ : ∃ v, v = v0.alloc (.cells (poCs p) 54) := ⟨_, rfl⟩
        have hb : Below v0.heap.size v0 v1 := by rw [hv]; exact (Below.refl _ _).alloc (Nat.le_refl _) _
        have gp : v1.heap[v0.heap.size]? = some (.cells (poCs p) 54 (0, 0)) := by rw [hv]; exact heap_alloc_new _ _
        unfold poCs at hv
        go_simp
        rw [← hv]
        clear hv
        have L1 := L0.call hb
        have E1 := E0.keep hb
        have F1 := F0.trans (hb.mono F0.size)
        refine hK.out _ _ E1 (fun _ => ?_)
        clear hK K hb
        refine wpAnyH_ready (rs := [8]) (by kernel_rfl) (by simp) ?_
        refine AllReadyH.cons rfl (fun K hK => ?_) AllReadyH.nil
        refine step_append_r rfl (.tmp 22) (.tmp 28) 28 rfl rposting_rec poCs_one poCs_size L1.own _ (HM.out.2.2.2.1) (by kernel_rfl) _ 1 p (by kernel_rfl) gp (by omega) (lt_of_heap L1.row) (Below.refl _ _) ?_
        intro q cq vz ho hB hgr hat
        have hLk := L1
        have E2 : RfQ w.heap.size b (off + j * 2) N cap (some ⟨b, off, none⟩) p vz := E1.same (hB.block _ (by have := HM.out.2.2.2.2.2; omega)) (hB.block _ (by have := HM.out.2.2.2.2.1; omega)) hgr.size
        have hN := hLk.next ho hB
        have zr := (hB.block _ (Nat.lt_succ_self _)).trans hLk.row
        obtain ⟨z0, z1, z2, z3, z4⟩ := lf_cell zr
        have zf := row5 zr
        refine hK.out _ _ E2 (fun _ => ?_)
        clear hK K
        refine wpAnyH_take (i := 9) (v := ?_) rfl (by kernel_rfl) (by kernel_rfl) (by kernel_rfl) (fun _ _ _ h => h) (Or.inl ⟨by kernel_rfl, ?_⟩) E2 ?_
        rotate_left
        · (intro W hS; clear hS; go_simp; try (with_reducible rfl))
        refine wpAnyH_ready (rs := [10]) (by kernel_rfl) (by simp) ?_
        refine AllReadyH.cons rfl (fun K hK => ?_) AllReadyH.nil
        go_simp
        simp only [HM.out.2.2.2.1] at hN
        have E3 : RfQ w.heap.size b (off + j * 2) N cap (some ⟨b, off, none⟩) p (vz.setCell ⟨w2.heap.size, 3, none⟩ (.slice (some ⟨q, 0, none⟩) (j + 1) cq)) := E2.same (heap_setCell_other _ _ _ _ (fun e => by have e2 : w.heap.size = w2.heap.size := e; have := HM.out.2.2.2.2.2; omega)) (heap_setCell_other _ _ _ _ (fun e => by have e2 : b = w2.heap.size := e; have := HM.out.2.2.2.2.1; omega)) (by simp)
        refine hK.out _ _ E3 (fun _ => ?_)
        clear hK K z0 z1 z2 z3 z4 zf zr
        refine wpAnyH_done (by kernel_rfl) ?_ _
        go_simp
        rw [← HM.out.2.2.1] at hN
        have HN := Lib.hid hN
        clear hN hLk hgr hB ho gp E0 E1 E2 E3
        go_wp2_with fail
        go_roundw
        case rel => exact ⟨j + 1, _, cq, by omega, by go_num, HN.out⟩
        case measure => simp [intOf]; omega
      · obtain ⟨v1, hv⟩ : ∃ v, v = v0.alloc (.cells (poCs p) 54) := ⟨_, rfl⟩
        have hb : Below v0.heap.size v0 v1 := by rw [hv]; exact (Below.refl _ _).alloc (Nat.le_refl _) _
        have gp : v1.heap[v0.heap.size]? = some (.cells (poCs p) 54 (0, 0)) := by rw [hv]; exact heap_alloc_new _ _
        unfold poCs at hv
        go_simp
        rw [← hv]
        clear hv
        have L1 := L0.call hb
        have E1 := E0.keep hb
        have F1 := F0.trans (hb.mono F0.size)
        refine hK.out _ _ E1 (fun _ => ?_)
        clear hK K hb
        refine wpAnyH_ready (rs := [1]) (by kernel_rfl) (by simp) ?_
        refine AllReadyH.cons rfl (fun K hK => ?_) AllReadyH.nil
        have qs := L1.slice
        simp only [HM.out.2.2.2.1] at qs
        go_simp
        refine hK.out _ _ E1 (fun _ => ?_)
        clear hK K qs
        refine wpAnyH_ready (rs := [8]) (by kernel_rfl) (by simp) ?_
        refine AllReadyH.cons rfl (fun K hK => ?_) AllReadyH.nil
        refine step_append_r rfl (.tmp 22) (.tmp 28) 28 rfl rposting_rec poCs_one poCs_size L1.own _ (HM.out.2.2.2.1) (by kernel_rfl) _ 1 p (by kernel_rfl) gp (by omega) (lt_of_heap L1.row) (Below.refl _ _) ?_
        intro q cq vz ho hB hgr hat
        have hLk := L1
        have E2 : RfQ w.heap.size b (off + j * 2) N cap (some ⟨b, off, none⟩) p vz := E1.same (hB.block _ (by have := HM.out.2.2.2.2.2; omega)) (hB.block _ (by have := HM.out.2.2.2.2.1; omega)) hgr.size
        have hN := hLk.next ho hB
        have zr := (hB.block _ (Nat.lt_succ_self _)).trans hLk.row
        obtain ⟨z0, z1, z2, z3, z4⟩ := lf_cell zr
        have zf := row5 zr
        refine hK.out _ _ E2 (fun _ => ?_)
        clear hK K
        refine wpAnyH_take (i := 9) (v := ?_) rfl (by kernel_rfl) (by kernel_rfl) (by kernel_rfl) (fun _ _ _ h => h) (Or.inl ⟨by kernel_rfl, ?_⟩) E2 ?_
        rotate_left
        · (intro W hS; clear hS; go_simp; try (with_reducible rfl))
        refine wpAnyH_ready (rs := [10]) (by kernel_rfl) (by simp) ?_
        refine AllReadyH.cons rfl (fun K hK => ?_) AllReadyH.nil
        go_simp
        simp only [HM.out.2.2.2.1] at hN
        have E3 : RfQ w.heap.size b (off + j * 2) N cap (some ⟨b, off, none⟩) p (vz.setCell ⟨w2.heap.size, 3, none⟩ (.slice (some ⟨q, 0, none⟩) (j + 1) cq)) := E2.same (heap_setCell_other _ _ _ _ (fun e => by have e2 : w.heap.size = w2.heap.size := e; have := HM.out.2.2.2.2.2; omega)) (heap_setCell_other _ _ _ _ (fun e => by have e2 : b = w2.heap.size := e; have := HM.out.2.2.2.2.1; omega)) (by simp)
        refine hK.out _ _ E3 (fun _ => ?_)
        clear hK K z0 z1 z2 z3 z4 zf zr
        refine wpAnyH_done (by kernel_rfl) ?_ _
        go_simp
        rw [← HM.out.2.2.1] at hN
        have HN := Lib.hid hN
        clear hN hLk hgr hB ho gp E0 E1 E2 E3
        go_wp2_with fail
        go_roundw
        case rel => exact ⟨j + 1, _, cq, by omega, by go_num, HN.out⟩
        case measure => simp [intOf]; omega
    · obtain rfl : j = N := by omega
      have htk : tags.take j = tags := List.take_of_length_le (by have := H.out.2.2.2.1; omega)
      rw [htk] at hL
      have hr2 := (hL.below.block _ (lt_of_heap H.out.2.2.2.2.2)).trans H.out.2.2.2.2.2
      obtain ⟨e0, e1, e2, e3, e4⟩ := lf_cell hL.row
      simp only at e0 e1 e2 e3 e4
      obtain ⟨z0, z1, z2, z3, z4⟩ : wr.cell? ⟨w.heap.size + 1, 0, none⟩ = some (.int .i64 0) ∧ wr.cell? ⟨w.heap.size + 1, 1, none⟩ = some (.int .i64 0) ∧ wr.cell? ⟨w.heap.size + 1, 2, none⟩ = some (.string ⟨#[]⟩) ∧ wr.cell? ⟨w.heap.size + 1, 3, none⟩ = some (.slice none 0 0) ∧ wr.cell? ⟨w.heap.size + 1, 4, none⟩ = some (.string ⟨#[]⟩) := by refine ⟨?_, ?_, ?_, ?_, ?_⟩ <;> (rw [cell_of_row _ _ _ _ _ _ hr2]; rfl)
      have f := row5 hr2
      have hlt2 := lt_of_heap H.out.2.2.2.2.2
      have hB := H.out.1.trans (hL.below.mono H.out.1.size)
      have HM := Lib.hid (And.intro hL (And.intro hB (And.intro htk H.out.2.2.2.1)))
      clear hL hB htk hr2 hr1
      go_wp2_with fail
      refine bodyPost_ret (v := .agg #[.int .i64 n, .int .i64 k, .string d, .slice ad tags.length cp, .string x]) (by simp [results, Try.results11, go_sem, z0, z1, z2, z3, z4]) rfl ?_
      exact ⟨ad, cp, by rw [HM.out.2.2.2], poAt_own (own_put5 HM.out.1.own (by omega) _ _ _ _ _), below_put5 HM.out.2.1 (by omega) _ _ _ _ _⟩
end Go.Proofs.Ytgoimggfpagojaa
