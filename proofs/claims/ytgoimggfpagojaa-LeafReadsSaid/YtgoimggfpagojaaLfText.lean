/- leaf.Text. -/
import Derived.Test.YtgoimggfpagojaaLfCk
import Derived.Test.YtgoimggfpagojaaItR
import Derived.Test.YtgoimggfpagojaaMC3
import Derived.Deep.RegionHeld
namespace Go.Proofs.Ytgoimggfpagojaa
open Go.RowKit
open Cn

theorem lfS_enc {l : Lf} (hb : lfB l = true) : c_encS (lfT l) = lfS l := by
  unfold c_encS lfS
  rw [if_pos ⟨lfT_may hb, Nat.le_trans (lfT_len hb) (by decide)⟩, if_pos hb]
theorem szP_po : ∀ l : List Po, szPAll (l.map poT) = l.length * 3
  | [] => rfl
  | p :: l => by rw [List.map_cons, szPAll, szP_po l, List.length_cons]; simp only [poT, lstT, txtT, numT, szP, szPAll]; omega
/-- The state of the loop that makes a leaf's tags: what a region of it holds. -/
structure TxS (T : TypeId) (w0 : World) (ps : List Pt) (l : List It) (a : Option Addr) (cap : Nat) (g : Nat) (c : Array Value) (t : TypeId) (W : World) : Prop where
  items : Mk T w0 ps l a cap W
  box : W.heap[g]? = some (.cells c t (0, 0))
theorem TxS.call {T : TypeId} {w0 W W' : World} {ps : List Pt} {l : List It} {a : Option Addr} {cap : Nat} {g : Nat} {c : Array Value} {t : TypeId} (h : TxS T w0 ps l a cap g c t W) (hb : Below W.heap.size W W') : TxS T w0 ps l a cap g c t W' :=
  ⟨h.items.call hb, (hb.block _ (lt_of_heap h.box)).trans h.box⟩
theorem TxS.cell {T : TypeId} {w0 W : World} {ps : List Pt} {l : List It} {a : Option Addr} {cap : Nat} {g : Nat} {c : Array Value} {t : TypeId} (h : TxS T w0 ps l a cap g c t W) (j : Nat) : W.cell? ⟨g, j, none⟩ = c[j]? := cell_of_row _ _ _ _ _ _ h.box
set_option maxRecDepth 100000 in
set_option maxHeartbeats 4000000 in
theorem text17_any (l : Lf) (a0 : Option Addr) (cap : Nat) (hl : l.tags.length ≤ 1000000000) (w : World) (hT : PoAt w a0 l.tags) :
    Calls Try.prog 12 #[.agg (lfCs l a0 cap)] w fun e w' => e = .returned (.string (lfS l)) ∧ Below w.heap.size w w' := by
  obtain ⟨w1, hw1⟩ : ∃ w1, w1 = w.alloc (.cells (lfCs l a0 cap) 24) := ⟨_, rfl⟩
  have hb1 : Below w.heap.size w w1 := by rw [hw1]; exact (Below.refl _ _).alloc (Nat.le_refl _) _
  have hg1 : w1.heap[w.heap.size]? = some (.cells (lfCs l a0 cap) 24 (0, 0)) := by rw [hw1]; exact heap_alloc_new _ _
  have hck := check17_any l a0 cap hl w1 (hT.below hb1)
  obtain ⟨B, hB⟩ : ∃ B, B = lfB l := ⟨_, rfl⟩
  obtain ⟨R, hR⟩ : ∃ R, R = lfS l := ⟨_, rfl⟩
  rw [← hB] at hck
  rw [← hR]
  obtain ⟨c0, c1, c2, c3, c4⟩ := lf_cell hg1
  have H := Lib.hid (And.intro hck (And.intro hb1 (And.intro hg1 (And.intro (hT.below hb1) (And.intro hB hR)))))
  clear hck hb1 hg1 hT hR hB
  obtain ⟨N, hN⟩ : ∃ N, N = l.tags.length := ⟨_, rfl⟩
  have HN := Lib.hid hN
  unfold lfCs at hw1 ⊢
  rw [← hN] at hl hw1 c3 ⊢
  clear hN
  go_enter Try.func12, Try.ntmps12
  go_wp2_with fail
  rw [← hw1]
  clear hw1
  have hagg : (Value.agg #[.int .i64 l.n, .int .i64 l.k, .string l.d, .slice a0 N cap, .string l.x]) = .agg (lfCs l a0 cap) := by rw [HN.out]; rfl
  cases B with
  | false =>
    have hRe : R = ⟨#[]⟩ := by rw [H.out.2.2.2.2.2]; unfold lfS; rw [← H.out.2.2.2.2.1]; rfl
    have HR := Lib.hid hRe
    have HA := Lib.hid hagg
    clear hRe hagg
    go_wp2_with fail
    rw [HA.out]
    refine H.out.1.mono ?_
    rintro e w2 ⟨rfl, hb⟩
    have HB := Lib.hid (H.out.2.1.trans (hb.mono H.out.2.1.size))
    clear hb
    go_wp2_with fail
    go_ret
    exact ⟨by rw [HR.out]; rfl, HB.out⟩
  | true =>
    have hok := H.out.2.2.2.2.1.symm
    have hRe : R = c_encS (lfT l) := by rw [H.out.2.2.2.2.2, lfS_enc hok]
    obtain ⟨h3, h4⟩ := lfB_iff.1 hok
    have h5 := headB_iff.1 h3
    have hN12 : N ≤ 12 := by rw [HN.out]; exact h5.2.2.2.2.1
    have HR := Lib.hid (And.intro hRe (And.intro h4 h5))
    have HA := Lib.hid hagg
    clear hRe hagg hok h3 h4 h5
    go_wp2_with fail
    rw [HA.out]
    refine H.out.1.mono ?_
    rintro e w2 ⟨rfl, hb⟩
    have hg2 := (hb.block _ (lt_of_heap H.out.2.2.1)).trans H.out.2.2.1
    have hb2 := H.out.2.1.trans (hb.mono H.out.2.1.size)
    have hP2 := H.out.2.2.2.1.below hb
    clear c0 c1 c2 c3 c4 hb
    obtain ⟨c0, c1, c2, c3, c4⟩ := lf_cell hg2
    rw [← HN.out] at c3
    have H2 := Lib.hid (And.intro hb2 (And.intro hg2 hP2))
    clear hb2 hg2 hP2
    go_wp2_with fail
    clear c0 c1 c2 c3 c4
    go_loopw [3, 5, 14] (fun v _ i wr => ∃ (j : Nat) (ls : List It) (ad : Option Addr) (cp : Nat), j ≤ N ∧ i = .int .i64 (j : Int) ∧ v = .slice ad j cp ∧ ls.length = j ∧ Mk 57 w2 ((l.tags.take j).map poT) ls ad cp wr) (fun _ _ i _ => N - (intOf i).toNat)
    case atStart => exact ⟨0, [], none, 0, by omega, rfl, rfl, rfl, Mk.start _ (Below.refl _ _)⟩
    case round =>
      obtain ⟨j, ls, ad, cp, hj, rfl, rfl, hlen, hM⟩ := hrel
      have hbe := hM.below
      by_cases hlt : j < N
      · have hjl : j < l.tags.length := by have := HN.out; omega
        obtain ⟨p, hp⟩ : ∃ p, l.tags[j]? = some p := ⟨_, List.getElem?_eq_getElem hjl⟩
        obtain ⟨b, off, rfl, hbl, q0, q1⟩ := H2.out.2.2.below hbe j p hp
        have m1 : ¬ b = wr.heap.size := by omega
        have m2 : ¬ wr.heap.size = b := by omega
        have hsn : (l.tags.take (j + 1)).map poT = (l.tags.take j).map poT ++ [poT p] := by rw [List.take_add_one, hp, List.map_append]; rfl
        obtain ⟨w3, hw3⟩ : ∃ w3, w3 = wr.alloc (.cells #[.string p.tag, .int .i64 p.prev] 50) := ⟨_, rfl⟩
        have hb3 : Below wr.heap.size wr w3 := by rw [hw3]; exact (Below.refl _ _).alloc (Nat.le_refl _) _
        have E3 : TxS 57 w2 ((l.tags.take j).map poT) ls ad cp wr.heap.size #[.string p.tag, .int .i64 p.prev] 50 w3 := ⟨hM.call hb3, by rw [hw3]; exact heap_alloc_new _ _⟩
        have hpt : p.tag.size ≤ maxLen := by have := (HR.out.2.1.po (List.mem_of_getElem? hp)).1; unfold maxLen; omega
        have HM := Lib.hid (And.intro E3 (And.intro hsn (And.intro hlen (And.intro hpt (show True ∧ ∀ g, (Value.slice ad ls.length cp).ownBlock = some g → g < wr.heap.size from ⟨trivial, fun g hg => (hM.own.lt g hg).2⟩)))))
        clear hM hbe hsn hb3 E3 hlen hpt
        go_wp2_with fail
        clear q0 q1
        rw [← hw3]
        clear hw3
        go_wp2_with fail
        refine wp_region_held (S := fun W : World => W.heap[wr.heap.size]? = some (.cells #[.string p.tag, .int .i64 p.prev] 50 (0, 0))) (by kernel_rfl) ?_
        change wpAnyH _ _ _ _ _ _ _ _ (World.drew _)
        generalize hv0 : World.drew _ = v0
        have E0 : v0.heap[wr.heap.size]? = some (.cells #[.string p.tag, .int .i64 p.prev] 50 (0, 0)) := by rw [← hv0]; exact (show w3.drew.heap[wr.heap.size]? = some (.cells #[.string p.tag, .int .i64 p.prev] 50 (0, 0)) from HM.out.1.box)
        have F0 : Below w3.heap.size w3 v0 := by rw [← hv0]; exact ((Below.refl _ _).drew)
        clear hv0
        refine wpAnyH_take (i := 0) (v := ?_) rfl (by kernel_rfl) (by kernel_rfl) (by kernel_rfl) (fun _ _ _ h => h) (Or.inl ⟨by kernel_rfl, ?_⟩) E0 ?_
        rotate_left
        · (intro W hS; have k0 : W.cell? ⟨wr.heap.size, 0, none⟩ = some (.string p.tag) := cell_of_row _ _ _ _ _ _ hS; have k1 : W.cell? ⟨wr.heap.size, 1, none⟩ = some (.int .i64 p.prev) := cell_of_row _ _ _ _ _ _ hS; clear hS; go_simp; try (with_reducible rfl))
        refine wpAnyH_take (i := 1) (v := ?_) rfl (by kernel_rfl) (by kernel_rfl) (by kernel_rfl) (fun _ _ _ h => h) (Or.inl ⟨by kernel_rfl, ?_⟩) E0 ?_
        rotate_left
        · (intro W hS; have k0 : W.cell? ⟨wr.heap.size, 0, none⟩ = some (.string p.tag) := cell_of_row _ _ _ _ _ _ hS; have k1 : W.cell? ⟨wr.heap.size, 1, none⟩ = some (.int .i64 p.prev) := cell_of_row _ _ _ _ _ _ hS; clear hS; go_simp; try (with_reducible rfl))
        refine wpAnyH_take (i := 2) (v := ?_) rfl (by kernel_rfl) (by kernel_rfl) (by kernel_rfl) (fun _ _ _ h => h) (Or.inl ⟨by kernel_rfl, ?_⟩) E0 ?_
        rotate_left
        · (intro W hS; have k0 : W.cell? ⟨wr.heap.size, 0, none⟩ = some (.string p.tag) := cell_of_row _ _ _ _ _ _ hS; have k1 : W.cell? ⟨wr.heap.size, 1, none⟩ = some (.int .i64 p.prev) := cell_of_row _ _ _ _ _ _ hS; clear hS; go_simp; try (with_reducible rfl))
        refine wpAnyH_take (i := 4) (v := ?_) rfl (by kernel_rfl) (by kernel_rfl) (by kernel_rfl) (fun _ _ _ h => h) (Or.inl ⟨by kernel_rfl, ?_⟩) E0 ?_
        rotate_left
        · (intro W hS; have k0 : W.cell? ⟨wr.heap.size, 0, none⟩ = some (.string p.tag) := cell_of_row _ _ _ _ _ _ hS; have k1 : W.cell? ⟨wr.heap.size, 1, none⟩ = some (.int .i64 p.prev) := cell_of_row _ _ _ _ _ _ hS; clear hS; go_simp; try (with_reducible rfl))
        refine wpAnyH_take (i := 5) (v := ?_) rfl (by kernel_rfl) (by kernel_rfl) (by kernel_rfl) (fun _ _ _ h => h) (Or.inl ⟨by kernel_rfl, ?_⟩) E0 ?_
        rotate_left
        · (intro W hS; have k0 : W.cell? ⟨wr.heap.size, 0, none⟩ = some (.string p.tag) := cell_of_row _ _ _ _ _ _ hS; have k1 : W.cell? ⟨wr.heap.size, 1, none⟩ = some (.int .i64 p.prev) := cell_of_row _ _ _ _ _ _ hS; clear hS; go_simp; try (with_reducible rfl))
        refine wpAnyH_ready (rs := [3]) (by kernel_rfl) (by simp) ?_
        refine AllReadyH.cons rfl (fun K hK => ?_) AllReadyH.nil
        go_simp
        refine (text_any p.tag v0).mono ?_
        rintro e v1 ⟨rfl, hb⟩
        have F1 := F0.trans (hb.mono F0.size)
        have E1 : v1.heap[wr.heap.size]? = some (.cells #[.string p.tag, .int .i64 p.prev] 50 (0, 0)) := (hb.block _ (lt_of_heap E0)).trans E0
        refine hK.out _ _ E1 (fun _ => ?_)
        clear hK K hb
        refine wpAnyH_ready (rs := [6]) (by kernel_rfl) (by simp) ?_
        refine AllReadyH.cons rfl (fun K hK => ?_) AllReadyH.nil
        go_simp
        refine (num_any p.prev v1).mono ?_
        rintro e v2 ⟨rfl, hb⟩
        have F2 := F1.trans (hb.mono F1.size)
        have E2 : v2.heap[wr.heap.size]? = some (.cells #[.string p.tag, .int .i64 p.prev] 50 (0, 0)) := (hb.block _ (lt_of_heap E1)).trans E1
        refine hK.out _ _ E2 (fun _ => ?_)
        clear hK K hb
        obtain ⟨v3, hv⟩ : ∃ v, v = v2.alloc (.cells #[.int .i64 2, .int .i64 0, .string p.tag, .slice none 0 0, .int .i64 1, .int .i64 p.prev, .string ⟨#[]⟩, .slice none 0 0] 57) := ⟨_, rfl⟩
        have hb : Below v2.heap.size v2 v3 := by rw [hv]; exact (Below.refl _ _).alloc (Nat.le_refl _) _
        have g3 : v3.heap[v2.heap.size]? = some (.cells #[.int .i64 2, .int .i64 0, .string p.tag, .slice none 0 0, .int .i64 1, .int .i64 p.prev, .string ⟨#[]⟩, .slice none 0 0] 57 (0, 0)) := by rw [hv]; exact heap_alloc_new _ _
        have F3 := F2.trans (hb.mono F2.size)
        have E3 : v3.heap[wr.heap.size]? = some (.cells #[.string p.tag, .int .i64 p.prev] 50 (0, 0)) := (hb.block _ (lt_of_heap E2)).trans E2
        refine wpAnyH_ready (rs := [7]) (by kernel_rfl) (by simp) ?_
        refine AllReadyH.cons rfl (fun K hK => ?_) AllReadyH.nil
        go_simp
        rw [← hv]
        clear hv
        refine hK.out _ _ E3 (fun _ => ?_)
        clear hK K hb
        have hli := list_any (fun _ => True) [Fl.T p.tag, Fl.N p.prev] (some ⟨v2.heap.size, 0, none⟩) 2 v3 (lies_flat _ _ g3 rfl trivial (by simp)) ⟨Fl.inT HM.out.2.2.2.1, Fl.inN _, trivial⟩ (Nat.le_trans (Nat.le_of_eq (show It.szAll [Fl.T p.tag, Fl.N p.prev] = 2 from rfl)) (by decide))
        refine wpAnyH_ready (rs := [8]) (by kernel_rfl) (by simp) ?_
        refine AllReadyH.cons rfl (fun K hK => ?_) AllReadyH.nil
        go_simp
        refine (hli).mono ?_
        rintro e v4 ⟨y, rfl, hyp, hyi, hb⟩
        have F4 := F3.trans (hb.mono F3.size)
        have E4 : v4.heap[wr.heap.size]? = some (.cells #[.string p.tag, .int .i64 p.prev] 50 (0, 0)) := (hb.block _ (lt_of_heap E3)).trans E3
        have hyi := hyi
        refine hK.out _ _ E4 (fun _ => ?_)
        clear hK K hb
        obtain ⟨yk, yn, ys, ya, yc, yl⟩ := y
        simp only [It.val, It.cells, It.k, It.n, It.s, It.a, It.cap, It.l]
        obtain ⟨v5, hv⟩ : ∃ v, v = v4.alloc (.cells (It.cells (.mk yk yn ys ya yc yl)) 57) := ⟨_, rfl⟩
        have hb : Below v4.heap.size v4 v5 := by rw [hv]; exact (Below.refl _ _).alloc (Nat.le_refl _) _
        have g5 : v5.heap[v4.heap.size]? = some (.cells (It.cells (.mk yk yn ys ya yc yl)) 57 (0, 0)) := by rw [hv]; exact heap_alloc_new _ _
        have F5 := F4.trans (hb.mono F4.size)
        have E5 : v5.heap[wr.heap.size]? = some (.cells #[.string p.tag, .int .i64 p.prev] 50 (0, 0)) := (hb.block _ (lt_of_heap E4)).trans E4
        simp only [It.cells, It.k, It.n, It.s, It.a, It.cap, It.l] at hv
        refine wpAnyH_ready (rs := [9]) (by kernel_rfl) (by simp) ?_
        refine AllReadyH.cons rfl (fun K hK => ?_) AllReadyH.nil
        go_simp
        rw [← hv]
        clear hv
        have hyi5 := It.In.kept (keptS_any hb) _ hyi
        refine hK.out _ _ E5 (fun _ => ?_)
        clear hK K hb
        have M5 := HM.out.1.items.call F5
        refine wpAnyH_ready (rs := [10]) (by kernel_rfl) (by simp) ?_
        refine AllReadyH.cons rfl (fun K hK => ?_) AllReadyH.nil
        refine step_append_r rfl (.tmp 18) (.tmp 27) 55 rfl item_rec it_one it_size (M5.own) _ (HM.out.2.2.1) (by kernel_rfl) _ 1 (.mk yk yn ys ya yc yl : It) (by kernel_rfl) g5 (by omega) M5.below.size M5.below ?_
        intro q6 cp6 v6 ho hB6 hgr hat
        have hlo : ∀ g, (Value.slice ad ls.length cp).ownBlock = some g → g < w3.heap.size := fun g hg => (HM.out.1.items.own.lt g hg).2
        have hz3 := HM.out.1.items.below.size
        have hz4 := F3.size
        have hnx := M5.next (y := .mk yk yn ys ya yc yl) (p := poT p) (It.In.weak hyi5 (fun b _ hb => ⟨by omega, fun e => by have := hlo b e; omega⟩)) hyp ho (by rw [HM.out.2.2.1]; exact hgr) (by rw [HM.out.2.2.1]; exact hat)
        have M6 : Mk 57 w2 ((l.tags.take (j + 1)).map poT) (ls ++ [.mk yk yn ys ya yc yl]) (some ⟨q6, 0, none⟩) cp6 v6 := by rw [HM.out.2.1]; exact hnx
        have E6 : v6.heap[wr.heap.size]? = some (.cells #[.string p.tag, .int .i64 p.prev] 50 (0, 0)) := (hgr.block _ (lt_of_heap E5) (fun e => by have := HM.out.2.2.2.2.2 wr.heap.size (by rw [HM.out.2.2.1]; exact e.symm); omega)).trans E5
        refine hK.out _ _ E6 (fun _ => ?_)
        clear hK K ho hgr hat
        refine wpAnyH_take (i := 11) (v := ?_) rfl (by kernel_rfl) (by kernel_rfl) (by kernel_rfl) (fun _ _ _ h => h) (Or.inl ⟨by kernel_rfl, ?_⟩) E6 ?_
        rotate_left
        · (intro W hS; go_simp; try (with_reducible rfl))
        refine wpAnyH_done (by kernel_rfl) ?_ _
        go_simp
        have HB := Lib.hid (And.intro M6 (show (ls ++ [(.mk yk yn ys ya yc yl : It)]).length = j + 1 by rw [List.length_append, HM.out.2.2.1]; rfl))
        clear E0 E1 E2 E3 E4 E5 E6 F0 F1 F2 F3 F4 F5 M5 M6
        go_wp2_with fail
        go_roundw
        case rel => exact ⟨j + 1, _, _, _, by omega, by go_num, rfl, HB.out.2, HB.out.1⟩
        case measure => simp [intOf]; omega
      · obtain rfl : j = N := by omega
        have htk : (l.tags.take j).map poT = l.tags.map poT := by rw [List.take_of_length_le (by have := HN.out; omega)]
        rw [htk] at hM
        have hb2 := H2.out.1
        have hr2 := (hM.below.block _ (lt_of_heap H2.out.2.1)).trans H2.out.2.1
        have E3 : TxS 57 w2 (l.tags.map poT) ls ad cp w.heap.size (lfCs l a0 cap) 24 wr := ⟨hM, hr2⟩
        have hF := hb2.trans (hM.below.mono hb2.size)
        have HM := Lib.hid (And.intro E3 (And.intro hlen hF))
        clear hM hb2 hr2 E3 hlen hF htk
        go_wp2_with fail
        refine wp_region_held (S := fun W : World => TxS 57 w2 (l.tags.map poT) ls ad cp w.heap.size (lfCs l a0 cap) 24 W) (by kernel_rfl) ?_
        change wpAnyH _ _ _ _ _ _ _ _ (World.drew _)
        generalize hv0 : World.drew _ = v0
        have E0 : TxS 57 w2 (l.tags.map poT) ls ad cp w.heap.size (lfCs l a0 cap) 24 v0 := by rw [← hv0]; exact (show TxS _ _ _ _ _ _ _ _ _ wr.drew from HM.out.1.call ((Below.refl _ _).drew))
        have F0 : Below w.heap.size w v0 := by rw [← hv0]; exact HM.out.2.2.drew
        clear hv0
        refine wpAnyH_take (i := 0) (v := ?_) rfl (by kernel_rfl) (by kernel_rfl) (by kernel_rfl) (fun _ _ _ h => h) (Or.inl ⟨by kernel_rfl, ?_⟩) E0 ?_
        rotate_left
        · (intro W hS; have k0 := hS.cell 0; have k1 := hS.cell 1; have k2 := hS.cell 2; have k3 := hS.cell 3; have k4 := hS.cell 4; simp only [lfCs, List.getElem?_toArray, List.getElem?_cons_zero, List.getElem?_cons_succ] at k0 k1 k2 k3 k4; go_simp; try (with_reducible rfl))
        refine wpAnyH_take (i := 1) (v := ?_) rfl (by kernel_rfl) (by kernel_rfl) (by kernel_rfl) (fun _ _ _ h => h) (Or.inl ⟨by kernel_rfl, ?_⟩) E0 ?_
        rotate_left
        · (intro W hS; have k0 := hS.cell 0; have k1 := hS.cell 1; have k2 := hS.cell 2; have k3 := hS.cell 3; have k4 := hS.cell 4; simp only [lfCs, List.getElem?_toArray, List.getElem?_cons_zero, List.getElem?_cons_succ] at k0 k1 k2 k3 k4; go_simp; try (with_reducible rfl))
        refine wpAnyH_take (i := 3) (v := ?_) rfl (by kernel_rfl) (by kernel_rfl) (by kernel_rfl) (fun _ _ _ h => h) (Or.inl ⟨by kernel_rfl, ?_⟩) E0 ?_
        rotate_left
        · (intro W hS; have k0 := hS.cell 0; have k1 := hS.cell 1; have k2 := hS.cell 2; have k3 := hS.cell 3; have k4 := hS.cell 4; simp only [lfCs, List.getElem?_toArray, List.getElem?_cons_zero, List.getElem?_cons_succ] at k0 k1 k2 k3 k4; go_simp; try (with_reducible rfl))
        refine wpAnyH_take (i := 4) (v := ?_) rfl (by kernel_rfl) (by kernel_rfl) (by kernel_rfl) (fun _ _ _ h => h) (Or.inl ⟨by kernel_rfl, ?_⟩) E0 ?_
        rotate_left
        · (intro W hS; have k0 := hS.cell 0; have k1 := hS.cell 1; have k2 := hS.cell 2; have k3 := hS.cell 3; have k4 := hS.cell 4; simp only [lfCs, List.getElem?_toArray, List.getElem?_cons_zero, List.getElem?_cons_succ] at k0 k1 k2 k3 k4; go_simp; try (with_reducible rfl))
        refine wpAnyH_take (i := 6) (v := ?_) rfl (by kernel_rfl) (by kernel_rfl) (by kernel_rfl) (fun _ _ _ h => h) (Or.inl ⟨by kernel_rfl, ?_⟩) E0 ?_
        rotate_left
        · (intro W hS; have k0 := hS.cell 0; have k1 := hS.cell 1; have k2 := hS.cell 2; have k3 := hS.cell 3; have k4 := hS.cell 4; simp only [lfCs, List.getElem?_toArray, List.getElem?_cons_zero, List.getElem?_cons_succ] at k0 k1 k2 k3 k4; go_simp; try (with_reducible rfl))
        refine wpAnyH_take (i := 7) (v := ?_) rfl (by kernel_rfl) (by kernel_rfl) (by kernel_rfl) (fun _ _ _ h => h) (Or.inl ⟨by kernel_rfl, ?_⟩) E0 ?_
        rotate_left
        · (intro W hS; have k0 := hS.cell 0; have k1 := hS.cell 1; have k2 := hS.cell 2; have k3 := hS.cell 3; have k4 := hS.cell 4; simp only [lfCs, List.getElem?_toArray, List.getElem?_cons_zero, List.getElem?_cons_succ] at k0 k1 k2 k3 k4; go_simp; try (with_reducible rfl))
        refine wpAnyH_take (i := 9) (v := ?_) rfl (by kernel_rfl) (by kernel_rfl) (by kernel_rfl) (fun _ _ _ h => h) (Or.inl ⟨by kernel_rfl, ?_⟩) E0 ?_
        rotate_left
        · (intro W hS; have k0 := hS.cell 0; have k1 := hS.cell 1; have k2 := hS.cell 2; have k3 := hS.cell 3; have k4 := hS.cell 4; simp only [lfCs, List.getElem?_toArray, List.getElem?_cons_zero, List.getElem?_cons_succ] at k0 k1 k2 k3 k4; go_simp; try (with_reducible rfl))
        refine wpAnyH_take (i := 11) (v := ?_) rfl (by kernel_rfl) (by kernel_rfl) (by kernel_rfl) (fun _ _ _ h => h) (Or.inl ⟨by kernel_rfl, ?_⟩) E0 ?_
        rotate_left
        · (intro W hS; have k0 := hS.cell 0; have k1 := hS.cell 1; have k2 := hS.cell 2; have k3 := hS.cell 3; have k4 := hS.cell 4; simp only [lfCs, List.getElem?_toArray, List.getElem?_cons_zero, List.getElem?_cons_succ] at k0 k1 k2 k3 k4; go_simp; try (with_reducible rfl))
        refine wpAnyH_take (i := 12) (v := ?_) rfl (by kernel_rfl) (by kernel_rfl) (by kernel_rfl) (fun _ _ _ h => h) (Or.inl ⟨by kernel_rfl, ?_⟩) E0 ?_
        rotate_left
        · (intro W hS; have k0 := hS.cell 0; have k1 := hS.cell 1; have k2 := hS.cell 2; have k3 := hS.cell 3; have k4 := hS.cell 4; simp only [lfCs, List.getElem?_toArray, List.getElem?_cons_zero, List.getElem?_cons_succ] at k0 k1 k2 k3 k4; go_simp; try (with_reducible rfl))
        refine wpAnyH_ready (rs := [2]) (by kernel_rfl) (by simp) ?_
        refine AllReadyH.cons rfl (fun K hK => ?_) AllReadyH.nil
        go_simp
        refine (num_any l.n v0).mono ?_
        rintro e v1 ⟨rfl, hb⟩
        have F1 := F0.trans (hb.mono F0.size)
        have E1 : TxS 57 w2 (l.tags.map poT) ls ad cp w.heap.size (lfCs l a0 cap) 24 v1 := E0.call hb
        refine hK.out _ _ E1 (fun _ => ?_)
        clear hK K hb
        refine wpAnyH_ready (rs := [5]) (by kernel_rfl) (by simp) ?_
        refine AllReadyH.cons rfl (fun K hK => ?_) AllReadyH.nil
        go_simp
        refine (num_any l.k v1).mono ?_
        rintro e v2 ⟨rfl, hb⟩
        have F2 := F1.trans (hb.mono F1.size)
        have E2 : TxS 57 w2 (l.tags.map poT) ls ad cp w.heap.size (lfCs l a0 cap) 24 v2 := E1.call hb
        refine hK.out _ _ E2 (fun _ => ?_)
        clear hK K hb
        refine wpAnyH_ready (rs := [8]) (by kernel_rfl) (by simp) ?_
        refine AllReadyH.cons rfl (fun K hK => ?_) AllReadyH.nil
        go_simp
        refine (text_any l.d v2).mono ?_
        rintro e v3 ⟨rfl, hb⟩
        have F3 := F2.trans (hb.mono F2.size)
        have E3 : TxS 57 w2 (l.tags.map poT) ls ad cp w.heap.size (lfCs l a0 cap) 24 v3 := E2.call hb
        refine hK.out _ _ E3 (fun _ => ?_)
        clear hK K hb
        have hl3 := E3.items.lies (by have := HN.out; rw [List.length_map]; omega)
        have hli := list_any _ ls ad cp v3 hl3.1 hl3.2 (by rw [szAll_pure, E3.items.pure, szP_po]; have := HN.out; omega)
        rw [HM.out.2.1] at hli
        refine wpAnyH_ready (rs := [10]) (by kernel_rfl) (by simp) ?_
        refine AllReadyH.cons rfl (fun K hK => ?_) AllReadyH.nil
        go_simp
        refine (hli).mono ?_
        rintro e v4 ⟨y, rfl, hyp, hyi, hb⟩
        have F4 := F3.trans (hb.mono F3.size)
        have E4 : TxS 57 w2 (l.tags.map poT) ls ad cp w.heap.size (lfCs l a0 cap) 24 v4 := E3.call hb
        have hyi := hyi
        refine hK.out _ _ E4 (fun _ => ?_)
        clear hK K hb
        obtain ⟨yk, yn, ys, ya, yc, yl⟩ := y
        simp only [It.val, It.cells, It.k, It.n, It.s, It.a, It.cap, It.l]
        refine wpAnyH_ready (rs := [13]) (by kernel_rfl) (by simp) ?_
        refine AllReadyH.cons rfl (fun K hK => ?_) AllReadyH.nil
        go_simp
        refine (text_any l.x v4).mono ?_
        rintro e v5 ⟨rfl, hb⟩
        have F5 := F4.trans (hb.mono F4.size)
        have E5 : TxS 57 w2 (l.tags.map poT) ls ad cp w.heap.size (lfCs l a0 cap) 24 v5 := E4.call hb
        have hyi5 := It.In.kept (keptS_any hb) _ hyi
        refine hK.out _ _ E5 (fun _ => ?_)
        clear hK K hb
        obtain ⟨v6, hv⟩ : ∃ v, v = v5.alloc (.cells (flat [Fl.N l.n, Fl.N l.k, Fl.T l.d, .mk yk yn ys ya yc yl, Fl.T l.x]).toArray 57) := ⟨_, rfl⟩
        have hb : Below v5.heap.size v5 v6 := by rw [hv]; exact (Below.refl _ _).alloc (Nat.le_refl _) _
        have g6 : v6.heap[v5.heap.size]? = some (.cells (flat [Fl.N l.n, Fl.N l.k, Fl.T l.d, .mk yk yn ys ya yc yl, Fl.T l.x]).toArray 57 (0, 0)) := by rw [hv]; exact heap_alloc_new _ _
        have F6 := F5.trans (hb.mono F5.size)
        have E6 : TxS 57 w2 (l.tags.map poT) ls ad cp w.heap.size (lfCs l a0 cap) 24 v6 := E5.call hb
        simp only [flat, Fl.N, Fl.T, It.cells, It.k, It.n, It.s, It.a, It.cap, It.l, List.cons_append, List.nil_append, List.length_nil] at hv
        refine wpAnyH_ready (rs := [14]) (by kernel_rfl) (by simp) ?_
        refine AllReadyH.cons rfl (fun K hK => ?_) AllReadyH.nil
        go_simp
        rw [← hv]
        clear hv
        have hyi6 := It.In.kept (keptS_any hb) _ hyi5
        refine hK.out _ _ E6 (fun _ => ?_)
        clear hK K hb
        have hpu : It.pureAll [Fl.N l.n, Fl.N l.k, Fl.T l.d, .mk yk yn ys ya yc yl, Fl.T l.x] = [numT l.n, numT l.k, txtT l.d, lstT (l.tags.map poT), txtT l.x] := by
          have e : It.pure (.mk yk yn ys ya yc yl) = lstT (l.tags.map poT) := by rw [hyp, E6.items.pure]; rfl
          simp only [It.pureAll, e]; rfl
        have hsz : It.szAll [Fl.N l.n, Fl.N l.k, Fl.T l.d, .mk yk yn ys ya yc yl, Fl.T l.x] ≤ 1000000 := by
          rw [szAll_pure, hpu]; simp only [szPAll, numT, txtT, lstT, szP, szP_po]; have := HN.out; omega
        have hd5 : l.d.size ≤ maxLen ∧ l.x.size ≤ maxLen := by have := HR.out.2.2; unfold maxLen; omega
        have hli2 := list_any (fun _ => True) [Fl.N l.n, Fl.N l.k, Fl.T l.d, .mk yk yn ys ya yc yl, Fl.T l.x] (some ⟨v5.heap.size, 0, none⟩) 5 v6 (lies_flat _ _ g6 rfl trivial (by simp)) ⟨Fl.inN _, Fl.inN _, Fl.inT hd5.1, It.In.weak hyi6 (fun _ _ _ => trivial), Fl.inT hd5.2, trivial⟩ hsz
        refine wpAnyH_ready (rs := [15]) (by kernel_rfl) (by simp) ?_
        refine AllReadyH.cons rfl (fun K hK => ?_) AllReadyH.nil
        go_simp
        refine (hli2).mono ?_
        rintro e v7 ⟨z, rfl, hzp, hzi, hb⟩
        have F7 := F6.trans (hb.mono F6.size)
        have E7 : TxS 57 w2 (l.tags.map poT) ls ad cp w.heap.size (lfCs l a0 cap) 24 v7 := E6.call hb
        have hzi := hzi
        refine hK.out _ _ E7 (fun _ => ?_)
        clear hK K hb
        have hen := encode_any _ z v7 hzi
        rw [hzp, hpu, show (Pt.mk 3 0 ⟨#[]⟩ [numT l.n, numT l.k, txtT l.d, lstT (l.tags.map poT), txtT l.x]) = lfT l from rfl, ← HR.out.1] at hen
        refine wpAnyH_ready (rs := [16]) (by kernel_rfl) (by simp) ?_
        refine AllReadyH.cons rfl (fun K hK => ?_) AllReadyH.nil
        go_simp
        refine (hen).mono ?_
        rintro e v8 ⟨rfl, hb⟩
        have F8 := F7.trans (hb.mono F7.size)
        have E8 : TxS 57 w2 (l.tags.map poT) ls ad cp w.heap.size (lfCs l a0 cap) 24 v8 := E7.call hb
        refine hK.out _ _ E8 (fun _ => ?_)
        clear hK K hb
        refine wpAnyH_take (i := 17) (v := ?_) rfl (by kernel_rfl) (by kernel_rfl) (by kernel_rfl) (fun _ _ _ h => h) (Or.inl ⟨by kernel_rfl, ?_⟩) E8 ?_
        rotate_left
        · (intro W hS; have k0 := hS.cell 0; have k1 := hS.cell 1; have k2 := hS.cell 2; have k3 := hS.cell 3; have k4 := hS.cell 4; simp only [lfCs, List.getElem?_toArray, List.getElem?_cons_zero, List.getElem?_cons_succ] at k0 k1 k2 k3 k4; go_simp; try (with_reducible rfl))
        refine wpAnyH_take (i := 18) (v := ?_) rfl (by kernel_rfl) (by kernel_rfl) (by kernel_rfl) (fun _ _ _ h => h) (Or.inl ⟨by kernel_rfl, ?_⟩) E8 ?_
        rotate_left
        · (intro W hS; have k0 := hS.cell 0; have k1 := hS.cell 1; have k2 := hS.cell 2; have k3 := hS.cell 3; have k4 := hS.cell 4; simp only [lfCs, List.getElem?_toArray, List.getElem?_cons_zero, List.getElem?_cons_succ] at k0 k1 k2 k3 k4; go_simp; try (with_reducible rfl))
        refine wpAnyH_take (i := 19) (v := ?_) rfl (by kernel_rfl) (by kernel_rfl) (by kernel_rfl) (fun _ _ _ h => h) (Or.inl ⟨by kernel_rfl, ?_⟩) E8 ?_
        rotate_left
        · (intro W hS; have k0 := hS.cell 0; have k1 := hS.cell 1; have k2 := hS.cell 2; have k3 := hS.cell 3; have k4 := hS.cell 4; simp only [lfCs, List.getElem?_toArray, List.getElem?_cons_zero, List.getElem?_cons_succ] at k0 k1 k2 k3 k4; go_simp; try (with_reducible rfl))
        refine wpAnyH_take (i := 20) (v := ?_) rfl (by kernel_rfl) (by kernel_rfl) (by kernel_rfl) (fun _ _ _ h => h) (Or.inl ⟨by kernel_rfl, ?_⟩) E8 ?_
        rotate_left
        · (intro W hS; have k0 := hS.cell 0; have k1 := hS.cell 1; have k2 := hS.cell 2; have k3 := hS.cell 3; have k4 := hS.cell 4; simp only [lfCs, List.getElem?_toArray, List.getElem?_cons_zero, List.getElem?_cons_succ] at k0 k1 k2 k3 k4; go_simp; try (with_reducible rfl))
        refine wpAnyH_take (i := 21) (v := ?_) rfl (by kernel_rfl) (by kernel_rfl) (by kernel_rfl) (fun _ _ _ h => h) (Or.inl ⟨by kernel_rfl, ?_⟩) E8 ?_
        rotate_left
        · (intro W hS; have k0 := hS.cell 0; have k1 := hS.cell 1; have k2 := hS.cell 2; have k3 := hS.cell 3; have k4 := hS.cell 4; simp only [lfCs, List.getElem?_toArray, List.getElem?_cons_zero, List.getElem?_cons_succ] at k0 k1 k2 k3 k4; go_simp; try (with_reducible rfl))
        refine wpAnyH_done (by kernel_rfl) ?_ _
        go_simp
        have HB := Lib.hid F8
        clear E0 F0 E1 F1 E2 F2 E3 F3 E4 F4 E5 F5 E6 F6 E7 F7 E8 F8
        go_wp2_with fail
        go_ret
        exact ⟨rfl, HB.out⟩
end Go.Proofs.Ytgoimggfpagojaa
