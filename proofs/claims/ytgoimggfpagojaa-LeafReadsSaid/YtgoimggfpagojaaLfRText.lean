/- lockboxref17.num, text, list, Text. -/
import Derived.Test.YtgoimggfpagojaaLfLaw
import Derived.Test.YtgoimggfpagojaaLfText
import Derived.Test.YtgoimggfpagojaaCRefWrite
namespace Go.Proofs.Ytgoimggfpagojaa
open Go.RowKit
open Cn

set_option maxRecDepth 100000 in
theorem rnum17_any (n : Int) (w : World) : Calls Try.prog 29 #[.int .i64 n] w fun e w' => e = .returned (.agg #[.int .i64 1, .int .i64 n, .string ⟨#[]⟩, .slice none 0 0]) ∧ Below w.heap.size w w' := by
  go_enter Try.func29, Try.ntmps29
  go_wp2_with fail
  exact bodyPost_ret (v := .agg #[.int .i64 1, .int .i64 n, .string ⟨#[]⟩, .slice none 0 0]) (by simp [results, Try.results29, go_sem]) rfl ⟨rfl, (Below.refl _ _).alloc (Nat.le_refl _) _⟩
set_option maxRecDepth 100000 in
theorem rtext17_any (s : ByteArray) (w : World) : Calls Try.prog 28 #[.string s] w fun e w' => e = .returned (.agg #[.int .i64 2, .int .i64 0, .string s, .slice none 0 0]) ∧ Below w.heap.size w w' := by
  go_enter Try.func28, Try.ntmps28
  go_wp2_with fail
  exact bodyPost_ret (v := .agg #[.int .i64 2, .int .i64 0, .string s, .slice none 0 0]) (by simp [results, Try.results28, go_sem]) rfl ⟨rfl, (Below.refl _ _).alloc (Nat.le_refl _) _⟩
set_option maxRecDepth 100000 in
theorem rlist17_any (a : Option Addr) (n c : Nat) (w : World) : Calls Try.prog 27 #[.slice a n c] w fun e w' => e = .returned (.agg #[.int .i64 3, .int .i64 0, .string ⟨#[]⟩, .slice a n c]) ∧ Below w.heap.size w w' := by
  go_enter Try.func27, Try.ntmps27
  go_wp2_with fail
  exact bodyPost_ret (v := .agg #[.int .i64 3, .int .i64 0, .string ⟨#[]⟩, .slice a n c]) (by simp [results, Try.results27, go_sem]) rfl ⟨rfl, (Below.refl _ _).alloc (Nat.le_refl _) _⟩
set_option maxRecDepth 100000 in
set_option maxHeartbeats 4000000 in
theorem rtextL_any (l : Lf) (a0 : Option Addr) (cap : Nat) (hl : l.tags.length ≤ 1000000) (w : World) (hT : PoAt w a0 l.tags) :
    Calls Try.prog 13 #[.agg (lfCs l a0 cap)] w fun e w' => e = .returned (.string (lfS l)) ∧ Below w.heap.size w w' := by
  obtain ⟨w1, hw1⟩ : ∃ w1, w1 = w.alloc (.cells (lfCs l a0 cap) 30) := ⟨_, rfl⟩
  have hb1 : Below w.heap.size w w1 := by rw [hw1]; exact (Below.refl _ _).alloc (Nat.le_refl _) _
  have hg1 : w1.heap[w.heap.size]? = some (.cells (lfCs l a0 cap) 30 (0, 0)) := by rw [hw1]; exact heap_alloc_new _ _
  have hck := rcheck17_any l a0 cap hl w1 (hT.below hb1)
  obtain ⟨B, hB⟩ : ∃ B, B = lfB l := ⟨_, rfl⟩
  obtain ⟨R, hR⟩ : ∃ R, R = lfS l := ⟨_, rfl⟩
  rw [← hB] at hck
  rw [← hR]
  obtain ⟨c0, c1, c2, c3, c4⟩ := lf_cell hg1
  have H := Lib.hid (And.intro hck (And.intro hb1 (And.intro hg1 (And.intro (hT.below hb1) (And.intro hB hR)))))
  clear hck hb1 hg1 hT hR hB
  obtain ⟨N, hN⟩ : ∃ N, N = l.tags.length := ⟨_, rfl⟩
  have HN := Lib.hid hN
  unfold lfCs at hw1 ⊢
  rw [← hN] at hl hw1 c3 ⊢
  clear hN
  go_enter Try.func13, Try.ntmps13
  go_upto_region 2 with fail
  rw [← hw1]
  clear hw1
  have hagg : (Value.agg #[.int .i64 l.n, .int .i64 l.k, .string l.d, .slice a0 N cap, .string l.x]) = .agg (lfCs l a0 cap) := by rw [HN.out]; rfl
  cases B with
  | false =>
    have hRe : R = ⟨#[]⟩ := by rw [H.out.2.2.2.2.2]; unfold lfS; rw [← H.out.2.2.2.2.1]; rfl
    have HR := Lib.hid hRe
    have HA := Lib.hid hagg
    clear hRe hagg
    go_wp2_with fail
    rw [HA.out]
    refine H.out.1.mono ?_
    rintro e w2 ⟨rfl, hb⟩
    have HB := Lib.hid (H.out.2.1.trans (hb.mono H.out.2.1.size))
    clear hb
    go_wp2_with fail
    go_ret
    exact ⟨by rw [HR.out]; rfl, HB.out⟩
  | true =>
    have hok := H.out.2.2.2.2.1.symm
    have hRe : R = str (Cn.bytes (lfT l)) := by rw [H.out.2.2.2.2.2]; unfold lfS; rw [if_pos hok]; rfl
    obtain ⟨h3, h4⟩ := lfB_iff.1 hok
    have h5 := headB_iff.1 h3
    have hN12 : N ≤ 12 := by rw [HN.out]; exact h5.2.2.2.2.1
    have HR := Lib.hid (And.intro hRe (And.intro h4 (And.intro h5 (And.intro (lfT_may hok) (lfT_len hok)))))
    have HA := Lib.hid hagg
    clear hRe hagg hok h3 h4 h5
    go_wp2_with fail
    rw [HA.out]
    refine H.out.1.mono ?_
    rintro e w2 ⟨rfl, hb⟩
    have hg2 := (hb.block _ (lt_of_heap H.out.2.2.1)).trans H.out.2.2.1
    have hb2 := H.out.2.1.trans (hb.mono H.out.2.1.size)
    have hP2 := H.out.2.2.2.1.below hb
    clear c0 c1 c2 c3 c4 hb
    have H2 := Lib.hid (And.intro hb2 (And.intro hg2 hP2))
    clear hb2 hg2 hP2
    go_wp2_with fail
    go_loopw [3, 4] (fun v i wr => ∃ (j : Nat) (ls : List It) (ad : Option Addr) (cp : Nat), j ≤ N ∧ i = .int .i64 (j : Int) ∧ v = .slice ad j cp ∧ ls.length = j ∧ Mk 65 w2 ((l.tags.take j).map poT) ls ad cp wr) (fun _ i _ => N - (intOf i).toNat)
    case atStart => exact ⟨0, [], none, 0, by omega, rfl, rfl, rfl, Mk.start _ (Below.refl _ _)⟩
    case round =>
      obtain ⟨j, ls, ad, cp, hj, rfl, rfl, hlen, hM⟩ := hrel
      have hr := (hM.below.block _ (lt_of_heap H2.out.2.1)).trans H2.out.2.1
      obtain ⟨c0, c1, c2, c3, c4⟩ := lf_cell hr
      rw [← HN.out] at c3
      by_cases hlt : j < N
      · have hjl : j < l.tags.length := by have := HN.out; omega
        obtain ⟨p, hp⟩ : ∃ p, l.tags[j]? = some p := ⟨_, List.getElem?_eq_getElem hjl⟩
        obtain ⟨b, off, rfl, hbl, q0, q1⟩ := H2.out.2.2.below hM.below j p hp
        have hsn : (l.tags.take (j + 1)).map poT = (l.tags.take j).map poT ++ [poT p] := by rw [List.take_add_one, hp, List.map_append]; rfl
        have hpt : p.tag.size ≤ maxLen := by have := (HR.out.2.1.po (List.mem_of_getElem? hp)).1; unfold maxLen; omega
        have hQ : RfQ w.heap.size b (off + j * 2) N cap (some ⟨b, off, none⟩) p wr := ⟨c3, q0, q1, lt_of_heap hr, hbl⟩
        have hbg : b < w2.heap.size ∧ w.heap.size < w2.heap.size := by
          obtain ⟨b', o', e, hl2, -⟩ := H2.out.2.2 j p hp
          injection e with e
          injection e with e1
          exact ⟨by omega, lt_of_heap H2.out.2.1⟩
        have HM := Lib.hid (And.intro hM (And.intro hsn (And.intro hlen (And.intro hpt (And.intro hQ hbg)))))
        clear hM hsn hlen hpt hQ hr hbg q0 q1 c0 c1 c2 c4
        go_wp2_with fail
        clear c3
        go_wp2_with fail
        refine wp_region_held (S := fun W : World => RfQ w.heap.size b (off + j * 2) N cap (some ⟨b, off, none⟩) p W) (by kernel_rfl) ?_
        change wpAnyH _ _ _ _ _ _ _ _ (World.drew _)
        generalize hv0 : World.drew _ = v0
        have E0 : RfQ w.heap.size b (off + j * 2) N cap (some ⟨b, off, none⟩) p v0 := by rw [← hv0]; exact (show RfQ _ _ _ _ _ _ _ wr.drew from HM.out.2.2.2.2.1.keep ((Below.refl _ _).drew))
        have F0 : Below wr.heap.size wr v0 := by rw [← hv0]; exact ((Below.refl _ _).drew)
        clear hv0
        refine wpAnyH_take (i := 0) (v := ?_) rfl (by kernel_rfl) (by kernel_rfl) (by kernel_rfl) (fun _ _ _ h => h) (Or.inl ⟨by kernel_rfl, ?_⟩) E0 ?_
        rotate_left
        · (intro W hS; obtain ⟨k0, k1, k2, k3, k4⟩ := hS; go_simp; try (with_reducible rfl))
        refine wpAnyH_take (i := 1) (v := ?_) rfl (by kernel_rfl) (by kernel_rfl) (by kernel_rfl) (fun _ _ _ h => h) (Or.inl ⟨by kernel_rfl, ?_⟩) E0 ?_
        rotate_left
        · (intro W hS; obtain ⟨k0, k1, k2, k3, k4⟩ := hS; go_simp; try (with_reducible rfl))
        refine wpAnyH_take (i := 2) (v := ?_) rfl (by kernel_rfl) (by kernel_rfl) (by kernel_rfl) (fun _ _ _ h => h) (Or.inl ⟨by kernel_rfl, ?_⟩) E0 ?_
        rotate_left
        · (intro W hS; obtain ⟨k0, k1, k2, k3, k4⟩ := hS; go_simp; try (with_reducible rfl))
        refine wpAnyH_take (i := 3) (v := ?_) rfl (by kernel_rfl) (by kernel_rfl) (by kernel_rfl) (fun _ _ _ h => h) (Or.inl ⟨by kernel_rfl, ?_⟩) E0 ?_
        rotate_left
        · (intro W hS; obtain ⟨k0, k1, k2, k3, k4⟩ := hS; go_simp; try (with_reducible rfl))
        refine wpAnyH_take (i := 4) (v := ?_) rfl (by kernel_rfl) (by kernel_rfl) (by kernel_rfl) (fun _ _ _ h => h) (Or.inl ⟨by kernel_rfl, ?_⟩) E0 ?_
        rotate_left
        · (intro W hS; obtain ⟨k0, k1, k2, k3, k4⟩ := hS; go_simp; try (with_reducible rfl))
        refine wpAnyH_take (i := 5) (v := ?_) rfl (by kernel_rfl) (by kernel_rfl) (by kernel_rfl) (fun _ _ _ h => h) (Or.inl ⟨by kernel_rfl, ?_⟩) E0 ?_
        rotate_left
        · (intro W hS; obtain ⟨k0, k1, k2, k3, k4⟩ := hS; go_simp; try (with_reducible rfl))
        refine wpAnyH_take (i := 6) (v := ?_) rfl (by kernel_rfl) (by kernel_rfl) (by kernel_rfl) (fun _ _ _ h => h) (Or.inl ⟨by kernel_rfl, ?_⟩) E0 ?_
        rotate_left
        · (intro W hS; obtain ⟨k0, k1, k2, k3, k4⟩ := hS; go_simp; try (with_reducible rfl))
        refine wpAnyH_take (i := 8) (v := ?_) rfl (by kernel_rfl) (by kernel_rfl) (by kernel_rfl) (fun _ _ _ h => h) (Or.inl ⟨by kernel_rfl, ?_⟩) E0 ?_
        rotate_left
        · (intro W hS; obtain ⟨k0, k1, k2, k3, k4⟩ := hS; go_simp; try (with_reducible rfl))
        refine wpAnyH_take (i := 9) (v := ?_) rfl (by kernel_rfl) (by kernel_rfl) (by kernel_rfl) (fun _ _ _ h => h) (Or.inl ⟨by kernel_rfl, ?_⟩) E0 ?_
        rotate_left
        · (intro W hS; obtain ⟨k0, k1, k2, k3, k4⟩ := hS; go_simp; try (with_reducible rfl))
        refine wpAnyH_take (i := 10) (v := ?_) rfl (by kernel_rfl) (by kernel_rfl) (by kernel_rfl) (fun _ _ _ h => h) (Or.inl ⟨by kernel_rfl, ?_⟩) E0 ?_
        rotate_left
        · (intro W hS; obtain ⟨k0, k1, k2, k3, k4⟩ := hS; go_simp; try (with_reducible rfl))
        refine wpAnyH_take (i := 11) (v := ?_) rfl (by kernel_rfl) (by kernel_rfl) (by kernel_rfl) (fun _ _ _ h => h) (Or.inl ⟨by kernel_rfl, ?_⟩) E0 ?_
        rotate_left
        · (intro W hS; obtain ⟨k0, k1, k2, k3, k4⟩ := hS; go_simp; try (with_reducible rfl))
        refine wpAnyH_take (i := 12) (v := ?_) rfl (by kernel_rfl) (by kernel_rfl) (by kernel_rfl) (fun _ _ _ h => h) (Or.inl ⟨by kernel_rfl, ?_⟩) E0 ?_
        rotate_left
        · (intro W hS; obtain ⟨k0, k1, k2, k3, k4⟩ := hS; go_simp; try (with_reducible rfl))
        refine wpAnyH_take (i := 13) (v := ?_) rfl (by kernel_rfl) (by kernel_rfl) (by kernel_rfl) (fun _ _ _ h => h) (Or.inl ⟨by kernel_rfl, ?_⟩) E0 ?_
        rotate_left
        · (intro W hS; obtain ⟨k0, k1, k2, k3, k4⟩ := hS; go_simp; try (with_reducible rfl))
        refine wpAnyH_ready (rs := [7]) (by kernel_rfl) (by simp) ?_
        refine AllReadyH.cons rfl (fun K hK => ?_) AllReadyH.nil
        go_simp
        refine (rtext17_any p.tag v0).mono ?_
        rintro e v1 ⟨rfl, hb⟩
        have F1 := F0.trans (hb.mono F0.size)
        have E1 : RfQ w.heap.size b (off + j * 2) N cap (some ⟨b, off, none⟩) p v1 := E0.keep hb
        refine hK.out _ _ E1 (fun _ => ?_)
        clear hK K hb
        refine wpAnyH_ready (rs := [14]) (by kernel_rfl) (by simp) ?_
        refine AllReadyH.cons rfl (fun K hK => ?_) AllReadyH.nil
        go_simp
        refine (rnum17_any p.prev v1).mono ?_
        rintro e v2 ⟨rfl, hb⟩
        have F2 := F1.trans (hb.mono F1.size)
        have E2 : RfQ w.heap.size b (off + j * 2) N cap (some ⟨b, off, none⟩) p v2 := E1.keep hb
        refine hK.out _ _ E2 (fun _ => ?_)
        clear hK K hb
        obtain ⟨v3, hv⟩ : ∃ v, v = v2.alloc (.cells #[.int .i64 2, .int .i64 0, .string p.tag, .slice none 0 0, .int .i64 1, .int .i64 p.prev, .string ⟨#[]⟩, .slice none 0 0] 65) := ⟨_, rfl⟩
        have hb : Below v2.heap.size v2 v3 := by rw [hv]; exact (Below.refl _ _).alloc (Nat.le_refl _) _
        have g3 : v3.heap[v2.heap.size]? = some (.cells #[.int .i64 2, .int .i64 0, .string p.tag, .slice none 0 0, .int .i64 1, .int .i64 p.prev, .string ⟨#[]⟩, .slice none 0 0] 65 (0, 0)) := by rw [hv]; exact heap_alloc_new _ _
        have F3 := F2.trans (hb.mono F2.size)
        have E3 : RfQ w.heap.size b (off + j * 2) N cap (some ⟨b, off, none⟩) p v3 := E2.keep hb
        refine wpAnyH_ready (rs := [15]) (by kernel_rfl) (by simp) ?_
        refine AllReadyH.cons rfl (fun K hK => ?_) AllReadyH.nil
        go_simp
        rw [← hv]
        clear hv
        refine hK.out _ _ E3 (fun _ => ?_)
        clear hK K hb
        have hyi : It.In v3 (fun q => q = v2.heap.size) (.mk 3 0 ⟨#[]⟩ (some ⟨v2.heap.size, 0, none⟩) 2 [Fl.T p.tag, Fl.N p.prev] : It) := ⟨Nat.zero_le _, lies_flat _ _ g3 rfl rfl (by simp), Fl.inT HM.out.2.2.2.1, Fl.inN _, trivial⟩
        refine wpAnyH_ready (rs := [16]) (by kernel_rfl) (by simp) ?_
        refine AllReadyH.cons rfl (fun K hK => ?_) AllReadyH.nil
        go_simp
        refine (rlist17_any (some ⟨v2.heap.size, 0, none⟩) 2 2 v3).mono ?_
        rintro e v4 ⟨rfl, hb⟩
        have F4 := F3.trans (hb.mono F3.size)
        have E4 : RfQ w.heap.size b (off + j * 2) N cap (some ⟨b, off, none⟩) p v4 := E3.keep hb
        have hyi4 := It.In.kept (keptS_any hb) _ hyi
        refine hK.out _ _ E4 (fun _ => ?_)
        clear hK K hb
        obtain ⟨v5, hv⟩ : ∃ v, v = v4.alloc (.cells (It.cells (.mk 3 0 ⟨#[]⟩ (some ⟨v2.heap.size, 0, none⟩) 2 [Fl.T p.tag, Fl.N p.prev] : It)) 65) := ⟨_, rfl⟩
        have hb : Below v4.heap.size v4 v5 := by rw [hv]; exact (Below.refl _ _).alloc (Nat.le_refl _) _
        have g5 : v5.heap[v4.heap.size]? = some (.cells (It.cells (.mk 3 0 ⟨#[]⟩ (some ⟨v2.heap.size, 0, none⟩) 2 [Fl.T p.tag, Fl.N p.prev] : It)) 65 (0, 0)) := by rw [hv]; exact heap_alloc_new _ _
        have F5 := F4.trans (hb.mono F4.size)
        have E5 : RfQ w.heap.size b (off + j * 2) N cap (some ⟨b, off, none⟩) p v5 := E4.keep hb
        simp only [It.cells, It.k, It.n, It.s, It.a, It.cap, It.l, List.length_cons, List.length_nil] at hv
        refine wpAnyH_ready (rs := [17]) (by kernel_rfl) (by simp) ?_
        refine AllReadyH.cons rfl (fun K hK => ?_) AllReadyH.nil
        go_simp
        rw [← hv]
        clear hv
        have hyi5 := It.In.kept (keptS_any hb) _ hyi4
        refine hK.out _ _ E5 (fun _ => ?_)
        clear hK K hb
        have M5 := HM.out.1.call F5
        have hzz := F2.size
        refine wpAnyH_ready (rs := [18]) (by kernel_rfl) (by simp) ?_
        refine AllReadyH.cons rfl (fun K hK => ?_) AllReadyH.nil
        refine step_append_r rfl (.tmp 15) (.tmp 32) 63 rfl ritem_rec it_one it_size (M5.own) _ (HM.out.2.2.1) (by kernel_rfl) _ 1 (.mk 3 0 ⟨#[]⟩ (some ⟨v2.heap.size, 0, none⟩) 2 [Fl.T p.tag, Fl.N p.prev] : It) (by kernel_rfl) g5 (by omega) M5.below.size (Below.refl _ _) ?_
        intro q6 cp6 v6 ho hB6 hgr hat
        have hlo : ∀ g, (Value.slice ad ls.length cp).ownBlock = some g → g < wr.heap.size := fun g hg => (HM.out.1.own.lt g hg).2
        have hz3 := HM.out.1.below.size
        have hnx := M5.next (y := (.mk 3 0 ⟨#[]⟩ (some ⟨v2.heap.size, 0, none⟩) 2 [Fl.T p.tag, Fl.N p.prev] : It)) (p := poT p) (It.In.weak hyi5 (fun b _ hb => ⟨by omega, fun e => by have := hlo b e; omega⟩)) rfl ho (by rw [HM.out.2.2.1]; exact hgr) (by rw [HM.out.2.2.1]; exact hat)
        have M6 : Mk 65 w2 ((l.tags.take (j + 1)).map poT) (ls ++ [(.mk 3 0 ⟨#[]⟩ (some ⟨v2.heap.size, 0, none⟩) 2 [Fl.T p.tag, Fl.N p.prev] : It)]) (some ⟨q6, 0, none⟩) cp6 v6 := by rw [HM.out.2.1]; exact hnx
        have E6 : RfQ w.heap.size b (off + j * 2) N cap (some ⟨b, off, none⟩) p v6 := E5.same (hB6.block _ (by have := HM.out.2.2.2.2.2.2; omega)) (hB6.block _ (by have := HM.out.2.2.2.2.2.1; omega)) hgr.size
        refine hK.out _ _ E6 (fun _ => ?_)
        clear hK K ho hgr hat
        refine wpAnyH_take (i := 19) (v := ?_) rfl (by kernel_rfl) (by kernel_rfl) (by kernel_rfl) (fun _ _ _ h => h) (Or.inl ⟨by kernel_rfl, ?_⟩) E6 ?_
        rotate_left
        · (intro W hS; clear hS; go_simp; try (with_reducible rfl))
        refine wpAnyH_done (by kernel_rfl) ?_ _
        go_simp
        have HB := Lib.hid (And.intro M6 (show (ls ++ [(.mk 3 0 ⟨#[]⟩ (some ⟨v2.heap.size, 0, none⟩) 2 [Fl.T p.tag, Fl.N p.prev] : It)]).length = j + 1 by rw [List.length_append, HM.out.2.2.1]; rfl))
        clear E0 E1 E2 E3 E4 E5 E6 F0 F1 F2 F3 F4 F5 M5 M6 hB6
        go_wp2_with fail
        go_roundw
        case rel => exact ⟨j + 1, _, _, _, by omega, by go_num, rfl, HB.out.2, HB.out.1⟩
        case measure => simp [intOf]; omega
      · obtain rfl : j = N := by omega
        have htk : (l.tags.take j).map poT = l.tags.map poT := by rw [List.take_of_length_le (by have := HN.out; omega)]
        rw [htk] at hM
        have hb2 := H2.out.1
        have E3 : TxS 65 w2 (l.tags.map poT) ls ad cp w.heap.size (lfCs l a0 cap) 30 wr := ⟨hM, hr⟩
        have hF := hb2.trans (hM.below.mono hb2.size)
        have HM := Lib.hid (And.intro E3 (And.intro hlen hF))
        clear hM hb2 hr E3 hlen hF htk c0 c1 c2 c4
        go_wp2_with fail
        refine wp_region_held (S := fun W : World => TxS 65 w2 (l.tags.map poT) ls ad cp w.heap.size (lfCs l a0 cap) 30 W) (by kernel_rfl) ?_
        change wpAnyH _ _ _ _ _ _ _ _ (World.drew _)
        generalize hv0 : World.drew _ = v0
        have E0 : TxS 65 w2 (l.tags.map poT) ls ad cp w.heap.size (lfCs l a0 cap) 30 v0 := by rw [← hv0]; exact (show TxS _ _ _ _ _ _ _ _ _ wr.drew from HM.out.1.call ((Below.refl _ _).drew))
        have F0 : Below w.heap.size w v0 := by rw [← hv0]; exact HM.out.2.2.drew
        clear hv0
        clear c3
        refine wpAnyH_take (i := 0) (v := ?_) rfl (by kernel_rfl) (by kernel_rfl) (by kernel_rfl) (fun _ _ _ h => h) (Or.inl ⟨by kernel_rfl, ?_⟩) E0 ?_
        rotate_left
        · (intro W hS; have k0 := hS.cell 0; have k1 := hS.cell 1; have k2 := hS.cell 2; have k3 := hS.cell 3; have k4 := hS.cell 4; simp only [lfCs, List.getElem?_toArray, List.getElem?_cons_zero, List.getElem?_cons_succ] at k0 k1 k2 k3 k4; go_simp; try (with_reducible rfl))
        refine wpAnyH_take (i := 1) (v := ?_) rfl (by kernel_rfl) (by kernel_rfl) (by kernel_rfl) (fun _ _ _ h => h) (Or.inl ⟨by kernel_rfl, ?_⟩) E0 ?_
        rotate_left
        · (intro W hS; have k0 := hS.cell 0; have k1 := hS.cell 1; have k2 := hS.cell 2; have k3 := hS.cell 3; have k4 := hS.cell 4; simp only [lfCs, List.getElem?_toArray, List.getElem?_cons_zero, List.getElem?_cons_succ] at k0 k1 k2 k3 k4; go_simp; try (with_reducible rfl))
        refine wpAnyH_take (i := 3) (v := ?_) rfl (by kernel_rfl) (by kernel_rfl) (by kernel_rfl) (fun _ _ _ h => h) (Or.inl ⟨by kernel_rfl, ?_⟩) E0 ?_
        rotate_left
        · (intro W hS; have k0 := hS.cell 0; have k1 := hS.cell 1; have k2 := hS.cell 2; have k3 := hS.cell 3; have k4 := hS.cell 4; simp only [lfCs, List.getElem?_toArray, List.getElem?_cons_zero, List.getElem?_cons_succ] at k0 k1 k2 k3 k4; go_simp; try (with_reducible rfl))
        refine wpAnyH_take (i := 4) (v := ?_) rfl (by kernel_rfl) (by kernel_rfl) (by kernel_rfl) (fun _ _ _ h => h) (Or.inl ⟨by kernel_rfl, ?_⟩) E0 ?_
        rotate_left
        · (intro W hS; have k0 := hS.cell 0; have k1 := hS.cell 1; have k2 := hS.cell 2; have k3 := hS.cell 3; have k4 := hS.cell 4; simp only [lfCs, List.getElem?_toArray, List.getElem?_cons_zero, List.getElem?_cons_succ] at k0 k1 k2 k3 k4; go_simp; try (with_reducible rfl))
        refine wpAnyH_take (i := 6) (v := ?_) rfl (by kernel_rfl) (by kernel_rfl) (by kernel_rfl) (fun _ _ _ h => h) (Or.inl ⟨by kernel_rfl, ?_⟩) E0 ?_
        rotate_left
        · (intro W hS; have k0 := hS.cell 0; have k1 := hS.cell 1; have k2 := hS.cell 2; have k3 := hS.cell 3; have k4 := hS.cell 4; simp only [lfCs, List.getElem?_toArray, List.getElem?_cons_zero, List.getElem?_cons_succ] at k0 k1 k2 k3 k4; go_simp; try (with_reducible rfl))
        refine wpAnyH_take (i := 7) (v := ?_) rfl (by kernel_rfl) (by kernel_rfl) (by kernel_rfl) (fun _ _ _ h => h) (Or.inl ⟨by kernel_rfl, ?_⟩) E0 ?_
        rotate_left
        · (intro W hS; have k0 := hS.cell 0; have k1 := hS.cell 1; have k2 := hS.cell 2; have k3 := hS.cell 3; have k4 := hS.cell 4; simp only [lfCs, List.getElem?_toArray, List.getElem?_cons_zero, List.getElem?_cons_succ] at k0 k1 k2 k3 k4; go_simp; try (with_reducible rfl))
        refine wpAnyH_take (i := 9) (v := ?_) rfl (by kernel_rfl) (by kernel_rfl) (by kernel_rfl) (fun _ _ _ h => h) (Or.inl ⟨by kernel_rfl, ?_⟩) E0 ?_
        rotate_left
        · (intro W hS; have k0 := hS.cell 0; have k1 := hS.cell 1; have k2 := hS.cell 2; have k3 := hS.cell 3; have k4 := hS.cell 4; simp only [lfCs, List.getElem?_toArray, List.getElem?_cons_zero, List.getElem?_cons_succ] at k0 k1 k2 k3 k4; go_simp; try (with_reducible rfl))
        refine wpAnyH_take (i := 11) (v := ?_) rfl (by kernel_rfl) (by kernel_rfl) (by kernel_rfl) (fun _ _ _ h => h) (Or.inl ⟨by kernel_rfl, ?_⟩) E0 ?_
        rotate_left
        · (intro W hS; have k0 := hS.cell 0; have k1 := hS.cell 1; have k2 := hS.cell 2; have k3 := hS.cell 3; have k4 := hS.cell 4; simp only [lfCs, List.getElem?_toArray, List.getElem?_cons_zero, List.getElem?_cons_succ] at k0 k1 k2 k3 k4; go_simp; try (with_reducible rfl))
        refine wpAnyH_take (i := 12) (v := ?_) rfl (by kernel_rfl) (by kernel_rfl) (by kernel_rfl) (fun _ _ _ h => h) (Or.inl ⟨by kernel_rfl, ?_⟩) E0 ?_
        rotate_left
        · (intro W hS; have k0 := hS.cell 0; have k1 := hS.cell 1; have k2 := hS.cell 2; have k3 := hS.cell 3; have k4 := hS.cell 4; simp only [lfCs, List.getElem?_toArray, List.getElem?_cons_zero, List.getElem?_cons_succ] at k0 k1 k2 k3 k4; go_simp; try (with_reducible rfl))
        refine wpAnyH_ready (rs := [2]) (by kernel_rfl) (by simp) ?_
        refine AllReadyH.cons rfl (fun K hK => ?_) AllReadyH.nil
        go_simp
        refine (rnum17_any l.n v0).mono ?_
        rintro e v1 ⟨rfl, hb⟩
        have F1 := F0.trans (hb.mono F0.size)
        have E1 : TxS 65 w2 (l.tags.map poT) ls ad cp w.heap.size (lfCs l a0 cap) 30 v1 := E0.call hb
        refine hK.out _ _ E1 (fun _ => ?_)
        clear hK K hb
        refine wpAnyH_ready (rs := [5]) (by kernel_rfl) (by simp) ?_
        refine AllReadyH.cons rfl (fun K hK => ?_) AllReadyH.nil
        go_simp
        refine (rnum17_any l.k v1).mono ?_
        rintro e v2 ⟨rfl, hb⟩
        have F2 := F1.trans (hb.mono F1.size)
        have E2 : TxS 65 w2 (l.tags.map poT) ls ad cp w.heap.size (lfCs l a0 cap) 30 v2 := E1.call hb
        refine hK.out _ _ E2 (fun _ => ?_)
        clear hK K hb
        refine wpAnyH_ready (rs := [8]) (by kernel_rfl) (by simp) ?_
        refine AllReadyH.cons rfl (fun K hK => ?_) AllReadyH.nil
        go_simp
        refine (rtext17_any l.d v2).mono ?_
        rintro e v3 ⟨rfl, hb⟩
        have F3 := F2.trans (hb.mono F2.size)
        have E3 : TxS 65 w2 (l.tags.map poT) ls ad cp w.heap.size (lfCs l a0 cap) 30 v3 := E2.call hb
        refine hK.out _ _ E3 (fun _ => ?_)
        clear hK K hb
        refine wpAnyH_ready (rs := [10]) (by kernel_rfl) (by simp) ?_
        refine AllReadyH.cons rfl (fun K hK => ?_) AllReadyH.nil
        go_simp
        refine (rlist17_any ad j cp v3).mono ?_
        rintro e v4 ⟨rfl, hb⟩
        have F4 := F3.trans (hb.mono F3.size)
        have E4 : TxS 65 w2 (l.tags.map poT) ls ad cp w.heap.size (lfCs l a0 cap) 30 v4 := E3.call hb
        refine hK.out _ _ E4 (fun _ => ?_)
        clear hK K hb
        refine wpAnyH_ready (rs := [13]) (by kernel_rfl) (by simp) ?_
        refine AllReadyH.cons rfl (fun K hK => ?_) AllReadyH.nil
        go_simp
        refine (rtext17_any l.x v4).mono ?_
        rintro e v5 ⟨rfl, hb⟩
        have F5 := F4.trans (hb.mono F4.size)
        have E5 : TxS 65 w2 (l.tags.map poT) ls ad cp w.heap.size (lfCs l a0 cap) 30 v5 := E4.call hb
        refine hK.out _ _ E5 (fun _ => ?_)
        clear hK K hb
        obtain ⟨v6, hv⟩ : ∃ v, v = v5.alloc (.cells (flat [Fl.N l.n, Fl.N l.k, Fl.T l.d, (.mk 3 0 ⟨#[]⟩ ad cp ls : It), Fl.T l.x]).toArray 65) := ⟨_, rfl⟩
        have hb : Below v5.heap.size v5 v6 := by rw [hv]; exact (Below.refl _ _).alloc (Nat.le_refl _) _
        have g6 : v6.heap[v5.heap.size]? = some (.cells (flat [Fl.N l.n, Fl.N l.k, Fl.T l.d, (.mk 3 0 ⟨#[]⟩ ad cp ls : It), Fl.T l.x]).toArray 65 (0, 0)) := by rw [hv]; exact heap_alloc_new _ _
        have F6 := F5.trans (hb.mono F5.size)
        have E6 : TxS 65 w2 (l.tags.map poT) ls ad cp w.heap.size (lfCs l a0 cap) 30 v6 := E5.call hb
        simp only [flat, Fl.N, Fl.T, It.cells, It.k, It.n, It.s, It.a, It.cap, It.l, List.cons_append, List.nil_append, List.length_nil, HM.out.2.1] at hv
        refine wpAnyH_ready (rs := [14]) (by kernel_rfl) (by simp) ?_
        refine AllReadyH.cons rfl (fun K hK => ?_) AllReadyH.nil
        go_simp
        rw [← hv]
        clear hv
        refine hK.out _ _ E6 (fun _ => ?_)
        clear hK K hb
        have hl3 := E6.items.lies (by have := HN.out; rw [List.length_map]; omega)
        have hd5 : l.d.size ≤ maxLen ∧ l.x.size ≤ maxLen := by have := HR.out.2.2.1; unfold maxLen; omega
        have hin : It.In v6 (fun _ => True) (.mk 3 0 ⟨#[]⟩ (some ⟨v5.heap.size, 0, none⟩) 5 [Fl.N l.n, Fl.N l.k, Fl.T l.d, (.mk 3 0 ⟨#[]⟩ ad cp ls : It), Fl.T l.x]) := ⟨Nat.zero_le _, lies_flat _ _ g6 rfl trivial (by simp), Fl.inN _, Fl.inN _, Fl.inT hd5.1, It.In.weak (T := fun _ => True) (x := (.mk 3 0 ⟨#[]⟩ ad cp ls : It)) ⟨Nat.zero_le _, hl3.1, hl3.2⟩ (fun _ _ _ => trivial), Fl.inT hd5.2, trivial⟩
        refine wpAnyH_ready (rs := [15]) (by kernel_rfl) (by simp) ?_
        refine AllReadyH.cons rfl (fun K hK => ?_) AllReadyH.nil
        go_simp
        refine (rlist17_any (some ⟨v5.heap.size, 0, none⟩) 5 5 v6).mono ?_
        rintro e v7 ⟨rfl, hb⟩
        have F7 := F6.trans (hb.mono F6.size)
        have E7 : TxS 65 w2 (l.tags.map poT) ls ad cp w.heap.size (lfCs l a0 cap) 30 v7 := E6.call hb
        have hin2 := It.In.kept (keptS_any hb) _ hin
        refine hK.out _ _ E7 (fun _ => ?_)
        clear hK K hb
        have hpu : It.pure (.mk 3 0 ⟨#[]⟩ (some ⟨v5.heap.size, 0, none⟩) 5 [Fl.N l.n, Fl.N l.k, Fl.T l.d, (.mk 3 0 ⟨#[]⟩ ad cp ls : It), Fl.T l.x]) = lfT l := by
          have e : It.pureAll ls = l.tags.map poT := E7.items.pure
          simp only [It.pure, It.pureAll, e]; rfl
        have hwr := rwrite_any _ _ (Nat.le_refl _) (fun _ => True) 6 v7 hin2 (by rw [hpu]; exact HR.out.2.2.2.1) (by rw [hpu]; exact Nat.le_trans HR.out.2.2.2.2 (by decide))
        rw [hpu, show (⟨(Cn.bytes (lfT l)).toArray⟩ : ByteArray) = R from HR.out.1.symm] at hwr
        refine wpAnyH_ready (rs := [16]) (by kernel_rfl) (by simp) ?_
        refine AllReadyH.cons rfl (fun K hK => ?_) AllReadyH.nil
        go_simp
        refine (hwr).mono ?_
        rintro e v8 ⟨rfl, hb⟩
        have F8 := F7.trans (hb.mono F7.size)
        have E8 : TxS 65 w2 (l.tags.map poT) ls ad cp w.heap.size (lfCs l a0 cap) 30 v8 := E7.call hb
        refine hK.out _ _ E8 (fun _ => ?_)
        clear hK K hb
        refine wpAnyH_take (i := 17) (v := ?_) rfl (by kernel_rfl) (by kernel_rfl) (by kernel_rfl) (fun _ _ _ h => h) (Or.inl ⟨by kernel_rfl, ?_⟩) E8 ?_
        rotate_left
        · (intro W hS; have k0 := hS.cell 0; have k1 := hS.cell 1; have k2 := hS.cell 2; have k3 := hS.cell 3; have k4 := hS.cell 4; simp only [lfCs, List.getElem?_toArray, List.getElem?_cons_zero, List.getElem?_cons_succ] at k0 k1 k2 k3 k4; go_simp; try (with_reducible rfl))
        refine wpAnyH_done (by kernel_rfl) ?_ _
        go_simp
        have HB := Lib.hid F8
        clear E0 F0 E1 F1 E2 F2 E3 F3 E4 F4 E5 F5 E6 F6 E7 F7 E8 F8
        go_wp2_with fail
        go_ret
        exact ⟨rfl, HB.out⟩
end Go.Proofs.Ytgoimggfpagojaa
