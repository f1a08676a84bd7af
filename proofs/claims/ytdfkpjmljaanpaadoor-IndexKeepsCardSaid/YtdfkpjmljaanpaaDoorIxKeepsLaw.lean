/- PROVED HERE: for every list of leaves with tags the law IndexKeeps returns true (the index of its first 40 leaves is what the document says: rows, postings, root, the row of each of 33 tags; an index with one leaf more leaves it as it is), and all read afterwards as it did. Its conditions: the package-level tables of digest hold what their initialisers give (the tied card). -/
import Derived.Test.YtdfkpjmljaanpaaDoorIxMd
import Derived.Test.YtdfkpjmljaanpaaDoorMX9
import Derived.Test.YtdfkpjmljaanpaaDoorLaid
namespace Go.Proofs.YtdfkpjmljaanpaaDoor
open Go.RowKit
open Cn

/-- What a law has of an index that was made. -/
structure IxF (R : List Rw) : Prop where
  rise : Ix.Rise R
  ok : ∀ r ∈ R, Ix.rwOk r
  few : R.length ≤ 400
theorem ixF_of (l : List Lad) (mo : Nat) (_ : mo ≤ 50) : IxF (Ix.mdI ((ladP l).take mo)).1 := by
  have hk := Ix.mdI_ok ((ladP l).take mo)
  have hl : ((ladP l).take mo).length ≤ mo := by rw [List.length_take]; omega
  have h2 := hk.hi
  have h3 := hk.few
  exact ⟨hk.good.rise, hk.good.ok (by omega), by omega⟩
theorem tgo_any (i : Nat) (_ : i < 256) (w : World) : Calls Tryd.prog 10 #[.int .i64 (i : Int)] w fun e w' => e = .returned (.string (tgP (UInt8.ofNat i))) ∧ Below w.heap.size w w' :=
  ltag18_any (i : Int) (UInt8.ofNat i) (by rw [UInt8.toNat_ofNat']; omega) w
/-- The row's place, for what the program and the document tell of a tag. -/
theorem fd_plc {R : List Rw} (t : ByteArray) : (∃ r j, fdI R t = (r, true) ∧ Ix.plc R t 0 = (j : Nat) ∧ R[j]? = some r) ∨ (fdI R t = (Ix.Rw.zero, false) ∧ Ix.plc R t 0 = -1) := by
  unfold fdI
  cases h : Ix.fnd R t with
  | none => exact Or.inr ⟨rfl, Ix.plc_none 0 h⟩
  | some r =>
    obtain ⟨j, h1, h2⟩ := Ix.plc_some 0 h
    exact Or.inl ⟨r, j, rfl, by rw [h1, Nat.zero_add], h2⟩
set_option maxRecDepth 100000 in
set_option maxHeartbeats 40000000 in
theorem ixkeeps_law {w : World} (l : List Lad) (a0 : Option Addr) (cap : Nat) (hT : LadsAt w a0 l) (hm : l.length ≤ maxLen) (hG : Glob w) :
    Calls Tryd.prog 3 #[.slice a0 l.length cap] w fun e w' => e = .returned (.bool true) ∧ Below w.heap.size w w' := by
  have hmd := made18_any l a0 cap 40 (by decide) w hT hm
  have hX := ixF_of l 40 (by decide)
  have hn40 : Ix.fnd (Ix.mdI ((ladP l).take 40)).1 (tgP 40) = none := Ix.md_no40 _
  have hhi := (Ix.mdI_ok ((ladP l).take 40)).hi
  have hgd := (Ix.mdI_ok ((ladP l).take 40)).good
  have hl40 : ((ladP l).take 40).length ≤ 40 := by rw [List.length_take]; omega
  obtain ⟨R, hR⟩ : ∃ R, R = (Ix.mdI ((ladP l).take 40)).1 := ⟨_, rfl⟩
  rw [← hR] at hmd hX hn40 hgd
  have had := Ix.addI_ok (n := 4095) (ts := [tgP 40]) hgd (by omega) (by omega) (by omega) (List.pairwise_singleton _ _) (fun t ht => by rw [List.mem_singleton.1 ht]; exact tgP_size 40) (by simp) (by have := hX.few; omega)
  have hlen := Ix.mrg_one (n := 4095) hX.rise hn40
  have hpl : (Ix.mrg 4095 R [tgP 40]).2.length = 1 := (Ix.mrg_len 4095 R [tgP 40]).2
  have hgo4 := hgd.mono (m := 4095) (by omega)
  have hg4 := hgo4.more (by omega) (List.pairwise_singleton (Wd.less · · = true) (tgP 40)) (fun t ht => by rw [List.mem_singleton.1 ht]; exact tgP_size 40)
  obtain ⟨t, ht⟩ : ∃ t, t = tgP 40 := ⟨_, rfl⟩
  rw [← ht] at had hlen hpl hg4
  obtain ⟨R', hR'⟩ : ∃ R', R' = (Ix.mrg 4095 R [t]).1 := ⟨_, rfl⟩
  obtain ⟨P, hP⟩ : ∃ P, P = (Ix.mrg 4095 R [t]).2 := ⟨_, rfl⟩
  rw [← hR'] at had hlen hg4
  rw [← hP] at had hpl
  have hok' := hg4.ok (by decide)
  have htg := fun W => tag18_any 40 40 rfl W
  rw [← ht] at htg
  have hrt := fun (W : World) (a : Option Addr) (c : Nat) (hb : Below w.heap.size w W) (h : RwAt W a R) => root18_any R a c W (hG.below hb) h (by have := hX.few; omega) hX.ok
  have hrr := fun (W : World) (a : Option Addr) (c : Nat) (h : RwAt W a R) => rroot18_any R a c W h (by have := hX.few; omega) hX.ok
  have hwi := fun (W : World) (a b : Option Addr) (c d : Nat) (h : RwAt W a R) (h2 : TextsAt W b [t]) (h0 : R = [] → a = none) => with18_ok R [t] a b c d R.length 1 4095 W h h2 h0 hX.rise hX.ok (by have := hX.few; omega) (by simp) rfl rfl R' P had R'.length 1 rfl hpl
  have hro := fun (W : World) (a : Option Addr) (c : Nat) (h : RwAt W a R) => rows18_any R a c W h (by have := hX.few; omega) (fun r hr => by have := (hX.ok r hr).1; omega)
  have hro' := fun (W : World) (a : Option Addr) (c : Nat) (h : RwAt W a R') => rows18_any R' a c W h (by have := hX.few; omega) (fun r hr => by have := (hok' r hr).1; omega)
  have hlr := fun (W : World) (a : Option Addr) (c : Nat) (h : RwAt W a R) => lrows18_any R a c W h (by have := hX.few; omega)
  have hsm := fun (W : World) (a b : Option Addr) (c d : Nat) (h : RwAt W a R) (h2 : RwAt W b R) => rsame18_any R R a b c d W h h2 (by have := hX.few; omega)
  rw [eqB_iff.2 rfl] at hsm
  have hfi := fun (W : World) (s : ByteArray) (a : Option Addr) (c : Nat) (h : RwAt W a R) => find18_any R hX.rise s a c W h (by have := hX.few; omega) (fun r hr => by have := (hX.ok r hr).1; omega)
  have hpf := fun (W : World) (s : ByteArray) (a : Option Addr) (c : Nat) (h : RwAt W a R) => rfind18_any R a c s W h (by have := hX.few; omega)
  unfold MdPost at hmd
  obtain ⟨n1, hn1⟩ : ∃ n1, n1 = R.length := ⟨_, rfl⟩
  obtain ⟨RT, hRT⟩ : ∃ RT, RT = Ix.rtI R := ⟨_, rfl⟩
  rw [hlen] at hwi hro'
  rw [← hRT] at hrt hrr
  rw [← hn1] at hmd hrt hrr hwi hro hro' hlr hsm hfi hpf
  have hn4 : n1 ≤ 400 := by rw [hn1]; exact hX.few
  obtain ⟨N, hN⟩ : ∃ N, N = l.length := ⟨_, rfl⟩
  rw [← hN] at hmd ⊢
  have H := Lib.hid (And.intro hmd (And.intro hrt (And.intro hrr (And.intro hwi (And.intro hro (And.intro hro' (And.intro hlr (And.intro hsm (And.intro hfi (And.intro hpf htg))))))))))
  have HN1 := Lib.hid hn1
  clear hmd hrt hrr hwi hro hro' hlr hsm hfi hpf htg hR hX hn40 hhi hgd hl40 had hlen hpl hgo4 hg4 hR' hP hok' ht hRT hn1 hN hT hm hG
  go_enter Tryd.func3, Tryd.ntmps3
  go_wp2_with fail
  refine H.out.1.mono ?_
  rintro e w2 ⟨a, ca, r, rc, rfl, hoa, hna, hor, hb2⟩
  obtain ⟨w3, hw3⟩ : ∃ w3, w3 = w2.alloc (.cells #[.slice a n1 ca] 25) := ⟨_, rfl⟩
  have hb3 : Below w2.heap.size w2 w3 := by rw [hw3]; exact (Below.refl _ _).alloc (Nat.le_refl _) _
  have hg3 : w3.heap[w2.heap.size]? = some (.cells #[.slice a n1 ca] 25 (0, 0)) := by rw [hw3]; exact heap_alloc_new _ _
  have H3 := Lib.hid (And.intro (bcall hb2 hb3 hb2.size) (And.intro hg3 (And.intro ((rwAt_own hoa).below hb3) (And.intro ((rwAt_own hor).below hb3) hna))))
  obtain ⟨gx, hgx⟩ : ∃ gx, gx = w2.heap.size := ⟨_, rfl⟩
  rw [← hgx] at H3
  clear hoa hna hor hb2 hb3 hg3
  go_upto_region 2 with fail
  rw [← hw3, ← hgx]
  clear hw3 hgx
  go_wp2_with fail
  refine (awake18_any _).mono ?_
  rintro e w4 ⟨rfl, hb4⟩
  have H4 := Lib.hid (And.intro (bcall H3.out.1 hb4 H3.out.1.size) (And.intro ((hb4.block _ (lt_of_heap H3.out.2.1)).trans H3.out.2.1) (And.intro (H3.out.2.2.1.below hb4) (H3.out.2.2.2.1.below hb4))))
  clear hb4
  have c4 : w4.cell? ⟨gx, 0, none⟩ = some (.slice a n1 ca) := by rw [cell_of_row _ _ _ _ _ _ H4.out.2.1]; rfl
  go_wp2_with fail
  refine (H.out.2.1 _ _ _ H4.out.1 H4.out.2.2.1).mono ?_
  rintro e w5 ⟨rfl, hb5⟩
  have H5 := Lib.hid (And.intro (bcall H4.out.1 hb5 H4.out.1.size) (And.intro ((hb5.block _ (lt_of_heap H4.out.2.1)).trans H4.out.2.1) (And.intro (H4.out.2.2.1.below hb5) (H4.out.2.2.2.below hb5))))
  clear hb5 c4
  go_upto_region 5 with fail
  go_cut [7, 8, 9] (fun y p e wc => ∃ (gy : Nat) (ay ap : Option Addr) (cy cp : Nat), y = .pointer (some ⟨gy, 0, none⟩) ∧ p = .slice ap 1 cp ∧ e = .int .i64 0 ∧ wc.heap[gy]? = some (.cells #[.slice ay (n1 + 1) cy] 25 (0, 0)) ∧ RwAt wc ay R' ∧ Below w5.heap.size w5 wc)
  case first =>
    go_wp2_with fail
    refine wp_region_held (S := fun W : World => W.heap[gx]? = some (.cells #[.slice a n1 ca] 25 (0, 0))) (by kernel_rfl) ?_
    change wpAnyH _ _ _ _ _ _ _ _ (World.drew _)
    generalize hv0 : World.drew _ = v0
    have E0 : v0.heap[gx]? = some (.cells #[.slice a n1 ca] 25 (0, 0)) := by rw [← hv0]; exact (show w5.drew.heap[gx]? = _ from H5.out.2.1)
    have F0 : Below w5.heap.size w5 v0 := by rw [← hv0]; exact ((Below.refl _ _).drew)
    clear hv0
    refine wpAnyH_take (i := 0) (v := ?_) rfl (by kernel_rfl) (by kernel_rfl) (by kernel_rfl) (fun _ _ _ h => h) (Or.inl ⟨by kernel_rfl, ?_⟩) E0 ?_
    rotate_left
    · (intro W hS; have k0 : W.cell? ⟨gx, 0, none⟩ = some (.slice a n1 ca) := (by rw [cell_of_row _ _ _ _ _ _ hS]; rfl); go_simp; try (with_reducible rfl))
    refine wpAnyH_ready (rs := [1, 8]) (by kernel_rfl) (by simp) ?_
    refine AllReadyH.cons (i := 1) rfl (fun K hK => ?_) (AllReadyH.cons (i := 8) rfl (fun K hK => ?_) AllReadyH.nil)
    · go_simp
      refine (H.out.2.2.2.2.2.2.2.2.2.2 v0).mono ?_
      rintro e v1 ⟨rfl, hb⟩
      have F1 := F0.trans (hb.mono F0.size)
      have E1 : v1.heap[gx]? = some (.cells #[.slice a n1 ca] 25 (0, 0)) := (hb.block _ (lt_of_heap E0)).trans E0
      refine hK.out _ _ E1 (fun _ => ?_)
      clear hK K hb
      refine wpAnyH_ready (rs := [2, 8]) (by kernel_rfl) (by simp) ?_
      refine AllReadyH.cons (i := 2) rfl (fun K hK => ?_) (AllReadyH.cons (i := 8) rfl (fun K hK => ?_) AllReadyH.nil)
      · obtain ⟨v2, hv⟩ : ∃ v, v = v1.alloc (.cells #[.string t] 9) := ⟨_, rfl⟩
        have hb : Below v1.heap.size v1 v2 := by rw [hv]; exact (Below.refl _ _).alloc (Nat.le_refl _) _
        have ht1 : TextsAt v2 (some ⟨v1.heap.size, 0, none⟩) [t] := by rw [hv]; exact texts_one v1 t
        have F2 := F1.trans (hb.mono F1.size)
        have E2 : v2.heap[gx]? = some (.cells #[.slice a n1 ca] 25 (0, 0)) := (hb.block _ (lt_of_heap E1)).trans E1
        go_simp
        rw [← hv]
        clear hv
        refine hK.out _ _ E2 (fun _ => ?_)
        clear hK K hb
        refine wpAnyH_ready (rs := [3, 8]) (by kernel_rfl) (by simp) ?_
        refine AllReadyH.cons (i := 3) rfl (fun K hK => ?_) (AllReadyH.cons (i := 8) rfl (fun K hK => ?_) AllReadyH.nil)
        · go_simp
          refine (H.out.2.2.2.1 v2 a _ ca 1 (H5.out.2.2.1.below F2) ht1 H3.out.2.2.2.2).mono ?_
          rintro e v3 ⟨ay, cy, ap, cp, rfl, hoB0, -, -, hb⟩
          have F3 := F2.trans (hb.mono F2.size)
          have E3 : v3.heap[gx]? = some (.cells #[.slice a n1 ca] 25 (0, 0)) := (hb.block _ (lt_of_heap E2)).trans E2
          have hoB := hoB0
          clear hoB0
          refine hK.out _ _ E3 (fun _ => ?_)
          clear hK K hb
          refine wpAnyH_take (i := 4) (v := ?_) rfl (by kernel_rfl) (by kernel_rfl) (by kernel_rfl) (fun _ _ _ h => h) (Or.inl ⟨by kernel_rfl, ?_⟩) E3 ?_
          rotate_left
          · (intro W hS; have k0 : W.cell? ⟨gx, 0, none⟩ = some (.slice a n1 ca) := (by rw [cell_of_row _ _ _ _ _ _ hS]; rfl); go_simp; try (with_reducible rfl))
          refine wpAnyH_take (i := 5) (v := ?_) rfl (by kernel_rfl) (by kernel_rfl) (by kernel_rfl) (fun _ _ _ h => h) (Or.inl ⟨by kernel_rfl, ?_⟩) E3 ?_
          rotate_left
          · (intro W hS; have k0 : W.cell? ⟨gx, 0, none⟩ = some (.slice a n1 ca) := (by rw [cell_of_row _ _ _ _ _ _ hS]; rfl); go_simp; try (with_reducible rfl))
          refine wpAnyH_take (i := 6) (v := ?_) rfl (by kernel_rfl) (by kernel_rfl) (by kernel_rfl) (fun _ _ _ h => h) (Or.inl ⟨by kernel_rfl, ?_⟩) E3 ?_
          rotate_left
          · (intro W hS; have k0 : W.cell? ⟨gx, 0, none⟩ = some (.slice a n1 ca) := (by rw [cell_of_row _ _ _ _ _ _ hS]; rfl); go_simp; try (with_reducible rfl))
          refine wpAnyH_take (i := 7) (v := ?_) rfl (by kernel_rfl) (by kernel_rfl) (by kernel_rfl) (fun _ _ _ h => h) (Or.inl ⟨by kernel_rfl, ?_⟩) E3 ?_
          rotate_left
          · (intro W hS; have k0 : W.cell? ⟨gx, 0, none⟩ = some (.slice a n1 ca) := (by rw [cell_of_row _ _ _ _ _ _ hS]; rfl); go_simp; try (with_reducible rfl))
          refine wpAnyH_ready (rs := [8]) (by kernel_rfl) (by simp) ?_
          refine AllReadyH.cons (i := 8) rfl (fun K hK => ?_) AllReadyH.nil
          obtain ⟨v4, hv⟩ : ∃ v, v = v3.alloc (.cells #[.slice none 0 0] 25) := ⟨_, rfl⟩
          have hb : Below v3.heap.size v3 v4 := by rw [hv]; exact (Below.refl _ _).alloc (Nat.le_refl _) _
          have gB : v4.heap[v3.heap.size]? = some (.cells #[.slice none 0 0] 25 (0, 0)) := by rw [hv]; exact heap_alloc_new _ _
          have F4 := F3.trans (hb.mono F3.size)
          have E4 : v4.heap[gx]? = some (.cells #[.slice a n1 ca] 25 (0, 0)) := (hb.block _ (lt_of_heap E3)).trans E3
          go_simp
          rw [← hv]
          clear hv
          have hgz := lt_of_heap gB
          have hgl : w5.heap.size ≤ v3.heap.size := F3.size
          have hdist : ∀ g, (Value.slice ay R'.length cy).ownBlock = some g → g ≠ v3.heap.size := fun g hg => by have := (hoB.lt g hg).2; omega
          have hoB := hoB.call hb
          refine hK.out _ _ E4 (fun _ => ?_)
          clear hK K hb
          have c9 : v4.cell? ⟨v3.heap.size, 0, none⟩ = some (.slice none 0 0) := by rw [cell_of_row _ _ _ _ _ _ gB]; rfl
          have f9 : v4.frozen? ⟨v3.heap.size, 0, none⟩ = false := frozen_of_row _ _ _ _ _ gB
          have hne : gx ≠ v3.heap.size := by have := lt_of_heap H5.out.2.1; omega
          have hN : (v4.setCell ⟨v3.heap.size, 0, none⟩ (.slice ay (n1 + 1) cy)).heap[v3.heap.size]? = some (.cells #[.slice ay (n1 + 1) cy] 25 (0, 0)) := by rw [heap_setCell_same _ _ _ _ _ _ gB]; rfl
          have hN2 := hoB.otherNe (g := v3.heap.size) (o := 0) (fun g hg => by have := hdist g hg; omega) (.slice ay (n1 + 1) cy)
          have hN4 : Below w5.heap.size w5 (v4.setCell ⟨v3.heap.size, 0, none⟩ (.slice ay (n1 + 1) cy)) := F4.setCell (p := ⟨v3.heap.size, 0, none⟩) hgl _
          have HN := Lib.hid (And.intro hN (And.intro (rwAt_own hN2) hN4))
          have EZ := (heap_setCell_other v4 ⟨v3.heap.size, 0, none⟩ _ (.slice ay (n1 + 1) cy) hne).trans E4
          clear hN hN2 hN4 hoB gB hdist
          refine wpAnyH_ready (rs := [9]) (by kernel_rfl) (by simp) ?_
          refine AllReadyH.cons (i := 9) rfl (fun K hK => ?_) AllReadyH.nil
          go_simp
          refine hK.out _ _ EZ (fun _ => ?_)
          clear hK K c9 f9
          refine wpAnyH_take (i := 10) (v := ?_) rfl (by kernel_rfl) (by kernel_rfl) (by kernel_rfl) (fun _ _ _ h => h) (Or.inl ⟨by kernel_rfl, ?_⟩) EZ ?_
          rotate_left
          · (intro W hS; have k0 : W.cell? ⟨gx, 0, none⟩ = some (.slice a n1 ca) := (by rw [cell_of_row _ _ _ _ _ _ hS]; rfl); go_simp; try (with_reducible rfl))
          refine wpAnyH_take (i := 11) (v := ?_) rfl (by kernel_rfl) (by kernel_rfl) (by kernel_rfl) (fun _ _ _ h => h) (Or.inl ⟨by kernel_rfl, ?_⟩) EZ ?_
          rotate_left
          · (intro W hS; have k0 : W.cell? ⟨gx, 0, none⟩ = some (.slice a n1 ca) := (by rw [cell_of_row _ _ _ _ _ _ hS]; rfl); go_simp; try (with_reducible rfl))
          refine wpAnyH_done (by kernel_rfl) ?_ _
          go_simp
          clear EZ
          generalize World.setCell _ _ _ = wz at *
          go_wp2_with fail
          go_meet
          exact ⟨_, ay, ap, cy, cp, rfl, rfl, rfl, HN.out.1, HN.out.2.1, HN.out.2.2⟩
        · obtain ⟨v3, hv⟩ : ∃ v, v = v2.alloc (.cells #[.slice none 0 0] 25) := ⟨_, rfl⟩
          have hb : Below v2.heap.size v2 v3 := by rw [hv]; exact (Below.refl _ _).alloc (Nat.le_refl _) _
          have gB : v3.heap[v2.heap.size]? = some (.cells #[.slice none 0 0] 25 (0, 0)) := by rw [hv]; exact heap_alloc_new _ _
          have F3 := F2.trans (hb.mono F2.size)
          have E3 : v3.heap[gx]? = some (.cells #[.slice a n1 ca] 25 (0, 0)) := (hb.block _ (lt_of_heap E2)).trans E2
          go_simp
          rw [← hv]
          clear hv
          have hgz := lt_of_heap gB
          have hgl : w5.heap.size ≤ v2.heap.size := F2.size
          have ht1 := ht1.below hb
          refine hK.out _ _ E3 (fun _ => ?_)
          clear hK K hb
          refine wpAnyH_ready (rs := [3]) (by kernel_rfl) (by simp) ?_
          refine AllReadyH.cons (i := 3) rfl (fun K hK => ?_) AllReadyH.nil
          go_simp
          refine (H.out.2.2.2.1 v3 a _ ca 1 (H5.out.2.2.1.below F3) ht1 H3.out.2.2.2.2).mono ?_
          rintro e v4 ⟨ay, cy, ap, cp, rfl, hoB0, -, -, hb⟩
          have F4 := F3.trans (hb.mono F3.size)
          have E4 : v4.heap[gx]? = some (.cells #[.slice a n1 ca] 25 (0, 0)) := (hb.block _ (lt_of_heap E3)).trans E3
          have gB := (hb.block _ (lt_of_heap gB)).trans gB
          have hoB := hoB0
          have hdist : ∀ g, (Value.slice ay R'.length cy).ownBlock = some g → g ≠ v2.heap.size := fun g hg => by have := (hoB0.lt g hg).1; omega
          clear hoB0
          have hgz := Nat.lt_of_lt_of_le hgz hb.size
          refine hK.out _ _ E4 (fun _ => ?_)
          clear hK K hb
          refine wpAnyH_take (i := 4) (v := ?_) rfl (by kernel_rfl) (by kernel_rfl) (by kernel_rfl) (fun _ _ _ h => h) (Or.inl ⟨by kernel_rfl, ?_⟩) E4 ?_
          rotate_left
          · (intro W hS; have k0 : W.cell? ⟨gx, 0, none⟩ = some (.slice a n1 ca) := (by rw [cell_of_row _ _ _ _ _ _ hS]; rfl); go_simp; try (with_reducible rfl))
          refine wpAnyH_take (i := 5) (v := ?_) rfl (by kernel_rfl) (by kernel_rfl) (by kernel_rfl) (fun _ _ _ h => h) (Or.inl ⟨by kernel_rfl, ?_⟩) E4 ?_
          rotate_left
          · (intro W hS; have k0 : W.cell? ⟨gx, 0, none⟩ = some (.slice a n1 ca) := (by rw [cell_of_row _ _ _ _ _ _ hS]; rfl); go_simp; try (with_reducible rfl))
          refine wpAnyH_take (i := 6) (v := ?_) rfl (by kernel_rfl) (by kernel_rfl) (by kernel_rfl) (fun _ _ _ h => h) (Or.inl ⟨by kernel_rfl, ?_⟩) E4 ?_
          rotate_left
          · (intro W hS; have k0 : W.cell? ⟨gx, 0, none⟩ = some (.slice a n1 ca) := (by rw [cell_of_row _ _ _ _ _ _ hS]; rfl); go_simp; try (with_reducible rfl))
          refine wpAnyH_take (i := 7) (v := ?_) rfl (by kernel_rfl) (by kernel_rfl) (by kernel_rfl) (fun _ _ _ h => h) (Or.inl ⟨by kernel_rfl, ?_⟩) E4 ?_
          rotate_left
          · (intro W hS; have k0 : W.cell? ⟨gx, 0, none⟩ = some (.slice a n1 ca) := (by rw [cell_of_row _ _ _ _ _ _ hS]; rfl); go_simp; try (with_reducible rfl))
          have c9 : v4.cell? ⟨v2.heap.size, 0, none⟩ = some (.slice none 0 0) := by rw [cell_of_row _ _ _ _ _ _ gB]; rfl
          have f9 : v4.frozen? ⟨v2.heap.size, 0, none⟩ = false := frozen_of_row _ _ _ _ _ gB
          have hne : gx ≠ v2.heap.size := by have := lt_of_heap H5.out.2.1; omega
          have hN : (v4.setCell ⟨v2.heap.size, 0, none⟩ (.slice ay (n1 + 1) cy)).heap[v2.heap.size]? = some (.cells #[.slice ay (n1 + 1) cy] 25 (0, 0)) := by rw [heap_setCell_same _ _ _ _ _ _ gB]; rfl
          have hN2 := hoB.otherNe (g := v2.heap.size) (o := 0) (fun g hg => by have := hdist g hg; omega) (.slice ay (n1 + 1) cy)
          have hN4 : Below w5.heap.size w5 (v4.setCell ⟨v2.heap.size, 0, none⟩ (.slice ay (n1 + 1) cy)) := F4.setCell (p := ⟨v2.heap.size, 0, none⟩) hgl _
          have HN := Lib.hid (And.intro hN (And.intro (rwAt_own hN2) hN4))
          have EZ := (heap_setCell_other v4 ⟨v2.heap.size, 0, none⟩ _ (.slice ay (n1 + 1) cy) hne).trans E4
          clear hN hN2 hN4 hoB gB hdist
          refine wpAnyH_ready (rs := [9]) (by kernel_rfl) (by simp) ?_
          refine AllReadyH.cons (i := 9) rfl (fun K hK => ?_) AllReadyH.nil
          go_simp
          refine hK.out _ _ EZ (fun _ => ?_)
          clear hK K c9 f9
          refine wpAnyH_take (i := 10) (v := ?_) rfl (by kernel_rfl) (by kernel_rfl) (by kernel_rfl) (fun _ _ _ h => h) (Or.inl ⟨by kernel_rfl, ?_⟩) EZ ?_
          rotate_left
          · (intro W hS; have k0 : W.cell? ⟨gx, 0, none⟩ = some (.slice a n1 ca) := (by rw [cell_of_row _ _ _ _ _ _ hS]; rfl); go_simp; try (with_reducible rfl))
          refine wpAnyH_take (i := 11) (v := ?_) rfl (by kernel_rfl) (by kernel_rfl) (by kernel_rfl) (fun _ _ _ h => h) (Or.inl ⟨by kernel_rfl, ?_⟩) EZ ?_
          rotate_left
          · (intro W hS; have k0 : W.cell? ⟨gx, 0, none⟩ = some (.slice a n1 ca) := (by rw [cell_of_row _ _ _ _ _ _ hS]; rfl); go_simp; try (with_reducible rfl))
          refine wpAnyH_done (by kernel_rfl) ?_ _
          go_simp
          clear EZ
          generalize World.setCell _ _ _ = wz at *
          go_wp2_with fail
          go_meet
          exact ⟨_, ay, ap, cy, cp, rfl, rfl, rfl, HN.out.1, HN.out.2.1, HN.out.2.2⟩
      · obtain ⟨v2, hv⟩ : ∃ v, v = v1.alloc (.cells #[.slice none 0 0] 25) := ⟨_, rfl⟩
        have hb : Below v1.heap.size v1 v2 := by rw [hv]; exact (Below.refl _ _).alloc (Nat.le_refl _) _
        have gB : v2.heap[v1.heap.size]? = some (.cells #[.slice none 0 0] 25 (0, 0)) := by rw [hv]; exact heap_alloc_new _ _
        have F2 := F1.trans (hb.mono F1.size)
        have E2 : v2.heap[gx]? = some (.cells #[.slice a n1 ca] 25 (0, 0)) := (hb.block _ (lt_of_heap E1)).trans E1
        go_simp
        rw [← hv]
        clear hv
        have hgz := lt_of_heap gB
        have hgl : w5.heap.size ≤ v1.heap.size := F1.size
        refine hK.out _ _ E2 (fun _ => ?_)
        clear hK K hb
        refine wpAnyH_ready (rs := [2]) (by kernel_rfl) (by simp) ?_
        refine AllReadyH.cons (i := 2) rfl (fun K hK => ?_) AllReadyH.nil
        obtain ⟨v3, hv⟩ : ∃ v, v = v2.alloc (.cells #[.string t] 9) := ⟨_, rfl⟩
        have hb : Below v2.heap.size v2 v3 := by rw [hv]; exact (Below.refl _ _).alloc (Nat.le_refl _) _
        have ht1 : TextsAt v3 (some ⟨v2.heap.size, 0, none⟩) [t] := by rw [hv]; exact texts_one v2 t
        have F3 := F2.trans (hb.mono F2.size)
        have E3 : v3.heap[gx]? = some (.cells #[.slice a n1 ca] 25 (0, 0)) := (hb.block _ (lt_of_heap E2)).trans E2
        have gB := (hb.block _ (lt_of_heap gB)).trans gB
        go_simp
        rw [← hv]
        clear hv
        have hgz := Nat.lt_of_lt_of_le hgz hb.size
        refine hK.out _ _ E3 (fun _ => ?_)
        clear hK K hb
        refine wpAnyH_ready (rs := [3]) (by kernel_rfl) (by simp) ?_
        refine AllReadyH.cons (i := 3) rfl (fun K hK => ?_) AllReadyH.nil
        go_simp
        refine (H.out.2.2.2.1 v3 a _ ca 1 (H5.out.2.2.1.below F3) ht1 H3.out.2.2.2.2).mono ?_
        rintro e v4 ⟨ay, cy, ap, cp, rfl, hoB0, -, -, hb⟩
        have F4 := F3.trans (hb.mono F3.size)
        have E4 : v4.heap[gx]? = some (.cells #[.slice a n1 ca] 25 (0, 0)) := (hb.block _ (lt_of_heap E3)).trans E3
        have gB := (hb.block _ (lt_of_heap gB)).trans gB
        have hoB := hoB0
        have hdist : ∀ g, (Value.slice ay R'.length cy).ownBlock = some g → g ≠ v1.heap.size := fun g hg => by have := (hoB0.lt g hg).1; omega
        clear hoB0
        have hgz := Nat.lt_of_lt_of_le hgz hb.size
        refine hK.out _ _ E4 (fun _ => ?_)
        clear hK K hb
        refine wpAnyH_take (i := 4) (v := ?_) rfl (by kernel_rfl) (by kernel_rfl) (by kernel_rfl) (fun _ _ _ h => h) (Or.inl ⟨by kernel_rfl, ?_⟩) E4 ?_
        rotate_left
        · (intro W hS; have k0 : W.cell? ⟨gx, 0, none⟩ = some (.slice a n1 ca) := (by rw [cell_of_row _ _ _ _ _ _ hS]; rfl); go_simp; try (with_reducible rfl))
        refine wpAnyH_take (i := 5) (v := ?_) rfl (by kernel_rfl) (by kernel_rfl) (by kernel_rfl) (fun _ _ _ h => h) (Or.inl ⟨by kernel_rfl, ?_⟩) E4 ?_
        rotate_left
        · (intro W hS; have k0 : W.cell? ⟨gx, 0, none⟩ = some (.slice a n1 ca) := (by rw [cell_of_row _ _ _ _ _ _ hS]; rfl); go_simp; try (with_reducible rfl))
        refine wpAnyH_take (i := 6) (v := ?_) rfl (by kernel_rfl) (by kernel_rfl) (by kernel_rfl) (fun _ _ _ h => h) (Or.inl ⟨by kernel_rfl, ?_⟩) E4 ?_
        rotate_left
        · (intro W hS; have k0 : W.cell? ⟨gx, 0, none⟩ = some (.slice a n1 ca) := (by rw [cell_of_row _ _ _ _ _ _ hS]; rfl); go_simp; try (with_reducible rfl))
        refine wpAnyH_take (i := 7) (v := ?_) rfl (by kernel_rfl) (by kernel_rfl) (by kernel_rfl) (fun _ _ _ h => h) (Or.inl ⟨by kernel_rfl, ?_⟩) E4 ?_
        rotate_left
        · (intro W hS; have k0 : W.cell? ⟨gx, 0, none⟩ = some (.slice a n1 ca) := (by rw [cell_of_row _ _ _ _ _ _ hS]; rfl); go_simp; try (with_reducible rfl))
        have c9 : v4.cell? ⟨v1.heap.size, 0, none⟩ = some (.slice none 0 0) := by rw [cell_of_row _ _ _ _ _ _ gB]; rfl
        have f9 : v4.frozen? ⟨v1.heap.size, 0, none⟩ = false := frozen_of_row _ _ _ _ _ gB
        have hne : gx ≠ v1.heap.size := by have := lt_of_heap H5.out.2.1; omega
        have hN : (v4.setCell ⟨v1.heap.size, 0, none⟩ (.slice ay (n1 + 1) cy)).heap[v1.heap.size]? = some (.cells #[.slice ay (n1 + 1) cy] 25 (0, 0)) := by rw [heap_setCell_same _ _ _ _ _ _ gB]; rfl
        have hN2 := hoB.otherNe (g := v1.heap.size) (o := 0) (fun g hg => by have := hdist g hg; omega) (.slice ay (n1 + 1) cy)
        have hN4 : Below w5.heap.size w5 (v4.setCell ⟨v1.heap.size, 0, none⟩ (.slice ay (n1 + 1) cy)) := F4.setCell (p := ⟨v1.heap.size, 0, none⟩) hgl _
        have HN := Lib.hid (And.intro hN (And.intro (rwAt_own hN2) hN4))
        have EZ := (heap_setCell_other v4 ⟨v1.heap.size, 0, none⟩ _ (.slice ay (n1 + 1) cy) hne).trans E4
        clear hN hN2 hN4 hoB gB hdist
        refine wpAnyH_ready (rs := [9]) (by kernel_rfl) (by simp) ?_
        refine AllReadyH.cons (i := 9) rfl (fun K hK => ?_) AllReadyH.nil
        go_simp
        refine hK.out _ _ EZ (fun _ => ?_)
        clear hK K c9 f9
        refine wpAnyH_take (i := 10) (v := ?_) rfl (by kernel_rfl) (by kernel_rfl) (by kernel_rfl) (fun _ _ _ h => h) (Or.inl ⟨by kernel_rfl, ?_⟩) EZ ?_
        rotate_left
        · (intro W hS; have k0 : W.cell? ⟨gx, 0, none⟩ = some (.slice a n1 ca) := (by rw [cell_of_row _ _ _ _ _ _ hS]; rfl); go_simp; try (with_reducible rfl))
        refine wpAnyH_take (i := 11) (v := ?_) rfl (by kernel_rfl) (by kernel_rfl) (by kernel_rfl) (fun _ _ _ h => h) (Or.inl ⟨by kernel_rfl, ?_⟩) EZ ?_
        rotate_left
        · (intro W hS; have k0 : W.cell? ⟨gx, 0, none⟩ = some (.slice a n1 ca) := (by rw [cell_of_row _ _ _ _ _ _ hS]; rfl); go_simp; try (with_reducible rfl))
        refine wpAnyH_done (by kernel_rfl) ?_ _
        go_simp
        clear EZ
        generalize World.setCell _ _ _ = wz at *
        go_wp2_with fail
        go_meet
        exact ⟨_, ay, ap, cy, cp, rfl, rfl, rfl, HN.out.1, HN.out.2.1, HN.out.2.2⟩
    · obtain ⟨v1, hv⟩ : ∃ v, v = v0.alloc (.cells #[.slice none 0 0] 25) := ⟨_, rfl⟩
      have hb : Below v0.heap.size v0 v1 := by rw [hv]; exact (Below.refl _ _).alloc (Nat.le_refl _) _
      have gB : v1.heap[v0.heap.size]? = some (.cells #[.slice none 0 0] 25 (0, 0)) := by rw [hv]; exact heap_alloc_new _ _
      have F1 := F0.trans (hb.mono F0.size)
      have E1 : v1.heap[gx]? = some (.cells #[.slice a n1 ca] 25 (0, 0)) := (hb.block _ (lt_of_heap E0)).trans E0
      go_simp
      rw [← hv]
      clear hv
      have hgz := lt_of_heap gB
      have hgl : w5.heap.size ≤ v0.heap.size := F0.size
      refine hK.out _ _ E1 (fun _ => ?_)
      clear hK K hb
      refine wpAnyH_ready (rs := [1]) (by kernel_rfl) (by simp) ?_
      refine AllReadyH.cons (i := 1) rfl (fun K hK => ?_) AllReadyH.nil
      go_simp
      refine (H.out.2.2.2.2.2.2.2.2.2.2 v1).mono ?_
      rintro e v2 ⟨rfl, hb⟩
      have F2 := F1.trans (hb.mono F1.size)
      have E2 : v2.heap[gx]? = some (.cells #[.slice a n1 ca] 25 (0, 0)) := (hb.block _ (lt_of_heap E1)).trans E1
      have gB := (hb.block _ (lt_of_heap gB)).trans gB
      have hgz := Nat.lt_of_lt_of_le hgz hb.size
      refine hK.out _ _ E2 (fun _ => ?_)
      clear hK K hb
      refine wpAnyH_ready (rs := [2]) (by kernel_rfl) (by simp) ?_
      refine AllReadyH.cons (i := 2) rfl (fun K hK => ?_) AllReadyH.nil
      obtain ⟨v3, hv⟩ : ∃ v, v = v2.alloc (.cells #[.string t] 9) := ⟨_, rfl⟩
      have hb : Below v2.heap.size v2 v3 := by rw [hv]; exact (Below.refl _ _).alloc (Nat.le_refl _) _
      have ht1 : TextsAt v3 (some ⟨v2.heap.size, 0, none⟩) [t] := by rw [hv]; exact texts_one v2 t
      have F3 := F2.trans (hb.mono F2.size)
      have E3 : v3.heap[gx]? = some (.cells #[.slice a n1 ca] 25 (0, 0)) := (hb.block _ (lt_of_heap E2)).trans E2
      have gB := (hb.block _ (lt_of_heap gB)).trans gB
      go_simp
      rw [← hv]
      clear hv
      have hgz := Nat.lt_of_lt_of_le hgz hb.size
      refine hK.out _ _ E3 (fun _ => ?_)
      clear hK K hb
      refine wpAnyH_ready (rs := [3]) (by kernel_rfl) (by simp) ?_
      refine AllReadyH.cons (i := 3) rfl (fun K hK => ?_) AllReadyH.nil
      go_simp
      refine (H.out.2.2.2.1 v3 a _ ca 1 (H5.out.2.2.1.below F3) ht1 H3.out.2.2.2.2).mono ?_
      rintro e v4 ⟨ay, cy, ap, cp, rfl, hoB0, -, -, hb⟩
      have F4 := F3.trans (hb.mono F3.size)
      have E4 : v4.heap[gx]? = some (.cells #[.slice a n1 ca] 25 (0, 0)) := (hb.block _ (lt_of_heap E3)).trans E3
      have gB := (hb.block _ (lt_of_heap gB)).trans gB
      have hoB := hoB0
      have hdist : ∀ g, (Value.slice ay R'.length cy).ownBlock = some g → g ≠ v0.heap.size := fun g hg => by have := (hoB0.lt g hg).1; omega
      clear hoB0
      have hgz := Nat.lt_of_lt_of_le hgz hb.size
      refine hK.out _ _ E4 (fun _ => ?_)
      clear hK K hb
      refine wpAnyH_take (i := 4) (v := ?_) rfl (by kernel_rfl) (by kernel_rfl) (by kernel_rfl) (fun _ _ _ h => h) (Or.inl ⟨by kernel_rfl, ?_⟩) E4 ?_
      rotate_left
      · (intro W hS; have k0 : W.cell? ⟨gx, 0, none⟩ = some (.slice a n1 ca) := (by rw [cell_of_row _ _ _ _ _ _ hS]; rfl); go_simp; try (with_reducible rfl))
      refine wpAnyH_take (i := 5) (v := ?_) rfl (by kernel_rfl) (by kernel_rfl) (by kernel_rfl) (fun _ _ _ h => h) (Or.inl ⟨by kernel_rfl, ?_⟩) E4 ?_
      rotate_left
      · (intro W hS; have k0 : W.cell? ⟨gx, 0, none⟩ = some (.slice a n1 ca) := (by rw [cell_of_row _ _ _ _ _ _ hS]; rfl); go_simp; try (with_reducible rfl))
      refine wpAnyH_take (i := 6) (v := ?_) rfl (by kernel_rfl) (by kernel_rfl) (by kernel_rfl) (fun _ _ _ h => h) (Or.inl ⟨by kernel_rfl, ?_⟩) E4 ?_
      rotate_left
      · (intro W hS; have k0 : W.cell? ⟨gx, 0, none⟩ = some (.slice a n1 ca) := (by rw [cell_of_row _ _ _ _ _ _ hS]; rfl); go_simp; try (with_reducible rfl))
      refine wpAnyH_take (i := 7) (v := ?_) rfl (by kernel_rfl) (by kernel_rfl) (by kernel_rfl) (fun _ _ _ h => h) (Or.inl ⟨by kernel_rfl, ?_⟩) E4 ?_
      rotate_left
      · (intro W hS; have k0 : W.cell? ⟨gx, 0, none⟩ = some (.slice a n1 ca) := (by rw [cell_of_row _ _ _ _ _ _ hS]; rfl); go_simp; try (with_reducible rfl))
      have c9 : v4.cell? ⟨v0.heap.size, 0, none⟩ = some (.slice none 0 0) := by rw [cell_of_row _ _ _ _ _ _ gB]; rfl
      have f9 : v4.frozen? ⟨v0.heap.size, 0, none⟩ = false := frozen_of_row _ _ _ _ _ gB
      have hne : gx ≠ v0.heap.size := by have := lt_of_heap H5.out.2.1; omega
      have hN : (v4.setCell ⟨v0.heap.size, 0, none⟩ (.slice ay (n1 + 1) cy)).heap[v0.heap.size]? = some (.cells #[.slice ay (n1 + 1) cy] 25 (0, 0)) := by rw [heap_setCell_same _ _ _ _ _ _ gB]; rfl
      have hN2 := hoB.otherNe (g := v0.heap.size) (o := 0) (fun g hg => by have := hdist g hg; omega) (.slice ay (n1 + 1) cy)
      have hN4 : Below w5.heap.size w5 (v4.setCell ⟨v0.heap.size, 0, none⟩ (.slice ay (n1 + 1) cy)) := F4.setCell (p := ⟨v0.heap.size, 0, none⟩) hgl _
      have HN := Lib.hid (And.intro hN (And.intro (rwAt_own hN2) hN4))
      have EZ := (heap_setCell_other v4 ⟨v0.heap.size, 0, none⟩ _ (.slice ay (n1 + 1) cy) hne).trans E4
      clear hN hN2 hN4 hoB gB hdist
      refine wpAnyH_ready (rs := [9]) (by kernel_rfl) (by simp) ?_
      refine AllReadyH.cons (i := 9) rfl (fun K hK => ?_) AllReadyH.nil
      go_simp
      refine hK.out _ _ EZ (fun _ => ?_)
      clear hK K c9 f9
      refine wpAnyH_take (i := 10) (v := ?_) rfl (by kernel_rfl) (by kernel_rfl) (by kernel_rfl) (fun _ _ _ h => h) (Or.inl ⟨by kernel_rfl, ?_⟩) EZ ?_
      rotate_left
      · (intro W hS; have k0 : W.cell? ⟨gx, 0, none⟩ = some (.slice a n1 ca) := (by rw [cell_of_row _ _ _ _ _ _ hS]; rfl); go_simp; try (with_reducible rfl))
      refine wpAnyH_take (i := 11) (v := ?_) rfl (by kernel_rfl) (by kernel_rfl) (by kernel_rfl) (fun _ _ _ h => h) (Or.inl ⟨by kernel_rfl, ?_⟩) EZ ?_
      rotate_left
      · (intro W hS; have k0 : W.cell? ⟨gx, 0, none⟩ = some (.slice a n1 ca) := (by rw [cell_of_row _ _ _ _ _ _ hS]; rfl); go_simp; try (with_reducible rfl))
      refine wpAnyH_done (by kernel_rfl) ?_ _
      go_simp
      clear EZ
      generalize World.setCell _ _ _ = wz at *
      go_wp2_with fail
      go_meet
      exact ⟨_, ay, ap, cy, cp, rfl, rfl, rfl, HN.out.1, HN.out.2.1, HN.out.2.2⟩
  case rest =>
    obtain ⟨gy, ay, ap, cy, cp, rfl, rfl, rfl, hgy, hRy, hbc⟩ := hcut
    obtain ⟨wC, hwC⟩ : ∃ wC, wC = wc := ⟨_, rfl⟩
    subst hwC
    have H6 := Lib.hid (And.intro (bcall H5.out.1 hbc H5.out.1.size) (And.intro ((hbc.block _ (lt_of_heap H5.out.2.1)).trans H5.out.2.1) (And.intro (H5.out.2.2.1.below hbc) (And.intro (H5.out.2.2.2.below hbc) (And.intro hgy hRy)))))
    clear hgy hRy hbc
    go_wp2_with fail
    go_loopw [10, 11, 12, 13] (fun v10 _ _ _ wr => ∃ i : Nat, i ≤ 33 ∧ v10 = .int .i64 i ∧ Below wC.heap.size wC wr) (fun v10 _ _ _ _ => 33 - (intOf v10).toNat)
    case atStart => exact ⟨0, by omega, rfl, Below.refl _ _⟩
    case round =>
      obtain ⟨i, hi, rfl, hbr⟩ := hrel
      by_cases hlt : i < 33
      · obtain ⟨wo, hwo⟩ : ∃ wo, wo = wr := ⟨_, rfl⟩
        subst hwo
        have htg := fun W => tgo_any i (by omega) W
        obtain ⟨s, hs⟩ : ∃ s, s = tgP (UInt8.ofNat i) := ⟨_, rfl⟩
        rw [← hs] at htg
        have gxr := (hbr.block _ (lt_of_heap H6.out.2.1)).trans H6.out.2.1
        have hRr := H6.out.2.2.1.below hbr
        have hRf := H6.out.2.2.2.1.below hbr
        have hfd := fd_plc (R := R) s
        have hfs := fun W a c h => H.out.2.2.2.2.2.2.2.2.1 W s a c h
        have hps := fun W a c h => H.out.2.2.2.2.2.2.2.2.2.1 W s a c h
        obtain ⟨Fr, hFr⟩ : ∃ Fr, Fr = fdI R s := ⟨_, rfl⟩
        obtain ⟨K, hK⟩ : ∃ K, K = Ix.plc R s 0 := ⟨_, rfl⟩
        rw [← hFr] at hfd hfs
        rw [← hK] at hfd hps
        obtain ⟨⟨f1, f2, f3⟩, fb⟩ := Fr
        simp only [rwCs] at hfs
        have HI := Lib.hid (And.intro htg (And.intro gxr (And.intro hRr (And.intro hRf (And.intro hfd (And.intro hfs (And.intro hps hbr)))))))
        have hli : (i : Int) < 33 := by omega
        clear htg hs gxr hRr hRf hfd hfs hps hFr hK hbr
        go_upto_region 9 with fail
        go_cut [11, 12] (fun y q wd => ∃ (gr : Nat), y = .pointer (some ⟨gr, 0, none⟩) ∧ q = .bool fb ∧ wd.heap[gr]? = some (.cells #[.string f1, .int .i64 f2, .int .i64 f3] 38 (0, 0)) ∧ Below wo.heap.size wo wd)
        case first =>
          go_wp2_with fail
          refine wp_region_held (S := fun W : World => W.heap[gx]? = some (.cells #[.slice a n1 ca] 25 (0, 0))) (by kernel_rfl) ?_
          change wpAnyH _ _ _ _ _ _ _ _ (World.drew _)
          generalize hv0 : World.drew _ = v0
          have E0 : v0.heap[gx]? = some (.cells #[.slice a n1 ca] 25 (0, 0)) := by rw [← hv0]; exact (show wo.drew.heap[gx]? = _ from HI.out.2.1)
          have F0 : Below wo.heap.size wo v0 := by rw [← hv0]; exact ((Below.refl _ _).drew)
          clear hv0
          refine wpAnyH_take (i := 0) (v := ?_) rfl (by kernel_rfl) (by kernel_rfl) (by kernel_rfl) (fun _ _ _ h => h) (Or.inl ⟨by kernel_rfl, ?_⟩) E0 ?_
          rotate_left
          · (intro W hS; have k0 : W.cell? ⟨gx, 0, none⟩ = some (.slice a n1 ca) := (by rw [cell_of_row _ _ _ _ _ _ hS]; rfl); go_simp; try (with_reducible rfl))
          refine wpAnyH_take (i := 1) (v := ?_) rfl (by kernel_rfl) (by kernel_rfl) (by kernel_rfl) (fun _ _ _ h => h) (Or.inl ⟨by kernel_rfl, ?_⟩) E0 ?_
          rotate_left
          · (intro W hS; have k0 : W.cell? ⟨gx, 0, none⟩ = some (.slice a n1 ca) := (by rw [cell_of_row _ _ _ _ _ _ hS]; rfl); go_simp; try (with_reducible rfl))
          refine wpAnyH_ready (rs := [2, 7]) (by kernel_rfl) (by simp) ?_
          refine AllReadyH.cons (i := 2) rfl (fun K hK => ?_) (AllReadyH.cons (i := 7) rfl (fun K hK => ?_) AllReadyH.nil)
          · go_simp
            refine (HI.out.1 v0).mono ?_
            rintro e v1 ⟨rfl, hb⟩
            have F1 := F0.trans (hb.mono F0.size)
            have E1 : v1.heap[gx]? = some (.cells #[.slice a n1 ca] 25 (0, 0)) := (hb.block _ (lt_of_heap E0)).trans E0
            refine hK.out _ _ E1 (fun _ => ?_)
            clear hK K hb
            refine wpAnyH_ready (rs := [3, 7]) (by kernel_rfl) (by simp) ?_
            refine AllReadyH.cons (i := 3) rfl (fun K hK => ?_) (AllReadyH.cons (i := 7) rfl (fun K hK => ?_) AllReadyH.nil)
            · go_simp
              refine (HI.out.2.2.2.2.2.1 v1 a ca (HI.out.2.2.1.below F1)).mono ?_
              rintro e v2 ⟨rfl, hb⟩
              have F2 := F1.trans (hb.mono F1.size)
              have E2 : v2.heap[gx]? = some (.cells #[.slice a n1 ca] 25 (0, 0)) := (hb.block _ (lt_of_heap E1)).trans E1
              refine hK.out _ _ E2 (fun _ => ?_)
              clear hK K hb
              refine wpAnyH_take (i := 4) (v := ?_) rfl (by kernel_rfl) (by kernel_rfl) (by kernel_rfl) (fun _ _ _ h => h) (Or.inl ⟨by kernel_rfl, ?_⟩) E2 ?_
              rotate_left
              · (intro W hS; have k0 : W.cell? ⟨gx, 0, none⟩ = some (.slice a n1 ca) := (by rw [cell_of_row _ _ _ _ _ _ hS]; rfl); go_simp; try (with_reducible rfl))
              refine wpAnyH_take (i := 5) (v := ?_) rfl (by kernel_rfl) (by kernel_rfl) (by kernel_rfl) (fun _ _ _ h => h) (Or.inl ⟨by kernel_rfl, ?_⟩) E2 ?_
              rotate_left
              · (intro W hS; have k0 : W.cell? ⟨gx, 0, none⟩ = some (.slice a n1 ca) := (by rw [cell_of_row _ _ _ _ _ _ hS]; rfl); go_simp; try (with_reducible rfl))
              refine wpAnyH_take (i := 6) (v := ?_) rfl (by kernel_rfl) (by kernel_rfl) (by kernel_rfl) (fun _ _ _ h => h) (Or.inl ⟨by kernel_rfl, ?_⟩) E2 ?_
              rotate_left
              · (intro W hS; have k0 : W.cell? ⟨gx, 0, none⟩ = some (.slice a n1 ca) := (by rw [cell_of_row _ _ _ _ _ _ hS]; rfl); go_simp; try (with_reducible rfl))
              refine wpAnyH_ready (rs := [7]) (by kernel_rfl) (by simp) ?_
              refine AllReadyH.cons (i := 7) rfl (fun K hK => ?_) AllReadyH.nil
              obtain ⟨v3, hv⟩ : ∃ v, v = v2.alloc (.cells (rwCs Ix.Rw.zero) 38) := ⟨_, rfl⟩
              have hb : Below v2.heap.size v2 v3 := by rw [hv]; exact (Below.refl _ _).alloc (Nat.le_refl _) _
              have gB : v3.heap[v2.heap.size]? = some (.cells (rwCs Ix.Rw.zero) 38 (0, 0)) := by rw [hv]; exact heap_alloc_new _ _
              have F3 := F2.trans (hb.mono F2.size)
              have E3 : v3.heap[gx]? = some (.cells #[.slice a n1 ca] 25 (0, 0)) := (hb.block _ (lt_of_heap E2)).trans E2
              simp only [rwCs, Ix.Rw.zero] at hv
              go_simp
              rw [← hv]
              clear hv
              have hgz := lt_of_heap gB
              have hgl : wo.heap.size ≤ v2.heap.size := F2.size
              refine hK.out _ _ E3 (fun _ => ?_)
              clear hK K hb
              obtain ⟨d0, d1, d2⟩ := row3 gB
              simp only [Ix.Rw.zero] at d0 d1 d2
              have f9 : ∀ j, v3.frozen? ⟨v2.heap.size, j, none⟩ = false := fun j => frozen_of_row _ _ _ _ _ gB
              have hne : gx ≠ v2.heap.size := by have := lt_of_heap HI.out.2.1; omega
              have hN : (((v3.setCell ⟨v2.heap.size, 0, none⟩ (.string f1)).setCell ⟨v2.heap.size, 1, none⟩ (.int .i64 f2)).setCell ⟨v2.heap.size, 2, none⟩ (.int .i64 f3)).heap[v2.heap.size]? = some (.cells #[.string f1, .int .i64 f2, .int .i64 f3] 38 (0, 0)) := by rw [heap_setCell_same _ _ _ _ _ _ (heap_setCell_same _ _ _ _ _ _ (heap_setCell_same _ _ _ _ _ _ gB))]; rfl
              have hN4 : Below wo.heap.size wo (((v3.setCell ⟨v2.heap.size, 0, none⟩ (.string f1)).setCell ⟨v2.heap.size, 1, none⟩ (.int .i64 f2)).setCell ⟨v2.heap.size, 2, none⟩ (.int .i64 f3)) := rput3 F3 hgl _ _ _
              have EZ := (heap_setCell_other _ ⟨v2.heap.size, 2, none⟩ _ (.int .i64 f3) hne).trans ((heap_setCell_other _ ⟨v2.heap.size, 1, none⟩ _ (.int .i64 f2) hne).trans ((heap_setCell_other v3 ⟨v2.heap.size, 0, none⟩ _ (.string f1) hne).trans E3))
              have HN := Lib.hid (And.intro hN hN4)
              clear hN hN4 gB
              refine wpAnyH_ready (rs := [8]) (by kernel_rfl) (by simp) ?_
              refine AllReadyH.cons (i := 8) rfl (fun K hK => ?_) AllReadyH.nil
              go_simp
              refine hK.out _ _ EZ (fun _ => ?_)
              clear hK K d0 d1 d2 f9
              refine wpAnyH_take (i := 9) (v := ?_) rfl (by kernel_rfl) (by kernel_rfl) (by kernel_rfl) (fun _ _ _ h => h) (Or.inl ⟨by kernel_rfl, ?_⟩) EZ ?_
              rotate_left
              · (intro W hS; have k0 : W.cell? ⟨gx, 0, none⟩ = some (.slice a n1 ca) := (by rw [cell_of_row _ _ _ _ _ _ hS]; rfl); go_simp; try (with_reducible rfl))
              refine wpAnyH_done (by kernel_rfl) ?_ _
              go_simp
              clear EZ
              generalize World.setCell _ _ _ = wz at *
              go_wp2_with fail
              go_meet
              exact ⟨_, rfl, rfl, HN.out.1, HN.out.2⟩
            · obtain ⟨v2, hv⟩ : ∃ v, v = v1.alloc (.cells (rwCs Ix.Rw.zero) 38) := ⟨_, rfl⟩
              have hb : Below v1.heap.size v1 v2 := by rw [hv]; exact (Below.refl _ _).alloc (Nat.le_refl _) _
              have gB : v2.heap[v1.heap.size]? = some (.cells (rwCs Ix.Rw.zero) 38 (0, 0)) := by rw [hv]; exact heap_alloc_new _ _
              have F2 := F1.trans (hb.mono F1.size)
              have E2 : v2.heap[gx]? = some (.cells #[.slice a n1 ca] 25 (0, 0)) := (hb.block _ (lt_of_heap E1)).trans E1
              simp only [rwCs, Ix.Rw.zero] at hv
              go_simp
              rw [← hv]
              clear hv
              have hgz := lt_of_heap gB
              have hgl : wo.heap.size ≤ v1.heap.size := F1.size
              refine hK.out _ _ E2 (fun _ => ?_)
              clear hK K hb
              refine wpAnyH_ready (rs := [3]) (by kernel_rfl) (by simp) ?_
              refine AllReadyH.cons (i := 3) rfl (fun K hK => ?_) AllReadyH.nil
              go_simp
              refine (HI.out.2.2.2.2.2.1 v2 a ca (HI.out.2.2.1.below F2)).mono ?_
              rintro e v3 ⟨rfl, hb⟩
              have F3 := F2.trans (hb.mono F2.size)
              have E3 : v3.heap[gx]? = some (.cells #[.slice a n1 ca] 25 (0, 0)) := (hb.block _ (lt_of_heap E2)).trans E2
              have gB := (hb.block _ (lt_of_heap gB)).trans gB
              have hgz := Nat.lt_of_lt_of_le hgz hb.size
              refine hK.out _ _ E3 (fun _ => ?_)
              clear hK K hb
              refine wpAnyH_take (i := 4) (v := ?_) rfl (by kernel_rfl) (by kernel_rfl) (by kernel_rfl) (fun _ _ _ h => h) (Or.inl ⟨by kernel_rfl, ?_⟩) E3 ?_
              rotate_left
              · (intro W hS; have k0 : W.cell? ⟨gx, 0, none⟩ = some (.slice a n1 ca) := (by rw [cell_of_row _ _ _ _ _ _ hS]; rfl); go_simp; try (with_reducible rfl))
              refine wpAnyH_take (i := 5) (v := ?_) rfl (by kernel_rfl) (by kernel_rfl) (by kernel_rfl) (fun _ _ _ h => h) (Or.inl ⟨by kernel_rfl, ?_⟩) E3 ?_
              rotate_left
              · (intro W hS; have k0 : W.cell? ⟨gx, 0, none⟩ = some (.slice a n1 ca) := (by rw [cell_of_row _ _ _ _ _ _ hS]; rfl); go_simp; try (with_reducible rfl))
              refine wpAnyH_take (i := 6) (v := ?_) rfl (by kernel_rfl) (by kernel_rfl) (by kernel_rfl) (fun _ _ _ h => h) (Or.inl ⟨by kernel_rfl, ?_⟩) E3 ?_
              rotate_left
              · (intro W hS; have k0 : W.cell? ⟨gx, 0, none⟩ = some (.slice a n1 ca) := (by rw [cell_of_row _ _ _ _ _ _ hS]; rfl); go_simp; try (with_reducible rfl))
              obtain ⟨d0, d1, d2⟩ := row3 gB
              simp only [Ix.Rw.zero] at d0 d1 d2
              have f9 : ∀ j, v3.frozen? ⟨v1.heap.size, j, none⟩ = false := fun j => frozen_of_row _ _ _ _ _ gB
              have hne : gx ≠ v1.heap.size := by have := lt_of_heap HI.out.2.1; omega
              have hN : (((v3.setCell ⟨v1.heap.size, 0, none⟩ (.string f1)).setCell ⟨v1.heap.size, 1, none⟩ (.int .i64 f2)).setCell ⟨v1.heap.size, 2, none⟩ (.int .i64 f3)).heap[v1.heap.size]? = some (.cells #[.string f1, .int .i64 f2, .int .i64 f3] 38 (0, 0)) := by rw [heap_setCell_same _ _ _ _ _ _ (heap_setCell_same _ _ _ _ _ _ (heap_setCell_same _ _ _ _ _ _ gB))]; rfl
              have hN4 : Below wo.heap.size wo (((v3.setCell ⟨v1.heap.size, 0, none⟩ (.string f1)).setCell ⟨v1.heap.size, 1, none⟩ (.int .i64 f2)).setCell ⟨v1.heap.size, 2, none⟩ (.int .i64 f3)) := rput3 F3 hgl _ _ _
              have EZ := (heap_setCell_other _ ⟨v1.heap.size, 2, none⟩ _ (.int .i64 f3) hne).trans ((heap_setCell_other _ ⟨v1.heap.size, 1, none⟩ _ (.int .i64 f2) hne).trans ((heap_setCell_other v3 ⟨v1.heap.size, 0, none⟩ _ (.string f1) hne).trans E3))
              have HN := Lib.hid (And.intro hN hN4)
              clear hN hN4 gB
              refine wpAnyH_ready (rs := [8]) (by kernel_rfl) (by simp) ?_
              refine AllReadyH.cons (i := 8) rfl (fun K hK => ?_) AllReadyH.nil
              go_simp
              refine hK.out _ _ EZ (fun _ => ?_)
              clear hK K d0 d1 d2 f9
              refine wpAnyH_take (i := 9) (v := ?_) rfl (by kernel_rfl) (by kernel_rfl) (by kernel_rfl) (fun _ _ _ h => h) (Or.inl ⟨by kernel_rfl, ?_⟩) EZ ?_
              rotate_left
              · (intro W hS; have k0 : W.cell? ⟨gx, 0, none⟩ = some (.slice a n1 ca) := (by rw [cell_of_row _ _ _ _ _ _ hS]; rfl); go_simp; try (with_reducible rfl))
              refine wpAnyH_done (by kernel_rfl) ?_ _
              go_simp
              clear EZ
              generalize World.setCell _ _ _ = wz at *
              go_wp2_with fail
              go_meet
              exact ⟨_, rfl, rfl, HN.out.1, HN.out.2⟩
          · obtain ⟨v1, hv⟩ : ∃ v, v = v0.alloc (.cells (rwCs Ix.Rw.zero) 38) := ⟨_, rfl⟩
            have hb : Below v0.heap.size v0 v1 := by rw [hv]; exact (Below.refl _ _).alloc (Nat.le_refl _) _
            have gB : v1.heap[v0.heap.size]? = some (.cells (rwCs Ix.Rw.zero) 38 (0, 0)) := by rw [hv]; exact heap_alloc_new _ _
            have F1 := F0.trans (hb.mono F0.size)
            have E1 : v1.heap[gx]? = some (.cells #[.slice a n1 ca] 25 (0, 0)) := (hb.block _ (lt_of_heap E0)).trans E0
            simp only [rwCs, Ix.Rw.zero] at hv
            go_simp
            rw [← hv]
            clear hv
            have hgz := lt_of_heap gB
            have hgl : wo.heap.size ≤ v0.heap.size := F0.size
            refine hK.out _ _ E1 (fun _ => ?_)
            clear hK K hb
            refine wpAnyH_ready (rs := [2]) (by kernel_rfl) (by simp) ?_
            refine AllReadyH.cons (i := 2) rfl (fun K hK => ?_) AllReadyH.nil
            go_simp
            refine (HI.out.1 v1).mono ?_
            rintro e v2 ⟨rfl, hb⟩
            have F2 := F1.trans (hb.mono F1.size)
            have E2 : v2.heap[gx]? = some (.cells #[.slice a n1 ca] 25 (0, 0)) := (hb.block _ (lt_of_heap E1)).trans E1
            have gB := (hb.block _ (lt_of_heap gB)).trans gB
            have hgz := Nat.lt_of_lt_of_le hgz hb.size
            refine hK.out _ _ E2 (fun _ => ?_)
            clear hK K hb
            refine wpAnyH_ready (rs := [3]) (by kernel_rfl) (by simp) ?_
            refine AllReadyH.cons (i := 3) rfl (fun K hK => ?_) AllReadyH.nil
            go_simp
            refine (HI.out.2.2.2.2.2.1 v2 a ca (HI.out.2.2.1.below F2)).mono ?_
            rintro e v3 ⟨rfl, hb⟩
            have F3 := F2.trans (hb.mono F2.size)
            have E3 : v3.heap[gx]? = some (.cells #[.slice a n1 ca] 25 (0, 0)) := (hb.block _ (lt_of_heap E2)).trans E2
            have gB := (hb.block _ (lt_of_heap gB)).trans gB
            have hgz := Nat.lt_of_lt_of_le hgz hb.size
            refine hK.out _ _ E3 (fun _ => ?_)
            clear hK K hb
            refine wpAnyH_take (i := 4) (v := ?_) rfl (by kernel_rfl) (by kernel_rfl) (by kernel_rfl) (fun _ _ _ h => h) (Or.inl ⟨by kernel_rfl, ?_⟩) E3 ?_
            rotate_left
            · (intro W hS; have k0 : W.cell? ⟨gx, 0, none⟩ = some (.slice a n1 ca) := (by rw [cell_of_row _ _ _ _ _ _ hS]; rfl); go_simp; try (with_reducible rfl))
            refine wpAnyH_take (i := 5) (v := ?_) rfl (by kernel_rfl) (by kernel_rfl) (by kernel_rfl) (fun _ _ _ h => h) (Or.inl ⟨by kernel_rfl, ?_⟩) E3 ?_
            rotate_left
            · (intro W hS; have k0 : W.cell? ⟨gx, 0, none⟩ = some (.slice a n1 ca) := (by rw [cell_of_row _ _ _ _ _ _ hS]; rfl); go_simp; try (with_reducible rfl))
            refine wpAnyH_take (i := 6) (v := ?_) rfl (by kernel_rfl) (by kernel_rfl) (by kernel_rfl) (fun _ _ _ h => h) (Or.inl ⟨by kernel_rfl, ?_⟩) E3 ?_
            rotate_left
            · (intro W hS; have k0 : W.cell? ⟨gx, 0, none⟩ = some (.slice a n1 ca) := (by rw [cell_of_row _ _ _ _ _ _ hS]; rfl); go_simp; try (with_reducible rfl))
            obtain ⟨d0, d1, d2⟩ := row3 gB
            simp only [Ix.Rw.zero] at d0 d1 d2
            have f9 : ∀ j, v3.frozen? ⟨v0.heap.size, j, none⟩ = false := fun j => frozen_of_row _ _ _ _ _ gB
            have hne : gx ≠ v0.heap.size := by have := lt_of_heap HI.out.2.1; omega
            have hN : (((v3.setCell ⟨v0.heap.size, 0, none⟩ (.string f1)).setCell ⟨v0.heap.size, 1, none⟩ (.int .i64 f2)).setCell ⟨v0.heap.size, 2, none⟩ (.int .i64 f3)).heap[v0.heap.size]? = some (.cells #[.string f1, .int .i64 f2, .int .i64 f3] 38 (0, 0)) := by rw [heap_setCell_same _ _ _ _ _ _ (heap_setCell_same _ _ _ _ _ _ (heap_setCell_same _ _ _ _ _ _ gB))]; rfl
            have hN4 : Below wo.heap.size wo (((v3.setCell ⟨v0.heap.size, 0, none⟩ (.string f1)).setCell ⟨v0.heap.size, 1, none⟩ (.int .i64 f2)).setCell ⟨v0.heap.size, 2, none⟩ (.int .i64 f3)) := rput3 F3 hgl _ _ _
            have EZ := (heap_setCell_other _ ⟨v0.heap.size, 2, none⟩ _ (.int .i64 f3) hne).trans ((heap_setCell_other _ ⟨v0.heap.size, 1, none⟩ _ (.int .i64 f2) hne).trans ((heap_setCell_other v3 ⟨v0.heap.size, 0, none⟩ _ (.string f1) hne).trans E3))
            have HN := Lib.hid (And.intro hN hN4)
            clear hN hN4 gB
            refine wpAnyH_ready (rs := [8]) (by kernel_rfl) (by simp) ?_
            refine AllReadyH.cons (i := 8) rfl (fun K hK => ?_) AllReadyH.nil
            go_simp
            refine hK.out _ _ EZ (fun _ => ?_)
            clear hK K d0 d1 d2 f9
            refine wpAnyH_take (i := 9) (v := ?_) rfl (by kernel_rfl) (by kernel_rfl) (by kernel_rfl) (fun _ _ _ h => h) (Or.inl ⟨by kernel_rfl, ?_⟩) EZ ?_
            rotate_left
            · (intro W hS; have k0 : W.cell? ⟨gx, 0, none⟩ = some (.slice a n1 ca) := (by rw [cell_of_row _ _ _ _ _ _ hS]; rfl); go_simp; try (with_reducible rfl))
            refine wpAnyH_done (by kernel_rfl) ?_ _
            go_simp
            clear EZ
            generalize World.setCell _ _ _ = wz at *
            go_wp2_with fail
            go_meet
            exact ⟨_, rfl, rfl, HN.out.1, HN.out.2⟩
        case rest =>
          obtain ⟨gr, rfl, rfl, hgr, hbd⟩ := hcut
          obtain ⟨wD, hwD⟩ : ∃ wD, wD = wc := ⟨_, rfl⟩
          subst hwD
          have HD := Lib.hid (And.intro hgr hbd)
          clear hgr hbd
          go_wp2_with fail
          refine (HI.out.1 _).mono ?_
          rintro e w7 ⟨rfl, hb7⟩
          have H7 := Lib.hid (And.intro ((hb7.block _ (lt_of_heap HD.out.1)).trans HD.out.1) (bcall HD.out.2 hb7 HD.out.2.size))
          clear hb7
          go_wp2_with fail
          refine (HI.out.2.2.2.2.2.2.1 _ _ _ (HI.out.2.2.2.1.below H7.out.2)).mono ?_
          rintro e w8 ⟨rfl, rfl⟩
          have d0 : w8.cell? ⟨gr, 0, none⟩ = some (.string f1) := by rw [cell_of_row _ _ _ _ _ _ H7.out.1]; rfl
          have d1 : w8.cell? ⟨gr, 1, none⟩ = some (.int .i64 f2) := by rw [cell_of_row _ _ _ _ _ _ H7.out.1]; rfl
          have d2 : w8.cell? ⟨gr, 2, none⟩ = some (.int .i64 f3) := by rw [cell_of_row _ _ _ _ _ _ H7.out.1]; rfl
          rcases HI.out.2.2.2.2.1 with ⟨q, j, hq, hKj, hj⟩ | ⟨hq, hKj⟩
          · injection hq with hq1 hq2
            subst hq1 hq2 hKj
            obtain ⟨b, off, rfl, -, q0, q1, q2⟩ := (HI.out.2.2.2.1.below H7.out.2) j _ hj
            have hjn : j < n1 := by rw [HN1.out]; exact (List.getElem?_eq_some_iff.1 hj).1
            have he := fun W => equalRw ⟨f1, f2, f3⟩ ⟨f1, f2, f3⟩ W
            rw [eqRw_iff.2 rfl] at he
            simp only at q0 q1 q2 he
            have hj0 : (0 : Int) ≤ (j : Int) := by omega
            clear hj
            go_wp2_with fail
            go_quiet (fail)
            have HB := Lib.hid (below_drewN H7.out.2 nq)
            generalize w8.drewN nq = w9 at *
            go_wp2_with fail
            go_roundw
            case rel => exact ⟨i + 1, by omega, by go_num, bcall HI.out.2.2.2.2.2.2.2 HB.out HI.out.2.2.2.2.2.2.2.size⟩
            case measure => simp [intOf]; omega
          · injection hq with hq1 hq2
            subst hq2 hKj
            clear hq1
            go_wp2_with fail
            go_quiet (fail)
            have HB := Lib.hid (below_drewN H7.out.2 nq)
            generalize w8.drewN nq = w9 at *
            go_wp2_with fail
            go_roundw
            case rel => exact ⟨i + 1, by omega, by go_num, bcall HI.out.2.2.2.2.2.2.2 HB.out HI.out.2.2.2.2.2.2.2.size⟩
            case measure => simp [intOf]; omega
      · obtain rfl : i = 33 := by omega
        have HB := Lib.hid hbr
        clear hbr
        go_wp2_with fail
        refine (H.out.2.2.1 _ _ _ (H6.out.2.2.2.1.below HB.out)).mono ?_
        rintro e w7 ⟨rfl, hb7⟩
        have H7 := Lib.hid (bcall HB.out hb7 HB.out.size)
        clear hb7
        have cx : w7.cell? ⟨gx, 0, none⟩ = some (.slice a n1 ca) := by rw [cell_of_row _ _ _ _ _ _ ((H7.out.block _ (lt_of_heap H6.out.2.1)).trans H6.out.2.1)]; rfl
        go_wp2_with fail
        refine (H.out.2.1 _ _ _ (bcall H6.out.1 H7.out H6.out.1.size) (H6.out.2.2.1.below H7.out)).mono ?_
        rintro e w8 ⟨rfl, hb8⟩
        have H8 := Lib.hid (bcall H7.out hb8 H7.out.size)
        clear hb8 cx
        have cy0 : w8.cell? ⟨gy, 0, none⟩ = some (.slice ay (n1 + 1) cy) := by rw [cell_of_row _ _ _ _ _ _ ((H8.out.block _ (lt_of_heap H6.out.2.2.2.2.1)).trans H6.out.2.2.2.2.1)]; rfl
        have hwn : IntKind.i64.wrap ((n1 : Int) + 1) = (n1 : Int) + 1 := Ix.wrap_in (by omega) (by omega)
        go_wp2_with fail
        refine (H.out.2.2.2.2.2.1 _ _ _ (H6.out.2.2.2.2.2.below H8.out)).mono ?_
        rintro e w9 ⟨a9, c9, rfl, -, hb9⟩
        have H9 := Lib.hid (bcall H8.out hb9 H8.out.size)
        clear hb9 cy0
        have cx : w9.cell? ⟨gx, 0, none⟩ = some (.slice a n1 ca) := by rw [cell_of_row _ _ _ _ _ _ ((H9.out.block _ (lt_of_heap H6.out.2.1)).trans H6.out.2.1)]; rfl
        go_wp2_with fail
        refine (H.out.2.2.2.2.1 _ _ _ (H6.out.2.2.1.below H9.out)).mono ?_
        rintro e w10 ⟨a10, c10, rfl, ho10, hb10⟩
        have H10 := Lib.hid (And.intro (bcall H9.out hb10 H9.out.size) (rwAt_own ho10))
        clear hb10 ho10 cx
        go_wp2_with fail
        refine (H.out.2.2.2.2.2.2.1 _ _ _ H10.out.2).mono ?_
        rintro e w11 ⟨a11, c11, rfl, ho11, hb11⟩
        have H11 := Lib.hid (And.intro (bcall H10.out.1 hb11 H10.out.1.size) (rwAt_own ho11))
        clear hb11 ho11
        go_wp2_with fail
        refine (H.out.2.2.2.2.2.2.2.1 _ _ _ _ _ H11.out.2 (H6.out.2.2.2.1.below H11.out.1)).mono ?_
        rintro e w12 ⟨rfl, hb12⟩
        have H12 := Lib.hid (bcall H11.out.1 hb12 H11.out.1.size)
        clear hb12
        go_wp2_with fail
        go_ret
        exact ⟨rfl, bcall H6.out.1 H12.out H6.out.1.size⟩
end Go.Proofs.YtdfkpjmljaanpaaDoor

namespace Go.Proofs.YtdfkpjmljaanpaaDoor.indexKeepsLaw
open Go.ChangeShapes Go.WideShapes Go.ChangeAt Go.RowKit
open Go.ChangeMaps (open_string shut_string)

set_option maxRecDepth 100000 in
theorem contract (H : Type) (enc : TypeId × Value → H) (W : World) (base : Nat) (args : Array Value) (ds gs : List (DataW H)) (before : List MemPlace)
    (hval : ∀ (j : Nat) t v, Tryd.f3.params[j]? = some t → args[j]? = some v → Value.okWide Tryd.prog W .any base t v)
    (hW : DataW.Whole enc Tryd.prog Tryd.f3.params.toList Rows.indexKeepsSpec.vars false W args.toList ds gs before) (hL : laidMetH Tryd.prog Rows.indexKeepsRow.laid W) :
    Calls Tryd.prog 3 args W fun e W' => ∃ v, e = .returned v ∧ Rows.indexKeepsSpec.post enc Tryd.prog Tryd.f3 false true false false W args v W' := by
  have hW' := hW
  obtain ⟨p, q, hA0, hV, rfl, hfz, hnd⟩ := hW
  have hA : DataW.TrodAll enc Tryd.prog W 0 (fun _ => true) true Tryd.f3.params.toList args.toList ds p := hA0
  rw [Tryd.params3] at hA hval
  obtain ⟨v0, vs0, d0, ds0, p0, q0, hargs, rfl, rfl, h0, r0⟩ := trodAll_cons hA
  obtain ⟨rfl, rfl, rfl⟩ := trodAll_nil r0
  obtain rfl : args = #[v0] := by cases args; simp_all
  obtain ⟨rfl, rfl⟩ := trodVars_none hV
  obtain ⟨a0, len0, cap0, rfl⟩ := okWide_slice Tryd.underlying22 (hval 0 22 v0 rfl rfl)
  have hk0 := h0
  obtain ⟨fuel0, hf0⟩ := h0
  clear hA0
  simp only [List.append_nil] at hW'
  have hlt0 : ∀ x ∈ p0, x.block < W.heap.size := fun x hx => by simpa using hW'.lt x (by simp [hx])
  obtain ⟨ss0, hlen0, hmax0, hT0⟩ := lads_of hf0 hlt0
  subst hlen0
  refine (ixkeeps_law ss0 a0 cap0 hT0 hmax0 (w := W) (hG := glob_of_laid hL)).mono fun e W' ⟨he, hb⟩ => ?_
  subst he
  exact ⟨_, rfl, _, _, _, [], _, [], hW', trodAll_cons_mk (shut_bool Tryd.underlying4 _) trodAll_mk0, (trodAll_cons_mk (Below.trod laidOut (by kernel_rfl) (of_decide_eq_true (by kernel_rfl)) hk0 hb hlt0) trodAll_mk0), rfl, hb.frame _, fun h => by cases h⟩
theorem laid_met (os : Os) : laidMet Tryd.prog Rows.indexKeepsRow.laid ((laidWorld os).forCall (fun _ _ => 0) ⟨#[], #[.slice none 0 0], []⟩).memory :=
  laidMet_of_run' 8 (by kernel_rfl) (by kernel_rfl)
theorem reads (os : Os) {H : Type} (enc : TypeId × Value → H) : ∃ places, DataW.whole enc Tryd.prog ((laidWorld os).forCall (fun _ _ => 0) ⟨#[], #[.slice none 0 0], []⟩).memory Tryd.f3.params.toList Rows.indexKeepsSpec.vars false #[Value.slice none 0 0].toList 8 = some ([.nil], [], places) :=
  ⟨[], by kernel_rfl⟩
set_option maxRecDepth 100000 in
theorem lifted (os : Os) (started : os.Started) (H : Type) (enc : TypeId × Value → H) (F : Stop.Interp) :
    ReturnsInHanded {} Tryd.checked os 3 .any ((OpenSpec.ofChange Rows.indexKeepsSpec).preRow enc Tryd.prog Tryd.f3 Rows.indexKeepsRow.domain false Rows.indexKeepsRow.laid) (((OpenSpec.ofChange Rows.indexKeepsSpec).at F).post enc Tryd.prog Tryd.f3 false true false false) := by
  obtain ⟨places, hx⟩ := reads os enc
  refine returnsInHanded_of_row (C := Tryd.checked) (s := OpenSpec.ofChange Rows.indexKeepsSpec) own started (by kernel_rfl) Tryd.func3
    (witness_row_at (enc := enc) (C := Tryd.checked) false (laidWorld os) #[.slice none 0 0] rfl (by kernel_rfl) (by kernel_rfl) (by kernel_rfl)
      (OpenSpec.preRow_of_cond 8 hx (by kernel_rfl) (fun k hk => by cases hk) (by kernel_rfl) (laid_met os))) ?_
  intro W base args ds gs before hval hW _ _ _ hL _ _
  exact contract H enc W base args ds gs before hval hW hL
theorem said : Rows.IndexKeepsSaid :=
  OpenClaim.holds_of_cond 3 Tryd.f3 rfl rfl rfl rfl rfl rfl rfl ⟨rfl, rfl, rfl, rfl, rfl⟩ rfl rfl rfl rfl rfl (by kernel_rfl) Tryd.func3 (by kernel_rfl)
    (of_decide_eq_true (by kernel_rfl)) (by unfold Func.isWrapper; first | (rw [if_pos (by decide +kernel)]; kernel_rfl) | (rw [if_neg (by decide +kernel)]; exact ⟨rfl, rfl⟩))
    (fun os started H enc _ F => by rw [OpenClaim.pre_eq_preRow]; exact lifted os started H enc F)
theorem plain (f : FuncId) (fn : Func) (hf : Tryd.pinned.checked.prog.funcNamed "lockbox/lockboxlaw18.IndexKeeps" = some f) (hfn : Tryd.pinned.checked.prog.funcs[f]? = some fn) :
    false = Tryd.pinned.checked.prog.looks [] ∧ ∀ (j : Nat) t, fn.params[j]? = some t → Tryd.pinned.checked.prog.wantsStandIn t = false := by
  obtain rfl : f = 3 := Option.some.inj ((show Tryd.prog.funcNamed "lockbox/lockboxlaw18.IndexKeeps" = some 3 by kernel_rfl).symm.trans hf) |>.symm
  obtain rfl : fn = Tryd.f3 := (Option.some.inj (Tryd.func3.symm.trans hfn)).symm
  refine ⟨by kernel_rfl, fun j t ht => ?_⟩
  rw [Tryd.params3] at ht
  have hm : t ∈ [22] := by simpa using Array.mem_of_getElem? ht
  have hall : ([22].all fun u => !Tryd.prog.wantsStandIn u) = true := by kernel_rfl
  exact (show Tryd.prog.wantsStandIn t = false by simpa using List.all_eq_true.1 hall t hm)
end Go.Proofs.YtdfkpjmljaanpaaDoor.indexKeepsLaw

namespace Go.Proofs.YtdfkpjmljaanpaaDoor
/-- THE CARD. -/
theorem indexKeeps_card : Rows.IndexKeepsCardSaid :=
  Claim7.holds_tied_plain_at .later [] _ _ _ _ indexKeepsLaw.said (fun _ h => by cases h) (by kernel_rfl) (fun _ h => by cases h) indexKeeps_row_tie rfl ⟨rfl, rfl⟩ (by kernel_rfl) rfl indexKeepsLaw.plain (by kernel_rfl)
end Go.Proofs.YtdfkpjmljaanpaaDoor
