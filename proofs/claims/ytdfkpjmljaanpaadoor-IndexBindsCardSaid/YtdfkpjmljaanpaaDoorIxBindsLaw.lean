/- PROVED HERE: for every list of leaves with tags, every tag and every proof the law IndexBinds returns true (what is verified with the root of the index of the first 30 leaves is the index's row of the tag, or that it has none, or there are two unlike texts of one digest among those of the root and of the proof), and all read afterwards as it did. Its conditions: the package-level tables of digest hold what their initialisers give (the tied card). -/
import Derived.Test.YtdfkpjmljaanpaaDoorIxMd
import Derived.Test.YtdfkpjmljaanpaaDoorMX9
import Derived.Test.YtdfkpjmljaanpaaDoorIxAwk
import Derived.Test.YtdfkpjmljaanpaaDoorBX2
import Derived.Test.YtdfkpjmljaanpaaDoorLaid
namespace Go.Proofs.YtdfkpjmljaanpaaDoor
open Go.RowKit
open Cn

/-- What a law has of an index that was made. -/
structure IxF (R : List Rw) : Prop where
  rise : Ix.Rise R
  ok : ∀ r ∈ R, Ix.rwOk r
  few : R.length ≤ 400
theorem ixF_of (l : List Lad) (mo : Nat) (_ : mo ≤ 50) : IxF (Ix.mdI ((ladP l).take mo)).1 := by
  have hk := Ix.mdI_ok ((ladP l).take mo)
  have hl : ((ladP l).take mo).length ≤ mo := by rw [List.length_take]; omega
  have h2 := hk.hi
  have h3 := hk.few
  exact ⟨hk.good.rise, hk.good.ok (by omega), by omega⟩
theorem fn_plc {R : List Rw} (t : ByteArray) : (∃ r j, Ix.fnd R t = some r ∧ Ix.plc R t 0 = (j : Nat) ∧ R[j]? = some r) ∨ (Ix.fnd R t = none ∧ Ix.plc R t 0 = -1) := by
  cases h : Ix.fnd R t with
  | none => exact Or.inr ⟨rfl, Ix.plc_none 0 h⟩
  | some r =>
    obtain ⟨j, h1, h2⟩ := Ix.plc_some 0 h
    exact Or.inl ⟨r, j, rfl, by rw [h1, Nat.zero_add], h2⟩
theorem small_app {X Y : List ByteArray} (hx : ∀ y ∈ X, y.size ≤ 300) (hy : ∀ y ∈ Y, y.size ≤ 300) : ∀ j, j < (X ++ Y).length → (gt (X ++ Y) j).size ≤ 100000 := fun j hj => by
  have hm : gt (X ++ Y) j ∈ X ++ Y := by
    unfold gt
    rw [List.getD_eq_getElem?_getD, List.getElem?_eq_getElem hj]
    exact List.getElem_mem hj
  rcases List.mem_append.1 hm with h | h
  · have := hx _ h; omega
  · have := hy _ h; omega
set_option maxRecDepth 100000 in
set_option maxHeartbeats 40000000 in
theorem ixbinds_law {w : World} (l : List Lad) (a0 : Option Addr) (cap : Nat) (hT : LadsAt w a0 l) (hm : l.length ≤ maxLen) (t : ByteArray) (_ : t.size ≤ maxLen) (p : IxA) (hp : p.Ok w) (hG : Glob w) :
    Calls Tryd.prog 4 #[.slice a0 l.length cap, .string t, .agg p.cs] w fun e w' => e = .returned (.bool true) ∧ Below w.heap.size w w' := by
  obtain ⟨pn, pa, pl, pc⟩ := p
  obtain ⟨pN, hpN⟩ : ∃ pN, pN = pl.length := ⟨_, rfl⟩
  have hcs : IxA.cs ⟨pn, pa, pl, pc⟩ = #[.int .i64 pn, .slice pa pN pc] := by rw [hpN]; rfl
  rw [hcs]
  obtain ⟨w1, hw1⟩ : ∃ w1, w1 = w.alloc (.cells #[.int .i64 pn, .slice pa pN pc] 50) := ⟨_, rfl⟩
  have hb1 : Below w.heap.size w w1 := by rw [hw1]; exact (Below.refl _ _).alloc (Nat.le_refl _) _
  have hg1 : w1.heap[w.heap.size]? = some (.cells #[.int .i64 pn, .slice pa pN pc] 50 (0, 0)) := by rw [hw1]; exact heap_alloc_new _ _
  have hmd := made18_any l a0 cap 30 (by decide) w1 (hT.below hb1) hm
  have hfp := fun (W : World) (hb : Below w.heap.size w W) => fewProof_any pl pn pa pc W (hp.rows.below hb) (by have h1 := hp.len; have h2 := hp.cap; unfold maxLen at h2; simp only at h1 h2; omega)
  have hX := ixF_of l 30 (by decide)
  have hk := Ix.mdI_ok ((ladP l).take 30)
  have hl30 : ((ladP l).take 30).length ≤ 30 := by rw [List.length_take]; omega
  have hgd := hk.good
  have hhi := hk.hi
  clear hk
  unfold MdPost at hmd
  obtain ⟨R, hR⟩ : ∃ R, R = (Ix.mdI ((ladP l).take 30)).1 := ⟨_, rfl⟩
  rw [← hR] at hmd hX hgd
  obtain ⟨n1, hn1⟩ : ∃ n1, n1 = R.length := ⟨_, rfl⟩
  rw [← hn1] at hmd
  obtain ⟨N, hN⟩ : ∃ N, N = l.length := ⟨_, rfl⟩
  rw [← hN] at hmd ⊢
  obtain ⟨FP, hFP⟩ : ∃ FP, FP = fewP pl := ⟨_, rfl⟩
  rw [← hpN, ← hFP] at hfp
  have H := Lib.hid (And.intro hmd (And.intro hfp (And.intro hX (And.intro hn1 (And.intro hFP (And.intro hp (And.intro hb1 hg1)))))))
  have HG := Lib.hid hG
  have HPN := Lib.hid hpN
  have HGD := Lib.hid (And.intro hgd (And.intro hhi hl30))
  clear hmd hfp hX hn1 hFP hp hb1 hg1 hG hgd hhi hl30 hcs hR hN hpN hm hT
  go_enter Tryd.func4, Tryd.ntmps4
  go_upto_region 1 with fail
  rw [← hw1]
  clear hw1
  go_wp2_with fail
  refine H.out.1.mono ?_
  rintro e w2 ⟨a, ca, r, rc, rfl, hoa, hna, hor, hb2⟩
  obtain ⟨w3, hw3⟩ : ∃ w3, w3 = w2.alloc (.cells #[.slice a n1 ca] 25) := ⟨_, rfl⟩
  have hb3 : Below w2.heap.size w2 w3 := by rw [hw3]; exact (Below.refl _ _).alloc (Nat.le_refl _) _
  have hg3 : w3.heap[w2.heap.size]? = some (.cells #[.slice a n1 ca] 25 (0, 0)) := by rw [hw3]; exact heap_alloc_new _ _
  have hb13 := bcall hb2 hb3 hb2.size
  have H3 := Lib.hid (And.intro (bcall H.out.2.2.2.2.2.2.1 hb13 H.out.2.2.2.2.2.2.1.size) (And.intro ((hb13.block _ (lt_of_heap H.out.2.2.2.2.2.2.2)).trans H.out.2.2.2.2.2.2.2) (And.intro hg3 (And.intro ((rwAt_own hoa).below hb3) (And.intro ((rwAt_own hor).below hb3) hna)))))
  obtain ⟨gx, hgx⟩ : ∃ gx, gx = w2.heap.size := ⟨_, rfl⟩
  rw [← hgx] at H3
  clear hoa hna hor hb2 hb3 hg3 hb13
  go_upto_region 2 with fail
  rw [← hw3, ← hgx]
  clear hw3 hgx
  by_cases ht : ¬ t.size ≤ 100
  · have ht2 : (100 : Int) < (t.size : Int) := by omega
    clear ht
    go_wp2_with fail
    refine (awake18_any _).mono ?_
    rintro e w4 ⟨rfl, hb4⟩
    have H4 := Lib.hid (bcall H3.out.1 hb4 H3.out.1.size)
    clear hb4
    go_wp2_with fail
    go_ret
    exact ⟨rfl, H4.out⟩
  have ht2 : ¬ (100 : Int) < (t.size : Int) := by omega
  obtain ⟨p0, p1⟩ : w3.cell? ⟨w.heap.size, 0, none⟩ = some (.int .i64 pn) ∧ w3.cell? ⟨w.heap.size, 1, none⟩ = some (.slice pa pN pc) := ⟨by rw [cell_of_row _ _ _ _ _ _ H3.out.2.1]; rfl, by rw [cell_of_row _ _ _ _ _ _ H3.out.2.1]; rfl⟩
  clear ht
  go_wp2_with fail
  refine (H.out.2.1 _ H3.out.1).mono ?_
  rintro e w4 ⟨rfl, hb4⟩
  have H4 := Lib.hid (And.intro (bcall H3.out.1 hb4 H3.out.1.size) (And.intro ((hb4.block _ (lt_of_heap H3.out.2.1)).trans H3.out.2.1) (And.intro ((hb4.block _ (lt_of_heap H3.out.2.2.1)).trans H3.out.2.2.1) (And.intro (H3.out.2.2.2.1.below hb4) (H3.out.2.2.2.2.1.below hb4)))))
  clear hb4 p0 p1
  by_cases hF : FP = false
  · subst hF
    go_wp2_with fail
    refine (awake18_any _).mono ?_
    rintro e w5 ⟨rfl, hb5⟩
    have H5 := Lib.hid (bcall H4.out.1 hb5 H4.out.1.size)
    clear hb5
    go_wp2_with fail
    go_ret
    exact ⟨rfl, H5.out⟩
  obtain rfl : FP = true := by cases FP; exact absurd rfl hF; rfl
  clear hF
  go_wp2_with fail
  refine (awake18_any _).mono ?_
  rintro e w5 ⟨rfl, hb5⟩
  have H5 := Lib.hid (And.intro (bcall H4.out.1 hb5 H4.out.1.size) (And.intro ((hb5.block _ (lt_of_heap H4.out.2.1)).trans H4.out.2.1) (And.intro ((hb5.block _ (lt_of_heap H4.out.2.2.1)).trans H4.out.2.2.1) (And.intro (H4.out.2.2.2.1.below hb5) (H4.out.2.2.2.2.below hb5)))))
  clear hb5
  obtain ⟨hf4, hf30⟩ := few_of H.out.2.2.2.2.1.symm
  have hR4 := H.out.2.2.1.few
  have hrt := fun (W : World) (hb : Below w.heap.size w W) (h : RwAt W a R) => root18_any R a ca W (HG.out.below hb) h (by omega) H.out.2.2.1.ok
  have hvf := fun (W : World) (hb : Below w.heap.size w W) => verify18_any (Ix.rtI R) t pn pl pa pc W (HG.out.below hb) (H.out.2.2.2.2.2.1.rows.below hb) (by omega) (fun s hs => by have := hf30 s hs; omega)
  have hrf := fun (W : World) (h : RwAt W r R) => rfind18_any R r rc t W h (by omega)
  have htx := fun (W : World) (hb : Below w.heap.size w W) (h : RwAt W a R) => textsX_any R a ca W (HG.out.below hb) h (by omega) H.out.2.2.1.ok
  have hpt := fun (hk : ∀ s ∈ pl, Ix.rwOk s.row) (W : World) (hb : Below w.heap.size w W) => ptexts_any pn pl pa pc W (HG.out.below hb) (H.out.2.2.2.2.2.1.rows.below hb) (by omega) (fun s hs => ⟨hk s hs, by have := hf30 s hs; omega⟩)
  have hpl := fun (hk : pl.all (Ix.leadsB (Ix.rtI R) pn) = true) => ptR_leads hk
  have hsz := fun (hk : pl.all (Ix.leadsB (Ix.rtI R) pn) = true) => And.intro (txI_small H.out.2.2.1.ok (by omega)) (ptI_small hk)
  have hln : (Ix.txI R).length ≤ 1000 ∧ (ptR pn pl).length ≤ 500000 := by
    refine ⟨by rw [Ix.txI_len]; omega, ?_⟩
    unfold ptR
    split
    · simp
    · have := flat_len pn pl (fun s hs => by have := hf30 s hs; omega); omega
  have hwn := fun (ss : List ByteArray) (a0 : Option Addr) (c : Nat) (W : World) (hb : Below w.heap.size w W) (hT : TextsAt W a0 ss) (h1 : ss.length ≤ 1000000) (h2 : ∀ j, j < ss.length → (gt ss j).size ≤ 100000) (h3 : Tr.TwinIn ss) => witnessed_any ss a0 c W (HG.out.below hb) hT h1 h2 h3
  obtain ⟨V, hV⟩ : ∃ V, V = Ix.verI (Ix.rtI R) t pn pl := ⟨_, rfl⟩
  rw [← hV] at hvf
  obtain ⟨⟨f1, f2, f3⟩, fb, fe⟩ := V
  have hall := fun (e : fe = true) => ver_all (hV.symm.trans (by rw [e]))
  have hbn := fun (e : fe = true) => Ix.ver_binds HGD.out.1 (by have := HGD.out.2.1; have := HGD.out.2.2; omega) (by omega) (hV.symm.trans (by rw [e]))
  clear hV
  obtain ⟨RT, hRT⟩ : ∃ RT, RT = Ix.rtI R := ⟨_, rfl⟩
  obtain ⟨er, her⟩ : ∃ er : Int, er = if fe = true then 0 else 12 := ⟨_, rfl⟩
  simp only [vfV, rwCs] at hvf
  rw [← her] at hvf
  rw [← hRT] at hrt hvf hall hpl hsz
  rw [← HPN.out] at hvf hpt
  rw [← H.out.2.2.2.1] at hrt hrf htx
  have hfp := fn_plc (R := R) t
  obtain ⟨K, hK⟩ : ∃ K, K = Ix.plc R t 0 := ⟨_, rfl⟩
  rw [← hK] at hfp hrf
  have hn4 : n1 ≤ 400 := by rw [H.out.2.2.2.1]; exact hR4
  obtain ⟨X, hX⟩ : ∃ X, X = Ix.txI R := ⟨_, rfl⟩
  obtain ⟨Y, hY⟩ : ∃ Y, Y = ptR pn pl := ⟨_, rfl⟩
  rw [← hX] at htx hsz hln hbn
  rw [← hY] at hpt hpl hln
  obtain ⟨nx, hnx⟩ : ∃ nx, nx = X.length := ⟨_, rfl⟩
  obtain ⟨ny, hny⟩ : ∃ ny, ny = Y.length := ⟨_, rfl⟩
  rw [← hnx] at htx hln
  rw [← hny] at hpt hln
  have HR := Lib.hid (And.intro hrt (And.intro hvf (And.intro hrf (And.intro htx (And.intro hpt hwn)))))
  have HV := Lib.hid (And.intro hall (And.intro hbn (And.intro hpl (And.intro hsz (And.intro hln (And.intro hfp (And.intro hnx (And.intro hny her))))))))
  clear hf4 hf30 hR4 hrt hvf hrf htx hpt hwn hall hbn hpl hsz hln hfp hnx hny her hRT hK hX hY
  go_upto_region 4 with fail
  go_cut [10, 11, 12] (fun y q e wc => ∃ gr : Nat, y = .pointer (some ⟨gr, 0, none⟩) ∧ q = .bool fb ∧ e = .int .i64 er ∧ wc.heap[gr]? = some (.cells #[.string f1, .int .i64 f2, .int .i64 f3] 38 (0, 0)) ∧ Below w5.heap.size w5 wc)
  case first =>
    go_wp2_with fail
    refine wp_region_held (S := fun W : World => (W.heap[gx]? = some (.cells #[.slice a n1 ca] 25 (0, 0)) ∧ W.heap[w.heap.size]? = some (.cells #[.int .i64 pn, .slice pa pN pc] 50 (0, 0)))) (by kernel_rfl) ?_
    change wpAnyH _ _ _ _ _ _ _ _ (World.drew _)
    generalize hv0 : World.drew _ = v0
    have E0 : (v0.heap[gx]? = some (.cells #[.slice a n1 ca] 25 (0, 0)) ∧ v0.heap[w.heap.size]? = some (.cells #[.int .i64 pn, .slice pa pN pc] 50 (0, 0))) := by rw [← hv0]; exact (show _ ∧ _ from ⟨H5.out.2.2.1, H5.out.2.1⟩)
    have F0 : Below w5.heap.size w5 v0 := by rw [← hv0]; exact ((Below.refl _ _).drew)
    clear hv0
    refine wpAnyH_take (i := 0) (v := ?_) rfl (by kernel_rfl) (by kernel_rfl) (by kernel_rfl) (fun _ _ _ h => h) (Or.inl ⟨by kernel_rfl, ?_⟩) E0 ?_
    rotate_left
    · (intro W hS; have k0 : W.cell? ⟨gx, 0, none⟩ = some (.slice a n1 ca) := (by rw [cell_of_row _ _ _ _ _ _ hS.1]; rfl); have k1 : W.cell? ⟨w.heap.size, 0, none⟩ = some (.int .i64 pn) := (by rw [cell_of_row _ _ _ _ _ _ hS.2]; rfl); have k2 : W.cell? ⟨w.heap.size, 1, none⟩ = some (.slice pa pN pc) := (by rw [cell_of_row _ _ _ _ _ _ hS.2]; rfl); go_simp; try (with_reducible rfl))
    refine wpAnyH_take (i := 2) (v := ?_) rfl (by kernel_rfl) (by kernel_rfl) (by kernel_rfl) (fun _ _ _ h => h) (Or.inl ⟨by kernel_rfl, ?_⟩) E0 ?_
    rotate_left
    · (intro W hS; have k0 : W.cell? ⟨gx, 0, none⟩ = some (.slice a n1 ca) := (by rw [cell_of_row _ _ _ _ _ _ hS.1]; rfl); have k1 : W.cell? ⟨w.heap.size, 0, none⟩ = some (.int .i64 pn) := (by rw [cell_of_row _ _ _ _ _ _ hS.2]; rfl); have k2 : W.cell? ⟨w.heap.size, 1, none⟩ = some (.slice pa pN pc) := (by rw [cell_of_row _ _ _ _ _ _ hS.2]; rfl); go_simp; try (with_reducible rfl))
    refine wpAnyH_take (i := 3) (v := ?_) rfl (by kernel_rfl) (by kernel_rfl) (by kernel_rfl) (fun _ _ _ h => h) (Or.inl ⟨by kernel_rfl, ?_⟩) E0 ?_
    rotate_left
    · (intro W hS; have k0 : W.cell? ⟨gx, 0, none⟩ = some (.slice a n1 ca) := (by rw [cell_of_row _ _ _ _ _ _ hS.1]; rfl); have k1 : W.cell? ⟨w.heap.size, 0, none⟩ = some (.int .i64 pn) := (by rw [cell_of_row _ _ _ _ _ _ hS.2]; rfl); have k2 : W.cell? ⟨w.heap.size, 1, none⟩ = some (.slice pa pN pc) := (by rw [cell_of_row _ _ _ _ _ _ hS.2]; rfl); go_simp; try (with_reducible rfl))
    refine wpAnyH_ready (rs := [1, 9]) (by kernel_rfl) (by simp) ?_
    refine AllReadyH.cons (i := 1) rfl (fun K hK => ?_) (AllReadyH.cons (i := 9) rfl (fun K hK => ?_) AllReadyH.nil)
    · go_simp
      refine (HR.out.1 v0 (bcall H5.out.1 F0 H5.out.1.size) (H5.out.2.2.2.1.below F0)).mono ?_
      rintro e v1 ⟨rfl, hb⟩
      have F1 := F0.trans (hb.mono F0.size)
      have E1 : (v1.heap[gx]? = some (.cells #[.slice a n1 ca] 25 (0, 0)) ∧ v1.heap[w.heap.size]? = some (.cells #[.int .i64 pn, .slice pa pN pc] 50 (0, 0))) := ⟨(hb.block _ (lt_of_heap E0.1)).trans E0.1, (hb.block _ (lt_of_heap E0.2)).trans E0.2⟩
      refine hK.out _ _ E1 (fun _ => ?_)
      clear hK K hb
      refine wpAnyH_ready (rs := [4, 9]) (by kernel_rfl) (by simp) ?_
      refine AllReadyH.cons (i := 4) rfl (fun K hK => ?_) (AllReadyH.cons (i := 9) rfl (fun K hK => ?_) AllReadyH.nil)
      · go_simp
        refine (HR.out.2.1 v1 (bcall H5.out.1 F1 H5.out.1.size)).mono ?_
        rintro e v2 ⟨rfl, hb⟩
        have F2 := F1.trans (hb.mono F1.size)
        have E2 : (v2.heap[gx]? = some (.cells #[.slice a n1 ca] 25 (0, 0)) ∧ v2.heap[w.heap.size]? = some (.cells #[.int .i64 pn, .slice pa pN pc] 50 (0, 0))) := ⟨(hb.block _ (lt_of_heap E1.1)).trans E1.1, (hb.block _ (lt_of_heap E1.2)).trans E1.2⟩
        refine hK.out _ _ E2 (fun _ => ?_)
        clear hK K hb
        refine wpAnyH_take (i := 5) (v := ?_) rfl (by kernel_rfl) (by kernel_rfl) (by kernel_rfl) (fun _ _ _ h => h) (Or.inl ⟨by kernel_rfl, ?_⟩) E2 ?_
        rotate_left
        · (intro W hS; have k0 : W.cell? ⟨gx, 0, none⟩ = some (.slice a n1 ca) := (by rw [cell_of_row _ _ _ _ _ _ hS.1]; rfl); have k1 : W.cell? ⟨w.heap.size, 0, none⟩ = some (.int .i64 pn) := (by rw [cell_of_row _ _ _ _ _ _ hS.2]; rfl); have k2 : W.cell? ⟨w.heap.size, 1, none⟩ = some (.slice pa pN pc) := (by rw [cell_of_row _ _ _ _ _ _ hS.2]; rfl); go_simp; try (with_reducible rfl))
        refine wpAnyH_take (i := 6) (v := ?_) rfl (by kernel_rfl) (by kernel_rfl) (by kernel_rfl) (fun _ _ _ h => h) (Or.inl ⟨by kernel_rfl, ?_⟩) E2 ?_
        rotate_left
        · (intro W hS; have k0 : W.cell? ⟨gx, 0, none⟩ = some (.slice a n1 ca) := (by rw [cell_of_row _ _ _ _ _ _ hS.1]; rfl); have k1 : W.cell? ⟨w.heap.size, 0, none⟩ = some (.int .i64 pn) := (by rw [cell_of_row _ _ _ _ _ _ hS.2]; rfl); have k2 : W.cell? ⟨w.heap.size, 1, none⟩ = some (.slice pa pN pc) := (by rw [cell_of_row _ _ _ _ _ _ hS.2]; rfl); go_simp; try (with_reducible rfl))
        refine wpAnyH_take (i := 7) (v := ?_) rfl (by kernel_rfl) (by kernel_rfl) (by kernel_rfl) (fun _ _ _ h => h) (Or.inl ⟨by kernel_rfl, ?_⟩) E2 ?_
        rotate_left
        · (intro W hS; have k0 : W.cell? ⟨gx, 0, none⟩ = some (.slice a n1 ca) := (by rw [cell_of_row _ _ _ _ _ _ hS.1]; rfl); have k1 : W.cell? ⟨w.heap.size, 0, none⟩ = some (.int .i64 pn) := (by rw [cell_of_row _ _ _ _ _ _ hS.2]; rfl); have k2 : W.cell? ⟨w.heap.size, 1, none⟩ = some (.slice pa pN pc) := (by rw [cell_of_row _ _ _ _ _ _ hS.2]; rfl); go_simp; try (with_reducible rfl))
        refine wpAnyH_take (i := 8) (v := ?_) rfl (by kernel_rfl) (by kernel_rfl) (by kernel_rfl) (fun _ _ _ h => h) (Or.inl ⟨by kernel_rfl, ?_⟩) E2 ?_
        rotate_left
        · (intro W hS; have k0 : W.cell? ⟨gx, 0, none⟩ = some (.slice a n1 ca) := (by rw [cell_of_row _ _ _ _ _ _ hS.1]; rfl); have k1 : W.cell? ⟨w.heap.size, 0, none⟩ = some (.int .i64 pn) := (by rw [cell_of_row _ _ _ _ _ _ hS.2]; rfl); have k2 : W.cell? ⟨w.heap.size, 1, none⟩ = some (.slice pa pN pc) := (by rw [cell_of_row _ _ _ _ _ _ hS.2]; rfl); go_simp; try (with_reducible rfl))
        refine wpAnyH_ready (rs := [9]) (by kernel_rfl) (by simp) ?_
        refine AllReadyH.cons (i := 9) rfl (fun K hK => ?_) AllReadyH.nil
        obtain ⟨v3, hv⟩ : ∃ v, v = v2.alloc (.cells (rwCs Ix.Rw.zero) 38) := ⟨_, rfl⟩
        have hb : Below v2.heap.size v2 v3 := by rw [hv]; exact (Below.refl _ _).alloc (Nat.le_refl _) _
        have gB : v3.heap[v2.heap.size]? = some (.cells (rwCs Ix.Rw.zero) 38 (0, 0)) := by rw [hv]; exact heap_alloc_new _ _
        have F3 := F2.trans (hb.mono F2.size)
        have E3 : (v3.heap[gx]? = some (.cells #[.slice a n1 ca] 25 (0, 0)) ∧ v3.heap[w.heap.size]? = some (.cells #[.int .i64 pn, .slice pa pN pc] 50 (0, 0))) := ⟨(hb.block _ (lt_of_heap E2.1)).trans E2.1, (hb.block _ (lt_of_heap E2.2)).trans E2.2⟩
        simp only [rwCs, Ix.Rw.zero] at hv
        go_simp
        rw [← hv]
        clear hv
        have hgz := lt_of_heap gB
        have hgl : w5.heap.size ≤ v2.heap.size := F2.size
        refine hK.out _ _ E3 (fun _ => ?_)
        clear hK K hb
        obtain ⟨d0, d1, d2⟩ := row3 gB
        simp only [Ix.Rw.zero] at d0 d1 d2
        have f9 : ∀ j, v3.frozen? ⟨v2.heap.size, j, none⟩ = false := fun j => frozen_of_row _ _ _ _ _ gB
        have hne : gx ≠ v2.heap.size := by have := lt_of_heap H5.out.2.2.1; omega
        have hne2 : w.heap.size ≠ v2.heap.size := by have := lt_of_heap H5.out.2.1; omega
        have hN : (((v3.setCell ⟨v2.heap.size, 0, none⟩ (.string f1)).setCell ⟨v2.heap.size, 1, none⟩ (.int .i64 f2)).setCell ⟨v2.heap.size, 2, none⟩ (.int .i64 f3)).heap[v2.heap.size]? = some (.cells #[.string f1, .int .i64 f2, .int .i64 f3] 38 (0, 0)) := by rw [heap_setCell_same _ _ _ _ _ _ (heap_setCell_same _ _ _ _ _ _ (heap_setCell_same _ _ _ _ _ _ gB))]; rfl
        have hN4 : Below w5.heap.size w5 (((v3.setCell ⟨v2.heap.size, 0, none⟩ (.string f1)).setCell ⟨v2.heap.size, 1, none⟩ (.int .i64 f2)).setCell ⟨v2.heap.size, 2, none⟩ (.int .i64 f3)) := rput3 F3 hgl _ _ _
        have EZ : ((((v3.setCell ⟨v2.heap.size, 0, none⟩ (.string f1)).setCell ⟨v2.heap.size, 1, none⟩ (.int .i64 f2)).setCell ⟨v2.heap.size, 2, none⟩ (.int .i64 f3)).heap[gx]? = some (.cells #[.slice a n1 ca] 25 (0, 0)) ∧ (((v3.setCell ⟨v2.heap.size, 0, none⟩ (.string f1)).setCell ⟨v2.heap.size, 1, none⟩ (.int .i64 f2)).setCell ⟨v2.heap.size, 2, none⟩ (.int .i64 f3)).heap[w.heap.size]? = some (.cells #[.int .i64 pn, .slice pa pN pc] 50 (0, 0))) := ⟨(heap_setCell_other _ ⟨v2.heap.size, 2, none⟩ _ (.int .i64 f3) hne).trans ((heap_setCell_other _ ⟨v2.heap.size, 1, none⟩ _ (.int .i64 f2) hne).trans ((heap_setCell_other v3 ⟨v2.heap.size, 0, none⟩ _ (.string f1) hne).trans E3.1)), (heap_setCell_other _ ⟨v2.heap.size, 2, none⟩ _ (.int .i64 f3) hne2).trans ((heap_setCell_other _ ⟨v2.heap.size, 1, none⟩ _ (.int .i64 f2) hne2).trans ((heap_setCell_other v3 ⟨v2.heap.size, 0, none⟩ _ (.string f1) hne2).trans E3.2))⟩
        have HN := Lib.hid (And.intro hN hN4)
        clear hN hN4 gB
        refine wpAnyH_ready (rs := [10]) (by kernel_rfl) (by simp) ?_
        refine AllReadyH.cons (i := 10) rfl (fun K hK => ?_) AllReadyH.nil
        go_simp
        refine hK.out _ _ EZ (fun _ => ?_)
        clear hK K d0 d1 d2 f9
        refine wpAnyH_take (i := 11) (v := ?_) rfl (by kernel_rfl) (by kernel_rfl) (by kernel_rfl) (fun _ _ _ h => h) (Or.inl ⟨by kernel_rfl, ?_⟩) EZ ?_
        rotate_left
        · (intro W hS; have k0 : W.cell? ⟨gx, 0, none⟩ = some (.slice a n1 ca) := (by rw [cell_of_row _ _ _ _ _ _ hS.1]; rfl); have k1 : W.cell? ⟨w.heap.size, 0, none⟩ = some (.int .i64 pn) := (by rw [cell_of_row _ _ _ _ _ _ hS.2]; rfl); have k2 : W.cell? ⟨w.heap.size, 1, none⟩ = some (.slice pa pN pc) := (by rw [cell_of_row _ _ _ _ _ _ hS.2]; rfl); go_simp; try (with_reducible rfl))
        refine wpAnyH_take (i := 12) (v := ?_) rfl (by kernel_rfl) (by kernel_rfl) (by kernel_rfl) (fun _ _ _ h => h) (Or.inl ⟨by kernel_rfl, ?_⟩) EZ ?_
        rotate_left
        · (intro W hS; have k0 : W.cell? ⟨gx, 0, none⟩ = some (.slice a n1 ca) := (by rw [cell_of_row _ _ _ _ _ _ hS.1]; rfl); have k1 : W.cell? ⟨w.heap.size, 0, none⟩ = some (.int .i64 pn) := (by rw [cell_of_row _ _ _ _ _ _ hS.2]; rfl); have k2 : W.cell? ⟨w.heap.size, 1, none⟩ = some (.slice pa pN pc) := (by rw [cell_of_row _ _ _ _ _ _ hS.2]; rfl); go_simp; try (with_reducible rfl))
        refine wpAnyH_done (by kernel_rfl) ?_ _
        go_simp
        clear EZ
        generalize World.setCell _ _ _ = wz at *
        go_wp2_with fail
        go_meet
        exact ⟨_, rfl, rfl, rfl, HN.out.1, HN.out.2⟩
      · obtain ⟨v2, hv⟩ : ∃ v, v = v1.alloc (.cells (rwCs Ix.Rw.zero) 38) := ⟨_, rfl⟩
        have hb : Below v1.heap.size v1 v2 := by rw [hv]; exact (Below.refl _ _).alloc (Nat.le_refl _) _
        have gB : v2.heap[v1.heap.size]? = some (.cells (rwCs Ix.Rw.zero) 38 (0, 0)) := by rw [hv]; exact heap_alloc_new _ _
        have F2 := F1.trans (hb.mono F1.size)
        have E2 : (v2.heap[gx]? = some (.cells #[.slice a n1 ca] 25 (0, 0)) ∧ v2.heap[w.heap.size]? = some (.cells #[.int .i64 pn, .slice pa pN pc] 50 (0, 0))) := ⟨(hb.block _ (lt_of_heap E1.1)).trans E1.1, (hb.block _ (lt_of_heap E1.2)).trans E1.2⟩
        simp only [rwCs, Ix.Rw.zero] at hv
        go_simp
        rw [← hv]
        clear hv
        have hgz := lt_of_heap gB
        have hgl : w5.heap.size ≤ v1.heap.size := F1.size
        refine hK.out _ _ E2 (fun _ => ?_)
        clear hK K hb
        refine wpAnyH_ready (rs := [4]) (by kernel_rfl) (by simp) ?_
        refine AllReadyH.cons (i := 4) rfl (fun K hK => ?_) AllReadyH.nil
        go_simp
        refine (HR.out.2.1 v2 (bcall H5.out.1 F2 H5.out.1.size)).mono ?_
        rintro e v3 ⟨rfl, hb⟩
        have F3 := F2.trans (hb.mono F2.size)
        have E3 : (v3.heap[gx]? = some (.cells #[.slice a n1 ca] 25 (0, 0)) ∧ v3.heap[w.heap.size]? = some (.cells #[.int .i64 pn, .slice pa pN pc] 50 (0, 0))) := ⟨(hb.block _ (lt_of_heap E2.1)).trans E2.1, (hb.block _ (lt_of_heap E2.2)).trans E2.2⟩
        have gB := (hb.block _ (lt_of_heap gB)).trans gB
        have hgz := Nat.lt_of_lt_of_le hgz hb.size
        refine hK.out _ _ E3 (fun _ => ?_)
        clear hK K hb
        refine wpAnyH_take (i := 5) (v := ?_) rfl (by kernel_rfl) (by kernel_rfl) (by kernel_rfl) (fun _ _ _ h => h) (Or.inl ⟨by kernel_rfl, ?_⟩) E3 ?_
        rotate_left
        · (intro W hS; have k0 : W.cell? ⟨gx, 0, none⟩ = some (.slice a n1 ca) := (by rw [cell_of_row _ _ _ _ _ _ hS.1]; rfl); have k1 : W.cell? ⟨w.heap.size, 0, none⟩ = some (.int .i64 pn) := (by rw [cell_of_row _ _ _ _ _ _ hS.2]; rfl); have k2 : W.cell? ⟨w.heap.size, 1, none⟩ = some (.slice pa pN pc) := (by rw [cell_of_row _ _ _ _ _ _ hS.2]; rfl); go_simp; try (with_reducible rfl))
        refine wpAnyH_take (i := 6) (v := ?_) rfl (by kernel_rfl) (by kernel_rfl) (by kernel_rfl) (fun _ _ _ h => h) (Or.inl ⟨by kernel_rfl, ?_⟩) E3 ?_
        rotate_left
        · (intro W hS; have k0 : W.cell? ⟨gx, 0, none⟩ = some (.slice a n1 ca) := (by rw [cell_of_row _ _ _ _ _ _ hS.1]; rfl); have k1 : W.cell? ⟨w.heap.size, 0, none⟩ = some (.int .i64 pn) := (by rw [cell_of_row _ _ _ _ _ _ hS.2]; rfl); have k2 : W.cell? ⟨w.heap.size, 1, none⟩ = some (.slice pa pN pc) := (by rw [cell_of_row _ _ _ _ _ _ hS.2]; rfl); go_simp; try (with_reducible rfl))
        refine wpAnyH_take (i := 7) (v := ?_) rfl (by kernel_rfl) (by kernel_rfl) (by kernel_rfl) (fun _ _ _ h => h) (Or.inl ⟨by kernel_rfl, ?_⟩) E3 ?_
        rotate_left
        · (intro W hS; have k0 : W.cell? ⟨gx, 0, none⟩ = some (.slice a n1 ca) := (by rw [cell_of_row _ _ _ _ _ _ hS.1]; rfl); have k1 : W.cell? ⟨w.heap.size, 0, none⟩ = some (.int .i64 pn) := (by rw [cell_of_row _ _ _ _ _ _ hS.2]; rfl); have k2 : W.cell? ⟨w.heap.size, 1, none⟩ = some (.slice pa pN pc) := (by rw [cell_of_row _ _ _ _ _ _ hS.2]; rfl); go_simp; try (with_reducible rfl))
        refine wpAnyH_take (i := 8) (v := ?_) rfl (by kernel_rfl) (by kernel_rfl) (by kernel_rfl) (fun _ _ _ h => h) (Or.inl ⟨by kernel_rfl, ?_⟩) E3 ?_
        rotate_left
        · (intro W hS; have k0 : W.cell? ⟨gx, 0, none⟩ = some (.slice a n1 ca) := (by rw [cell_of_row _ _ _ _ _ _ hS.1]; rfl); have k1 : W.cell? ⟨w.heap.size, 0, none⟩ = some (.int .i64 pn) := (by rw [cell_of_row _ _ _ _ _ _ hS.2]; rfl); have k2 : W.cell? ⟨w.heap.size, 1, none⟩ = some (.slice pa pN pc) := (by rw [cell_of_row _ _ _ _ _ _ hS.2]; rfl); go_simp; try (with_reducible rfl))
        obtain ⟨d0, d1, d2⟩ := row3 gB
        simp only [Ix.Rw.zero] at d0 d1 d2
        have f9 : ∀ j, v3.frozen? ⟨v1.heap.size, j, none⟩ = false := fun j => frozen_of_row _ _ _ _ _ gB
        have hne : gx ≠ v1.heap.size := by have := lt_of_heap H5.out.2.2.1; omega
        have hne2 : w.heap.size ≠ v1.heap.size := by have := lt_of_heap H5.out.2.1; omega
        have hN : (((v3.setCell ⟨v1.heap.size, 0, none⟩ (.string f1)).setCell ⟨v1.heap.size, 1, none⟩ (.int .i64 f2)).setCell ⟨v1.heap.size, 2, none⟩ (.int .i64 f3)).heap[v1.heap.size]? = some (.cells #[.string f1, .int .i64 f2, .int .i64 f3] 38 (0, 0)) := by rw [heap_setCell_same _ _ _ _ _ _ (heap_setCell_same _ _ _ _ _ _ (heap_setCell_same _ _ _ _ _ _ gB))]; rfl
        have hN4 : Below w5.heap.size w5 (((v3.setCell ⟨v1.heap.size, 0, none⟩ (.string f1)).setCell ⟨v1.heap.size, 1, none⟩ (.int .i64 f2)).setCell ⟨v1.heap.size, 2, none⟩ (.int .i64 f3)) := rput3 F3 hgl _ _ _
        have EZ : ((((v3.setCell ⟨v1.heap.size, 0, none⟩ (.string f1)).setCell ⟨v1.heap.size, 1, none⟩ (.int .i64 f2)).setCell ⟨v1.heap.size, 2, none⟩ (.int .i64 f3)).heap[gx]? = some (.cells #[.slice a n1 ca] 25 (0, 0)) ∧ (((v3.setCell ⟨v1.heap.size, 0, none⟩ (.string f1)).setCell ⟨v1.heap.size, 1, none⟩ (.int .i64 f2)).setCell ⟨v1.heap.size, 2, none⟩ (.int .i64 f3)).heap[w.heap.size]? = some (.cells #[.int .i64 pn, .slice pa pN pc] 50 (0, 0))) := ⟨(heap_setCell_other _ ⟨v1.heap.size, 2, none⟩ _ (.int .i64 f3) hne).trans ((heap_setCell_other _ ⟨v1.heap.size, 1, none⟩ _ (.int .i64 f2) hne).trans ((heap_setCell_other v3 ⟨v1.heap.size, 0, none⟩ _ (.string f1) hne).trans E3.1)), (heap_setCell_other _ ⟨v1.heap.size, 2, none⟩ _ (.int .i64 f3) hne2).trans ((heap_setCell_other _ ⟨v1.heap.size, 1, none⟩ _ (.int .i64 f2) hne2).trans ((heap_setCell_other v3 ⟨v1.heap.size, 0, none⟩ _ (.string f1) hne2).trans E3.2))⟩
        have HN := Lib.hid (And.intro hN hN4)
        clear hN hN4 gB
        refine wpAnyH_ready (rs := [10]) (by kernel_rfl) (by simp) ?_
        refine AllReadyH.cons (i := 10) rfl (fun K hK => ?_) AllReadyH.nil
        go_simp
        refine hK.out _ _ EZ (fun _ => ?_)
        clear hK K d0 d1 d2 f9
        refine wpAnyH_take (i := 11) (v := ?_) rfl (by kernel_rfl) (by kernel_rfl) (by kernel_rfl) (fun _ _ _ h => h) (Or.inl ⟨by kernel_rfl, ?_⟩) EZ ?_
        rotate_left
        · (intro W hS; have k0 : W.cell? ⟨gx, 0, none⟩ = some (.slice a n1 ca) := (by rw [cell_of_row _ _ _ _ _ _ hS.1]; rfl); have k1 : W.cell? ⟨w.heap.size, 0, none⟩ = some (.int .i64 pn) := (by rw [cell_of_row _ _ _ _ _ _ hS.2]; rfl); have k2 : W.cell? ⟨w.heap.size, 1, none⟩ = some (.slice pa pN pc) := (by rw [cell_of_row _ _ _ _ _ _ hS.2]; rfl); go_simp; try (with_reducible rfl))
        refine wpAnyH_take (i := 12) (v := ?_) rfl (by kernel_rfl) (by kernel_rfl) (by kernel_rfl) (fun _ _ _ h => h) (Or.inl ⟨by kernel_rfl, ?_⟩) EZ ?_
        rotate_left
        · (intro W hS; have k0 : W.cell? ⟨gx, 0, none⟩ = some (.slice a n1 ca) := (by rw [cell_of_row _ _ _ _ _ _ hS.1]; rfl); have k1 : W.cell? ⟨w.heap.size, 0, none⟩ = some (.int .i64 pn) := (by rw [cell_of_row _ _ _ _ _ _ hS.2]; rfl); have k2 : W.cell? ⟨w.heap.size, 1, none⟩ = some (.slice pa pN pc) := (by rw [cell_of_row _ _ _ _ _ _ hS.2]; rfl); go_simp; try (with_reducible rfl))
        refine wpAnyH_done (by kernel_rfl) ?_ _
        go_simp
        clear EZ
        generalize World.setCell _ _ _ = wz at *
        go_wp2_with fail
        go_meet
        exact ⟨_, rfl, rfl, rfl, HN.out.1, HN.out.2⟩
    · obtain ⟨v1, hv⟩ : ∃ v, v = v0.alloc (.cells (rwCs Ix.Rw.zero) 38) := ⟨_, rfl⟩
      have hb : Below v0.heap.size v0 v1 := by rw [hv]; exact (Below.refl _ _).alloc (Nat.le_refl _) _
      have gB : v1.heap[v0.heap.size]? = some (.cells (rwCs Ix.Rw.zero) 38 (0, 0)) := by rw [hv]; exact heap_alloc_new _ _
      have F1 := F0.trans (hb.mono F0.size)
      have E1 : (v1.heap[gx]? = some (.cells #[.slice a n1 ca] 25 (0, 0)) ∧ v1.heap[w.heap.size]? = some (.cells #[.int .i64 pn, .slice pa pN pc] 50 (0, 0))) := ⟨(hb.block _ (lt_of_heap E0.1)).trans E0.1, (hb.block _ (lt_of_heap E0.2)).trans E0.2⟩
      simp only [rwCs, Ix.Rw.zero] at hv
      go_simp
      rw [← hv]
      clear hv
      have hgz := lt_of_heap gB
      have hgl : w5.heap.size ≤ v0.heap.size := F0.size
      refine hK.out _ _ E1 (fun _ => ?_)
      clear hK K hb
      refine wpAnyH_ready (rs := [1]) (by kernel_rfl) (by simp) ?_
      refine AllReadyH.cons (i := 1) rfl (fun K hK => ?_) AllReadyH.nil
      go_simp
      refine (HR.out.1 v1 (bcall H5.out.1 F1 H5.out.1.size) (H5.out.2.2.2.1.below F1)).mono ?_
      rintro e v2 ⟨rfl, hb⟩
      have F2 := F1.trans (hb.mono F1.size)
      have E2 : (v2.heap[gx]? = some (.cells #[.slice a n1 ca] 25 (0, 0)) ∧ v2.heap[w.heap.size]? = some (.cells #[.int .i64 pn, .slice pa pN pc] 50 (0, 0))) := ⟨(hb.block _ (lt_of_heap E1.1)).trans E1.1, (hb.block _ (lt_of_heap E1.2)).trans E1.2⟩
      have gB := (hb.block _ (lt_of_heap gB)).trans gB
      have hgz := Nat.lt_of_lt_of_le hgz hb.size
      refine hK.out _ _ E2 (fun _ => ?_)
      clear hK K hb
      refine wpAnyH_ready (rs := [4]) (by kernel_rfl) (by simp) ?_
      refine AllReadyH.cons (i := 4) rfl (fun K hK => ?_) AllReadyH.nil
      go_simp
      refine (HR.out.2.1 v2 (bcall H5.out.1 F2 H5.out.1.size)).mono ?_
      rintro e v3 ⟨rfl, hb⟩
      have F3 := F2.trans (hb.mono F2.size)
      have E3 : (v3.heap[gx]? = some (.cells #[.slice a n1 ca] 25 (0, 0)) ∧ v3.heap[w.heap.size]? = some (.cells #[.int .i64 pn, .slice pa pN pc] 50 (0, 0))) := ⟨(hb.block _ (lt_of_heap E2.1)).trans E2.1, (hb.block _ (lt_of_heap E2.2)).trans E2.2⟩
      have gB := (hb.block _ (lt_of_heap gB)).trans gB
      have hgz := Nat.lt_of_lt_of_le hgz hb.size
      refine hK.out _ _ E3 (fun _ => ?_)
      clear hK K hb
      refine wpAnyH_take (i := 5) (v := ?_) rfl (by kernel_rfl) (by kernel_rfl) (by kernel_rfl) (fun _ _ _ h => h) (Or.inl ⟨by kernel_rfl, ?_⟩) E3 ?_
      rotate_left
      · (intro W hS; have k0 : W.cell? ⟨gx, 0, none⟩ = some (.slice a n1 ca) := (by rw [cell_of_row _ _ _ _ _ _ hS.1]; rfl); have k1 : W.cell? ⟨w.heap.size, 0, none⟩ = some (.int .i64 pn) := (by rw [cell_of_row _ _ _ _ _ _ hS.2]; rfl); have k2 : W.cell? ⟨w.heap.size, 1, none⟩ = some (.slice pa pN pc) := (by rw [cell_of_row _ _ _ _ _ _ hS.2]; rfl); go_simp; try (with_reducible rfl))
      refine wpAnyH_take (i := 6) (v := ?_) rfl (by kernel_rfl) (by kernel_rfl) (by kernel_rfl) (fun _ _ _ h => h) (Or.inl ⟨by kernel_rfl, ?_⟩) E3 ?_
      rotate_left
      · (intro W hS; have k0 : W.cell? ⟨gx, 0, none⟩ = some (.slice a n1 ca) := (by rw [cell_of_row _ _ _ _ _ _ hS.1]; rfl); have k1 : W.cell? ⟨w.heap.size, 0, none⟩ = some (.int .i64 pn) := (by rw [cell_of_row _ _ _ _ _ _ hS.2]; rfl); have k2 : W.cell? ⟨w.heap.size, 1, none⟩ = some (.slice pa pN pc) := (by rw [cell_of_row _ _ _ _ _ _ hS.2]; rfl); go_simp; try (with_reducible rfl))
      refine wpAnyH_take (i := 7) (v := ?_) rfl (by kernel_rfl) (by kernel_rfl) (by kernel_rfl) (fun _ _ _ h => h) (Or.inl ⟨by kernel_rfl, ?_⟩) E3 ?_
      rotate_left
      · (intro W hS; have k0 : W.cell? ⟨gx, 0, none⟩ = some (.slice a n1 ca) := (by rw [cell_of_row _ _ _ _ _ _ hS.1]; rfl); have k1 : W.cell? ⟨w.heap.size, 0, none⟩ = some (.int .i64 pn) := (by rw [cell_of_row _ _ _ _ _ _ hS.2]; rfl); have k2 : W.cell? ⟨w.heap.size, 1, none⟩ = some (.slice pa pN pc) := (by rw [cell_of_row _ _ _ _ _ _ hS.2]; rfl); go_simp; try (with_reducible rfl))
      refine wpAnyH_take (i := 8) (v := ?_) rfl (by kernel_rfl) (by kernel_rfl) (by kernel_rfl) (fun _ _ _ h => h) (Or.inl ⟨by kernel_rfl, ?_⟩) E3 ?_
      rotate_left
      · (intro W hS; have k0 : W.cell? ⟨gx, 0, none⟩ = some (.slice a n1 ca) := (by rw [cell_of_row _ _ _ _ _ _ hS.1]; rfl); have k1 : W.cell? ⟨w.heap.size, 0, none⟩ = some (.int .i64 pn) := (by rw [cell_of_row _ _ _ _ _ _ hS.2]; rfl); have k2 : W.cell? ⟨w.heap.size, 1, none⟩ = some (.slice pa pN pc) := (by rw [cell_of_row _ _ _ _ _ _ hS.2]; rfl); go_simp; try (with_reducible rfl))
      obtain ⟨d0, d1, d2⟩ := row3 gB
      simp only [Ix.Rw.zero] at d0 d1 d2
      have f9 : ∀ j, v3.frozen? ⟨v0.heap.size, j, none⟩ = false := fun j => frozen_of_row _ _ _ _ _ gB
      have hne : gx ≠ v0.heap.size := by have := lt_of_heap H5.out.2.2.1; omega
      have hne2 : w.heap.size ≠ v0.heap.size := by have := lt_of_heap H5.out.2.1; omega
      have hN : (((v3.setCell ⟨v0.heap.size, 0, none⟩ (.string f1)).setCell ⟨v0.heap.size, 1, none⟩ (.int .i64 f2)).setCell ⟨v0.heap.size, 2, none⟩ (.int .i64 f3)).heap[v0.heap.size]? = some (.cells #[.string f1, .int .i64 f2, .int .i64 f3] 38 (0, 0)) := by rw [heap_setCell_same _ _ _ _ _ _ (heap_setCell_same _ _ _ _ _ _ (heap_setCell_same _ _ _ _ _ _ gB))]; rfl
      have hN4 : Below w5.heap.size w5 (((v3.setCell ⟨v0.heap.size, 0, none⟩ (.string f1)).setCell ⟨v0.heap.size, 1, none⟩ (.int .i64 f2)).setCell ⟨v0.heap.size, 2, none⟩ (.int .i64 f3)) := rput3 F3 hgl _ _ _
      have EZ : ((((v3.setCell ⟨v0.heap.size, 0, none⟩ (.string f1)).setCell ⟨v0.heap.size, 1, none⟩ (.int .i64 f2)).setCell ⟨v0.heap.size, 2, none⟩ (.int .i64 f3)).heap[gx]? = some (.cells #[.slice a n1 ca] 25 (0, 0)) ∧ (((v3.setCell ⟨v0.heap.size, 0, none⟩ (.string f1)).setCell ⟨v0.heap.size, 1, none⟩ (.int .i64 f2)).setCell ⟨v0.heap.size, 2, none⟩ (.int .i64 f3)).heap[w.heap.size]? = some (.cells #[.int .i64 pn, .slice pa pN pc] 50 (0, 0))) := ⟨(heap_setCell_other _ ⟨v0.heap.size, 2, none⟩ _ (.int .i64 f3) hne).trans ((heap_setCell_other _ ⟨v0.heap.size, 1, none⟩ _ (.int .i64 f2) hne).trans ((heap_setCell_other v3 ⟨v0.heap.size, 0, none⟩ _ (.string f1) hne).trans E3.1)), (heap_setCell_other _ ⟨v0.heap.size, 2, none⟩ _ (.int .i64 f3) hne2).trans ((heap_setCell_other _ ⟨v0.heap.size, 1, none⟩ _ (.int .i64 f2) hne2).trans ((heap_setCell_other v3 ⟨v0.heap.size, 0, none⟩ _ (.string f1) hne2).trans E3.2))⟩
      have HN := Lib.hid (And.intro hN hN4)
      clear hN hN4 gB
      refine wpAnyH_ready (rs := [10]) (by kernel_rfl) (by simp) ?_
      refine AllReadyH.cons (i := 10) rfl (fun K hK => ?_) AllReadyH.nil
      go_simp
      refine hK.out _ _ EZ (fun _ => ?_)
      clear hK K d0 d1 d2 f9
      refine wpAnyH_take (i := 11) (v := ?_) rfl (by kernel_rfl) (by kernel_rfl) (by kernel_rfl) (fun _ _ _ h => h) (Or.inl ⟨by kernel_rfl, ?_⟩) EZ ?_
      rotate_left
      · (intro W hS; have k0 : W.cell? ⟨gx, 0, none⟩ = some (.slice a n1 ca) := (by rw [cell_of_row _ _ _ _ _ _ hS.1]; rfl); have k1 : W.cell? ⟨w.heap.size, 0, none⟩ = some (.int .i64 pn) := (by rw [cell_of_row _ _ _ _ _ _ hS.2]; rfl); have k2 : W.cell? ⟨w.heap.size, 1, none⟩ = some (.slice pa pN pc) := (by rw [cell_of_row _ _ _ _ _ _ hS.2]; rfl); go_simp; try (with_reducible rfl))
      refine wpAnyH_take (i := 12) (v := ?_) rfl (by kernel_rfl) (by kernel_rfl) (by kernel_rfl) (fun _ _ _ h => h) (Or.inl ⟨by kernel_rfl, ?_⟩) EZ ?_
      rotate_left
      · (intro W hS; have k0 : W.cell? ⟨gx, 0, none⟩ = some (.slice a n1 ca) := (by rw [cell_of_row _ _ _ _ _ _ hS.1]; rfl); have k1 : W.cell? ⟨w.heap.size, 0, none⟩ = some (.int .i64 pn) := (by rw [cell_of_row _ _ _ _ _ _ hS.2]; rfl); have k2 : W.cell? ⟨w.heap.size, 1, none⟩ = some (.slice pa pN pc) := (by rw [cell_of_row _ _ _ _ _ _ hS.2]; rfl); go_simp; try (with_reducible rfl))
      refine wpAnyH_done (by kernel_rfl) ?_ _
      go_simp
      clear EZ
      generalize World.setCell _ _ _ = wz at *
      go_wp2_with fail
      go_meet
      exact ⟨_, rfl, rfl, rfl, HN.out.1, HN.out.2⟩
  case rest =>
    obtain ⟨gr, rfl, rfl, rfl, hgr, hbd⟩ := hcut
    obtain ⟨wD, hwD⟩ : ∃ wD, wD = wc := ⟨_, rfl⟩
    subst hwD
    have HD := Lib.hid (And.intro (bcall H5.out.1 hbd H5.out.1.size) (And.intro hgr (And.intro ((hbd.block _ (lt_of_heap H5.out.2.1)).trans H5.out.2.1) (And.intro ((hbd.block _ (lt_of_heap H5.out.2.2.1)).trans H5.out.2.2.1) (And.intro (H5.out.2.2.2.1.below hbd) (H5.out.2.2.2.2.below hbd))))))
    clear hgr hbd
    go_wp2_with fail
    refine (HR.out.2.2.1 _ HD.out.2.2.2.2.2).mono ?_
    rintro e w6 ⟨rfl, rfl⟩
    obtain ⟨d0, d1, d2⟩ : w6.cell? ⟨gr, 0, none⟩ = some (.string f1) ∧ w6.cell? ⟨gr, 1, none⟩ = some (.int .i64 f2) ∧ w6.cell? ⟨gr, 2, none⟩ = some (.int .i64 f3) := ⟨by rw [cell_of_row _ _ _ _ _ _ HD.out.2.1]; rfl, by rw [cell_of_row _ _ _ _ _ _ HD.out.2.1]; rfl, by rw [cell_of_row _ _ _ _ _ _ HD.out.2.1]; rfl⟩
    go_upto_region 6 with fail
    go_cut [71] (fun v wc => ∃ gd : Bool, v = .bool gd ∧ (gd = false → Tr.TwinIn (X ++ Y) ∧ fe = true) ∧ Below w6.heap.size w6 wc)
    case first =>
      cases fe with
      | false =>
        obtain rfl : er = 12 := HV.out.2.2.2.2.2.2.2.2
        go_wp2_with fail
        go_quiet (fail)
        have HB := Lib.hid (below_drewN (Below.refl _ _) nq : Below w6.heap.size w6 (w6.drewN nq))
        generalize w6.drewN nq = w9 at *
        go_wp2_with fail
        go_meet
        exact ⟨true, rfl, (fun h => by cases h), HB.out⟩
      | true =>
        obtain rfl : er = 0 := HV.out.2.2.2.2.2.2.2.2
        have hbn : (fb = true ∧ Ix.fnd R t = some ⟨f1, f2, f3⟩ ∨ fb = false ∧ Ix.fnd R t = none) ∨ Tr.TwinIn (X ++ Y) := by rw [HV.out.2.2.1 (HV.out.1 rfl)]; exact HV.out.2.1 rfl
        have HW := Lib.hid hbn
        clear hbn
        rcases HV.out.2.2.2.2.2.1 with ⟨q, j, hq, hKj, hj⟩ | ⟨hq, hKj⟩
        · subst hKj
          have hj0 : (0 : Int) ≤ (j : Int) := by omega
          cases fb with
          | true =>
            obtain ⟨b, off, rfl, -, q0, q1, q2⟩ := HD.out.2.2.2.2.2 j _ hj
            have hjn : j < n1 := by rw [H.out.2.2.2.1]; exact (List.getElem?_eq_some_iff.1 hj).1
            have he := fun W => equalRw ⟨f1, f2, f3⟩ q W
            obtain ⟨Z, hZ⟩ : ∃ Z, Z = eqRw ⟨f1, f2, f3⟩ q := ⟨_, rfl⟩
            rw [← hZ] at he
            simp only at q0 q1 q2 he
            have hTW : Z = false → Tr.TwinIn (X ++ Y) := fun hz => HW.out.resolve_left (by
              rintro (⟨-, h⟩ | ⟨h, -⟩)
              · rw [hq] at h
                rw [eqRw_iff.2 (Option.some.inj h).symm, hz] at hZ
                cases hZ
              · cases h)
            have HT := Lib.hid hTW
            clear hZ hj hq hTW
            cases Z with
            | true =>
              go_wp2_with fail
              go_quiet (fail)
              have HB := Lib.hid (below_drewN (Below.refl _ _) nq : Below w6.heap.size w6 (w6.drewN nq))
              generalize w6.drewN nq = w9 at *
              go_wp2_with fail
              go_meet
              exact ⟨true, rfl, (fun h => by cases h), HB.out⟩
            | false =>
              go_wp2_with fail
              go_quiet (fail)
              have HB := Lib.hid (below_drewN (Below.refl _ _) nq : Below w6.heap.size w6 (w6.drewN nq))
              generalize w6.drewN nq = w9 at *
              go_wp2_with fail
              go_meet
              exact ⟨false, rfl, fun _ => ⟨HT.out (by first | rfl | trivial), by first | rfl | trivial⟩, HB.out⟩
          | false =>
            have HT := Lib.hid (fun _ : (false = false) => HW.out.resolve_left (by
              rintro (⟨h, -⟩ | ⟨-, h⟩)
              · cases h
              · rw [hq] at h; cases h))
            clear hj hq
            go_wp2_with fail
            go_quiet (fail)
            have HB := Lib.hid (below_drewN (Below.refl _ _) nq : Below w6.heap.size w6 (w6.drewN nq))
            generalize w6.drewN nq = w9 at *
            go_wp2_with fail
            go_meet
            exact ⟨false, rfl, fun _ => ⟨HT.out (by first | rfl | trivial), by first | rfl | trivial⟩, HB.out⟩
        · subst hKj
          cases fb with
          | true =>
            have HT := Lib.hid (fun _ : (false = false) => HW.out.resolve_left (by
              rintro (⟨-, h⟩ | ⟨h, -⟩)
              · rw [hq] at h; cases h
              · cases h))
            clear hq
            go_wp2_with fail
            go_quiet (fail)
            have HB := Lib.hid (below_drewN (Below.refl _ _) nq : Below w6.heap.size w6 (w6.drewN nq))
            generalize w6.drewN nq = w9 at *
            go_wp2_with fail
            go_meet
            exact ⟨false, rfl, fun _ => ⟨HT.out (by first | rfl | trivial), by first | rfl | trivial⟩, HB.out⟩
          | false =>
            clear hq
            go_wp2_with fail
            go_quiet (fail)
            have HB := Lib.hid (below_drewN (Below.refl _ _) nq : Below w6.heap.size w6 (w6.drewN nq))
            generalize w6.drewN nq = w9 at *
            go_wp2_with fail
            go_meet
            exact ⟨true, rfl, (fun h => by cases h), HB.out⟩
    case rest =>
      obtain ⟨gd, rfl, htw, hbe⟩ := hcut
      obtain ⟨w9, hw9⟩ : ∃ w9, w9 = wc := ⟨_, rfl⟩
      subst hw9
      have H9 := Lib.hid (And.intro (bcall HD.out.1 hbe HD.out.1.size) (And.intro ((hbe.block _ (lt_of_heap HD.out.2.2.1)).trans HD.out.2.2.1) (And.intro ((hbe.block _ (lt_of_heap HD.out.2.2.2.1)).trans HD.out.2.2.2.1) (HD.out.2.2.2.2.1.below hbe))))
      clear hbe d0 d1 d2
      cases gd with
      | true =>
        clear htw
        go_wp2_with fail
        go_ret
        exact ⟨rfl, H9.out.1⟩
      | false =>
        obtain ⟨hTW, rfl⟩ := htw rfl
        have hX3 := (HV.out.2.2.2.1 (HV.out.1 rfl)).1
        have hY3 := (HV.out.2.2.2.1 (HV.out.1 rfl)).2
        have hYe := HV.out.2.2.1 (HV.out.1 rfl)
        have hrk := leads_ok (HV.out.1 rfl)
        rw [← hYe] at hY3
        have hlXY : (X ++ Y).length = nx + ny := by rw [List.length_append, HV.out.2.2.2.2.2.2.1, HV.out.2.2.2.2.2.2.2.1]
        have hsml := small_app hX3 hY3
        have hwn := fun (a0 : Option Addr) (c : Nat) (W : World) (hb : Below w.heap.size w W) (hT : TextsAt W a0 (X ++ Y)) => HR.out.2.2.2.2.2 (X ++ Y) a0 c W hb hT (by rw [hlXY]; have := HV.out.2.2.2.2.1; omega) hsml hTW
        rw [hlXY] at hwn
        have HW := Lib.hid (And.intro hrk hwn)
        clear hX3 hY3 hYe hrk hlXY hsml hwn hTW
        go_upto_region 8 with fail
        go_wp2_with fail
        refine wp_region_held (S := fun W : World => (W.heap[gx]? = some (.cells #[.slice a n1 ca] 25 (0, 0)) ∧ W.heap[w.heap.size]? = some (.cells #[.int .i64 pn, .slice pa pN pc] 50 (0, 0)))) (by kernel_rfl) ?_
        change wpAnyH _ _ _ _ _ _ _ _ (World.drew _)
        generalize hv0 : World.drew _ = v0
        have E0 : (v0.heap[gx]? = some (.cells #[.slice a n1 ca] 25 (0, 0)) ∧ v0.heap[w.heap.size]? = some (.cells #[.int .i64 pn, .slice pa pN pc] 50 (0, 0))) := by rw [← hv0]; exact (show _ ∧ _ from ⟨H9.out.2.2.1, H9.out.2.1⟩)
        have F0 : Below w9.heap.size w9 v0 := by rw [← hv0]; exact ((Below.refl _ _).drew)
        clear hv0
        refine wpAnyH_take (i := 0) (v := ?_) rfl (by kernel_rfl) (by kernel_rfl) (by kernel_rfl) (fun _ _ _ h => h) (Or.inl ⟨by kernel_rfl, ?_⟩) E0 ?_
        rotate_left
        · (intro W hS; have k0 : W.cell? ⟨gx, 0, none⟩ = some (.slice a n1 ca) := (by rw [cell_of_row _ _ _ _ _ _ hS.1]; rfl); have k1 : W.cell? ⟨w.heap.size, 0, none⟩ = some (.int .i64 pn) := (by rw [cell_of_row _ _ _ _ _ _ hS.2]; rfl); have k2 : W.cell? ⟨w.heap.size, 1, none⟩ = some (.slice pa pN pc) := (by rw [cell_of_row _ _ _ _ _ _ hS.2]; rfl); go_simp; try (with_reducible rfl))
        refine wpAnyH_take (i := 2) (v := ?_) rfl (by kernel_rfl) (by kernel_rfl) (by kernel_rfl) (fun _ _ _ h => h) (Or.inl ⟨by kernel_rfl, ?_⟩) E0 ?_
        rotate_left
        · (intro W hS; have k0 : W.cell? ⟨gx, 0, none⟩ = some (.slice a n1 ca) := (by rw [cell_of_row _ _ _ _ _ _ hS.1]; rfl); have k1 : W.cell? ⟨w.heap.size, 0, none⟩ = some (.int .i64 pn) := (by rw [cell_of_row _ _ _ _ _ _ hS.2]; rfl); have k2 : W.cell? ⟨w.heap.size, 1, none⟩ = some (.slice pa pN pc) := (by rw [cell_of_row _ _ _ _ _ _ hS.2]; rfl); go_simp; try (with_reducible rfl))
        refine wpAnyH_ready (rs := [1]) (by kernel_rfl) (by simp) ?_
        refine AllReadyH.cons (i := 1) rfl (fun K hK => ?_) AllReadyH.nil
        go_simp
        refine (HR.out.2.2.2.1 v0 (bcall H9.out.1 F0 H9.out.1.size) (H9.out.2.2.2.below F0)).mono ?_
        rintro e v1 ⟨ax, cx, rfl, hoX, hb⟩
        have F1 := F0.trans (hb.mono F0.size)
        have E1 : (v1.heap[gx]? = some (.cells #[.slice a n1 ca] 25 (0, 0)) ∧ v1.heap[w.heap.size]? = some (.cells #[.int .i64 pn, .slice pa pN pc] 50 (0, 0))) := ⟨(hb.block _ (lt_of_heap E0.1)).trans E0.1, (hb.block _ (lt_of_heap E0.2)).trans E0.2⟩
        have hz1 : v0.heap.size ≤ v1.heap.size := hb.size
        refine hK.out _ _ E1 (fun _ => ?_)
        clear hK K hb
        refine wpAnyH_ready (rs := [3]) (by kernel_rfl) (by simp) ?_
        refine AllReadyH.cons (i := 3) rfl (fun K hK => ?_) AllReadyH.nil
        go_simp
        refine (HR.out.2.2.2.2.1 HW.out.1 v1 (bcall H9.out.1 F1 H9.out.1.size)).mono ?_
        rintro e v2 ⟨ay, cy, rfl, htY, hb⟩
        have F2 := F1.trans (hb.mono F1.size)
        have E2 : (v2.heap[gx]? = some (.cells #[.slice a n1 ca] 25 (0, 0)) ∧ v2.heap[w.heap.size]? = some (.cells #[.int .i64 pn, .slice pa pN pc] 50 (0, 0))) := ⟨(hb.block _ (lt_of_heap E1.1)).trans E1.1, (hb.block _ (lt_of_heap E1.2)).trans E1.2⟩
        have hoX := OwnT.call hoX hb
        have hz2 := Nat.le_trans hz1 hb.size
        refine hK.out _ _ E2 (fun _ => ?_)
        clear hK K hb
        refine wpAnyH_ready (rs := [4]) (by kernel_rfl) (by simp) ?_
        refine AllReadyH.cons (i := 4) rfl (fun K hK => ?_) AllReadyH.nil
        refine step_append_texts rfl (.tmp 73) (.tmp 75) rfl hoX nx HV.out.2.2.2.2.2.2.1.symm (by kernel_rfl) ay cy ny Y HV.out.2.2.2.2.2.2.2.1.symm (by kernel_rfl) htY (by have := HV.out.2.2.2.2.1; omega) hz2 (Below.refl _ _) ?_
        intro ad cp v3 ho hb
        have F3 := F2.trans (hb.mono F0.size)
        have E3 : (v3.heap[gx]? = some (.cells #[.slice a n1 ca] 25 (0, 0)) ∧ v3.heap[w.heap.size]? = some (.cells #[.int .i64 pn, .slice pa pN pc] 50 (0, 0))) := ⟨(hb.block _ (lt_of_heap E0.1)).trans E2.1, (hb.block _ (lt_of_heap E0.2)).trans E2.2⟩
        have htZ := OwnT.texts ho
        clear ho hoX htY
        refine hK.out _ _ E3 (fun _ => ?_)
        clear hK K hb
        refine wpAnyH_ready (rs := [5]) (by kernel_rfl) (by simp) ?_
        refine AllReadyH.cons (i := 5) rfl (fun K hK => ?_) AllReadyH.nil
        go_simp
        refine (HW.out.2 ad cp v3 (bcall H9.out.1 F3 H9.out.1.size) htZ).mono ?_
        rintro e v4 ⟨rfl, hb⟩
        have F4 := F3.trans (hb.mono F3.size)
        have E4 : (v4.heap[gx]? = some (.cells #[.slice a n1 ca] 25 (0, 0)) ∧ v4.heap[w.heap.size]? = some (.cells #[.int .i64 pn, .slice pa pN pc] 50 (0, 0))) := ⟨(hb.block _ (lt_of_heap E3.1)).trans E3.1, (hb.block _ (lt_of_heap E3.2)).trans E3.2⟩
        refine hK.out _ _ E4 (fun _ => ?_)
        clear hK K hb
        refine wpAnyH_take (i := 6) (v := ?_) rfl (by kernel_rfl) (by kernel_rfl) (by kernel_rfl) (fun _ _ _ h => h) (Or.inl ⟨by kernel_rfl, ?_⟩) E4 ?_
        rotate_left
        · (intro W hS; have k0 : W.cell? ⟨gx, 0, none⟩ = some (.slice a n1 ca) := (by rw [cell_of_row _ _ _ _ _ _ hS.1]; rfl); have k1 : W.cell? ⟨w.heap.size, 0, none⟩ = some (.int .i64 pn) := (by rw [cell_of_row _ _ _ _ _ _ hS.2]; rfl); have k2 : W.cell? ⟨w.heap.size, 1, none⟩ = some (.slice pa pN pc) := (by rw [cell_of_row _ _ _ _ _ _ hS.2]; rfl); go_simp; try (with_reducible rfl))
        refine wpAnyH_done (by kernel_rfl) ?_ _
        go_simp
        have HN := Lib.hid F4
        clear E0 F0 E1 F1 E2 F2 E3 F3 E4 F4 hz1 hz2
        go_wp2_with fail
        go_ret
        exact ⟨rfl, bcall H9.out.1 HN.out H9.out.1.size⟩
end Go.Proofs.YtdfkpjmljaanpaaDoor

namespace Go.Proofs.YtdfkpjmljaanpaaDoor.indexBindsLaw
open Go.ChangeShapes Go.WideShapes Go.ChangeAt Go.RowKit
open Go.ChangeMaps (open_string shut_string)

set_option maxRecDepth 100000 in
theorem contract (H : Type) (enc : TypeId × Value → H) (W : World) (base : Nat) (args : Array Value) (ds gs : List (DataW H)) (before : List MemPlace)
    (hval : ∀ (j : Nat) t v, Tryd.f4.params[j]? = some t → args[j]? = some v → Value.okWide Tryd.prog W .any base t v)
    (hW : DataW.Whole enc Tryd.prog Tryd.f4.params.toList Rows.indexBindsSpec.vars false W args.toList ds gs before) (hL : laidMetH Tryd.prog Rows.indexBindsRow.laid W) :
    Calls Tryd.prog 4 args W fun e W' => ∃ v, e = .returned v ∧ Rows.indexBindsSpec.post enc Tryd.prog Tryd.f4 false true false false W args v W' := by
  have hW' := hW
  obtain ⟨p, q, hA0, hV, rfl, hfz, hnd⟩ := hW
  have hA : DataW.TrodAll enc Tryd.prog W 0 (fun _ => true) true Tryd.f4.params.toList args.toList ds p := hA0
  rw [Tryd.params4] at hA hval
  obtain ⟨v0, vs0, d0, ds0, p0, q0, hargs, rfl, rfl, h0, r0⟩ := trodAll_cons hA
  obtain ⟨v1, vs1, d1, ds1, p1, q1, rfl, rfl, rfl, h1, r1⟩ := trodAll_cons r0
  obtain ⟨v2, vs2, d2, ds2, p2, q2, rfl, rfl, rfl, h2, r2⟩ := trodAll_cons r1
  obtain ⟨rfl, rfl, rfl⟩ := trodAll_nil r2
  obtain rfl : args = #[v0, v1, v2] := by cases args; simp_all
  obtain ⟨rfl, rfl⟩ := trodVars_none hV
  obtain ⟨a0, len0, cap0, rfl⟩ := okWide_slice Tryd.underlying22 (hval 0 22 v0 rfl rfl)
  have hk0 := h0
  obtain ⟨fuel0, hf0⟩ := h0
  obtain ⟨s1, rfl, rfl, rfl, ws1⟩ := open_string Tryd.underlying9 (hval 1 9 v1 rfl rfl) h1
  obtain ⟨cs2, rfl, hcs2⟩ := okWide_struct Tryd.underlying50 (hval 2 50 v2 rfl rfl)
  have hk2 := h2
  obtain ⟨fuel2, hf2⟩ := h2
  clear hA0
  simp only [List.append_nil, List.nil_append] at hW'
  have hlt0 : ∀ x ∈ p0, x.block < W.heap.size := fun x hx => by simpa using hW'.lt x (by simp [hx])
  obtain ⟨ss0, hlen0, hmax0, hT0⟩ := lads_of hf0 hlt0
  subst hlen0
  have hlt2 : ∀ x ∈ p2, x.block < W.heap.size := fun x hx => by simpa using hW'.lt x (by simp [hx])
  obtain ⟨x2a, hit2, hf2a⟩ := open_ixa hf2 hlt2
  obtain rfl : cs2 = IxA.cs x2a := Array.toList_inj.1 hit2
  refine (ixbinds_law ss0 a0 cap0 hT0 hmax0 s1 (by simpa using ws1) x2a hf2a (w := W) (hG := glob_of_laid hL)).mono fun e W' ⟨he, hb⟩ => ?_
  subst he
  exact ⟨_, rfl, _, _, _, [], _, [], hW', trodAll_cons_mk (shut_bool Tryd.underlying4 _) trodAll_mk0, (trodAll_cons_mk (Below.trod laidOut (by kernel_rfl) (of_decide_eq_true (by kernel_rfl)) hk0 hb hlt0) (trodAll_cons_mk (shut_string Tryd.underlying9 ws1) (trodAll_cons_mk (Below.trod laidOut (by kernel_rfl) (of_decide_eq_true (by kernel_rfl)) hk2 hb hlt2) trodAll_mk0))), rfl, hb.frame _, fun h => by cases h⟩
theorem laid_met (os : Os) : laidMet Tryd.prog Rows.indexBindsRow.laid ((laidWorld os).forCall (fun _ _ => 0) ⟨#[], #[.slice none 0 0, .string ⟨#[]⟩, .agg #[.int .i64 0, .slice none 0 0]], []⟩).memory :=
  laidMet_of_run' 8 (by kernel_rfl) (by kernel_rfl)
theorem reads (os : Os) {H : Type} (enc : TypeId × Value → H) : ∃ places, DataW.whole enc Tryd.prog ((laidWorld os).forCall (fun _ _ => 0) ⟨#[], #[.slice none 0 0, .string ⟨#[]⟩, .agg #[.int .i64 0, .slice none 0 0]], []⟩).memory Tryd.f4.params.toList Rows.indexBindsSpec.vars false #[Value.slice none 0 0, .string ⟨#[]⟩, .agg #[.int .i64 0, .slice none 0 0]].toList 8 = some ([.nil, .lit (.string []), .agg [.lit (.int .i64 0), .nil]], [], places) :=
  ⟨[], by kernel_rfl⟩
set_option maxRecDepth 100000 in
theorem lifted (os : Os) (started : os.Started) (H : Type) (enc : TypeId × Value → H) (F : Stop.Interp) :
    ReturnsInHanded {} Tryd.checked os 4 .any ((OpenSpec.ofChange Rows.indexBindsSpec).preRow enc Tryd.prog Tryd.f4 Rows.indexBindsRow.domain false Rows.indexBindsRow.laid) (((OpenSpec.ofChange Rows.indexBindsSpec).at F).post enc Tryd.prog Tryd.f4 false true false false) := by
  obtain ⟨places, hx⟩ := reads os enc
  refine returnsInHanded_of_row (C := Tryd.checked) (s := OpenSpec.ofChange Rows.indexBindsSpec) own started (by kernel_rfl) Tryd.func4
    (witness_row_at (enc := enc) (C := Tryd.checked) false (laidWorld os) #[.slice none 0 0, .string ⟨#[]⟩, .agg #[.int .i64 0, .slice none 0 0]] rfl (by kernel_rfl) (by kernel_rfl) (by kernel_rfl)
      (OpenSpec.preRow_of_cond 8 hx (by kernel_rfl) (fun k hk => by cases hk) (by kernel_rfl) (laid_met os))) ?_
  intro W base args ds gs before hval hW _ _ _ hL _ _
  exact contract H enc W base args ds gs before hval hW hL
theorem said : Rows.IndexBindsSaid :=
  OpenClaim.holds_of_cond 4 Tryd.f4 rfl rfl rfl rfl rfl rfl rfl ⟨rfl, rfl, rfl, rfl, rfl⟩ rfl rfl rfl rfl rfl (by kernel_rfl) Tryd.func4 (by kernel_rfl)
    (of_decide_eq_true (by kernel_rfl)) (by unfold Func.isWrapper; first | (rw [if_pos (by decide +kernel)]; kernel_rfl) | (rw [if_neg (by decide +kernel)]; exact ⟨rfl, rfl⟩))
    (fun os started H enc _ F => by rw [OpenClaim.pre_eq_preRow]; exact lifted os started H enc F)
theorem plain (f : FuncId) (fn : Func) (hf : Tryd.pinned.checked.prog.funcNamed "lockbox/lockboxlaw18.IndexBinds" = some f) (hfn : Tryd.pinned.checked.prog.funcs[f]? = some fn) :
    false = Tryd.pinned.checked.prog.looks [] ∧ ∀ (j : Nat) t, fn.params[j]? = some t → Tryd.pinned.checked.prog.wantsStandIn t = false := by
  obtain rfl : f = 4 := Option.some.inj ((show Tryd.prog.funcNamed "lockbox/lockboxlaw18.IndexBinds" = some 4 by kernel_rfl).symm.trans hf) |>.symm
  obtain rfl : fn = Tryd.f4 := (Option.some.inj (Tryd.func4.symm.trans hfn)).symm
  refine ⟨by kernel_rfl, fun j t ht => ?_⟩
  rw [Tryd.params4] at ht
  have hm : t ∈ [22, 9, 50] := by simpa using Array.mem_of_getElem? ht
  have hall : ([22, 9, 50].all fun u => !Tryd.prog.wantsStandIn u) = true := by kernel_rfl
  exact (show Tryd.prog.wantsStandIn t = false by simpa using List.all_eq_true.1 hall t hm)
end Go.Proofs.YtdfkpjmljaanpaaDoor.indexBindsLaw

namespace Go.Proofs.YtdfkpjmljaanpaaDoor
/-- THE CARD. -/
theorem indexBinds_card : Rows.IndexBindsCardSaid :=
  Claim7.holds_tied_plain_at .later [] _ _ _ _ indexBindsLaw.said (fun _ h => by cases h) (by kernel_rfl) (fun _ h => by cases h) indexBinds_row_tie rfl ⟨rfl, rfl⟩ (by kernel_rfl) rfl indexBindsLaw.plain (by kernel_rfl)
end Go.Proofs.YtdfkpjmljaanpaaDoor
