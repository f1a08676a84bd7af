/- PROVED HERE: for every list of leaves with tags, number and texts the law IndexAdds returns true (which leaves the index takes behind the first 20 of these is what the document says, with its rows, postings and error), and all read afterwards as it did. Without conditions. -/
import Derived.Test.YtdfkpjmljaanpaaIxMd
import Derived.Test.YtdfkpjmljaanpaaFewer
namespace Go.Proofs.Ytdfkpjmljaanpaa
open Go.RowKit
open Cn

/-- What a law has of an index that was made. -/
structure IxF (R : List Rw) : Prop where
  rise : Ix.Rise R
  ok : ∀ r ∈ R, Ix.rwOk r
  few : R.length ≤ 400
theorem ixF_of (l : List Lad) (mo : Nat) (_ : mo ≤ 50) : IxF (Ix.mdI ((ladP l).take mo)).1 := by
  have hk := Ix.mdI_ok ((ladP l).take mo)
  have hl : ((ladP l).take mo).length ≤ mo := by rw [List.length_take]; omega
  have h2 := hk.hi
  have h3 := hk.few
  exact ⟨hk.good.rise, hk.good.ok (by omega), by omega⟩
theorem add_small {R : List Rw} (h : IxF R) (n : Int) (ts : List ByteArray) : (∀ r ∈ (Ix.addI R n ts).1, r.tag.size ≤ 1000000) ∧ (Ix.addI R n ts).1.length ≤ 500 ∧ (Ix.addI R n ts).2.1.length ≤ 500 := by
  unfold Ix.addI
  by_cases hB : Ix.adB R n ts = true
  · obtain ⟨⟨h0, h1, h2⟩, h3, h4, h5⟩ := Ix.adB_iff.1 hB
    have hl := Ix.mrg_len n R ts
    have hf := h.few
    rw [if_pos hB, if_neg (by omega)]
    refine ⟨fun r hr => ?_, by simp only; omega, by simp only; omega⟩
    rcases Ix.mrg_mem n R ts r hr with h6 | ⟨h6, -, -⟩
    · have := (h.ok r h6).1; omega
    · have := h4 _ h6; omega
  · rw [if_neg hB]
    exact ⟨fun r hr => by simp at hr, by simp, by simp⟩
set_option maxRecDepth 100000 in
set_option maxHeartbeats 40000000 in
theorem ixadds_law {w : World} (l : List Lad) (a0 : Option Addr) (cap : Nat) (hT : LadsAt w a0 l) (hm : l.length ≤ maxLen) (n : Int) (hn1 : -9223372036854775808 ≤ n) (hn2 : n ≤ 9223372036854775807) (ss : List ByteArray) (b0 : Option Addr) (cap2 : Nat) (hT2 : TextsAt w b0 ss) (hm2 : ss.length ≤ maxLen) :
    Calls Try.prog 3 #[.slice a0 l.length cap, .int .i64 n, .slice b0 ss.length cap2] w fun e w' => e = .returned (.bool true) ∧ Below w.heap.size w w' := by
  have hmd := made18_any l a0 cap 20 (by decide) w hT hm
  have hX := ixF_of l 20 (by decide)
  have hfw := fun (W : World) (hb : Below w.heap.size w W) => few_any ss b0 cap2 20 100 W (hT2.below hb) hm2
  obtain ⟨R, hR⟩ : ∃ R, R = (Ix.mdI ((ladP l).take 20)).1 := ⟨_, rfl⟩
  rw [← hR] at hmd hX
  have hfl : fewB ss 20 100 = true → ss.length ≤ 20 := fun h => by
    by_cases hg : FewOf ss 20 100
    · have := hg.1; omega
    · rw [fewB_false hg] at h; cases h
  have hwi := fun (h20 : fewB ss 20 100 = true) (W : World) (a : Option Addr) (c : Nat) (hb : Below w.heap.size w W) (h : RwAt W a R) (h0 : R = [] → a = none) => with18_any R ss a b0 c cap2 n W h (hT2.below hb) h0 hX.rise hX.ok (by have := hX.few; omega) (by have := hfl h20; omega)
  have hra := fun (h20 : fewB ss 20 100 = true) (W : World) (a : Option Addr) (c : Nat) (hb : Below w.heap.size w W) (h : RwAt W a R) => radd18_any R ss a b0 c cap2 n hn1 hn2 W h (hT2.below hb) (by have := hX.few; omega) (by have := hfl h20; omega) hX.ok
  unfold WiPost at hwi
  unfold AdPost at hra
  obtain ⟨z1, z2, z3⟩ := add_small hX n ss
  obtain ⟨Z, hZ⟩ : ∃ Z, Z = Ix.addI R n ss := ⟨_, rfl⟩
  rw [← hZ] at hwi hra z1 z2 z3
  obtain ⟨R', P, E⟩ := Z
  simp only at hwi hra z1 z2 z3
  have hro' := fun (W : World) (a : Option Addr) (c : Nat) (h : RwAt W a R') => rows18_any R' a c W h (by omega) z1
  have hlr := fun (W : World) (a : Option Addr) (c : Nat) (h : RwAt W a R') => lrows18_any R' a c W h (by omega)
  have hsm := fun (W : World) (a b : Option Addr) (c d : Nat) (h : RwAt W a R') (h2 : RwAt W b R') => rsame18_any R' R' a b c d W h h2 (by omega)
  rw [eqB_iff.2 rfl] at hsm
  unfold MdPost at hmd
  obtain ⟨n1, hn1'⟩ : ∃ n1, n1 = R.length := ⟨_, rfl⟩
  obtain ⟨m1, hm1⟩ : ∃ m1, m1 = R'.length := ⟨_, rfl⟩
  obtain ⟨p1, hp1⟩ : ∃ p1, p1 = P.length := ⟨_, rfl⟩
  obtain ⟨M, hM⟩ : ∃ M, M = ss.length := ⟨_, rfl⟩
  obtain ⟨N, hN⟩ : ∃ N, N = l.length := ⟨_, rfl⟩
  obtain ⟨B, hB⟩ : ∃ B, B = fewB ss 20 100 := ⟨_, rfl⟩
  rw [← hn1'] at hmd hwi hra
  rw [← hm1] at hwi hra hro' hlr hsm z2
  rw [← hp1] at hwi hra z3
  rw [← hM] at hfw hwi hra
  rw [← hN] at hmd
  rw [← hB] at hfw hwi hra
  rw [← hN, ← hM]
  have H := Lib.hid (And.intro hmd (And.intro hfw (And.intro hwi (And.intro hra (And.intro hro' (And.intro hlr (And.intro hsm (And.intro z3 hp1))))))))
  clear hmd hfw hwi hra hro' hlr hsm hX hR hfl z1 z2 z3 hZ hn1' hm1 hp1 hM hN hB hT hm hT2 hm2 hn1 hn2
  go_enter Try.func3, Try.ntmps3
  go_wp2_with fail
  refine H.out.1.mono ?_
  rintro e w2 ⟨a, ca, r, rc, rfl, hoa, hna, hor, hb2⟩
  obtain ⟨w3, hw3⟩ : ∃ w3, w3 = w2.alloc (.cells #[.slice a n1 ca] 26) := ⟨_, rfl⟩
  have hb3 : Below w2.heap.size w2 w3 := by rw [hw3]; exact (Below.refl _ _).alloc (Nat.le_refl _) _
  have hg3 : w3.heap[w2.heap.size]? = some (.cells #[.slice a n1 ca] 26 (0, 0)) := by rw [hw3]; exact heap_alloc_new _ _
  have H3 := Lib.hid (And.intro (rbelow_call hb2 hb3 hb2.size) (And.intro hg3 (And.intro ((rwAt_own hoa).below hb3) (And.intro ((rwAt_own hor).below hb3) hna))))
  obtain ⟨gx, hgx⟩ : ∃ gx, gx = w2.heap.size := ⟨_, rfl⟩
  rw [← hgx] at H3
  clear hoa hna hor hb2 hb3 hg3
  go_upto_region 2 with fail
  rw [← hw3, ← hgx]
  clear hw3 hgx
  cases B with
  | false =>
    go_wp2_with fail
    refine (H.out.2.1 _ H3.out.1).mono ?_
    rintro e w4 ⟨rfl, rfl⟩
    go_wp2_with fail
    refine (awake18_any _).mono ?_
    rintro e w5 ⟨rfl, hb5⟩
    have H5 := Lib.hid (rbelow_call H3.out.1 hb5 H3.out.1.size)
    clear hb5
    go_wp2_with fail
    go_ret
    exact ⟨rfl, H5.out⟩
  | true =>
    go_wp2_with fail
    refine (H.out.2.1 _ H3.out.1).mono ?_
    rintro e w4 ⟨rfl, rfl⟩
    go_wp2_with fail
    refine (awake18_any _).mono ?_
    rintro e w5 ⟨rfl, hb5⟩
    have H5 := Lib.hid (And.intro (rbelow_call H3.out.1 hb5 H3.out.1.size) (And.intro ((hb5.block _ (lt_of_heap H3.out.2.1)).trans H3.out.2.1) (And.intro (H3.out.2.2.1.below hb5) (H3.out.2.2.2.1.below hb5))))
    clear hb5
    have c5 : w5.cell? ⟨gx, 0, none⟩ = some (.slice a n1 ca) := by rw [cell_of_row _ _ _ _ _ _ H5.out.2.1]; rfl
    go_wp2_with fail
    refine (H.out.2.2.1 (by trivial) _ _ _ H5.out.1 H5.out.2.2.1 H3.out.2.2.2.2).mono ?_
    rintro e w6 ⟨ay, cy, ap, cp, rfl, hoy, -, hop, hb6⟩
    obtain ⟨w7, hw7⟩ : ∃ w7, w7 = w6.alloc (.cells #[.slice ay m1 cy] 26) := ⟨_, rfl⟩
    have hb7 : Below w6.heap.size w6 w7 := by rw [hw7]; exact (Below.refl _ _).alloc (Nat.le_refl _) _
    have hg7 : w7.heap[w6.heap.size]? = some (.cells #[.slice ay m1 cy] 26 (0, 0)) := by rw [hw7]; exact heap_alloc_new _ _
    have b67 := rbelow_call hb6 hb7 hb6.size
    have H7 := Lib.hid (And.intro (rbelow_call H5.out.1 b67 H5.out.1.size) (And.intro hg7 (And.intro ((rwAt_own hoy).below hb7) (And.intro (hop.call hb7) (H5.out.2.2.2.below b67)))))
    obtain ⟨gy, hgy⟩ : ∃ gy, gy = w6.heap.size := ⟨_, rfl⟩
    rw [← hgy] at H7
    clear hoy hop hb6 hb7 hg7 b67 c5
    go_upto_region 5 with fail
    rw [← hw7, ← hgy]
    clear hw7 hgy
    go_wp2_with fail
    refine (H.out.2.2.2.1 (by trivial) _ _ _ H7.out.1 H7.out.2.2.2.2).mono ?_
    rintro e w8 ⟨aR, cR, aP, cP, rfl, hoR, hoP, hb8⟩
    obtain ⟨w9, hw9⟩ : ∃ w9, w9 = w8.alloc (.cells (wiCs aR m1 cR aP p1 cP E) 38) := ⟨_, rfl⟩
    have hb9 : Below w8.heap.size w8 w9 := by rw [hw9]; exact (Below.refl _ _).alloc (Nat.le_refl _) _
    have hg9 : w9.heap[w8.heap.size]? = some (.cells (wiCs aR m1 cR aP p1 cP E) 38 (0, 0)) := by rw [hw9]; exact heap_alloc_new _ _
    have b89 := rbelow_call hb8 hb9 hb8.size
    have H9 := Lib.hid (And.intro (rbelow_call H7.out.1 b89 H7.out.1.size) (And.intro hg9 (And.intro ((rwAt_own hoR).below hb9) (And.intro (hoP.call hb9) (And.intro (H7.out.2.2.1.below b89) (And.intro (H7.out.2.2.2.1.call b89) ((b89.block _ (lt_of_heap H7.out.2.1)).trans H7.out.2.1)))))))
    obtain ⟨gw, hgw⟩ : ∃ gw, gw = w8.heap.size := ⟨_, rfl⟩
    rw [← hgw] at H9
    clear hoR hoP hb8 hb9 hg9 b89
    unfold wiCs at hw9
    go_upto_region 6 with fail
    rw [← hw9, ← hgw]
    clear hw9 hgw
    go_wp2_with fail
    refine wp_region_held (S := fun W : World => (W.heap[gy]? = some (.cells #[.slice ay m1 cy] 26 (0, 0)) ∧ W.heap[gw]? = some (.cells (wiCs aR m1 cR aP p1 cP E) 38 (0, 0)))) (by kernel_rfl) ?_
    change wpAnyH _ _ _ _ _ _ _ _ (World.drew _)
    generalize hv0 : World.drew _ = v0
    have E0 : (v0.heap[gy]? = some (.cells #[.slice ay m1 cy] 26 (0, 0)) ∧ v0.heap[gw]? = some (.cells (wiCs aR m1 cR aP p1 cP E) 38 (0, 0))) := by rw [← hv0]; exact (show w9.drew.heap[gy]? = _ ∧ w9.drew.heap[gw]? = _ from ⟨H9.out.2.2.2.2.2.2, H9.out.2.1⟩)
    have F0 : Below w9.heap.size w9 v0 := by rw [← hv0]; exact ((Below.refl _ _).drew)
    clear hv0
    refine wpAnyH_take (i := 0) (v := ?_) rfl (by kernel_rfl) (by kernel_rfl) (by kernel_rfl) (fun _ _ _ h => h) (Or.inl ⟨by kernel_rfl, ?_⟩) E0 ?_
    rotate_left
    · (intro W hS; have k0 : W.cell? ⟨gy, 0, none⟩ = some (.slice ay m1 cy) := (by rw [cell_of_row _ _ _ _ _ _ hS.1]; rfl); have k1 : W.cell? ⟨gw, 0, none⟩ = some (.slice aR m1 cR) := (by rw [cell_of_row _ _ _ _ _ _ hS.2]; rfl); have k2 : W.cell? ⟨gw, 1, none⟩ = some (.slice aP p1 cP) := (by rw [cell_of_row _ _ _ _ _ _ hS.2]; rfl); have k3 : W.cell? ⟨gw, 2, none⟩ = some (.int .i64 E) := (by rw [cell_of_row _ _ _ _ _ _ hS.2]; rfl); go_simp; try (with_reducible rfl))
    refine wpAnyH_take (i := 1) (v := ?_) rfl (by kernel_rfl) (by kernel_rfl) (by kernel_rfl) (fun _ _ _ h => h) (Or.inl ⟨by kernel_rfl, ?_⟩) E0 ?_
    rotate_left
    · (intro W hS; have k0 : W.cell? ⟨gy, 0, none⟩ = some (.slice ay m1 cy) := (by rw [cell_of_row _ _ _ _ _ _ hS.1]; rfl); have k1 : W.cell? ⟨gw, 0, none⟩ = some (.slice aR m1 cR) := (by rw [cell_of_row _ _ _ _ _ _ hS.2]; rfl); have k2 : W.cell? ⟨gw, 1, none⟩ = some (.slice aP p1 cP) := (by rw [cell_of_row _ _ _ _ _ _ hS.2]; rfl); have k3 : W.cell? ⟨gw, 2, none⟩ = some (.int .i64 E) := (by rw [cell_of_row _ _ _ _ _ _ hS.2]; rfl); go_simp; try (with_reducible rfl))
    refine wpAnyH_take (i := 2) (v := ?_) rfl (by kernel_rfl) (by kernel_rfl) (by kernel_rfl) (fun _ _ _ h => h) (Or.inl ⟨by kernel_rfl, ?_⟩) E0 ?_
    rotate_left
    · (intro W hS; have k0 : W.cell? ⟨gy, 0, none⟩ = some (.slice ay m1 cy) := (by rw [cell_of_row _ _ _ _ _ _ hS.1]; rfl); have k1 : W.cell? ⟨gw, 0, none⟩ = some (.slice aR m1 cR) := (by rw [cell_of_row _ _ _ _ _ _ hS.2]; rfl); have k2 : W.cell? ⟨gw, 1, none⟩ = some (.slice aP p1 cP) := (by rw [cell_of_row _ _ _ _ _ _ hS.2]; rfl); have k3 : W.cell? ⟨gw, 2, none⟩ = some (.int .i64 E) := (by rw [cell_of_row _ _ _ _ _ _ hS.2]; rfl); go_simp; try (with_reducible rfl))
    refine wpAnyH_take (i := 3) (v := .bool false) rfl (by kernel_rfl) (by kernel_rfl) (by kernel_rfl) (fun _ _ _ h => h) (Or.inl ⟨by kernel_rfl, ?_⟩) E0 ?_
    · (intro W hS; have k0 : W.cell? ⟨gy, 0, none⟩ = some (.slice ay m1 cy) := (by rw [cell_of_row _ _ _ _ _ _ hS.1]; rfl); have k1 : W.cell? ⟨gw, 0, none⟩ = some (.slice aR m1 cR) := (by rw [cell_of_row _ _ _ _ _ _ hS.2]; rfl); have k2 : W.cell? ⟨gw, 1, none⟩ = some (.slice aP p1 cP) := (by rw [cell_of_row _ _ _ _ _ _ hS.2]; rfl); have k3 : W.cell? ⟨gw, 2, none⟩ = some (.int .i64 E) := (by rw [cell_of_row _ _ _ _ _ _ hS.2]; rfl); go_simp; try (with_reducible rfl))
    refine wpAnyH_take (i := 4) (v := ?_) rfl (by kernel_rfl) (by kernel_rfl) (by kernel_rfl) (fun _ _ _ h => h) (Or.inl ⟨by kernel_rfl, ?_⟩) E0 ?_
    rotate_left
    · (intro W hS; have k0 : W.cell? ⟨gy, 0, none⟩ = some (.slice ay m1 cy) := (by rw [cell_of_row _ _ _ _ _ _ hS.1]; rfl); have k1 : W.cell? ⟨gw, 0, none⟩ = some (.slice aR m1 cR) := (by rw [cell_of_row _ _ _ _ _ _ hS.2]; rfl); have k2 : W.cell? ⟨gw, 1, none⟩ = some (.slice aP p1 cP) := (by rw [cell_of_row _ _ _ _ _ _ hS.2]; rfl); have k3 : W.cell? ⟨gw, 2, none⟩ = some (.int .i64 E) := (by rw [cell_of_row _ _ _ _ _ _ hS.2]; rfl); go_simp; try (with_reducible rfl))
    refine wpAnyH_take (i := 5) (v := ?_) rfl (by kernel_rfl) (by kernel_rfl) (by kernel_rfl) (fun _ _ _ h => h) (Or.inl ⟨by kernel_rfl, ?_⟩) E0 ?_
    rotate_left
    · (intro W hS; have k0 : W.cell? ⟨gy, 0, none⟩ = some (.slice ay m1 cy) := (by rw [cell_of_row _ _ _ _ _ _ hS.1]; rfl); have k1 : W.cell? ⟨gw, 0, none⟩ = some (.slice aR m1 cR) := (by rw [cell_of_row _ _ _ _ _ _ hS.2]; rfl); have k2 : W.cell? ⟨gw, 1, none⟩ = some (.slice aP p1 cP) := (by rw [cell_of_row _ _ _ _ _ _ hS.2]; rfl); have k3 : W.cell? ⟨gw, 2, none⟩ = some (.int .i64 E) := (by rw [cell_of_row _ _ _ _ _ _ hS.2]; rfl); go_simp; try (with_reducible rfl))
    refine wpAnyH_take (i := 6) (v := ?_) rfl (by kernel_rfl) (by kernel_rfl) (by kernel_rfl) (fun _ _ _ h => h) (Or.inl ⟨by kernel_rfl, ?_⟩) E0 ?_
    rotate_left
    · (intro W hS; have k0 : W.cell? ⟨gy, 0, none⟩ = some (.slice ay m1 cy) := (by rw [cell_of_row _ _ _ _ _ _ hS.1]; rfl); have k1 : W.cell? ⟨gw, 0, none⟩ = some (.slice aR m1 cR) := (by rw [cell_of_row _ _ _ _ _ _ hS.2]; rfl); have k2 : W.cell? ⟨gw, 1, none⟩ = some (.slice aP p1 cP) := (by rw [cell_of_row _ _ _ _ _ _ hS.2]; rfl); have k3 : W.cell? ⟨gw, 2, none⟩ = some (.int .i64 E) := (by rw [cell_of_row _ _ _ _ _ _ hS.2]; rfl); go_simp; try (with_reducible rfl))
    refine wpAnyH_take (i := 7) (v := ?_) rfl (by kernel_rfl) (by kernel_rfl) (by kernel_rfl) (fun _ _ _ h => h) (Or.inl ⟨by kernel_rfl, ?_⟩) E0 ?_
    rotate_left
    · (intro W hS; have k0 : W.cell? ⟨gy, 0, none⟩ = some (.slice ay m1 cy) := (by rw [cell_of_row _ _ _ _ _ _ hS.1]; rfl); have k1 : W.cell? ⟨gw, 0, none⟩ = some (.slice aR m1 cR) := (by rw [cell_of_row _ _ _ _ _ _ hS.2]; rfl); have k2 : W.cell? ⟨gw, 1, none⟩ = some (.slice aP p1 cP) := (by rw [cell_of_row _ _ _ _ _ _ hS.2]; rfl); have k3 : W.cell? ⟨gw, 2, none⟩ = some (.int .i64 E) := (by rw [cell_of_row _ _ _ _ _ _ hS.2]; rfl); go_simp; try (with_reducible rfl))
    refine wpAnyH_take (i := 8) (v := ?_) rfl (by kernel_rfl) (by kernel_rfl) (by kernel_rfl) (fun _ _ _ h => h) (Or.inl ⟨by kernel_rfl, ?_⟩) E0 ?_
    rotate_left
    · (intro W hS; have k0 : W.cell? ⟨gy, 0, none⟩ = some (.slice ay m1 cy) := (by rw [cell_of_row _ _ _ _ _ _ hS.1]; rfl); have k1 : W.cell? ⟨gw, 0, none⟩ = some (.slice aR m1 cR) := (by rw [cell_of_row _ _ _ _ _ _ hS.2]; rfl); have k2 : W.cell? ⟨gw, 1, none⟩ = some (.slice aP p1 cP) := (by rw [cell_of_row _ _ _ _ _ _ hS.2]; rfl); have k3 : W.cell? ⟨gw, 2, none⟩ = some (.int .i64 E) := (by rw [cell_of_row _ _ _ _ _ _ hS.2]; rfl); go_simp; try (with_reducible rfl))
    refine wpAnyH_take (i := 9) (v := ?_) rfl (by kernel_rfl) (by kernel_rfl) (by kernel_rfl) (fun _ _ _ h => h) (Or.inl ⟨by kernel_rfl, ?_⟩) E0 ?_
    rotate_left
    · (intro W hS; have k0 : W.cell? ⟨gy, 0, none⟩ = some (.slice ay m1 cy) := (by rw [cell_of_row _ _ _ _ _ _ hS.1]; rfl); have k1 : W.cell? ⟨gw, 0, none⟩ = some (.slice aR m1 cR) := (by rw [cell_of_row _ _ _ _ _ _ hS.2]; rfl); have k2 : W.cell? ⟨gw, 1, none⟩ = some (.slice aP p1 cP) := (by rw [cell_of_row _ _ _ _ _ _ hS.2]; rfl); have k3 : W.cell? ⟨gw, 2, none⟩ = some (.int .i64 E) := (by rw [cell_of_row _ _ _ _ _ _ hS.2]; rfl); go_simp; try (with_reducible rfl))
    refine wpAnyH_take (i := 10) (v := .bool false) rfl (by kernel_rfl) (by kernel_rfl) (by kernel_rfl) (fun _ _ _ h => h) (Or.inl ⟨by kernel_rfl, ?_⟩) E0 ?_
    · (intro W hS; have k0 : W.cell? ⟨gy, 0, none⟩ = some (.slice ay m1 cy) := (by rw [cell_of_row _ _ _ _ _ _ hS.1]; rfl); have k1 : W.cell? ⟨gw, 0, none⟩ = some (.slice aR m1 cR) := (by rw [cell_of_row _ _ _ _ _ _ hS.2]; rfl); have k2 : W.cell? ⟨gw, 1, none⟩ = some (.slice aP p1 cP) := (by rw [cell_of_row _ _ _ _ _ _ hS.2]; rfl); have k3 : W.cell? ⟨gw, 2, none⟩ = some (.int .i64 E) := (by rw [cell_of_row _ _ _ _ _ _ hS.2]; rfl); go_simp; try (with_reducible rfl))
    refine wpAnyH_take (i := 11) (v := ?_) rfl (by kernel_rfl) (by kernel_rfl) (by kernel_rfl) (fun _ _ _ h => h) (Or.inl ⟨by kernel_rfl, ?_⟩) E0 ?_
    rotate_left
    · (intro W hS; have k0 : W.cell? ⟨gy, 0, none⟩ = some (.slice ay m1 cy) := (by rw [cell_of_row _ _ _ _ _ _ hS.1]; rfl); have k1 : W.cell? ⟨gw, 0, none⟩ = some (.slice aR m1 cR) := (by rw [cell_of_row _ _ _ _ _ _ hS.2]; rfl); have k2 : W.cell? ⟨gw, 1, none⟩ = some (.slice aP p1 cP) := (by rw [cell_of_row _ _ _ _ _ _ hS.2]; rfl); have k3 : W.cell? ⟨gw, 2, none⟩ = some (.int .i64 E) := (by rw [cell_of_row _ _ _ _ _ _ hS.2]; rfl); go_simp; try (with_reducible rfl))
    refine wpAnyH_take (i := 12) (v := ?_) rfl (by kernel_rfl) (by kernel_rfl) (by kernel_rfl) (fun _ _ _ h => h) (Or.inl ⟨by kernel_rfl, ?_⟩) E0 ?_
    rotate_left
    · (intro W hS; have k0 : W.cell? ⟨gy, 0, none⟩ = some (.slice ay m1 cy) := (by rw [cell_of_row _ _ _ _ _ _ hS.1]; rfl); have k1 : W.cell? ⟨gw, 0, none⟩ = some (.slice aR m1 cR) := (by rw [cell_of_row _ _ _ _ _ _ hS.2]; rfl); have k2 : W.cell? ⟨gw, 1, none⟩ = some (.slice aP p1 cP) := (by rw [cell_of_row _ _ _ _ _ _ hS.2]; rfl); have k3 : W.cell? ⟨gw, 2, none⟩ = some (.int .i64 E) := (by rw [cell_of_row _ _ _ _ _ _ hS.2]; rfl); go_simp; try (with_reducible rfl))
    refine wpAnyH_take (i := 13) (v := ?_) rfl (by kernel_rfl) (by kernel_rfl) (by kernel_rfl) (fun _ _ _ h => h) (Or.inl ⟨by kernel_rfl, ?_⟩) E0 ?_
    rotate_left
    · (intro W hS; have k0 : W.cell? ⟨gy, 0, none⟩ = some (.slice ay m1 cy) := (by rw [cell_of_row _ _ _ _ _ _ hS.1]; rfl); have k1 : W.cell? ⟨gw, 0, none⟩ = some (.slice aR m1 cR) := (by rw [cell_of_row _ _ _ _ _ _ hS.2]; rfl); have k2 : W.cell? ⟨gw, 1, none⟩ = some (.slice aP p1 cP) := (by rw [cell_of_row _ _ _ _ _ _ hS.2]; rfl); have k3 : W.cell? ⟨gw, 2, none⟩ = some (.int .i64 E) := (by rw [cell_of_row _ _ _ _ _ _ hS.2]; rfl); go_simp; try (with_reducible rfl))
    refine wpAnyH_take (i := 16) (v := ?_) rfl (by kernel_rfl) (by kernel_rfl) (by kernel_rfl) (fun _ _ _ h => h) (Or.inl ⟨by kernel_rfl, ?_⟩) E0 ?_
    rotate_left
    · (intro W hS; have k0 : W.cell? ⟨gy, 0, none⟩ = some (.slice ay m1 cy) := (by rw [cell_of_row _ _ _ _ _ _ hS.1]; rfl); have k1 : W.cell? ⟨gw, 0, none⟩ = some (.slice aR m1 cR) := (by rw [cell_of_row _ _ _ _ _ _ hS.2]; rfl); have k2 : W.cell? ⟨gw, 1, none⟩ = some (.slice aP p1 cP) := (by rw [cell_of_row _ _ _ _ _ _ hS.2]; rfl); have k3 : W.cell? ⟨gw, 2, none⟩ = some (.int .i64 E) := (by rw [cell_of_row _ _ _ _ _ _ hS.2]; rfl); go_simp; try (with_reducible rfl))
    refine wpAnyH_take (i := 17) (v := ?_) rfl (by kernel_rfl) (by kernel_rfl) (by kernel_rfl) (fun _ _ _ h => h) (Or.inl ⟨by kernel_rfl, ?_⟩) E0 ?_
    rotate_left
    · (intro W hS; have k0 : W.cell? ⟨gy, 0, none⟩ = some (.slice ay m1 cy) := (by rw [cell_of_row _ _ _ _ _ _ hS.1]; rfl); have k1 : W.cell? ⟨gw, 0, none⟩ = some (.slice aR m1 cR) := (by rw [cell_of_row _ _ _ _ _ _ hS.2]; rfl); have k2 : W.cell? ⟨gw, 1, none⟩ = some (.slice aP p1 cP) := (by rw [cell_of_row _ _ _ _ _ _ hS.2]; rfl); have k3 : W.cell? ⟨gw, 2, none⟩ = some (.int .i64 E) := (by rw [cell_of_row _ _ _ _ _ _ hS.2]; rfl); go_simp; try (with_reducible rfl))
    refine wpAnyH_ready (rs := [14]) (by kernel_rfl) (by simp) ?_
    refine AllReadyH.cons (i := 14) rfl (fun K hK => ?_) AllReadyH.nil
    go_simp
    refine (H.out.2.2.2.2.1 v0 ay cy (H9.out.2.2.2.2.1.below F0)).mono ?_
    rintro e v1 ⟨a6, c6, rfl, ho6, hb⟩
    have F1 := F0.trans (hb.mono F0.size)
    have E1 : (v1.heap[gy]? = some (.cells #[.slice ay m1 cy] 26 (0, 0)) ∧ v1.heap[gw]? = some (.cells (wiCs aR m1 cR aP p1 cP E) 38 (0, 0))) := ⟨(hb.block _ (lt_of_heap E0.1)).trans E0.1, (hb.block _ (lt_of_heap E0.2)).trans E0.2⟩
    have hr6 := rwAt_own ho6
    clear ho6
    refine hK.out _ _ E1 (fun _ => ?_)
    clear hK K hb
    refine wpAnyH_ready (rs := [15]) (by kernel_rfl) (by simp) ?_
    refine AllReadyH.cons (i := 15) rfl (fun K hK => ?_) AllReadyH.nil
    go_simp
    refine (H.out.2.2.2.2.2.1 v1 a6 c6 hr6).mono ?_
    rintro e v2 ⟨a7, c7, rfl, ho7, hb⟩
    have F2 := F1.trans (hb.mono F1.size)
    have E2 : (v2.heap[gy]? = some (.cells #[.slice ay m1 cy] 26 (0, 0)) ∧ v2.heap[gw]? = some (.cells (wiCs aR m1 cR aP p1 cP E) 38 (0, 0))) := ⟨(hb.block _ (lt_of_heap E1.1)).trans E1.1, (hb.block _ (lt_of_heap E1.2)).trans E1.2⟩
    have hr7 := rwAt_own ho7
    clear ho7 hr6
    refine hK.out _ _ E2 (fun _ => ?_)
    clear hK K hb
    refine wpAnyH_ready (rs := [18]) (by kernel_rfl) (by simp) ?_
    refine AllReadyH.cons (i := 18) rfl (fun K hK => ?_) AllReadyH.nil
    go_simp
    refine (H.out.2.2.2.2.2.2.1 v2 a7 aR c7 cR hr7 (H9.out.2.2.1.below F2)).mono ?_
    rintro e v3 ⟨rfl, hb⟩
    have F3 := F2.trans (hb.mono F2.size)
    have E3 : (v3.heap[gy]? = some (.cells #[.slice ay m1 cy] 26 (0, 0)) ∧ v3.heap[gw]? = some (.cells (wiCs aR m1 cR aP p1 cP E) 38 (0, 0))) := ⟨(hb.block _ (lt_of_heap E2.1)).trans E2.1, (hb.block _ (lt_of_heap E2.2)).trans E2.2⟩
    clear hr7
    refine hK.out _ _ E3 (fun _ => ?_)
    clear hK K hb
    refine wpAnyH_take (i := 19) (v := ?_) rfl (by kernel_rfl) (by kernel_rfl) (by kernel_rfl) (fun _ _ _ h => h) (Or.inl ⟨by kernel_rfl, ?_⟩) E3 ?_
    rotate_left
    · (intro W hS; have k0 : W.cell? ⟨gy, 0, none⟩ = some (.slice ay m1 cy) := (by rw [cell_of_row _ _ _ _ _ _ hS.1]; rfl); have k1 : W.cell? ⟨gw, 0, none⟩ = some (.slice aR m1 cR) := (by rw [cell_of_row _ _ _ _ _ _ hS.2]; rfl); have k2 : W.cell? ⟨gw, 1, none⟩ = some (.slice aP p1 cP) := (by rw [cell_of_row _ _ _ _ _ _ hS.2]; rfl); have k3 : W.cell? ⟨gw, 2, none⟩ = some (.int .i64 E) := (by rw [cell_of_row _ _ _ _ _ _ hS.2]; rfl); go_simp; try (with_reducible rfl))
    refine wpAnyH_take (i := 20) (v := ?_) rfl (by kernel_rfl) (by kernel_rfl) (by kernel_rfl) (fun _ _ _ h => h) (Or.inl ⟨by kernel_rfl, ?_⟩) E3 ?_
    rotate_left
    · (intro W hS; have k0 : W.cell? ⟨gy, 0, none⟩ = some (.slice ay m1 cy) := (by rw [cell_of_row _ _ _ _ _ _ hS.1]; rfl); have k1 : W.cell? ⟨gw, 0, none⟩ = some (.slice aR m1 cR) := (by rw [cell_of_row _ _ _ _ _ _ hS.2]; rfl); have k2 : W.cell? ⟨gw, 1, none⟩ = some (.slice aP p1 cP) := (by rw [cell_of_row _ _ _ _ _ _ hS.2]; rfl); have k3 : W.cell? ⟨gw, 2, none⟩ = some (.int .i64 E) := (by rw [cell_of_row _ _ _ _ _ _ hS.2]; rfl); go_simp; try (with_reducible rfl))
    refine wpAnyH_done (by kernel_rfl) ?_ _
    go_simp
    obtain ⟨v7, hv7⟩ : ∃ v7, v7 = v3 := ⟨_, rfl⟩
    subst hv7
    have HV := Lib.hid F3
    clear E0 E1 E2 E3 F0 F1 F2 F3
    go_wp2_with fail
    go_loopw [14] (fun k wr => ∃ j : Nat, j ≤ p1 ∧ k = .int .i64 j ∧ Below v7.heap.size v7 wr) (fun k _ => p1 - (intOf k).toNat)
    case atStart => exact ⟨0, by omega, rfl, Below.refl _ _⟩
    case round =>
      obtain ⟨j, hj, rfl, hbv⟩ := hrel
      have b5v := rbelow_call HV.out hbv HV.out.size
      have hp1 := H.out.2.2.2.2.2.2.2.1
      by_cases hjl : j < p1
      · obtain ⟨p, hp⟩ : ∃ p, P[j]? = some p := ⟨_, List.getElem?_eq_getElem (by have := H.out.2.2.2.2.2.2.2.2; omega)⟩
        obtain ⟨b1, o1, rfl, -, u0, u1⟩ := (poAt_own (H9.out.2.2.2.2.2.1.call b5v)) j p hp
        obtain ⟨b2, o2, rfl, -, x0, x1⟩ := (poAt_own (H9.out.2.2.2.1.call b5v)) j p hp
        have gwv := (b5v.block _ (lt_of_heap H9.out.2.1)).trans H9.out.2.1
        have cw : wr.cell? ⟨gw, 1, none⟩ = some (.slice (some ⟨b2, o2, none⟩) p1 cP) := by rw [cell_of_row _ _ _ _ _ _ gwv]; rfl
        have he := fun W => equalPo p W
        have HB := Lib.hid hbv
        clear hbv b5v gwv hp
        obtain ⟨t0, t1⟩ := p
        simp only at u0 u1 x0 x1 he
        go_wp2_with fail
        go_quiet (fail)
        have HB2 := Lib.hid (below_drewN HB.out nq)
        generalize wr.drewN nq = w10 at *
        go_wp2_with fail
        go_roundw
        case rel => exact ⟨j + 1, by omega, by go_num, HB2.out⟩
        case measure => simp [intOf]; omega
      · have HB := Lib.hid (rbelow_call H9.out.1 b5v H9.out.1.size)
        clear hbv b5v
        go_wp2_with fail
        go_ret
        exact ⟨rfl, HB.out⟩
end Go.Proofs.Ytdfkpjmljaanpaa

namespace Go.Proofs.Ytdfkpjmljaanpaa.indexAddsLaw
open Go.ChangeShapes Go.WideShapes Go.ChangeAt Go.RowKit
open Go.ChangeMaps (open_string shut_string)

theorem own : ownKnob Try.prog.godebug = none := by kernel_rfl
set_option maxRecDepth 100000 in
theorem lifted (os : Os) (started : os.Started) (H : Type) (enc : TypeId × Value → H) :
    ReturnsInHanded {} Try.checked os 3 .any (Rows.indexAddsSpec.pre6 enc Try.prog Try.f3 Rows.indexAddsRow.domain false) (Rows.indexAddsSpec.post enc Try.prog Try.f3 false true false false) := by
  refine returnsInHanded_of_change (C := Try.checked) own started (by kernel_rfl) Try.func3
    (ChangeSpec.witness6 (enc := enc) (C := Try.checked) false ⟨#[], #[.slice none 0 0, .int .i64 0, .slice none 0 0], []⟩ 8 (by kernel_rfl) (by kernel_rfl) (by kernel_rfl) (by kernel_rfl)) ?_
  intro W base args ds gs before hval0 hW hcnd _
  have hval : ∀ (j : Nat) t v, Try.f3.params[j]? = some t → args[j]? = some v → Value.okWide Try.prog W .any base t v := hval0
  have hW' := hW
  obtain ⟨p, q, hA0, hV, rfl, hfz, hnd⟩ := hW
  have hA : DataW.TrodAll enc Try.prog W 0 (fun _ => true) true Try.f3.params.toList args.toList ds p := hA0
  rw [Try.params3] at hA hval
  obtain ⟨v0, vs0, d0, ds0, p0, q0, hargs, rfl, rfl, h0, r0⟩ := trodAll_cons hA
  obtain ⟨v1, vs1, d1, ds1, p1, q1, rfl, rfl, rfl, h1, r1⟩ := trodAll_cons r0
  obtain ⟨v2, vs2, d2, ds2, p2, q2, rfl, rfl, rfl, h2, r2⟩ := trodAll_cons r1
  obtain ⟨rfl, rfl, rfl⟩ := trodAll_nil r2
  obtain rfl : args = #[v0, v1, v2] := by cases args; simp_all
  obtain ⟨rfl, rfl⟩ := trodVars_none hV
  obtain ⟨a0, len0, cap0, rfl⟩ := okWide_slice Try.underlying22 (hval 0 22 v0 rfl rfl)
  have hk0 := h0
  obtain ⟨fuel0, hf0⟩ := h0
  obtain ⟨n1, rfl, rfl, rfl, ws1⟩ := open_int Try.underlying3 (hval 1 3 v1 rfl rfl) h1
  have hbd1 := ws1
  simp only [Lit.wf, Bool.and_eq_true, decide_eq_true_eq] at hbd1
  obtain ⟨a2, len2, cap2, rfl⟩ := okWide_slice Try.underlying23 (hval 2 23 v2 rfl rfl)
  have hk2 := h2
  obtain ⟨fuel2, hf2⟩ := h2
  clear hA0 hval0
  simp only [List.append_nil, List.nil_append] at hW'
  have hlt0 : ∀ x ∈ p0, x.block < W.heap.size := fun x hx => by simpa using hW'.lt x (by simp [hx])
  obtain ⟨ss0, hlen0, hmax0, hT0⟩ := lads_of hf0 hlt0
  subst hlen0
  have hlt2 : ∀ x ∈ p2, x.block < W.heap.size := fun x hx => by simpa using hW'.lt x (by simp [hx])
  obtain ⟨ss2, hlen2, hmax2, hT2⟩ := texts_of hf2 hlt2
  subst hlen2
  refine (ixadds_law ss0 a0 cap0 hT0 hmax0 n1 hbd1.1 hbd1.2 ss2 a2 cap2 hT2 hmax2 (w := W)).mono fun e W' ⟨he, hb⟩ => ?_
  subst he
  exact ⟨_, rfl, _, _, _, [], _, [], hW', trodAll_cons_mk (shut_bool Try.underlying4 _) trodAll_mk0, (trodAll_cons_mk (Below.trod laidOut (by kernel_rfl) (of_decide_eq_true (by kernel_rfl)) hk0 hb hlt0) (trodAll_cons_mk (shut_int Try.underlying3 ws1) (trodAll_cons_mk (Below.trod laidOut (by kernel_rfl) (of_decide_eq_true (by kernel_rfl)) hk2 hb hlt2) trodAll_mk0))), rfl, hb.frame _, fun h => by cases h⟩
theorem over : Rows.indexAddsRow.holds Try.pinned (OpenSpec.ofChange Rows.indexAddsSpec) :=
  OpenClaim.holds_of_wide 3 Try.f3 rfl rfl rfl rfl rfl rfl rfl ⟨rfl, rfl, rfl, rfl, rfl⟩ rfl rfl rfl rfl rfl (by kernel_rfl) Try.func3 (by kernel_rfl)
    (of_decide_eq_true (by kernel_rfl)) (by unfold Func.isWrapper; first | (rw [if_pos (by decide +kernel)]; kernel_rfl) | (rw [if_neg (by decide +kernel)]; exact ⟨rfl, rfl⟩))
    (fun os started H enc _ => lifted os started H enc)
end Go.Proofs.Ytdfkpjmljaanpaa.indexAddsLaw

namespace Go.Proofs.Ytdfkpjmljaanpaa
theorem indexAdds_said : Rows.IndexAddsSaid := indexAddsLaw.over
end Go.Proofs.Ytdfkpjmljaanpaa
