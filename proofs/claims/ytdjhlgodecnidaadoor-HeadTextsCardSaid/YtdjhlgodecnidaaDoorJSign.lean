/- head.bytesOf, Signed, Text; the reference's num, text, Signed, Text. -/
import Derived.Test.YtdjhlgodecnidaaDoorJBody
import Derived.Test.YtdjhlgodecnidaaDoorMC3
import Derived.Test.YtdjhlgodecnidaaDoorCRefWrite
import Derived.Deep.RegionHeld
namespace Go.Proofs.YtdjhlgodecnidaaDoor
open Go.RowKit
open Cn

theorem flat_in {w : World} {S : Nat → Prop} {k n : Int} {s : ByteArray} (h : s.size ≤ maxLen) : It.In w S (.mk k n s none 0 []) := ⟨h, ⟨Nat.zero_le _, fun h => absurd rfl h⟩, trivial⟩
def itN (n : Int) : It := .mk 1 n ⟨#[]⟩ none 0 []
def itT (s : ByteArray) : It := .mk 2 0 s none 0 []
/-- The cells of an item. -/
def itC (x : It) : List Value := [.int .i64 x.k, .int .i64 x.n, .string x.s, .slice none 0 0]
theorem four_lies {w : World} {b : Nat} {t : TypeId} {S : Nat → Prop} {x0 x1 x2 x3 : It} (h : w.heap[b]? = some (.cells (itC x0 ++ itC x1 ++ itC x2 ++ itC x3).toArray t (0, 0))) (hS : S b)
    (f0 : x0 = .mk x0.k x0.n x0.s none 0 []) (f1 : x1 = .mk x1.k x1.n x1.s none 0 []) (f2 : x2 = .mk x2.k x2.n x2.s none 0 []) (f3 : x3 = .mk x3.k x3.n x3.s none 0 []) : Lies w S (some ⟨b, 0, none⟩) [x0, x1, x2, x3] := by
  refine ⟨by show 4 ≤ maxLen; unfold maxLen; decide, fun _ => ⟨b, 0, rfl, lt_of_heap h, hS, fun j x hx => ?_⟩⟩
  have hc : ∀ i, w.cell? ⟨b, i, none⟩ = (itC x0 ++ itC x1 ++ itC x2 ++ itC x3).toArray[i]? := Lib.cell_of_heap h
  match j, hx with
  | 0, hx => injection hx with hx; subst hx; rw [f0] at hc ⊢; exact ⟨hc _, hc _, hc _, hc _⟩
  | 1, hx => injection hx with hx; subst hx; rw [f1] at hc ⊢; exact ⟨hc _, hc _, hc _, hc _⟩
  | 2, hx => injection hx with hx; subst hx; rw [f2] at hc ⊢; exact ⟨hc _, hc _, hc _, hc _⟩
  | 3, hx => injection hx with hx; subst hx; rw [f3] at hc ⊢; exact ⟨hc _, hc _, hc _, hc _⟩
  | j + 4, hx => simp at hx

set_option maxRecDepth 100000 in
set_option maxHeartbeats 1000000 in
theorem bytesOf_any (S : Nat → Prop) (l : List It) (a : Option Addr) (cap : Nat) (w : World) (hL : Lies w S a l) (hA : It.InAll w S l) (hsz : It.szAll l ≤ 1000000) (p : ByteArray) (hp : c_encS (.mk 3 0 ⟨#[]⟩ (It.pureAll l)) = p) :
    Calls Tryd.prog 79 #[.slice a l.length cap] w fun e w' => e = .returned (.string p) ∧ Below w.heap.size w w' := by
  have hli := list_any S l a cap w hL hA hsz
  obtain ⟨n, hn⟩ : ∃ n, n = l.length := ⟨_, rfl⟩
  rw [← hn] at hli ⊢
  have H := Lib.hid (And.intro hli (And.intro hp hn))
  clear hL hA hsz hli hp hn
  go_enter Tryd.func79, Tryd.ntmps79
  go_wp2_with fail
  refine H.out.1.mono ?_
  rintro e w7 ⟨x, rfl, hxp, hxi, hb⟩
  have hen := encode_any _ x w7 hxi
  rw [hxp, H.out.2.1] at hen
  have HB := Lib.hid (And.intro hb hen)
  clear hb hen hxp hxi
  go_wp2_with fail
  refine HB.out.2.mono ?_
  rintro e w8 ⟨rfl, hb2⟩
  have HC := Lib.hid (HB.out.1.trans (hb2.mono HB.out.1.size))
  clear hb2
  go_wp2_with fail
  go_ret
  exact ⟨rfl, HC.out⟩
set_option maxRecDepth 100000 in
theorem rnumH_any (n : Int) (w : World) : Calls Tryd.prog 84 #[.int .i64 n] w fun e w' => e = .returned (.agg #[.int .i64 1, .int .i64 n, .string ⟨#[]⟩, .slice none 0 0]) ∧ Below w.heap.size w w' := by
  go_enter Tryd.func84, Tryd.ntmps84
  go_wp2_with fail
  exact bodyPost_ret (v := .agg #[.int .i64 1, .int .i64 n, .string ⟨#[]⟩, .slice none 0 0]) (by simp [results, Tryd.results84, go_sem]) rfl ⟨rfl, (Below.refl _ _).alloc (Nat.le_refl _) _⟩
set_option maxRecDepth 100000 in
theorem rtextH_any (s : ByteArray) (w : World) : Calls Tryd.prog 83 #[.string s] w fun e w' => e = .returned (.agg #[.int .i64 2, .int .i64 0, .string s, .slice none 0 0]) ∧ Below w.heap.size w w' := by
  go_enter Tryd.func83, Tryd.ntmps83
  go_wp2_with fail
  exact bodyPost_ret (v := .agg #[.int .i64 2, .int .i64 0, .string s, .slice none 0 0]) (by simp [results, Tryd.results83, go_sem]) rfl ⟨rfl, (Below.refl _ _).alloc (Nat.le_refl _) _⟩
def signedIts (h : Hd) : List It := [itT headT, itN h.n, itT h.r, itN h.t]
set_option maxRecDepth 100000 in
set_option maxHeartbeats 1000000 in
theorem signed_any (h : Hd) (w : World) : Calls Tryd.prog 46 #[.agg h.cs] w fun e w' => e = .returned (.string (sgS h)) ∧ Below w.heap.size w w' := by
  obtain ⟨w1, hw1⟩ : ∃ w1, w1 = w.alloc (.cells h.cs 57) := ⟨_, rfl⟩
  have hb1 : Below w.heap.size w w1 := by rw [hw1]; exact (Below.refl _ _).alloc (Nat.le_refl _) _
  have hg1 : w1.heap[w.heap.size]? = some (.cells h.cs 57 (0, 0)) := by rw [hw1]; exact heap_alloc_new _ _
  have hck := maySign_any h w1
  obtain ⟨A, hA⟩ : ∃ A, A = bodyB h := ⟨_, rfl⟩
  rw [← hA] at hck
  obtain ⟨c0, c1, c2, c3⟩ := hd_cell hg1
  have H := Lib.hid (And.intro hck (And.intro hb1 (And.intro hg1 hA)))
  clear hck hb1 hg1 hA
  unfold Hd.cs at hw1 ⊢
  go_enter Tryd.func46, Tryd.ntmps46
  go_upto_region 1 with fail
  rw [← hw1]
  clear hw1
  go_wp2_with fail
  refine H.out.1.mono ?_
  rintro e w2 ⟨rfl, hb⟩
  have hz1 := lt_of_heap H.out.2.2.1
  have hb2 := H.out.2.1.trans (hb.mono H.out.2.1.size)
  have hg2 := (hb.block _ hz1).trans H.out.2.2.1
  clear c0 c1 c2 c3
  cases A with
  | false =>
    have HB := Lib.hid hb2
    clear hb hb2 hg2 hz1
    go_wp2_with fail
    go_ret
    exact ⟨by unfold sgS; rw [← H.out.2.2.2]; rfl, HB.out⟩
  | true =>
    have hAt := H.out.2.2.2.symm
    have C2 : w2.drew.heap[w.heap.size]? = some (.cells h.cs 57 (0, 0)) := hg2
    have B2 : Below w.heap.size w w2.drew := hb2.drew
    clear hb hb2 hg2 hz1
    go_wp2_with fail
    refine wp_region_held (S := fun W => W.heap[w.heap.size]? = some (.cells h.cs 57 (0, 0))) (by kernel_rfl) ?_
    change wpAnyH _ _ _ _ _ _ _ _ (World.drew _)
    generalize World.drew _ = wh at *
    refine wpAnyH_take (i := 1) (v := ?_) rfl (by kernel_rfl) (by kernel_rfl) (by kernel_rfl) (fun _ _ _ h => h) (Or.inl ⟨by kernel_rfl, ?_⟩) C2 ?_
    rotate_left
    · (intro W hS; obtain ⟨g0, g1, g2, g3⟩ := hd_cell hS; clear hS; go_simp; try (with_reducible rfl))
    refine wpAnyH_take (i := 2) (v := ?_) rfl (by kernel_rfl) (by kernel_rfl) (by kernel_rfl) (fun _ _ _ h => h) (Or.inl ⟨by kernel_rfl, ?_⟩) C2 ?_
    rotate_left
    · (intro W hS; obtain ⟨g0, g1, g2, g3⟩ := hd_cell hS; clear hS; go_simp; try (with_reducible rfl))
    refine wpAnyH_take (i := 4) (v := ?_) rfl (by kernel_rfl) (by kernel_rfl) (by kernel_rfl) (fun _ _ _ h => h) (Or.inl ⟨by kernel_rfl, ?_⟩) C2 ?_
    rotate_left
    · (intro W hS; obtain ⟨g0, g1, g2, g3⟩ := hd_cell hS; clear hS; go_simp; try (with_reducible rfl))
    refine wpAnyH_take (i := 5) (v := ?_) rfl (by kernel_rfl) (by kernel_rfl) (by kernel_rfl) (fun _ _ _ h => h) (Or.inl ⟨by kernel_rfl, ?_⟩) C2 ?_
    rotate_left
    · (intro W hS; obtain ⟨g0, g1, g2, g3⟩ := hd_cell hS; clear hS; go_simp; try (with_reducible rfl))
    refine wpAnyH_take (i := 7) (v := ?_) rfl (by kernel_rfl) (by kernel_rfl) (by kernel_rfl) (fun _ _ _ h => h) (Or.inl ⟨by kernel_rfl, ?_⟩) C2 ?_
    rotate_left
    · (intro W hS; obtain ⟨g0, g1, g2, g3⟩ := hd_cell hS; clear hS; go_simp; try (with_reducible rfl))
    refine wpAnyH_take (i := 8) (v := ?_) rfl (by kernel_rfl) (by kernel_rfl) (by kernel_rfl) (fun _ _ _ h => h) (Or.inl ⟨by kernel_rfl, ?_⟩) C2 ?_
    rotate_left
    · (intro W hS; obtain ⟨g0, g1, g2, g3⟩ := hd_cell hS; clear hS; go_simp; try (with_reducible rfl))
    refine wpAnyH_ready (rs := [0]) (by kernel_rfl) (by simp) ?_
    refine AllReadyH.cons rfl (fun K hK => ?_) AllReadyH.nil
    go_simp
    refine (text_any headT wh).mono ?_
    rintro e w3 ⟨rfl, hb⟩
    have B3 := B2.trans (hb.mono B2.size)
    have C3 := (hb.block _ (lt_of_heap C2)).trans C2
    refine hK.out _ _ C3 (fun _ => ?_)
    clear hK K hb
    refine wpAnyH_ready (rs := [3]) (by kernel_rfl) (by simp) ?_
    refine AllReadyH.cons rfl (fun K hK => ?_) AllReadyH.nil
    go_simp
    refine (num_any h.n w3).mono ?_
    rintro e w4 ⟨rfl, hb⟩
    have B4 := B3.trans (hb.mono B3.size)
    have C4 := (hb.block _ (lt_of_heap C3)).trans C3
    refine hK.out _ _ C4 (fun _ => ?_)
    clear hK K hb
    refine wpAnyH_ready (rs := [6]) (by kernel_rfl) (by simp) ?_
    refine AllReadyH.cons rfl (fun K hK => ?_) AllReadyH.nil
    go_simp
    refine (text_any h.r w4).mono ?_
    rintro e w5 ⟨rfl, hb⟩
    have B5 := B4.trans (hb.mono B4.size)
    have C5 := (hb.block _ (lt_of_heap C4)).trans C4
    refine hK.out _ _ C5 (fun _ => ?_)
    clear hK K hb
    refine wpAnyH_ready (rs := [9]) (by kernel_rfl) (by simp) ?_
    refine AllReadyH.cons rfl (fun K hK => ?_) AllReadyH.nil
    go_simp
    refine (num_any h.t w5).mono ?_
    rintro e w6 ⟨rfl, hb⟩
    have B6 := B5.trans (hb.mono B5.size)
    have C6 := (hb.block _ (lt_of_heap C5)).trans C5
    refine hK.out _ _ C6 (fun _ => ?_)
    clear hK K hb
    obtain ⟨w7, hw7⟩ : ∃ w7, w7 = w6.alloc (.cells (itC (itT headT) ++ itC (itN h.n) ++ itC (itT h.r) ++ itC (itN h.t)).toArray 101) := ⟨_, rfl⟩
    have hb7 : Below w6.heap.size w6 w7 := by rw [hw7]; exact (Below.refl _ _).alloc (Nat.le_refl _) _
    have hg7 : w7.heap[w6.heap.size]? = some (.cells (itC (itT headT) ++ itC (itN h.n) ++ itC (itT h.r) ++ itC (itN h.t)).toArray 101 (0, 0)) := by rw [hw7]; exact heap_alloc_new _ _
    have C7 := (hb7.block _ (lt_of_heap C6)).trans C6
    have B7 := B6.trans (hb7.mono B6.size)
    simp only [itC, itN, itT, It.k, It.n, It.s, List.cons_append, List.nil_append] at hw7
    refine wpAnyH_ready (rs := [10]) (by kernel_rfl) (by simp) ?_
    refine AllReadyH.cons rfl (fun K hK => ?_) AllReadyH.nil
    go_simp
    rw [← hw7]
    clear hw7
    refine hK.out _ _ C7 (fun _ => ?_)
    clear hK K hb7
    have hln : Lies w7 (fun _ => True) (some ⟨w6.heap.size, 0, none⟩) (signedIts h) := four_lies hg7 trivial rfl rfl rfl rfl
    have hsr : h.r.size ≤ maxLen := by have := (bodyB_iff.1 hAt).2.1; unfold maxLen; omega
    have hia : It.InAll w7 (fun _ => True) (signedIts h) := ⟨flat_in (by decide), flat_in (Nat.zero_le _), flat_in hsr, flat_in (Nat.zero_le _), trivial⟩
    have hwr := bytesOf_any (fun _ => True) (signedIts h) (some ⟨w6.heap.size, 0, none⟩) 4 w7 hln hia (Nat.le_trans (Nat.le_of_eq (show It.szAll (signedIts h) = 4 from rfl)) (by decide)) _ (sgS_enc hAt)
    have hwr2 : Calls Tryd.prog 79 #[.slice (some ⟨w6.heap.size, 0, none⟩) 4 4] w7 fun e w' => e = .returned (.string (sgS h)) ∧ Below w7.heap.size w7 w' := hwr
    refine wpAnyH_ready (rs := [11]) (by kernel_rfl) (by simp) ?_
    refine AllReadyH.cons rfl (fun K hK => ?_) AllReadyH.nil
    go_simp
    refine (hwr2).mono ?_
    rintro e w8 ⟨rfl, hb⟩
    have B8 := B7.trans (hb.mono B7.size)
    have C8 := (hb.block _ (lt_of_heap C7)).trans C7
    refine hK.out _ _ C8 (fun _ => ?_)
    clear hK K hb
    refine wpAnyH_take (i := 12) (v := ?_) rfl (by kernel_rfl) (by kernel_rfl) (by kernel_rfl) (fun _ _ _ h => h) (Or.inl ⟨by kernel_rfl, ?_⟩) C8 ?_
    rotate_left
    · (intro W hS; clear hS; go_simp; try (with_reducible rfl))
    refine wpAnyH_done (by kernel_rfl) ?_ _
    go_simp
    have HB := Lib.hid B8
    clear C2 B2 C3 B3 C4 B4 C5 B5 C6 B6 C7 B7 C8 B8 hwr hwr2 hia hln
    go_wp2_with fail
    go_ret
    exact ⟨rfl, HB.out⟩
def htextIts (h : Hd) : List It := [itN h.n, itT h.r, itN h.t, itT h.c]
set_option maxRecDepth 100000 in
set_option maxHeartbeats 1000000 in
theorem htext_any (h : Hd) (w : World) : Calls Tryd.prog 50 #[.agg h.cs] w fun e w' => e = .returned (.string (hdS h)) ∧ Below w.heap.size w w' := by
  obtain ⟨w1, hw1⟩ : ∃ w1, w1 = w.alloc (.cells h.cs 57) := ⟨_, rfl⟩
  have hb1 : Below w.heap.size w w1 := by rw [hw1]; exact (Below.refl _ _).alloc (Nat.le_refl _) _
  have hg1 : w1.heap[w.heap.size]? = some (.cells h.cs 57 (0, 0)) := by rw [hw1]; exact heap_alloc_new _ _
  have hck := hmayBe_any h w1
  obtain ⟨A, hA⟩ : ∃ A, A = mayB h := ⟨_, rfl⟩
  rw [← hA] at hck
  obtain ⟨c0, c1, c2, c3⟩ := hd_cell hg1
  have H := Lib.hid (And.intro hck (And.intro hb1 (And.intro hg1 hA)))
  clear hck hb1 hg1 hA
  unfold Hd.cs at hw1 ⊢
  go_enter Tryd.func50, Tryd.ntmps50
  go_upto_region 1 with fail
  rw [← hw1]
  clear hw1
  go_wp2_with fail
  refine H.out.1.mono ?_
  rintro e w2 ⟨rfl, hb⟩
  have hz1 := lt_of_heap H.out.2.2.1
  have hb2 := H.out.2.1.trans (hb.mono H.out.2.1.size)
  have hg2 := (hb.block _ hz1).trans H.out.2.2.1
  clear c0 c1 c2 c3
  cases A with
  | false =>
    have HB := Lib.hid hb2
    clear hb hb2 hg2 hz1
    go_wp2_with fail
    go_ret
    exact ⟨by unfold hdS; rw [← H.out.2.2.2]; rfl, HB.out⟩
  | true =>
    have hAt := H.out.2.2.2.symm
    have C2 : w2.drew.heap[w.heap.size]? = some (.cells h.cs 57 (0, 0)) := hg2
    have B2 : Below w.heap.size w w2.drew := hb2.drew
    clear hb hb2 hg2 hz1
    go_wp2_with fail
    refine wp_region_held (S := fun W => W.heap[w.heap.size]? = some (.cells h.cs 57 (0, 0))) (by kernel_rfl) ?_
    change wpAnyH _ _ _ _ _ _ _ _ (World.drew _)
    generalize World.drew _ = wh at *
    refine wpAnyH_take (i := 0) (v := ?_) rfl (by kernel_rfl) (by kernel_rfl) (by kernel_rfl) (fun _ _ _ h => h) (Or.inl ⟨by kernel_rfl, ?_⟩) C2 ?_
    rotate_left
    · (intro W hS; obtain ⟨g0, g1, g2, g3⟩ := hd_cell hS; clear hS; go_simp; try (with_reducible rfl))
    refine wpAnyH_take (i := 1) (v := ?_) rfl (by kernel_rfl) (by kernel_rfl) (by kernel_rfl) (fun _ _ _ h => h) (Or.inl ⟨by kernel_rfl, ?_⟩) C2 ?_
    rotate_left
    · (intro W hS; obtain ⟨g0, g1, g2, g3⟩ := hd_cell hS; clear hS; go_simp; try (with_reducible rfl))
    refine wpAnyH_take (i := 3) (v := ?_) rfl (by kernel_rfl) (by kernel_rfl) (by kernel_rfl) (fun _ _ _ h => h) (Or.inl ⟨by kernel_rfl, ?_⟩) C2 ?_
    rotate_left
    · (intro W hS; obtain ⟨g0, g1, g2, g3⟩ := hd_cell hS; clear hS; go_simp; try (with_reducible rfl))
    refine wpAnyH_take (i := 4) (v := ?_) rfl (by kernel_rfl) (by kernel_rfl) (by kernel_rfl) (fun _ _ _ h => h) (Or.inl ⟨by kernel_rfl, ?_⟩) C2 ?_
    rotate_left
    · (intro W hS; obtain ⟨g0, g1, g2, g3⟩ := hd_cell hS; clear hS; go_simp; try (with_reducible rfl))
    refine wpAnyH_take (i := 6) (v := ?_) rfl (by kernel_rfl) (by kernel_rfl) (by kernel_rfl) (fun _ _ _ h => h) (Or.inl ⟨by kernel_rfl, ?_⟩) C2 ?_
    rotate_left
    · (intro W hS; obtain ⟨g0, g1, g2, g3⟩ := hd_cell hS; clear hS; go_simp; try (with_reducible rfl))
    refine wpAnyH_take (i := 7) (v := ?_) rfl (by kernel_rfl) (by kernel_rfl) (by kernel_rfl) (fun _ _ _ h => h) (Or.inl ⟨by kernel_rfl, ?_⟩) C2 ?_
    rotate_left
    · (intro W hS; obtain ⟨g0, g1, g2, g3⟩ := hd_cell hS; clear hS; go_simp; try (with_reducible rfl))
    refine wpAnyH_take (i := 9) (v := ?_) rfl (by kernel_rfl) (by kernel_rfl) (by kernel_rfl) (fun _ _ _ h => h) (Or.inl ⟨by kernel_rfl, ?_⟩) C2 ?_
    rotate_left
    · (intro W hS; obtain ⟨g0, g1, g2, g3⟩ := hd_cell hS; clear hS; go_simp; try (with_reducible rfl))
    refine wpAnyH_take (i := 10) (v := ?_) rfl (by kernel_rfl) (by kernel_rfl) (by kernel_rfl) (fun _ _ _ h => h) (Or.inl ⟨by kernel_rfl, ?_⟩) C2 ?_
    rotate_left
    · (intro W hS; obtain ⟨g0, g1, g2, g3⟩ := hd_cell hS; clear hS; go_simp; try (with_reducible rfl))
    refine wpAnyH_ready (rs := [2]) (by kernel_rfl) (by simp) ?_
    refine AllReadyH.cons rfl (fun K hK => ?_) AllReadyH.nil
    go_simp
    refine (num_any h.n wh).mono ?_
    rintro e w3 ⟨rfl, hb⟩
    have B3 := B2.trans (hb.mono B2.size)
    have C3 := (hb.block _ (lt_of_heap C2)).trans C2
    refine hK.out _ _ C3 (fun _ => ?_)
    clear hK K hb
    refine wpAnyH_ready (rs := [5]) (by kernel_rfl) (by simp) ?_
    refine AllReadyH.cons rfl (fun K hK => ?_) AllReadyH.nil
    go_simp
    refine (text_any h.r w3).mono ?_
    rintro e w4 ⟨rfl, hb⟩
    have B4 := B3.trans (hb.mono B3.size)
    have C4 := (hb.block _ (lt_of_heap C3)).trans C3
    refine hK.out _ _ C4 (fun _ => ?_)
    clear hK K hb
    refine wpAnyH_ready (rs := [8]) (by kernel_rfl) (by simp) ?_
    refine AllReadyH.cons rfl (fun K hK => ?_) AllReadyH.nil
    go_simp
    refine (num_any h.t w4).mono ?_
    rintro e w5 ⟨rfl, hb⟩
    have B5 := B4.trans (hb.mono B4.size)
    have C5 := (hb.block _ (lt_of_heap C4)).trans C4
    refine hK.out _ _ C5 (fun _ => ?_)
    clear hK K hb
    refine wpAnyH_ready (rs := [11]) (by kernel_rfl) (by simp) ?_
    refine AllReadyH.cons rfl (fun K hK => ?_) AllReadyH.nil
    go_simp
    refine (text_any h.c w5).mono ?_
    rintro e w6 ⟨rfl, hb⟩
    have B6 := B5.trans (hb.mono B5.size)
    have C6 := (hb.block _ (lt_of_heap C5)).trans C5
    refine hK.out _ _ C6 (fun _ => ?_)
    clear hK K hb
    obtain ⟨w7, hw7⟩ : ∃ w7, w7 = w6.alloc (.cells (itC (itN h.n) ++ itC (itT h.r) ++ itC (itN h.t) ++ itC (itT h.c)).toArray 101) := ⟨_, rfl⟩
    have hb7 : Below w6.heap.size w6 w7 := by rw [hw7]; exact (Below.refl _ _).alloc (Nat.le_refl _) _
    have hg7 : w7.heap[w6.heap.size]? = some (.cells (itC (itN h.n) ++ itC (itT h.r) ++ itC (itN h.t) ++ itC (itT h.c)).toArray 101 (0, 0)) := by rw [hw7]; exact heap_alloc_new _ _
    have C7 := (hb7.block _ (lt_of_heap C6)).trans C6
    have B7 := B6.trans (hb7.mono B6.size)
    simp only [itC, itN, itT, It.k, It.n, It.s, List.cons_append, List.nil_append] at hw7
    refine wpAnyH_ready (rs := [12]) (by kernel_rfl) (by simp) ?_
    refine AllReadyH.cons rfl (fun K hK => ?_) AllReadyH.nil
    go_simp
    rw [← hw7]
    clear hw7
    refine hK.out _ _ C7 (fun _ => ?_)
    clear hK K hb7
    have hln : Lies w7 (fun _ => True) (some ⟨w6.heap.size, 0, none⟩) (htextIts h) := four_lies hg7 trivial rfl rfl rfl rfl
    have hsr : h.r.size ≤ maxLen := by have := (bodyB_iff.1 (mayB_iff.1 hAt).1).2.1; unfold maxLen; omega
    have hsc : h.c.size ≤ maxLen := by have := (mayB_iff.1 hAt).2; unfold maxLen; omega
    have hia : It.InAll w7 (fun _ => True) (htextIts h) := ⟨flat_in (Nat.zero_le _), flat_in hsr, flat_in (Nat.zero_le _), flat_in hsc, trivial⟩
    have hwr := bytesOf_any (fun _ => True) (htextIts h) (some ⟨w6.heap.size, 0, none⟩) 4 w7 hln hia (Nat.le_trans (Nat.le_of_eq (show It.szAll (htextIts h) = 4 from rfl)) (by decide)) _ (hdS_enc hAt)
    have hwr2 : Calls Tryd.prog 79 #[.slice (some ⟨w6.heap.size, 0, none⟩) 4 4] w7 fun e w' => e = .returned (.string (hdS h)) ∧ Below w7.heap.size w7 w' := hwr
    refine wpAnyH_ready (rs := [13]) (by kernel_rfl) (by simp) ?_
    refine AllReadyH.cons rfl (fun K hK => ?_) AllReadyH.nil
    go_simp
    refine (hwr2).mono ?_
    rintro e w8 ⟨rfl, hb⟩
    have B8 := B7.trans (hb.mono B7.size)
    have C8 := (hb.block _ (lt_of_heap C7)).trans C7
    refine hK.out _ _ C8 (fun _ => ?_)
    clear hK K hb
    refine wpAnyH_take (i := 14) (v := ?_) rfl (by kernel_rfl) (by kernel_rfl) (by kernel_rfl) (fun _ _ _ h => h) (Or.inl ⟨by kernel_rfl, ?_⟩) C8 ?_
    rotate_left
    · (intro W hS; clear hS; go_simp; try (with_reducible rfl))
    refine wpAnyH_done (by kernel_rfl) ?_ _
    go_simp
    have HB := Lib.hid B8
    clear C2 B2 C3 B3 C4 B4 C5 B5 C6 B6 C7 B7 C8 B8 hwr hwr2 hia hln
    go_wp2_with fail
    go_ret
    exact ⟨rfl, HB.out⟩
def rsignedIts (h : Hd) : List It := [itT headT, itN h.n, itT h.r, itN h.t]
set_option maxRecDepth 100000 in
set_option maxHeartbeats 1000000 in
theorem rsigned_any (h : Hd) (w : World) : Calls Tryd.prog 47 #[.agg h.cs] w fun e w' => e = .returned (.string (sgS h)) ∧ Below w.heap.size w w' := by
  obtain ⟨w1, hw1⟩ : ∃ w1, w1 = w.alloc (.cells h.cs 61) := ⟨_, rfl⟩
  have hb1 : Below w.heap.size w w1 := by rw [hw1]; exact (Below.refl _ _).alloc (Nat.le_refl _) _
  have hg1 : w1.heap[w.heap.size]? = some (.cells h.cs 61 (0, 0)) := by rw [hw1]; exact heap_alloc_new _ _
  have hck := rbody_any h w1
  obtain ⟨A, hA⟩ : ∃ A, A = bodyB h := ⟨_, rfl⟩
  rw [← hA] at hck
  obtain ⟨c0, c1, c2, c3⟩ := hd_cell hg1
  have H := Lib.hid (And.intro hck (And.intro hb1 (And.intro hg1 hA)))
  clear hck hb1 hg1 hA
  unfold Hd.cs at hw1 ⊢
  go_enter Tryd.func47, Tryd.ntmps47
  go_upto_region 1 with fail
  rw [← hw1]
  clear hw1
  go_wp2_with fail
  refine H.out.1.mono ?_
  rintro e w2 ⟨rfl, hb⟩
  have hz1 := lt_of_heap H.out.2.2.1
  have hb2 := H.out.2.1.trans (hb.mono H.out.2.1.size)
  have hg2 := (hb.block _ hz1).trans H.out.2.2.1
  clear c0 c1 c2 c3
  cases A with
  | false =>
    have HB := Lib.hid hb2
    clear hb hb2 hg2 hz1
    go_wp2_with fail
    go_ret
    exact ⟨by unfold sgS; rw [← H.out.2.2.2]; rfl, HB.out⟩
  | true =>
    have hAt := H.out.2.2.2.symm
    have C2 : w2.drew.heap[w.heap.size]? = some (.cells h.cs 61 (0, 0)) := hg2
    have B2 : Below w.heap.size w w2.drew := hb2.drew
    clear hb hb2 hg2 hz1
    go_wp2_with fail
    refine wp_region_held (S := fun W => W.heap[w.heap.size]? = some (.cells h.cs 61 (0, 0))) (by kernel_rfl) ?_
    change wpAnyH _ _ _ _ _ _ _ _ (World.drew _)
    generalize World.drew _ = wh at *
    refine wpAnyH_take (i := 1) (v := ?_) rfl (by kernel_rfl) (by kernel_rfl) (by kernel_rfl) (fun _ _ _ h => h) (Or.inl ⟨by kernel_rfl, ?_⟩) C2 ?_
    rotate_left
    · (intro W hS; obtain ⟨g0, g1, g2, g3⟩ := hd_cell hS; clear hS; go_simp; try (with_reducible rfl))
    refine wpAnyH_take (i := 2) (v := ?_) rfl (by kernel_rfl) (by kernel_rfl) (by kernel_rfl) (fun _ _ _ h => h) (Or.inl ⟨by kernel_rfl, ?_⟩) C2 ?_
    rotate_left
    · (intro W hS; obtain ⟨g0, g1, g2, g3⟩ := hd_cell hS; clear hS; go_simp; try (with_reducible rfl))
    refine wpAnyH_take (i := 4) (v := ?_) rfl (by kernel_rfl) (by kernel_rfl) (by kernel_rfl) (fun _ _ _ h => h) (Or.inl ⟨by kernel_rfl, ?_⟩) C2 ?_
    rotate_left
    · (intro W hS; obtain ⟨g0, g1, g2, g3⟩ := hd_cell hS; clear hS; go_simp; try (with_reducible rfl))
    refine wpAnyH_take (i := 5) (v := ?_) rfl (by kernel_rfl) (by kernel_rfl) (by kernel_rfl) (fun _ _ _ h => h) (Or.inl ⟨by kernel_rfl, ?_⟩) C2 ?_
    rotate_left
    · (intro W hS; obtain ⟨g0, g1, g2, g3⟩ := hd_cell hS; clear hS; go_simp; try (with_reducible rfl))
    refine wpAnyH_take (i := 7) (v := ?_) rfl (by kernel_rfl) (by kernel_rfl) (by kernel_rfl) (fun _ _ _ h => h) (Or.inl ⟨by kernel_rfl, ?_⟩) C2 ?_
    rotate_left
    · (intro W hS; obtain ⟨g0, g1, g2, g3⟩ := hd_cell hS; clear hS; go_simp; try (with_reducible rfl))
    refine wpAnyH_take (i := 8) (v := ?_) rfl (by kernel_rfl) (by kernel_rfl) (by kernel_rfl) (fun _ _ _ h => h) (Or.inl ⟨by kernel_rfl, ?_⟩) C2 ?_
    rotate_left
    · (intro W hS; obtain ⟨g0, g1, g2, g3⟩ := hd_cell hS; clear hS; go_simp; try (with_reducible rfl))
    refine wpAnyH_ready (rs := [0]) (by kernel_rfl) (by simp) ?_
    refine AllReadyH.cons rfl (fun K hK => ?_) AllReadyH.nil
    go_simp
    refine (rtextH_any headT wh).mono ?_
    rintro e w3 ⟨rfl, hb⟩
    have B3 := B2.trans (hb.mono B2.size)
    have C3 := (hb.block _ (lt_of_heap C2)).trans C2
    refine hK.out _ _ C3 (fun _ => ?_)
    clear hK K hb
    refine wpAnyH_ready (rs := [3]) (by kernel_rfl) (by simp) ?_
    refine AllReadyH.cons rfl (fun K hK => ?_) AllReadyH.nil
    go_simp
    refine (rnumH_any h.n w3).mono ?_
    rintro e w4 ⟨rfl, hb⟩
    have B4 := B3.trans (hb.mono B3.size)
    have C4 := (hb.block _ (lt_of_heap C3)).trans C3
    refine hK.out _ _ C4 (fun _ => ?_)
    clear hK K hb
    refine wpAnyH_ready (rs := [6]) (by kernel_rfl) (by simp) ?_
    refine AllReadyH.cons rfl (fun K hK => ?_) AllReadyH.nil
    go_simp
    refine (rtextH_any h.r w4).mono ?_
    rintro e w5 ⟨rfl, hb⟩
    have B5 := B4.trans (hb.mono B4.size)
    have C5 := (hb.block _ (lt_of_heap C4)).trans C4
    refine hK.out _ _ C5 (fun _ => ?_)
    clear hK K hb
    refine wpAnyH_ready (rs := [9]) (by kernel_rfl) (by simp) ?_
    refine AllReadyH.cons rfl (fun K hK => ?_) AllReadyH.nil
    go_simp
    refine (rnumH_any h.t w5).mono ?_
    rintro e w6 ⟨rfl, hb⟩
    have B6 := B5.trans (hb.mono B5.size)
    have C6 := (hb.block _ (lt_of_heap C5)).trans C5
    refine hK.out _ _ C6 (fun _ => ?_)
    clear hK K hb
    obtain ⟨w7, hw7⟩ : ∃ w7, w7 = w6.alloc (.cells (itC (itT headT) ++ itC (itN h.n) ++ itC (itT h.r) ++ itC (itN h.t)).toArray 107) := ⟨_, rfl⟩
    have hb7 : Below w6.heap.size w6 w7 := by rw [hw7]; exact (Below.refl _ _).alloc (Nat.le_refl _) _
    have hg7 : w7.heap[w6.heap.size]? = some (.cells (itC (itT headT) ++ itC (itN h.n) ++ itC (itT h.r) ++ itC (itN h.t)).toArray 107 (0, 0)) := by rw [hw7]; exact heap_alloc_new _ _
    have C7 := (hb7.block _ (lt_of_heap C6)).trans C6
    have B7 := B6.trans (hb7.mono B6.size)
    simp only [itC, itN, itT, It.k, It.n, It.s, List.cons_append, List.nil_append] at hw7
    refine wpAnyH_ready (rs := [10]) (by kernel_rfl) (by simp) ?_
    refine AllReadyH.cons rfl (fun K hK => ?_) AllReadyH.nil
    go_simp
    rw [← hw7]
    clear hw7
    refine hK.out _ _ C7 (fun _ => ?_)
    clear hK K hb7
    have hln : Lies w7 (fun _ => True) (some ⟨w6.heap.size, 0, none⟩) (rsignedIts h) := four_lies hg7 trivial rfl rfl rfl rfl
    refine wpAnyH_take (i := 11) (v := ?_) rfl (by kernel_rfl) (by kernel_rfl) (by kernel_rfl) (fun _ _ _ h => h) (Or.inl ⟨by kernel_rfl, ?_⟩) C7 ?_
    rotate_left
    · (intro W hS; clear hS; go_simp; try (with_reducible rfl))
    have hsr : h.r.size ≤ maxLen := by have := (bodyB_iff.1 hAt).2.1; unfold maxLen; omega
    have hia : It.InAll w7 (fun _ => True) (rsignedIts h) := ⟨flat_in (by decide), flat_in (Nat.zero_le _), flat_in hsr, flat_in (Nat.zero_le _), trivial⟩
    have hin : It.In w7 (fun _ => True) (.mk 3 0 ⟨#[]⟩ (some ⟨w6.heap.size, 0, none⟩) 4 (rsignedIts h)) := ⟨Nat.zero_le _, hln, hia⟩
    have hwr := rwrite_any _ _ (Nat.le_refl _) (fun _ => True) 6 w7 hin (sgT_may hAt) (Nat.le_trans (sgT_len hAt) (by decide))
    have hT : (⟨(Cn.bytes (It.mk 3 0 ⟨#[]⟩ (some ⟨w6.heap.size, 0, none⟩) 4 (rsignedIts h)).pure).toArray⟩ : ByteArray) = sgS h := by unfold sgS; rw [if_pos hAt]; rfl
    rw [hT] at hwr
    have hwr2 : Calls Tryd.prog 82 #[.agg #[.int .i64 3, .int .i64 0, .string ⟨#[]⟩, .slice (some ⟨w6.heap.size, 0, none⟩) 4 4]] w7 fun e w' => e = .returned (.string (sgS h)) ∧ Below w7.heap.size w7 w' := hwr
    refine wpAnyH_ready (rs := [12]) (by kernel_rfl) (by simp) ?_
    refine AllReadyH.cons rfl (fun K hK => ?_) AllReadyH.nil
    go_simp
    refine (hwr2).mono ?_
    rintro e w8 ⟨rfl, hb⟩
    have B8 := B7.trans (hb.mono B7.size)
    have C8 := (hb.block _ (lt_of_heap C7)).trans C7
    refine hK.out _ _ C8 (fun _ => ?_)
    clear hK K hb
    refine wpAnyH_take (i := 13) (v := ?_) rfl (by kernel_rfl) (by kernel_rfl) (by kernel_rfl) (fun _ _ _ h => h) (Or.inl ⟨by kernel_rfl, ?_⟩) C8 ?_
    rotate_left
    · (intro W hS; clear hS; go_simp; try (with_reducible rfl))
    refine wpAnyH_done (by kernel_rfl) ?_ _
    go_simp
    have HB := Lib.hid B8
    clear C2 B2 C3 B3 C4 B4 C5 B5 C6 B6 C7 B7 C8 B8 hwr hwr2 hia hln
    go_wp2_with fail
    go_ret
    exact ⟨rfl, HB.out⟩
end Go.Proofs.YtdjhlgodecnidaaDoor
