/- shamir.Text, Read; the reference's. -/
import Derived.Test.YtefpfedpgedloaaGreatDoorVTxtM
import Derived.Test.YtefpfedpgedloaaGreatDoorMV4
import Derived.Test.YtefpfedpgedloaaGreatDoorVRAlike
import Derived.Test.YtefpfedpgedloaaGreatDoorCEnc
import Derived.Test.YtefpfedpgedloaaGreatDoorCRefWrite
import Derived.Test.YtefpfedpgedloaaGreatDoorCRefShape
import Derived.Test.YtefpfedpgedloaaGreatDoorClone
import Derived.Deep.RegionHeld
namespace Go.Proofs.YtefpfedpgedloaaGreatDoor
open Go.RowKit
open Cn

theorem flat_in {w : World} {S : Nat → Prop} {k n : Int} {s : ByteArray} (h : s.size ≤ maxLen) : It.In w S (.mk k n s none 0 []) := ⟨h, ⟨Nat.zero_le _, fun h => absurd rfl h⟩, trivial⟩
/-- The three items of a share. -/
def itsS (s : Shr) : List It := [.mk 1 s.x ⟨#[]⟩ none 0 [], .mk 1 s.need ⟨#[]⟩ none 0 [], .mk 2 0 s.y none 0 []]
def itsC (s : Shr) : Array Value := #[.int .i64 1, .int .i64 s.x, .string ⟨#[]⟩, .slice none 0 0, .int .i64 1, .int .i64 s.need, .string ⟨#[]⟩, .slice none 0 0, .int .i64 2, .int .i64 0, .string s.y, .slice none 0 0]
theorem itsS_lies {w : World} {b : Nat} {s : Shr} {t : TypeId} {S : Nat → Prop} (h : w.heap[b]? = some (.cells (itsC s) t (0, 0))) (hS : S b) : Lies w S (some ⟨b, 0, none⟩) (itsS s) := by
  refine ⟨by show 3 ≤ maxLen; unfold maxLen; decide, fun _ => ⟨b, 0, rfl, lt_of_heap h, hS, fun j x hx => ?_⟩⟩
  have hc : ∀ i, w.cell? ⟨b, i, none⟩ = (itsC s)[i]? := Lib.cell_of_heap h
  match j, hx with
  | 0, hx => injection hx with hx; subst hx; exact ⟨hc _, hc _, hc _, hc _⟩
  | 1, hx => injection hx with hx; subst hx; exact ⟨hc _, hc _, hc _, hc _⟩
  | 2, hx => injection hx with hx; subst hx; exact ⟨hc _, hc _, hc _, hc _⟩
  | j + 3, hx => simp [itsS] at hx
theorem itsS_in {w : World} {S : Nat → Prop} {s : Shr} (h : s.y.size ≤ maxLen) : It.InAll w S (itsS s) := ⟨flat_in (Nat.zero_le _), flat_in (Nat.zero_le _), flat_in h, trivial⟩
theorem c_encS_share {s : Shr} (h : okS s = true) : c_encS (shT s) = txtS s := by
  unfold c_encS txtS
  rw [if_pos ⟨shT_may h, Nat.le_trans (shT_len h) (by decide)⟩, if_pos h]
set_option maxRecDepth 100000 in
set_option maxHeartbeats 1000000 in
theorem stext_any (s : Shr) (hs : s.y.size ≤ maxLen) (w : World) : Calls Tryz.prog 12 #[.agg #[.int .i64 s.x, .int .i64 s.need, .string s.y]] w fun e w' => e = .returned (.string (txtS s)) ∧ Below w.heap.size w w' := by
  obtain ⟨w1, hw1⟩ : ∃ w1, w1 = w.alloc (.cells #[.int .i64 s.x, .int .i64 s.need, .string s.y] 32) := ⟨_, rfl⟩
  have hb1 : Below w.heap.size w w1 := by rw [hw1]; exact (Below.refl _ _).alloc (Nat.le_refl _) _
  have hg1 : w1.heap[w.heap.size]? = some (.cells #[.int .i64 s.x, .int .i64 s.need, .string s.y] 32 (0, 0)) := by rw [hw1]; exact heap_alloc_new _ _
  obtain ⟨c0, c1, c2⟩ := share_cell hg1
  have hck := check_any s hs w1
  obtain ⟨A, hA⟩ : ∃ A, A = okS s := ⟨_, rfl⟩
  rw [← hA] at hck
  have H := Lib.hid (And.intro hck (And.intro hb1 (And.intro hg1 hA)))
  clear hck hb1 hg1 hA
  go_enter Tryz.func12, Tryz.ntmps12
  go_upto_region 1 with fail
  rw [← hw1]
  clear hw1
  go_wp2_with fail
  refine H.out.1.mono ?_
  rintro e w2 ⟨rfl, hb⟩
  have hz1 := lt_of_heap H.out.2.2.1
  have hb2 := H.out.2.1.trans (hb.mono H.out.2.1.size)
  have hg2 := (hb.block _ hz1).trans H.out.2.2.1
  clear c0 c1 c2
  cases A with
  | false =>
    have HB := Lib.hid hb2
    clear hb hb2 hg2 hz1
    go_wp2_with fail
    go_ret
    exact ⟨by unfold txtS; rw [← H.out.2.2.2]; rfl, HB.out⟩
  | true =>
    have C : w2.drew.heap[w.heap.size]? = some (.cells #[.int .i64 s.x, .int .i64 s.need, .string s.y] 32 (0, 0)) := hg2
    have B2 : Below w.heap.size w w2.drew := hb2.drew
    clear hb hb2 hg2 hz1
    go_wp2_with fail
    refine wp_region_held (S := fun W => W.heap[w.heap.size]? = some (.cells #[.int .i64 s.x, .int .i64 s.need, .string s.y] 32 (0, 0))) (by kernel_rfl) ?_
    change wpAnyH _ _ _ _ _ _ _ _ (World.drew _)
    generalize World.drew _ = wh at *
    refine wpAnyH_take (i := 0) (v := ?_) rfl (by kernel_rfl) (by kernel_rfl) (by kernel_rfl) (fun _ _ _ h => h) (Or.inl ⟨by kernel_rfl, ?_⟩) C ?_
    rotate_left
    · (intro W hS; obtain ⟨g0, g1, g2⟩ := share_cell hS; clear hS; go_simp; try (with_reducible rfl))
    refine wpAnyH_take (i := 1) (v := ?_) rfl (by kernel_rfl) (by kernel_rfl) (by kernel_rfl) (fun _ _ _ h => h) (Or.inl ⟨by kernel_rfl, ?_⟩) C ?_
    rotate_left
    · (intro W hS; obtain ⟨g0, g1, g2⟩ := share_cell hS; clear hS; go_simp; try (with_reducible rfl))
    refine wpAnyH_take (i := 3) (v := ?_) rfl (by kernel_rfl) (by kernel_rfl) (by kernel_rfl) (fun _ _ _ h => h) (Or.inl ⟨by kernel_rfl, ?_⟩) C ?_
    rotate_left
    · (intro W hS; obtain ⟨g0, g1, g2⟩ := share_cell hS; clear hS; go_simp; try (with_reducible rfl))
    refine wpAnyH_take (i := 4) (v := ?_) rfl (by kernel_rfl) (by kernel_rfl) (by kernel_rfl) (fun _ _ _ h => h) (Or.inl ⟨by kernel_rfl, ?_⟩) C ?_
    rotate_left
    · (intro W hS; obtain ⟨g0, g1, g2⟩ := share_cell hS; clear hS; go_simp; try (with_reducible rfl))
    refine wpAnyH_take (i := 6) (v := ?_) rfl (by kernel_rfl) (by kernel_rfl) (by kernel_rfl) (fun _ _ _ h => h) (Or.inl ⟨by kernel_rfl, ?_⟩) C ?_
    rotate_left
    · (intro W hS; obtain ⟨g0, g1, g2⟩ := share_cell hS; clear hS; go_simp; try (with_reducible rfl))
    refine wpAnyH_take (i := 7) (v := ?_) rfl (by kernel_rfl) (by kernel_rfl) (by kernel_rfl) (fun _ _ _ h => h) (Or.inl ⟨by kernel_rfl, ?_⟩) C ?_
    rotate_left
    · (intro W hS; obtain ⟨g0, g1, g2⟩ := share_cell hS; clear hS; go_simp; try (with_reducible rfl))
    refine wpAnyH_ready (rs := [2]) (by kernel_rfl) (by simp) ?_
    refine AllReadyH.cons rfl (fun K hK => ?_) AllReadyH.nil
    go_simp
    refine (num_any s.x wh).mono ?_
    rintro e w3 ⟨rfl, hb⟩
    have B3 := B2.trans (hb.mono B2.size)
    have C3 := (hb.block _ (lt_of_heap C)).trans C
    refine hK.out _ _ C3 (fun _ => ?_)
    clear hK K hb
    refine wpAnyH_ready (rs := [5]) (by kernel_rfl) (by simp) ?_
    refine AllReadyH.cons rfl (fun K hK => ?_) AllReadyH.nil
    go_simp
    refine (num_any s.need w3).mono ?_
    rintro e w4 ⟨rfl, hb⟩
    have B5 := B3.trans (hb.mono B3.size)
    have C5 := (hb.block _ (lt_of_heap C3)).trans C3
    refine hK.out _ _ C5 (fun _ => ?_)
    clear hK K hb
    refine wpAnyH_ready (rs := [8]) (by kernel_rfl) (by simp) ?_
    refine AllReadyH.cons rfl (fun K hK => ?_) AllReadyH.nil
    go_simp
    refine (text_any s.y w4).mono ?_
    rintro e w5 ⟨rfl, hb⟩
    have B8 := B5.trans (hb.mono B5.size)
    have C8 := (hb.block _ (lt_of_heap C5)).trans C5
    refine hK.out _ _ C8 (fun _ => ?_)
    clear hK K hb
    obtain ⟨w6, hw6⟩ : ∃ w6, w6 = w5.alloc (.cells (itsC s) 60) := ⟨_, rfl⟩
    have hb6 : Below w5.heap.size w5 w6 := by rw [hw6]; exact (Below.refl _ _).alloc (Nat.le_refl _) _
    have hg6 : w6.heap[w5.heap.size]? = some (.cells (itsC s) 60 (0, 0)) := by rw [hw6]; exact heap_alloc_new _ _
    have C9 := (hb6.block _ (lt_of_heap C8)).trans C8
    have B9 := B8.trans (hb6.mono B8.size)
    unfold itsC at hw6
    refine wpAnyH_ready (rs := [9]) (by kernel_rfl) (by simp) ?_
    refine AllReadyH.cons rfl (fun K hK => ?_) AllReadyH.nil
    go_simp
    rw [← hw6]
    clear hw6
    refine hK.out _ _ C9 (fun _ => ?_)
    clear hK K hb6
    have hli := list_any (fun _ => True) (itsS s) (some ⟨w5.heap.size, 0, none⟩) 3 w6 (itsS_lies hg6 trivial) (itsS_in hs) (Nat.le_trans (Nat.le_of_eq (show It.szAll (itsS s) = 3 from rfl)) (by decide))
    refine wpAnyH_ready (rs := [10]) (by kernel_rfl) (by simp) ?_
    refine AllReadyH.cons rfl (fun K hK => ?_) AllReadyH.nil
    go_simp
    refine hli.mono ?_
    rintro e w7 ⟨x, rfl, hxp, hxi, hb⟩
    have B10 := B9.trans (hb.mono B9.size)
    have C10 := (hb.block _ (lt_of_heap C9)).trans C9
    refine hK.out _ _ C10 (fun _ => ?_)
    clear hK K hb
    have hen := encode_any _ x w7 hxi
    rw [hxp, show Pt.mk 3 0 ⟨#[]⟩ (It.pureAll (itsS s)) = shT s from rfl, c_encS_share H.out.2.2.2.symm] at hen
    refine wpAnyH_ready (rs := [11]) (by kernel_rfl) (by simp) ?_
    refine AllReadyH.cons rfl (fun K hK => ?_) AllReadyH.nil
    go_simp
    refine hen.mono ?_
    rintro e w8 ⟨rfl, hb⟩
    have B11 := B10.trans (hb.mono B10.size)
    have C11 := (hb.block _ (lt_of_heap C10)).trans C10
    refine hK.out _ _ C11 (fun _ => ?_)
    clear hK K hb
    refine wpAnyH_take (i := 12) (v := ?_) rfl (by kernel_rfl) (by kernel_rfl) (by kernel_rfl) (fun _ _ _ h => h) (Or.inl ⟨by kernel_rfl, ?_⟩) C11 ?_
    rotate_left
    · (intro W hS; clear hS; go_simp; try (with_reducible rfl))
    refine wpAnyH_take (i := 13) (v := ?_) rfl (by kernel_rfl) (by kernel_rfl) (by kernel_rfl) (fun _ _ _ h => h) (Or.inl ⟨by kernel_rfl, ?_⟩) C11 ?_
    rotate_left
    · (intro W hS; clear hS; go_simp; try (with_reducible rfl))
    refine wpAnyH_take (i := 14) (v := ?_) rfl (by kernel_rfl) (by kernel_rfl) (by kernel_rfl) (fun _ _ _ h => h) (Or.inl ⟨by kernel_rfl, ?_⟩) C11 ?_
    rotate_left
    · (intro W hS; clear hS; go_simp; try (with_reducible rfl))
    refine wpAnyH_take (i := 15) (v := ?_) rfl (by kernel_rfl) (by kernel_rfl) (by kernel_rfl) (fun _ _ _ h => h) (Or.inl ⟨by kernel_rfl, ?_⟩) C11 ?_
    rotate_left
    · (intro W hS; clear hS; go_simp; try (with_reducible rfl))
    refine wpAnyH_take (i := 16) (v := ?_) rfl (by kernel_rfl) (by kernel_rfl) (by kernel_rfl) (fun _ _ _ h => h) (Or.inl ⟨by kernel_rfl, ?_⟩) C11 ?_
    rotate_left
    · (intro W hS; clear hS; go_simp; try (with_reducible rfl))
    refine wpAnyH_done (by kernel_rfl) ?_ _
    go_simp
    have HB := Lib.hid B11
    clear C C3 C5 C8 C9 C10 C11 B2 B3 B5 B8 B9 B10 B11 hg6 hxi hxp hli hen
    go_wp2_with fail
    go_ret
    exact ⟨rfl, HB.out⟩
set_option maxRecDepth 100000 in
set_option maxHeartbeats 1000000 in
theorem rtext_any (s : Shr) (hs : s.y.size ≤ maxLen) (w : World) : Calls Tryz.prog 15 #[.agg #[.int .i64 s.x, .int .i64 s.need, .string s.y]] w fun e w' => e = .returned (.string (txtS s)) ∧ Below w.heap.size w w' := by
  obtain ⟨w1, hw1⟩ : ∃ w1, w1 = w.alloc (.cells #[.int .i64 s.x, .int .i64 s.need, .string s.y] 36) := ⟨_, rfl⟩
  have hb1 : Below w.heap.size w w1 := by rw [hw1]; exact (Below.refl _ _).alloc (Nat.le_refl _) _
  have hg1 : w1.heap[w.heap.size]? = some (.cells #[.int .i64 s.x, .int .i64 s.need, .string s.y] 36 (0, 0)) := by rw [hw1]; exact heap_alloc_new _ _
  obtain ⟨c0, c1, c2⟩ := share_cell hg1
  have hck := rcheck_any s w1
  obtain ⟨A, hA⟩ : ∃ A, A = okS s := ⟨_, rfl⟩
  rw [← hA] at hck
  have H := Lib.hid (And.intro hck (And.intro hb1 (And.intro hg1 hA)))
  clear hck hb1 hg1 hA
  go_enter Tryz.func15, Tryz.ntmps15
  go_upto_region 1 with fail
  rw [← hw1]
  clear hw1
  go_wp2_with fail
  refine H.out.1.mono ?_
  rintro e w2 ⟨rfl, hb⟩
  have hz1 := lt_of_heap H.out.2.2.1
  have hb2 := H.out.2.1.trans (hb.mono H.out.2.1.size)
  have hg2 := (hb.block _ hz1).trans H.out.2.2.1
  clear c0 c1 c2
  cases A with
  | false =>
    have HB := Lib.hid hb2
    clear hb hb2 hg2 hz1
    go_wp2_with fail
    go_ret
    exact ⟨by unfold txtS; rw [← H.out.2.2.2]; rfl, HB.out⟩
  | true =>
    obtain ⟨c0, c1, c2⟩ := share_cell hg2
    obtain ⟨w3, hw3⟩ : ∃ w3, w3 = w2.alloc (.cells (itsC s) 70) := ⟨_, rfl⟩
    have hb3 : Below w2.heap.size w2 w3 := by rw [hw3]; exact (Below.refl _ _).alloc (Nat.le_refl _) _
    have hg3 : w3.heap[w2.heap.size]? = some (.cells (itsC s) 70 (0, 0)) := by rw [hw3]; exact heap_alloc_new _ _
    have hin : It.In w3 (fun _ => True) (.mk 3 0 ⟨#[]⟩ (some ⟨w2.heap.size, 0, none⟩) 3 (itsS s)) := ⟨Nat.zero_le _, itsS_lies hg3 trivial, itsS_in hs⟩
    have hwr := rwrite_any _ _ (Nat.le_refl _) (fun _ => True) 6 w3 hin (shT_may H.out.2.2.2.symm) (Nat.le_trans (shT_len H.out.2.2.2.symm) (by decide))
    have hT : (⟨(Cn.bytes (It.mk 3 0 ⟨#[]⟩ (some ⟨w2.heap.size, 0, none⟩) 3 (itsS s)).pure).toArray⟩ : ByteArray) = txtS s := by
      unfold txtS; rw [← H.out.2.2.2, if_pos rfl]; rfl
    rw [hT] at hwr
    have hwr2 : Calls Tryz.prog 34 #[.agg #[.int .i64 3, .int .i64 0, .string ⟨#[]⟩, .slice (some ⟨w2.heap.size, 0, none⟩) 3 3]] w3 fun e w' => e = .returned (.string (txtS s)) ∧ Below w3.heap.size w3 w' := hwr
    have HB := Lib.hid (And.intro (hb2.trans (hb3.mono hb2.size)) hwr2)
    clear hb hb2 hg2 hz1 hb3 hg3 hin hwr hwr2 hT
    unfold itsC at hw3
    go_wp2_with fail
    rw [← hw3]
    clear hw3
    refine HB.out.2.mono ?_
    rintro e w4 ⟨rfl, hb⟩
    have HB4 := Lib.hid (HB.out.1.trans (hb.mono HB.out.1.size))
    clear hb
    go_wp2_with fail
    go_ret
    exact ⟨rfl, HB4.out⟩
theorem share_set3 {W : World} {g : Nat} {t : TypeId} {cs : Array Value} (h : W.heap[g]? = some (.cells cs t (0, 0))) (hs : cs.size = 3) (a b c : Value) :
    (((W.setCell ⟨g, 0, none⟩ a).setCell ⟨g, 1, none⟩ b).setCell ⟨g, 2, none⟩ c).heap[g]? = some (.cells #[a, b, c] t (0, 0)) := by
  obtain ⟨c', h1, h2, h3⟩ := c_heap_setCells g t [a, b, c] 0 W cs h (by simp [hs])
  have : c' = #[a, b, c] := by
    refine Array.ext_getElem? fun i => ?_
    rw [h3]
    by_cases hi : i < 3
    · rw [if_pos (by simp; omega)]; simp
    · rw [if_neg (by simp; omega), Array.getElem?_eq_none (by omega), Array.getElem?_eq_none (by simp; omega)]
  rw [← this]
  exact h1
/-- What the region that takes a share out of an item reads. -/
def RdB (gi b o cp : Nat) (x n : Int) (y : ByteArray) (W : World) : Prop :=
  W.cell? ⟨gi, 3, none⟩ = some (.slice (some ⟨b, o, none⟩) 3 cp) ∧ W.cell? ⟨b, o + 1, none⟩ = some (.int .i64 x) ∧ W.cell? ⟨b, o + 5, none⟩ = some (.int .i64 n) ∧ W.cell? ⟨b, o + 10, none⟩ = some (.string y)
theorem rdB_of {W : World} {S : Nat → Prop} {gi cp : Nat} {ya : Option Addr} {yl : List It} {yk yn : Int} {ys : ByteArray} (hin : Lies W S ya yl) (hbox : W.cell? ⟨gi, 3, none⟩ = some (.slice ya yl.length cp))
    (hP : shapeP (.mk yk yn ys (It.pureAll yl)) nnt = true) : yl.length = 3 ∧ ∃ b o, ya = some ⟨b, o, none⟩ ∧ b < W.heap.size ∧ RdB gi b o cp (shOf (.mk yk yn ys (It.pureAll yl))).x (shOf (.mk yk yn ys (It.pureAll yl))).need (shOf (.mk yk yn ys (It.pureAll yl))).y W := by
  unfold shapeP nnt at hP
  match yl, hin, hbox, hP with
  | [], _, _, hP => simp [It.pureAll, fitAll] at hP
  | [a], _, _, hP => simp [It.pureAll, fitAll] at hP
  | [a, b], _, _, hP => simp [It.pureAll, fitAll] at hP
  | a :: b :: c :: d :: e, _, _, hP => simp [It.pureAll, fitAll] at hP
  | [a, b, c], hin, hbox, _ =>
    refine ⟨rfl, ?_⟩
    obtain ⟨bb, oo, x0, rfl, hbl, -, e0, -, -, c1, -, -⟩ := hin.at (j := 0) (by simp)
    obtain ⟨b2, o2, x1, e, -, -, e1, -, -, d1, -, -⟩ := hin.at (j := 1) (by simp)
    injection e with e; injection e with ea eb; subst ea eb
    obtain ⟨b2, o2, x2, e, -, -, e2, -, -, -, f2, -⟩ := hin.at (j := 2) (by simp)
    injection e with e; injection e with ea eb; subst ea eb
    simp at e0 e1 e2
    subst e0 e1 e2
    obtain ⟨k0, n0, s0, a0, p0, l0⟩ := a
    obtain ⟨k1, n1, s1, a1, p1, l1⟩ := b
    obtain ⟨k2, n2, s2, a2, p2, l2⟩ := c
    exact ⟨bb, oo, rfl, hbl, hbox, c1, d1, f2⟩
theorem RdB.keep {gi b o cp : Nat} {x n : Int} {y : ByteArray} {W W' : World} (h : RdB gi b o cp x n y W) (hb : Below W.heap.size W W') (hg : gi < W.heap.size) (hbl : b < W.heap.size) : RdB gi b o cp x n y W' :=
  ⟨(hb.cell (p := ⟨gi, 3, none⟩) hg).trans h.1, (hb.cell (p := ⟨b, o + 1, none⟩) hbl).trans h.2.1, (hb.cell (p := ⟨b, o + 5, none⟩) hbl).trans h.2.2.1, (hb.cell (p := ⟨b, o + 10, none⟩) hbl).trans h.2.2.2⟩
theorem decR_may {l : List UInt8} {x : Pt} (h : decR l = .ok x) : may x 6 = true := by
  unfold decR at h
  split at h
  · cases h
  · rename_i x2 q r hr
    split at h
    · injection h with h; subst h; exact (item_ok _ _ _ _ _ _ _ hr).2.1
    · cases h
theorem rdecR_may {l : List UInt8} {x : Pt} (h : rdecR l = .ok x) : may x 6 = true := by
  unfold rdecR at h
  split at h
  · cases h
  · rename_i x2 q r hr
    split at h
    · injection h with h; subst h; exact (ritem_ok _ _ _ _ _ _ hr).2.1
    · cases h
theorem shOf_small {x : Pt} (hs : shapeP x nnt = true) (hm : may x 6 = true) : (shOf x).y.size ≤ 65536 := by
  have e := shape_may hs hm
  rw [e] at hm
  unfold shT at hm
  simp [may, mayAll] at hm
  omega
theorem below_put3' {B : Nat} {w0 w : World} {g : Nat} (hb : Below B w0 w) (hg : B ≤ g) (a b c : Value) : Below B w0 (((w.setCell ⟨g, 0, none⟩ a).setCell ⟨g, 1, none⟩ b).setCell ⟨g, 2, none⟩ c) :=
  below_put (below_put (below_put hb hg 0 a) hg 1 b) hg 2 c
set_option maxRecDepth 100000 in
set_option maxHeartbeats 1000000 in
theorem sread_any (t : ByteArray) (ht : t.size ≤ maxLen) (w : World) : Calls Tryz.prog 13 #[.string t] w fun e w' => e = .returned (.tuple #[.agg #[.int .i64 (rdS t).1.x, .int .i64 (rdS t).1.need, .string (rdS t).1.y], .int .i64 (rdS t).2]) ∧ Below w.heap.size w w' := by
  obtain ⟨w1, hw1⟩ : ∃ w1, w1 = w.alloc (.cells #[.int .i64 0, .int .i64 0, .string ⟨#[]⟩] 32) := ⟨_, rfl⟩
  have hb1 : Below w.heap.size w w1 := by rw [hw1]; exact (Below.refl _ _).alloc (Nat.le_refl _) _
  have hg1 : w1.heap[w.heap.size]? = some (.cells #[.int .i64 0, .int .i64 0, .string ⟨#[]⟩] 32 (0, 0)) := by rw [hw1]; exact heap_alloc_new _ _
  have hd := decode_any t ht w1
  obtain ⟨R, hR⟩ : ∃ R, R = decR t.data.toList := ⟨_, rfl⟩
  obtain ⟨V, hV⟩ : ∃ V, V = rdS t := ⟨_, rfl⟩
  have hVE : V = rdE R := by rw [hV, hR]; exact rfl
  have hmay : ∀ x, R = .ok x → may x 6 = true := fun x h => decR_may (hR.symm.trans h)
  rw [← hR] at hd
  rw [← hV]
  have H := Lib.hid (And.intro hd (And.intro hb1 (And.intro hg1 (And.intro hVE hmay))))
  clear hd hb1 hg1 hVE hmay hR hV ht
  go_enter Tryz.func13, Tryz.ntmps13
  go_upto_region 1 with fail
  rw [← hw1]
  clear hw1
  go_wp2_with fail
  refine H.out.1.mono ?_
  rintro e w2 ⟨hb, hres⟩
  have hz1 := lt_of_heap H.out.2.2.1
  have hb2 := H.out.2.1.trans (hb.mono H.out.2.1.size)
  have hg2 := (hb.block _ hz1).trans H.out.2.2.1
  have hz2 := Nat.lt_of_lt_of_le hz1 hb.size
  cases R with
  | error x =>
    obtain ⟨hx, rfl⟩ := hres
    have hx0 : (x != 0) = true := by simpa using hx
    have hx1 : (x == 0) = false := by simpa using hx
    obtain ⟨w3, hw3⟩ : ∃ w3, w3 = w2.alloc (.cells #[.int .i64 0, .int .i64 0, .string ⟨#[]⟩, .slice none 0 0] 60) := ⟨_, rfl⟩
    have hb3 : Below w2.heap.size w2 w3 := by rw [hw3]; exact (Below.refl _ _).alloc (Nat.le_refl _) _
    obtain ⟨c0, c1, c2, f⟩ := zero_cells ((hb3.block _ hz2).trans hg2)
    have HB := Lib.hid (hb2.trans (hb3.mono hb2.size))
    have HV := Lib.hid (show V = (⟨0, 0, ⟨#[]⟩⟩, 3) from H.out.2.2.2.1)
    clear hb hb2 hg2 hz1 hz2 hb3 hx
    simp only [zeroIt]
    go_upto_region 2 with fail
    rw [← hw3]
    clear hw3
    go_wp2_with fail
    refine bodyPost_ret (v := .tuple #[.agg #[.int .i64 0, .int .i64 0, .string ⟨#[]⟩], .int .i64 3]) (by simp [results, Tryz.results13, go_sem, c0, c1, c2]) rfl ?_
    exact ⟨by rw [HV.out], below_put3 HB.out (Nat.le_refl _) _ _ _⟩
  | ok x =>
    obtain ⟨it, hpi, rfl, hin⟩ := hres
    have hmx := H.out.2.2.2.2 x rfl
    obtain ⟨yk, yn, ys, ya, yc, yl⟩ := it
    obtain ⟨w3, hw3⟩ : ∃ w3, w3 = w2.alloc (.cells #[.int .i64 yk, .int .i64 yn, .string ys, .slice ya yl.length yc] 60) := ⟨_, rfl⟩
    have hb3 : Below w2.heap.size w2 w3 := by rw [hw3]; exact (Below.refl _ _).alloc (Nat.le_refl _) _
    have hg3 : w3.heap[w2.heap.size]? = some (.cells #[.int .i64 yk, .int .i64 yn, .string ys, .slice ya yl.length yc] 60 (0, 0)) := by rw [hw3]; exact heap_alloc_new _ _
    have hin3 : It.In w3 (w1.heap.size ≤ ·) (.mk yk yn ys ya yc yl) := It.In.kept (keptS_any hb3) _ hin
    have hsh := shape_any _ _ ⟨#[110, 110, 116]⟩ w3 hin3
    have hN : (ByteArray.mk #[110, 110, 116]).data.toList = nnt := rfl
    rw [hN, hpi] at hsh
    simp only [It.val, It.cells, It.k, It.n, It.s, It.a, It.cap, It.l] at hsh ⊢
    have hpx : Pt.mk yk yn ys (It.pureAll yl) = x := hpi
    have hg23 := (hb3.block _ hz2).trans hg2
    have B3 := hb2.trans (hb3.mono hb2.size)
    obtain ⟨i0, i1, i2, i3⟩ := it_cells hg3
    cases hP : shapeP x nnt with
    | false =>
      rw [hP] at hsh
      have HV := Lib.hid (show V = (⟨0, 0, ⟨#[]⟩⟩, 3) by rw [H.out.2.2.2.1]; unfold rdE; simp only; rw [hP, if_neg (fun e => Bool.noConfusion e.1)])
      have HS := Lib.hid (And.intro hsh (And.intro B3 hg23))
      clear hb hb2 hg2 hz1 hz2 hb3 hin hin3 hg3 hsh hN hpi hpx hg23 B3 hP hmx
      go_upto_region 2 with fail
      rw [← hw3]
      clear hw3
      go_wp2_with fail
      refine HS.out.1.mono ?_
      rintro e w4 ⟨rfl, hb⟩
      obtain ⟨c0, c1, c2, f⟩ := zero_cells ((hb.block _ (lt_of_heap HS.out.2.2)).trans HS.out.2.2)
      have HB := Lib.hid (HS.out.2.1.trans (hb.mono HS.out.2.1.size))
      clear hb
      go_wp2_with fail
      refine bodyPost_ret (v := .tuple #[.agg #[.int .i64 0, .int .i64 0, .string ⟨#[]⟩], .int .i64 3]) (by simp [results, Tryz.results13, go_sem, c0, c1, c2]) rfl ?_
      exact ⟨by rw [HV.out], below_put3 HB.out (Nat.le_refl _) _ _ _⟩
    | true =>
      rw [hP] at hsh
      obtain ⟨hl3, b, o, hya, hbl, hRB⟩ := rdB_of hin3.2.1 i3 (by rw [hpx]; exact hP)
      rw [hpx] at hRB
      have hsy := shOf_small hP hmx
      have hVo : V = if okS (shOf x) = true then (shOf x, 0) else (⟨0, 0, ⟨#[]⟩⟩, 3) := by
        rw [H.out.2.2.2.1]
        unfold rdE
        simp only
        cases hok : okS (shOf x) with
        | false => rw [if_neg (fun e => Bool.noConfusion e.2), if_neg (by decide)]
        | true => rw [if_pos ⟨hP, rfl⟩, if_pos rfl]
      obtain ⟨Z, hZ⟩ : ∃ Z, Z = shOf x := ⟨_, rfl⟩
      rw [← hZ] at hRB hsy hVo
      subst hya
      rw [hl3] at hsh hw3 i3 ⊢
      have HS := Lib.hid (And.intro hsh (And.intro B3 (And.intro hg23 (And.intro hRB (And.intro hsy (And.intro hVo (And.intro hbl (lt_of_heap hg3))))))))
      clear hb hb2 hg2 hz1 hz2 hb3 hin hin3 hg3 hsh hN hpi hpx hg23 B3 hP hmx hRB hsy hVo hZ hbl hl3
      go_upto_region 2 with fail
      rw [← hw3]
      clear hw3
      go_wp2_with fail
      refine HS.out.1.mono ?_
      rintro e w4 ⟨rfl, hb⟩
      have hbd : Below w3.heap.size w3 w4.drew := hb.drew
      have C : RdB w2.heap.size b o yc Z.x Z.need Z.y w4.drew := HS.out.2.2.2.1.keep hbd HS.out.2.2.2.2.2.2.2 HS.out.2.2.2.2.2.2.1
      clear i0 i1 i2 i3 hb
      go_wp2_with fail
      refine wp_region_held (S := RdB w2.heap.size b o yc Z.x Z.need Z.y) (by kernel_rfl) ?_
      change wpAnyH _ _ _ _ _ _ _ _ (World.drew _)
      generalize World.drew _ = wh at *
      refine wpAnyH_take (i := 0) (v := ?_) rfl (by kernel_rfl) (by kernel_rfl) (by kernel_rfl) (fun _ _ _ h => h) (Or.inl ⟨by kernel_rfl, ?_⟩) C ?_
      rotate_left
      · (intro W hS; obtain ⟨g0, g1, g2, g3⟩ := hS; go_simp; try (with_reducible rfl))
      refine wpAnyH_take (i := 1) (v := ?_) rfl (by kernel_rfl) (by kernel_rfl) (by kernel_rfl) (fun _ _ _ h => h) (Or.inl ⟨by kernel_rfl, ?_⟩) C ?_
      rotate_left
      · (intro W hS; obtain ⟨g0, g1, g2, g3⟩ := hS; go_simp; try (with_reducible rfl))
      refine wpAnyH_take (i := 2) (v := ?_) rfl (by kernel_rfl) (by kernel_rfl) (by kernel_rfl) (fun _ _ _ h => h) (Or.inl ⟨by kernel_rfl, ?_⟩) C ?_
      rotate_left
      · (intro W hS; obtain ⟨g0, g1, g2, g3⟩ := hS; go_simp; try (with_reducible rfl))
      refine wpAnyH_take (i := 3) (v := ?_) rfl (by kernel_rfl) (by kernel_rfl) (by kernel_rfl) (fun _ _ _ h => h) (Or.inl ⟨by kernel_rfl, ?_⟩) C ?_
      rotate_left
      · (intro W hS; obtain ⟨g0, g1, g2, g3⟩ := hS; go_simp; try (with_reducible rfl))
      refine wpAnyH_take (i := 4) (v := ?_) rfl (by kernel_rfl) (by kernel_rfl) (by kernel_rfl) (fun _ _ _ h => h) (Or.inl ⟨by kernel_rfl, ?_⟩) C ?_
      rotate_left
      · (intro W hS; obtain ⟨g0, g1, g2, g3⟩ := hS; go_simp; try (with_reducible rfl))
      refine wpAnyH_take (i := 5) (v := ?_) rfl (by kernel_rfl) (by kernel_rfl) (by kernel_rfl) (fun _ _ _ h => h) (Or.inl ⟨by kernel_rfl, ?_⟩) C ?_
      rotate_left
      · (intro W hS; obtain ⟨g0, g1, g2, g3⟩ := hS; go_simp; try (with_reducible rfl))
      refine wpAnyH_take (i := 6) (v := ?_) rfl (by kernel_rfl) (by kernel_rfl) (by kernel_rfl) (fun _ _ _ h => h) (Or.inl ⟨by kernel_rfl, ?_⟩) C ?_
      rotate_left
      · (intro W hS; obtain ⟨g0, g1, g2, g3⟩ := hS; go_simp; try (with_reducible rfl))
      refine wpAnyH_take (i := 7) (v := ?_) rfl (by kernel_rfl) (by kernel_rfl) (by kernel_rfl) (fun _ _ _ h => h) (Or.inl ⟨by kernel_rfl, ?_⟩) C ?_
      rotate_left
      · (intro W hS; obtain ⟨g0, g1, g2, g3⟩ := hS; go_simp; try (with_reducible rfl))
      refine wpAnyH_take (i := 8) (v := ?_) rfl (by kernel_rfl) (by kernel_rfl) (by kernel_rfl) (fun _ _ _ h => h) (Or.inl ⟨by kernel_rfl, ?_⟩) C ?_
      rotate_left
      · (intro W hS; obtain ⟨g0, g1, g2, g3⟩ := hS; go_simp; try (with_reducible rfl))
      refine wpAnyH_take (i := 9) (v := ?_) rfl (by kernel_rfl) (by kernel_rfl) (by kernel_rfl) (fun _ _ _ h => h) (Or.inl ⟨by kernel_rfl, ?_⟩) C ?_
      rotate_left
      · (intro W hS; obtain ⟨g0, g1, g2, g3⟩ := hS; go_simp; try (with_reducible rfl))
      refine wpAnyH_take (i := 10) (v := ?_) rfl (by kernel_rfl) (by kernel_rfl) (by kernel_rfl) (fun _ _ _ h => h) (Or.inl ⟨by kernel_rfl, ?_⟩) C ?_
      rotate_left
      · (intro W hS; obtain ⟨g0, g1, g2, g3⟩ := hS; go_simp; try (with_reducible rfl))
      refine wpAnyH_take (i := 11) (v := ?_) rfl (by kernel_rfl) (by kernel_rfl) (by kernel_rfl) (fun _ _ _ h => h) (Or.inl ⟨by kernel_rfl, ?_⟩) C ?_
      rotate_left
      · (intro W hS; obtain ⟨g0, g1, g2, g3⟩ := hS; go_simp; try (with_reducible rfl))
      refine wpAnyH_take (i := 12) (v := ?_) rfl (by kernel_rfl) (by kernel_rfl) (by kernel_rfl) (fun _ _ _ h => h) (Or.inl ⟨by kernel_rfl, ?_⟩) C ?_
      rotate_left
      · (intro W hS; obtain ⟨g0, g1, g2, g3⟩ := hS; go_simp; try (with_reducible rfl))
      refine wpAnyH_take (i := 13) (v := ?_) rfl (by kernel_rfl) (by kernel_rfl) (by kernel_rfl) (fun _ _ _ h => h) (Or.inl ⟨by kernel_rfl, ?_⟩) C ?_
      rotate_left
      · (intro W hS; obtain ⟨g0, g1, g2, g3⟩ := hS; go_simp; try (with_reducible rfl))
      refine wpAnyH_take (i := 14) (v := ?_) rfl (by kernel_rfl) (by kernel_rfl) (by kernel_rfl) (fun _ _ _ h => h) (Or.inl ⟨by kernel_rfl, ?_⟩) C ?_
      rotate_left
      · (intro W hS; obtain ⟨g0, g1, g2, g3⟩ := hS; go_simp; try (with_reducible rfl))
      refine wpAnyH_ready (rs := [15, 17]) (by kernel_rfl) (by simp) ?_
      refine AllReadyH.cons rfl (fun K hK => ?_) (AllReadyH.cons rfl (fun K hK => ?_) AllReadyH.nil)
      · go_simp
        refine (clone_any Z.y wh (by have := HS.out.2.2.2.2.1; omega)).mono ?_
        rintro e w5 ⟨rfl, hb5⟩
        have hbe := hbd.trans (hb5.mono hbd.size)
        have Ce : RdB w2.heap.size b o yc Z.x Z.need Z.y w5 := HS.out.2.2.2.1.keep hbe HS.out.2.2.2.2.2.2.2 HS.out.2.2.2.2.2.2.1
        refine hK.out _ _ Ce (fun _ => ?_)
        clear hK K hb5
        refine wpAnyH_take (i := 16) (v := ?_) rfl (by kernel_rfl) (by kernel_rfl) (by kernel_rfl) (fun _ _ _ h => h) (Or.inl ⟨by kernel_rfl, ?_⟩) Ce ?_
        rotate_left
        · (intro W hS; clear hS; go_simp; try (with_reducible rfl))
        refine wpAnyH_ready (rs := [17]) (by kernel_rfl) (by simp) ?_
        refine AllReadyH.cons rfl (fun K hK => ?_) AllReadyH.nil
        go_simp
        obtain ⟨w5b, hwb⟩ : ∃ wb, wb = w5.alloc (.cells #[.int .i64 0, .int .i64 0, .string ⟨#[]⟩] 32) := ⟨_, rfl⟩
        have ha : Below w5.heap.size w5 w5b := by rw [hwb]; exact (Below.refl _ _).alloc (Nat.le_refl _) _
        have hz : w5b.heap[w5.heap.size]? = some (.cells #[.int .i64 0, .int .i64 0, .string ⟨#[]⟩] 32 (0, 0)) := by rw [hwb]; exact heap_alloc_new _ _
        rw [← hwb]
        clear hwb
        have hbeb := hbe.trans (ha.mono hbe.size)
        have Ceb : RdB w2.heap.size b o yc Z.x Z.need Z.y w5b := HS.out.2.2.2.1.keep hbeb HS.out.2.2.2.2.2.2.2 HS.out.2.2.2.2.2.2.1
        have hgz : w3.heap.size ≤ w5.heap.size := hbe.size
        generalize w5.heap.size = g6 at *
        refine hK.out _ _ Ceb (fun _ => ?_)
        clear hK K ha
        obtain ⟨m0, m1, m2, mf⟩ := zero_cells hz
        refine wpAnyH_ready (rs := [18]) (by kernel_rfl) (by simp) ?_
        refine AllReadyH.cons rfl (fun K hK => ?_) AllReadyH.nil
        go_simp
        have hg6 := share_set3 hz rfl (.int .i64 Z.x) (.int .i64 Z.need) (.string Z.y)
        have b36 := below_put3' hbeb hgz (.int .i64 Z.x) (.int .i64 Z.need) (.string Z.y)
        generalize World.setCell _ _ _ = w6 at *
        have C6 : RdB w2.heap.size b o yc Z.x Z.need Z.y w6 := HS.out.2.2.2.1.keep b36 HS.out.2.2.2.2.2.2.2 HS.out.2.2.2.2.2.2.1
        refine hK.out _ _ C6 (fun _ => ?_)
        clear hK K
        refine wpAnyH_done (by kernel_rfl) ?_ _
        go_simp
        clear m0 m1 m2 mf
        clear C Ce Ceb C6 hbd hbe hbeb hz hgz
        have hck := check_any Z (Nat.le_trans HS.out.2.2.2.2.1 (by unfold maxLen; decide)) w6
        have HF := Lib.hid (And.intro b36 (And.intro hg6 hck))
        obtain ⟨z0, z1, z2⟩ := share_cell hg6
        clear b36 hck hg6
        go_wp2_with fail
        refine HF.out.2.2.mono ?_
        rintro e w7 ⟨rfl, hb⟩
        have hg7 := (hb.block _ (lt_of_heap HF.out.2.1)).trans HF.out.2.1
        have b37 := HF.out.1.trans (hb.mono HF.out.1.size)
        have B7 := HS.out.2.1.trans (b37.mono HS.out.2.1.size)
        obtain ⟨c0, c1, c2, f⟩ := zero_cells ((b37.block _ (lt_of_heap HS.out.2.2.1)).trans HS.out.2.2.1)
        clear z0 z1 z2
        obtain ⟨z0, z1, z2⟩ := share_cell hg7
        have HB := Lib.hid B7
        cases hok : okS Z with
        | false =>
          have HV := Lib.hid (show V = (⟨0, 0, ⟨#[]⟩⟩, 3) by rw [HS.out.2.2.2.2.2.1, hok, if_neg (by decide)])
          clear hg7 b37 B7 hb hok
          go_wp2_with fail
          refine bodyPost_ret (v := .tuple #[.agg #[.int .i64 0, .int .i64 0, .string ⟨#[]⟩], .int .i64 3]) (by simp [results, Tryz.results13, go_sem, c0, c1, c2]) rfl ?_
          exact ⟨by rw [HV.out], below_put3 HB.out (Nat.le_refl _) _ _ _⟩
        | true =>
          have HV := Lib.hid (show V = (Z, 0) by rw [HS.out.2.2.2.2.2.1, hok, if_pos rfl])
          clear hg7 b37 B7 hb hok
          go_wp2_with fail
          refine bodyPost_ret (v := .tuple #[.agg #[.int .i64 Z.x, .int .i64 Z.need, .string Z.y], .int .i64 0]) (by simp [results, Tryz.results13, go_sem, c0, c1, c2]) rfl ?_
          exact ⟨by rw [HV.out], below_put3 HB.out (Nat.le_refl _) _ _ _⟩
      · go_simp
        obtain ⟨whb, hwb⟩ : ∃ wb, wb = wh.alloc (.cells #[.int .i64 0, .int .i64 0, .string ⟨#[]⟩] 32) := ⟨_, rfl⟩
        have ha : Below wh.heap.size wh whb := by rw [hwb]; exact (Below.refl _ _).alloc (Nat.le_refl _) _
        have hz : whb.heap[wh.heap.size]? = some (.cells #[.int .i64 0, .int .i64 0, .string ⟨#[]⟩] 32 (0, 0)) := by rw [hwb]; exact heap_alloc_new _ _
        rw [← hwb]
        clear hwb
        have hbdb := hbd.trans (ha.mono hbd.size)
        have Cb : RdB w2.heap.size b o yc Z.x Z.need Z.y whb := HS.out.2.2.2.1.keep hbdb HS.out.2.2.2.2.2.2.2 HS.out.2.2.2.2.2.2.1
        have hgz : w3.heap.size ≤ wh.heap.size := hbd.size
        generalize wh.heap.size = g6 at *
        refine hK.out _ _ Cb (fun _ => ?_)
        clear hK K ha
        refine wpAnyH_ready (rs := [15]) (by kernel_rfl) (by simp) ?_
        refine AllReadyH.cons rfl (fun K hK => ?_) AllReadyH.nil
        go_simp
        refine (clone_any Z.y whb (by have := HS.out.2.2.2.2.1; omega)).mono ?_
        rintro e w5 ⟨rfl, hb5⟩
        have hbe := hbdb.trans (hb5.mono hbdb.size)
        have Ce : RdB w2.heap.size b o yc Z.x Z.need Z.y w5 := HS.out.2.2.2.1.keep hbe HS.out.2.2.2.2.2.2.2 HS.out.2.2.2.2.2.2.1
        have hz := (hb5.block _ (lt_of_heap hz)).trans hz
        refine hK.out _ _ Ce (fun _ => ?_)
        clear hK K hb5
        refine wpAnyH_take (i := 16) (v := ?_) rfl (by kernel_rfl) (by kernel_rfl) (by kernel_rfl) (fun _ _ _ h => h) (Or.inl ⟨by kernel_rfl, ?_⟩) Ce ?_
        rotate_left
        · (intro W hS; clear hS; go_simp; try (with_reducible rfl))
        obtain ⟨m0, m1, m2, mf⟩ := zero_cells hz
        refine wpAnyH_ready (rs := [18]) (by kernel_rfl) (by simp) ?_
        refine AllReadyH.cons rfl (fun K hK => ?_) AllReadyH.nil
        go_simp
        have hg6 := share_set3 hz rfl (.int .i64 Z.x) (.int .i64 Z.need) (.string Z.y)
        have b36 := below_put3' hbe hgz (.int .i64 Z.x) (.int .i64 Z.need) (.string Z.y)
        generalize World.setCell _ _ _ = w6 at *
        have C6 : RdB w2.heap.size b o yc Z.x Z.need Z.y w6 := HS.out.2.2.2.1.keep b36 HS.out.2.2.2.2.2.2.2 HS.out.2.2.2.2.2.2.1
        refine hK.out _ _ C6 (fun _ => ?_)
        clear hK K
        refine wpAnyH_done (by kernel_rfl) ?_ _
        go_simp
        clear m0 m1 m2 mf
        clear C Ce Cb C6 hbd hbe hbdb hz hgz
        have hck := check_any Z (Nat.le_trans HS.out.2.2.2.2.1 (by unfold maxLen; decide)) w6
        have HF := Lib.hid (And.intro b36 (And.intro hg6 hck))
        obtain ⟨z0, z1, z2⟩ := share_cell hg6
        clear b36 hck hg6
        go_wp2_with fail
        refine HF.out.2.2.mono ?_
        rintro e w7 ⟨rfl, hb⟩
        have hg7 := (hb.block _ (lt_of_heap HF.out.2.1)).trans HF.out.2.1
        have b37 := HF.out.1.trans (hb.mono HF.out.1.size)
        have B7 := HS.out.2.1.trans (b37.mono HS.out.2.1.size)
        obtain ⟨c0, c1, c2, f⟩ := zero_cells ((b37.block _ (lt_of_heap HS.out.2.2.1)).trans HS.out.2.2.1)
        clear z0 z1 z2
        obtain ⟨z0, z1, z2⟩ := share_cell hg7
        have HB := Lib.hid B7
        cases hok : okS Z with
        | false =>
          have HV := Lib.hid (show V = (⟨0, 0, ⟨#[]⟩⟩, 3) by rw [HS.out.2.2.2.2.2.1, hok, if_neg (by decide)])
          clear hg7 b37 B7 hb hok
          go_wp2_with fail
          refine bodyPost_ret (v := .tuple #[.agg #[.int .i64 0, .int .i64 0, .string ⟨#[]⟩], .int .i64 3]) (by simp [results, Tryz.results13, go_sem, c0, c1, c2]) rfl ?_
          exact ⟨by rw [HV.out], below_put3 HB.out (Nat.le_refl _) _ _ _⟩
        | true =>
          have HV := Lib.hid (show V = (Z, 0) by rw [HS.out.2.2.2.2.2.1, hok, if_pos rfl])
          clear hg7 b37 B7 hb hok
          go_wp2_with fail
          refine bodyPost_ret (v := .tuple #[.agg #[.int .i64 Z.x, .int .i64 Z.need, .string Z.y], .int .i64 0]) (by simp [results, Tryz.results13, go_sem, c0, c1, c2]) rfl ?_
          exact ⟨by rw [HV.out], below_put3 HB.out (Nat.le_refl _) _ _ _⟩
set_option maxRecDepth 100000 in
set_option maxHeartbeats 1000000 in
theorem rsread_any (t : ByteArray) (ht : t.size ≤ maxLen) (w : World) : Calls Tryz.prog 14 #[.string t] w fun e w' => e = .returned (.tuple #[.agg #[.int .i64 (rdS t).1.x, .int .i64 (rdS t).1.need, .string (rdS t).1.y], .int .i64 (rdS t).2]) ∧ Below w.heap.size w w' := by
  obtain ⟨w1, hw1⟩ : ∃ w1, w1 = w.alloc (.cells #[.int .i64 0, .int .i64 0, .string ⟨#[]⟩] 36) := ⟨_, rfl⟩
  have hb1 : Below w.heap.size w w1 := by rw [hw1]; exact (Below.refl _ _).alloc (Nat.le_refl _) _
  have hg1 : w1.heap[w.heap.size]? = some (.cells #[.int .i64 0, .int .i64 0, .string ⟨#[]⟩] 36 (0, 0)) := by rw [hw1]; exact heap_alloc_new _ _
  have hd := rdecode_any t ht w1
  obtain ⟨R, hR⟩ : ∃ R, R = rdecR t.data.toList := ⟨_, rfl⟩
  obtain ⟨V, hV⟩ : ∃ V, V = rdS t := ⟨_, rfl⟩
  have hVE : V = rdE R := by rw [hV, hR]; exact (rdS_ref t).symm
  have hmay : ∀ x, R = .ok x → may x 6 = true := fun x h => rdecR_may (hR.symm.trans h)
  rw [← hR] at hd
  rw [← hV]
  have H := Lib.hid (And.intro hd (And.intro hb1 (And.intro hg1 (And.intro hVE hmay))))
  clear hd hb1 hg1 hVE hmay hR hV ht
  go_enter Tryz.func14, Tryz.ntmps14
  go_upto_region 1 with fail
  rw [← hw1]
  clear hw1
  go_wp2_with fail
  refine H.out.1.mono ?_
  rintro e w2 ⟨hb, hres⟩
  have hz1 := lt_of_heap H.out.2.2.1
  have hb2 := H.out.2.1.trans (hb.mono H.out.2.1.size)
  have hg2 := (hb.block _ hz1).trans H.out.2.2.1
  have hz2 := Nat.lt_of_lt_of_le hz1 hb.size
  cases R with
  | error x =>
    obtain ⟨hx, rfl⟩ := hres
    have hx0 : (x != 0) = true := by simpa using hx
    have hx1 : (x == 0) = false := by simpa using hx
    obtain ⟨w3, hw3⟩ : ∃ w3, w3 = w2.alloc (.cells #[.int .i64 0, .int .i64 0, .string ⟨#[]⟩, .slice none 0 0] 70) := ⟨_, rfl⟩
    have hb3 : Below w2.heap.size w2 w3 := by rw [hw3]; exact (Below.refl _ _).alloc (Nat.le_refl _) _
    obtain ⟨c0, c1, c2, f⟩ := zero_cells ((hb3.block _ hz2).trans hg2)
    have HB := Lib.hid (hb2.trans (hb3.mono hb2.size))
    have HV := Lib.hid (show V = (⟨0, 0, ⟨#[]⟩⟩, 3) from H.out.2.2.2.1)
    clear hb hb2 hg2 hz1 hz2 hb3 hx
    simp only [zeroIt]
    go_upto_region 2 with fail
    rw [← hw3]
    clear hw3
    go_wp2_with fail
    refine bodyPost_ret (v := .tuple #[.agg #[.int .i64 0, .int .i64 0, .string ⟨#[]⟩], .int .i64 3]) (by simp [results, Tryz.results14, go_sem, c0, c1, c2]) rfl ?_
    exact ⟨by rw [HV.out], below_put3 HB.out (Nat.le_refl _) _ _ _⟩
  | ok x =>
    obtain ⟨it, hpi, rfl, hin⟩ := hres
    have hmx := H.out.2.2.2.2 x rfl
    obtain ⟨yk, yn, ys, ya, yc, yl⟩ := it
    obtain ⟨w3, hw3⟩ : ∃ w3, w3 = w2.alloc (.cells #[.int .i64 yk, .int .i64 yn, .string ys, .slice ya yl.length yc] 70) := ⟨_, rfl⟩
    have hb3 : Below w2.heap.size w2 w3 := by rw [hw3]; exact (Below.refl _ _).alloc (Nat.le_refl _) _
    have hg3 : w3.heap[w2.heap.size]? = some (.cells #[.int .i64 yk, .int .i64 yn, .string ys, .slice ya yl.length yc] 70 (0, 0)) := by rw [hw3]; exact heap_alloc_new _ _
    have hin3 : It.In w3 (w1.heap.size ≤ ·) (.mk yk yn ys ya yc yl) := It.In.kept (keptS_any hb3) _ hin
    have hsh := refshape_any _ _ ⟨#[110, 110, 116]⟩ w3 hin3
    have hN : (ByteArray.mk #[110, 110, 116]).data.toList = nnt := rfl
    rw [hN, hpi] at hsh
    simp only [It.val, It.cells, It.k, It.n, It.s, It.a, It.cap, It.l] at hsh ⊢
    have hpx : Pt.mk yk yn ys (It.pureAll yl) = x := hpi
    have hg23 := (hb3.block _ hz2).trans hg2
    have B3 := hb2.trans (hb3.mono hb2.size)
    obtain ⟨i0, i1, i2, i3⟩ := it_cells hg3
    cases hP : shapeP x nnt with
    | false =>
      rw [hP] at hsh
      have HV := Lib.hid (show V = (⟨0, 0, ⟨#[]⟩⟩, 3) by rw [H.out.2.2.2.1]; unfold rdE; simp only; rw [hP, if_neg (fun e => Bool.noConfusion e.1)])
      have HS := Lib.hid (And.intro hsh (And.intro B3 hg23))
      clear hb hb2 hg2 hz1 hz2 hb3 hin hin3 hg3 hsh hN hpi hpx hg23 B3 hP hmx
      go_upto_region 2 with fail
      rw [← hw3]
      clear hw3
      go_wp2_with fail
      refine HS.out.1.mono ?_
      rintro e w4 ⟨rfl, hb⟩
      obtain ⟨c0, c1, c2, f⟩ := zero_cells ((hb.block _ (lt_of_heap HS.out.2.2)).trans HS.out.2.2)
      have HB := Lib.hid (HS.out.2.1.trans (hb.mono HS.out.2.1.size))
      clear hb
      go_wp2_with fail
      refine bodyPost_ret (v := .tuple #[.agg #[.int .i64 0, .int .i64 0, .string ⟨#[]⟩], .int .i64 3]) (by simp [results, Tryz.results14, go_sem, c0, c1, c2]) rfl ?_
      exact ⟨by rw [HV.out], below_put3 HB.out (Nat.le_refl _) _ _ _⟩
    | true =>
      rw [hP] at hsh
      obtain ⟨hl3, b, o, hya, hbl, hRB⟩ := rdB_of hin3.2.1 i3 (by rw [hpx]; exact hP)
      rw [hpx] at hRB
      have hsy := shOf_small hP hmx
      have hVo : V = if okS (shOf x) = true then (shOf x, 0) else (⟨0, 0, ⟨#[]⟩⟩, 3) := by
        rw [H.out.2.2.2.1]
        unfold rdE
        simp only
        cases hok : okS (shOf x) with
        | false => rw [if_neg (fun e => Bool.noConfusion e.2), if_neg (by decide)]
        | true => rw [if_pos ⟨hP, rfl⟩, if_pos rfl]
      obtain ⟨Z, hZ⟩ : ∃ Z, Z = shOf x := ⟨_, rfl⟩
      rw [← hZ] at hRB hsy hVo
      subst hya
      rw [hl3] at hsh hw3 i3 ⊢
      have HS := Lib.hid (And.intro hsh (And.intro B3 (And.intro hg23 (And.intro hRB (And.intro hsy (And.intro hVo (And.intro hbl (lt_of_heap hg3))))))))
      clear hb hb2 hg2 hz1 hz2 hb3 hin hin3 hg3 hsh hN hpi hpx hg23 B3 hP hmx hRB hsy hVo hZ hbl hl3
      go_upto_region 2 with fail
      rw [← hw3]
      clear hw3
      go_wp2_with fail
      refine HS.out.1.mono ?_
      rintro e w4 ⟨rfl, hb⟩
      have hbd : Below w3.heap.size w3 w4.drew := hb.drew
      have C : RdB w2.heap.size b o yc Z.x Z.need Z.y w4.drew := HS.out.2.2.2.1.keep hbd HS.out.2.2.2.2.2.2.2 HS.out.2.2.2.2.2.2.1
      clear i0 i1 i2 i3 hb
      go_wp2_with fail
      refine wp_region_held (S := RdB w2.heap.size b o yc Z.x Z.need Z.y) (by kernel_rfl) ?_
      change wpAnyH _ _ _ _ _ _ _ _ (World.drew _)
      generalize World.drew _ = wh at *
      refine wpAnyH_take (i := 0) (v := ?_) rfl (by kernel_rfl) (by kernel_rfl) (by kernel_rfl) (fun _ _ _ h => h) (Or.inl ⟨by kernel_rfl, ?_⟩) C ?_
      rotate_left
      · (intro W hS; obtain ⟨g0, g1, g2, g3⟩ := hS; go_simp; try (with_reducible rfl))
      refine wpAnyH_take (i := 1) (v := ?_) rfl (by kernel_rfl) (by kernel_rfl) (by kernel_rfl) (fun _ _ _ h => h) (Or.inl ⟨by kernel_rfl, ?_⟩) C ?_
      rotate_left
      · (intro W hS; obtain ⟨g0, g1, g2, g3⟩ := hS; go_simp; try (with_reducible rfl))
      refine wpAnyH_take (i := 2) (v := ?_) rfl (by kernel_rfl) (by kernel_rfl) (by kernel_rfl) (fun _ _ _ h => h) (Or.inl ⟨by kernel_rfl, ?_⟩) C ?_
      rotate_left
      · (intro W hS; obtain ⟨g0, g1, g2, g3⟩ := hS; go_simp; try (with_reducible rfl))
      refine wpAnyH_take (i := 3) (v := ?_) rfl (by kernel_rfl) (by kernel_rfl) (by kernel_rfl) (fun _ _ _ h => h) (Or.inl ⟨by kernel_rfl, ?_⟩) C ?_
      rotate_left
      · (intro W hS; obtain ⟨g0, g1, g2, g3⟩ := hS; go_simp; try (with_reducible rfl))
      refine wpAnyH_take (i := 4) (v := ?_) rfl (by kernel_rfl) (by kernel_rfl) (by kernel_rfl) (fun _ _ _ h => h) (Or.inl ⟨by kernel_rfl, ?_⟩) C ?_
      rotate_left
      · (intro W hS; obtain ⟨g0, g1, g2, g3⟩ := hS; go_simp; try (with_reducible rfl))
      refine wpAnyH_take (i := 5) (v := ?_) rfl (by kernel_rfl) (by kernel_rfl) (by kernel_rfl) (fun _ _ _ h => h) (Or.inl ⟨by kernel_rfl, ?_⟩) C ?_
      rotate_left
      · (intro W hS; obtain ⟨g0, g1, g2, g3⟩ := hS; go_simp; try (with_reducible rfl))
      refine wpAnyH_take (i := 6) (v := ?_) rfl (by kernel_rfl) (by kernel_rfl) (by kernel_rfl) (fun _ _ _ h => h) (Or.inl ⟨by kernel_rfl, ?_⟩) C ?_
      rotate_left
      · (intro W hS; obtain ⟨g0, g1, g2, g3⟩ := hS; go_simp; try (with_reducible rfl))
      refine wpAnyH_take (i := 7) (v := ?_) rfl (by kernel_rfl) (by kernel_rfl) (by kernel_rfl) (fun _ _ _ h => h) (Or.inl ⟨by kernel_rfl, ?_⟩) C ?_
      rotate_left
      · (intro W hS; obtain ⟨g0, g1, g2, g3⟩ := hS; go_simp; try (with_reducible rfl))
      refine wpAnyH_take (i := 8) (v := ?_) rfl (by kernel_rfl) (by kernel_rfl) (by kernel_rfl) (fun _ _ _ h => h) (Or.inl ⟨by kernel_rfl, ?_⟩) C ?_
      rotate_left
      · (intro W hS; obtain ⟨g0, g1, g2, g3⟩ := hS; go_simp; try (with_reducible rfl))
      refine wpAnyH_take (i := 9) (v := ?_) rfl (by kernel_rfl) (by kernel_rfl) (by kernel_rfl) (fun _ _ _ h => h) (Or.inl ⟨by kernel_rfl, ?_⟩) C ?_
      rotate_left
      · (intro W hS; obtain ⟨g0, g1, g2, g3⟩ := hS; go_simp; try (with_reducible rfl))
      refine wpAnyH_take (i := 10) (v := ?_) rfl (by kernel_rfl) (by kernel_rfl) (by kernel_rfl) (fun _ _ _ h => h) (Or.inl ⟨by kernel_rfl, ?_⟩) C ?_
      rotate_left
      · (intro W hS; obtain ⟨g0, g1, g2, g3⟩ := hS; go_simp; try (with_reducible rfl))
      refine wpAnyH_take (i := 11) (v := ?_) rfl (by kernel_rfl) (by kernel_rfl) (by kernel_rfl) (fun _ _ _ h => h) (Or.inl ⟨by kernel_rfl, ?_⟩) C ?_
      rotate_left
      · (intro W hS; obtain ⟨g0, g1, g2, g3⟩ := hS; go_simp; try (with_reducible rfl))
      refine wpAnyH_take (i := 12) (v := ?_) rfl (by kernel_rfl) (by kernel_rfl) (by kernel_rfl) (fun _ _ _ h => h) (Or.inl ⟨by kernel_rfl, ?_⟩) C ?_
      rotate_left
      · (intro W hS; obtain ⟨g0, g1, g2, g3⟩ := hS; go_simp; try (with_reducible rfl))
      refine wpAnyH_take (i := 13) (v := ?_) rfl (by kernel_rfl) (by kernel_rfl) (by kernel_rfl) (fun _ _ _ h => h) (Or.inl ⟨by kernel_rfl, ?_⟩) C ?_
      rotate_left
      · (intro W hS; obtain ⟨g0, g1, g2, g3⟩ := hS; go_simp; try (with_reducible rfl))
      refine wpAnyH_take (i := 14) (v := ?_) rfl (by kernel_rfl) (by kernel_rfl) (by kernel_rfl) (fun _ _ _ h => h) (Or.inl ⟨by kernel_rfl, ?_⟩) C ?_
      rotate_left
      · (intro W hS; obtain ⟨g0, g1, g2, g3⟩ := hS; go_simp; try (with_reducible rfl))
      refine wpAnyH_take (i := 15) (v := ?_) rfl (by kernel_rfl) (by kernel_rfl) (by kernel_rfl) (fun _ _ _ h => h) (Or.inl ⟨by kernel_rfl, ?_⟩) C ?_
      rotate_left
      · (intro W hS; clear hS; go_simp; try (with_reducible rfl))
      refine wpAnyH_ready (rs := [16]) (by kernel_rfl) (by simp) ?_
      refine AllReadyH.cons rfl (fun K hK => ?_) AllReadyH.nil
      go_simp
      obtain ⟨whb, hwb⟩ : ∃ wb, wb = wh.alloc (.cells #[.int .i64 0, .int .i64 0, .string ⟨#[]⟩] 36) := ⟨_, rfl⟩
      have ha : Below wh.heap.size wh whb := by rw [hwb]; exact (Below.refl _ _).alloc (Nat.le_refl _) _
      have hz : whb.heap[wh.heap.size]? = some (.cells #[.int .i64 0, .int .i64 0, .string ⟨#[]⟩] 36 (0, 0)) := by rw [hwb]; exact heap_alloc_new _ _
      rw [← hwb]
      clear hwb
      have hbdb := hbd.trans (ha.mono hbd.size)
      have Cb : RdB w2.heap.size b o yc Z.x Z.need Z.y whb := HS.out.2.2.2.1.keep hbdb HS.out.2.2.2.2.2.2.2 HS.out.2.2.2.2.2.2.1
      have hgz : w3.heap.size ≤ wh.heap.size := hbd.size
      generalize wh.heap.size = g6 at *
      refine hK.out _ _ Cb (fun _ => ?_)
      clear hK K ha
      obtain ⟨m0, m1, m2, mf⟩ := zero_cells hz
      refine wpAnyH_ready (rs := [17]) (by kernel_rfl) (by simp) ?_
      refine AllReadyH.cons rfl (fun K hK => ?_) AllReadyH.nil
      go_simp
      have hg6 := share_set3 hz rfl (.int .i64 Z.x) (.int .i64 Z.need) (.string Z.y)
      have b36 := below_put3' hbdb hgz (.int .i64 Z.x) (.int .i64 Z.need) (.string Z.y)
      generalize World.setCell _ _ _ = w6 at *
      have C6 : RdB w2.heap.size b o yc Z.x Z.need Z.y w6 := HS.out.2.2.2.1.keep b36 HS.out.2.2.2.2.2.2.2 HS.out.2.2.2.2.2.2.1
      refine hK.out _ _ C6 (fun _ => ?_)
      clear hK K
      refine wpAnyH_done (by kernel_rfl) ?_ _
      go_simp
      clear m0 m1 m2 mf
      clear C Cb C6 hbd hbdb hz hgz
      have hck := rcheck_any Z w6
      have HF := Lib.hid (And.intro b36 (And.intro hg6 hck))
      obtain ⟨z0, z1, z2⟩ := share_cell hg6
      clear b36 hck hg6
      go_wp2_with fail
      refine HF.out.2.2.mono ?_
      rintro e w7 ⟨rfl, hb⟩
      have hg7 := (hb.block _ (lt_of_heap HF.out.2.1)).trans HF.out.2.1
      have b37 := HF.out.1.trans (hb.mono HF.out.1.size)
      have B7 := HS.out.2.1.trans (b37.mono HS.out.2.1.size)
      obtain ⟨c0, c1, c2, f⟩ := zero_cells ((b37.block _ (lt_of_heap HS.out.2.2.1)).trans HS.out.2.2.1)
      clear z0 z1 z2
      obtain ⟨z0, z1, z2⟩ := share_cell hg7
      have HB := Lib.hid B7
      cases hok : okS Z with
      | false =>
        have HV := Lib.hid (show V = (⟨0, 0, ⟨#[]⟩⟩, 3) by rw [HS.out.2.2.2.2.2.1, hok, if_neg (by decide)])
        clear hg7 b37 B7 hb hok
        go_wp2_with fail
        refine bodyPost_ret (v := .tuple #[.agg #[.int .i64 0, .int .i64 0, .string ⟨#[]⟩], .int .i64 3]) (by simp [results, Tryz.results14, go_sem, c0, c1, c2]) rfl ?_
        exact ⟨by rw [HV.out], below_put3 HB.out (Nat.le_refl _) _ _ _⟩
      | true =>
        have HV := Lib.hid (show V = (Z, 0) by rw [HS.out.2.2.2.2.2.1, hok, if_pos rfl])
        clear hg7 b37 B7 hb hok
        go_wp2_with fail
        refine bodyPost_ret (v := .tuple #[.agg #[.int .i64 Z.x, .int .i64 Z.need, .string Z.y], .int .i64 0]) (by simp [results, Tryz.results14, go_sem, c0, c1, c2]) rfl ?_
        exact ⟨by rw [HV.out], below_put3 HB.out (Nat.le_refl _) _ _ _⟩
end Go.Proofs.YtefpfedpgedloaaGreatDoor
