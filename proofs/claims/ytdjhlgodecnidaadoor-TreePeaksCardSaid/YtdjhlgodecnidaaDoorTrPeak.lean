/- (tree.Peaks).Size, With: one digest more. -/
import Derived.Test.YtdjhlgodecnidaaDoorTrTextsM
import Derived.Test.YtdjhlgodecnidaaDoorOwnTF
import Derived.Deep.DeepCutAuto
import Derived.Deep.RegionHeld
namespace Go.Proofs.YtdjhlgodecnidaaDoor
open Go.RowKit
open Go.RowKit (wrap64)
open Tr

theorem lt_obj' {w : World} {g : Nat} {o : Obj} (h : w.heap[g]? = some o) : g < w.heap.size := (Array.getElem?_eq_some_iff.1 h).1
theorem row2 {W : World} {g : Nat} {a b : Value} {t : TypeId} (h : W.heap[g]? = some (.cells #[a, b] t (0, 0))) :
    W.cell? ⟨g, 0, none⟩ = some a ∧ W.cell? ⟨g, 1, none⟩ = some b ∧ ∀ j, W.frozen? ⟨g, j, none⟩ = false := by
  refine ⟨?_, ?_, fun j => frozen_of_row _ _ _ _ _ h⟩ <;> (rw [cell_of_row _ _ _ _ _ _ h]; rfl)
theorem peaks_digs : ∀ (n : Nat) (l : List ByteArray), l.length = n → Digs l → Digs (peaks l) := by
  intro n
  induction n using Nat.strongRecOn with
  | ind n ih =>
    intro l hn hD
    by_cases hl : l = []
    · subst hl; intro x hx; cases hx
    · have hpos : 0 < l.length := List.length_pos_iff.2 hl
      have n1 := next_length l
      by_cases he : l.length % 2 = 0
      · rw [peaks_even he]; exact ih _ (by omega) (next l) rfl hD.next
      · have hs := last_split hpos
        obtain ⟨p, y, hp⟩ : ∃ p y, l = p ++ [y] := ⟨_, _, hs⟩
        have hpl : p.length % 2 = 0 := by rw [hp] at he; simp at he; omega
        have hp1 : l.length = p.length + 1 := by rw [hp]; simp
        rw [hp] at hD ⊢
        rw [peaks_odd y hpl]
        intro x hx
        rcases List.mem_append.1 hx with hx | hx
        · exact ih p.length (by omega) p rfl (fun z hz => hD z (List.mem_append.2 (Or.inl hz))) x hx
        · exact hD x (List.mem_append.2 (Or.inr hx))
/-- A level of which the last is odd: it is taken off. -/
theorem peaks_down {L P Q : List ByteArray} {r : ByteArray} {k : Nat} (ho : L.length % 2 = 1) (hP : peaks L = P.take k) (hk : k = (peaks L).length) (hQ : Q = peaks (L ++ [r])) (hD : Digs L) :
    ∃ y L2, 1 ≤ k ∧ P.getD (k - 1) ByteArray.empty = y ∧ y.size = 32 ∧ L2.length = L.length / 2 ∧ peaks L2 = P.take (k - 1) ∧ k - 1 = (peaks L2).length ∧ Q = peaks (L2 ++ [node y r]) ∧ Digs L2 := by
  have hs := last_split (l := L) (by omega)
  obtain ⟨p, y, hp⟩ : ∃ p y, L = p ++ [y] := ⟨_, _, hs⟩
  have hp1 : L.length = p.length + 1 := by rw [hp]; simp
  have hpl : p.length % 2 = 0 := by omega
  have n1 := next_length p
  have hpk : peaks L = peaks p ++ [y] := by rw [hp, peaks_odd y hpl]
  have hkl : k = (peaks p).length + 1 := by rw [hk, hpk]; simp
  have hDp : Digs p := fun z hz => hD z (by rw [hp]; exact List.mem_append.2 (Or.inl hz))
  rw [hpk] at hP
  have hPl : k ≤ P.length := by
    have h := congrArg List.length hP
    rw [List.length_take, List.length_append, List.length_singleton] at h; omega
  have h1 : P.take (k - 1) = peaks p := by
    have h := congrArg (List.take (k - 1)) hP
    rw [List.take_take, Nat.min_eq_left (by omega), List.take_append_of_le_length (by omega), List.take_of_length_le (by omega)] at h
    exact h.symm
  refine ⟨y, next p, by omega, ?_, hD y (by rw [hp]; exact List.mem_append.2 (Or.inr (by simp))), by omega, ?_, ?_, ?_, hDp.next⟩
  · have h : (P.take k).getD (k - 1) ByteArray.empty = y := by
      rw [← hP, List.getD_eq_getElem?_getD, List.getElem?_append_right (by omega), show k - 1 - (peaks p).length = 0 by omega]; rfl
    rw [← h, List.getD_eq_getElem?_getD, List.getD_eq_getElem?_getD, List.getElem?_take, if_pos (by omega)]
  · rw [← peaks_even hpl, h1]
  · rw [← peaks_even hpl]; omega
  · rw [hQ, hp, peaks_step y r hpl]
set_option maxRecDepth 100000 in
theorem pkSize_any (n : Int) (a : Option Addr) (len cap : Nat) (w : World) : Calls Tryd.prog 24 #[.agg #[.int .i64 n, .slice a len cap]] w fun e w' => e = .returned (.int .i64 n) ∧ Below w.heap.size w w' := by
  go_enter Tryd.func24, Tryd.ntmps24
  go_wp2_with fail
  go_ret
  exact ⟨rfl, (Below.refl _ _).alloc (Nat.le_refl _) _⟩
set_option maxRecDepth 100000 in
set_option maxHeartbeats 4000000 in
theorem pkWith_any (l : List ByteArray) (hl : l.length ≤ 1000) (hD : Digs l) (d : ByteArray) (hd : d.size = 32) (a : Option Addr) (cap : Nat) (hcap : (peaks l).length ≤ cap) (w : World) (hG : Glob w) (hT : TextsAt w a (peaks l)) :
    Calls Tryd.prog 23 #[.agg #[.int .i64 l.length, .slice a (peaks l).length cap], .string d] w fun e w' => ∃ g c', e = .returned (.agg #[.int .i64 (l.length + 1 : Nat), .slice (some ⟨g, 0, none⟩) (peaks (l ++ [d])).length c']) ∧
      TextsAt w' (some ⟨g, 0, none⟩) (peaks (l ++ [d])) ∧ ((peaks (l ++ [d])).length ≤ c' ∧ c' ≤ maxLen) ∧ Below w.heap.size w w' ∧ w.heap.size ≤ g ∧ g < w'.heap.size := by
  have hpl := peaks_length _ l rfl
  have hPD := peaks_digs _ l rfl hD
  obtain ⟨P, hP⟩ : ∃ P, P = peaks l := ⟨_, rfl⟩
  obtain ⟨Q, hQ⟩ : ∃ Q, Q = peaks (l ++ [d]) := ⟨_, rfl⟩
  rw [← hP] at hcap hT hpl hPD ⊢
  rw [← hQ]
  obtain ⟨n, hn⟩ : ∃ n, n = l.length := ⟨_, rfl⟩
  obtain ⟨p, hp⟩ : ∃ p, p = P.length := ⟨_, rfl⟩
  rw [← hn] at hl hpl ⊢
  obtain ⟨n1, hn1⟩ : ∃ x, x = n + 1 := ⟨_, rfl⟩
  rw [← hn1]
  have HN1 := Lib.hid hn1
  clear hn1
  rw [← hp] at hcap hpl ⊢
  have cl := fun W => clone_any d W (by omega)
  obtain ⟨w1, hw1⟩ : ∃ w1, w1 = w.alloc (.cells #[.int .i64 n, .slice a p cap] 32) := ⟨_, rfl⟩
  have hb1 : Below w.heap.size w w1 := by rw [hw1]; exact (Below.refl _ _).alloc (Nat.le_refl _) _
  have hg1 : w1.heap[w.heap.size]? = some (.cells #[.int .i64 n, .slice a p cap] 32 (0, 0)) := by rw [hw1]; exact heap_alloc_new _ _
  have hz1 : w1.heap.size = w.heap.size + 1 := by rw [hw1]; simp
  obtain ⟨w2, hw2⟩ : ∃ w2, w2 = w1.alloc (.cells #[.int .i64 0, .slice none 0 0] 32) := ⟨_, rfl⟩
  have hb2 : Below w1.heap.size w1 w2 := by rw [hw2]; exact (Below.refl _ _).alloc (Nat.le_refl _) _
  have hg2 : w2.heap[w1.heap.size]? = some (.cells #[.int .i64 0, .slice none 0 0] 32 (0, 0)) := by rw [hw2]; exact heap_alloc_new _ _
  have HA := Lib.hid (And.intro (hb1.trans (hb2.mono hb1.size)) (And.intro ((hb2.block _ (lt_obj' hg1)).trans hg1) hg2))
  have HI := Lib.hid (show ∃ L : List ByteArray, L.length = n ∧ peaks L = P.take p ∧ p = (peaks L).length ∧ Q = peaks (L ++ [d]) ∧ Digs L from ⟨l, hn.symm, by rw [hp, List.take_length]; exact hP.symm, by rw [hp, hP], hQ, hD⟩)
  have HT := Lib.hid (And.intro hT (And.intro hp (And.intro hPD hd)))
  have HG := Lib.hid hG
  have HC := Lib.hid cl
  clear hT hD hP hQ hn hp hb1 hg1 hb2 hg2 hG cl hPD
  go_enter Tryd.func23, Tryd.ntmps23
  go_upto_region 1 with fail
  rw [← hw1]
  rw [← hw2]
  clear hw1 hw2
  go_wp2_with fail
  refine wp_region_held (S := fun W : World => W.heap[w.heap.size]? = some (.cells #[.int .i64 n, .slice a p cap] 32 (0, 0)) ∧ W.heap[w1.heap.size]? = some (.cells #[.int .i64 0, .slice none 0 0] 32 (0, 0))) (by kernel_rfl) ?_
  change wpAnyH _ _ _ _ _ _ _ _ (World.drew _)
  generalize hv0 : World.drew _ = v0
  have E0 : v0.heap[w.heap.size]? = some (.cells #[.int .i64 n, .slice a p cap] 32 (0, 0)) ∧ v0.heap[w1.heap.size]? = some (.cells #[.int .i64 0, .slice none 0 0] 32 (0, 0)) := by rw [← hv0]; exact HA.out.2
  have F0 : Below w.heap.size w v0 := by rw [← hv0]; exact HA.out.1.drew
  clear hv0
  refine wpAnyH_take (i := 0) (v := ?_) rfl (by kernel_rfl) (by kernel_rfl) (by kernel_rfl) (fun _ _ _ h => h) (Or.inl ⟨by kernel_rfl, ?_⟩) E0 ?_
  rotate_left
  · (intro W hS; obtain ⟨q0, q1, qf⟩ := row2 hS.1; clear hS; go_simp; try (with_reducible rfl))
  refine wpAnyH_take (i := 2) (v := ?_) rfl (by kernel_rfl) (by kernel_rfl) (by kernel_rfl) (fun _ _ _ h => h) (Or.inl ⟨by kernel_rfl, ?_⟩) E0 ?_
  rotate_left
  · (intro W hS; obtain ⟨q0, q1, qf⟩ := row2 hS.1; clear hS; go_simp; try (with_reducible rfl))
  refine wpAnyH_take (i := 3) (v := ?_) rfl (by kernel_rfl) (by kernel_rfl) (by kernel_rfl) (fun _ _ _ h => h) (Or.inl ⟨by kernel_rfl, ?_⟩) E0 ?_
  rotate_left
  · (intro W hS; obtain ⟨q0, q1, qf⟩ := row2 hS.1; clear hS; go_simp; try (with_reducible rfl))
  refine wpAnyH_take (i := 4) (v := ?_) rfl (by kernel_rfl) (by kernel_rfl) (by kernel_rfl) (fun _ _ _ h => h) (Or.inl ⟨by kernel_rfl, ?_⟩) E0 ?_
  rotate_left
  · (intro W hS; obtain ⟨q0, q1, qf⟩ := row2 hS.1; clear hS; go_simp; try (with_reducible rfl))
  refine wpAnyH_ready (rs := [1]) (by kernel_rfl) (by simp) ?_
  refine AllReadyH.cons rfl (fun K hK => ?_) AllReadyH.nil
  go_simp
  refine (HC.out v0).mono ?_
  rintro e v1 ⟨rfl, hb⟩
  have F1 := F0.trans (hb.mono F0.size)
  have E1 : v1.heap[w.heap.size]? = some (.cells #[.int .i64 n, .slice a p cap] 32 (0, 0)) ∧ v1.heap[w1.heap.size]? = some (.cells #[.int .i64 0, .slice none 0 0] 32 (0, 0)) := ⟨(hb.block _ (lt_obj' E0.1)).trans E0.1, (hb.block _ (lt_obj' E0.2)).trans E0.2⟩
  refine hK.out _ _ E1 (fun _ => ?_)
  clear hK K hb
  refine wpAnyH_take (i := 5) (v := ?_) rfl (by kernel_rfl) (by kernel_rfl) (by kernel_rfl) (fun _ _ _ h => h) (Or.inl ⟨by kernel_rfl, ?_⟩) E1 ?_
  rotate_left
  · (intro W hS; obtain ⟨q0, q1, qf⟩ := row2 hS.1; clear hS; go_simp; try (with_reducible rfl))
  refine wpAnyH_take (i := 6) (v := ?_) rfl (by kernel_rfl) (by kernel_rfl) (by kernel_rfl) (fun _ _ _ h => h) (Or.inl ⟨by kernel_rfl, ?_⟩) E1 ?_
  rotate_left
  · (intro W hS; obtain ⟨q0, q1, qf⟩ := row2 hS.1; clear hS; go_simp; try (with_reducible rfl))
  refine wpAnyH_done (by kernel_rfl) ?_ _
  go_simp
  have HB := Lib.hid (And.intro F1 E1)
  clear E0 E1 F0 F1
  obtain ⟨q0, q1, qf⟩ := row2 HB.out.2.1
  go_upto_region 3 with fail
  clear q0 q1 qf
  go_wp2_with fail
  go_loopw [5, 6, 7] (fun vr vk vn wr => ∃ (L : List ByteArray) (r : ByteArray) (k m : Nat), vr = .string r ∧ vk = .int .i64 k ∧ vn = .int .i64 m ∧ (m = L.length ∧ peaks L = P.take k ∧ k = (peaks L).length ∧ Q = peaks (L ++ [r]) ∧ Digs L) ∧ r.size = 32 ∧ k ≤ p ∧ m ≤ 1000 ∧ Below v1.heap.size v1 wr) (fun _ _ vn _ => (intOf vn).toNat)
  case atStart =>
    obtain ⟨L, h1, h2, h3, h4, h5⟩ := HI.out
    exact ⟨L, d, p, n, rfl, rfl, rfl, ⟨h1.symm, h2, h3, h4, h5⟩, HT.out.2.2.2, Nat.le_refl _, hl, Below.refl _ _⟩
  case round =>
    obtain ⟨L, r, k, m, rfl, rfl, rfl, hL, hr, hkp, hm, hb⟩ := hrel
    have hbw := HB.out.1.trans (hb.mono HB.out.1.size)
    have hgb := (hb.block _ (lt_obj' HB.out.2.1)).trans HB.out.2.1
    have hgc := (hb.block _ (lt_obj' HB.out.2.2)).trans HB.out.2.2
    by_cases ho : m % 2 = 1
    · obtain ⟨y, L2, h1, h2, h3, h4, h5, h6, h7, h8⟩ := peaks_down (by rw [← hL.1]; exact ho) hL.2.1 hL.2.2.1 hL.2.2.2.1 hL.2.2.2.2
      obtain ⟨k1, hk1⟩ : ∃ k1, k = k1 + 1 := ⟨k - 1, by omega⟩
      subst hk1
      rw [Nat.add_sub_cancel] at h2 h5 h6
      obtain ⟨b, off, rfl, hbl, hc⟩ := (HT.out.1.below hbw) k1 (by have := HT.out.2.1; omega)
      rw [h2] at hc
      obtain ⟨m2, hm2⟩ : ∃ x, x = m / 2 := ⟨_, rfl⟩
      have HW := Lib.hid (show wrap64 ((m : Int) / 2) = (m2 : Int) ∧ (m : Int) / 2 = (m2 : Int) from ⟨by rw [IntWalk.wrap64_in _ (by omega), hm2]; rfl, by omega⟩)
      have f1 : ((m : Int) % 2 == 1) = true := by simp; omega
      have f2 : (k1 : Int) < (p : Int) := by omega
      have f3 : ((k1 + 1 : Nat) : Int) - 1 = (k1 : Int) := by omega
      have f4 : IntKind.i64.wrap (k1 : Int) = (k1 : Int) := IntWalk.i64_in _ (by omega)
      have nd := fun W hG => node_any y r (by omega) (by omega) W hG
      obtain ⟨r2, hr2⟩ : ∃ x, x = node y r := ⟨_, rfl⟩
      have hr32 : r2.size = 32 := by rw [hr2]; exact sumE_size _
      rw [← hr2] at nd h7
      have HN := Lib.hid (And.intro nd (And.intro hr32 (And.intro hbw (show m2 = L2.length ∧ peaks L2 = P.take k1 ∧ k1 = (peaks L2).length ∧ Q = peaks (L2 ++ [r2]) ∧ Digs L2 from ⟨by rw [h4, ← hL.1]; exact hm2, h5, h6, h7, h8⟩))))
      have HM := Lib.hid (show m2 < m ∧ m2 ≤ 1000 ∧ k1 ≤ p by omega)
      have HX := Lib.hid hb
      clear nd hr32 hbw h1 h2 h3 h4 h5 h6 h7 h8 hL hm2 hr2 hb hgc
      obtain ⟨q0, q1, qf⟩ := row2 hgb
      go_wp2_with fail
      refine (HN.out.1 _ (HG.out.below HN.out.2.2.1)).mono ?_
      rintro e w5 ⟨rfl, hb5⟩
      have HY := Lib.hid (HX.out.trans (hb5.mono HX.out.size))
      clear hb5 q0 q1 qf
      have w1' := HW.out.1
      have w2' := HW.out.2
      go_wp2_with fail
      go_roundw
      case rel => exact ⟨L2, r2, k1, m2, rfl, by go_num, by go_num, HN.out.2.2.2, HN.out.2.1, HM.out.2.2, HM.out.2.1, HY.out⟩
      case measure => simp [intOf]; have := HM.out.1; omega
    · have f1 : ((m : Int) % 2 == 1) = false := by simp; omega
      have hQ : Q = P.take k ++ [r] := by rw [hL.2.2.2.1, peaks_odd r (by rw [← hL.1]; omega), hL.2.1]
      have hQl : Q.length = k + 1 := by rw [hQ, List.length_append, ← hL.2.1, ← hL.2.2.1]; rfl
      have hTk : TextsAt wr a (P.take k) := (HT.out.1.below hbw).take k
      have hlk : (P.take k).length = k := by rw [List.length_take, ← HT.out.2.1]; omega
      have hkc : k ≤ cap := by omega
      have e9 : IntKind.i64.wrap ((n : Int) + 1) = (n1 : Int) := by rw [show (n : Int) + 1 = (n1 : Int) by have := HN1.out; omega]; exact IntWalk.i64_in _ (by have := HN1.out; omega)
      have HQ := Lib.hid (And.intro hQ (And.intro hQl (And.intro hlk (And.intro hTk hbw))))
      have HGB := Lib.hid (And.intro hgb hgc)
      clear hQ hQl hTk hlk hL hb hbw hgb hgc
      go_wp2_with fail
      refine wp_region_held (S := fun W : World => W.heap[w.heap.size]? = some (.cells #[.int .i64 n, .slice a p cap] 32 (0, 0))) (by kernel_rfl) ?_
      change wpAnyH _ _ _ _ _ _ _ _ (World.drew _)
      generalize hv0 : World.drew _ = v0
      have E0 : v0.heap[w.heap.size]? = some (.cells #[.int .i64 n, .slice a p cap] 32 (0, 0)) := by rw [← hv0]; exact HGB.out.1
      have F0 : Below w.heap.size w v0 := by rw [← hv0]; exact HQ.out.2.2.2.2.drew
      have T0 : TextsAt v0 a (P.take k) := by rw [← hv0]; exact HQ.out.2.2.2.1
      have C0 : v0.heap[w1.heap.size]? = some (.cells #[.int .i64 0, .slice none 0 0] 32 (0, 0)) := by rw [← hv0]; exact HGB.out.2
      clear hv0
      refine wpAnyH_take (i := 0) (v := ?_) rfl (by kernel_rfl) (by kernel_rfl) (by kernel_rfl) (fun _ _ _ h => h) (Or.inl ⟨by kernel_rfl, ?_⟩) E0 ?_
      rotate_left
      · (intro W hS; obtain ⟨q0, q1, qf⟩ := row2 hS; clear hS; go_simp; try (with_reducible rfl))
      refine wpAnyH_take (i := 1) (v := ?_) rfl (by kernel_rfl) (by kernel_rfl) (by kernel_rfl) (fun _ _ _ h => h) (Or.inl ⟨by kernel_rfl, ?_⟩) E0 ?_
      rotate_left
      · (intro W hS; obtain ⟨q0, q1, qf⟩ := row2 hS; clear hS; go_simp; try (with_reducible rfl))
      refine wpAnyH_take (i := 2) (v := ?_) rfl (by kernel_rfl) (by kernel_rfl) (by kernel_rfl) (fun _ _ _ h => h) (Or.inl ⟨by kernel_rfl, ?_⟩) E0 ?_
      rotate_left
      · (intro W hS; obtain ⟨q0, q1, qf⟩ := row2 hS; clear hS; go_simp; try (with_reducible rfl))
      refine wpAnyH_take (i := 3) (v := ?_) rfl (by kernel_rfl) (by kernel_rfl) (by kernel_rfl) (fun _ _ _ h => h) (Or.inl ⟨by kernel_rfl, ?_⟩) E0 ?_
      rotate_left
      · (intro W hS; obtain ⟨q0, q1, qf⟩ := row2 hS; clear hS; go_simp; try (with_reducible rfl))
      refine wpAnyH_take (i := 4) (v := ?_) rfl (by kernel_rfl) (by kernel_rfl) (by kernel_rfl) (fun _ _ _ h => h) (Or.inl ⟨by kernel_rfl, ?_⟩) E0 ?_
      rotate_left
      · (intro W hS; obtain ⟨q0, q1, qf⟩ := row2 hS; clear hS; go_simp; try (with_reducible rfl))
      refine wpAnyH_take (i := 5) (v := ?_) rfl (by kernel_rfl) (by kernel_rfl) (by kernel_rfl) (fun _ _ _ h => h) (Or.inl ⟨by kernel_rfl, ?_⟩) E0 ?_
      rotate_left
      · (intro W hS; obtain ⟨q0, q1, qf⟩ := row2 hS; clear hS; go_simp; try (with_reducible rfl))
      refine wpAnyH_take (i := 6) (v := ?_) rfl (by kernel_rfl) (by kernel_rfl) (by kernel_rfl) (fun _ _ _ h => h) (Or.inl ⟨by kernel_rfl, ?_⟩) E0 ?_
      rotate_left
      · (intro W hS; obtain ⟨q0, q1, qf⟩ := row2 hS; clear hS; go_simp; try (with_reducible rfl))
      refine wpAnyH_take (i := 7) (v := ?_) rfl (by kernel_rfl) (by kernel_rfl) (by kernel_rfl) (fun _ _ _ h => h) (Or.inl ⟨by kernel_rfl, ?_⟩) E0 ?_
      rotate_left
      · (intro W hS; obtain ⟨q0, q1, qf⟩ := row2 hS; clear hS; go_simp; try (with_reducible rfl))
      refine wpAnyH_take (i := 8) (v := ?_) rfl (by kernel_rfl) (by kernel_rfl) (by kernel_rfl) (fun _ _ _ h => h) (Or.inl ⟨by kernel_rfl, ?_⟩) E0 ?_
      rotate_left
      · (intro W hS; obtain ⟨q0, q1, qf⟩ := row2 hS; clear hS; go_simp; try (with_reducible rfl))
      refine wpAnyH_ready (rs := [9]) (by kernel_rfl) (by simp) ?_
      refine AllReadyH.cons rfl (fun K hK => ?_) AllReadyH.nil
      go_simp
      have hn0 := texts_one v0 r
      obtain ⟨v1, hv⟩ : ∃ v, v = v0.alloc (.cells #[.string r] 9) := ⟨_, rfl⟩
      have hb : Below v0.heap.size v0 v1 := by rw [hv]; exact (Below.refl _ _).alloc (Nat.le_refl _) _
      rw [← hv] at hn0 ⊢
      clear hv
      have F1 := F0.trans (hb.mono F0.size)
      have T1 := T0.below hb
      have C1 := (hb.block _ (lt_obj' C0)).trans C0
      have E1 : v1.heap[w.heap.size]? = some (.cells #[.int .i64 n, .slice a p cap] 32 (0, 0)) := (hb.block _ (lt_obj' E0)).trans E0
      refine hK.out _ _ E1 (fun _ => ?_)
      clear hK K hb
      refine wpAnyH_ready (rs := [10]) (by kernel_rfl) (by simp) ?_
      refine AllReadyH.cons rfl (fun K hK => ?_) AllReadyH.nil
      refine step_append_full rfl (.tmp 36) (.tmp 38) rfl a k (P.take k) HQ.out.2.2.1 (by kernel_rfl) T1 _ 1 1 [r] rfl (by kernel_rfl) hn0 (by omega) (by decide) ?_
      intro cap2 v2 hT2 hb hc1 hc2
      try go_simp
      have F2 := F1.trans (hb.mono F1.size)
      have C2 := (hb.block _ (lt_obj' C1)).trans C1
      have E2 : v2.heap[w.heap.size]? = some (.cells #[.int .i64 n, .slice a p cap] 32 (0, 0)) := (hb.block _ (lt_obj' E1)).trans E1
      refine hK.out _ _ E2 (fun _ => ?_)
      clear hK K hb
      refine wpAnyH_take (i := 11) (v := ?_) rfl (by kernel_rfl) (by kernel_rfl) (by kernel_rfl) (fun _ _ _ h => h) (Or.inl ⟨by kernel_rfl, ?_⟩) E2 ?_
      rotate_left
      · (intro W hS; obtain ⟨q0, q1, qf⟩ := row2 hS; clear hS; go_simp; try (with_reducible rfl))
      obtain ⟨p0, p1, pf⟩ := row2 C2
      rw [hz1] at p0 p1 pf
      refine wpAnyH_ready (rs := [12]) (by kernel_rfl) (by simp) ?_
      refine AllReadyH.cons rfl (fun K hK => ?_) AllReadyH.nil
      go_simp
      obtain ⟨v3, hv3⟩ : ∃ v, v = (v2.setCell ⟨w.heap.size + 1, 0, none⟩ (.int .i64 n1)).setCell ⟨w.heap.size + 1, 1, none⟩ (.slice (some ⟨v1.heap.size, 0, none⟩) (k + 1) cap2) := ⟨_, rfl⟩
      have F3 : Below w.heap.size w v3 := by rw [hv3]; exact (F2.setCell (by show w.heap.size ≤ w.heap.size + 1; omega) _).setCell (by show w.heap.size ≤ w.heap.size + 1; omega) _
      have E3 : v3.heap[w.heap.size]? = some (.cells #[.int .i64 n, .slice a p cap] 32 (0, 0)) := by rw [hv3, Below.heap_setCell _ _ _ _ (by show w.heap.size ≠ w.heap.size + 1; omega), Below.heap_setCell _ _ _ _ (by show w.heap.size ≠ w.heap.size + 1; omega)]; exact E2
      have C2z : v2.heap[w.heap.size + 1]? = some (.cells #[.int .i64 0, .slice none 0 0] 32 (0, 0)) := by rw [← hz1]; exact C2
      have hg3 : v3.heap[w.heap.size + 1]? = some (.cells #[.int .i64 n1, .slice (some ⟨v1.heap.size, 0, none⟩) (k + 1) cap2] 32 (0, 0)) := by rw [hv3]; exact heap_setCell_same _ _ _ _ _ _ (heap_setCell_same _ _ _ _ _ _ C2z)
      have hlt1 : w.heap.size + 1 < v1.heap.size := by rw [← hz1]; exact lt_obj' C1
      have T3 : TextsAt v3 (some ⟨v1.heap.size, 0, none⟩) (P.take k ++ [r]) := fun j hj => by
        obtain ⟨b, off, e, hbl, hc⟩ := hT2 j hj
        injection e with e
        injection e with e1 e2
        subst e1 e2
        refine ⟨v1.heap.size, 0, rfl, by rw [hv3]; simpa [World.setCell] using hbl, ?_⟩
        rw [World.cell?_of_block (a := ⟨v1.heap.size, 0 + j, none⟩) (w := v2) (w' := v3) (by rw [hv3, Below.heap_setCell _ _ _ _ (by show v1.heap.size ≠ w.heap.size + 1; omega), Below.heap_setCell _ _ _ _ (by show v1.heap.size ≠ w.heap.size + 1; omega)])]
        exact hc
      rw [← hv3]
      clear hv3 p0 p1 pf
      refine hK.out _ _ E3 (fun _ => ?_)
      clear hK K
      refine wpAnyH_done (by kernel_rfl) ?_ _
      go_simp
      obtain ⟨c0, c1, cf⟩ := row2 hg3
      have hv13 : v1.heap.size < v3.heap.size := by
        obtain ⟨b, off, e, hbl, -⟩ := T3 0 (by simp)
        injection e with e
        injection e with e1 e2
        rw [e1]; exact hbl
      have HZ := Lib.hid (And.intro F3 (And.intro T3 (And.intro hc1 (And.intro hc2 (show w.heap.size ≤ v1.heap.size ∧ v1.heap.size < v3.heap.size by omega)))))
      clear C2z E0 E1 E2 E3 F0 F1 F2 F3 T0 T1 T3 hT2 hc1 hc2 C0 C1 C2 hg3 hn0
      go_wp2_with fail
      refine bodyPost_ret (v := .agg #[.int .i64 n1, .slice (some ⟨v1.heap.size, 0, none⟩) (k + 1) cap2]) (by simp [results, Tryd.results23, go_sem, c0, c1]) rfl ?_
      refine ⟨_, _, by rw [HQ.out.2.1], by rw [HQ.out.1]; exact HZ.out.2.1, by rw [HQ.out.2.1]; exact ⟨HZ.out.2.2.1, HZ.out.2.2.2.1⟩, HZ.out.1, HZ.out.2.2.2.2⟩
end Go.Proofs.YtdjhlgodecnidaaDoor
