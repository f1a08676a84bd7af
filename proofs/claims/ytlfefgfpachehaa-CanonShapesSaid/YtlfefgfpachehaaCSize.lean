/- size, Few. -/
import Derived.Test.YtlfefgfpachehaaCOpen
import Derived.Test.YtlfefgfpachehaaCCut
import Derived.Test.YtlfefgfpachehaaCMay
namespace Go.Proofs.Ytlfefgfpachehaa
open Go.RowKit
open Cn

theorem lt_of_heap' {w : World} {g : Nat} {o : Obj} (h : w.heap[g]? = some o) : g < w.heap.size := (Array.getElem?_eq_some_iff.1 h).1
theorem drop_at {l : List It} {i : Nat} {x : It} (h : l[i]? = some x) : It.pureAll (l.drop i) = x.pure :: It.pureAll (l.drop (i + 1)) := by
  obtain ⟨hi, rfl⟩ := List.getElem?_eq_some_iff.1 h
  rw [List.drop_eq_getElem_cons hi, It.pureAll]
set_option maxRecDepth 100000 in
set_option maxHeartbeats 400000 in
theorem size_step (S : Nat → Prop) (most : Nat) (hmost : most ≤ 2000) (x : It) (deep : Nat) (hdeep : deep ≤ 9) (w : World) (hin : x.In w S) (hsm : x.Small)
    (ih : ∀ y ∈ x.l, ∀ d' w', d' ≤ 9 → y.In w' S → Calls Try.prog 25 #[y.val, .int .i64 (d' : Nat), .int .i64 most] w' fun e w'' => e = .returned (.int .i64 (sizeP most y.pure d')) ∧ Below w'.heap.size w' w'') :
    Calls Try.prog 25 #[x.val, .int .i64 deep, .int .i64 most] w fun e w' => e = .returned (.int .i64 (sizeP most x.pure deep)) ∧ Below w.heap.size w w' := by
  obtain ⟨k, n, s, a, cap, l⟩ := x
  have hs0 : s.size ≤ 140737488351232 := hsm.1
  have hsi : (s.size : Int) ≤ 140737488351232 := by omega
  have hmi : (most : Int) ≤ 2000 := by omega
  have hdi : (deep : Int) ≤ 9 := by omega
  simp only [It.val, It.cells, It.k, It.n, It.s, It.a, It.cap, It.l]
  have hB : ∀ o, Below w.heap.size w (w.alloc o) := fun o => (Below.refl _ _).alloc (Nat.le_refl _) o
  obtain ⟨M, hM⟩ : ∃ M, M = sizeP most (It.mk k n s a cap l).pure deep := ⟨_, rfl⟩
  have hMe : M = if 8 < deep ∨ most < 1 + s.size then most + 1 else sizeAll most (It.pureAll l) (1 + s.size) deep := by rw [hM]; rfl
  rw [← hM]
  have HI := Lib.hid (And.intro hin (And.intro ih hMe))
  clear hin ih hM hMe hsm hs0
  by_cases hd : 8 < deep
  · have hd' : (8 : Int) < deep := by omega
    have hMv : M = most + 1 := by rw [HI.out.2.2, if_pos (.inl hd)]
    have HM := Lib.hid hMv
    clear hMv
    go_enter Try.func25, Try.ntmps25
    go_wp2_with fail
    go_ret
    exact ⟨by rw [HM.out]; simp, hB _⟩
  · have hd' : (deep : Int) ≤ 8 := by omega
    by_cases hs : most < 1 + s.size
    · have hs' : (most : Int) < 1 + s.size := by omega
      have hMv : M = most + 1 := by rw [HI.out.2.2, if_pos (.inr hs)]
      have HM := Lib.hid hMv
      clear hMv
      go_enter Try.func25, Try.ntmps25
      go_wp2_with fail
      go_ret
      exact ⟨by rw [HM.out]; simp, hB _⟩
    · have hs' : (1 : Int) + s.size ≤ most := by omega
      have hsd : decide ((most : Int) < 1 + s.size) = false := decide_eq_false (by omega)
      have hMv : M = sizeAll most (It.pureAll l) (1 + s.size) deep := by rw [HI.out.2.2, if_neg (by omega)]
      have HM := Lib.hid hMv
      clear hMv hs
      obtain ⟨N, hN⟩ : ∃ N, N = l.length := ⟨_, rfl⟩
      have hNm : N ≤ 9223372036854775807 := by have := HI.out.1.2.1.1; unfold maxLen at this; omega
      rw [← hN]
      have HN := Lib.hid hN
      clear hN
      go_enter Try.func25, Try.ntmps25
      go_wp2_with fail
      have hrow := heap_alloc_new w (.cells #[.int .i64 k, .int .i64 n, .string s, .slice a N cap] 24)
      have hb1 := hB (.cells #[.int .i64 k, .int .i64 n, .string s, .slice a N cap] 24)
      generalize World.alloc w _ = w1 at *
      have HW := Lib.hid (And.intro hrow hb1)
      clear hrow hb1
      go_loopw [7, 8] (fun nv iv wr => ∃ (i acc : Nat), i ≤ N ∧ iv = .int .i64 i ∧ nv = .int .i64 acc ∧ acc ≤ most ∧ Below w1.heap.size w1 wr ∧ M = sizeAll most (It.pureAll (l.drop i)) acc deep) (fun _ iv _ => N - (intOf iv).toNat)
      case atStart => exact ⟨0, 1 + s.size, by omega, rfl, by go_num, by omega, Below.refl _ _, HM.out⟩
      case round =>
        obtain ⟨i, acc, hi, rfl, rfl, hacc, hb, hMi⟩ := hrel
        have hai : (acc : Int) ≤ most := by omega
        have HR := Lib.hid (And.intro hb hMi)
        clear hb hMi
        have hrow : wr.heap[w.heap.size]? = some (.cells #[.int .i64 k, .int .i64 n, .string s, .slice a N cap] 24 (0, 0)) := (HR.out.1.block _ (lt_of_heap' HW.out.1)).trans HW.out.1
        have b3 : wr.cell? ⟨w.heap.size, 3, none⟩ = some (.slice a N cap) := by rw [Lib.cell_of_heap hrow]; rfl
        clear hrow
        by_cases hlt : i < N
        · have hin := It.In.kept (keptS_any (HW.out.2.trans (HR.out.1.mono HW.out.2.size))) _ HI.out.1
          obtain ⟨b, o, x, ha, hbl, -, hx, hmem, c0, c1, c2, c3⟩ := hin.2.1.at (show i < l.length by have := HN.out; omega)
          have ha' : a = some ⟨b, o, none⟩ := ha
          subst ha'
          clear ha
          have ihx := HI.out.2.1 x hmem (deep + 1) wr (by omega) (It.inAll_mem hin.2.2 x hmem)
          have hle := sizeP_le most x.pure (deep + 1)
          have hnext := HR.out.2
          rw [drop_at hx, sizeAll] at hnext
          obtain ⟨z, hz⟩ : ∃ z, z = sizeP most x.pure (deep + 1) := ⟨_, rfl⟩
          rw [← hz] at ihx hle hnext
          have hzi : (z : Int) ≤ most + 1 := by omega
          have HX := Lib.hid (And.intro ihx hnext)
          clear hx hmem hin ihx hnext hz hle
          obtain ⟨xk, xn, xs, xa, xc, xl⟩ := x
          simp only [It.val, It.cells, It.k, It.n, It.s, It.a, It.cap, It.l] at HX c0 c1 c2 c3
          go_wp2_with fail
          refine HX.out.1.mono ?_
          rintro e w4 ⟨rfl, hb4⟩
          have HB := Lib.hid (HR.out.1.trans (hb4.mono HR.out.1.size))
          clear hb4
          by_cases hover : most < acc + z
          · have hoi : (most : Int) < acc + z := by omega
            have hMv : M = most + 1 := by rw [HX.out.2, if_pos hover]
            have HM2 := Lib.hid hMv
            clear hMv hover
            go_wp2_with fail
            go_ret
            exact ⟨by rw [HM2.out]; simp, HW.out.2.trans (HB.out.mono HW.out.2.size)⟩
          · have hoi : (acc : Int) + z ≤ most := by omega
            have hMv : M = sizeAll most (It.pureAll (l.drop (i + 1))) (acc + z) deep := by rw [HX.out.2, if_neg hover]
            have HM2 := Lib.hid hMv
            clear hMv hover
            go_wp2_with fail
            go_roundw
            case rel => exact ⟨i + 1, acc + z, by omega, by go_num, by go_num, by omega, HB.out, HM2.out⟩
            case measure => simp [intOf]; omega
        · obtain rfl : i = N := by omega
          have hfin : M = acc := by
            rw [HR.out.2, HN.out, List.drop_length]; rfl
          have HF := Lib.hid hfin
          clear hfin
          go_wp2_with fail
          go_ret
          exact ⟨by rw [HF.out]; rfl, HW.out.2.trans (HR.out.1.mono HW.out.2.size)⟩
theorem size_any (S : Nat → Prop) (most : Nat) (hmost : most ≤ 2000) : ∀ (N : Nat) (x : It), x.sz ≤ N → ∀ (deep : Nat) (w : World), deep ≤ 9 → x.In w S → x.Small →
    Calls Try.prog 25 #[x.val, .int .i64 deep, .int .i64 most] w fun e w' => e = .returned (.int .i64 (sizeP most x.pure deep)) ∧ Below w.heap.size w w'
  | 0, x, hx, deep, w, hd, hin, hsm => by rw [It.sz_eq] at hx; omega
  | N + 1, x, hx, deep, w, hd, hin, hsm => by
    refine size_step S most hmost x deep hd w hin hsm fun y hy d' w' hd' hin' => size_any S most hmost N y (by have := It.sz_lt hy; omega) d' w' hd' hin' ?_
    obtain ⟨k, n, s, a, cap, l⟩ := x
    exact It.small_mem hsm.2 y hy
set_option maxRecDepth 100000 in
theorem few_any (S : Nat → Prop) (most : Nat) (hmost : most ≤ 2000) (x : It) (w : World) (hin : x.In w S) (hsm : x.Small) :
    Calls Try.prog 9 #[x.val, .int .i64 most] w fun e w' => e = .returned (.bool (decide (sizeP most x.pure 0 ≤ most))) ∧ Below w.heap.size w w' := by
  have h := fun w' (hb : Below w.heap.size w w') => size_any S most hmost x.sz x (Nat.le_refl _) 0 w' (by decide) (It.In.kept (keptS_any hb) x hin) hsm
  obtain ⟨z, hz⟩ : ∃ z, z = sizeP most x.pure 0 := ⟨_, rfl⟩
  rw [← hz] at h ⊢
  have H := Lib.hid h
  clear h hin hsm hz
  obtain ⟨k, n, s, a, cap, l⟩ := x
  simp only [It.val, It.cells, It.k, It.n, It.s, It.a, It.cap, It.l] at H ⊢
  go_enter Try.func9, Try.ntmps9
  go_wp2_with fail
  refine (H.out _ ((Below.refl _ _).alloc (Nat.le_refl _) _)).mono ?_
  rintro e w2 ⟨rfl, hb2⟩
  go_wp2_with fail
  go_ret
  exact ⟨rfl, ((Below.refl _ _).alloc (Nat.le_refl _) _).trans (hb2.mono (by simp))⟩
end Go.Proofs.Ytlfefgfpachehaa
