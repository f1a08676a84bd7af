/- The reference's Same. -/
import Derived.Test.YtlfefgfpachehaaCSame
import Derived.Deep.RegionWith
import Derived.Deep.QuietTactic
import Derived.BigQuiet
namespace Go.Proofs.Ytlfefgfpachehaa
open Go.RowKit
open Cn

def RSameSo (x : It) : Prop := ∀ (S S' : Nat → Prop) (y : It) (w : World), x.In w S → y.In w S' →
  Calls Try.prog 17 #[x.val, y.val] w fun e w' => e = .returned (.bool (sameP x.pure y.pure)) ∧ Below w.heap.size w w'
set_option maxRecDepth 100000 in
set_option maxHeartbeats 800000 in
theorem refsame_step (x : It) (ih : ∀ y ∈ x.l, RSameSo y) : RSameSo x := by
  intro S S' y w hx hy
  obtain ⟨k, n, s, a, cap, l⟩ := x
  obtain ⟨k', n', s', a', cap', l'⟩ := y
  simp only [It.val, It.cells, It.k, It.n, It.s, It.a, It.cap, It.l] at ih ⊢
  obtain ⟨M, hM⟩ : ∃ M, M = sameP (It.mk k n s a cap l).pure (It.mk k' n' s' a' cap' l').pure := ⟨_, rfl⟩
  have hMe : M = (decide (k = k') && decide (n = n') && decide (s.toList = s'.toList) && sameAll (It.pureAll l) (It.pureAll l')) := by rw [hM]; rfl
  rw [← hM]
  clear hM
  have hb2 : ∀ o o', Below w.heap.size w ((w.alloc o).alloc o') := fun o o' => ((Below.refl _ _).alloc (Nat.le_refl _) _).alloc (by simp) _
  obtain ⟨N, hN⟩ : ∃ N, N = l.length := ⟨_, rfl⟩
  obtain ⟨N', hN'⟩ : ∃ N, N = l'.length := ⟨_, rfl⟩
  have hNm : N ≤ 9223372036854775807 := by have := hx.2.1.1; unfold maxLen at this; omega
  rw [← hN, ← hN']
  by_cases hc : k = k' ∧ n = n' ∧ s.toList = s'.toList ∧ N = N'
  · obtain ⟨rfl, rfl, hs, rfl⟩ := hc
    have hs' : s = s' := ByteArray.ext (Array.toList_inj.1 (by rw [← ByteArray.toList_eq, ← ByteArray.toList_eq, hs]))
    subst hs'
    have H := Lib.hid (And.intro (show M = sameAll (It.pureAll l) (It.pureAll l') by rw [hMe]; simp) (And.intro hN (And.intro hN' (And.intro ih (And.intro hx hy)))))
    clear hMe hs hN hN' ih hx hy
    go_enter Try.func17, Try.ntmps17
    go_wp2_with fail
    have hb1 := hb2 (.cells #[.int .i64 k, .int .i64 n, .string s, .slice a N cap] 34) (.cells #[.int .i64 k, .int .i64 n, .string s, .slice a' N cap'] 34)
    have z1 : (w.alloc (.cells #[.int .i64 k, .int .i64 n, .string s, .slice a N cap] 34)).heap.size = w.heap.size + 1 := by simp
    have hr1 : ((w.alloc (.cells #[.int .i64 k, .int .i64 n, .string s, .slice a N cap] 34)).alloc (.cells #[.int .i64 k, .int .i64 n, .string s, .slice a' N cap'] 34)).heap[w.heap.size]? = some (.cells #[.int .i64 k, .int .i64 n, .string s, .slice a N cap] 34 (0, 0)) := by
      rw [Lib.alloc_old _ _ _ (by omega)]; exact heap_alloc_new _ _
    have hr2 : ((w.alloc (.cells #[.int .i64 k, .int .i64 n, .string s, .slice a N cap] 34)).alloc (.cells #[.int .i64 k, .int .i64 n, .string s, .slice a' N cap'] 34)).heap[w.heap.size + 1]? = some (.cells #[.int .i64 k, .int .i64 n, .string s, .slice a' N cap'] 34 (0, 0)) := by
      have := heap_alloc_new (w.alloc (.cells #[.int .i64 k, .int .i64 n, .string s, .slice a N cap] 34)) (.cells #[.int .i64 k, .int .i64 n, .string s, .slice a' N cap'] 34)
      rwa [z1] at this
    have H1 := Lib.hid (And.intro hb1 (And.intro hr1 hr2))
    clear hb1 hr1 hr2 z1
    generalize World.alloc _ _ = w2 at *
    go_loopw [5] (fun iv wr => ∃ i : Nat, i ≤ N ∧ iv = .int .i64 i ∧ (Below w.heap.size w wr ∧ wr.heap[w.heap.size]? = some (.cells #[.int .i64 k, .int .i64 n, .string s, .slice a N cap] 34 (0, 0)) ∧ wr.heap[w.heap.size + 1]? = some (.cells #[.int .i64 k, .int .i64 n, .string s, .slice a' N cap'] 34 (0, 0))) ∧ M = sameAll (It.pureAll (l.drop i)) (It.pureAll (l'.drop i))) (fun iv _ => N - (intOf iv).toNat)
    case atStart => exact ⟨0, by omega, rfl, H1.out, H.out.1⟩
    case round =>
      clear H1
      obtain ⟨i, hi, rfl, hb, hMi⟩ := hrel
      have HR := Lib.hid (And.intro hb hMi)
      have hl3 : wr.cell? ⟨w.heap.size, 3, none⟩ = some (.slice a N cap) := by rw [Lib.cell_of_heap hb.2.1]; rfl
      clear hb hMi
      by_cases hlt : i < N
      · have hinx := It.In.kept (keptS_any HR.out.1.1) _ H.out.2.2.2.2.1
        have hiny := It.In.kept (keptS_any HR.out.1.1) _ H.out.2.2.2.2.2
        obtain ⟨b, o, x, ha, hbl, -, hx, hmem, c0, c1, c2, c3⟩ := hinx.2.1.at (show i < l.length by have := H.out.2.1; omega)
        obtain ⟨b', o', y, ha', hbl', -, hy, hmem', d0, d1, d2, d3⟩ := hiny.2.1.at (show i < l'.length by have := H.out.2.2.1; omega)
        have ha1 : a = some ⟨b, o, none⟩ := ha
        have ha2 : a' = some ⟨b', o', none⟩ := ha'
        subst ha1 ha2
        clear ha ha'
        have hkd : ∀ S, KeptS S S wr wr.drew := fun S => ⟨fun b hs _ => ⟨hs, rfl⟩, Nat.le_refl _⟩
        have ihx := H.out.2.2.2.1 x hmem _ _ y wr.drew (It.In.kept (hkd _) x (It.inAll_mem hinx.2.2 x hmem)) (It.In.kept (hkd _) y (It.inAll_mem hiny.2.2 y hmem'))
        have hnext := HR.out.2
        rw [drop_at hx, drop_at hy, sameAll] at hnext
        obtain ⟨z, hz⟩ : ∃ z, z = sameP x.pure y.pure := ⟨_, rfl⟩
        rw [← hz] at ihx hnext
        have HX := Lib.hid (And.intro ihx hnext)
        have hm3 : wr.cell? ⟨w.heap.size + 1, 3, none⟩ = some (.slice (some ⟨b', o', none⟩) N cap') := by rw [Lib.cell_of_heap HR.out.1.2.2]; rfl
        clear hx hy hmem hmem' hinx hiny ihx hnext hz hkd
        obtain ⟨xk, xn, xs, xa, xc, xl⟩ := x
        obtain ⟨yk, yn, ys, ya, yc, yl⟩ := y
        simp only [It.val, It.cells, It.k, It.n, It.s, It.a, It.cap, It.l] at HX c0 c1 c2 c3 d0 d1 d2 d3
        have e0 : wr.drew.cell? _ = _ := c0
        have e1 : wr.drew.cell? _ = _ := c1
        have e2 : wr.drew.cell? _ = _ := c2
        have e3 : wr.drew.cell? _ = _ := c3
        have f0 : wr.drew.cell? _ = _ := d0
        have f1 : wr.drew.cell? _ = _ := d1
        have f2 : wr.drew.cell? _ = _ := d2
        have f3 : wr.drew.cell? _ = _ := d3
        have hl3' : wr.drew.cell? _ = _ := hl3
        have hm3' : wr.drew.cell? _ = _ := hm3
        go_wp2_with fail
        go_region_with (go_at_call 17; refine HX.out.1.mono ?_; rintro e w4 ⟨rfl, hb4⟩; have HB4 := Lib.hid hb4; clear hb4)
        all_goals
          have hb5 : Below w.heap.size w w4 := by
            have h1 := HR.out.1.1.drew
            exact h1.trans (HB4.out.mono h1.size)
          have hr1 := (HB4.out.block w.heap.size (lt_of_heap' HR.out.1.2.1)).trans HR.out.1.2.1
          have hr2 := (HB4.out.block (w.heap.size + 1) (lt_of_heap' HR.out.1.2.2)).trans HR.out.1.2.2
          have HB5 := Lib.hid (And.intro hb5 (And.intro hr1 hr2))
          have HM5 := Lib.hid HX.out.2
          clear HX c0 c1 c2 c3 d0 d1 d2 d3 e0 e1 e2 e3 f0 f1 f2 f3 HR hb5 hr1 hr2 HB4 hl3 hl3' hm3 hm3'
          cases z with
          | true =>
            go_wp2_with fail
            go_roundw
            case rel => exact ⟨i + 1, by omega, by go_num, HB5.out, by rw [HM5.out]; rfl⟩
            case measure => simp [intOf]; omega
          | false =>
            go_wp2_with fail
            go_ret
            exact ⟨ret_bool (by rw [HM5.out]; rfl), HB5.out.1⟩
      · obtain rfl : i = N := by omega
        have hMt : M = true := by
          have h1 : l.drop i = [] := List.drop_eq_nil_of_le (by have := H.out.2.1; omega)
          have h2 : l'.drop i = [] := List.drop_eq_nil_of_le (by have := H.out.2.2.1; omega)
          rw [HR.out.2, h1, h2]; rfl
        have HM := Lib.hid hMt
        clear hMt
        go_wp2_with fail
        go_ret
        exact ⟨ret_bool HM.out.symm, HR.out.1.1⟩
  · have hMf : M = false := by
      rw [hMe]
      by_cases h4 : N = N'
      · simp only [Bool.and_eq_false_iff, decide_eq_false_iff_not]
        by_cases h1 : k = k'
        · by_cases h2 : n = n'
          · exact .inl (.inr fun h3 => hc ⟨h1, h2, h3, h4⟩)
          · exact .inl (.inl (.inr h2))
        · exact .inl (.inl (.inl h1))
      · rw [sameAll_len (by rw [It.pureAll_length, It.pureAll_length, ← hN, ← hN']; exact h4), Bool.and_false]
    have HM := Lib.hid hMf
    clear hMf hMe hN hN' ih hx hy
    go_enter Try.func17, Try.ntmps17
    go_wp2_with fail
    all_goals first
      | (go_ret
         exact ⟨ret_bool HM.out.symm, hb2 _ _⟩)
      | skip
    have h := ‹((N : Int) != N') = false›
    exact absurd ⟨‹k = k'›, ‹n = n'›, ‹s.toList = s'.toList›, by simp at h; omega⟩ hc
theorem refsame_any : ∀ (N : Nat) (x : It), x.sz ≤ N → RSameSo x
  | 0, x, hx => by rw [It.sz_eq] at hx; omega
  | N + 1, x, hx => refsame_step x fun y hy => refsame_any N y (by have := It.sz_lt hy; omega)
end Go.Proofs.Ytlfefgfpachehaa
