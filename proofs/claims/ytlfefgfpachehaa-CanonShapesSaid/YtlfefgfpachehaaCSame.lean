/- Same, by slices.EqualFunc: which items are the same. -/
import Derived.Test.YtlfefgfpachehaaCMay
import Derived.Test.YtlfefgfpachehaaCSize
namespace Go.Proofs.Ytlfefgfpachehaa
open Go.RowKit
open Cn

mutual
def sameP : Pt → Pt → Bool
  | .mk k n s l, .mk k' n' s' l' => decide (k = k') && decide (n = n') && decide (s.toList = s'.toList) && sameAll l l'
def sameAll : List Pt → List Pt → Bool
  | [], [] => true
  | [], _ :: _ => false
  | _ :: _, [] => false
  | x :: r, y :: m => sameP x y && sameAll r m
end
mutual
theorem sameP_refl : ∀ x, sameP x x = true
  | .mk k n s l => by simp [sameP, sameAll_refl l]
theorem sameAll_refl : ∀ l, sameAll l l = true
  | [] => rfl
  | x :: r => by simp [sameAll, sameP_refl x, sameAll_refl r]
end
theorem sameAll_len : ∀ {l m : List Pt}, l.length ≠ m.length → sameAll l m = false
  | [], [], h => absurd rfl h
  | [], _ :: _, _ => rfl
  | _ :: _, [], _ => rfl
  | x :: r, y :: m, h => by rw [sameAll, sameAll_len (by simpa using h)]; simp
/-- The contract of Same at an item. -/
def SameSo (x : It) : Prop := ∀ (S : Nat → Prop) (y : It) (w : World), x.In w S → y.In w S →
  Calls Try.prog 16 #[x.val, y.val] w fun e w' => e = .returned (.bool (sameP x.pure y.pure)) ∧ Below w.heap.size w w'
set_option maxRecDepth 100000 in
set_option maxHeartbeats 400000 in
theorem equalFunc_any (l m : List It) (ih : ∀ x ∈ l, SameSo x) (S : Nat → Prop) (a a' : Option Addr) (cap cap' : Nat) (w : World) (hL : Lies w S a l) (hA : It.InAll w S l) (hL' : Lies w S a' m) (hA' : It.InAll w S m) :
    Calls Try.prog 31 #[.slice a l.length cap, .slice a' m.length cap', .func (.func 16) #[] #[]] w fun e w' => e = .returned (.bool (sameAll (It.pureAll l) (It.pureAll m))) ∧ Below w.heap.size w w' := by
  obtain ⟨M, hM⟩ : ∃ M, M = sameAll (It.pureAll l) (It.pureAll m) := ⟨_, rfl⟩
  rw [← hM]
  obtain ⟨N, hN⟩ : ∃ N, N = l.length := ⟨_, rfl⟩
  obtain ⟨N', hN'⟩ : ∃ N, N = m.length := ⟨_, rfl⟩
  have hNm : N ≤ 9223372036854775807 := by have := hL.1; unfold maxLen at this; omega
  rw [← hN, ← hN']
  have H := Lib.hid (And.intro hM (And.intro hN (And.intro hN' (And.intro ih (And.intro hL (And.intro hA (And.intro hL' hA')))))))
  clear hM hN hN' ih hL hA hL' hA'
  by_cases hlen : N = N'
  · subst hlen
    go_enter Try.func31, Try.ntmps31
    go_wp2_with fail
    go_loopw [17] (fun iv wr => ∃ i : Nat, i ≤ N ∧ iv = .int .i64 i ∧ Below w.heap.size w wr ∧ M = sameAll (It.pureAll (l.drop i)) (It.pureAll (m.drop i))) (fun iv _ => N - (intOf iv).toNat)
    case atStart => exact ⟨0, by omega, rfl, Below.refl _ _, H.out.1⟩
    case round =>
      obtain ⟨i, hi, rfl, hb, hMi⟩ := hrel
      have HR := Lib.hid (And.intro hb hMi)
      clear hb hMi
      by_cases hlt : i < N
      · have hLk := H.out.2.2.2.2.1.kept (keptS_any HR.out.1)
        have hLk' := H.out.2.2.2.2.2.2.1.kept (keptS_any HR.out.1)
        obtain ⟨b, o, x, ha, hbl, -, hx, hmem, c0, c1, c2, c3⟩ := hLk.at (show i < l.length by have := H.out.2.1; omega)
        obtain ⟨b', o', y, ha', hbl', -, hy, hmem', d0, d1, d2, d3⟩ := hLk'.at (show i < m.length by have := H.out.2.2.1; omega)
        subst ha ha'
        have hinx := It.inAll_mem H.out.2.2.2.2.2.1 x hmem
        have hiny := It.inAll_mem H.out.2.2.2.2.2.2.2 y hmem'
        have ihx := fun w' (hb : Below w.heap.size w w') => H.out.2.2.2.1 x hmem S y w' (It.In.kept (keptS_any hb) x hinx) (It.In.kept (keptS_any hb) y hiny)
        have hnext := HR.out.2
        rw [drop_at hx, drop_at hy, sameAll] at hnext
        obtain ⟨z, hz⟩ : ∃ z, z = sameP x.pure y.pure := ⟨_, rfl⟩
        rw [← hz] at ihx hnext
        have HX := Lib.hid (And.intro ihx hnext)
        have hbx : Below w.heap.size w ((wr.alloc (.cells x.cells 24)).alloc (.cells y.cells 24)) := (HR.out.1.alloc HR.out.1.size _).alloc (by have := HR.out.1.size; simp; omega) _
        have HBX := Lib.hid hbx
        clear hx hy hmem hmem' hinx hiny ihx hnext hz hbx hLk hLk'
        obtain ⟨xk, xn, xs, xa, xc, xl⟩ := x
        obtain ⟨yk, yn, ys, ya, yc, yl⟩ := y
        simp only [It.val, It.cells, It.k, It.n, It.s, It.a, It.cap, It.l] at HX HBX c0 c1 c2 c3 d0 d1 d2 d3
        go_wp2_with fail
        refine (HX.out.1 _ HBX.out).mono ?_
        rintro e w4 ⟨rfl, hb4⟩
        have HB := Lib.hid (HBX.out.trans (hb4.mono HBX.out.size))
        clear hb4 c0 c1 c2 c3 d0 d1 d2 d3
        cases z with
        | true =>
          go_wp2_with fail
          go_roundw
          case rel => exact ⟨i + 1, by omega, by go_num, HB.out, HX.out.2⟩
          case measure => simp [intOf]; omega
        | false =>
          go_wp2_with fail
          go_ret
          exact ⟨ret_bool HX.out.2.symm, HB.out⟩
      · obtain rfl : i = N := by omega
        have hMt : M = true := by
          have h1 : l.drop i = [] := List.drop_eq_nil_of_le (by have := H.out.2.1; omega)
          have h2 : m.drop i = [] := List.drop_eq_nil_of_le (by have := H.out.2.2.1; omega)
          rw [HR.out.2, h1, h2]; rfl
        have HM := Lib.hid hMt
        clear hMt
        go_wp2_with fail
        go_ret
        exact ⟨ret_bool HM.out.symm, HR.out.1⟩
  · have hMf : M = false := by
      rw [H.out.1]
      exact sameAll_len (by rw [It.pureAll_length, It.pureAll_length, ← H.out.2.1, ← H.out.2.2.1]; exact hlen)
    have HM := Lib.hid hMf
    have hne : ((N : Int) == N') = false := by simp; omega
    clear hMf
    go_enter Try.func31, Try.ntmps31
    go_wp2_with fail
    go_ret
    exact ⟨ret_bool HM.out.symm, Below.refl _ _⟩
set_option maxRecDepth 100000 in
set_option maxHeartbeats 400000 in
theorem same_step (x : It) (ih : ∀ y ∈ x.l, SameSo y) : SameSo x := by
  intro S y w hx hy
  have heq := fun w' (hb : Below w.heap.size w w') => equalFunc_any x.l y.l ih S x.a y.a x.cap y.cap w' ((It.in_eq w S x ▸ hx).2.1.kept (keptS_any hb)) (It.InAll.kept (keptS_any hb) _ (It.in_eq w S x ▸ hx).2.2) ((It.in_eq w S y ▸ hy).2.1.kept (keptS_any hb)) (It.InAll.kept (keptS_any hb) _ (It.in_eq w S y ▸ hy).2.2)
  obtain ⟨k, n, s, a, cap, l⟩ := x
  obtain ⟨k', n', s', a', cap', l'⟩ := y
  simp only [It.val, It.cells, It.k, It.n, It.s, It.a, It.cap, It.l] at heq ⊢
  obtain ⟨M, hM⟩ : ∃ M, M = sameP (It.mk k n s a cap l).pure (It.mk k' n' s' a' cap' l').pure := ⟨_, rfl⟩
  have hMe : M = (decide (k = k') && decide (n = n') && decide (s.toList = s'.toList) && sameAll (It.pureAll l) (It.pureAll l')) := by rw [hM]; rfl
  rw [← hM]
  obtain ⟨z, hz⟩ : ∃ z, z = sameAll (It.pureAll l) (It.pureAll l') := ⟨_, rfl⟩
  rw [← hz] at heq hMe
  have H := Lib.hid (And.intro heq hMe)
  clear heq hMe hM hz hx hy ih
  by_cases hc : k = k' ∧ n = n' ∧ s.toList = s'.toList
  · obtain ⟨rfl, rfl, hs⟩ := hc
    go_enter Try.func16, Try.ntmps16
    go_wp2_with fail
    have hb2 : Below w.heap.size w ((w.alloc (.cells #[.int .i64 k, .int .i64 n, .string s, .slice a l.length cap] 24)).alloc (.cells #[.int .i64 k, .int .i64 n, .string s', .slice a' l'.length cap'] 24)) := ((Below.refl _ _).alloc (Nat.le_refl _) _).alloc (by simp) _
    refine (H.out.1 _ hb2).mono ?_
    rintro e w3 ⟨rfl, hb3⟩
    have H3 := Lib.hid (hb2.trans (hb3.mono hb2.size))
    clear hb2 hb3
    have hMz : M = z := by rw [H.out.2, hs]; simp
    have HM := Lib.hid hMz
    clear hMz
    go_wp2_with fail
    go_ret
    exact ⟨ret_bool HM.out.symm, H3.out⟩
  · have hb2 : ∀ o o', Below w.heap.size w ((w.alloc o).alloc o') := fun o o' => ((Below.refl _ _).alloc (Nat.le_refl _) _).alloc (by simp) _
    have hMf : M = false := by
      rw [H.out.2]
      simp only [Bool.and_eq_false_iff, decide_eq_false_iff_not]
      by_cases h1 : k = k'
      · by_cases h2 : n = n'
        · exact .inl (.inr fun h3 => hc ⟨h1, h2, h3⟩)
        · exact .inl (.inl (.inr h2))
      · exact .inl (.inl (.inl h1))
    have HM := Lib.hid hMf
    clear hMf
    go_enter Try.func16, Try.ntmps16
    go_wp2_with fail
    all_goals first
      | (exfalso; exact hc ⟨‹_›, ‹_›, ‹_›⟩)
      | (go_ret
         exact ⟨ret_bool HM.out.symm, hb2 _ _⟩)
theorem same_any : ∀ (N : Nat) (x : It), x.sz ≤ N → SameSo x
  | 0, x, hx => by rw [It.sz_eq] at hx; omega
  | N + 1, x, hx => same_step x fun y hy => same_any N y (by have := It.sz_lt hy; omega)
end Go.Proofs.Ytlfefgfpachehaa
