/- lockboxref17.Same. -/
import Derived.Test.YtgoimggfpagojaaLfSame
import Derived.Test.YtgoimggfpagojaaMC3
namespace Go.Proofs.Ytgoimggfpagojaa
open Go.RowKit

theorem neqPoR : NeqAt Try.prog 54 (fun x => .agg (encPo x).toArray) eqPo := by
  refine ⟨fun x y w => ?_, GuardAt.agg _ (by kernel_rfl)⟩
  have us0 := Try.underlying9
  have as0 := Try.isAgg9
  have zs0 := Try.sizeOf9
  have u3 := Try.underlying3
  have a3 := Try.isAgg3
  have z3 := Try.sizeOf3
  have hS : Try.prog.underlying 54 = some (.struct (Try.prog.fieldsOf 54)) := by kernel_rfl
  have hp : Try.prog.stoodInHeld 54 = false := by kernel_rfl
  simp only [encPo]
  rw [run_neq_struct, show (10000 : Nat) = 9999 + 1 from rfl, run_equalIn_agg w 9999 54 _ _ hS hp]
  simp only [Program.fieldsOf, Try.underlying54]
  go_simp
  unfold eqPo
  cases h1 : x.tag.toList == y.tag.toList <;> cases h2 : x.prev == y.prev <;> simp_all
theorem sameL_false {a b : Lf} (h : a ≠ b) : sameL a b = false := by
  cases e : sameL a b with
  | false => rfl
  | true => exact absurd (sameL_iff.1 e) h
set_option maxRecDepth 100000 in
set_option maxHeartbeats 4000000 in
theorem rsame17_any (a b : Lf) (a1 a2 : Option Addr) (c1 c2 : Nat) (w : World) (h1 : PoAt w a1 a.tags) (h2 : PoAt w a2 b.tags) (hx : a.tags.length ≤ 1000000000) (hy : b.tags.length ≤ 1000000000) :
    Calls Try.prog 15 #[.agg (lfCs a a1 c1), .agg (lfCs b a2 c2)] w fun e w' => e = .returned (.bool (sameL a b)) ∧ Below w.heap.size w w' := by
  obtain ⟨w1, hw1⟩ : ∃ w1, w1 = w.alloc (.cells (lfCs a a1 c1) 30) := ⟨_, rfl⟩
  obtain ⟨w2, hw2⟩ : ∃ w2, w2 = w1.alloc (.cells (lfCs b a2 c2) 30) := ⟨_, rfl⟩
  have hb1 : Below w.heap.size w w1 := by rw [hw1]; exact (Below.refl _ _).alloc (Nat.le_refl _) _
  have hz1 : w1.heap.size = w.heap.size + 1 := by rw [hw1]; simp
  have hb2 : Below w1.heap.size w1 w2 := by rw [hw2]; exact (Below.refl _ _).alloc (Nat.le_refl _) _
  have hg1 : w2.heap[w.heap.size]? = some (.cells (lfCs a a1 c1) 30 (0, 0)) := by rw [hb2.block _ (by omega), hw1]; exact heap_alloc_new _ _
  have hg2 : w2.heap[w.heap.size + 1]? = some (.cells (lfCs b a2 c2) 30 (0, 0)) := by rw [hw2, ← hz1]; exact heap_alloc_new _ _
  have hbw : Below w.heap.size w w2 := hb1.trans (hb2.mono hb1.size)
  have hP1 := h1.below hbw
  have hP2 := h2.below hbw
  obtain ⟨x0, x1, x2, x3, x4⟩ := lf_cell hg1
  obtain ⟨y0, y1, y2, y3, y4⟩ := lf_cell hg2
  obtain ⟨R, hR⟩ : ∃ R, R = sameL a b := ⟨_, rfl⟩
  rw [← hR]
  have hRt : a = b → R = true := fun e => by rw [hR]; exact sameL_iff.2 e
  have hRf : a ≠ b → R = false := fun e => by rw [hR]; exact sameL_false e
  obtain ⟨n, k, d, ts, x⟩ := a
  obtain ⟨n', k', d', ts', x'⟩ := b
  unfold lfCs at *
  simp only at *
  obtain ⟨N, hN⟩ : ∃ N, N = ts.length := ⟨_, rfl⟩
  obtain ⟨M, hM⟩ : ∃ M, M = ts'.length := ⟨_, rfl⟩
  rw [← hN] at x3 hw1 hx ⊢
  rw [← hM] at y3 hw2 hy ⊢
  have H := Lib.hid (And.intro hbw (And.intro hP1 (And.intro hP2 (And.intro hN (And.intro hM (And.intro hRt hRf))))))
  clear hbw hb1 hb2 hg1 hg2 h1 h2 hz1 hP1 hP2 hN hM hRt hRf hR
  cases p1 : (n == n') with
  | false =>
    have q1 : (n != n') = true := by simpa using p1
    obtain rfl : R = false := H.out.2.2.2.2.2.2 (fun e => by injection e with e; rw [e] at p1; simp at p1)
    go_enter Try.func15, Try.ntmps15
    go_upto_region 1 with fail
    rw [← hw1, ← hw2]
    clear hw1 hw2
    go_wp2_with fail
    go_ret
    exact ⟨rfl, H.out.1⟩
  | true =>
    have q1 : (n != n') = false := by simpa using p1
    cases p2 : (k == k') with
    | false =>
      have q2 : (k != k') = true := by simpa using p2
      obtain rfl : R = false := H.out.2.2.2.2.2.2 (fun e => by injection e with _ e; rw [e] at p2; simp at p2)
      go_enter Try.func15, Try.ntmps15
      go_upto_region 1 with fail
      rw [← hw1, ← hw2]
      clear hw1 hw2
      go_wp2_with fail
      go_ret
      exact ⟨rfl, H.out.1⟩
    | true =>
      have q2 : (k != k') = false := by simpa using p2
      cases p3 : (d.toList == d'.toList) with
      | false =>
        obtain rfl : R = false := H.out.2.2.2.2.2.2 (fun e => by injection e with _ _ e; rw [e] at p3; simp at p3)
        go_enter Try.func15, Try.ntmps15
        go_upto_region 1 with fail
        rw [← hw1, ← hw2]
        clear hw1 hw2
        go_wp2_with fail
        go_ret
        exact ⟨rfl, H.out.1⟩
      | true =>
        cases p4 : (x.toList == x'.toList) with
        | false =>
          obtain rfl : R = false := H.out.2.2.2.2.2.2 (fun e => by injection e with _ _ _ _ e; rw [e] at p4; simp at p4)
          go_enter Try.func15, Try.ntmps15
          go_upto_region 1 with fail
          rw [← hw1, ← hw2]
          clear hw1 hw2
          go_wp2_with fail
          go_ret
          exact ⟨rfl, H.out.1⟩
        | true =>
          by_cases hNM : N = M
          rotate_left
          · have e1 : ((N : Int) != (M : Int)) = true := by simp; omega
            obtain rfl : R = false := H.out.2.2.2.2.2.2 (fun e => by injection e with _ _ _ e _; apply hNM; rw [H.out.2.2.2.1, H.out.2.2.2.2.1, e])
            go_enter Try.func15, Try.ntmps15
            go_upto_region 1 with fail
            rw [← hw1, ← hw2]
            clear hw1 hw2
            go_wp2_with fail
            go_ret
            exact ⟨rfl, H.out.1⟩
          subst hNM
          have e1 : ((N : Int) != (N : Int)) = false := by simp
          go_enter Try.func15, Try.ntmps15
          go_upto_region 1 with fail
          rw [← hw1, ← hw2]
          clear hw1 hw2
          go_wp2_with fail
          go_loopw [5] (fun i wr => ∃ (j q : Nat), j ≤ N ∧ i = .int .i64 (j : Int) ∧ ts.take j = ts'.take j ∧ wr = w2.drewN q) (fun i _ => N - (intOf i).toNat)
          case atStart => exact ⟨0, 0, by omega, rfl, rfl, rfl⟩
          case round =>
            obtain ⟨j, q, hj, rfl, htk, rfl⟩ := hrel
            by_cases hlt : j < N
            · have hj1 : j < ts.length := by have := H.out.2.2.2.1; omega
              have hj2 : j < ts'.length := by have := H.out.2.2.2.2.1; omega
              obtain ⟨p, hp⟩ : ∃ p, ts[j]? = some p := ⟨_, List.getElem?_eq_getElem hj1⟩
              obtain ⟨p', hp'⟩ : ∃ p, ts'[j]? = some p := ⟨_, List.getElem?_eq_getElem hj2⟩
              obtain ⟨b, o, rfl, -, s0, s1⟩ := H.out.2.1 j p hp
              obtain ⟨b', o', rfl, -, t0, t1⟩ := H.out.2.2.1 j p' hp'
              have hne := fun W => neqPoR.1 p p' W
              have hgd := fun op u v W => neqPoR.2 op u v p p' W
              simp only [encPo] at hne hgd
              cases hE : eqPo p p' with
              | false =>
                rw [hE] at hne
                obtain rfl : R = false := H.out.2.2.2.2.2.2 (fun e => by injection e with _ _ _ e _; subst e; rw [hp] at hp'; injection hp' with hp'; subst hp'; rw [eqPo_iff.2 rfl] at hE; cases hE)
                clear hp hp' hE htk
                go_wp2_with fail
                go_quiet (fail)
                go_wp2_with fail
                go_ret
                exact ⟨rfl, below_drewN (below_drewN H.out.1 _) _⟩
              | true =>
                rw [hE] at hne
                have hpp := eqPo_iff.1 hE
                have hsn : ts.take (j + 1) = ts'.take (j + 1) := by rw [List.take_add_one, List.take_add_one, hp, hp', htk, hpp]
                have HM := Lib.hid hsn
                clear hp hp' hE htk hpp hsn
                go_wp2_with fail
                go_quiet (fail)
                go_wp2_with fail
                go_roundw
                case rel => exact ⟨j + 1, _, by omega, by go_num, HM.out, rfl⟩
                case measure => simp [intOf]; omega
            · obtain rfl : j = N := by omega
              have hts : ts = ts' := by rw [List.take_of_length_le (by have := H.out.2.2.2.1; omega), List.take_of_length_le (by have := H.out.2.2.2.2.1; omega)] at htk; exact htk
              have en : n = n' := by simpa using p1
              have ek : k = k' := by simpa using p2
              have ed : d = d' := Wd.toList_eq (by simpa using p3)
              have ex : x = x' := Wd.toList_eq (by simpa using p4)
              obtain rfl : R = true := H.out.2.2.2.2.2.1 (by rw [en, ek, ed, ex, hts])
              clear htk hts en ek ed ex
              go_wp2_with fail
              go_ret
              exact ⟨rfl, below_drewN H.out.1 _⟩
end Go.Proofs.Ytgoimggfpagojaa
