/- The reference's Shape. -/
import Derived.Test.YtgoimggfpagojaaMC6
import Derived.Deep.DeepCutAuto
namespace Go.Proofs.Ytgoimggfpagojaa
open Go.RowKit
open Cn

set_option maxRecDepth 100000 in
set_option maxHeartbeats 800000 in
theorem refshape_any (S : Nat → Prop) (x : It) (t : ByteArray) (w : World) (hin : x.In w S) :
    Calls Try.prog 36 #[x.val, .string t] w fun e w' => e = .returned (.bool (shapeP x.pure t.data.toList)) ∧ Below w.heap.size w w' := by
  obtain ⟨k, n, s, a, cap, l⟩ := x
  simp only [It.val, It.cells, It.k, It.n, It.s, It.a, It.cap, It.l]
  have hB : ∀ o, Below w.heap.size w (w.alloc o) := fun o => (Below.refl _ _).alloc (Nat.le_refl _) o
  obtain ⟨M, hM⟩ : ∃ M, M = shapeP (It.mk k n s a cap l).pure t.data.toList := ⟨_, rfl⟩
  rw [← hM]
  have hMe : M = (decide (k = 3) && fitAll (It.pureAll l) t.data.toList) := hM
  clear hM
  obtain ⟨N, hN⟩ : ∃ N, N = l.length := ⟨_, rfl⟩
  have hNm : N ≤ 9223372036854775807 := by have := hin.2.1.1; unfold maxLen at this; omega
  have htl : t.data.toList.length = t.size := by simp
  rw [← hN]
  by_cases hg : k = 3 ∧ N = t.size
  · obtain ⟨rfl, hNt⟩ := hg
    have hnt : ((N : Int) != t.size) = false := by simp; omega
    have HM := Lib.hid (show M = fitAll (It.pureAll l) t.data.toList by rw [hMe]; simp)
    have HI := Lib.hid (And.intro hin (And.intro hN hNt))
    clear hMe hin hN hNt htl
    go_enter Try.func36, Try.ntmps36
    go_wp2_with fail
    have hb1 := hB (.cells #[.int .i64 3, .int .i64 n, .string s, .slice a N cap] 65)
    have hx3 : ((w.alloc (.cells #[.int .i64 3, .int .i64 n, .string s, .slice a N cap] 65))).heap[w.heap.size]? = some (.cells #[.int .i64 3, .int .i64 n, .string s, .slice a N cap] 65 (0, 0)) := heap_alloc_new _ _
    generalize World.alloc w _ = w1 at *
    go_loopw [5] (fun c wr => ∃ i : Nat, i ≤ N ∧ c = .int .i64 i ∧ Below w.heap.size w wr ∧ wr.heap[w.heap.size]? = some (.cells #[.int .i64 3, .int .i64 n, .string s, .slice a N cap] 65 (0, 0)) ∧ M = fitAll (It.pureAll (l.drop i)) (t.data.toList.drop i)) (fun c _ => N - (intOf c).toNat)
    case atStart => exact ⟨0, by omega, rfl, hb1, hx3, HM.out⟩
    case round =>
      clear hb1 hx3
      obtain ⟨i, hi, rfl, hb, hx3, hMi⟩ := hrel
      have HR := Lib.hid (And.intro hb (And.intro hx3 hMi))
      have hl3 : wr.cell? ⟨w.heap.size, 3, none⟩ = some (.slice a N cap) := by rw [Lib.cell_of_heap hx3]; rfl
      clear hb hMi hx3
      by_cases hlt : i < N
      · have hin := It.In.kept (keptS_any HR.out.1) _ HI.out.1
        obtain ⟨b, o, x, ha, hbl, -, hx, hmem, c0, c1, c2, c3⟩ := hin.2.1.at (show i < l.length by have := HI.out.2.1; omega)
        have ha' : a = some ⟨b, o, none⟩ := ha
        subst ha'
        clear ha
        have hti : i < t.size := by have := HI.out.2.2; omega
        have hnext := HR.out.2.2
        rw [drop_at hx, drop_text hti, fitAll] at hnext
        have HX := Lib.hid hnext
        clear hx hmem hin hnext
        obtain ⟨xk, xn, xs, xa, xc, xl⟩ := x
        simp only [It.k, It.n, It.s, It.a, It.cap, It.l] at c0 c1 c2 c3
        have hi0 : (0 : Int) ≤ (i : Int) := by omega
        have hiT : (i : Int) < t.size := by omega
        go_upto_region 8 with fail
        obtain ⟨c, hc⟩ : ∃ c, c = t[i].toNat := ⟨_, rfl⟩
        rw [← hc] at HX
        rw [← hc]
        clear hc
        have HV := Lib.hid (show fitP (It.mk xk xn xs xa xc xl).pure c = (if c = 110 then decide (xk = 1) else if c = 108 then decide (xk = 3) else if c = 100 then decide (xs.size = 32) && decide (xk = 2) else if c = 116 then decide (xk = 2) else false) from rfl)
        generalize fitP (It.mk xk xn xs xa xc xl).pure c = z at HX HV
        by_cases q1 : c = 110
        · subst q1
          by_cases k1 : xk = 1
          · subst k1
            obtain rfl : z = true := HV.out
            have HM5 := Lib.hid HX.out
            clear HX HV
            go_wp2_with fail
            go_roundw
            case rel => exact ⟨i + 1, by omega, by go_num, HR.out.1, HR.out.2.1, by rw [HM5.out]; rfl⟩
            case measure => simp [intOf]; omega
          · have k1' : (xk == 1) = false := by simpa using k1
            obtain rfl : z = false := by rw [HV.out, if_pos rfl, decide_eq_false k1]
            have HM5 := Lib.hid HX.out
            clear HX HV k1
            go_wp2_with fail
            go_ret
            exact ⟨ret_bool (by rw [HM5.out]; rfl), HR.out.1⟩
        · have q1' : ((c : Int) == 110) = false := by simp; omega
          by_cases q2 : c = 108
          · subst q2
            by_cases k1 : xk = 3
            · subst k1
              obtain rfl : z = true := HV.out
              have HM5 := Lib.hid HX.out
              clear HX HV
              go_wp2_with fail
              go_roundw
              case rel => exact ⟨i + 1, by omega, by go_num, HR.out.1, HR.out.2.1, by rw [HM5.out]; rfl⟩
              case measure => simp [intOf]; omega
            · have k1' : (xk == 3) = false := by simpa using k1
              obtain rfl : z = false := by rw [HV.out, if_neg (by decide), if_pos rfl, decide_eq_false k1]
              have HM5 := Lib.hid HX.out
              clear HX HV k1
              go_wp2_with fail
              go_ret
              exact ⟨ret_bool (by rw [HM5.out]; rfl), HR.out.1⟩
          · have q2' : ((c : Int) == 108) = false := by simp; omega
            by_cases q3 : c = 100
            · subst q3
              by_cases k1 : xk = 2
              · subst k1
                by_cases k2 : xs.size = 32
                · have k2' : ((xs.size : Int) == 32) = true := by simp; omega
                  obtain rfl : z = true := by rw [HV.out, if_neg (by decide), if_neg (by decide), if_pos rfl, decide_eq_true k2]; rfl
                  have HM5 := Lib.hid HX.out
                  clear HX HV k2
                  go_wp2_with fail
                  go_roundw
                  case rel => exact ⟨i + 1, by omega, by go_num, HR.out.1, HR.out.2.1, by rw [HM5.out]; rfl⟩
                  case measure => simp [intOf]; omega
                · have k2' : ((xs.size : Int) == 32) = false := by simp; omega
                  obtain rfl : z = false := by rw [HV.out, if_neg (by decide), if_neg (by decide), if_pos rfl, decide_eq_false k2]; rfl
                  have HM5 := Lib.hid HX.out
                  clear HX HV k2
                  go_wp2_with fail
                  go_ret
                  exact ⟨ret_bool (by rw [HM5.out]; rfl), HR.out.1⟩
              · have k1' : (xk == 2) = false := by simpa using k1
                obtain rfl : z = false := by rw [HV.out, if_neg (by decide), if_neg (by decide), if_pos rfl, decide_eq_false k1, Bool.and_false]
                have HM5 := Lib.hid HX.out
                clear HX HV k1
                go_wp2_with fail
                go_ret
                exact ⟨ret_bool (by rw [HM5.out]; rfl), HR.out.1⟩
            · have q3' : ((c : Int) == 100) = false := by simp; omega
              by_cases q4 : c = 116
              · subst q4
                by_cases k1 : xk = 2
                · subst k1
                  obtain rfl : z = true := HV.out
                  have HM5 := Lib.hid HX.out
                  clear HX HV
                  go_wp2_with fail
                  go_roundw
                  case rel => exact ⟨i + 1, by omega, by go_num, HR.out.1, HR.out.2.1, by rw [HM5.out]; rfl⟩
                  case measure => simp [intOf]; omega
                · have k1' : (xk == 2) = false := by simpa using k1
                  obtain rfl : z = false := by rw [HV.out, if_neg (by decide), if_neg (by decide), if_neg (by decide), if_pos rfl, decide_eq_false k1]
                  have HM5 := Lib.hid HX.out
                  clear HX HV k1
                  go_wp2_with fail
                  go_ret
                  exact ⟨ret_bool (by rw [HM5.out]; rfl), HR.out.1⟩
              · have q4' : ((c : Int) == 116) = false := by simp; omega
                obtain rfl : z = false := by rw [HV.out, if_neg q1, if_neg q2, if_neg q3, if_neg q4]
                have HM5 := Lib.hid HX.out
                clear HX HV q1 q2 q3 q4
                go_wp2_with fail
                go_ret
                exact ⟨ret_bool (by rw [HM5.out]; rfl), HR.out.1⟩
      · obtain rfl : i = N := by omega
        have hMt : M = true := by
          have h1 : l.drop i = [] := List.drop_eq_nil_of_le (by have := HI.out.2.1; omega)
          have h2 : t.data.toList.drop i = [] := List.drop_eq_nil_of_le (by have := HI.out.2.2; simp; omega)
          rw [HR.out.2.2, h1, h2]; rfl
        have HM2 := Lib.hid hMt
        clear hMt
        have hiT : (i : Int) = t.size := by have := HI.out.2.2; omega
        go_wp2_with fail
        go_ret
        exact ⟨ret_bool HM2.out.symm, HR.out.1⟩
  · have hMf : M = false := by
      rw [hMe]
      by_cases h1 : k = 3
      · rw [fitAll_len (by rw [It.pureAll_length, ← hN, htl]; exact fun h => hg ⟨h1, h⟩), Bool.and_false]
      · rw [decide_eq_false h1, Bool.false_and]
    have HM := Lib.hid hMf
    clear hMf hMe hin hN htl
    by_cases h1 : k = 3
    · subst h1
      have hnt : ((N : Int) == t.size) = false := by simp; intro h; exact hg ⟨rfl, by omega⟩
      clear hg
      go_enter Try.func36, Try.ntmps36
      go_wp2_with fail
      go_ret
      exact ⟨ret_bool HM.out.symm, hB _⟩
    · have hk3 : (k == 3) = false := by simpa using h1
      clear hg
      go_enter Try.func36, Try.ntmps36
      go_wp2_with fail
      go_ret
      exact ⟨ret_bool HM.out.symm, hB _⟩
end Go.Proofs.Ytgoimggfpagojaa
