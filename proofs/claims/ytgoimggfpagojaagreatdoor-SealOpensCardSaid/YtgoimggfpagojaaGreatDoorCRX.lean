/- Merged by program: The reference's Shape. | The reference's reader: octet, number. | The reference's reader of items: what its lists are in memory; what was read ahead of the rest. | The reference's reader of items: item. | The reference's reader of items: lists; Front, Decode. | The reference's Decode. -/
import Derived.Test.YtgoimggfpagojaaGreatDoorMC6
import Derived.Deep.DeepCutAuto
import Derived.Test.YtgoimggfpagojaaGreatDoorCRDec
import Derived.Test.YtgoimggfpagojaaGreatDoorMC5
import Derived.Test.YtgoimggfpagojaaGreatDoorMB
import Derived.Deep.RegionWith
import Derived.StillTailTactics
import Derived.Deep.RegionHeld
namespace Go.Proofs.YtgoimggfpagojaaGreatDoor
open Go.RowKit
open Cn

set_option maxRecDepth 100000 in
set_option maxHeartbeats 800000 in
theorem refshape_any (S : Nat → Prop) (x : It) (t : ByteArray) (w : World) (hin : x.In w S) :
    Calls Tryz.prog 21 #[x.val, .string t] w fun e w' => e = .returned (.bool (shapeP x.pure t.data.toList)) ∧ Below w.heap.size w w' := by
  obtain ⟨k, n, s, a, cap, l⟩ := x
  simp only [It.val, It.cells, It.k, It.n, It.s, It.a, It.cap, It.l]
  have hB : ∀ o, Below w.heap.size w (w.alloc o) := fun o => (Below.refl _ _).alloc (Nat.le_refl _) o
  obtain ⟨M, hM⟩ : ∃ M, M = shapeP (It.mk k n s a cap l).pure t.data.toList := ⟨_, rfl⟩
  rw [← hM]
  have hMe : M = (decide (k = 3) && fitAll (It.pureAll l) t.data.toList) := hM
  clear hM
  obtain ⟨N, hN⟩ : ∃ N, N = l.length := ⟨_, rfl⟩
  have hNm : N ≤ 9223372036854775807 := by have := hin.2.1.1; unfold maxLen at this; omega
  have htl : t.data.toList.length = t.size := by simp
  rw [← hN]
  by_cases hg : k = 3 ∧ N = t.size
  · obtain ⟨rfl, hNt⟩ := hg
    have hnt : ((N : Int) != t.size) = false := by simp; omega
    have HM := Lib.hid (show M = fitAll (It.pureAll l) t.data.toList by rw [hMe]; simp)
    have HI := Lib.hid (And.intro hin (And.intro hN hNt))
    clear hMe hin hN hNt htl
    go_enter Tryz.func21, Tryz.ntmps21
    go_wp2_with fail
    have hb1 := hB (.cells #[.int .i64 3, .int .i64 n, .string s, .slice a N cap] 45)
    have hx3 : ((w.alloc (.cells #[.int .i64 3, .int .i64 n, .string s, .slice a N cap] 45))).heap[w.heap.size]? = some (.cells #[.int .i64 3, .int .i64 n, .string s, .slice a N cap] 45 (0, 0)) := heap_alloc_new _ _
    generalize World.alloc w _ = w1 at *
    go_loopw [5] (fun c wr => ∃ i : Nat, i ≤ N ∧ c = .int .i64 i ∧ Below w.heap.size w wr ∧ wr.heap[w.heap.size]? = some (.cells #[.int .i64 3, .int .i64 n, .string s, .slice a N cap] 45 (0, 0)) ∧ M = fitAll (It.pureAll (l.drop i)) (t.data.toList.drop i)) (fun c _ => N - (intOf c).toNat)
    case atStart => exact ⟨0, by omega, rfl, hb1, hx3, HM.out⟩
    case round =>
      clear hb1 hx3
      obtain ⟨i, hi, rfl, hb, hx3, hMi⟩ := hrel
      have HR := Lib.hid (And.intro hb (And.intro hx3 hMi))
      have hl3 : wr.cell? ⟨w.heap.size, 3, none⟩ = some (.slice a N cap) := by rw [Lib.cell_of_heap hx3]; rfl
      clear hb hMi hx3
      by_cases hlt : i < N
      · have hin := It.In.kept (keptS_any HR.out.1) _ HI.out.1
        obtain ⟨b, o, x, ha, hbl, -, hx, hmem, c0, c1, c2, c3⟩ := hin.2.1.at (show i < l.length by have := HI.out.2.1; omega)
        have ha' : a = some ⟨b, o, none⟩ := ha
        subst ha'
        clear ha
        have hti : i < t.size := by have := HI.out.2.2; omega
        have hnext := HR.out.2.2
        rw [drop_at hx, drop_text hti, fitAll] at hnext
        have HX := Lib.hid hnext
        clear hx hmem hin hnext
        obtain ⟨xk, xn, xs, xa, xc, xl⟩ := x
        simp only [It.k, It.n, It.s, It.a, It.cap, It.l] at c0 c1 c2 c3
        have hi0 : (0 : Int) ≤ (i : Int) := by omega
        have hiT : (i : Int) < t.size := by omega
        go_upto_region 8 with fail
        obtain ⟨c, hc⟩ : ∃ c, c = t[i].toNat := ⟨_, rfl⟩
        rw [← hc] at HX
        rw [← hc]
        clear hc
        have HV := Lib.hid (show fitP (It.mk xk xn xs xa xc xl).pure c = (if c = 110 then decide (xk = 1) else if c = 108 then decide (xk = 3) else if c = 100 then decide (xs.size = 32) && decide (xk = 2) else if c = 116 then decide (xk = 2) else false) from rfl)
        generalize fitP (It.mk xk xn xs xa xc xl).pure c = z at HX HV
        by_cases q1 : c = 110
        · subst q1
          by_cases k1 : xk = 1
          · subst k1
            obtain rfl : z = true := HV.out
            have HM5 := Lib.hid HX.out
            clear HX HV
            go_wp2_with fail
            go_roundw
            case rel => exact ⟨i + 1, by omega, by go_num, HR.out.1, HR.out.2.1, by rw [HM5.out]; rfl⟩
            case measure => simp [intOf]; omega
          · have k1' : (xk == 1) = false := by simpa using k1
            obtain rfl : z = false := by rw [HV.out, if_pos rfl, decide_eq_false k1]
            have HM5 := Lib.hid HX.out
            clear HX HV k1
            go_wp2_with fail
            go_ret
            exact ⟨ret_bool (by rw [HM5.out]; rfl), HR.out.1⟩
        · have q1' : ((c : Int) == 110) = false := by simp; omega
          by_cases q2 : c = 108
          · subst q2
            by_cases k1 : xk = 3
            · subst k1
              obtain rfl : z = true := HV.out
              have HM5 := Lib.hid HX.out
              clear HX HV
              go_wp2_with fail
              go_roundw
              case rel => exact ⟨i + 1, by omega, by go_num, HR.out.1, HR.out.2.1, by rw [HM5.out]; rfl⟩
              case measure => simp [intOf]; omega
            · have k1' : (xk == 3) = false := by simpa using k1
              obtain rfl : z = false := by rw [HV.out, if_neg (by decide), if_pos rfl, decide_eq_false k1]
              have HM5 := Lib.hid HX.out
              clear HX HV k1
              go_wp2_with fail
              go_ret
              exact ⟨ret_bool (by rw [HM5.out]; rfl), HR.out.1⟩
          · have q2' : ((c : Int) == 108) = false := by simp; omega
            by_cases q3 : c = 100
            · subst q3
              by_cases k1 : xk = 2
              · subst k1
                by_cases k2 : xs.size = 32
                · have k2' : ((xs.size : Int) == 32) = true := by simp; omega
                  obtain rfl : z = true := by rw [HV.out, if_neg (by decide), if_neg (by decide), if_pos rfl, decide_eq_true k2]; rfl
                  have HM5 := Lib.hid HX.out
                  clear HX HV k2
                  go_wp2_with fail
                  go_roundw
                  case rel => exact ⟨i + 1, by omega, by go_num, HR.out.1, HR.out.2.1, by rw [HM5.out]; rfl⟩
                  case measure => simp [intOf]; omega
                · have k2' : ((xs.size : Int) == 32) = false := by simp; omega
                  obtain rfl : z = false := by rw [HV.out, if_neg (by decide), if_neg (by decide), if_pos rfl, decide_eq_false k2]; rfl
                  have HM5 := Lib.hid HX.out
                  clear HX HV k2
                  go_wp2_with fail
                  go_ret
                  exact ⟨ret_bool (by rw [HM5.out]; rfl), HR.out.1⟩
              · have k1' : (xk == 2) = false := by simpa using k1
                obtain rfl : z = false := by rw [HV.out, if_neg (by decide), if_neg (by decide), if_pos rfl, decide_eq_false k1, Bool.and_false]
                have HM5 := Lib.hid HX.out
                clear HX HV k1
                go_wp2_with fail
                go_ret
                exact ⟨ret_bool (by rw [HM5.out]; rfl), HR.out.1⟩
            · have q3' : ((c : Int) == 100) = false := by simp; omega
              by_cases q4 : c = 116
              · subst q4
                by_cases k1 : xk = 2
                · subst k1
                  obtain rfl : z = true := HV.out
                  have HM5 := Lib.hid HX.out
                  clear HX HV
                  go_wp2_with fail
                  go_roundw
                  case rel => exact ⟨i + 1, by omega, by go_num, HR.out.1, HR.out.2.1, by rw [HM5.out]; rfl⟩
                  case measure => simp [intOf]; omega
                · have k1' : (xk == 2) = false := by simpa using k1
                  obtain rfl : z = false := by rw [HV.out, if_neg (by decide), if_neg (by decide), if_neg (by decide), if_pos rfl, decide_eq_false k1]
                  have HM5 := Lib.hid HX.out
                  clear HX HV k1
                  go_wp2_with fail
                  go_ret
                  exact ⟨ret_bool (by rw [HM5.out]; rfl), HR.out.1⟩
              · have q4' : ((c : Int) == 116) = false := by simp; omega
                obtain rfl : z = false := by rw [HV.out, if_neg q1, if_neg q2, if_neg q3, if_neg q4]
                have HM5 := Lib.hid HX.out
                clear HX HV q1 q2 q3 q4
                go_wp2_with fail
                go_ret
                exact ⟨ret_bool (by rw [HM5.out]; rfl), HR.out.1⟩
      · obtain rfl : i = N := by omega
        have hMt : M = true := by
          have h1 : l.drop i = [] := List.drop_eq_nil_of_le (by have := HI.out.2.1; omega)
          have h2 : t.data.toList.drop i = [] := List.drop_eq_nil_of_le (by have := HI.out.2.2; simp; omega)
          rw [HR.out.2.2, h1, h2]; rfl
        have HM2 := Lib.hid hMt
        clear hMt
        have hiT : (i : Int) = t.size := by have := HI.out.2.2; omega
        go_wp2_with fail
        go_ret
        exact ⟨ret_bool HM2.out.symm, HR.out.1⟩
  · have hMf : M = false := by
      rw [hMe]
      by_cases h1 : k = 3
      · rw [fitAll_len (by rw [It.pureAll_length, ← hN, htl]; exact fun h => hg ⟨h1, h⟩), Bool.and_false]
      · rw [decide_eq_false h1, Bool.false_and]
    have HM := Lib.hid hMf
    clear hMf hMe hin hN htl
    by_cases h1 : k = 3
    · subst h1
      have hnt : ((N : Int) == t.size) = false := by simp; intro h; exact hg ⟨rfl, by omega⟩
      clear hg
      go_enter Tryz.func21, Tryz.ntmps21
      go_wp2_with fail
      go_ret
      exact ⟨ret_bool HM.out.symm, hB _⟩
    · have hk3 : (k == 3) = false := by simpa using h1
      clear hg
      go_enter Tryz.func21, Tryz.ntmps21
      go_wp2_with fail
      go_ret
      exact ⟨ret_bool HM.out.symm, hB _⟩
end Go.Proofs.YtgoimggfpagojaaGreatDoor
namespace Go.Proofs.YtgoimggfpagojaaGreatDoor
open Go.RowKit
open Cn

/-- What a Read holds. -/
def rc (k n : Int) (s : ByteArray) (l : Value) (N A E : Int) : Array Value := #[.int .i64 k, .int .i64 n, .string s, l, .int .i64 N, .int .i64 A, .int .i64 E]
def zrd (N A E : Int) : Array Value := rc 0 0 ⟨#[]⟩ (.slice none 0 0) N A E
theorem rc_cells {W : World} {g : Nat} {k n : Int} {s : ByteArray} {l : Value} {N A E : Int} (h : W.heap[g]? = some (.cells (rc k n s l N A E) 68 (0, 0))) :
    W.cell? ⟨g, 0, none⟩ = some (.int .i64 k) ∧ W.cell? ⟨g, 1, none⟩ = some (.int .i64 n) ∧ W.cell? ⟨g, 2, none⟩ = some (.string s) ∧ W.cell? ⟨g, 3, none⟩ = some l ∧ W.cell? ⟨g, 4, none⟩ = some (.int .i64 N) ∧ W.cell? ⟨g, 5, none⟩ = some (.int .i64 A) ∧ W.cell? ⟨g, 6, none⟩ = some (.int .i64 E) ∧ ∀ j, W.frozen? ⟨g, j, none⟩ = false :=
  ⟨by rw [Lib.cell_of_heap h]; rfl, by rw [Lib.cell_of_heap h]; rfl, by rw [Lib.cell_of_heap h]; rfl, by rw [Lib.cell_of_heap h]; rfl, by rw [Lib.cell_of_heap h]; rfl, by rw [Lib.cell_of_heap h]; rfl, by rw [Lib.cell_of_heap h]; rfl, fun j => Lib.frozen_of_heap h j⟩
/-- Seven cells stored over a Read's row. -/
theorem rc_set {W : World} {b : Nat} {cs : Array Value} (h : W.heap[b]? = some (.cells cs 68 (0, 0))) (hs : cs.size = 7) (k n : Int) (s : ByteArray) (l : Value) (N A E : Int) :
    (W.setCells b 0 [.int .i64 k, .int .i64 n, .string s, l, .int .i64 N, .int .i64 A, .int .i64 E]).heap[b]? = some (.cells (rc k n s l N A E) 68 (0, 0)) := by
  obtain ⟨c', h1, h2, h3⟩ := c_heap_setCells b 68 [.int .i64 k, .int .i64 n, .string s, l, .int .i64 N, .int .i64 A, .int .i64 E] 0 W cs h (by simp [hs])
  have : c' = rc k n s l N A E := by
    unfold rc
    refine Array.ext_getElem? fun i => ?_
    rw [h3]
    by_cases hi : i < 7
    · rw [if_pos (by simp; omega)]; simp
    · rw [if_neg (by simp; omega), Array.getElem?_eq_none (by omega), Array.getElem?_eq_none (by simp; omega)]
  rw [← this]
  exact h1
def octV (p : Nat) (l : List UInt8) : Array Value :=
  match oct p l with
  | .error x => zrd 0 0 x
  | .ok (c, _) => zrd c.toNat ((p : Int) + 1) 0
set_option maxRecDepth 100000 in
set_option maxHeartbeats 1000000 in
theorem roctet_any (s : ByteArray) (hs : s.size ≤ maxLen) (p : Nat) (hp : p ≤ 1000000) (w : World) :
    Calls Tryz.prog 68 #[.string s, .int .i64 (p : Int)] w fun e w' => e = .returned (.agg (octV p (s.data.toList.drop p))) ∧ Below w.heap.size w w' := by
  obtain ⟨w1, hw1⟩ : ∃ w1, w1 = w.alloc (.cells (zrd 0 0 0) 68) := ⟨_, rfl⟩
  have hb1 : Below w.heap.size w w1 := by rw [hw1]; exact (Below.refl _ _).alloc (Nat.le_refl _) _
  have hg1 : w1.heap[w.heap.size]? = some (.cells (zrd 0 0 0) 68 (0, 0)) := by rw [hw1]; exact heap_alloc_new _ _
  obtain ⟨q0, q1, q2, q3, q4, q5, q6, f⟩ := rc_cells hg1
  unfold zrd rc at hw1
  obtain ⟨n, hn⟩ : ∃ n, n = s.size := ⟨_, rfl⟩
  have hni : (s.size : Int) = (n : Int) := by omega
  have hnm : n ≤ maxLen := by omega
  have hlen : s.data.toList.length = n := by rw [hn]; simp
  unfold maxLen at hnm
  by_cases h1 : 65536 ≤ p
  · have hV : octV p (s.data.toList.drop p) = zrd 0 0 3 := by unfold octV oct; rw [if_pos h1]
    rw [hV]
    have k1 : decide ((65536 : Int) ≤ (p : Int)) = true := decide_eq_true (by omega)
    have H := Lib.hid hb1
    clear hb1 hg1 hV hlen hn hs
    go_enter Tryz.func68, Tryz.ntmps68
    go_upto_region 1 with fail
    rw [← hw1]
    clear hw1
    go_wp2_with fail
    refine bodyPost_ret (v := .agg (zrd 0 0 3)) (by simp [results, Tryz.results68, go_sem, q0, q1, q2, q3, q4, q5, q6, zrd, rc]) rfl ?_
    exact ⟨rfl, below_setCells w.heap.size (Nat.le_refl _) [.int .i64 0, .int .i64 0, .string ⟨#[]⟩, .slice none 0 0, .int .i64 0, .int .i64 0, .int .i64 3] 0 w1 H.out⟩
  · have k1 : decide ((65536 : Int) ≤ (p : Int)) = false := decide_eq_false (by omega)
    by_cases h2 : n ≤ p
    · have hV : octV p (s.data.toList.drop p) = zrd 0 0 7 := by unfold octV oct; rw [if_neg h1, List.drop_of_length_le (by omega)]
      rw [hV]
      have k2 : decide ((n : Int) ≤ (p : Int)) = true := decide_eq_true (by omega)
      have H := Lib.hid hb1
      clear hb1 hg1 hV hlen hn hs
      go_enter Tryz.func68, Tryz.ntmps68
      go_upto_region 1 with fail
      rw [← hw1]
      clear hw1
      go_wp2_with fail
      refine bodyPost_ret (v := .agg (zrd 0 0 7)) (by simp [results, Tryz.results68, go_sem, q0, q1, q2, q3, q4, q5, q6, zrd, rc]) rfl ?_
      exact ⟨rfl, below_setCells w.heap.size (Nat.le_refl _) [.int .i64 0, .int .i64 0, .string ⟨#[]⟩, .slice none 0 0, .int .i64 0, .int .i64 0, .int .i64 7] 0 w1 H.out⟩
    · have hps : p < s.size := by omega
      have hV : octV p (s.data.toList.drop p) = zrd (s[p].toNat : Int) ((p : Int) + 1) 0 := by
        unfold octV oct
        rw [if_neg h1, List.drop_eq_getElem_cons (by omega)]
        rfl
      rw [hV]
      have k2 : decide ((n : Int) ≤ (p : Int)) = false := decide_eq_false (by omega)
      have hcn := UInt8.toNat_lt s[p]
      have hw : IntKind.i64.wrap (s[p].toNat : Int) = (s[p].toNat : Int) := IntWalk.i64_in _ (by omega)
      have H := Lib.hid hb1
      clear hb1 hg1 hV hlen hs
      go_enter Tryz.func68, Tryz.ntmps68
      go_upto_region 1 with fail
      rw [← hw1]
      clear hw1
      go_wp2_with fail
      refine bodyPost_ret (v := .agg (zrd (s[p].toNat : Int) ((p : Int) + 1) 0)) (by simp [results, Tryz.results68, go_sem, q0, q1, q2, q3, q4, q5, q6, zrd, rc]) rfl ?_
      exact ⟨rfl, below_setCells w.heap.size (Nat.le_refl _) [.int .i64 0, .int .i64 0, .string ⟨#[]⟩, .slice none 0 0, .int .i64 (s[p].toNat : Int), .int .i64 ((p : Int) + 1), .int .i64 0] 0 w1 H.out⟩
theorem oct_err {p : Nat} {l : List UInt8} {x : Int} (h : oct p l = .error x) : x = 3 ∨ x = 7 := by
  unfold oct at h
  split at h
  · left; injection h with h; exact h.symm
  · split at h
    · right; injection h with h; exact h.symm
    · cases h
def numE : Except Int (Nat × Nat × List UInt8) → Array Value
  | .error x => zrd 0 0 x
  | .ok (n, q, _) => zrd n q 0
/-- The world of number: its result's row, and what was read. -/
structure NumW (w : World) (g : Nat) (N A E : Int) (W : World) : Prop where
  below : Below w.heap.size w W
  zero : W.heap[w.heap.size]? = some (.cells (zrd 0 0 0) 68 (0, 0))
  row : W.heap[g]? = some (.cells (zrd N A E) 68 (0, 0))
  gl : w.heap.size < g
theorem NumW.lt {w : World} {g : Nat} {N A E : Int} {W : World} (h : NumW w g N A E W) : g < W.heap.size := lt_of_heap h.row
theorem NumW.call {w : World} {g : Nat} {N A E : Int} {W W' : World} (h : NumW w g N A E W) (hb : Below W.heap.size W W') : NumW w g N A E W' :=
  ⟨h.below.trans (hb.mono h.below.size), (hb.block _ (lt_of_heap h.zero)).trans h.zero, (hb.block _ h.lt).trans h.row, h.gl⟩
theorem NumW.put {w : World} {g : Nat} {N A E : Int} {W : World} (h : NumW w g N A E W) (N' A' E' : Int) :
    NumW w g N' A' E' (W.setCells g 0 [.int .i64 0, .int .i64 0, .string ⟨#[]⟩, .slice none 0 0, .int .i64 N', .int .i64 A', .int .i64 E']) :=
  ⟨below_setCells g (Nat.le_of_lt h.gl) _ 0 _ h.below, (c_heap_setCells_other _ _ (Nat.ne_of_lt h.gl) _ _ _).trans h.zero, rc_set h.row rfl 0 0 _ _ N' A' E', h.gl⟩
set_option maxRecDepth 100000 in
set_option maxHeartbeats 1000000 in
theorem rnumber_any (s : ByteArray) (hs : s.size ≤ maxLen) (p : Nat) (hp : p ≤ 70000) (w : World) :
    Calls Tryz.prog 69 #[.string s, .int .i64 (p : Int)] w fun e w' => e = .returned (.agg (numE (rnum p (s.data.toList.drop p)))) ∧ Below w.heap.size w w' := by
  obtain ⟨w1, hw1⟩ : ∃ w1, w1 = w.alloc (.cells (zrd 0 0 0) 68) := ⟨_, rfl⟩
  have hb1 : Below w.heap.size w w1 := by rw [hw1]; exact (Below.refl _ _).alloc (Nat.le_refl _) _
  have hg1 : w1.heap[w.heap.size]? = some (.cells (zrd 0 0 0) 68 (0, 0)) := by rw [hw1]; exact heap_alloc_new _ _
  unfold zrd rc at hw1
  have ho := roctet_any s hs p (by omega) w1
  have hoj := fun (j : Nat) (hj : j ≤ 7) (W : World) => roctet_any s hs (p + 1 + j) (by omega) W
  have hcj : ∀ j : Nat, ((p + 1 + j : Nat) : Int) = (p : Int) + 1 + (j : Int) := fun j => by omega
  simp only [hcj] at hoj
  obtain ⟨R, hR⟩ : ∃ R, R = rnum p (s.data.toList.drop p) := ⟨_, rfl⟩
  rw [← hR]
  unfold rnum at hR
  unfold octV at ho
  have hpi : (p : Int) ≤ 70000 := by omega
  cases hO : oct p (s.data.toList.drop p) with
  | error x =>
    rw [hO] at hR ho
    simp only at hR ho
    have hE : numE R = zrd 0 0 x := by rw [hR]; rfl
    have hx := oct_err hO
    have hx0 : (x != 0) = true := by rcases hx with rfl | rfl <;> rfl
    have H := Lib.hid (And.intro ho (And.intro hb1 hg1))
    have HE := Lib.hid hE
    clear ho hb1 hg1 hR hE hO hs hoj hcj hx
    go_enter Tryz.func69, Tryz.ntmps69
    go_upto_region 1 with fail
    rw [← hw1]
    clear hw1
    go_wp2_with fail
    refine H.out.1.mono ?_
    rintro e w2 ⟨rfl, hb⟩
    have hz1 := lt_of_heap H.out.2.2
    obtain ⟨w3, hw3⟩ : ∃ w3, w3 = w2.alloc (.cells (zrd 0 0 x) 68) := ⟨_, rfl⟩
    have hb2 := H.out.2.1.trans (hb.mono H.out.2.1.size)
    have hb3 : Below w2.heap.size w2 w3 := by rw [hw3]; exact (Below.refl _ _).alloc (Nat.le_refl _) _
    have hg3 : w3.heap[w2.heap.size]? = some (.cells (zrd 0 0 x) 68 (0, 0)) := by rw [hw3]; exact heap_alloc_new _ _
    have hg2 := (hb3.block w.heap.size (Nat.lt_of_lt_of_le hz1 hb.size)).trans ((hb.block _ hz1).trans H.out.2.2)
    obtain ⟨q0, q1, q2, q3, q4, q5, q6, f⟩ := rc_cells hg2
    obtain ⟨r0, r1, r2, r3, r4, r5, r6, fr⟩ := rc_cells hg3
    have HB := Lib.hid (hb2.trans (hb3.mono hb2.size))
    clear hb hb2 hb3 hg2 hg3 hz1
    unfold zrd rc at hw3
    simp only [zrd, rc]
    go_upto_region 2 with fail
    rw [← hw3]
    clear hw3
    go_wp2_with fail
    refine bodyPost_ret (v := .agg (zrd (0) (0) (x))) (by simp [results, Tryz.results69, go_sem, q0, q1, q2, q3, q4, q5, q6, zrd, rc]) rfl ?_
    exact ⟨by rw [HE.out], below_setCells w.heap.size (Nat.le_refl _) [.int .i64 0, .int .i64 0, .string ⟨#[]⟩, .slice none 0 0, .int .i64 (0), .int .i64 (0), .int .i64 (x)] 0 _ HB.out⟩
  | ok cr =>
    obtain ⟨c, l'⟩ := cr
    rw [hO] at hR ho
    simp only at hR ho
    obtain ⟨hp6, hdr⟩ := oct_ok.1 hO
    have hl' : l' = s.data.toList.drop (p + 1) := by
      have := congrArg List.tail hdr
      rw [List.tail_drop] at this
      exact this.symm
    obtain ⟨k, hk⟩ : ∃ k, k = c.toNat := ⟨_, rfl⟩
    have hk8 : k < 256 := by rw [hk]; exact UInt8.toNat_lt c
    rw [← hk] at hR ho
    rw [hl'] at hR
    obtain ⟨L, hL⟩ : ∃ L : Nat → List UInt8, L = fun i => s.data.toList.drop i := ⟨_, rfl⟩
    have hLi : ∀ i, s.data.toList.drop i = L i := fun i => by rw [hL]
    have hLt : ∀ i c l, L i = c :: l → l = L (i + 1) := fun i c l h => by
      rw [← hLi] at h ⊢
      have := congrArg List.tail h
      rw [List.tail_drop] at this
      exact this.symm
    simp only [hLi] at hR hoj
    have H := Lib.hid (And.intro ho (And.intro hb1 (And.intro hg1 (And.intro hoj hLt))))
    have hki : (k : Int) < 256 := by omega
    clear ho hb1 hg1 hO hs hoj hcj hl' hdr hk hL hLi hLt
    go_enter Tryz.func69, Tryz.ntmps69
    go_upto_region 1 with fail
    rw [← hw1]
    clear hw1
    go_wp2_with fail
    refine H.out.1.mono ?_
    rintro e w2 ⟨rfl, hb⟩
    have hz1 := lt_of_heap H.out.2.2.1
    obtain ⟨w3, hw3⟩ : ∃ w3, w3 = w2.alloc (.cells (zrd (k : Int) ((p : Int) + 1) 0) 68) := ⟨_, rfl⟩
    have hb2 := H.out.2.1.trans (hb.mono H.out.2.1.size)
    have hb3 : Below w2.heap.size w2 w3 := by rw [hw3]; exact (Below.refl _ _).alloc (Nat.le_refl _) _
    have hg3 : w3.heap[w2.heap.size]? = some (.cells (zrd (k : Int) ((p : Int) + 1) 0) 68 (0, 0)) := by rw [hw3]; exact heap_alloc_new _ _
    have hg2 := (hb3.block w.heap.size (Nat.lt_of_lt_of_le hz1 hb.size)).trans ((hb.block _ hz1).trans H.out.2.2.1)
    have N3 : NumW w w2.heap.size (k : Int) ((p : Int) + 1) 0 w3 := ⟨hb2.trans (hb3.mono hb2.size), hg2, hg3, Nat.lt_of_lt_of_le hz1 hb.size⟩
    clear hb hb2 hb3 hg2 hg3 hz1
    unfold zrd rc at hw3
    simp only [zrd, rc]
    go_upto_region 2 with fail
    rw [← hw3]
    clear hw3
    generalize w2.heap.size = g at *
    obtain ⟨r0, r1, r2, r3, r4, r5, r6, fr⟩ := rc_cells N3.row
    by_cases h7 : (7 : Int) < (k : Int)
    · have h7' : decide ((7 : Int) < (k : Int)) = true := decide_eq_true h7
      rw [if_pos (by omega)] at hR
      have HE := Lib.hid (show numE R = zrd 0 0 3 by rw [hR]; rfl)
      obtain ⟨q0, q1, q2, q3, q4, q5, q6, f⟩ := rc_cells N3.zero
      have HB := Lib.hid N3.below
      clear N3 hR
      go_wp2_with fail
      refine bodyPost_ret (v := .agg (zrd (0) (0) (3))) (by simp [results, Tryz.results69, go_sem, q0, q1, q2, q3, q4, q5, q6, zrd, rc]) rfl ?_
      exact ⟨by rw [HE.out], below_setCells w.heap.size (Nat.le_refl _) [.int .i64 0, .int .i64 0, .string ⟨#[]⟩, .slice none 0 0, .int .i64 (0), .int .i64 (0), .int .i64 (3)] 0 w3 HB.out⟩
    have h7' : decide ((7 : Int) < (k : Int)) = false := decide_eq_false h7
    have hk7 : k ≤ 7 := by omega
    rw [if_neg (by omega)] at hR
    have HR := Lib.hid hR
    have HN := Lib.hid N3
    clear hR N3
    go_wp2_with fail
    clear r0 r1 r2 r3 r4 r5 r6 fr
    go_loopw [7, 8] (fun a i wr => ∃ (j acc : Nat) (N A E : Int), j ≤ k ∧ i = .int .i64 (j : Int) ∧ a = .int .i64 (acc : Int) ∧ acc < 256 ^ j ∧ rdig k true 0 (p + 1) (L (p + 1)) = rdig (k - j) (decide (j = 0)) acc (p + 1 + j) (L (p + 1 + j)) ∧ NumW w g N A E wr) (fun _ i _ => k - (intOf i).toNat)
    case atStart => exact ⟨0, 0, _, _, _, by omega, rfl, rfl, by decide, rfl, HN.out⟩
    case round =>
      obtain ⟨j, acc, N, A, E, hj, rfl, rfl, hacc, hrd, hN⟩ := hrel
      by_cases hlt : j < k
      · obtain ⟨t, ht⟩ : ∃ t, k - j = t + 1 := ⟨k - j - 1, by omega⟩
        rw [ht] at hrd
        have ho2 := H.out.2.2.2.1 j (by omega) wr
        unfold octV at ho2
        rw [rdig] at hrd
        have hji : (j : Int) ≤ 7 := by omega
        have h256 : acc < 281474976710656 := Nat.lt_of_lt_of_le hacc (Nat.le_trans (Nat.pow_le_pow_right (by decide) (by omega : j ≤ 6)) (by decide))
        cases hO2 : oct (p + 1 + j) (L (p + 1 + j)) with
        | error x =>
          rw [hO2] at ho2 hrd
          simp only at ho2 hrd
          have hx0 : (x != 0) = true := by rcases oct_err hO2 with rfl | rfl <;> rfl
          have HE := Lib.hid (show numE R = zrd 0 0 x by rw [HR.out, hrd]; rfl)
          have HN2 := Lib.hid (And.intro hN ho2)
          clear hrd hO2 hN ho2 hacc
          go_wp2_with fail
          refine HN2.out.2.mono ?_
          rintro e w4 ⟨rfl, hb4⟩
          have N4 := HN2.out.1.call hb4
          clear hb4
          obtain ⟨r0, r1, r2, r3, r4, r5, r6, fr⟩ := rc_cells N4.row
          simp only [zrd, rc]
          go_upto_region 12 with fail
          have hW5 : (((((((w4.setCell ⟨g, 0, none⟩ (.int .i64 0)).setCell ⟨g, 1, none⟩ (.int .i64 0)).setCell ⟨g, 2, none⟩ (.string ⟨#[]⟩)).setCell ⟨g, 3, none⟩ (.slice none 0 0)).setCell ⟨g, 4, none⟩ (.int .i64 (0))).setCell ⟨g, 5, none⟩ (.int .i64 (0))).setCell ⟨g, 6, none⟩ (.int .i64 (x))) = w4.setCells g 0 [.int .i64 0, .int .i64 0, .string ⟨#[]⟩, .slice none 0 0, .int .i64 (0), .int .i64 (0), .int .i64 (x)] := rfl
          rw [hW5]
          clear hW5 r0 r1 r2 r3 r4 r5 r6 fr
          have N5 := N4.put (0) (0) (x)
          generalize World.setCells _ _ _ _ = w5 at *
          obtain ⟨r0, r1, r2, r3, r4, r5, r6, fr⟩ := rc_cells N5.row
          obtain ⟨q0, q1, q2, q3, q4, q5, q6, f⟩ := rc_cells N5.zero
          have HB := Lib.hid N5.below
          clear N4 N5
          go_wp2_with fail
          refine bodyPost_ret (v := .agg (zrd (0) (0) (x))) (by simp [results, Tryz.results69, go_sem, q0, q1, q2, q3, q4, q5, q6, zrd, rc]) rfl ?_
          exact ⟨by rw [HE.out], below_setCells w.heap.size (Nat.le_refl _) [.int .i64 0, .int .i64 0, .string ⟨#[]⟩, .slice none 0 0, .int .i64 (0), .int .i64 (0), .int .i64 (x)] 0 w5 HB.out⟩
        | ok cl =>
          obtain ⟨c2, l2⟩ := cl
          rw [hO2] at ho2 hrd
          simp only at ho2 hrd
          obtain ⟨hp7, hd2⟩ := oct_ok.1 hO2
          have hl2 := H.out.2.2.2.2 _ _ _ hd2
          obtain ⟨m, hm⟩ : ∃ m, m = c2.toNat := ⟨_, rfl⟩
          have hm8 : m < 256 := by rw [hm]; exact UInt8.toNat_lt c2
          rw [← hm] at hrd ho2
          rw [hl2] at hrd
          rw [show ((p + 1 + j : Nat) : Int) = (p : Int) + 1 + (j : Int) by omega] at ho2
          have HN2 := Lib.hid (And.intro hN ho2)
          clear hO2 hN ho2 hd2 hl2 hm hp7
          have hmi : (m : Int) < 256 := by omega
          have hai : (acc : Int) < 281474976710656 := by omega
          go_wp2_with fail
          refine HN2.out.2.mono ?_
          rintro e w4 ⟨rfl, hb4⟩
          have N4 := HN2.out.1.call hb4
          clear hb4
          obtain ⟨r0, r1, r2, r3, r4, r5, r6, fr⟩ := rc_cells N4.row
          simp only [zrd, rc]
          go_upto_region 12 with fail
          have hW5 : (((((((w4.setCell ⟨g, 0, none⟩ (.int .i64 0)).setCell ⟨g, 1, none⟩ (.int .i64 0)).setCell ⟨g, 2, none⟩ (.string ⟨#[]⟩)).setCell ⟨g, 3, none⟩ (.slice none 0 0)).setCell ⟨g, 4, none⟩ (.int .i64 ((m : Int)))).setCell ⟨g, 5, none⟩ (.int .i64 ((p : Int) + 1 + (j : Int) + 1))).setCell ⟨g, 6, none⟩ (.int .i64 (0))) = w4.setCells g 0 [.int .i64 0, .int .i64 0, .string ⟨#[]⟩, .slice none 0 0, .int .i64 ((m : Int)), .int .i64 ((p : Int) + 1 + (j : Int) + 1), .int .i64 (0)] := rfl
          rw [hW5]
          clear hW5 r0 r1 r2 r3 r4 r5 r6 fr
          have N5 := N4.put ((m : Int)) ((p : Int) + 1 + (j : Int) + 1) (0)
          generalize World.setCells _ _ _ _ = w5 at *
          obtain ⟨r0, r1, r2, r3, r4, r5, r6, fr⟩ := rc_cells N5.row
          obtain ⟨q0, q1, q2, q3, q4, q5, q6, f⟩ := rc_cells N5.zero
          by_cases hz : j = 0 ∧ m = 0
          · have hj0 : ((j : Int) == 0) = true := by rw [hz.1]; rfl
            have hm0 : ((m : Int) == 0) = true := by rw [hz.2]; rfl
            rw [if_pos ⟨decide_eq_true hz.1, hz.2⟩] at hrd
            have HE := Lib.hid (show numE R = zrd 0 0 3 by rw [HR.out, hrd]; rfl)
            have HB := Lib.hid N5.below
            clear N4 N5 hrd hacc hz
            go_wp2_with fail
            refine bodyPost_ret (v := .agg (zrd (0) (0) (3))) (by simp [results, Tryz.results69, go_sem, q0, q1, q2, q3, q4, q5, q6, zrd, rc]) rfl ?_
            exact ⟨by rw [HE.out], below_setCells w.heap.size (Nat.le_refl _) [.int .i64 0, .int .i64 0, .string ⟨#[]⟩, .slice none 0 0, .int .i64 (0), .int .i64 (0), .int .i64 (3)] 0 w5 HB.out⟩
          · rw [if_neg (fun e => hz ⟨of_decide_eq_true e.1, e.2⟩)] at hrd
            obtain ⟨M, hM⟩ : ∃ M, M = 256 * acc := ⟨_, rfl⟩
            have hMi : IntKind.i64.wrap (256 * (acc : Int)) = (M : Int) := by rw [IntWalk.i64_in _ (by omega), hM]; omega
            obtain ⟨B, hB⟩ : ∃ B, B = acc * 256 + m := ⟨_, rfl⟩
            have hBi : IntKind.i64.wrap ((M : Int) + (m : Int)) = (B : Int) := by rw [IntWalk.i64_in _ (by omega), hB, hM]; omega
            have hB2 : B < 256 ^ (j + 1) := by
              rw [Nat.pow_succ, hB]
              have : acc * 256 + 256 ≤ 256 ^ j * 256 := by
                have := Nat.mul_le_mul_right 256 hacc
                rw [Nat.succ_mul] at this
                exact this
              omega
            rw [← hB] at hrd
            have hrd2 : rdig k true 0 (p + 1) (L (p + 1)) = rdig (k - (j + 1)) (decide (j + 1 = 0)) B (p + 1 + (j + 1)) (L (p + 1 + (j + 1))) := by
              rw [hrd, show k - (j + 1) = t by omega]; rfl
            have HN5 := Lib.hid (And.intro N5 (And.intro hrd2 hB2))
            have hd : ((j : Int) == 0) = true ∧ ((m : Int) == 0) = false ∨ ((j : Int) == 0) = false := by
              by_cases h0 : j = 0
              · left
                refine ⟨by rw [h0]; rfl, ?_⟩
                rw [beq_eq_false_iff_ne]
                have : m ≠ 0 := fun e => hz ⟨h0, e⟩
                omega
              · right
                rw [beq_eq_false_iff_ne]; omega
            clear N4 N5 hrd hrd2 hB2 hacc hz hM hB
            rcases hd with ⟨hj0, hm0⟩ | hj0
            · go_wp2_with fail
              go_roundw
              case rel => exact ⟨j + 1, B, _, _, _, by omega, by go_num, rfl, HN5.out.2.2, HN5.out.2.1, HN5.out.1⟩
              case measure => simp [intOf]; omega
            · go_wp2_with fail
              go_roundw
              case rel => exact ⟨j + 1, B, _, _, _, by omega, by go_num, rfl, HN5.out.2.2, HN5.out.2.1, HN5.out.1⟩
              case measure => simp [intOf]; omega
      · obtain rfl : j = k := by omega
        rw [Nat.sub_self, rdig] at hrd
        have HE := Lib.hid (show numE R = zrd (acc : Int) ((p : Int) + 1 + (j : Int)) 0 by
          rw [HR.out, hrd]
          show zrd (acc : Int) ((p + 1 + j : Nat) : Int) 0 = _
          congr 1)
        obtain ⟨q0, q1, q2, q3, q4, q5, q6, f⟩ := rc_cells hN.zero
        have HB := Lib.hid hN.below
        clear hN hrd hacc
        go_wp2_with fail
        refine bodyPost_ret (v := .agg (zrd ((acc : Int)) ((p : Int) + 1 + (j : Int)) (0))) (by simp [results, Tryz.results69, go_sem, q0, q1, q2, q3, q4, q5, q6, zrd, rc]) rfl ?_
        exact ⟨by rw [HE.out], below_setCells w.heap.size (Nat.le_refl _) [.int .i64 0, .int .i64 0, .string ⟨#[]⟩, .slice none 0 0, .int .i64 ((acc : Int)), .int .i64 ((p : Int) + 1 + (j : Int)), .int .i64 (0)] 0 wr HB.out⟩
end Go.Proofs.YtgoimggfpagojaaGreatDoor
namespace Go.Proofs.YtgoimggfpagojaaGreatDoor
open Go.RowKit
open Cn

/-- What was read ahead of the rest. -/
theorem rcomb_step {f : Nat → List UInt8 → Except Int (Pt × Nat × List UInt8)} {done : List Pt} {n p : Nat} {l : List UInt8} {x : Pt} {p' : Nat} {l' : List UInt8} (h : f p l = .ok (x, p', l')) :
    comb done (ritems f (n + 1) p l) = comb (done ++ [x]) (ritems f n p' l') := by
  rw [ritems, h]
  simp only
  cases ritems f n p' l' with
  | error e => rfl
  | ok y => obtain ⟨ys, q, r⟩ := y; simp [comb]
theorem rcomb_err {f : Nat → List UInt8 → Except Int (Pt × Nat × List UInt8)} {done : List Pt} {n p : Nat} {l : List UInt8} {x : Int} (h : f p l = .error x) :
    comb done (ritems f (n + 1) p l) = .error x := by
  rw [ritems, h]; rfl
/-- The item that item hands back, or the error. -/
def RItP (w : World) (R : Except Int (Pt × Nat × List UInt8)) (e : Ending) (w' : World) : Prop :=
  Below w.heap.size w w' ∧ match R with
    | .error x => (x = 3 ∨ x = 7) ∧ ∃ k : Int, e = .returned (.agg (rc k 0 ⟨#[]⟩ (.slice none 0 0) 0 0 x))
    | .ok (x, q, _) => ∃ (it : It) (N : Int), it.pure = x ∧ e = .returned (.agg (rc it.k it.n it.s it.lv N q 0)) ∧ it.In w' (w.heap.size ≤ ·)
theorem RItP.err {w w' : World} {R : Except Int (Pt × Nat × List UInt8)} {x k : Int} (hR : R = .error x) (hx : x = 3 ∨ x = 7) (hb : Below w.heap.size w w') : RItP w R (.returned (.agg (rc k 0 ⟨#[]⟩ (.slice none 0 0) 0 0 x))) w' := by
  rw [hR]; exact ⟨hb, hx, k, rfl⟩
theorem rdig_err : ∀ k f acc p l x, rdig k f acc p l = .error x → x = 3 ∨ x = 7
  | 0, f, acc, p, l, x, h => by cases h
  | k + 1, f, acc, p, l, x, h => by
    rw [rdig] at h
    split at h
    · rename_i e ho
      injection h with h
      subst h
      exact oct_err ho
    · split at h
      · left; injection h with h; exact h.symm
      · exact rdig_err k _ _ _ _ x h
theorem rnum_err {p : Nat} {l : List UInt8} {x : Int} (h : rnum p l = .error x) : x = 3 ∨ x = 7 := by
  unfold rnum at h
  split at h
  · rename_i e ho
    injection h with h
    subst h
    exact oct_err ho
  · split at h
    · left; injection h with h; exact h.symm
    · split at h
      · rename_i e hd
        injection h with h
        subst h
        exact rdig_err _ _ _ _ _ _ hd
      · cases h
theorem rest_drop {l : List UInt8} {p n q : Nat} {a r : List UInt8} (h : l.drop p = a ++ r) (hn : a.length = n) (hq : q = p + n) : r = l.drop q := by
  subst hn hq
  have := congrArg (List.drop a.length) h
  rw [List.drop_drop, List.drop_left] at this
  exact this.symm
/-- Four cells stored over a Read's item. -/
theorem rc_set4 {W : World} {b : Nat} {k n : Int} {s : ByteArray} {l : Value} {N A E : Int} (h : W.heap[b]? = some (.cells (rc k n s l N A E) 68 (0, 0))) (k' n' : Int) (s' : ByteArray) (l' : Value) :
    (W.setCells b 0 [.int .i64 k', .int .i64 n', .string s', l']).heap[b]? = some (.cells (rc k' n' s' l' N A E) 68 (0, 0)) := by
  obtain ⟨c', h1, h2, h3⟩ := c_heap_setCells b 68 [.int .i64 k', .int .i64 n', .string s', l'] 0 W (rc k n s l N A E) h (by simp [rc])
  have : c' = rc k' n' s' l' N A E := by
    refine Array.ext_getElem? fun i => ?_
    rw [h3]
    unfold rc
    rcases (by omega : i = 0 ∨ i = 1 ∨ i = 2 ∨ i = 3 ∨ i = 4 ∨ i = 5 ∨ i = 6 ∨ 7 ≤ i) with rfl | rfl | rfl | rfl | rfl | rfl | rfl | hi
    all_goals try rfl
    rw [if_neg (by simp; omega), Array.getElem?_eq_none (by simp; omega), Array.getElem?_eq_none (by simp; omega)]
  rw [← this]
  exact h1
theorem info_rit : (Tryz.prog.info? 45).map (fun i => (i.zero, i.size, i.bytes)) = some (some (.agg #[.int .i64 0, .int .i64 0, .string ⟨#[]⟩, .slice none 0 0]), 4, 56) := by kernel_rfl
/-- A list in the making: i of n items are read; its boxes lie below B. -/
structure RList (L : Nat → List UInt8) (w : World) (g2 g3 B n d q0 : Nat) (A : Int) (i : Nat) (xs : List It) (a : Option Addr) (cap q : Nat) (wr : World) : Prop where
  below : Below w.heap.size w wr
  zero : wr.heap[w.heap.size]? = some (.cells (zrd 0 0 0) 68 (0, 0))
  row2 : wr.heap[g2]? = some (.cells (zrd n A 0) 68 (0, 0))
  row3 : wr.heap[g3]? = some (.cells #[.int .i64 3, .int .i64 0, .string ⟨#[]⟩, .slice a i cap] 45 (0, 0))
  gl : w.heap.size < g2 ∧ g2 < g3 ∧ g3 < B
  len : xs.length = i
  own : wr.ownsRow 0 45 4 (.slice a i cap) i (flat xs)
  ownB : ∀ g, (Value.slice a i cap).ownBlock = some g → B ≤ g
  all : It.InAll wr (fun b => B ≤ b ∧ (Value.slice a i cap).ownBlock ≠ some b) xs
  big : B ≤ wr.heap.size
  rest : ritems (ritem d) n q0 (L q0) = comb (It.pureAll xs) (ritems (ritem d) (n - i) q (L q))
  place : q ≤ 65536
section
variable {L : Nat → List UInt8} {w : World} {g2 g3 B n d q0 : Nat} {A : Int} {i : Nat} {xs : List It} {a : Option Addr} {cap q : Nat} {wr : World}
theorem RList.call {w' : World} (h : RList L w g2 g3 B n d q0 A i xs a cap q wr) (hb : Below wr.heap.size wr w') : RList L w g2 g3 B n d q0 A i xs a cap q w' :=
  ⟨h.below.trans (hb.mono h.below.size), (hb.block _ (lt_of_heap h.zero)).trans h.zero, (hb.block _ (lt_of_heap h.row2)).trans h.row2, (hb.block _ (lt_of_heap h.row3)).trans h.row3, h.gl, h.len,
    h.own.kept (w' := w') (row := none) ⟨hb.os, hb.tape, hb.output, hb.size, fun k hk _ => hb.block k hk⟩ (by cases h : (Value.slice a i cap).ownBlock <;> simp), h.ownB,
    It.InAll.kept (keptS_any hb) _ h.all, Nat.le_trans h.big hb.size, h.rest, h.place⟩
theorem RList.ownlt (h : RList L w g2 g3 B n d q0 A i xs a cap q wr) : ∀ b, (Value.slice a i cap).ownBlock = some b → B ≤ b ∧ b < wr.heap.size := fun b hb => ⟨h.ownB b hb, (h.own.lt b hb).2⟩
theorem RList.next {w6 w7 : World} {it : It} {g' cap' q' : Nat} (h : RList L w g2 g3 B n d q0 A i xs a cap q wr) (hi : i < n) (h4 : Below wr.heap.size wr w6) (hit : it.In w6 (wr.heap.size ≤ ·))
    (hown : w7.ownsRow 0 45 4 (.slice (some ⟨g', 0, none⟩) (i + 1) cap') (i + 1) (flat xs ++ it.cells.toList)) (hgr : w6.grownBy w7 (Value.slice a i cap).ownBlock)
    (hat : (Value.slice a i cap).ownBlock = some g' ∨ g' = w6.heap.size) (hr : ritem d q (L q) = .ok (it.pure, q', L q')) (hq : q' ≤ 65536) :
    RList L w g2 g3 B n d q0 A (i + 1) (xs ++ [it]) (some ⟨g', 0, none⟩) cap' q' (w7.setCell ⟨g3, 3, none⟩ (.slice (some ⟨g', 0, none⟩) (i + 1) cap')) := by
  have hob := h.ownlt
  have l0 := lt_of_heap h.zero
  have l2 := lt_of_heap h.row2
  have l3 := lt_of_heap h.row3
  have gl := h.gl
  have bg := h.big
  have s4 := h4.size
  have s7 := hgr.size
  have hg' : B ≤ g' := by
    rcases hat with e | e
    · exact (hob g' e).1
    · omega
  have keep : ∀ b, b < w6.heap.size → (Value.slice a i cap).ownBlock ≠ some b → w7.heap[b]? = w6.heap[b]? := fun b hb hne => hgr.block b hb (fun e => hne e.symm)
  have low : ∀ b, b < B → b < wr.heap.size → w7.heap[b]? = wr.heap[b]? := fun b hb hl => by
    rw [keep b (by omega) (fun e => by have := hob b e; omega), h4.block b hl]
  have set' : ∀ b, b ≠ g3 → (w7.setCell ⟨g3, 3, none⟩ (.slice (some ⟨g', 0, none⟩) (i + 1) cap')).heap[b]? = w7.heap[b]? := fun b hb => heap_setCell_other _ _ _ _ hb
  have ss : (w7.setCell ⟨g3, 3, none⟩ (.slice (some ⟨g', 0, none⟩) (i + 1) cap')).heap.size = w7.heap.size := by simp [World.setCell]
  exact {
    below := ((h.below.trans (h4.mono h.below.size)).grown hgr (by have := h.below.size; omega) (fun b hb => by have := hob b hb; omega)).setCell (p := ⟨g3, 3, none⟩) (by show w.heap.size ≤ g3; omega) _
    zero := by rw [set' _ (by omega), low _ (by omega) l0]; exact h.zero
    row2 := by rw [set' _ (by omega), low _ (by omega) l2]; exact h.row2
    row3 := by
      have h1 : w7.heap[g3]? = some (.cells #[.int .i64 3, .int .i64 0, .string ⟨#[]⟩, .slice a i cap] 45 (0, 0)) := (low _ (by omega) l3).trans h.row3
      rw [heap_setCell_same _ _ _ _ _ _ h1]
      rfl
    gl := gl
    len := by simp [h.len]
    own := by
      rw [flat_append]
      have h1 := hown.kept (w' := w7.setCell ⟨g3, 3, none⟩ (.slice (some ⟨g', 0, none⟩) (i + 1) cap')) (row := some g3) ⟨rfl, rfl, rfl, by rw [ss]; exact Nat.le_refl _, fun b _ hb => set' b (fun e => hb (by rw [e]))⟩ (Or.inr (fun e => by
        have h3 : g' = g3 := Option.some.inj e
        omega))
      simpa [flat] using h1
    ownB := fun b hb => by
      have : g' = b := by simpa [Value.ownBlock] using hb
      omega
    all := by
      refine It.inAll_of fun y hy => ?_
      rcases List.mem_append.1 hy with hy | hy
      · have e1 : ∀ b, (Value.slice a i cap).ownBlock ≠ some b → b < wr.heap.size → (Value.slice (some ⟨g', 0, none⟩) (i + 1) cap').ownBlock ≠ some b := fun b hb hlt e2 => by
          have h3 : g' = b := Option.some.inj e2
          rcases hat with e | e
          · exact hb (by rw [e, h3])
          · omega
        exact It.In.kept (S := fun b => B ≤ b ∧ (Value.slice a i cap).ownBlock ≠ some b) (w := wr) ⟨fun b hb hlt => ⟨⟨hb.1, e1 b hb.2 hlt⟩, by rw [set' b (by have := hb.1; omega), keep b (by omega) hb.2, h4.block b hlt]⟩, by omega⟩ y (It.inAll_mem h.all y hy)
      · obtain rfl := List.mem_singleton.1 hy
        have e1 : ∀ b, wr.heap.size ≤ b → b < w6.heap.size → (Value.slice (some ⟨g', 0, none⟩) (i + 1) cap').ownBlock ≠ some b := fun b hb hlt e2 => by
          have h3 : g' = b := Option.some.inj e2
          rcases hat with e | e
          · have := hob g' e; omega
          · omega
        exact It.In.kept (S := (wr.heap.size ≤ ·)) (w := w6) ⟨fun b hb hlt => ⟨⟨by have : wr.heap.size ≤ b := hb; omega, e1 b hb hlt⟩, by rw [set' b (by have : wr.heap.size ≤ b := hb; omega), keep b hlt (fun e => by have := hob b e; have : wr.heap.size ≤ b := hb; omega)]⟩, by omega⟩ _ hit
    big := by omega
    rest := by
      have h1 : n - i = n - (i + 1) + 1 := by omega
      rw [h.rest, h1, rcomb_step hr, It.pureAll_eq, It.pureAll_eq, List.map_append]; rfl
    place := hq }
theorem RList.err {x : Int} (h : RList L w g2 g3 B n d q0 A i xs a cap q wr) (hi : i < n) (hr : ritem d q (L q) = .error x) : ritems (ritem d) n q0 (L q0) = .error x := by
  have h1 : n - i = n - (i + 1) + 1 := by omega
  rw [h.rest, h1, rcomb_err hr]
/-- The end: the list is read. -/
theorem RList.done {R : Except Int (Pt × Nat × List UInt8)} (h : RList L w g2 g3 B n d q0 A n xs a cap q wr) (hn : n ≤ maxLen)
    (hR : R = match ritems (ritem d) n q0 (L q0) with | .error e => .error e | .ok (xs, q', r') => .ok (.mk 3 0 ⟨#[]⟩ xs, q', r')) :
    RItP w R (.returned (.agg (rc 3 0 ⟨#[]⟩ (.slice a n cap) 0 q 0))) (wr.setCells w.heap.size 0 [.int .i64 3, .int .i64 0, .string ⟨#[]⟩, .slice a n cap, .int .i64 0, .int .i64 q, .int .i64 0]) := by
  have hob := h.ownlt
  have gl := h.gl
  have hr := h.rest
  rw [Nat.sub_self, ritems] at hr
  rw [hR, hr]
  have hk : KeptS (fun b => B ≤ b ∧ (Value.slice a n cap).ownBlock ≠ some b) (w.heap.size ≤ ·) wr (wr.setCells w.heap.size 0 [.int .i64 3, .int .i64 0, .string ⟨#[]⟩, .slice a n cap, .int .i64 0, .int .i64 q, .int .i64 0]) :=
    ⟨fun b hb _ => ⟨by have := hb.1; omega, c_heap_setCells_other _ _ (by have := hb.1; omega) _ _ _⟩, by rw [c_size_setCells]; exact Nat.le_refl _⟩
  refine ⟨below_setCells _ (Nat.le_refl _) _ _ _ h.below, .mk 3 0 ⟨#[]⟩ a cap xs, 0, ?_, ?_, ⟨Nat.zero_le _, ⟨by rw [h.len]; exact hn, fun hne => ?_⟩, It.InAll.kept hk _ h.all⟩⟩
  · rw [It.pure_eq]; show Pt.mk 3 0 ⟨#[]⟩ (It.pureAll xs) = _; rw [List.append_nil]
  · simp only [It.lv, It.k, It.n, It.s, It.a, It.l, It.cap, h.len]
  · rcases h.own.2 with ⟨_, h0⟩ | ⟨g1, cap1, cur, hv, hb, hg, hnc, hcm, hcs, htk⟩
    · exact absurd (List.eq_nil_of_length_eq_zero (by have := h.len; omega)) hne
    · injection hv with e1 e2 e3
      subst e1
      have hgB := h.ownB g1 rfl
      refine ⟨g1, 0, rfl, by rw [c_size_setCells]; exact lt_of_heap hg, by show w.heap.size ≤ g1; omega, ?_⟩
      have hsame : (wr.setCells w.heap.size 0 [.int .i64 3, .int .i64 0, .string ⟨#[]⟩, .slice (some ⟨g1, 0, none⟩) n cap, .int .i64 0, .int .i64 q, .int .i64 0]).heap[g1]? = wr.heap[g1]? := c_heap_setCells_other _ _ (by omega) _ _ _
      refine RowAt.same (w := wr) (fun j x hx => ?_) hsame
      have hc : ∀ m u, m < 4 → x.cells[m]? = some u → wr.cell? ⟨g1, 0 + j * 4 + m, none⟩ = some u := fun m u hm hu => by
        have := h.own.cells (g := g1) rfl (j * 4 + m) u (by rw [flat_get xs j x m hx hm]; exact hu)
        rw [Nat.zero_add]
        rwa [show (⟨g1, 0, none⟩ : Addr).add (j * 4 + m) = ⟨g1, j * 4 + m, none⟩ by unfold Addr.add; split <;> simp_all] at this
      exact ⟨hc 0 _ (by decide) rfl, hc 1 _ (by decide) rfl, hc 2 _ (by decide) rfl, hc 3 _ (by decide) rfl⟩
end
end Go.Proofs.YtgoimggfpagojaaGreatDoor
namespace Go.Proofs.YtgoimggfpagojaaGreatDoor
open Go.RowKit
open Cn

/-- item, where so many lists may stand. -/
def RItSo (s : ByteArray) (d : Nat) : Prop := ∀ (p : Nat) (w : World), p ≤ 65536 → Calls Tryz.prog 49 #[.string s, .int .i64 (p : Int), .int .i64 (6 - (d : Int))] w (RItP w (ritem d p (s.data.toList.drop p)))
set_option maxRecDepth 100000 in
set_option maxHeartbeats 1000000 in
theorem ritem_none (s : ByteArray) (hs : s.size ≤ maxLen) (d : Nat) (p : Nat) (w : World) (hp : p ≤ 65536) {x : Int} (hO : oct p (s.data.toList.drop p) = .error x) :
    Calls Tryz.prog 49 #[.string s, .int .i64 (p : Int), .int .i64 (6 - (d : Int))] w (RItP w (ritem d p (s.data.toList.drop p))) := by
  obtain ⟨w1, hw1⟩ : ∃ w1, w1 = w.alloc (.cells (zrd 0 0 0) 68) := ⟨_, rfl⟩
  have hb1 : Below w.heap.size w w1 := by rw [hw1]; exact (Below.refl _ _).alloc (Nat.le_refl _) _
  have hg1 : w1.heap[w.heap.size]? = some (.cells (zrd 0 0 0) 68 (0, 0)) := by rw [hw1]; exact heap_alloc_new _ _
  unfold zrd rc at hw1
  have ho := roctet_any s hs p (by omega) w1
  obtain ⟨D, hD⟩ : ∃ D : Int, D = 6 - (d : Int) := ⟨_, rfl⟩
  rw [← hD]
  obtain ⟨R, hR⟩ : ∃ R, R = ritem d p (s.data.toList.drop p) := ⟨_, rfl⟩
  rw [← hR]
  have hpi : (p : Int) ≤ 65536 := by omega
  unfold octV at ho
  rw [hO] at ho
  simp only at ho
  have hR1 : R = .error x := by rw [hR, ritem.eq_def]; simp only; rw [hO]
  have hx := oct_err hO
  have hx0 : (x != 0) = true := by rcases hx with rfl | rfl <;> rfl
  have H := Lib.hid (And.intro ho (And.intro hb1 (And.intro hg1 hR1)))
  have HX := Lib.hid hx
  clear ho hb1 hg1 hR hR1 hO hs hD hx
  go_enter Tryz.func49, Tryz.ntmps49
  go_upto_region 1 with fail
  rw [← hw1]
  clear hw1
  go_wp2_with fail
  refine H.out.1.mono ?_
  rintro e w2 ⟨rfl, hb⟩
  have hz1 := lt_of_heap H.out.2.2.1
  obtain ⟨w3, hw3⟩ : ∃ w3, w3 = w2.alloc (.cells (zrd (0) (0) (x)) 68) := ⟨_, rfl⟩
  have hb2 := H.out.2.1.trans (hb.mono H.out.2.1.size)
  have hb3 : Below w2.heap.size w2 w3 := by rw [hw3]; exact (Below.refl _ _).alloc (Nat.le_refl _) _
  have hg3 : w3.heap[w2.heap.size]? = some (.cells (zrd (0) (0) (x)) 68 (0, 0)) := by rw [hw3]; exact heap_alloc_new _ _
  have hg2 := (hb3.block w.heap.size (Nat.lt_of_lt_of_le hz1 hb.size)).trans ((hb.block _ hz1).trans H.out.2.2.1)
  have N3 : NumW w w2.heap.size (0) (0) (x) w3 := ⟨hb2.trans (hb3.mono hb2.size), hg2, hg3, Nat.lt_of_lt_of_le hz1 hb.size⟩
  clear hb hb2 hb3 hg2 hg3 hz1
  unfold zrd rc at hw3
  simp only [zrd, rc]
  go_upto_region 2 with fail
  rw [← hw3]
  clear hw3
  generalize w2.heap.size = g at *
  obtain ⟨r0, r1, r2, r3, r4, r5, r6, fr⟩ := rc_cells N3.row
  obtain ⟨q0, q1, q2, q3, q4, q5, q6, f⟩ := rc_cells N3.zero
  have HB := Lib.hid N3.below
  clear N3
  go_wp2_with fail
  refine bodyPost_ret (v := .agg (rc (0) 0 ⟨#[]⟩ (.slice none 0 0) (0) (0) (x))) (by simp [results, Tryz.results49, go_sem, q0, q1, q2, q3, q4, q5, q6, rc]) rfl ?_
  exact RItP.err (k := 0) H.out.2.2.2 HX.out (below_setCells w.heap.size (Nat.le_refl _) [.int .i64 (0), .int .i64 0, .string ⟨#[]⟩, .slice none 0 0, .int .i64 (0), .int .i64 (0), .int .i64 (x)] 0 w3 HB.out)
set_option maxRecDepth 100000 in
set_option maxHeartbeats 1000000 in
theorem ritem_num_bad (s : ByteArray) (hs : s.size ≤ maxLen) (d : Nat) (p : Nat) (w : World) (hp : p ≤ 65536) {c : UInt8} {l' : List UInt8} (hO : oct p (s.data.toList.drop p) = .ok (c, l')) (hc : c.toNat ≠ 8 ∧ c.toNat ≠ 9) {x : Int} (hN : rnum p (s.data.toList.drop p) = .error x) :
    Calls Tryz.prog 49 #[.string s, .int .i64 (p : Int), .int .i64 (6 - (d : Int))] w (RItP w (ritem d p (s.data.toList.drop p))) := by
  obtain ⟨w1, hw1⟩ : ∃ w1, w1 = w.alloc (.cells (zrd 0 0 0) 68) := ⟨_, rfl⟩
  have hb1 : Below w.heap.size w w1 := by rw [hw1]; exact (Below.refl _ _).alloc (Nat.le_refl _) _
  have hg1 : w1.heap[w.heap.size]? = some (.cells (zrd 0 0 0) 68 (0, 0)) := by rw [hw1]; exact heap_alloc_new _ _
  unfold zrd rc at hw1
  have ho := roctet_any s hs p (by omega) w1
  obtain ⟨D, hD⟩ : ∃ D : Int, D = 6 - (d : Int) := ⟨_, rfl⟩
  rw [← hD]
  obtain ⟨R, hR⟩ : ∃ R, R = ritem d p (s.data.toList.drop p) := ⟨_, rfl⟩
  rw [← hR]
  have hpi : (p : Int) ≤ 65536 := by omega
  unfold octV at ho
  rw [hO] at ho
  simp only at ho
  obtain ⟨hp6, hdr⟩ := oct_ok.1 hO
  have hl' : l' = s.data.toList.drop (p + 1) := rest_drop (a := [c]) hdr rfl rfl
  obtain ⟨k, hk⟩ : ∃ k, k = c.toNat := ⟨_, rfl⟩
  rw [ritem.eq_def] at hR
  simp only at hR
  rw [hO] at hR
  simp only at hR
  rw [← hk] at hR ho hc
  rw [hl'] at hR
  rw [if_pos hc, hN] at hR
  simp only at hR
  have hn := fun W => rnumber_any s hs p (by omega) W
  rw [hN] at hn
  unfold numE at hn
  simp only at hn
  have HX := Lib.hid (rnum_err hN)
  have hk8 : ((k : Int) != 8) = true := by rw [bne_iff_ne]; omega
  have hk9 : ((k : Int) != 9) = true := by rw [bne_iff_ne]; omega
  have H := Lib.hid (And.intro ho (And.intro hb1 (And.intro hg1 (And.intro hR hn))))
  clear ho hb1 hg1 hR hO hs hD hN hn hc hdr hl' hk
  go_enter Tryz.func49, Tryz.ntmps49
  go_upto_region 1 with fail
  rw [← hw1]
  clear hw1
  go_wp2_with fail
  refine H.out.1.mono ?_
  rintro e w2 ⟨rfl, hb⟩
  have hz1 := lt_of_heap H.out.2.2.1
  obtain ⟨w3, hw3⟩ : ∃ w3, w3 = w2.alloc (.cells (zrd ((k : Int)) ((p : Int) + 1) (0)) 68) := ⟨_, rfl⟩
  have hb2 := H.out.2.1.trans (hb.mono H.out.2.1.size)
  have hb3 : Below w2.heap.size w2 w3 := by rw [hw3]; exact (Below.refl _ _).alloc (Nat.le_refl _) _
  have hg3 : w3.heap[w2.heap.size]? = some (.cells (zrd ((k : Int)) ((p : Int) + 1) (0)) 68 (0, 0)) := by rw [hw3]; exact heap_alloc_new _ _
  have hg2 := (hb3.block w.heap.size (Nat.lt_of_lt_of_le hz1 hb.size)).trans ((hb.block _ hz1).trans H.out.2.2.1)
  have N3 : NumW w w2.heap.size ((k : Int)) ((p : Int) + 1) (0) w3 := ⟨hb2.trans (hb3.mono hb2.size), hg2, hg3, Nat.lt_of_lt_of_le hz1 hb.size⟩
  clear hb hb2 hb3 hg2 hg3 hz1
  unfold zrd rc at hw3
  simp only [zrd, rc]
  go_upto_region 2 with fail
  rw [← hw3]
  clear hw3
  generalize w2.heap.size = g at *
  obtain ⟨r0, r1, r2, r3, r4, r5, r6, fr⟩ := rc_cells N3.row
  go_wp2_with fail
  refine (H.out.2.2.2.2 w3).mono ?_
  rintro e w4 ⟨rfl, hb⟩
  have N4 := N3.call hb
  obtain ⟨w5, hw5⟩ : ∃ w5, w5 = w4.alloc (.cells (zrd (0) (0) (x)) 68) := ⟨_, rfl⟩
  have hb5 : Below w4.heap.size w4 w5 := by rw [hw5]; exact (Below.refl _ _).alloc (Nat.le_refl _) _
  have hg5 : w5.heap[w4.heap.size]? = some (.cells (zrd (0) (0) (x)) 68 (0, 0)) := by rw [hw5]; exact heap_alloc_new _ _
  have N5 := N4.call hb5
  have hz4 : w.heap.size < w4.heap.size := lt_of_heap N4.zero
  clear hb hb5 N3 N4 r0 r1 r2 r3 r4 r5 r6 fr
  unfold zrd rc at hw5
  simp only [zrd, rc]
  go_upto_region 6 with fail
  rw [← hw5]
  clear hw5
  generalize w4.heap.size = g2 at *
  obtain ⟨r0, r1, r2, r3, r4, r5, r6, fr⟩ := rc_cells hg5
  go_upto_region 7 with fail
  have hW6 : ((((w5.setCell ⟨g2, 0, none⟩ (.int .i64 1)).setCell ⟨g2, 1, none⟩ (.int .i64 (0))).setCell ⟨g2, 2, none⟩ (.string ⟨#[]⟩)).setCell ⟨g2, 3, none⟩ (.slice none 0 0)) = w5.setCells g2 0 [.int .i64 1, .int .i64 (0), .string ⟨#[]⟩, .slice none 0 0] := rfl
  rw [hW6]
  clear hW6 r0 r1 r2 r3 r4 r5 r6 fr
  have hg6 := rc_set4 hg5 1 (0) ⟨#[]⟩ (.slice none 0 0)
  have hq6 := (c_heap_setCells_other g2 w.heap.size (Nat.ne_of_lt hz4) [.int .i64 1, .int .i64 (0), .string ⟨#[]⟩, .slice none 0 0] 0 w5).trans N5.zero
  have hb6 := below_setCells g2 (Nat.le_of_lt hz4) [.int .i64 1, .int .i64 (0), .string ⟨#[]⟩, .slice none 0 0] 0 w5 N5.below
  generalize World.setCells _ _ _ _ = w6 at *
  obtain ⟨r0, r1, r2, r3, r4, r5, r6, fr⟩ := rc_cells hg6
  obtain ⟨q0, q1, q2, q3, q4, q5, q6, f⟩ := rc_cells hq6
  have HB := Lib.hid hb6
  clear N5 hg5 hg6 hq6 hb6
  go_wp2_with fail
  refine bodyPost_ret (v := .agg (rc (1) 0 ⟨#[]⟩ (.slice none 0 0) (0) (0) (x))) (by simp [results, Tryz.results49, go_sem, q0, q1, q2, q3, q4, q5, q6, rc]) rfl ?_
  exact RItP.err (k := 1) H.out.2.2.2.1 HX.out (below_setCells w.heap.size (Nat.le_refl _) [.int .i64 (1), .int .i64 0, .string ⟨#[]⟩, .slice none 0 0, .int .i64 (0), .int .i64 (0), .int .i64 (x)] 0 w6 HB.out)
set_option maxRecDepth 100000 in
set_option maxHeartbeats 1000000 in
theorem ritem_num_good (s : ByteArray) (hs : s.size ≤ maxLen) (d : Nat) (p : Nat) (w : World) (hp : p ≤ 65536) {c : UInt8} {l' : List UInt8} (hO : oct p (s.data.toList.drop p) = .ok (c, l')) (hc : c.toNat ≠ 8 ∧ c.toNat ≠ 9) {n q : Nat} {r' : List UInt8} (hN : rnum p (s.data.toList.drop p) = .ok (n, q, r')) :
    Calls Tryz.prog 49 #[.string s, .int .i64 (p : Int), .int .i64 (6 - (d : Int))] w (RItP w (ritem d p (s.data.toList.drop p))) := by
  obtain ⟨w1, hw1⟩ : ∃ w1, w1 = w.alloc (.cells (zrd 0 0 0) 68) := ⟨_, rfl⟩
  have hb1 : Below w.heap.size w w1 := by rw [hw1]; exact (Below.refl _ _).alloc (Nat.le_refl _) _
  have hg1 : w1.heap[w.heap.size]? = some (.cells (zrd 0 0 0) 68 (0, 0)) := by rw [hw1]; exact heap_alloc_new _ _
  unfold zrd rc at hw1
  have ho := roctet_any s hs p (by omega) w1
  obtain ⟨D, hD⟩ : ∃ D : Int, D = 6 - (d : Int) := ⟨_, rfl⟩
  rw [← hD]
  obtain ⟨R, hR⟩ : ∃ R, R = ritem d p (s.data.toList.drop p) := ⟨_, rfl⟩
  rw [← hR]
  have hpi : (p : Int) ≤ 65536 := by omega
  unfold octV at ho
  rw [hO] at ho
  simp only at ho
  obtain ⟨hp6, hdr⟩ := oct_ok.1 hO
  have hl' : l' = s.data.toList.drop (p + 1) := rest_drop (a := [c]) hdr rfl rfl
  obtain ⟨k, hk⟩ : ∃ k, k = c.toNat := ⟨_, rfl⟩
  rw [ritem.eq_def] at hR
  simp only at hR
  rw [hO] at hR
  simp only at hR
  rw [← hk] at hR ho hc
  rw [hl'] at hR
  rw [if_pos hc, hN] at hR
  simp only at hR
  have hn := fun W => rnumber_any s hs p (by omega) W
  rw [hN] at hn
  unfold numE at hn
  simp only at hn
  have HX := Lib.hid True.intro
  have hk8 : ((k : Int) != 8) = true := by rw [bne_iff_ne]; omega
  have hk9 : ((k : Int) != 9) = true := by rw [bne_iff_ne]; omega
  have H := Lib.hid (And.intro ho (And.intro hb1 (And.intro hg1 (And.intro hR hn))))
  clear ho hb1 hg1 hR hO hs hD hN hn hc hdr hl' hk
  go_enter Tryz.func49, Tryz.ntmps49
  go_upto_region 1 with fail
  rw [← hw1]
  clear hw1
  go_wp2_with fail
  refine H.out.1.mono ?_
  rintro e w2 ⟨rfl, hb⟩
  have hz1 := lt_of_heap H.out.2.2.1
  obtain ⟨w3, hw3⟩ : ∃ w3, w3 = w2.alloc (.cells (zrd ((k : Int)) ((p : Int) + 1) (0)) 68) := ⟨_, rfl⟩
  have hb2 := H.out.2.1.trans (hb.mono H.out.2.1.size)
  have hb3 : Below w2.heap.size w2 w3 := by rw [hw3]; exact (Below.refl _ _).alloc (Nat.le_refl _) _
  have hg3 : w3.heap[w2.heap.size]? = some (.cells (zrd ((k : Int)) ((p : Int) + 1) (0)) 68 (0, 0)) := by rw [hw3]; exact heap_alloc_new _ _
  have hg2 := (hb3.block w.heap.size (Nat.lt_of_lt_of_le hz1 hb.size)).trans ((hb.block _ hz1).trans H.out.2.2.1)
  have N3 : NumW w w2.heap.size ((k : Int)) ((p : Int) + 1) (0) w3 := ⟨hb2.trans (hb3.mono hb2.size), hg2, hg3, Nat.lt_of_lt_of_le hz1 hb.size⟩
  clear hb hb2 hb3 hg2 hg3 hz1
  unfold zrd rc at hw3
  simp only [zrd, rc]
  go_upto_region 2 with fail
  rw [← hw3]
  clear hw3
  generalize w2.heap.size = g at *
  obtain ⟨r0, r1, r2, r3, r4, r5, r6, fr⟩ := rc_cells N3.row
  go_wp2_with fail
  refine (H.out.2.2.2.2 w3).mono ?_
  rintro e w4 ⟨rfl, hb⟩
  have N4 := N3.call hb
  obtain ⟨w5, hw5⟩ : ∃ w5, w5 = w4.alloc (.cells (zrd ((n : Int)) ((q : Int)) (0)) 68) := ⟨_, rfl⟩
  have hb5 : Below w4.heap.size w4 w5 := by rw [hw5]; exact (Below.refl _ _).alloc (Nat.le_refl _) _
  have hg5 : w5.heap[w4.heap.size]? = some (.cells (zrd ((n : Int)) ((q : Int)) (0)) 68 (0, 0)) := by rw [hw5]; exact heap_alloc_new _ _
  have N5 := N4.call hb5
  have hz4 : w.heap.size < w4.heap.size := lt_of_heap N4.zero
  clear hb hb5 N3 N4 r0 r1 r2 r3 r4 r5 r6 fr
  unfold zrd rc at hw5
  simp only [zrd, rc]
  go_upto_region 6 with fail
  rw [← hw5]
  clear hw5
  generalize w4.heap.size = g2 at *
  obtain ⟨r0, r1, r2, r3, r4, r5, r6, fr⟩ := rc_cells hg5
  go_upto_region 7 with fail
  have hW6 : ((((w5.setCell ⟨g2, 0, none⟩ (.int .i64 1)).setCell ⟨g2, 1, none⟩ (.int .i64 ((n : Int)))).setCell ⟨g2, 2, none⟩ (.string ⟨#[]⟩)).setCell ⟨g2, 3, none⟩ (.slice none 0 0)) = w5.setCells g2 0 [.int .i64 1, .int .i64 ((n : Int)), .string ⟨#[]⟩, .slice none 0 0] := rfl
  rw [hW6]
  clear hW6 r0 r1 r2 r3 r4 r5 r6 fr
  have hg6 := rc_set4 hg5 1 ((n : Int)) ⟨#[]⟩ (.slice none 0 0)
  have hq6 := (c_heap_setCells_other g2 w.heap.size (Nat.ne_of_lt hz4) [.int .i64 1, .int .i64 ((n : Int)), .string ⟨#[]⟩, .slice none 0 0] 0 w5).trans N5.zero
  have hb6 := below_setCells g2 (Nat.le_of_lt hz4) [.int .i64 1, .int .i64 ((n : Int)), .string ⟨#[]⟩, .slice none 0 0] 0 w5 N5.below
  generalize World.setCells _ _ _ _ = w6 at *
  obtain ⟨r0, r1, r2, r3, r4, r5, r6, fr⟩ := rc_cells hg6
  obtain ⟨q0, q1, q2, q3, q4, q5, q6, f⟩ := rc_cells hq6
  have HB := Lib.hid hb6
  clear N5 hg5 hg6 hq6 hb6
  go_wp2_with fail
  refine bodyPost_ret (v := .agg (rc 1 (n : Int) ⟨#[]⟩ (.slice none 0 0) (n : Int) (q : Int) 0)) (by simp [results, Tryz.results49, go_sem, q0, q1, q2, q3, q4, q5, q6, rc]) rfl ?_
  rw [H.out.2.2.2.1]
  exact ⟨below_setCells w.heap.size (Nat.le_refl _) [.int .i64 1, .int .i64 (n : Int), .string ⟨#[]⟩, .slice none 0 0, .int .i64 (n : Int), .int .i64 (q : Int), .int .i64 0] 0 w6 HB.out, .mk 1 n ⟨#[]⟩ none 0 [], n, rfl, rfl, ⟨Nat.zero_le _, ⟨Nat.zero_le _, fun h => absurd rfl h⟩, trivial⟩⟩
set_option maxRecDepth 100000 in
set_option maxHeartbeats 1000000 in
theorem ritem_deep (s : ByteArray) (hs : s.size ≤ maxLen) (d : Nat) (p : Nat) (w : World) (hp : p ≤ 65536) {c : UInt8} {l' : List UInt8} (hO : oct p (s.data.toList.drop p) = .ok (c, l')) (hc : c.toNat = 9) (hd : d = 0) :
    Calls Tryz.prog 49 #[.string s, .int .i64 (p : Int), .int .i64 (6 - (d : Int))] w (RItP w (ritem d p (s.data.toList.drop p))) := by
  obtain ⟨w1, hw1⟩ : ∃ w1, w1 = w.alloc (.cells (zrd 0 0 0) 68) := ⟨_, rfl⟩
  have hb1 : Below w.heap.size w w1 := by rw [hw1]; exact (Below.refl _ _).alloc (Nat.le_refl _) _
  have hg1 : w1.heap[w.heap.size]? = some (.cells (zrd 0 0 0) 68 (0, 0)) := by rw [hw1]; exact heap_alloc_new _ _
  unfold zrd rc at hw1
  have ho := roctet_any s hs p (by omega) w1
  obtain ⟨D, hD⟩ : ∃ D : Int, D = 6 - (d : Int) := ⟨_, rfl⟩
  rw [← hD]
  obtain ⟨R, hR⟩ : ∃ R, R = ritem d p (s.data.toList.drop p) := ⟨_, rfl⟩
  rw [← hR]
  have hpi : (p : Int) ≤ 65536 := by omega
  unfold octV at ho
  rw [hO] at ho
  simp only at ho
  obtain ⟨hp6, hdr⟩ := oct_ok.1 hO
  have hl' : l' = s.data.toList.drop (p + 1) := rest_drop (a := [c]) hdr rfl rfl
  obtain ⟨k, hk⟩ : ∃ k, k = c.toNat := ⟨_, rfl⟩
  rw [ritem.eq_def] at hR
  simp only at hR
  rw [hO] at hR
  simp only at hR
  rw [← hk] at hR ho hc
  rw [hl'] at hR
  rw [if_neg (by omega), if_pos ⟨hc, hd⟩] at hR
  have hk8 : ((k : Int) != 8) = true := by rw [bne_iff_ne]; omega
  have hk9 : ((k : Int) != 9) = false := by rw [bne_eq_false_iff_eq]; omega
  have hke : ((k : Int) == 9) = true := by rw [beq_iff_eq]; omega
  have hkt : ((k : Int) == 8) = false := by rw [beq_eq_false_iff_ne]; omega
  have hDd : decide ((6 : Int) ≤ D) = true := decide_eq_true (by omega)
  have H := Lib.hid (And.intro ho (And.intro hb1 (And.intro hg1 hR)))
  clear ho hb1 hg1 hR hO hs hD hdr hl' hk hc hd
  go_enter Tryz.func49, Tryz.ntmps49
  go_upto_region 1 with fail
  rw [← hw1]
  clear hw1
  go_wp2_with fail
  refine H.out.1.mono ?_
  rintro e w2 ⟨rfl, hb⟩
  have hz1 := lt_of_heap H.out.2.2.1
  obtain ⟨w3, hw3⟩ : ∃ w3, w3 = w2.alloc (.cells (zrd ((k : Int)) ((p : Int) + 1) (0)) 68) := ⟨_, rfl⟩
  have hb2 := H.out.2.1.trans (hb.mono H.out.2.1.size)
  have hb3 : Below w2.heap.size w2 w3 := by rw [hw3]; exact (Below.refl _ _).alloc (Nat.le_refl _) _
  have hg3 : w3.heap[w2.heap.size]? = some (.cells (zrd ((k : Int)) ((p : Int) + 1) (0)) 68 (0, 0)) := by rw [hw3]; exact heap_alloc_new _ _
  have hg2 := (hb3.block w.heap.size (Nat.lt_of_lt_of_le hz1 hb.size)).trans ((hb.block _ hz1).trans H.out.2.2.1)
  have N3 : NumW w w2.heap.size ((k : Int)) ((p : Int) + 1) (0) w3 := ⟨hb2.trans (hb3.mono hb2.size), hg2, hg3, Nat.lt_of_lt_of_le hz1 hb.size⟩
  clear hb hb2 hb3 hg2 hg3 hz1
  unfold zrd rc at hw3
  simp only [zrd, rc]
  go_upto_region 2 with fail
  rw [← hw3]
  clear hw3
  generalize w2.heap.size = g at *
  obtain ⟨r0, r1, r2, r3, r4, r5, r6, fr⟩ := rc_cells N3.row
  obtain ⟨q0, q1, q2, q3, q4, q5, q6, f⟩ := rc_cells N3.zero
  have HB := Lib.hid N3.below
  clear N3
  go_wp2_with fail
  refine bodyPost_ret (v := .agg (rc (0) 0 ⟨#[]⟩ (.slice none 0 0) (0) (0) (3))) (by simp [results, Tryz.results49, go_sem, q0, q1, q2, q3, q4, q5, q6, rc]) rfl ?_
  exact RItP.err (k := 0) H.out.2.2.2 (.inl rfl) (below_setCells w.heap.size (Nat.le_refl _) [.int .i64 (0), .int .i64 0, .string ⟨#[]⟩, .slice none 0 0, .int .i64 (0), .int .i64 (0), .int .i64 (3)] 0 w3 HB.out)
set_option maxRecDepth 100000 in
set_option maxHeartbeats 1000000 in
theorem ritem_bad8 (s : ByteArray) (hs : s.size ≤ maxLen) (d : Nat) (p : Nat) (w : World) (hp : p ≤ 65536) {c : UInt8} {l' : List UInt8} (hO : oct p (s.data.toList.drop p) = .ok (c, l')) (hc : c.toNat = 8) {x : Int} (hN : rnum (p + 1) (s.data.toList.drop (p + 1)) = .error x) :
    Calls Tryz.prog 49 #[.string s, .int .i64 (p : Int), .int .i64 (6 - (d : Int))] w (RItP w (ritem d p (s.data.toList.drop p))) := by
  obtain ⟨w1, hw1⟩ : ∃ w1, w1 = w.alloc (.cells (zrd 0 0 0) 68) := ⟨_, rfl⟩
  have hb1 : Below w.heap.size w w1 := by rw [hw1]; exact (Below.refl _ _).alloc (Nat.le_refl _) _
  have hg1 : w1.heap[w.heap.size]? = some (.cells (zrd 0 0 0) 68 (0, 0)) := by rw [hw1]; exact heap_alloc_new _ _
  unfold zrd rc at hw1
  have ho := roctet_any s hs p (by omega) w1
  obtain ⟨D, hD⟩ : ∃ D : Int, D = 6 - (d : Int) := ⟨_, rfl⟩
  rw [← hD]
  obtain ⟨R, hR⟩ : ∃ R, R = ritem d p (s.data.toList.drop p) := ⟨_, rfl⟩
  rw [← hR]
  have hpi : (p : Int) ≤ 65536 := by omega
  unfold octV at ho
  rw [hO] at ho
  simp only at ho
  obtain ⟨hp6, hdr⟩ := oct_ok.1 hO
  have hl' : l' = s.data.toList.drop (p + 1) := rest_drop (a := [c]) hdr rfl rfl
  obtain ⟨k, hk⟩ : ∃ k, k = c.toNat := ⟨_, rfl⟩
  rw [ritem.eq_def] at hR
  simp only at hR
  rw [hO] at hR
  simp only at hR
  rw [← hk] at hR ho hc
  rw [hl'] at hR
  rw [if_neg (by omega), if_neg (by omega), hN] at hR
  simp only at hR
  have hn := fun W => rnumber_any s hs (p + 1) (by omega) W
  rw [show ((p + 1 : Nat) : Int) = (p : Int) + 1 by omega, hN] at hn
  unfold numE at hn
  simp only at hn
  have hk8 : ((k : Int) != 8) = false := by rw [bne_eq_false_iff_eq]; omega
  have hke : ((k : Int) == 9) = false := by rw [beq_eq_false_iff_ne]; omega
  have hkt : ((k : Int) == 8) = true := by rw [beq_iff_eq]; omega
  have HX := Lib.hid (rnum_err hN)
  have hx0 : (x != 0) = true := by rcases rnum_err hN with rfl | rfl <;> rfl
  have H := Lib.hid (And.intro ho (And.intro hb1 (And.intro hg1 (And.intro hR hn))))
  clear ho hb1 hg1 hR hO hs hD hN hn hc hdr hl' hk
  go_enter Tryz.func49, Tryz.ntmps49
  go_upto_region 1 with fail
  rw [← hw1]
  clear hw1
  go_wp2_with fail
  refine H.out.1.mono ?_
  rintro e w2 ⟨rfl, hb⟩
  have hz1 := lt_of_heap H.out.2.2.1
  obtain ⟨w3, hw3⟩ : ∃ w3, w3 = w2.alloc (.cells (zrd ((k : Int)) ((p : Int) + 1) (0)) 68) := ⟨_, rfl⟩
  have hb2 := H.out.2.1.trans (hb.mono H.out.2.1.size)
  have hb3 : Below w2.heap.size w2 w3 := by rw [hw3]; exact (Below.refl _ _).alloc (Nat.le_refl _) _
  have hg3 : w3.heap[w2.heap.size]? = some (.cells (zrd ((k : Int)) ((p : Int) + 1) (0)) 68 (0, 0)) := by rw [hw3]; exact heap_alloc_new _ _
  have hg2 := (hb3.block w.heap.size (Nat.lt_of_lt_of_le hz1 hb.size)).trans ((hb.block _ hz1).trans H.out.2.2.1)
  have N3 : NumW w w2.heap.size ((k : Int)) ((p : Int) + 1) (0) w3 := ⟨hb2.trans (hb3.mono hb2.size), hg2, hg3, Nat.lt_of_lt_of_le hz1 hb.size⟩
  clear hb hb2 hb3 hg2 hg3 hz1
  unfold zrd rc at hw3
  simp only [zrd, rc]
  go_upto_region 2 with fail
  rw [← hw3]
  clear hw3
  generalize w2.heap.size = g at *
  obtain ⟨r0, r1, r2, r3, r4, r5, r6, fr⟩ := rc_cells N3.row
  go_wp2_with fail
  refine (H.out.2.2.2.2 w3).mono ?_
  rintro e w4 ⟨rfl, hb⟩
  have N4 := N3.call hb
  obtain ⟨w5, hw5⟩ : ∃ w5, w5 = w4.alloc (.cells (zrd (0) (0) (x)) 68) := ⟨_, rfl⟩
  have hb5 : Below w4.heap.size w4 w5 := by rw [hw5]; exact (Below.refl _ _).alloc (Nat.le_refl _) _
  have hg5 : w5.heap[w4.heap.size]? = some (.cells (zrd (0) (0) (x)) 68 (0, 0)) := by rw [hw5]; exact heap_alloc_new _ _
  have N5 := N4.call hb5
  have hz4 : w.heap.size < w4.heap.size := lt_of_heap N4.zero
  have hzg : g < w4.heap.size := N4.lt
  clear hb hb5 N3 N4 r0 r1 r2 r3 r4 r5 r6 fr
  unfold zrd rc at hw5
  simp only [zrd, rc]
  go_upto_region 11 with fail
  rw [← hw5]
  clear hw5
  generalize w4.heap.size = g2 at *
  obtain ⟨-, -, -, -, cN, -, -, -⟩ := rc_cells N5.row
  obtain ⟨r0, r1, r2, r3, r4, r5, r6, fr⟩ := rc_cells hg5
  obtain ⟨q0, q1, q2, q3, q4, q5, q6, f⟩ := rc_cells N5.zero
  have HB := Lib.hid N5.below
  clear N5 hg5
  go_wp2_with fail
  refine bodyPost_ret (v := .agg (rc (0) 0 ⟨#[]⟩ (.slice none 0 0) (0) (0) (x))) (by simp [results, Tryz.results49, go_sem, q0, q1, q2, q3, q4, q5, q6, rc]) rfl ?_
  exact RItP.err (k := 0) H.out.2.2.2.1 HX.out (below_setCells w.heap.size (Nat.le_refl _) [.int .i64 (0), .int .i64 0, .string ⟨#[]⟩, .slice none 0 0, .int .i64 (0), .int .i64 (0), .int .i64 (x)] 0 w5 HB.out)
set_option maxRecDepth 100000 in
set_option maxHeartbeats 1000000 in
theorem ritem_bad9 (s : ByteArray) (hs : s.size ≤ maxLen) (d : Nat) (p : Nat) (w : World) (hp : p ≤ 65536) {c : UInt8} {l' : List UInt8} (hO : oct p (s.data.toList.drop p) = .ok (c, l')) (hc : c.toNat = 9) (hd : 0 < d) (hd6 : d ≤ 6) {x : Int} (hN : rnum (p + 1) (s.data.toList.drop (p + 1)) = .error x) :
    Calls Tryz.prog 49 #[.string s, .int .i64 (p : Int), .int .i64 (6 - (d : Int))] w (RItP w (ritem d p (s.data.toList.drop p))) := by
  obtain ⟨w1, hw1⟩ : ∃ w1, w1 = w.alloc (.cells (zrd 0 0 0) 68) := ⟨_, rfl⟩
  have hb1 : Below w.heap.size w w1 := by rw [hw1]; exact (Below.refl _ _).alloc (Nat.le_refl _) _
  have hg1 : w1.heap[w.heap.size]? = some (.cells (zrd 0 0 0) 68 (0, 0)) := by rw [hw1]; exact heap_alloc_new _ _
  unfold zrd rc at hw1
  have ho := roctet_any s hs p (by omega) w1
  obtain ⟨D, hD⟩ : ∃ D : Int, D = 6 - (d : Int) := ⟨_, rfl⟩
  rw [← hD]
  obtain ⟨R, hR⟩ : ∃ R, R = ritem d p (s.data.toList.drop p) := ⟨_, rfl⟩
  rw [← hR]
  have hpi : (p : Int) ≤ 65536 := by omega
  unfold octV at ho
  rw [hO] at ho
  simp only at ho
  obtain ⟨hp6, hdr⟩ := oct_ok.1 hO
  have hl' : l' = s.data.toList.drop (p + 1) := rest_drop (a := [c]) hdr rfl rfl
  obtain ⟨k, hk⟩ : ∃ k, k = c.toNat := ⟨_, rfl⟩
  rw [ritem.eq_def] at hR
  simp only at hR
  rw [hO] at hR
  simp only at hR
  rw [← hk] at hR ho hc
  rw [hl'] at hR
  rw [if_neg (by omega), if_neg (by omega), hN] at hR
  simp only at hR
  have hn := fun W => rnumber_any s hs (p + 1) (by omega) W
  rw [show ((p + 1 : Nat) : Int) = (p : Int) + 1 by omega, hN] at hn
  unfold numE at hn
  simp only at hn
  have hk8 : ((k : Int) != 8) = true := by rw [bne_iff_ne]; omega
  have hk9 : ((k : Int) != 9) = false := by rw [bne_eq_false_iff_eq]; omega
  have hke : ((k : Int) == 9) = true := by rw [beq_iff_eq]; omega
  have hkt : ((k : Int) == 8) = false := by rw [beq_eq_false_iff_ne]; omega
  have hDd : decide ((6 : Int) ≤ D) = false := decide_eq_false (by omega)
  have HX := Lib.hid (rnum_err hN)
  have hx0 : (x != 0) = true := by rcases rnum_err hN with rfl | rfl <;> rfl
  have H := Lib.hid (And.intro ho (And.intro hb1 (And.intro hg1 (And.intro hR hn))))
  clear ho hb1 hg1 hR hO hs hD hN hn hc hdr hl' hk hd hd6
  go_enter Tryz.func49, Tryz.ntmps49
  go_upto_region 1 with fail
  rw [← hw1]
  clear hw1
  go_wp2_with fail
  refine H.out.1.mono ?_
  rintro e w2 ⟨rfl, hb⟩
  have hz1 := lt_of_heap H.out.2.2.1
  obtain ⟨w3, hw3⟩ : ∃ w3, w3 = w2.alloc (.cells (zrd ((k : Int)) ((p : Int) + 1) (0)) 68) := ⟨_, rfl⟩
  have hb2 := H.out.2.1.trans (hb.mono H.out.2.1.size)
  have hb3 : Below w2.heap.size w2 w3 := by rw [hw3]; exact (Below.refl _ _).alloc (Nat.le_refl _) _
  have hg3 : w3.heap[w2.heap.size]? = some (.cells (zrd ((k : Int)) ((p : Int) + 1) (0)) 68 (0, 0)) := by rw [hw3]; exact heap_alloc_new _ _
  have hg2 := (hb3.block w.heap.size (Nat.lt_of_lt_of_le hz1 hb.size)).trans ((hb.block _ hz1).trans H.out.2.2.1)
  have N3 : NumW w w2.heap.size ((k : Int)) ((p : Int) + 1) (0) w3 := ⟨hb2.trans (hb3.mono hb2.size), hg2, hg3, Nat.lt_of_lt_of_le hz1 hb.size⟩
  clear hb hb2 hb3 hg2 hg3 hz1
  unfold zrd rc at hw3
  simp only [zrd, rc]
  go_upto_region 2 with fail
  rw [← hw3]
  clear hw3
  generalize w2.heap.size = g at *
  obtain ⟨r0, r1, r2, r3, r4, r5, r6, fr⟩ := rc_cells N3.row
  go_wp2_with fail
  refine (H.out.2.2.2.2 w3).mono ?_
  rintro e w4 ⟨rfl, hb⟩
  have N4 := N3.call hb
  obtain ⟨w5, hw5⟩ : ∃ w5, w5 = w4.alloc (.cells (zrd (0) (0) (x)) 68) := ⟨_, rfl⟩
  have hb5 : Below w4.heap.size w4 w5 := by rw [hw5]; exact (Below.refl _ _).alloc (Nat.le_refl _) _
  have hg5 : w5.heap[w4.heap.size]? = some (.cells (zrd (0) (0) (x)) 68 (0, 0)) := by rw [hw5]; exact heap_alloc_new _ _
  have N5 := N4.call hb5
  have hz4 : w.heap.size < w4.heap.size := lt_of_heap N4.zero
  have hzg : g < w4.heap.size := N4.lt
  clear hb hb5 N3 N4 r0 r1 r2 r3 r4 r5 r6 fr
  unfold zrd rc at hw5
  simp only [zrd, rc]
  go_upto_region 11 with fail
  rw [← hw5]
  clear hw5
  generalize w4.heap.size = g2 at *
  obtain ⟨-, -, -, -, cN, -, -, -⟩ := rc_cells N5.row
  obtain ⟨r0, r1, r2, r3, r4, r5, r6, fr⟩ := rc_cells hg5
  obtain ⟨q0, q1, q2, q3, q4, q5, q6, f⟩ := rc_cells N5.zero
  have HB := Lib.hid N5.below
  clear N5 hg5
  go_wp2_with fail
  refine bodyPost_ret (v := .agg (rc (0) 0 ⟨#[]⟩ (.slice none 0 0) (0) (0) (x))) (by simp [results, Tryz.results49, go_sem, q0, q1, q2, q3, q4, q5, q6, rc]) rfl ?_
  exact RItP.err (k := 0) H.out.2.2.2.1 HX.out (below_setCells w.heap.size (Nat.le_refl _) [.int .i64 (0), .int .i64 0, .string ⟨#[]⟩, .slice none 0 0, .int .i64 (0), .int .i64 (0), .int .i64 (x)] 0 w5 HB.out)
set_option maxRecDepth 100000 in
set_option maxHeartbeats 1000000 in
theorem ritem_text_long (s : ByteArray) (hs : s.size ≤ maxLen) (d : Nat) (p : Nat) (w : World) (hp : p ≤ 65536) {c : UInt8} {l' : List UInt8} (hO : oct p (s.data.toList.drop p) = .ok (c, l')) (hc : c.toNat = 8) {n q : Nat} {r' : List UInt8} (hN : rnum (p + 1) (s.data.toList.drop (p + 1)) = .ok (n, q, r')) (h1 : 65536 < q + n) :
    Calls Tryz.prog 49 #[.string s, .int .i64 (p : Int), .int .i64 (6 - (d : Int))] w (RItP w (ritem d p (s.data.toList.drop p))) := by
  obtain ⟨w1, hw1⟩ : ∃ w1, w1 = w.alloc (.cells (zrd 0 0 0) 68) := ⟨_, rfl⟩
  have hb1 : Below w.heap.size w w1 := by rw [hw1]; exact (Below.refl _ _).alloc (Nat.le_refl _) _
  have hg1 : w1.heap[w.heap.size]? = some (.cells (zrd 0 0 0) 68 (0, 0)) := by rw [hw1]; exact heap_alloc_new _ _
  unfold zrd rc at hw1
  have ho := roctet_any s hs p (by omega) w1
  obtain ⟨D, hD⟩ : ∃ D : Int, D = 6 - (d : Int) := ⟨_, rfl⟩
  rw [← hD]
  obtain ⟨R, hR⟩ : ∃ R, R = ritem d p (s.data.toList.drop p) := ⟨_, rfl⟩
  rw [← hR]
  have hpi : (p : Int) ≤ 65536 := by omega
  unfold octV at ho
  rw [hO] at ho
  simp only at ho
  obtain ⟨hp6, hdr⟩ := oct_ok.1 hO
  have hl' : l' = s.data.toList.drop (p + 1) := rest_drop (a := [c]) hdr rfl rfl
  obtain ⟨k, hk⟩ : ∃ k, k = c.toNat := ⟨_, rfl⟩
  rw [ritem.eq_def] at hR
  simp only at hR
  rw [hO] at hR
  simp only at hR
  rw [← hk] at hR ho hc
  rw [hl'] at hR
  rw [if_neg (by omega), if_neg (by omega), hN] at hR
  simp only at hR
  rw [if_pos hc] at hR
  unfold rtext at hR
  rw [if_pos h1] at hR
  have hn := fun W => rnumber_any s hs (p + 1) (by omega) W
  rw [show ((p + 1 : Nat) : Int) = (p : Int) + 1 by omega, hN] at hn
  unfold numE at hn
  simp only at hn
  obtain ⟨e1, e2, e3, e4⟩ := rnum_ok hN
  have hr' : r' = s.data.toList.drop q := rest_drop e1 rfl e3
  have hni : (n : Int) < 72057594037927936 := by
    have : (256 : Nat) ^ 7 = 72057594037927936 := by decide
    omega
  have hqi : (q : Int) ≤ 65536 := by omega
  have hqs : q ≤ s.size := by
    have a1 := congrArg List.length e1
    have a2 := congrArg List.length hdr
    have a3 : s.data.toList.length = s.size := by simp
    rw [List.length_drop, List.length_append] at a1
    rw [List.length_drop, List.length_cons] at a2
    omega
  clear e1 e2 e3 e4
  have hk8 : ((k : Int) != 8) = false := by rw [bne_eq_false_iff_eq]; omega
  have hke : ((k : Int) == 9) = false := by rw [beq_eq_false_iff_ne]; omega
  have hkt : ((k : Int) == 8) = true := by rw [beq_iff_eq]; omega
  obtain ⟨S, hS⟩ : ∃ S, S = s.size := ⟨_, rfl⟩
  have hSi : (s.size : Int) = (S : Int) := by omega
  have hrl : r'.length = S - q := by rw [hr', List.length_drop, hS]; simp
  have hSm : (S : Int) ≤ 9223372036854775807 := by unfold maxLen at hs; omega
  have hg1' : decide ((65536 : Int) - (q : Int) < (n : Int)) = true := decide_eq_true (by omega)
  have H := Lib.hid (And.intro ho (And.intro hb1 (And.intro hg1 (And.intro hR hn))))
  clear ho hb1 hg1 hR hO hD hN hn hc hdr hl' hk hr' hrl hS hs hqs h1
  go_enter Tryz.func49, Tryz.ntmps49
  go_upto_region 1 with fail
  rw [← hw1]
  clear hw1
  go_wp2_with fail
  refine H.out.1.mono ?_
  rintro e w2 ⟨rfl, hb⟩
  have hz1 := lt_of_heap H.out.2.2.1
  obtain ⟨w3, hw3⟩ : ∃ w3, w3 = w2.alloc (.cells (zrd ((k : Int)) ((p : Int) + 1) (0)) 68) := ⟨_, rfl⟩
  have hb2 := H.out.2.1.trans (hb.mono H.out.2.1.size)
  have hb3 : Below w2.heap.size w2 w3 := by rw [hw3]; exact (Below.refl _ _).alloc (Nat.le_refl _) _
  have hg3 : w3.heap[w2.heap.size]? = some (.cells (zrd ((k : Int)) ((p : Int) + 1) (0)) 68 (0, 0)) := by rw [hw3]; exact heap_alloc_new _ _
  have hg2 := (hb3.block w.heap.size (Nat.lt_of_lt_of_le hz1 hb.size)).trans ((hb.block _ hz1).trans H.out.2.2.1)
  have N3 : NumW w w2.heap.size ((k : Int)) ((p : Int) + 1) (0) w3 := ⟨hb2.trans (hb3.mono hb2.size), hg2, hg3, Nat.lt_of_lt_of_le hz1 hb.size⟩
  clear hb hb2 hb3 hg2 hg3 hz1
  unfold zrd rc at hw3
  simp only [zrd, rc]
  go_upto_region 2 with fail
  rw [← hw3]
  clear hw3
  generalize w2.heap.size = g at *
  obtain ⟨r0, r1, r2, r3, r4, r5, r6, fr⟩ := rc_cells N3.row
  go_wp2_with fail
  refine (H.out.2.2.2.2 w3).mono ?_
  rintro e w4 ⟨rfl, hb⟩
  have N4 := N3.call hb
  obtain ⟨w5, hw5⟩ : ∃ w5, w5 = w4.alloc (.cells (zrd ((n : Int)) ((q : Int)) (0)) 68) := ⟨_, rfl⟩
  have hb5 : Below w4.heap.size w4 w5 := by rw [hw5]; exact (Below.refl _ _).alloc (Nat.le_refl _) _
  have hg5 : w5.heap[w4.heap.size]? = some (.cells (zrd ((n : Int)) ((q : Int)) (0)) 68 (0, 0)) := by rw [hw5]; exact heap_alloc_new _ _
  have N5 := N4.call hb5
  have hz4 : w.heap.size < w4.heap.size := lt_of_heap N4.zero
  have hzg : g < w4.heap.size := N4.lt
  clear hb hb5 N3 N4 r0 r1 r2 r3 r4 r5 r6 fr
  unfold zrd rc at hw5
  simp only [zrd, rc]
  go_upto_region 11 with fail
  rw [← hw5]
  clear hw5
  generalize w4.heap.size = g2 at *
  obtain ⟨-, -, -, -, cN, -, -, -⟩ := rc_cells N5.row
  obtain ⟨r0, r1, r2, r3, r4, r5, r6, fr⟩ := rc_cells hg5
  obtain ⟨q0, q1, q2, q3, q4, q5, q6, f⟩ := rc_cells N5.zero
  have HB := Lib.hid N5.below
  clear N5 hg5
  go_wp2_with fail
  refine bodyPost_ret (v := .agg (rc (0) 0 ⟨#[]⟩ (.slice none 0 0) (0) (0) (3))) (by simp [results, Tryz.results49, go_sem, q0, q1, q2, q3, q4, q5, q6, rc]) rfl ?_
  exact RItP.err (k := 0) H.out.2.2.2.1 (.inl rfl) (below_setCells w.heap.size (Nat.le_refl _) [.int .i64 (0), .int .i64 0, .string ⟨#[]⟩, .slice none 0 0, .int .i64 (0), .int .i64 (0), .int .i64 (3)] 0 w5 HB.out)
set_option maxRecDepth 100000 in
set_option maxHeartbeats 1000000 in
theorem ritem_text_short (s : ByteArray) (hs : s.size ≤ maxLen) (d : Nat) (p : Nat) (w : World) (hp : p ≤ 65536) {c : UInt8} {l' : List UInt8} (hO : oct p (s.data.toList.drop p) = .ok (c, l')) (hc : c.toNat = 8) {n q : Nat} {r' : List UInt8} (hN : rnum (p + 1) (s.data.toList.drop (p + 1)) = .ok (n, q, r')) (h1 : ¬ 65536 < q + n) (h2 : r'.length < n) :
    Calls Tryz.prog 49 #[.string s, .int .i64 (p : Int), .int .i64 (6 - (d : Int))] w (RItP w (ritem d p (s.data.toList.drop p))) := by
  obtain ⟨w1, hw1⟩ : ∃ w1, w1 = w.alloc (.cells (zrd 0 0 0) 68) := ⟨_, rfl⟩
  have hb1 : Below w.heap.size w w1 := by rw [hw1]; exact (Below.refl _ _).alloc (Nat.le_refl _) _
  have hg1 : w1.heap[w.heap.size]? = some (.cells (zrd 0 0 0) 68 (0, 0)) := by rw [hw1]; exact heap_alloc_new _ _
  unfold zrd rc at hw1
  have ho := roctet_any s hs p (by omega) w1
  obtain ⟨D, hD⟩ : ∃ D : Int, D = 6 - (d : Int) := ⟨_, rfl⟩
  rw [← hD]
  obtain ⟨R, hR⟩ : ∃ R, R = ritem d p (s.data.toList.drop p) := ⟨_, rfl⟩
  rw [← hR]
  have hpi : (p : Int) ≤ 65536 := by omega
  unfold octV at ho
  rw [hO] at ho
  simp only at ho
  obtain ⟨hp6, hdr⟩ := oct_ok.1 hO
  have hl' : l' = s.data.toList.drop (p + 1) := rest_drop (a := [c]) hdr rfl rfl
  obtain ⟨k, hk⟩ : ∃ k, k = c.toNat := ⟨_, rfl⟩
  rw [ritem.eq_def] at hR
  simp only at hR
  rw [hO] at hR
  simp only at hR
  rw [← hk] at hR ho hc
  rw [hl'] at hR
  rw [if_neg (by omega), if_neg (by omega), hN] at hR
  simp only at hR
  rw [if_pos hc] at hR
  unfold rtext at hR
  rw [if_neg h1, if_pos h2] at hR
  have hn := fun W => rnumber_any s hs (p + 1) (by omega) W
  rw [show ((p + 1 : Nat) : Int) = (p : Int) + 1 by omega, hN] at hn
  unfold numE at hn
  simp only at hn
  obtain ⟨e1, e2, e3, e4⟩ := rnum_ok hN
  have hr' : r' = s.data.toList.drop q := rest_drop e1 rfl e3
  have hni : (n : Int) < 72057594037927936 := by
    have : (256 : Nat) ^ 7 = 72057594037927936 := by decide
    omega
  have hqi : (q : Int) ≤ 65536 := by omega
  have hqs : q ≤ s.size := by
    have a1 := congrArg List.length e1
    have a2 := congrArg List.length hdr
    have a3 : s.data.toList.length = s.size := by simp
    rw [List.length_drop, List.length_append] at a1
    rw [List.length_drop, List.length_cons] at a2
    omega
  clear e1 e2 e3 e4
  have hk8 : ((k : Int) != 8) = false := by rw [bne_eq_false_iff_eq]; omega
  have hke : ((k : Int) == 9) = false := by rw [beq_eq_false_iff_ne]; omega
  have hkt : ((k : Int) == 8) = true := by rw [beq_iff_eq]; omega
  obtain ⟨S, hS⟩ : ∃ S, S = s.size := ⟨_, rfl⟩
  have hSi : (s.size : Int) = (S : Int) := by omega
  have hrl : r'.length = S - q := by rw [hr', List.length_drop, hS]; simp
  have hSm : (S : Int) ≤ 9223372036854775807 := by unfold maxLen at hs; omega
  have hg1' : decide ((65536 : Int) - (q : Int) < (n : Int)) = false := decide_eq_false (by omega)
  have hg2' : decide ((S : Int) - (q : Int) < (n : Int)) = true := decide_eq_true (by omega)
  have H := Lib.hid (And.intro ho (And.intro hb1 (And.intro hg1 (And.intro hR hn))))
  clear ho hb1 hg1 hR hO hD hN hn hc hdr hl' hk hr' hrl hS hs hqs h1 h2
  go_enter Tryz.func49, Tryz.ntmps49
  go_upto_region 1 with fail
  rw [← hw1]
  clear hw1
  go_wp2_with fail
  refine H.out.1.mono ?_
  rintro e w2 ⟨rfl, hb⟩
  have hz1 := lt_of_heap H.out.2.2.1
  obtain ⟨w3, hw3⟩ : ∃ w3, w3 = w2.alloc (.cells (zrd ((k : Int)) ((p : Int) + 1) (0)) 68) := ⟨_, rfl⟩
  have hb2 := H.out.2.1.trans (hb.mono H.out.2.1.size)
  have hb3 : Below w2.heap.size w2 w3 := by rw [hw3]; exact (Below.refl _ _).alloc (Nat.le_refl _) _
  have hg3 : w3.heap[w2.heap.size]? = some (.cells (zrd ((k : Int)) ((p : Int) + 1) (0)) 68 (0, 0)) := by rw [hw3]; exact heap_alloc_new _ _
  have hg2 := (hb3.block w.heap.size (Nat.lt_of_lt_of_le hz1 hb.size)).trans ((hb.block _ hz1).trans H.out.2.2.1)
  have N3 : NumW w w2.heap.size ((k : Int)) ((p : Int) + 1) (0) w3 := ⟨hb2.trans (hb3.mono hb2.size), hg2, hg3, Nat.lt_of_lt_of_le hz1 hb.size⟩
  clear hb hb2 hb3 hg2 hg3 hz1
  unfold zrd rc at hw3
  simp only [zrd, rc]
  go_upto_region 2 with fail
  rw [← hw3]
  clear hw3
  generalize w2.heap.size = g at *
  obtain ⟨r0, r1, r2, r3, r4, r5, r6, fr⟩ := rc_cells N3.row
  go_wp2_with fail
  refine (H.out.2.2.2.2 w3).mono ?_
  rintro e w4 ⟨rfl, hb⟩
  have N4 := N3.call hb
  obtain ⟨w5, hw5⟩ : ∃ w5, w5 = w4.alloc (.cells (zrd ((n : Int)) ((q : Int)) (0)) 68) := ⟨_, rfl⟩
  have hb5 : Below w4.heap.size w4 w5 := by rw [hw5]; exact (Below.refl _ _).alloc (Nat.le_refl _) _
  have hg5 : w5.heap[w4.heap.size]? = some (.cells (zrd ((n : Int)) ((q : Int)) (0)) 68 (0, 0)) := by rw [hw5]; exact heap_alloc_new _ _
  have N5 := N4.call hb5
  have hz4 : w.heap.size < w4.heap.size := lt_of_heap N4.zero
  have hzg : g < w4.heap.size := N4.lt
  clear hb hb5 N3 N4 r0 r1 r2 r3 r4 r5 r6 fr
  unfold zrd rc at hw5
  simp only [zrd, rc]
  go_upto_region 11 with fail
  rw [← hw5]
  clear hw5
  generalize w4.heap.size = g2 at *
  obtain ⟨-, -, -, -, cN, -, -, -⟩ := rc_cells N5.row
  obtain ⟨r0, r1, r2, r3, r4, r5, r6, fr⟩ := rc_cells hg5
  obtain ⟨q0, q1, q2, q3, q4, q5, q6, f⟩ := rc_cells N5.zero
  have HB := Lib.hid N5.below
  clear N5 hg5
  go_wp2_with fail
  refine bodyPost_ret (v := .agg (rc (0) 0 ⟨#[]⟩ (.slice none 0 0) (0) (0) (7))) (by simp [results, Tryz.results49, go_sem, q0, q1, q2, q3, q4, q5, q6, rc]) rfl ?_
  exact RItP.err (k := 0) H.out.2.2.2.1 (.inr rfl) (below_setCells w.heap.size (Nat.le_refl _) [.int .i64 (0), .int .i64 0, .string ⟨#[]⟩, .slice none 0 0, .int .i64 (0), .int .i64 (0), .int .i64 (7)] 0 w5 HB.out)
set_option maxRecDepth 100000 in
set_option maxHeartbeats 1000000 in
theorem ritem_text_good (s : ByteArray) (hs : s.size ≤ maxLen) (d : Nat) (p : Nat) (w : World) (hp : p ≤ 65536) {c : UInt8} {l' : List UInt8} (hO : oct p (s.data.toList.drop p) = .ok (c, l')) (hc : c.toNat = 8) {n q : Nat} {r' : List UInt8} (hN : rnum (p + 1) (s.data.toList.drop (p + 1)) = .ok (n, q, r')) (h1 : ¬ 65536 < q + n) (h2 : ¬ r'.length < n) :
    Calls Tryz.prog 49 #[.string s, .int .i64 (p : Int), .int .i64 (6 - (d : Int))] w (RItP w (ritem d p (s.data.toList.drop p))) := by
  obtain ⟨w1, hw1⟩ : ∃ w1, w1 = w.alloc (.cells (zrd 0 0 0) 68) := ⟨_, rfl⟩
  have hb1 : Below w.heap.size w w1 := by rw [hw1]; exact (Below.refl _ _).alloc (Nat.le_refl _) _
  have hg1 : w1.heap[w.heap.size]? = some (.cells (zrd 0 0 0) 68 (0, 0)) := by rw [hw1]; exact heap_alloc_new _ _
  unfold zrd rc at hw1
  have ho := roctet_any s hs p (by omega) w1
  obtain ⟨D, hD⟩ : ∃ D : Int, D = 6 - (d : Int) := ⟨_, rfl⟩
  rw [← hD]
  obtain ⟨R, hR⟩ : ∃ R, R = ritem d p (s.data.toList.drop p) := ⟨_, rfl⟩
  rw [← hR]
  have hpi : (p : Int) ≤ 65536 := by omega
  unfold octV at ho
  rw [hO] at ho
  simp only at ho
  obtain ⟨hp6, hdr⟩ := oct_ok.1 hO
  have hl' : l' = s.data.toList.drop (p + 1) := rest_drop (a := [c]) hdr rfl rfl
  obtain ⟨k, hk⟩ : ∃ k, k = c.toNat := ⟨_, rfl⟩
  rw [ritem.eq_def] at hR
  simp only at hR
  rw [hO] at hR
  simp only at hR
  rw [← hk] at hR ho hc
  rw [hl'] at hR
  rw [if_neg (by omega), if_neg (by omega), hN] at hR
  simp only at hR
  rw [if_pos hc] at hR
  unfold rtext at hR
  rw [if_neg h1, if_neg h2] at hR
  have hn := fun W => rnumber_any s hs (p + 1) (by omega) W
  rw [show ((p + 1 : Nat) : Int) = (p : Int) + 1 by omega, hN] at hn
  unfold numE at hn
  simp only at hn
  obtain ⟨e1, e2, e3, e4⟩ := rnum_ok hN
  have hr' : r' = s.data.toList.drop q := rest_drop e1 rfl e3
  have hni : (n : Int) < 72057594037927936 := by
    have : (256 : Nat) ^ 7 = 72057594037927936 := by decide
    omega
  have hqi : (q : Int) ≤ 65536 := by omega
  have hqs : q ≤ s.size := by
    have a1 := congrArg List.length e1
    have a2 := congrArg List.length hdr
    have a3 : s.data.toList.length = s.size := by simp
    rw [List.length_drop, List.length_append] at a1
    rw [List.length_drop, List.length_cons] at a2
    omega
  clear e1 e2 e3 e4
  have hk8 : ((k : Int) != 8) = false := by rw [bne_eq_false_iff_eq]; omega
  have hke : ((k : Int) == 9) = false := by rw [beq_eq_false_iff_ne]; omega
  have hkt : ((k : Int) == 8) = true := by rw [beq_iff_eq]; omega
  obtain ⟨S, hS⟩ : ∃ S, S = s.size := ⟨_, rfl⟩
  have hSi : (s.size : Int) = (S : Int) := by omega
  have hrl : r'.length = S - q := by rw [hr', List.length_drop, hS]; simp
  have hSm : (S : Int) ≤ 9223372036854775807 := by unfold maxLen at hs; omega
  have hg1' : decide ((65536 : Int) - (q : Int) < (n : Int)) = false := decide_eq_false (by omega)
  have hg2' : decide ((S : Int) - (q : Int) < (n : Int)) = false := decide_eq_false (by omega)
  have hqn : q + n ≤ s.size := by omega
  have hsl : ∀ W : World, (Instr.slice 9 (.string s) (some (.int .i64 (q : Int))) (some (.int .i64 ((q : Int) + (n : Int)))) none).run Tryz.prog W = .ok (.string (s.extract q (q + n))) W := fun W => by
    rw [run_slice_string W _ _ _ _ _ _ Tryz.underlying9 (by omega) (by omega) (by omega)]
    rw [Int.toNat_natCast, show ((q : Int) + (n : Int)).toNat = q + n by omega]
  have hT : (⟨(r'.take n).toArray⟩ : ByteArray) = s.extract q (q + n) := by
    refine (Go.WideShapes.bytes_inj ?_).symm
    rw [extract_data, hr']
    simp
  obtain ⟨T, hTT⟩ : ∃ T, T = s.extract q (q + n) := ⟨_, rfl⟩
  simp only [← hTT] at hsl hT
  rw [hT] at hR
  have hTs : T.size ≤ maxLen := by rw [hTT, ByteArray.size_extract]; omega
  have hwq : IntKind.i64.wrap ((q : Int) + (n : Int)) = (q : Int) + (n : Int) := IntWalk.i64_in _ (by omega)
  have H := Lib.hid (And.intro ho (And.intro hb1 (And.intro hg1 (And.intro hR (And.intro hn hTs)))))
  clear ho hb1 hg1 hR hO hD hN hn hc hdr hl' hk hr' hrl hS hs hqs h1 h2 hT hTT hTs hqn
  go_enter Tryz.func49, Tryz.ntmps49
  go_upto_region 1 with fail
  rw [← hw1]
  clear hw1
  go_wp2_with fail
  refine H.out.1.mono ?_
  rintro e w2 ⟨rfl, hb⟩
  have hz1 := lt_of_heap H.out.2.2.1
  obtain ⟨w3, hw3⟩ : ∃ w3, w3 = w2.alloc (.cells (zrd ((k : Int)) ((p : Int) + 1) (0)) 68) := ⟨_, rfl⟩
  have hb2 := H.out.2.1.trans (hb.mono H.out.2.1.size)
  have hb3 : Below w2.heap.size w2 w3 := by rw [hw3]; exact (Below.refl _ _).alloc (Nat.le_refl _) _
  have hg3 : w3.heap[w2.heap.size]? = some (.cells (zrd ((k : Int)) ((p : Int) + 1) (0)) 68 (0, 0)) := by rw [hw3]; exact heap_alloc_new _ _
  have hg2 := (hb3.block w.heap.size (Nat.lt_of_lt_of_le hz1 hb.size)).trans ((hb.block _ hz1).trans H.out.2.2.1)
  have N3 : NumW w w2.heap.size ((k : Int)) ((p : Int) + 1) (0) w3 := ⟨hb2.trans (hb3.mono hb2.size), hg2, hg3, Nat.lt_of_lt_of_le hz1 hb.size⟩
  clear hb hb2 hb3 hg2 hg3 hz1
  unfold zrd rc at hw3
  simp only [zrd, rc]
  go_upto_region 2 with fail
  rw [← hw3]
  clear hw3
  generalize w2.heap.size = g at *
  obtain ⟨r0, r1, r2, r3, r4, r5, r6, fr⟩ := rc_cells N3.row
  go_wp2_with fail
  refine (H.out.2.2.2.2.1 w3).mono ?_
  rintro e w4 ⟨rfl, hb⟩
  have N4 := N3.call hb
  obtain ⟨w5, hw5⟩ : ∃ w5, w5 = w4.alloc (.cells (zrd ((n : Int)) ((q : Int)) (0)) 68) := ⟨_, rfl⟩
  have hb5 : Below w4.heap.size w4 w5 := by rw [hw5]; exact (Below.refl _ _).alloc (Nat.le_refl _) _
  have hg5 : w5.heap[w4.heap.size]? = some (.cells (zrd ((n : Int)) ((q : Int)) (0)) 68 (0, 0)) := by rw [hw5]; exact heap_alloc_new _ _
  have N5 := N4.call hb5
  have hz4 : w.heap.size < w4.heap.size := lt_of_heap N4.zero
  have hzg : g < w4.heap.size := N4.lt
  clear hb hb5 N3 N4 r0 r1 r2 r3 r4 r5 r6 fr
  unfold zrd rc at hw5
  simp only [zrd, rc]
  go_upto_region 11 with fail
  rw [← hw5]
  clear hw5
  generalize w4.heap.size = g2 at *
  obtain ⟨-, -, -, -, cN, -, -, -⟩ := rc_cells N5.row
  obtain ⟨r0, r1, r2, r3, r4, r5, r6, fr⟩ := rc_cells hg5
  obtain ⟨q0, q1, q2, q3, q4, q5, q6, f⟩ := rc_cells N5.zero
  have HB := Lib.hid N5.below.drew
  go_wp2_with fail
  clear r0 r1 r2 r3 r4 r5 r6 fr q0 q1 q2 q3 q4 q5 q6 f cN
  have hg6 : w5.drew.heap[g2]? = some (.cells (zrd (n : Int) (q : Int) 0) 68 (0, 0)) := hg5
  have hz6 : w5.drew.heap[w.heap.size]? = some (.cells (zrd 0 0 0) 68 (0, 0)) := N5.zero
  clear hg5 N5
  obtain ⟨r0, r1, r2, r3, r4, r5, r6, fr⟩ := rc_cells hg6
  obtain ⟨q0, q1, q2, q3, q4, q5, q6, f⟩ := rc_cells hz6
  refine wp_region_still_tail 16 (by kernel_rfl) (by kernel_rfl) ?_
  simp only [List.take_succ_cons, List.take_zero, List.drop_succ_cons, List.drop_zero]
  repeat still_step
  refine wpStill_nil ?_
  change wpList _ _ _ _ _ w5.drew
  generalize w5.drew = w6 at *
  clear hg6 hz6
  go_wp2_with fail
  refine bodyPost_ret (v := .agg (rc 2 0 T (.slice none 0 0) 0 ((q : Int) + (n : Int)) 0)) (by simp [results, Tryz.results49, go_sem, q0, q1, q2, q3, q4, q5, q6, rc]) rfl ?_
  rw [H.out.2.2.2.1]
  exact ⟨below_setCells w.heap.size (Nat.le_refl _) [.int .i64 2, .int .i64 0, .string T, .slice none 0 0, .int .i64 0, .int .i64 ((q : Int) + (n : Int)), .int .i64 0] 0 w6 HB.out, .mk 2 0 T none 0 [], 0, rfl, rfl, ⟨H.out.2.2.2.2.2, ⟨Nat.zero_le _, fun h => absurd rfl h⟩, trivial⟩⟩
end Go.Proofs.YtgoimggfpagojaaGreatDoor
namespace Go.Proofs.YtgoimggfpagojaaGreatDoor
open Go.RowKit
open Cn

set_option maxRecDepth 100000 in
set_option maxHeartbeats 1000000 in
theorem ritem_list_long (s : ByteArray) (hs : s.size ≤ maxLen) (d : Nat) (p : Nat) (w : World) (hp : p ≤ 65536) {c : UInt8} {l' : List UInt8} (hO : oct p (s.data.toList.drop p) = .ok (c, l')) (hc : c.toNat = 9) {n q : Nat} {r' : List UInt8} (hN : rnum (p + 1) (s.data.toList.drop (p + 1)) = .ok (n, q, r')) (hd : 0 < d) (hd6 : d ≤ 6) (h1 : 1024 < n) :
    Calls Tryz.prog 49 #[.string s, .int .i64 (p : Int), .int .i64 (6 - (d : Int))] w (RItP w (ritem d p (s.data.toList.drop p))) := by
  obtain ⟨w1, hw1⟩ : ∃ w1, w1 = w.alloc (.cells (zrd 0 0 0) 68) := ⟨_, rfl⟩
  have hb1 : Below w.heap.size w w1 := by rw [hw1]; exact (Below.refl _ _).alloc (Nat.le_refl _) _
  have hg1 : w1.heap[w.heap.size]? = some (.cells (zrd 0 0 0) 68 (0, 0)) := by rw [hw1]; exact heap_alloc_new _ _
  unfold zrd rc at hw1
  have ho := roctet_any s hs p (by omega) w1
  obtain ⟨D, hD⟩ : ∃ D : Int, D = 6 - (d : Int) := ⟨_, rfl⟩
  rw [← hD]
  obtain ⟨R, hR⟩ : ∃ R, R = ritem d p (s.data.toList.drop p) := ⟨_, rfl⟩
  rw [← hR]
  have hpi : (p : Int) ≤ 65536 := by omega
  unfold octV at ho
  rw [hO] at ho
  simp only at ho
  obtain ⟨hp6, hdr⟩ := oct_ok.1 hO
  have hl' : l' = s.data.toList.drop (p + 1) := rest_drop (a := [c]) hdr rfl rfl
  obtain ⟨k, hk⟩ : ∃ k, k = c.toNat := ⟨_, rfl⟩
  rw [ritem.eq_def] at hR
  simp only at hR
  rw [hO] at hR
  simp only at hR
  rw [← hk] at hR ho hc
  rw [hl'] at hR
  rw [if_neg (by omega), if_neg (by omega), hN] at hR
  simp only at hR
  rw [if_neg (by omega)] at hR
  have hn := fun W => rnumber_any s hs (p + 1) (by omega) W
  rw [show ((p + 1 : Nat) : Int) = (p : Int) + 1 by omega, hN] at hn
  unfold numE at hn
  simp only at hn
  obtain ⟨e1, e2, e3, e4⟩ := rnum_ok hN
  have hr' : r' = s.data.toList.drop q := rest_drop e1 rfl e3
  have hni : (n : Int) < 72057594037927936 := by
    have : (256 : Nat) ^ 7 = 72057594037927936 := by decide
    omega
  have hqi : (q : Int) ≤ 65536 := by omega
  have hqs : q ≤ s.size := by
    have a1 := congrArg List.length e1
    have a2 := congrArg List.length hdr
    have a3 : s.data.toList.length = s.size := by simp
    rw [List.length_drop, List.length_append] at a1
    rw [List.length_drop, List.length_cons] at a2
    omega
  clear e1 e2 e3 e4
  have hk8 : ((k : Int) != 8) = true := by rw [bne_iff_ne]; omega
  have hk9 : ((k : Int) != 9) = false := by rw [bne_eq_false_iff_eq]; omega
  have hke : ((k : Int) == 9) = true := by rw [beq_iff_eq]; omega
  have hkt : ((k : Int) == 8) = false := by rw [beq_eq_false_iff_ne]; omega
  have hDd : decide ((6 : Int) ≤ D) = false := decide_eq_false (by omega)
  rw [if_pos h1] at hR
  have hg1' : decide ((1024 : Int) < (n : Int)) = true := decide_eq_true (by omega)
  have H := Lib.hid (And.intro ho (And.intro hb1 (And.intro hg1 (And.intro hR hn))))
  clear ho hb1 hg1 hR hO hD hN hn hc hdr hl' hk hr' hs hqs h1 hd hd6
  go_enter Tryz.func49, Tryz.ntmps49
  go_upto_region 1 with fail
  rw [← hw1]
  clear hw1
  go_wp2_with fail
  refine H.out.1.mono ?_
  rintro e w2 ⟨rfl, hb⟩
  have hz1 := lt_of_heap H.out.2.2.1
  obtain ⟨w3, hw3⟩ : ∃ w3, w3 = w2.alloc (.cells (zrd ((k : Int)) ((p : Int) + 1) (0)) 68) := ⟨_, rfl⟩
  have hb2 := H.out.2.1.trans (hb.mono H.out.2.1.size)
  have hb3 : Below w2.heap.size w2 w3 := by rw [hw3]; exact (Below.refl _ _).alloc (Nat.le_refl _) _
  have hg3 : w3.heap[w2.heap.size]? = some (.cells (zrd ((k : Int)) ((p : Int) + 1) (0)) 68 (0, 0)) := by rw [hw3]; exact heap_alloc_new _ _
  have hg2 := (hb3.block w.heap.size (Nat.lt_of_lt_of_le hz1 hb.size)).trans ((hb.block _ hz1).trans H.out.2.2.1)
  have N3 : NumW w w2.heap.size ((k : Int)) ((p : Int) + 1) (0) w3 := ⟨hb2.trans (hb3.mono hb2.size), hg2, hg3, Nat.lt_of_lt_of_le hz1 hb.size⟩
  clear hb hb2 hb3 hg2 hg3 hz1
  unfold zrd rc at hw3
  simp only [zrd, rc]
  go_upto_region 2 with fail
  rw [← hw3]
  clear hw3
  generalize w2.heap.size = g at *
  obtain ⟨r0, r1, r2, r3, r4, r5, r6, fr⟩ := rc_cells N3.row
  go_wp2_with fail
  refine (H.out.2.2.2.2 w3).mono ?_
  rintro e w4 ⟨rfl, hb⟩
  have N4 := N3.call hb
  obtain ⟨w5, hw5⟩ : ∃ w5, w5 = w4.alloc (.cells (zrd ((n : Int)) ((q : Int)) (0)) 68) := ⟨_, rfl⟩
  have hb5 : Below w4.heap.size w4 w5 := by rw [hw5]; exact (Below.refl _ _).alloc (Nat.le_refl _) _
  have hg5 : w5.heap[w4.heap.size]? = some (.cells (zrd ((n : Int)) ((q : Int)) (0)) 68 (0, 0)) := by rw [hw5]; exact heap_alloc_new _ _
  have N5 := N4.call hb5
  have hz4 : w.heap.size < w4.heap.size := lt_of_heap N4.zero
  have hzg : g < w4.heap.size := N4.lt
  clear hb hb5 N3 N4 r0 r1 r2 r3 r4 r5 r6 fr
  unfold zrd rc at hw5
  simp only [zrd, rc]
  go_upto_region 11 with fail
  rw [← hw5]
  clear hw5
  generalize w4.heap.size = g2 at *
  obtain ⟨-, -, -, -, cN, -, -, -⟩ := rc_cells N5.row
  obtain ⟨r0, r1, r2, r3, r4, r5, r6, fr⟩ := rc_cells hg5
  obtain ⟨q0, q1, q2, q3, q4, q5, q6, f⟩ := rc_cells N5.zero
  have HB := Lib.hid N5.below
  clear N5 hg5
  go_wp2_with fail
  refine bodyPost_ret (v := .agg (rc (0) 0 ⟨#[]⟩ (.slice none 0 0) (0) (0) (3))) (by simp [results, Tryz.results49, go_sem, q0, q1, q2, q3, q4, q5, q6, rc]) rfl ?_
  exact RItP.err (k := 0) H.out.2.2.2.1 (.inl rfl) (below_setCells w.heap.size (Nat.le_refl _) [.int .i64 (0), .int .i64 0, .string ⟨#[]⟩, .slice none 0 0, .int .i64 (0), .int .i64 (0), .int .i64 (3)] 0 w5 HB.out)
set_option maxRecDepth 100000 in
set_option maxHeartbeats 1000000 in
theorem slice_form {w : World} {a : Option Addr} {e : TypeId} {k n cap : Nat} {xs : List Value} (h : w.ownsRow 0 e k (.slice a (n + 1) cap) (n + 1) xs) : ∃ g, a = some ⟨g, 0, none⟩ := by
  rcases h.2 with ⟨_, h0⟩ | ⟨g, c, cur, e, _⟩
  · omega
  · injection e with e1 _ _
    exact ⟨g, e1⟩
theorem it_cells {W : World} {g : Nat} {k n : Int} {s : ByteArray} {l : Value} {t : TypeId} (h : W.heap[g]? = some (.cells #[.int .i64 k, .int .i64 n, .string s, l] t (0, 0))) :
    W.cell? ⟨g, 0, none⟩ = some (.int .i64 k) ∧ W.cell? ⟨g, 1, none⟩ = some (.int .i64 n) ∧ W.cell? ⟨g, 2, none⟩ = some (.string s) ∧ W.cell? ⟨g, 3, none⟩ = some l :=
  ⟨by rw [Lib.cell_of_heap h]; rfl, by rw [Lib.cell_of_heap h]; rfl, by rw [Lib.cell_of_heap h]; rfl, by rw [Lib.cell_of_heap h]; rfl⟩
set_option maxRecDepth 100000 in
set_option maxHeartbeats 1000000 in
theorem ritem_list (s : ByteArray) (hs : s.size ≤ maxLen) (d' d : Nat) (p : Nat) (w : World) (hp : p ≤ 65536) (hd : d = d' + 1) (hd6 : d ≤ 6) (ih : RItSo s d') {c : UInt8} {l' : List UInt8} (hO : oct p (s.data.toList.drop p) = .ok (c, l')) (hc : c.toNat = 9) {n q : Nat} {r' : List UInt8} (hN : rnum (p + 1) (s.data.toList.drop (p + 1)) = .ok (n, q, r')) (h1 : ¬ 1024 < n) :
    Calls Tryz.prog 49 #[.string s, .int .i64 (p : Int), .int .i64 (6 - (d : Int))] w (RItP w (ritem d p (s.data.toList.drop p))) := by
  obtain ⟨w1, hw1⟩ : ∃ w1, w1 = w.alloc (.cells (zrd 0 0 0) 68) := ⟨_, rfl⟩
  have hb1 : Below w.heap.size w w1 := by rw [hw1]; exact (Below.refl _ _).alloc (Nat.le_refl _) _
  have hg1 : w1.heap[w.heap.size]? = some (.cells (zrd 0 0 0) 68 (0, 0)) := by rw [hw1]; exact heap_alloc_new _ _
  unfold zrd rc at hw1
  have ho := roctet_any s hs p (by omega) w1
  obtain ⟨D, hD⟩ : ∃ D : Int, D = 6 - (d : Int) := ⟨_, rfl⟩
  rw [← hD]
  obtain ⟨R, hR⟩ : ∃ R, R = ritem d p (s.data.toList.drop p) := ⟨_, rfl⟩
  rw [← hR]
  have hpi : (p : Int) ≤ 65536 := by omega
  unfold octV at ho
  rw [hO] at ho
  simp only at ho
  obtain ⟨hp6, hdr⟩ := oct_ok.1 hO
  have hl' : l' = s.data.toList.drop (p + 1) := rest_drop (a := [c]) hdr rfl rfl
  obtain ⟨k, hk⟩ : ∃ k, k = c.toNat := ⟨_, rfl⟩
  rw [ritem.eq_def] at hR
  simp only at hR
  rw [hO] at hR
  simp only at hR
  rw [← hk] at hR ho hc
  rw [hl'] at hR
  rw [if_neg (by omega), if_neg (by omega), hN] at hR
  simp only at hR
  rw [if_neg (by omega)] at hR
  have hn := fun W => rnumber_any s hs (p + 1) (by omega) W
  rw [show ((p + 1 : Nat) : Int) = (p : Int) + 1 by omega, hN] at hn
  unfold numE at hn
  simp only at hn
  obtain ⟨e1, e2, e3, e4⟩ := rnum_ok hN
  have hr' : r' = s.data.toList.drop q := rest_drop e1 rfl e3
  have hni : (n : Int) < 72057594037927936 := by
    have : (256 : Nat) ^ 7 = 72057594037927936 := by decide
    omega
  have hqi : (q : Int) ≤ 65536 := by omega
  have hqs : q ≤ s.size := by
    have a1 := congrArg List.length e1
    have a2 := congrArg List.length hdr
    have a3 : s.data.toList.length = s.size := by simp
    rw [List.length_drop, List.length_append] at a1
    rw [List.length_drop, List.length_cons] at a2
    omega
  clear e1 e2 e3 e4
  have hk8 : ((k : Int) != 8) = true := by rw [bne_iff_ne]; omega
  have hk9 : ((k : Int) != 9) = false := by rw [bne_eq_false_iff_eq]; omega
  have hke : ((k : Int) == 9) = true := by rw [beq_iff_eq]; omega
  have hkt : ((k : Int) == 8) = false := by rw [beq_eq_false_iff_ne]; omega
  have hDd : decide ((6 : Int) ≤ D) = false := decide_eq_false (by omega)
  rw [if_neg h1] at hR
  subst hd
  simp only at hR
  rw [hr'] at hR
  obtain ⟨L, hL⟩ : ∃ L : Nat → List UInt8, L = fun i => s.data.toList.drop i := ⟨_, rfl⟩
  have hLi : ∀ i, s.data.toList.drop i = L i := fun i => by rw [hL]
  have hih : ∀ (a : Nat) (W : World), a ≤ 65536 → Calls Tryz.prog 49 #[.string s, .int .i64 (a : Int), .int .i64 (D + 1)] W (RItP W (ritem d' a (L a))) := fun a W ha => by
    have := ih a W ha
    rw [hLi] at this
    rwa [show D + 1 = 6 - (d' : Int) by omega]
  have hrest : ∀ a x q' r', ritem d' a (L a) = .ok (x, q', r') → r' = L q' ∧ q' ≤ 65536 := fun a x q' r' h => by
    obtain ⟨e1, e2, e3, e4⟩ := ritem_ok _ _ _ _ _ _ h
    rw [← hLi] at e1 ⊢
    exact ⟨rest_drop e1 rfl e3, e4⟩
  rw [hLi] at hR
  have hg1' : decide ((1024 : Int) < (n : Int)) = false := decide_eq_false (by omega)
  have hD5 : D ≤ 5 := by omega
  have hD0 : 0 ≤ D := by omega
  have hn1 : (n : Int) ≤ 1024 := by omega
  have hq2 : q ≤ 65536 := by omega
  have H := Lib.hid (And.intro ho (And.intro hb1 (And.intro hg1 (And.intro hR (And.intro hn (And.intro hih hrest))))))
  clear ho hb1 hg1 hR hO hD hN hn hc hdr hl' hk hr' hs hqs h1 hd6 ih hih hrest hLi hL
  go_enter Tryz.func49, Tryz.ntmps49
  go_upto_region 1 with fail
  rw [← hw1]
  clear hw1
  go_wp2_with fail
  refine H.out.1.mono ?_
  rintro e w2 ⟨rfl, hb⟩
  have hz1 := lt_of_heap H.out.2.2.1
  obtain ⟨w3, hw3⟩ : ∃ w3, w3 = w2.alloc (.cells (zrd ((k : Int)) ((p : Int) + 1) (0)) 68) := ⟨_, rfl⟩
  have hb2 := H.out.2.1.trans (hb.mono H.out.2.1.size)
  have hb3 : Below w2.heap.size w2 w3 := by rw [hw3]; exact (Below.refl _ _).alloc (Nat.le_refl _) _
  have hg3 : w3.heap[w2.heap.size]? = some (.cells (zrd ((k : Int)) ((p : Int) + 1) (0)) 68 (0, 0)) := by rw [hw3]; exact heap_alloc_new _ _
  have hg2 := (hb3.block w.heap.size (Nat.lt_of_lt_of_le hz1 hb.size)).trans ((hb.block _ hz1).trans H.out.2.2.1)
  have N3 : NumW w w2.heap.size ((k : Int)) ((p : Int) + 1) (0) w3 := ⟨hb2.trans (hb3.mono hb2.size), hg2, hg3, Nat.lt_of_lt_of_le hz1 hb.size⟩
  clear hb hb2 hb3 hg2 hg3 hz1
  unfold zrd rc at hw3
  simp only [zrd, rc]
  go_upto_region 2 with fail
  rw [← hw3]
  clear hw3
  generalize w2.heap.size = g at *
  obtain ⟨r0, r1, r2, r3, r4, r5, r6, fr⟩ := rc_cells N3.row
  go_wp2_with fail
  refine (H.out.2.2.2.2.1 w3).mono ?_
  rintro e w4 ⟨rfl, hb⟩
  have N4 := N3.call hb
  obtain ⟨w5, hw5⟩ : ∃ w5, w5 = w4.alloc (.cells (zrd ((n : Int)) ((q : Int)) (0)) 68) := ⟨_, rfl⟩
  have hb5 : Below w4.heap.size w4 w5 := by rw [hw5]; exact (Below.refl _ _).alloc (Nat.le_refl _) _
  have hg5 : w5.heap[w4.heap.size]? = some (.cells (zrd ((n : Int)) ((q : Int)) (0)) 68 (0, 0)) := by rw [hw5]; exact heap_alloc_new _ _
  have N5 := N4.call hb5
  have hz4 : w.heap.size < w4.heap.size := lt_of_heap N4.zero
  have hzg : g < w4.heap.size := N4.lt
  clear hb hb5 N3 N4 r0 r1 r2 r3 r4 r5 r6 fr
  unfold zrd rc at hw5
  simp only [zrd, rc]
  go_upto_region 11 with fail
  rw [← hw5]
  clear hw5
  generalize w4.heap.size = g2 at *
  obtain ⟨-, -, -, -, cN, -, -, -⟩ := rc_cells N5.row
  obtain ⟨r0, r1, r2, r3, r4, r5, r6, fr⟩ := rc_cells hg5
  obtain ⟨q0, q1, q2, q3, q4, q5, q6, f⟩ := rc_cells N5.zero
  go_upto_region 21 with fail
  clear cN
  obtain ⟨w6, hw6⟩ : ∃ w6, w6 = w5.alloc (.cells #[.int .i64 3, .int .i64 0, .string ⟨#[]⟩, .slice none 0 0] 45) := ⟨_, rfl⟩
  have hb6 : Below w5.heap.size w5 w6 := by rw [hw6]; exact (Below.refl _ _).alloc (Nat.le_refl _) _
  have hg6 : w6.heap[w5.heap.size]? = some (.cells #[.int .i64 3, .int .i64 0, .string ⟨#[]⟩, .slice none 0 0] 45 (0, 0)) := by rw [hw6]; exact heap_alloc_new _ _
  have hs6 : w6.heap.size = w5.heap.size + 1 := by rw [hw6]; simp
  have hl5 := lt_of_heap hg5
  have hL0 : RList L w g2 w5.heap.size w6.heap.size n d' q (q : Int) 0 [] none 0 q w6 := by
    have N6 := N5.call hb6
    exact ⟨N6.below, N6.zero, (hb6.block _ hl5).trans hg5, hg6, ⟨hz4, hl5, by omega⟩, rfl, World.ownsRow_nil _ _ _ _, fun g hg => by simp [Value.ownBlock] at hg, trivial, Nat.le_refl _, by
      rw [Nat.sub_zero]
      show _ = comb [] _
      cases ritems (ritem d') n q (L q) with
      | error e => rfl
      | ok y => obtain ⟨ys, q', r'⟩ := y; rfl, hq2⟩
  have HL0 := Lib.hid hL0
  clear hL0 hb6 hg6 hs6 hl5 N5 hg5 r0 r1 r2 r3 r4 r5 r6 fr q0 q1 q2 q3 q4 q5 q6 f
  generalize hB : w6.heap.size = B at HL0
  go_upto_region 22 with fail
  rw [← hw6]
  clear hw6 hB
  generalize w5.heap.size = g3 at *
  obtain ⟨r0, r1, r2, r3, r4, r5, r6, fr⟩ := rc_cells HL0.out.row2
  go_wp2_with fail
  clear r0 r1 r2 r3 r4 r5 r6 fr hp6 hq2 hp hpi hqi hni
  go_loopw [11, 12, 13] (fun t i _ wr => ∃ (j a : Nat) (xs : List It) (ad : Option Addr) (cp : Nat), j ≤ n ∧ i = .int .i64 (j : Int) ∧ t = .int .i64 (a : Int) ∧ RList L w g2 g3 B n d' q (q : Int) j xs ad cp a wr) (fun _ i _ _ => n - (intOf i).toNat)
  case atStart => exact ⟨0, q, [], none, 0, by omega, rfl, rfl, HL0.out⟩
  case round =>
    clear HL0
    obtain ⟨j, a, xs, ad, cp, hj, rfl, rfl, hR⟩ := hrel
    obtain ⟨-, -, -, -, r4, -, -, -⟩ := rc_cells hR.row2
    by_cases hlt : j < n
    · have hji : (j : Int) < (n : Int) := by omega
      have hih := H.out.2.2.2.2.2.1 a wr hR.place
      have hrest := H.out.2.2.2.2.2.2 a
      cases hI : ritem d' a (L a) with
      | error x =>
        rw [hI] at hih
        have HE := Lib.hid (show R = .error x by rw [H.out.2.2.2.1, hR.err hlt hI])
        have HR := Lib.hid (And.intro hR hih)
        clear hR hih hrest hI
        go_wp2_with fail
        refine HR.out.2.mono ?_
        rintro e w7 ⟨hb, hx, k2, rfl⟩
        have hx0 : (x != 0) = true := by rcases hx with rfl | rfl <;> rfl
        have HX := Lib.hid hx
        have R7 := HR.out.1.call hb
        obtain ⟨w8, hw8⟩ : ∃ w8, w8 = w7.alloc (.cells (rc k2 0 ⟨#[]⟩ (.slice none 0 0) 0 0 x) 68) := ⟨_, rfl⟩
        have hb8 : Below w7.heap.size w7 w8 := by rw [hw8]; exact (Below.refl _ _).alloc (Nat.le_refl _) _
        have hg8 : w8.heap[w7.heap.size]? = some (.cells (rc k2 0 ⟨#[]⟩ (.slice none 0 0) 0 0 x) 68 (0, 0)) := by rw [hw8]; exact heap_alloc_new _ _
        have R8 := R7.call hb8
        unfold rc at hw8
        clear r4 hx hb hb8 R7
        simp only [rc]
        go_upto_region 27 with fail
        rw [← hw8]
        clear hw8
        generalize w7.heap.size = g4 at *
        obtain ⟨r0, r1, r2, r3, r4, r5, r6, fr⟩ := rc_cells hg8
        obtain ⟨q0, q1, q2, q3, q4, q5, q6, f⟩ := rc_cells R8.zero
        have HB := Lib.hid R8.below
        clear R8 hg8
        go_wp2_with fail
        refine bodyPost_ret (v := .agg (rc (k2) 0 ⟨#[]⟩ (.slice none 0 0) (0) (0) (x))) (by simp [results, Tryz.results49, go_sem, q0, q1, q2, q3, q4, q5, q6, rc]) rfl ?_
        exact RItP.err (k := k2) HE.out HX.out (below_setCells w.heap.size (Nat.le_refl _) [.int .i64 (k2), .int .i64 0, .string ⟨#[]⟩, .slice none 0 0, .int .i64 (0), .int .i64 (0), .int .i64 (x)] 0 w8 HB.out)
      | ok y =>
        obtain ⟨x, q', r'⟩ := y
        obtain ⟨hrq, hq6⟩ := hrest _ _ _ hI
        rw [hrq] at hI
        rw [hI] at hih
        have HR := Lib.hid (And.intro hR (And.intro hih (And.intro hI hq6)))
        clear hR hih hrest hI hrq hq6
        go_wp2_with fail
        refine HR.out.2.1.mono ?_
        rintro e w7 ⟨hb, it, N, hpi, rfl, hit⟩
        obtain ⟨yk, yn, ys, ya, yc, yl⟩ := it
        simp only [It.k, It.n, It.s, It.lv, It.a, It.l, It.cap] at *
        have R7 := HR.out.1.call hb
        obtain ⟨w8, hw8⟩ : ∃ w8, w8 = w7.alloc (.cells (rc yk yn ys (.slice ya yl.length yc) N (q' : Int) 0) 68) := ⟨_, rfl⟩
        have hb8 : Below w7.heap.size w7 w8 := by rw [hw8]; exact (Below.refl _ _).alloc (Nat.le_refl _) _
        have hg8 : w8.heap[w7.heap.size]? = some (.cells (rc yk yn ys (.slice ya yl.length yc) N (q' : Int) 0) 68 (0, 0)) := by rw [hw8]; exact heap_alloc_new _ _
        have R8 := R7.call hb8
        have hit8 : It.In w8 (wr.heap.size ≤ ·) (.mk yk yn ys ya yc yl) := It.In.kept ⟨fun b hb _ => ⟨hb, hb8.block b (by assumption)⟩, hb8.size⟩ _ hit
        have hbw8 := hb.trans (hb8.mono hb.size)
        have hgl4 := hb.size
        have hg3l := lt_of_heap R8.row3
        unfold rc at hw8
        obtain ⟨s0, s1, s2, s3⟩ := it_cells R8.row3
        have fx : ∀ jj, w8.frozen? ⟨g3, jj, none⟩ = false := fun jj => Lib.frozen_of_heap R8.row3 jj
        clear r4 hb hb8 R7 hit
        simp only [rc]
        go_upto_region 27 with fail
        rw [← hw8]
        clear hw8
        generalize w7.heap.size = g4 at *
        obtain ⟨r0, r1, r2, r3, r4, r5, r6, fr⟩ := rc_cells hg8
        have hI2 : ritem d' a (L a) = .ok ((It.mk yk yn ys ya yc yl).pure, q', L q') := by rw [hpi]; exact HR.out.2.2.1
        obtain ⟨i0, hi0, hz0, hz1, hz2⟩ := info_parts info_rit
        have hg4l := lt_of_heap hg8
        have H8 := Lib.hid (And.intro R8 (And.intro hit8 (And.intro hbw8 (And.intro hI2 (And.intro hg8 (And.intro hpi hi0))))))
        have hown8 := Lib.hid R8.own
        have hob8 := Lib.hid R8.ownlt
        have hx3 := Lib.hid R8.row3
        have hz8 := hbw8.size
        have hob := Lib.hid HR.out.1.ownlt
        have hgg : g4 ≠ g3 := fun e => by
          have h1 := R8.row3
          rw [← e, hg8] at h1
          injection h1 with h1
          injection h1 with _ h1
          exact absurd h1 (by decide)
        clear R8 hit8 hbw8 hI2 hg8 hpi fr r0 r1 r2 r3 r4 r5 r6
        obtain ⟨r0, r1, r2, r3, r4, r5, r6, fr⟩ := rc_cells H8.out.2.2.2.2.1
        go_wp2_with (at_builtin; (refine wpList_append_src rfl (.tmp 111) (.tmp 114) 43 43 rfl 45 i0 (.agg #[.int .i64 0, .int .i64 0, .string ⟨#[]⟩, .slice none 0 0]) 4 56 Tryz.underlying43 H8.out.2.2.2.2.2.2 hz0 hz1 hz2 rfl (.slice ad j cp) j (flat xs) rfl (hown8.out.alloc _) (.slice (some ⟨w8.heap.size, 0, none⟩) 1 1) 1 [.int .i64 yk, .int .i64 yn, .string ys, .slice ya yl.length yc] rfl (Src.ofSlice _ Tryz.underlying43 ⟨w8.heap.size, 0, none⟩ 1 1 [.int .i64 yk, .int .i64 yn, .string ys, .slice ya yl.length yc] rfl (World.news_of_block (heap_alloc_new _ _)) (by intro u hu; simp at hu; rcases hu with rfl | rfl | rfl | rfl <;> rfl)) (by omega) (by omega) (fun ad2 cap2 w10 h1 h2 h3 => ?_); obtain ⟨g', rfl⟩ := slice_form h1; have hx10 : w10.heap[g3]? = some (.cells #[.int .i64 3, .int .i64 0, .string ⟨#[]⟩, .slice ad j cp] 45 (0, 0)) := (h2.block g3 (by simp; omega) (fun e => by have := hob8.out g3 e.symm; have := H8.out.1.gl; omega)).trans ((Lib.alloc_old _ _ _ hg3l).trans hx3.out); have hy10 : w10.heap[g4]? = some (.cells (rc yk yn ys (.slice ya yl.length yc) N (q' : Int) 0) 68 (0, 0)) := (h2.block g4 (by simp; omega) (fun e => by have := hob.out g4 e.symm; omega)).trans ((Lib.alloc_old _ _ _ hg4l).trans H8.out.2.2.2.2.1); obtain ⟨-, -, -, t3⟩ := it_cells hx10; have tf : w10.frozen? ⟨g3, 3, none⟩ = false := Lib.frozen_of_heap hx10 3; obtain ⟨-, -, -, -, -, u5, -, -⟩ := rc_cells hy10; have HA := Lib.hid (And.intro h1 (And.intro h2 h3)); clear h1 h2 h3 hx10 hy10))
        go_roundw
        case rel => exact ⟨j + 1, q', xs ++ [.mk yk yn ys ya yc yl], _, _, by omega, by go_num, rfl, RList.next (it := .mk yk yn ys ya yc yl) HR.out.1 hlt (H8.out.2.2.1.trans ((Below.refl _ _).alloc (by omega) _)) (It.In.kept ⟨fun b hb hl => ⟨hb, Lib.alloc_old _ _ _ hl⟩, by simp⟩ _ H8.out.2.1) HA.out.1 HA.out.2.1 ((HA.out.2.2 _ rfl).imp id And.left) H8.out.2.2.2.1 HR.out.2.2.2⟩
        case measure => simp [intOf]; omega
    · obtain rfl : n = j := by omega
      obtain ⟨q0, q1, q2, q3, q4, q5, q6, f⟩ := rc_cells hR.zero
      obtain ⟨s0, s1, s2, s3⟩ := it_cells hR.row3
      have HD := Lib.hid (hR.done (by unfold maxLen; omega) H.out.2.2.2.1)
      clear hR
      go_wp2_with fail
      refine bodyPost_ret (v := .agg (rc 3 0 ⟨#[]⟩ (.slice ad n cp) 0 (a : Int) 0)) (by simp [results, Tryz.results49, go_sem, q0, q1, q2, q3, q4, q5, q6, rc]) rfl ?_
      exact HD.out
/-- item, any. -/
theorem ritem_any (s : ByteArray) (hs : s.size ≤ maxLen) : ∀ d, d ≤ 6 → RItSo s d
  | d, hd6 => fun p w hp => by
    cases hO : oct p (s.data.toList.drop p) with
    | error x => exact ritem_none s hs d p w hp hO
    | ok cl =>
      obtain ⟨c, l'⟩ := cl
      by_cases hc : c.toNat ≠ 8 ∧ c.toNat ≠ 9
      · cases hN : rnum p (s.data.toList.drop p) with
        | error x => exact ritem_num_bad s hs d p w hp hO hc hN
        | ok y => obtain ⟨n, q, r'⟩ := y; exact ritem_num_good s hs d p w hp hO hc hN
      by_cases hc8 : c.toNat = 8
      · cases hN : rnum (p + 1) (s.data.toList.drop (p + 1)) with
        | error x => exact ritem_bad8 s hs d p w hp hO hc8 hN
        | ok y =>
          obtain ⟨n, q, r'⟩ := y
          by_cases h1 : 65536 < q + n
          · exact ritem_text_long s hs d p w hp hO hc8 hN h1
          · by_cases h2 : r'.length < n
            · exact ritem_text_short s hs d p w hp hO hc8 hN h1 h2
            · exact ritem_text_good s hs d p w hp hO hc8 hN h1 h2
      · have hc9 : c.toNat = 9 := by omega
        match d, hd6 with
        | 0, _ => exact ritem_deep s hs 0 p w hp hO hc9 rfl
        | d + 1, hd6 =>
          cases hN : rnum (p + 1) (s.data.toList.drop (p + 1)) with
          | error x => exact ritem_bad9 s hs (d + 1) p w hp hO hc9 (by omega) hd6 hN
          | ok y =>
            obtain ⟨n, q, r'⟩ := y
            by_cases h1 : 1024 < n
            · exact ritem_list_long s hs (d + 1) p w hp hO hc9 hN (by omega) hd6 h1
            · exact ritem_list s hs d (d + 1) p w hp rfl hd6 (ritem_any s hs d (by omega)) hO hc9 hN h1
/-- What the reference's Front hands back. -/
def RFrP (w : World) (R : Except Int (Pt × Nat × List UInt8)) (e : Ending) (w' : World) : Prop :=
  Below w.heap.size w w' ∧ match R with
    | .error x => (x = 3 ∨ x = 7) ∧ e = .returned (.agg (zrd 0 0 x))
    | .ok (x, q, _) => ∃ it : It, it.pure = x ∧ e = .returned (.agg (rc it.k it.n it.s it.lv 0 q 0)) ∧ it.In w' (w.heap.size ≤ ·)
set_option maxRecDepth 100000 in
set_option maxHeartbeats 1000000 in
theorem rfront_any (s : ByteArray) (hs : s.size ≤ maxLen) (w : World) : Calls Tryz.prog 31 #[.string s] w (RFrP w (ritem 6 0 s.data.toList)) := by
  obtain ⟨w1, hw1⟩ : ∃ w1, w1 = w.alloc (.cells (zrd 0 0 0) 68) := ⟨_, rfl⟩
  have hb1 : Below w.heap.size w w1 := by rw [hw1]; exact (Below.refl _ _).alloc (Nat.le_refl _) _
  have hg1 : w1.heap[w.heap.size]? = some (.cells (zrd 0 0 0) 68 (0, 0)) := by rw [hw1]; exact heap_alloc_new _ _
  have hs1 : w1.heap.size = w.heap.size + 1 := by rw [hw1]; simp
  unfold zrd rc at hw1
  have hi : Calls Tryz.prog 49 #[.string s, .int .i64 0, .int .i64 0] w1 (RItP w1 (ritem 6 0 s.data.toList)) := ritem_any s hs 6 (Nat.le_refl _) 0 w1 (Nat.zero_le _)
  obtain ⟨R, hR⟩ : ∃ R, R = ritem 6 0 s.data.toList := ⟨_, rfl⟩
  rw [← hR] at hi ⊢
  have H := Lib.hid (And.intro hi (And.intro hb1 (And.intro hg1 hs1)))
  clear hi hb1 hg1 hs1 hR hs
  go_enter Tryz.func31, Tryz.ntmps31
  go_upto_region 1 with fail
  rw [← hw1]
  clear hw1
  go_wp2_with fail
  refine H.out.1.mono ?_
  rintro e w2 ⟨hb, hres⟩
  have hz1 := lt_of_heap H.out.2.2.1
  have hb2 := H.out.2.1.trans (hb.mono H.out.2.1.size)
  cases R with
  | error x =>
    obtain ⟨hx, k, rfl⟩ := hres
    have hx0 : (x != 0) = true := by rcases hx with rfl | rfl <;> rfl
    obtain ⟨w3, hw3⟩ : ∃ w3, w3 = w2.alloc (.cells (rc k 0 ⟨#[]⟩ (.slice none 0 0) 0 0 x) 68) := ⟨_, rfl⟩
    have hb3 : Below w2.heap.size w2 w3 := by rw [hw3]; exact (Below.refl _ _).alloc (Nat.le_refl _) _
    have hg3 : w3.heap[w2.heap.size]? = some (.cells (rc k 0 ⟨#[]⟩ (.slice none 0 0) 0 0 x) 68 (0, 0)) := by rw [hw3]; exact heap_alloc_new _ _
    have hg2 := (hb3.block w.heap.size (Nat.lt_of_lt_of_le hz1 hb.size)).trans ((hb.block _ hz1).trans H.out.2.2.1)
    obtain ⟨q0, q1, q2, q3, q4, q5, q6, f⟩ := rc_cells hg2
    obtain ⟨r0, r1, r2, r3, r4, r5, r6, fr⟩ := rc_cells hg3
    have HB := Lib.hid (And.intro (hb2.trans (hb3.mono hb2.size)) hx)
    clear hb hb2 hb3 hg2 hg3 hz1 hx
    unfold rc at hw3
    simp only [rc]
    go_upto_region 2 with fail
    rw [← hw3]
    clear hw3
    go_wp2_with fail
    refine bodyPost_ret (v := .agg (zrd 0 0 x)) (by simp [results, Tryz.results31, go_sem, q0, q1, q2, q3, q4, q5, q6, zrd, rc]) rfl ?_
    exact ⟨below_setCells w.heap.size (Nat.le_refl _) [.int .i64 0, .int .i64 0, .string ⟨#[]⟩, .slice none 0 0, .int .i64 0, .int .i64 0, .int .i64 x] 0 w3 HB.out.1, HB.out.2, rfl⟩
  | ok y =>
    obtain ⟨x, q, r'⟩ := y
    obtain ⟨it, N, rfl, rfl, hin⟩ := hres
    obtain ⟨yk, yn, ys, ya, yc, yl⟩ := it
    simp only [It.k, It.n, It.s, It.lv, It.a, It.l, It.cap] at *
    obtain ⟨w3, hw3⟩ : ∃ w3, w3 = w2.alloc (.cells (rc yk yn ys (.slice ya yl.length yc) N (q : Int) 0) 68) := ⟨_, rfl⟩
    have hb3 : Below w2.heap.size w2 w3 := by rw [hw3]; exact (Below.refl _ _).alloc (Nat.le_refl _) _
    have hg3 : w3.heap[w2.heap.size]? = some (.cells (rc yk yn ys (.slice ya yl.length yc) N (q : Int) 0) 68 (0, 0)) := by rw [hw3]; exact heap_alloc_new _ _
    have hg2 := (hb3.block w.heap.size (Nat.lt_of_lt_of_le hz1 hb.size)).trans ((hb.block _ hz1).trans H.out.2.2.1)
    have hin3 : It.In w3 (w1.heap.size ≤ ·) (.mk yk yn ys ya yc yl) := It.In.kept (keptS_any hb3) _ hin
    obtain ⟨q0, q1, q2, q3, q4, q5, q6, f⟩ := rc_cells hg2
    obtain ⟨r0, r1, r2, r3, r4, r5, r6, fr⟩ := rc_cells hg3
    have HB := Lib.hid (And.intro (hb2.trans (hb3.mono hb2.size)) hin3)
    clear hb hb2 hb3 hg2 hg3 hz1 hin hin3
    unfold rc at hw3
    simp only [rc]
    go_upto_region 2 with fail
    rw [← hw3]
    clear hw3
    go_wp2_with fail
    refine bodyPost_ret (v := .agg (rc yk yn ys (.slice ya yl.length yc) 0 (q : Int) 0)) (by simp [results, Tryz.results31, go_sem, q0, q1, q2, q3, q4, q5, q6, rc]) rfl ?_
    refine ⟨below_setCells w.heap.size (Nat.le_refl _) [.int .i64 yk, .int .i64 yn, .string ys, .slice ya yl.length yc, .int .i64 0, .int .i64 (q : Int), .int .i64 0] 0 w3 HB.out.1, .mk yk yn ys ya yc yl, rfl, rfl, ?_⟩
    refine It.In.kept (w := w3) (S := (w1.heap.size ≤ ·)) ⟨fun b hb _ => ⟨?_, ?_⟩, ?_⟩ _ HB.out.2
    · have h1 : w1.heap.size ≤ b := hb
      have := H.out.2.2.2
      show w.heap.size ≤ b
      omega
    · have h1 : w1.heap.size ≤ b := hb
      have := H.out.2.2.2
      exact c_heap_setCells_other w.heap.size b (by omega) [.int .i64 yk, .int .i64 yn, .string ys, .slice ya yl.length yc, .int .i64 0, .int .i64 (q : Int), .int .i64 0] 0 w3
    · exact Nat.le_of_eq (c_size_setCells w.heap.size [.int .i64 yk, .int .i64 yn, .string ys, .slice ya yl.length yc, .int .i64 0, .int .i64 (q : Int), .int .i64 0] 0 w3).symm
end Go.Proofs.YtgoimggfpagojaaGreatDoor
namespace Go.Proofs.YtgoimggfpagojaaGreatDoor
open Go.RowKit
open Cn

def decE : Except Int (Pt × Nat × List UInt8) → Except Int Pt
  | .error x => .error x
  | .ok (x, _, r) => if r = [] then .ok x else .error 3
theorem rdecR_eq (l : List UInt8) : rdecR l = decE (ritem 6 0 l) := by
  unfold rdecR
  cases ritem 6 0 l with
  | error x => rfl
  | ok y => rfl
set_option maxRecDepth 100000 in
set_option maxHeartbeats 1000000 in
theorem rdecode_any (s : ByteArray) (hs : s.size ≤ maxLen) (w : World) : Calls Tryz.prog 18 #[.string s] w (DecPost w (rdecR s.data.toList)) := by
  obtain ⟨w1, hw1⟩ : ∃ w1, w1 = w.alloc (.cells #[.int .i64 0, .int .i64 0, .string ⟨#[]⟩, .slice none 0 0] 45) := ⟨_, rfl⟩
  have hb1 : Below w.heap.size w w1 := by rw [hw1]; exact (Below.refl _ _).alloc (Nat.le_refl _) _
  have hg1 : w1.heap[w.heap.size]? = some (.cells #[.int .i64 0, .int .i64 0, .string ⟨#[]⟩, .slice none 0 0] 45 (0, 0)) := by rw [hw1]; exact heap_alloc_new _ _
  have hs1 : w1.heap.size = w.heap.size + 1 := by rw [hw1]; simp
  have hf := rfront_any s hs w1
  obtain ⟨R, hR⟩ : ∃ R, R = ritem 6 0 s.data.toList := ⟨_, rfl⟩
  have hD : rdecR s.data.toList = decE R := by rw [hR]; exact rdecR_eq _
  rw [← hR] at hf
  obtain ⟨S, hS⟩ : ∃ S, S = s.size := ⟨_, rfl⟩
  have hSi : (s.size : Int) = (S : Int) := by omega
  have hlen : s.data.toList.length = S := by rw [hS]; simp
  have hq : ∀ x q r, R = .ok (x, q, r) → S = q + r.length := fun x q r h => by
    obtain ⟨e1, -, e3, -⟩ := ritem_ok _ _ _ _ _ _ (hR.symm.trans h)
    have := congrArg List.length e1
    rw [List.length_append, hlen] at this
    omega
  have H := Lib.hid (And.intro hf (And.intro hb1 (And.intro hg1 (And.intro hs1 (And.intro hD hq)))))
  clear hf hb1 hg1 hs1 hD hq hR hlen hS hs
  go_enter Tryz.func18, Tryz.ntmps18
  go_upto_region 1 with fail
  rw [← hw1]
  clear hw1
  go_wp2_with fail
  refine H.out.1.mono ?_
  rintro e w2 ⟨hb, hres⟩
  have hz1 := lt_of_heap H.out.2.2.1
  have hb2 := H.out.2.1.trans (hb.mono H.out.2.1.size)
  cases R with
  | error x =>
    obtain ⟨hx, rfl⟩ := hres
    have hx0 : (x != 0) = true := by rcases hx with rfl | rfl <;> rfl
    have hx1 : x ≠ 0 := by rcases hx with rfl | rfl <;> decide
    obtain ⟨w3, hw3⟩ : ∃ w3, w3 = w2.alloc (.cells (zrd 0 0 x) 68) := ⟨_, rfl⟩
    have hb3 : Below w2.heap.size w2 w3 := by rw [hw3]; exact (Below.refl _ _).alloc (Nat.le_refl _) _
    have hg3 : w3.heap[w2.heap.size]? = some (.cells (zrd 0 0 x) 68 (0, 0)) := by rw [hw3]; exact heap_alloc_new _ _
    have hg2 := (hb3.block w.heap.size (Nat.lt_of_lt_of_le hz1 hb.size)).trans ((hb.block _ hz1).trans H.out.2.2.1)
    have hb23 := (hb2.trans (hb3.mono hb2.size)).drew
    obtain ⟨r0, r1, r2, r3, r4, r5, r6, fr⟩ := rc_cells hg3
    have HB := Lib.hid (And.intro hb23 (And.intro hx1 hb.size))
    clear hb hb2 hb3 hz1 hx hx1 hb23
    unfold zrd rc at hw3
    simp only [zrd, rc]
    go_upto_region 2 with fail
    rw [← hw3]
    clear hw3
    go_wp2_with fail
    clear r0 r1 r2 r3 r4 r5 r6 fr
    have hg3' : w3.drew.heap[w2.heap.size]? = some (.cells (zrd 0 0 x) 68 (0, 0)) := hg3
    have hg2' : w3.drew.heap[w.heap.size]? = some (.cells #[.int .i64 0, .int .i64 0, .string ⟨#[]⟩, .slice none 0 0] 45 (0, 0)) := hg2
    clear hg3 hg2
    obtain ⟨r0, r1, r2, r3, r4, r5, r6, fr⟩ := rc_cells hg3'
    obtain ⟨q0, q1, q2, q3⟩ := it_cells hg2'
    have f : ∀ j, w3.drew.frozen? ⟨w.heap.size, j, none⟩ = false := fun j => Lib.frozen_of_heap hg2' j
    have hne : w2.heap.size ≠ w.heap.size := by have := H.out.2.2.2.1; have := HB.out.2.2; omega
    clear r0 r1 r2 r3 r4 r5 r6 fr
    have C : w3.drew.heap[w2.heap.size]? = some (.cells (zrd 0 0 x) 68 (0, 0)) := hg3'
    clear hg3'
    refine wp_region_held (S := fun W => W.heap[w2.heap.size]? = some (.cells (zrd 0 0 x) 68 (0, 0))) (by kernel_rfl) ?_
    change wpAnyH _ _ _ _ _ _ _ _ (World.drew _)
    generalize World.drew _ = w4 at *
    refine wpAnyH_take (i := 0) (v := ?_) rfl (by kernel_rfl) (by kernel_rfl) (by kernel_rfl) (fun _ _ _ h => h) (Or.inl ⟨by kernel_rfl, ?_⟩) C ?_
    rotate_left
    · (intro W hS; obtain ⟨-, -, -, -, -, -, g6, -⟩ := rc_cells hS; clear hS; go_simp; try (with_reducible rfl))
    refine wpAnyH_take (i := 1) (v := ?_) rfl (by kernel_rfl) (by kernel_rfl) (by kernel_rfl) (fun _ _ _ h => h) (Or.inl ⟨by kernel_rfl, ?_⟩) C ?_
    rotate_left
    · (intro W hS; obtain ⟨-, -, -, -, -, -, g6, -⟩ := rc_cells hS; clear hS; go_simp; try (with_reducible rfl))
    refine wpAnyH_take (i := 2) (v := ?_) rfl (by kernel_rfl) (by kernel_rfl) (by kernel_rfl) (fun _ _ _ h => h) (Or.inl ⟨by kernel_rfl, ?_⟩) C ?_
    rotate_left
    · (intro W hS; obtain ⟨-, -, -, -, -, -, g6, -⟩ := rc_cells hS; clear hS; go_simp; try (with_reducible rfl))
    refine wpAnyH_ready (rs := [3]) (by kernel_rfl) (by simp) ?_
    refine AllReadyH.cons rfl (fun K hK => ?_) AllReadyH.nil
    go_simp
    have C7 := (c_heap_setCells_other w.heap.size w2.heap.size hne [.int .i64 0, .int .i64 0, .string ⟨#[]⟩, .slice none 0 0] 0 w4).trans C
    refine hK.out _ _ C7 (fun _ => ?_)
    clear hK K
    refine wpAnyH_take (i := 4) (v := ?_) rfl (by kernel_rfl) (by kernel_rfl) (by kernel_rfl) (fun _ _ _ h => h) (Or.inl ⟨by kernel_rfl, ?_⟩) C7 ?_
    rotate_left
    · (intro W hS; clear hS; go_simp; try (with_reducible rfl))
    refine wpAnyH_done (by kernel_rfl) ?_ _
    go_simp
    clear C C7 hg2'
    go_wp2_with fail
    refine bodyPost_ret (v := .tuple #[zeroIt, .int .i64 x]) (by simp [results, Tryz.results18, go_sem, q0, q1, q2, q3, zeroIt]) rfl ?_
    refine ⟨below_setCells w.heap.size (Nat.le_refl _) [.int .i64 0, .int .i64 0, .string ⟨#[]⟩, .slice none 0 0] 0 w4 HB.out.1, ?_⟩
    rw [H.out.2.2.2.2.1]
    exact ⟨HB.out.2.1, rfl⟩
  | ok y =>
    obtain ⟨x, q, r'⟩ := y
    obtain ⟨it, rfl, rfl, hin⟩ := hres
    have hqr := H.out.2.2.2.2.2 _ _ _ rfl
    obtain ⟨yk, yn, ys, ya, yc, yl⟩ := it
    simp only [It.k, It.n, It.s, It.lv, It.a, It.l, It.cap] at *
    obtain ⟨w3, hw3⟩ : ∃ w3, w3 = w2.alloc (.cells (rc yk yn ys (.slice ya yl.length yc) 0 (q : Int) 0) 68) := ⟨_, rfl⟩
    have hb3 : Below w2.heap.size w2 w3 := by rw [hw3]; exact (Below.refl _ _).alloc (Nat.le_refl _) _
    have hg3 : w3.heap[w2.heap.size]? = some (.cells (rc yk yn ys (.slice ya yl.length yc) 0 (q : Int) 0) 68 (0, 0)) := by rw [hw3]; exact heap_alloc_new _ _
    have hg2 := (hb3.block w.heap.size (Nat.lt_of_lt_of_le hz1 hb.size)).trans ((hb.block _ hz1).trans H.out.2.2.1)
    have hin3 : It.In w3 (w1.heap.size ≤ ·) (.mk yk yn ys ya yc yl) := It.In.kept (keptS_any hb3) _ hin
    obtain ⟨r0, r1, r2, r3, r4, r5, r6, fr⟩ := rc_cells hg3
    obtain ⟨q0, q1, q2, q3⟩ := it_cells hg2
    have f : ∀ j, w3.frozen? ⟨w.heap.size, j, none⟩ = false := fun j => Lib.frozen_of_heap hg2 j
    have HB := Lib.hid (And.intro (hb2.trans (hb3.mono hb2.size)) (And.intro hin3 hqr))
    clear hb hb2 hb3 hg2 hg3 hz1 hin hin3 hqr
    unfold rc at hw3
    simp only [rc]
    by_cases hr : r' = []
    · have hqS : ((q : Int) != (S : Int)) = false := by
        rw [bne_eq_false_iff_eq]
        have := HB.out.2.2
        rw [hr] at this
        simp at this
        omega
      have HR := Lib.hid hr
      clear hr
      go_upto_region 2 with fail
      rw [← hw3]
      clear hw3
      go_wp2_with fail
      refine bodyPost_ret (v := .tuple #[.agg #[.int .i64 yk, .int .i64 yn, .string ys, .slice ya yl.length yc], .int .i64 0]) (by simp [results, Tryz.results18, go_sem, q0, q1, q2, q3]) rfl ?_
      refine ⟨below_setCells w.heap.size (Nat.le_refl _) [.int .i64 yk, .int .i64 yn, .string ys, .slice ya yl.length yc] 0 w3 HB.out.1, ?_⟩
      rw [H.out.2.2.2.2.1]
      simp only [decE]
      rw [if_pos HR.out]
      refine ⟨.mk yk yn ys ya yc yl, rfl, rfl, ?_⟩
      refine It.In.kept (w := w3) (S := (w1.heap.size ≤ ·)) ⟨fun b hb _ => ⟨?_, ?_⟩, ?_⟩ _ HB.out.2.1
      · have h1 : w1.heap.size ≤ b := hb
        have := H.out.2.2.2.1
        show w.heap.size ≤ b
        omega
      · have h1 : w1.heap.size ≤ b := hb
        have := H.out.2.2.2.1
        exact c_heap_setCells_other w.heap.size b (by omega) [.int .i64 yk, .int .i64 yn, .string ys, .slice ya yl.length yc] 0 w3
      · exact Nat.le_of_eq (c_size_setCells w.heap.size [.int .i64 yk, .int .i64 yn, .string ys, .slice ya yl.length yc] 0 w3).symm
    · have hqS : ((q : Int) != (S : Int)) = true := by
        rw [bne_iff_ne]
        have := HB.out.2.2
        have h2 : r'.length ≠ 0 := fun e => hr (List.length_eq_zero_iff.1 e)
        omega
      have HR := Lib.hid hr
      clear hr
      go_upto_region 2 with fail
      rw [← hw3]
      clear hw3
      go_wp2_with fail
      refine bodyPost_ret (v := .tuple #[zeroIt, .int .i64 3]) (by simp [results, Tryz.results18, go_sem, q0, q1, q2, q3, zeroIt]) rfl ?_
      refine ⟨below_setCells w.heap.size (Nat.le_refl _) [.int .i64 0, .int .i64 0, .string ⟨#[]⟩, .slice none 0 0] 0 w3 HB.out.1, ?_⟩
      rw [H.out.2.2.2.2.1]
      simp only [decE]
      rw [if_neg HR.out]
      exact ⟨by decide, rfl⟩
end Go.Proofs.YtgoimggfpagojaaGreatDoor
