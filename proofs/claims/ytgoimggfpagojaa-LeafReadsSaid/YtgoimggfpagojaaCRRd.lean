/- The reference's reader: octet, number. -/
import Derived.Test.YtgoimggfpagojaaCRDec
import Derived.Test.YtgoimggfpagojaaMC5
namespace Go.Proofs.Ytgoimggfpagojaa
open Go.RowKit
open Cn

/-- What a Read holds. -/
def rc (k n : Int) (s : ByteArray) (l : Value) (N A E : Int) : Array Value := #[.int .i64 k, .int .i64 n, .string s, l, .int .i64 N, .int .i64 A, .int .i64 E]
def zrd (N A E : Int) : Array Value := rc 0 0 ⟨#[]⟩ (.slice none 0 0) N A E
theorem rc_cells {W : World} {g : Nat} {k n : Int} {s : ByteArray} {l : Value} {N A E : Int} (h : W.heap[g]? = some (.cells (rc k n s l N A E) 91 (0, 0))) :
    W.cell? ⟨g, 0, none⟩ = some (.int .i64 k) ∧ W.cell? ⟨g, 1, none⟩ = some (.int .i64 n) ∧ W.cell? ⟨g, 2, none⟩ = some (.string s) ∧ W.cell? ⟨g, 3, none⟩ = some l ∧ W.cell? ⟨g, 4, none⟩ = some (.int .i64 N) ∧ W.cell? ⟨g, 5, none⟩ = some (.int .i64 A) ∧ W.cell? ⟨g, 6, none⟩ = some (.int .i64 E) ∧ ∀ j, W.frozen? ⟨g, j, none⟩ = false :=
  ⟨by rw [Lib.cell_of_heap h]; rfl, by rw [Lib.cell_of_heap h]; rfl, by rw [Lib.cell_of_heap h]; rfl, by rw [Lib.cell_of_heap h]; rfl, by rw [Lib.cell_of_heap h]; rfl, by rw [Lib.cell_of_heap h]; rfl, by rw [Lib.cell_of_heap h]; rfl, fun j => Lib.frozen_of_heap h j⟩
/-- Seven cells stored over a Read's row. -/
theorem rc_set {W : World} {b : Nat} {cs : Array Value} (h : W.heap[b]? = some (.cells cs 91 (0, 0))) (hs : cs.size = 7) (k n : Int) (s : ByteArray) (l : Value) (N A E : Int) :
    (W.setCells b 0 [.int .i64 k, .int .i64 n, .string s, l, .int .i64 N, .int .i64 A, .int .i64 E]).heap[b]? = some (.cells (rc k n s l N A E) 91 (0, 0)) := by
  obtain ⟨c', h1, h2, h3⟩ := c_heap_setCells b 91 [.int .i64 k, .int .i64 n, .string s, l, .int .i64 N, .int .i64 A, .int .i64 E] 0 W cs h (by simp [hs])
  have : c' = rc k n s l N A E := by
    unfold rc
    refine Array.ext_getElem? fun i => ?_
    rw [h3]
    by_cases hi : i < 7
    · rw [if_pos (by simp; omega)]; simp
    · rw [if_neg (by simp; omega), Array.getElem?_eq_none (by omega), Array.getElem?_eq_none (by simp; omega)]
  rw [← this]
  exact h1
def octV (p : Nat) (l : List UInt8) : Array Value :=
  match oct p l with
  | .error x => zrd 0 0 x
  | .ok (c, _) => zrd c.toNat ((p : Int) + 1) 0
set_option maxRecDepth 100000 in
set_option maxHeartbeats 1000000 in
theorem roctet_any (s : ByteArray) (hs : s.size ≤ maxLen) (p : Nat) (hp : p ≤ 1000000) (w : World) :
    Calls Try.prog 60 #[.string s, .int .i64 (p : Int)] w fun e w' => e = .returned (.agg (octV p (s.data.toList.drop p))) ∧ Below w.heap.size w w' := by
  obtain ⟨w1, hw1⟩ : ∃ w1, w1 = w.alloc (.cells (zrd 0 0 0) 91) := ⟨_, rfl⟩
  have hb1 : Below w.heap.size w w1 := by rw [hw1]; exact (Below.refl _ _).alloc (Nat.le_refl _) _
  have hg1 : w1.heap[w.heap.size]? = some (.cells (zrd 0 0 0) 91 (0, 0)) := by rw [hw1]; exact heap_alloc_new _ _
  obtain ⟨q0, q1, q2, q3, q4, q5, q6, f⟩ := rc_cells hg1
  unfold zrd rc at hw1
  obtain ⟨n, hn⟩ : ∃ n, n = s.size := ⟨_, rfl⟩
  have hni : (s.size : Int) = (n : Int) := by omega
  have hnm : n ≤ maxLen := by omega
  have hlen : s.data.toList.length = n := by rw [hn]; simp
  unfold maxLen at hnm
  by_cases h1 : 65536 ≤ p
  · have hV : octV p (s.data.toList.drop p) = zrd 0 0 3 := by unfold octV oct; rw [if_pos h1]
    rw [hV]
    have k1 : decide ((65536 : Int) ≤ (p : Int)) = true := decide_eq_true (by omega)
    have H := Lib.hid hb1
    clear hb1 hg1 hV hlen hn hs
    go_enter Try.func60, Try.ntmps60
    go_upto_region 1 with fail
    rw [← hw1]
    clear hw1
    go_wp2_with fail
    refine bodyPost_ret (v := .agg (zrd 0 0 3)) (by simp [results, Try.results60, go_sem, q0, q1, q2, q3, q4, q5, q6, zrd, rc]) rfl ?_
    exact ⟨rfl, below_setCells w.heap.size (Nat.le_refl _) [.int .i64 0, .int .i64 0, .string ⟨#[]⟩, .slice none 0 0, .int .i64 0, .int .i64 0, .int .i64 3] 0 w1 H.out⟩
  · have k1 : decide ((65536 : Int) ≤ (p : Int)) = false := decide_eq_false (by omega)
    by_cases h2 : n ≤ p
    · have hV : octV p (s.data.toList.drop p) = zrd 0 0 7 := by unfold octV oct; rw [if_neg h1, List.drop_of_length_le (by omega)]
      rw [hV]
      have k2 : decide ((n : Int) ≤ (p : Int)) = true := decide_eq_true (by omega)
      have H := Lib.hid hb1
      clear hb1 hg1 hV hlen hn hs
      go_enter Try.func60, Try.ntmps60
      go_upto_region 1 with fail
      rw [← hw1]
      clear hw1
      go_wp2_with fail
      refine bodyPost_ret (v := .agg (zrd 0 0 7)) (by simp [results, Try.results60, go_sem, q0, q1, q2, q3, q4, q5, q6, zrd, rc]) rfl ?_
      exact ⟨rfl, below_setCells w.heap.size (Nat.le_refl _) [.int .i64 0, .int .i64 0, .string ⟨#[]⟩, .slice none 0 0, .int .i64 0, .int .i64 0, .int .i64 7] 0 w1 H.out⟩
    · have hps : p < s.size := by omega
      have hV : octV p (s.data.toList.drop p) = zrd (s[p].toNat : Int) ((p : Int) + 1) 0 := by
        unfold octV oct
        rw [if_neg h1, List.drop_eq_getElem_cons (by omega)]
        rfl
      rw [hV]
      have k2 : decide ((n : Int) ≤ (p : Int)) = false := decide_eq_false (by omega)
      have hcn := UInt8.toNat_lt s[p]
      have hw : IntKind.i64.wrap (s[p].toNat : Int) = (s[p].toNat : Int) := IntWalk.i64_in _ (by omega)
      have H := Lib.hid hb1
      clear hb1 hg1 hV hlen hs
      go_enter Try.func60, Try.ntmps60
      go_upto_region 1 with fail
      rw [← hw1]
      clear hw1
      go_wp2_with fail
      refine bodyPost_ret (v := .agg (zrd (s[p].toNat : Int) ((p : Int) + 1) 0)) (by simp [results, Try.results60, go_sem, q0, q1, q2, q3, q4, q5, q6, zrd, rc]) rfl ?_
      exact ⟨rfl, below_setCells w.heap.size (Nat.le_refl _) [.int .i64 0, .int .i64 0, .string ⟨#[]⟩, .slice none 0 0, .int .i64 (s[p].toNat : Int), .int .i64 ((p : Int) + 1), .int .i64 0] 0 w1 H.out⟩
theorem oct_err {p : Nat} {l : List UInt8} {x : Int} (h : oct p l = .error x) : x = 3 ∨ x = 7 := by
  unfold oct at h
  split at h
  · left; injection h with h; exact h.symm
  · split at h
    · right; injection h with h; exact h.symm
    · cases h
def numE : Except Int (Nat × Nat × List UInt8) → Array Value
  | .error x => zrd 0 0 x
  | .ok (n, q, _) => zrd n q 0
/-- The world of number: its result's row, and what was read. -/
structure NumW (w : World) (g : Nat) (N A E : Int) (W : World) : Prop where
  below : Below w.heap.size w W
  zero : W.heap[w.heap.size]? = some (.cells (zrd 0 0 0) 91 (0, 0))
  row : W.heap[g]? = some (.cells (zrd N A E) 91 (0, 0))
  gl : w.heap.size < g
theorem NumW.lt {w : World} {g : Nat} {N A E : Int} {W : World} (h : NumW w g N A E W) : g < W.heap.size := lt_of_heap h.row
theorem NumW.call {w : World} {g : Nat} {N A E : Int} {W W' : World} (h : NumW w g N A E W) (hb : Below W.heap.size W W') : NumW w g N A E W' :=
  ⟨h.below.trans (hb.mono h.below.size), (hb.block _ (lt_of_heap h.zero)).trans h.zero, (hb.block _ h.lt).trans h.row, h.gl⟩
theorem NumW.put {w : World} {g : Nat} {N A E : Int} {W : World} (h : NumW w g N A E W) (N' A' E' : Int) :
    NumW w g N' A' E' (W.setCells g 0 [.int .i64 0, .int .i64 0, .string ⟨#[]⟩, .slice none 0 0, .int .i64 N', .int .i64 A', .int .i64 E']) :=
  ⟨below_setCells g (Nat.le_of_lt h.gl) _ 0 _ h.below, (c_heap_setCells_other _ _ (Nat.ne_of_lt h.gl) _ _ _).trans h.zero, rc_set h.row rfl 0 0 _ _ N' A' E', h.gl⟩
set_option maxRecDepth 100000 in
set_option maxHeartbeats 1000000 in
theorem rnumber_any (s : ByteArray) (hs : s.size ≤ maxLen) (p : Nat) (hp : p ≤ 70000) (w : World) :
    Calls Try.prog 61 #[.string s, .int .i64 (p : Int)] w fun e w' => e = .returned (.agg (numE (rnum p (s.data.toList.drop p)))) ∧ Below w.heap.size w w' := by
  obtain ⟨w1, hw1⟩ : ∃ w1, w1 = w.alloc (.cells (zrd 0 0 0) 91) := ⟨_, rfl⟩
  have hb1 : Below w.heap.size w w1 := by rw [hw1]; exact (Below.refl _ _).alloc (Nat.le_refl _) _
  have hg1 : w1.heap[w.heap.size]? = some (.cells (zrd 0 0 0) 91 (0, 0)) := by rw [hw1]; exact heap_alloc_new _ _
  unfold zrd rc at hw1
  have ho := roctet_any s hs p (by omega) w1
  have hoj := fun (j : Nat) (hj : j ≤ 7) (W : World) => roctet_any s hs (p + 1 + j) (by omega) W
  have hcj : ∀ j : Nat, ((p + 1 + j : Nat) : Int) = (p : Int) + 1 + (j : Int) := fun j => by omega
  simp only [hcj] at hoj
  obtain ⟨R, hR⟩ : ∃ R, R = rnum p (s.data.toList.drop p) := ⟨_, rfl⟩
  rw [← hR]
  unfold rnum at hR
  unfold octV at ho
  have hpi : (p : Int) ≤ 70000 := by omega
  cases hO : oct p (s.data.toList.drop p) with
  | error x =>
    rw [hO] at hR ho
    simp only at hR ho
    have hE : numE R = zrd 0 0 x := by rw [hR]; rfl
    have hx := oct_err hO
    have hx0 : (x != 0) = true := by rcases hx with rfl | rfl <;> rfl
    have H := Lib.hid (And.intro ho (And.intro hb1 hg1))
    have HE := Lib.hid hE
    clear ho hb1 hg1 hR hE hO hs hoj hcj hx
    go_enter Try.func61, Try.ntmps61
    go_upto_region 1 with fail
    rw [← hw1]
    clear hw1
    go_wp2_with fail
    refine H.out.1.mono ?_
    rintro e w2 ⟨rfl, hb⟩
    have hz1 := lt_of_heap H.out.2.2
    obtain ⟨w3, hw3⟩ : ∃ w3, w3 = w2.alloc (.cells (zrd 0 0 x) 91) := ⟨_, rfl⟩
    have hb2 := H.out.2.1.trans (hb.mono H.out.2.1.size)
    have hb3 : Below w2.heap.size w2 w3 := by rw [hw3]; exact (Below.refl _ _).alloc (Nat.le_refl _) _
    have hg3 : w3.heap[w2.heap.size]? = some (.cells (zrd 0 0 x) 91 (0, 0)) := by rw [hw3]; exact heap_alloc_new _ _
    have hg2 := (hb3.block w.heap.size (Nat.lt_of_lt_of_le hz1 hb.size)).trans ((hb.block _ hz1).trans H.out.2.2)
    obtain ⟨q0, q1, q2, q3, q4, q5, q6, f⟩ := rc_cells hg2
    obtain ⟨r0, r1, r2, r3, r4, r5, r6, fr⟩ := rc_cells hg3
    have HB := Lib.hid (hb2.trans (hb3.mono hb2.size))
    clear hb hb2 hb3 hg2 hg3 hz1
    unfold zrd rc at hw3
    simp only [zrd, rc]
    go_upto_region 2 with fail
    rw [← hw3]
    clear hw3
    go_wp2_with fail
    refine bodyPost_ret (v := .agg (zrd (0) (0) (x))) (by simp [results, Try.results61, go_sem, q0, q1, q2, q3, q4, q5, q6, zrd, rc]) rfl ?_
    exact ⟨by rw [HE.out], below_setCells w.heap.size (Nat.le_refl _) [.int .i64 0, .int .i64 0, .string ⟨#[]⟩, .slice none 0 0, .int .i64 (0), .int .i64 (0), .int .i64 (x)] 0 _ HB.out⟩
  | ok cr =>
    obtain ⟨c, l'⟩ := cr
    rw [hO] at hR ho
    simp only at hR ho
    obtain ⟨hp6, hdr⟩ := oct_ok.1 hO
    have hl' : l' = s.data.toList.drop (p + 1) := by
      have := congrArg List.tail hdr
      rw [List.tail_drop] at this
      exact this.symm
    obtain ⟨k, hk⟩ : ∃ k, k = c.toNat := ⟨_, rfl⟩
    have hk8 : k < 256 := by rw [hk]; exact UInt8.toNat_lt c
    rw [← hk] at hR ho
    rw [hl'] at hR
    obtain ⟨L, hL⟩ : ∃ L : Nat → List UInt8, L = fun i => s.data.toList.drop i := ⟨_, rfl⟩
    have hLi : ∀ i, s.data.toList.drop i = L i := fun i => by rw [hL]
    have hLt : ∀ i c l, L i = c :: l → l = L (i + 1) := fun i c l h => by
      rw [← hLi] at h ⊢
      have := congrArg List.tail h
      rw [List.tail_drop] at this
      exact this.symm
    simp only [hLi] at hR hoj
    have H := Lib.hid (And.intro ho (And.intro hb1 (And.intro hg1 (And.intro hoj hLt))))
    have hki : (k : Int) < 256 := by omega
    clear ho hb1 hg1 hO hs hoj hcj hl' hdr hk hL hLi hLt
    go_enter Try.func61, Try.ntmps61
    go_upto_region 1 with fail
    rw [← hw1]
    clear hw1
    go_wp2_with fail
    refine H.out.1.mono ?_
    rintro e w2 ⟨rfl, hb⟩
    have hz1 := lt_of_heap H.out.2.2.1
    obtain ⟨w3, hw3⟩ : ∃ w3, w3 = w2.alloc (.cells (zrd (k : Int) ((p : Int) + 1) 0) 91) := ⟨_, rfl⟩
    have hb2 := H.out.2.1.trans (hb.mono H.out.2.1.size)
    have hb3 : Below w2.heap.size w2 w3 := by rw [hw3]; exact (Below.refl _ _).alloc (Nat.le_refl _) _
    have hg3 : w3.heap[w2.heap.size]? = some (.cells (zrd (k : Int) ((p : Int) + 1) 0) 91 (0, 0)) := by rw [hw3]; exact heap_alloc_new _ _
    have hg2 := (hb3.block w.heap.size (Nat.lt_of_lt_of_le hz1 hb.size)).trans ((hb.block _ hz1).trans H.out.2.2.1)
    have N3 : NumW w w2.heap.size (k : Int) ((p : Int) + 1) 0 w3 := ⟨hb2.trans (hb3.mono hb2.size), hg2, hg3, Nat.lt_of_lt_of_le hz1 hb.size⟩
    clear hb hb2 hb3 hg2 hg3 hz1
    unfold zrd rc at hw3
    simp only [zrd, rc]
    go_upto_region 2 with fail
    rw [← hw3]
    clear hw3
    generalize w2.heap.size = g at *
    obtain ⟨r0, r1, r2, r3, r4, r5, r6, fr⟩ := rc_cells N3.row
    by_cases h7 : (7 : Int) < (k : Int)
    · have h7' : decide ((7 : Int) < (k : Int)) = true := decide_eq_true h7
      rw [if_pos (by omega)] at hR
      have HE := Lib.hid (show numE R = zrd 0 0 3 by rw [hR]; rfl)
      obtain ⟨q0, q1, q2, q3, q4, q5, q6, f⟩ := rc_cells N3.zero
      have HB := Lib.hid N3.below
      clear N3 hR
      go_wp2_with fail
      refine bodyPost_ret (v := .agg (zrd (0) (0) (3))) (by simp [results, Try.results61, go_sem, q0, q1, q2, q3, q4, q5, q6, zrd, rc]) rfl ?_
      exact ⟨by rw [HE.out], below_setCells w.heap.size (Nat.le_refl _) [.int .i64 0, .int .i64 0, .string ⟨#[]⟩, .slice none 0 0, .int .i64 (0), .int .i64 (0), .int .i64 (3)] 0 w3 HB.out⟩
    have h7' : decide ((7 : Int) < (k : Int)) = false := decide_eq_false h7
    have hk7 : k ≤ 7 := by omega
    rw [if_neg (by omega)] at hR
    have HR := Lib.hid hR
    have HN := Lib.hid N3
    clear hR N3
    go_wp2_with fail
    clear r0 r1 r2 r3 r4 r5 r6 fr
    go_loopw [7, 8] (fun a i wr => ∃ (j acc : Nat) (N A E : Int), j ≤ k ∧ i = .int .i64 (j : Int) ∧ a = .int .i64 (acc : Int) ∧ acc < 256 ^ j ∧ rdig k true 0 (p + 1) (L (p + 1)) = rdig (k - j) (decide (j = 0)) acc (p + 1 + j) (L (p + 1 + j)) ∧ NumW w g N A E wr) (fun _ i _ => k - (intOf i).toNat)
    case atStart => exact ⟨0, 0, _, _, _, by omega, rfl, rfl, by decide, rfl, HN.out⟩
    case round =>
      obtain ⟨j, acc, N, A, E, hj, rfl, rfl, hacc, hrd, hN⟩ := hrel
      by_cases hlt : j < k
      · obtain ⟨t, ht⟩ : ∃ t, k - j = t + 1 := ⟨k - j - 1, by omega⟩
        rw [ht] at hrd
        have ho2 := H.out.2.2.2.1 j (by omega) wr
        unfold octV at ho2
        rw [rdig] at hrd
        have hji : (j : Int) ≤ 7 := by omega
        have h256 : acc < 281474976710656 := Nat.lt_of_lt_of_le hacc (Nat.le_trans (Nat.pow_le_pow_right (by decide) (by omega : j ≤ 6)) (by decide))
        cases hO2 : oct (p + 1 + j) (L (p + 1 + j)) with
        | error x =>
          rw [hO2] at ho2 hrd
          simp only at ho2 hrd
          have hx0 : (x != 0) = true := by rcases oct_err hO2 with rfl | rfl <;> rfl
          have HE := Lib.hid (show numE R = zrd 0 0 x by rw [HR.out, hrd]; rfl)
          have HN2 := Lib.hid (And.intro hN ho2)
          clear hrd hO2 hN ho2 hacc
          go_wp2_with fail
          refine HN2.out.2.mono ?_
          rintro e w4 ⟨rfl, hb4⟩
          have N4 := HN2.out.1.call hb4
          clear hb4
          obtain ⟨r0, r1, r2, r3, r4, r5, r6, fr⟩ := rc_cells N4.row
          simp only [zrd, rc]
          go_upto_region 12 with fail
          have hW5 : (((((((w4.setCell ⟨g, 0, none⟩ (.int .i64 0)).setCell ⟨g, 1, none⟩ (.int .i64 0)).setCell ⟨g, 2, none⟩ (.string ⟨#[]⟩)).setCell ⟨g, 3, none⟩ (.slice none 0 0)).setCell ⟨g, 4, none⟩ (.int .i64 (0))).setCell ⟨g, 5, none⟩ (.int .i64 (0))).setCell ⟨g, 6, none⟩ (.int .i64 (x))) = w4.setCells g 0 [.int .i64 0, .int .i64 0, .string ⟨#[]⟩, .slice none 0 0, .int .i64 (0), .int .i64 (0), .int .i64 (x)] := rfl
          rw [hW5]
          clear hW5 r0 r1 r2 r3 r4 r5 r6 fr
          have N5 := N4.put (0) (0) (x)
          generalize World.setCells _ _ _ _ = w5 at *
          obtain ⟨r0, r1, r2, r3, r4, r5, r6, fr⟩ := rc_cells N5.row
          obtain ⟨q0, q1, q2, q3, q4, q5, q6, f⟩ := rc_cells N5.zero
          have HB := Lib.hid N5.below
          clear N4 N5
          go_wp2_with fail
          refine bodyPost_ret (v := .agg (zrd (0) (0) (x))) (by simp [results, Try.results61, go_sem, q0, q1, q2, q3, q4, q5, q6, zrd, rc]) rfl ?_
          exact ⟨by rw [HE.out], below_setCells w.heap.size (Nat.le_refl _) [.int .i64 0, .int .i64 0, .string ⟨#[]⟩, .slice none 0 0, .int .i64 (0), .int .i64 (0), .int .i64 (x)] 0 w5 HB.out⟩
        | ok cl =>
          obtain ⟨c2, l2⟩ := cl
          rw [hO2] at ho2 hrd
          simp only at ho2 hrd
          obtain ⟨hp7, hd2⟩ := oct_ok.1 hO2
          have hl2 := H.out.2.2.2.2 _ _ _ hd2
          obtain ⟨m, hm⟩ : ∃ m, m = c2.toNat := ⟨_, rfl⟩
          have hm8 : m < 256 := by rw [hm]; exact UInt8.toNat_lt c2
          rw [← hm] at hrd ho2
          rw [hl2] at hrd
          rw [show ((p + 1 + j : Nat) : Int) = (p : Int) + 1 + (j : Int) by omega] at ho2
          have HN2 := Lib.hid (And.intro hN ho2)
          clear hO2 hN ho2 hd2 hl2 hm hp7
          have hmi : (m : Int) < 256 := by omega
          have hai : (acc : Int) < 281474976710656 := by omega
          go_wp2_with fail
          refine HN2.out.2.mono ?_
          rintro e w4 ⟨rfl, hb4⟩
          have N4 := HN2.out.1.call hb4
          clear hb4
          obtain ⟨r0, r1, r2, r3, r4, r5, r6, fr⟩ := rc_cells N4.row
          simp only [zrd, rc]
          go_upto_region 12 with fail
          have hW5 : (((((((w4.setCell ⟨g, 0, none⟩ (.int .i64 0)).setCell ⟨g, 1, none⟩ (.int .i64 0)).setCell ⟨g, 2, none⟩ (.string ⟨#[]⟩)).setCell ⟨g, 3, none⟩ (.slice none 0 0)).setCell ⟨g, 4, none⟩ (.int .i64 ((m : Int)))).setCell ⟨g, 5, none⟩ (.int .i64 ((p : Int) + 1 + (j : Int) + 1))).setCell ⟨g, 6, none⟩ (.int .i64 (0))) = w4.setCells g 0 [.int .i64 0, .int .i64 0, .string ⟨#[]⟩, .slice none 0 0, .int .i64 ((m : Int)), .int .i64 ((p : Int) + 1 + (j : Int) + 1), .int .i64 (0)] := rfl
          rw [hW5]
          clear hW5 r0 r1 r2 r3 r4 r5 r6 fr
          have N5 := N4.put ((m : Int)) ((p : Int) + 1 + (j : Int) + 1) (0)
          generalize World.setCells _ _ _ _ = w5 at *
          obtain ⟨r0, r1, r2, r3, r4, r5, r6, fr⟩ := rc_cells N5.row
          obtain ⟨q0, q1, q2, q3, q4, q5, q6, f⟩ := rc_cells N5.zero
          by_cases hz : j = 0 ∧ m = 0
          · have hj0 : ((j : Int) == 0) = true := by rw [hz.1]; rfl
            have hm0 : ((m : Int) == 0) = true := by rw [hz.2]; rfl
            rw [if_pos ⟨decide_eq_true hz.1, hz.2⟩] at hrd
            have HE := Lib.hid (show numE R = zrd 0 0 3 by rw [HR.out, hrd]; rfl)
            have HB := Lib.hid N5.below
            clear N4 N5 hrd hacc hz
            go_wp2_with fail
            refine bodyPost_ret (v := .agg (zrd (0) (0) (3))) (by simp [results, Try.results61, go_sem, q0, q1, q2, q3, q4, q5, q6, zrd, rc]) rfl ?_
            exact ⟨by rw [HE.out], below_setCells w.heap.size (Nat.le_refl _) [.int .i64 0, .int .i64 0, .string ⟨#[]⟩, .slice none 0 0, .int .i64 (0), .int .i64 (0), .int .i64 (3)] 0 w5 HB.out⟩
          · rw [if_neg (fun e => hz ⟨of_decide_eq_true e.1, e.2⟩)] at hrd
            obtain ⟨M, hM⟩ : ∃ M, M = 256 * acc := ⟨_, rfl⟩
            have hMi : IntKind.i64.wrap (256 * (acc : Int)) = (M : Int) := by rw [IntWalk.i64_in _ (by omega), hM]; omega
            obtain ⟨B, hB⟩ : ∃ B, B = acc * 256 + m := ⟨_, rfl⟩
            have hBi : IntKind.i64.wrap ((M : Int) + (m : Int)) = (B : Int) := by rw [IntWalk.i64_in _ (by omega), hB, hM]; omega
            have hB2 : B < 256 ^ (j + 1) := by
              rw [Nat.pow_succ, hB]
              have : acc * 256 + 256 ≤ 256 ^ j * 256 := by
                have := Nat.mul_le_mul_right 256 hacc
                rw [Nat.succ_mul] at this
                exact this
              omega
            rw [← hB] at hrd
            have hrd2 : rdig k true 0 (p + 1) (L (p + 1)) = rdig (k - (j + 1)) (decide (j + 1 = 0)) B (p + 1 + (j + 1)) (L (p + 1 + (j + 1))) := by
              rw [hrd, show k - (j + 1) = t by omega]; rfl
            have HN5 := Lib.hid (And.intro N5 (And.intro hrd2 hB2))
            have hd : ((j : Int) == 0) = true ∧ ((m : Int) == 0) = false ∨ ((j : Int) == 0) = false := by
              by_cases h0 : j = 0
              · left
                refine ⟨by rw [h0]; rfl, ?_⟩
                rw [beq_eq_false_iff_ne]
                have : m ≠ 0 := fun e => hz ⟨h0, e⟩
                omega
              · right
                rw [beq_eq_false_iff_ne]; omega
            clear N4 N5 hrd hrd2 hB2 hacc hz hM hB
            rcases hd with ⟨hj0, hm0⟩ | hj0
            · go_wp2_with fail
              go_roundw
              case rel => exact ⟨j + 1, B, _, _, _, by omega, by go_num, rfl, HN5.out.2.2, HN5.out.2.1, HN5.out.1⟩
              case measure => simp [intOf]; omega
            · go_wp2_with fail
              go_roundw
              case rel => exact ⟨j + 1, B, _, _, _, by omega, by go_num, rfl, HN5.out.2.2, HN5.out.2.1, HN5.out.1⟩
              case measure => simp [intOf]; omega
      · obtain rfl : j = k := by omega
        rw [Nat.sub_self, rdig] at hrd
        have HE := Lib.hid (show numE R = zrd (acc : Int) ((p : Int) + 1 + (j : Int)) 0 by
          rw [HR.out, hrd]
          show zrd (acc : Int) ((p + 1 + j : Nat) : Int) 0 = _
          congr 1)
        obtain ⟨q0, q1, q2, q3, q4, q5, q6, f⟩ := rc_cells hN.zero
        have HB := Lib.hid hN.below
        clear hN hrd hacc
        go_wp2_with fail
        refine bodyPost_ret (v := .agg (zrd ((acc : Int)) ((p : Int) + 1 + (j : Int)) (0))) (by simp [results, Try.results61, go_sem, q0, q1, q2, q3, q4, q5, q6, zrd, rc]) rfl ?_
        exact ⟨by rw [HE.out], below_setCells w.heap.size (Nat.le_refl _) [.int .i64 0, .int .i64 0, .string ⟨#[]⟩, .slice none 0 0, .int .i64 ((acc : Int)), .int .i64 ((p : Int) + 1 + (j : Int)), .int .i64 (0)] 0 wr HB.out⟩
end Go.Proofs.Ytgoimggfpagojaa
