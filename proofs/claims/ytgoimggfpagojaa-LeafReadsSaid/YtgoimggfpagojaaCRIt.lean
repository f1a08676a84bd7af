/- The reference's reader of items: item. -/
import Derived.Test.YtgoimggfpagojaaCRItM
import Derived.Deep.RegionWith
import Derived.Deep.DeepCutAuto
import Derived.StillTailTactics
namespace Go.Proofs.Ytgoimggfpagojaa
open Go.RowKit
open Cn

/-- item, where so many lists may stand. -/
def RItSo (s : ByteArray) (d : Nat) : Prop := ∀ (p : Nat) (w : World), p ≤ 65536 → Calls Try.prog 52 #[.string s, .int .i64 (p : Int), .int .i64 (6 - (d : Int))] w (RItP w (ritem d p (s.data.toList.drop p)))
set_option maxRecDepth 100000 in
set_option maxHeartbeats 1000000 in
theorem ritem_none (s : ByteArray) (hs : s.size ≤ maxLen) (d : Nat) (p : Nat) (w : World) (hp : p ≤ 65536) {x : Int} (hO : oct p (s.data.toList.drop p) = .error x) :
    Calls Try.prog 52 #[.string s, .int .i64 (p : Int), .int .i64 (6 - (d : Int))] w (RItP w (ritem d p (s.data.toList.drop p))) := by
  obtain ⟨w1, hw1⟩ : ∃ w1, w1 = w.alloc (.cells (zrd 0 0 0) 91) := ⟨_, rfl⟩
  have hb1 : Below w.heap.size w w1 := by rw [hw1]; exact (Below.refl _ _).alloc (Nat.le_refl _) _
  have hg1 : w1.heap[w.heap.size]? = some (.cells (zrd 0 0 0) 91 (0, 0)) := by rw [hw1]; exact heap_alloc_new _ _
  unfold zrd rc at hw1
  have ho := roctet_any s hs p (by omega) w1
  obtain ⟨D, hD⟩ : ∃ D : Int, D = 6 - (d : Int) := ⟨_, rfl⟩
  rw [← hD]
  obtain ⟨R, hR⟩ : ∃ R, R = ritem d p (s.data.toList.drop p) := ⟨_, rfl⟩
  rw [← hR]
  have hpi : (p : Int) ≤ 65536 := by omega
  unfold octV at ho
  rw [hO] at ho
  simp only at ho
  have hR1 : R = .error x := by rw [hR, ritem.eq_def]; simp only; rw [hO]
  have hx := oct_err hO
  have hx0 : (x != 0) = true := by rcases hx with rfl | rfl <;> rfl
  have H := Lib.hid (And.intro ho (And.intro hb1 (And.intro hg1 hR1)))
  have HX := Lib.hid hx
  clear ho hb1 hg1 hR hR1 hO hs hD hx
  go_enter Try.func52, Try.ntmps52
  go_upto_region 1 with fail
  rw [← hw1]
  clear hw1
  go_wp2_with fail
  refine H.out.1.mono ?_
  rintro e w2 ⟨rfl, hb⟩
  have hz1 := lt_of_heap H.out.2.2.1
  obtain ⟨w3, hw3⟩ : ∃ w3, w3 = w2.alloc (.cells (zrd (0) (0) (x)) 91) := ⟨_, rfl⟩
  have hb2 := H.out.2.1.trans (hb.mono H.out.2.1.size)
  have hb3 : Below w2.heap.size w2 w3 := by rw [hw3]; exact (Below.refl _ _).alloc (Nat.le_refl _) _
  have hg3 : w3.heap[w2.heap.size]? = some (.cells (zrd (0) (0) (x)) 91 (0, 0)) := by rw [hw3]; exact heap_alloc_new _ _
  have hg2 := (hb3.block w.heap.size (Nat.lt_of_lt_of_le hz1 hb.size)).trans ((hb.block _ hz1).trans H.out.2.2.1)
  have N3 : NumW w w2.heap.size (0) (0) (x) w3 := ⟨hb2.trans (hb3.mono hb2.size), hg2, hg3, Nat.lt_of_lt_of_le hz1 hb.size⟩
  clear hb hb2 hb3 hg2 hg3 hz1
  unfold zrd rc at hw3
  simp only [zrd, rc]
  go_upto_region 2 with fail
  rw [← hw3]
  clear hw3
  generalize w2.heap.size = g at *
  obtain ⟨r0, r1, r2, r3, r4, r5, r6, fr⟩ := rc_cells N3.row
  obtain ⟨q0, q1, q2, q3, q4, q5, q6, f⟩ := rc_cells N3.zero
  have HB := Lib.hid N3.below
  clear N3
  go_wp2_with fail
  refine bodyPost_ret (v := .agg (rc (0) 0 ⟨#[]⟩ (.slice none 0 0) (0) (0) (x))) (by simp [results, Try.results52, go_sem, q0, q1, q2, q3, q4, q5, q6, rc]) rfl ?_
  exact RItP.err (k := 0) H.out.2.2.2 HX.out (below_setCells w.heap.size (Nat.le_refl _) [.int .i64 (0), .int .i64 0, .string ⟨#[]⟩, .slice none 0 0, .int .i64 (0), .int .i64 (0), .int .i64 (x)] 0 w3 HB.out)
set_option maxRecDepth 100000 in
set_option maxHeartbeats 1000000 in
theorem ritem_num_bad (s : ByteArray) (hs : s.size ≤ maxLen) (d : Nat) (p : Nat) (w : World) (hp : p ≤ 65536) {c : UInt8} {l' : List UInt8} (hO : oct p (s.data.toList.drop p) = .ok (c, l')) (hc : c.toNat ≠ 8 ∧ c.toNat ≠ 9) {x : Int} (hN : rnum p (s.data.toList.drop p) = .error x) :
    Calls Try.prog 52 #[.string s, .int .i64 (p : Int), .int .i64 (6 - (d : Int))] w (RItP w (ritem d p (s.data.toList.drop p))) := by
  obtain ⟨w1, hw1⟩ : ∃ w1, w1 = w.alloc (.cells (zrd 0 0 0) 91) := ⟨_, rfl⟩
  have hb1 : Below w.heap.size w w1 := by rw [hw1]; exact (Below.refl _ _).alloc (Nat.le_refl _) _
  have hg1 : w1.heap[w.heap.size]? = some (.cells (zrd 0 0 0) 91 (0, 0)) := by rw [hw1]; exact heap_alloc_new _ _
  unfold zrd rc at hw1
  have ho := roctet_any s hs p (by omega) w1
  obtain ⟨D, hD⟩ : ∃ D : Int, D = 6 - (d : Int) := ⟨_, rfl⟩
  rw [← hD]
  obtain ⟨R, hR⟩ : ∃ R, R = ritem d p (s.data.toList.drop p) := ⟨_, rfl⟩
  rw [← hR]
  have hpi : (p : Int) ≤ 65536 := by omega
  unfold octV at ho
  rw [hO] at ho
  simp only at ho
  obtain ⟨hp6, hdr⟩ := oct_ok.1 hO
  have hl' : l' = s.data.toList.drop (p + 1) := rest_drop (a := [c]) hdr rfl rfl
  obtain ⟨k, hk⟩ : ∃ k, k = c.toNat := ⟨_, rfl⟩
  rw [ritem.eq_def] at hR
  simp only at hR
  rw [hO] at hR
  simp only at hR
  rw [← hk] at hR ho hc
  rw [hl'] at hR
  rw [if_pos hc, hN] at hR
  simp only at hR
  have hn := fun W => rnumber_any s hs p (by omega) W
  rw [hN] at hn
  unfold numE at hn
  simp only at hn
  have HX := Lib.hid (rnum_err hN)
  have hk8 : ((k : Int) != 8) = true := by rw [bne_iff_ne]; omega
  have hk9 : ((k : Int) != 9) = true := by rw [bne_iff_ne]; omega
  have H := Lib.hid (And.intro ho (And.intro hb1 (And.intro hg1 (And.intro hR hn))))
  clear ho hb1 hg1 hR hO hs hD hN hn hc hdr hl' hk
  go_enter Try.func52, Try.ntmps52
  go_upto_region 1 with fail
  rw [← hw1]
  clear hw1
  go_wp2_with fail
  refine H.out.1.mono ?_
  rintro e w2 ⟨rfl, hb⟩
  have hz1 := lt_of_heap H.out.2.2.1
  obtain ⟨w3, hw3⟩ : ∃ w3, w3 = w2.alloc (.cells (zrd ((k : Int)) ((p : Int) + 1) (0)) 91) := ⟨_, rfl⟩
  have hb2 := H.out.2.1.trans (hb.mono H.out.2.1.size)
  have hb3 : Below w2.heap.size w2 w3 := by rw [hw3]; exact (Below.refl _ _).alloc (Nat.le_refl _) _
  have hg3 : w3.heap[w2.heap.size]? = some (.cells (zrd ((k : Int)) ((p : Int) + 1) (0)) 91 (0, 0)) := by rw [hw3]; exact heap_alloc_new _ _
  have hg2 := (hb3.block w.heap.size (Nat.lt_of_lt_of_le hz1 hb.size)).trans ((hb.block _ hz1).trans H.out.2.2.1)
  have N3 : NumW w w2.heap.size ((k : Int)) ((p : Int) + 1) (0) w3 := ⟨hb2.trans (hb3.mono hb2.size), hg2, hg3, Nat.lt_of_lt_of_le hz1 hb.size⟩
  clear hb hb2 hb3 hg2 hg3 hz1
  unfold zrd rc at hw3
  simp only [zrd, rc]
  go_upto_region 2 with fail
  rw [← hw3]
  clear hw3
  generalize w2.heap.size = g at *
  obtain ⟨r0, r1, r2, r3, r4, r5, r6, fr⟩ := rc_cells N3.row
  go_wp2_with fail
  refine (H.out.2.2.2.2 w3).mono ?_
  rintro e w4 ⟨rfl, hb⟩
  have N4 := N3.call hb
  obtain ⟨w5, hw5⟩ : ∃ w5, w5 = w4.alloc (.cells (zrd (0) (0) (x)) 91) := ⟨_, rfl⟩
  have hb5 : Below w4.heap.size w4 w5 := by rw [hw5]; exact (Below.refl _ _).alloc (Nat.le_refl _) _
  have hg5 : w5.heap[w4.heap.size]? = some (.cells (zrd (0) (0) (x)) 91 (0, 0)) := by rw [hw5]; exact heap_alloc_new _ _
  have N5 := N4.call hb5
  have hz4 : w.heap.size < w4.heap.size := lt_of_heap N4.zero
  clear hb hb5 N3 N4 r0 r1 r2 r3 r4 r5 r6 fr
  unfold zrd rc at hw5
  simp only [zrd, rc]
  go_upto_region 6 with fail
  rw [← hw5]
  clear hw5
  generalize w4.heap.size = g2 at *
  obtain ⟨r0, r1, r2, r3, r4, r5, r6, fr⟩ := rc_cells hg5
  go_upto_region 7 with fail
  have hW6 : ((((w5.setCell ⟨g2, 0, none⟩ (.int .i64 1)).setCell ⟨g2, 1, none⟩ (.int .i64 (0))).setCell ⟨g2, 2, none⟩ (.string ⟨#[]⟩)).setCell ⟨g2, 3, none⟩ (.slice none 0 0)) = w5.setCells g2 0 [.int .i64 1, .int .i64 (0), .string ⟨#[]⟩, .slice none 0 0] := rfl
  rw [hW6]
  clear hW6 r0 r1 r2 r3 r4 r5 r6 fr
  have hg6 := rc_set4 hg5 1 (0) ⟨#[]⟩ (.slice none 0 0)
  have hq6 := (c_heap_setCells_other g2 w.heap.size (Nat.ne_of_lt hz4) [.int .i64 1, .int .i64 (0), .string ⟨#[]⟩, .slice none 0 0] 0 w5).trans N5.zero
  have hb6 := below_setCells g2 (Nat.le_of_lt hz4) [.int .i64 1, .int .i64 (0), .string ⟨#[]⟩, .slice none 0 0] 0 w5 N5.below
  generalize World.setCells _ _ _ _ = w6 at *
  obtain ⟨r0, r1, r2, r3, r4, r5, r6, fr⟩ := rc_cells hg6
  obtain ⟨q0, q1, q2, q3, q4, q5, q6, f⟩ := rc_cells hq6
  have HB := Lib.hid hb6
  clear N5 hg5 hg6 hq6 hb6
  go_wp2_with fail
  refine bodyPost_ret (v := .agg (rc (1) 0 ⟨#[]⟩ (.slice none 0 0) (0) (0) (x))) (by simp [results, Try.results52, go_sem, q0, q1, q2, q3, q4, q5, q6, rc]) rfl ?_
  exact RItP.err (k := 1) H.out.2.2.2.1 HX.out (below_setCells w.heap.size (Nat.le_refl _) [.int .i64 (1), .int .i64 0, .string ⟨#[]⟩, .slice none 0 0, .int .i64 (0), .int .i64 (0), .int .i64 (x)] 0 w6 HB.out)
set_option maxRecDepth 100000 in
set_option maxHeartbeats 1000000 in
theorem ritem_num_good (s : ByteArray) (hs : s.size ≤ maxLen) (d : Nat) (p : Nat) (w : World) (hp : p ≤ 65536) {c : UInt8} {l' : List UInt8} (hO : oct p (s.data.toList.drop p) = .ok (c, l')) (hc : c.toNat ≠ 8 ∧ c.toNat ≠ 9) {n q : Nat} {r' : List UInt8} (hN : rnum p (s.data.toList.drop p) = .ok (n, q, r')) :
    Calls Try.prog 52 #[.string s, .int .i64 (p : Int), .int .i64 (6 - (d : Int))] w (RItP w (ritem d p (s.data.toList.drop p))) := by
  obtain ⟨w1, hw1⟩ : ∃ w1, w1 = w.alloc (.cells (zrd 0 0 0) 91) := ⟨_, rfl⟩
  have hb1 : Below w.heap.size w w1 := by rw [hw1]; exact (Below.refl _ _).alloc (Nat.le_refl _) _
  have hg1 : w1.heap[w.heap.size]? = some (.cells (zrd 0 0 0) 91 (0, 0)) := by rw [hw1]; exact heap_alloc_new _ _
  unfold zrd rc at hw1
  have ho := roctet_any s hs p (by omega) w1
  obtain ⟨D, hD⟩ : ∃ D : Int, D = 6 - (d : Int) := ⟨_, rfl⟩
  rw [← hD]
  obtain ⟨R, hR⟩ : ∃ R, R = ritem d p (s.data.toList.drop p) := ⟨_, rfl⟩
  rw [← hR]
  have hpi : (p : Int) ≤ 65536 := by omega
  unfold octV at ho
  rw [hO] at ho
  simp only at ho
  obtain ⟨hp6, hdr⟩ := oct_ok.1 hO
  have hl' : l' = s.data.toList.drop (p + 1) := rest_drop (a := [c]) hdr rfl rfl
  obtain ⟨k, hk⟩ : ∃ k, k = c.toNat := ⟨_, rfl⟩
  rw [ritem.eq_def] at hR
  simp only at hR
  rw [hO] at hR
  simp only at hR
  rw [← hk] at hR ho hc
  rw [hl'] at hR
  rw [if_pos hc, hN] at hR
  simp only at hR
  have hn := fun W => rnumber_any s hs p (by omega) W
  rw [hN] at hn
  unfold numE at hn
  simp only at hn
  have HX := Lib.hid True.intro
  have hk8 : ((k : Int) != 8) = true := by rw [bne_iff_ne]; omega
  have hk9 : ((k : Int) != 9) = true := by rw [bne_iff_ne]; omega
  have H := Lib.hid (And.intro ho (And.intro hb1 (And.intro hg1 (And.intro hR hn))))
  clear ho hb1 hg1 hR hO hs hD hN hn hc hdr hl' hk
  go_enter Try.func52, Try.ntmps52
  go_upto_region 1 with fail
  rw [← hw1]
  clear hw1
  go_wp2_with fail
  refine H.out.1.mono ?_
  rintro e w2 ⟨rfl, hb⟩
  have hz1 := lt_of_heap H.out.2.2.1
  obtain ⟨w3, hw3⟩ : ∃ w3, w3 = w2.alloc (.cells (zrd ((k : Int)) ((p : Int) + 1) (0)) 91) := ⟨_, rfl⟩
  have hb2 := H.out.2.1.trans (hb.mono H.out.2.1.size)
  have hb3 : Below w2.heap.size w2 w3 := by rw [hw3]; exact (Below.refl _ _).alloc (Nat.le_refl _) _
  have hg3 : w3.heap[w2.heap.size]? = some (.cells (zrd ((k : Int)) ((p : Int) + 1) (0)) 91 (0, 0)) := by rw [hw3]; exact heap_alloc_new _ _
  have hg2 := (hb3.block w.heap.size (Nat.lt_of_lt_of_le hz1 hb.size)).trans ((hb.block _ hz1).trans H.out.2.2.1)
  have N3 : NumW w w2.heap.size ((k : Int)) ((p : Int) + 1) (0) w3 := ⟨hb2.trans (hb3.mono hb2.size), hg2, hg3, Nat.lt_of_lt_of_le hz1 hb.size⟩
  clear hb hb2 hb3 hg2 hg3 hz1
  unfold zrd rc at hw3
  simp only [zrd, rc]
  go_upto_region 2 with fail
  rw [← hw3]
  clear hw3
  generalize w2.heap.size = g at *
  obtain ⟨r0, r1, r2, r3, r4, r5, r6, fr⟩ := rc_cells N3.row
  go_wp2_with fail
  refine (H.out.2.2.2.2 w3).mono ?_
  rintro e w4 ⟨rfl, hb⟩
  have N4 := N3.call hb
  obtain ⟨w5, hw5⟩ : ∃ w5, w5 = w4.alloc (.cells (zrd ((n : Int)) ((q : Int)) (0)) 91) := ⟨_, rfl⟩
  have hb5 : Below w4.heap.size w4 w5 := by rw [hw5]; exact (Below.refl _ _).alloc (Nat.le_refl _) _
  have hg5 : w5.heap[w4.heap.size]? = some (.cells (zrd ((n : Int)) ((q : Int)) (0)) 91 (0, 0)) := by rw [hw5]; exact heap_alloc_new _ _
  have N5 := N4.call hb5
  have hz4 : w.heap.size < w4.heap.size := lt_of_heap N4.zero
  clear hb hb5 N3 N4 r0 r1 r2 r3 r4 r5 r6 fr
  unfold zrd rc at hw5
  simp only [zrd, rc]
  go_upto_region 6 with fail
  rw [← hw5]
  clear hw5
  generalize w4.heap.size = g2 at *
  obtain ⟨r0, r1, r2, r3, r4, r5, r6, fr⟩ := rc_cells hg5
  go_upto_region 7 with fail
  have hW6 : ((((w5.setCell ⟨g2, 0, none⟩ (.int .i64 1)).setCell ⟨g2, 1, none⟩ (.int .i64 ((n : Int)))).setCell ⟨g2, 2, none⟩ (.string ⟨#[]⟩)).setCell ⟨g2, 3, none⟩ (.slice none 0 0)) = w5.setCells g2 0 [.int .i64 1, .int .i64 ((n : Int)), .string ⟨#[]⟩, .slice none 0 0] := rfl
  rw [hW6]
  clear hW6 r0 r1 r2 r3 r4 r5 r6 fr
  have hg6 := rc_set4 hg5 1 ((n : Int)) ⟨#[]⟩ (.slice none 0 0)
  have hq6 := (c_heap_setCells_other g2 w.heap.size (Nat.ne_of_lt hz4) [.int .i64 1, .int .i64 ((n : Int)), .string ⟨#[]⟩, .slice none 0 0] 0 w5).trans N5.zero
  have hb6 := below_setCells g2 (Nat.le_of_lt hz4) [.int .i64 1, .int .i64 ((n : Int)), .string ⟨#[]⟩, .slice none 0 0] 0 w5 N5.below
  generalize World.setCells _ _ _ _ = w6 at *
  obtain ⟨r0, r1, r2, r3, r4, r5, r6, fr⟩ := rc_cells hg6
  obtain ⟨q0, q1, q2, q3, q4, q5, q6, f⟩ := rc_cells hq6
  have HB := Lib.hid hb6
  clear N5 hg5 hg6 hq6 hb6
  go_wp2_with fail
  refine bodyPost_ret (v := .agg (rc 1 (n : Int) ⟨#[]⟩ (.slice none 0 0) (n : Int) (q : Int) 0)) (by simp [results, Try.results52, go_sem, q0, q1, q2, q3, q4, q5, q6, rc]) rfl ?_
  rw [H.out.2.2.2.1]
  exact ⟨below_setCells w.heap.size (Nat.le_refl _) [.int .i64 1, .int .i64 (n : Int), .string ⟨#[]⟩, .slice none 0 0, .int .i64 (n : Int), .int .i64 (q : Int), .int .i64 0] 0 w6 HB.out, .mk 1 n ⟨#[]⟩ none 0 [], n, rfl, rfl, ⟨Nat.zero_le _, ⟨Nat.zero_le _, fun h => absurd rfl h⟩, trivial⟩⟩
set_option maxRecDepth 100000 in
set_option maxHeartbeats 1000000 in
theorem ritem_deep (s : ByteArray) (hs : s.size ≤ maxLen) (d : Nat) (p : Nat) (w : World) (hp : p ≤ 65536) {c : UInt8} {l' : List UInt8} (hO : oct p (s.data.toList.drop p) = .ok (c, l')) (hc : c.toNat = 9) (hd : d = 0) :
    Calls Try.prog 52 #[.string s, .int .i64 (p : Int), .int .i64 (6 - (d : Int))] w (RItP w (ritem d p (s.data.toList.drop p))) := by
  obtain ⟨w1, hw1⟩ : ∃ w1, w1 = w.alloc (.cells (zrd 0 0 0) 91) := ⟨_, rfl⟩
  have hb1 : Below w.heap.size w w1 := by rw [hw1]; exact (Below.refl _ _).alloc (Nat.le_refl _) _
  have hg1 : w1.heap[w.heap.size]? = some (.cells (zrd 0 0 0) 91 (0, 0)) := by rw [hw1]; exact heap_alloc_new _ _
  unfold zrd rc at hw1
  have ho := roctet_any s hs p (by omega) w1
  obtain ⟨D, hD⟩ : ∃ D : Int, D = 6 - (d : Int) := ⟨_, rfl⟩
  rw [← hD]
  obtain ⟨R, hR⟩ : ∃ R, R = ritem d p (s.data.toList.drop p) := ⟨_, rfl⟩
  rw [← hR]
  have hpi : (p : Int) ≤ 65536 := by omega
  unfold octV at ho
  rw [hO] at ho
  simp only at ho
  obtain ⟨hp6, hdr⟩ := oct_ok.1 hO
  have hl' : l' = s.data.toList.drop (p + 1) := rest_drop (a := [c]) hdr rfl rfl
  obtain ⟨k, hk⟩ : ∃ k, k = c.toNat := ⟨_, rfl⟩
  rw [ritem.eq_def] at hR
  simp only at hR
  rw [hO] at hR
  simp only at hR
  rw [← hk] at hR ho hc
  rw [hl'] at hR
  rw [if_neg (by omega), if_pos ⟨hc, hd⟩] at hR
  have hk8 : ((k : Int) != 8) = true := by rw [bne_iff_ne]; omega
  have hk9 : ((k : Int) != 9) = false := by rw [bne_eq_false_iff_eq]; omega
  have hke : ((k : Int) == 9) = true := by rw [beq_iff_eq]; omega
  have hkt : ((k : Int) == 8) = false := by rw [beq_eq_false_iff_ne]; omega
  have hDd : decide ((6 : Int) ≤ D) = true := decide_eq_true (by omega)
  have H := Lib.hid (And.intro ho (And.intro hb1 (And.intro hg1 hR)))
  clear ho hb1 hg1 hR hO hs hD hdr hl' hk hc hd
  go_enter Try.func52, Try.ntmps52
  go_upto_region 1 with fail
  rw [← hw1]
  clear hw1
  go_wp2_with fail
  refine H.out.1.mono ?_
  rintro e w2 ⟨rfl, hb⟩
  have hz1 := lt_of_heap H.out.2.2.1
  obtain ⟨w3, hw3⟩ : ∃ w3, w3 = w2.alloc (.cells (zrd ((k : Int)) ((p : Int) + 1) (0)) 91) := ⟨_, rfl⟩
  have hb2 := H.out.2.1.trans (hb.mono H.out.2.1.size)
  have hb3 : Below w2.heap.size w2 w3 := by rw [hw3]; exact (Below.refl _ _).alloc (Nat.le_refl _) _
  have hg3 : w3.heap[w2.heap.size]? = some (.cells (zrd ((k : Int)) ((p : Int) + 1) (0)) 91 (0, 0)) := by rw [hw3]; exact heap_alloc_new _ _
  have hg2 := (hb3.block w.heap.size (Nat.lt_of_lt_of_le hz1 hb.size)).trans ((hb.block _ hz1).trans H.out.2.2.1)
  have N3 : NumW w w2.heap.size ((k : Int)) ((p : Int) + 1) (0) w3 := ⟨hb2.trans (hb3.mono hb2.size), hg2, hg3, Nat.lt_of_lt_of_le hz1 hb.size⟩
  clear hb hb2 hb3 hg2 hg3 hz1
  unfold zrd rc at hw3
  simp only [zrd, rc]
  go_upto_region 2 with fail
  rw [← hw3]
  clear hw3
  generalize w2.heap.size = g at *
  obtain ⟨r0, r1, r2, r3, r4, r5, r6, fr⟩ := rc_cells N3.row
  obtain ⟨q0, q1, q2, q3, q4, q5, q6, f⟩ := rc_cells N3.zero
  have HB := Lib.hid N3.below
  clear N3
  go_wp2_with fail
  refine bodyPost_ret (v := .agg (rc (0) 0 ⟨#[]⟩ (.slice none 0 0) (0) (0) (3))) (by simp [results, Try.results52, go_sem, q0, q1, q2, q3, q4, q5, q6, rc]) rfl ?_
  exact RItP.err (k := 0) H.out.2.2.2 (.inl rfl) (below_setCells w.heap.size (Nat.le_refl _) [.int .i64 (0), .int .i64 0, .string ⟨#[]⟩, .slice none 0 0, .int .i64 (0), .int .i64 (0), .int .i64 (3)] 0 w3 HB.out)
set_option maxRecDepth 100000 in
set_option maxHeartbeats 1000000 in
theorem ritem_bad8 (s : ByteArray) (hs : s.size ≤ maxLen) (d : Nat) (p : Nat) (w : World) (hp : p ≤ 65536) {c : UInt8} {l' : List UInt8} (hO : oct p (s.data.toList.drop p) = .ok (c, l')) (hc : c.toNat = 8) {x : Int} (hN : rnum (p + 1) (s.data.toList.drop (p + 1)) = .error x) :
    Calls Try.prog 52 #[.string s, .int .i64 (p : Int), .int .i64 (6 - (d : Int))] w (RItP w (ritem d p (s.data.toList.drop p))) := by
  obtain ⟨w1, hw1⟩ : ∃ w1, w1 = w.alloc (.cells (zrd 0 0 0) 91) := ⟨_, rfl⟩
  have hb1 : Below w.heap.size w w1 := by rw [hw1]; exact (Below.refl _ _).alloc (Nat.le_refl _) _
  have hg1 : w1.heap[w.heap.size]? = some (.cells (zrd 0 0 0) 91 (0, 0)) := by rw [hw1]; exact heap_alloc_new _ _
  unfold zrd rc at hw1
  have ho := roctet_any s hs p (by omega) w1
  obtain ⟨D, hD⟩ : ∃ D : Int, D = 6 - (d : Int) := ⟨_, rfl⟩
  rw [← hD]
  obtain ⟨R, hR⟩ : ∃ R, R = ritem d p (s.data.toList.drop p) := ⟨_, rfl⟩
  rw [← hR]
  have hpi : (p : Int) ≤ 65536 := by omega
  unfold octV at ho
  rw [hO] at ho
  simp only at ho
  obtain ⟨hp6, hdr⟩ := oct_ok.1 hO
  have hl' : l' = s.data.toList.drop (p + 1) := rest_drop (a := [c]) hdr rfl rfl
  obtain ⟨k, hk⟩ : ∃ k, k = c.toNat := ⟨_, rfl⟩
  rw [ritem.eq_def] at hR
  simp only at hR
  rw [hO] at hR
  simp only at hR
  rw [← hk] at hR ho hc
  rw [hl'] at hR
  rw [if_neg (by omega), if_neg (by omega), hN] at hR
  simp only at hR
  have hn := fun W => rnumber_any s hs (p + 1) (by omega) W
  rw [show ((p + 1 : Nat) : Int) = (p : Int) + 1 by omega, hN] at hn
  unfold numE at hn
  simp only at hn
  have hk8 : ((k : Int) != 8) = false := by rw [bne_eq_false_iff_eq]; omega
  have hke : ((k : Int) == 9) = false := by rw [beq_eq_false_iff_ne]; omega
  have hkt : ((k : Int) == 8) = true := by rw [beq_iff_eq]; omega
  have HX := Lib.hid (rnum_err hN)
  have hx0 : (x != 0) = true := by rcases rnum_err hN with rfl | rfl <;> rfl
  have H := Lib.hid (And.intro ho (And.intro hb1 (And.intro hg1 (And.intro hR hn))))
  clear ho hb1 hg1 hR hO hs hD hN hn hc hdr hl' hk
  go_enter Try.func52, Try.ntmps52
  go_upto_region 1 with fail
  rw [← hw1]
  clear hw1
  go_wp2_with fail
  refine H.out.1.mono ?_
  rintro e w2 ⟨rfl, hb⟩
  have hz1 := lt_of_heap H.out.2.2.1
  obtain ⟨w3, hw3⟩ : ∃ w3, w3 = w2.alloc (.cells (zrd ((k : Int)) ((p : Int) + 1) (0)) 91) := ⟨_, rfl⟩
  have hb2 := H.out.2.1.trans (hb.mono H.out.2.1.size)
  have hb3 : Below w2.heap.size w2 w3 := by rw [hw3]; exact (Below.refl _ _).alloc (Nat.le_refl _) _
  have hg3 : w3.heap[w2.heap.size]? = some (.cells (zrd ((k : Int)) ((p : Int) + 1) (0)) 91 (0, 0)) := by rw [hw3]; exact heap_alloc_new _ _
  have hg2 := (hb3.block w.heap.size (Nat.lt_of_lt_of_le hz1 hb.size)).trans ((hb.block _ hz1).trans H.out.2.2.1)
  have N3 : NumW w w2.heap.size ((k : Int)) ((p : Int) + 1) (0) w3 := ⟨hb2.trans (hb3.mono hb2.size), hg2, hg3, Nat.lt_of_lt_of_le hz1 hb.size⟩
  clear hb hb2 hb3 hg2 hg3 hz1
  unfold zrd rc at hw3
  simp only [zrd, rc]
  go_upto_region 2 with fail
  rw [← hw3]
  clear hw3
  generalize w2.heap.size = g at *
  obtain ⟨r0, r1, r2, r3, r4, r5, r6, fr⟩ := rc_cells N3.row
  go_wp2_with fail
  refine (H.out.2.2.2.2 w3).mono ?_
  rintro e w4 ⟨rfl, hb⟩
  have N4 := N3.call hb
  obtain ⟨w5, hw5⟩ : ∃ w5, w5 = w4.alloc (.cells (zrd (0) (0) (x)) 91) := ⟨_, rfl⟩
  have hb5 : Below w4.heap.size w4 w5 := by rw [hw5]; exact (Below.refl _ _).alloc (Nat.le_refl _) _
  have hg5 : w5.heap[w4.heap.size]? = some (.cells (zrd (0) (0) (x)) 91 (0, 0)) := by rw [hw5]; exact heap_alloc_new _ _
  have N5 := N4.call hb5
  have hz4 : w.heap.size < w4.heap.size := lt_of_heap N4.zero
  have hzg : g < w4.heap.size := N4.lt
  clear hb hb5 N3 N4 r0 r1 r2 r3 r4 r5 r6 fr
  unfold zrd rc at hw5
  simp only [zrd, rc]
  go_upto_region 11 with fail
  rw [← hw5]
  clear hw5
  generalize w4.heap.size = g2 at *
  obtain ⟨-, -, -, -, cN, -, -, -⟩ := rc_cells N5.row
  obtain ⟨r0, r1, r2, r3, r4, r5, r6, fr⟩ := rc_cells hg5
  obtain ⟨q0, q1, q2, q3, q4, q5, q6, f⟩ := rc_cells N5.zero
  have HB := Lib.hid N5.below
  clear N5 hg5
  go_wp2_with fail
  refine bodyPost_ret (v := .agg (rc (0) 0 ⟨#[]⟩ (.slice none 0 0) (0) (0) (x))) (by simp [results, Try.results52, go_sem, q0, q1, q2, q3, q4, q5, q6, rc]) rfl ?_
  exact RItP.err (k := 0) H.out.2.2.2.1 HX.out (below_setCells w.heap.size (Nat.le_refl _) [.int .i64 (0), .int .i64 0, .string ⟨#[]⟩, .slice none 0 0, .int .i64 (0), .int .i64 (0), .int .i64 (x)] 0 w5 HB.out)
set_option maxRecDepth 100000 in
set_option maxHeartbeats 1000000 in
theorem ritem_bad9 (s : ByteArray) (hs : s.size ≤ maxLen) (d : Nat) (p : Nat) (w : World) (hp : p ≤ 65536) {c : UInt8} {l' : List UInt8} (hO : oct p (s.data.toList.drop p) = .ok (c, l')) (hc : c.toNat = 9) (hd : 0 < d) (hd6 : d ≤ 6) {x : Int} (hN : rnum (p + 1) (s.data.toList.drop (p + 1)) = .error x) :
    Calls Try.prog 52 #[.string s, .int .i64 (p : Int), .int .i64 (6 - (d : Int))] w (RItP w (ritem d p (s.data.toList.drop p))) := by
  obtain ⟨w1, hw1⟩ : ∃ w1, w1 = w.alloc (.cells (zrd 0 0 0) 91) := ⟨_, rfl⟩
  have hb1 : Below w.heap.size w w1 := by rw [hw1]; exact (Below.refl _ _).alloc (Nat.le_refl _) _
  have hg1 : w1.heap[w.heap.size]? = some (.cells (zrd 0 0 0) 91 (0, 0)) := by rw [hw1]; exact heap_alloc_new _ _
  unfold zrd rc at hw1
  have ho := roctet_any s hs p (by omega) w1
  obtain ⟨D, hD⟩ : ∃ D : Int, D = 6 - (d : Int) := ⟨_, rfl⟩
  rw [← hD]
  obtain ⟨R, hR⟩ : ∃ R, R = ritem d p (s.data.toList.drop p) := ⟨_, rfl⟩
  rw [← hR]
  have hpi : (p : Int) ≤ 65536 := by omega
  unfold octV at ho
  rw [hO] at ho
  simp only at ho
  obtain ⟨hp6, hdr⟩ := oct_ok.1 hO
  have hl' : l' = s.data.toList.drop (p + 1) := rest_drop (a := [c]) hdr rfl rfl
  obtain ⟨k, hk⟩ : ∃ k, k = c.toNat := ⟨_, rfl⟩
  rw [ritem.eq_def] at hR
  simp only at hR
  rw [hO] at hR
  simp only at hR
  rw [← hk] at hR ho hc
  rw [hl'] at hR
  rw [if_neg (by omega), if_neg (by omega), hN] at hR
  simp only at hR
  have hn := fun W => rnumber_any s hs (p + 1) (by omega) W
  rw [show ((p + 1 : Nat) : Int) = (p : Int) + 1 by omega, hN] at hn
  unfold numE at hn
  simp only at hn
  have hk8 : ((k : Int) != 8) = true := by rw [bne_iff_ne]; omega
  have hk9 : ((k : Int) != 9) = false := by rw [bne_eq_false_iff_eq]; omega
  have hke : ((k : Int) == 9) = true := by rw [beq_iff_eq]; omega
  have hkt : ((k : Int) == 8) = false := by rw [beq_eq_false_iff_ne]; omega
  have hDd : decide ((6 : Int) ≤ D) = false := decide_eq_false (by omega)
  have HX := Lib.hid (rnum_err hN)
  have hx0 : (x != 0) = true := by rcases rnum_err hN with rfl | rfl <;> rfl
  have H := Lib.hid (And.intro ho (And.intro hb1 (And.intro hg1 (And.intro hR hn))))
  clear ho hb1 hg1 hR hO hs hD hN hn hc hdr hl' hk hd hd6
  go_enter Try.func52, Try.ntmps52
  go_upto_region 1 with fail
  rw [← hw1]
  clear hw1
  go_wp2_with fail
  refine H.out.1.mono ?_
  rintro e w2 ⟨rfl, hb⟩
  have hz1 := lt_of_heap H.out.2.2.1
  obtain ⟨w3, hw3⟩ : ∃ w3, w3 = w2.alloc (.cells (zrd ((k : Int)) ((p : Int) + 1) (0)) 91) := ⟨_, rfl⟩
  have hb2 := H.out.2.1.trans (hb.mono H.out.2.1.size)
  have hb3 : Below w2.heap.size w2 w3 := by rw [hw3]; exact (Below.refl _ _).alloc (Nat.le_refl _) _
  have hg3 : w3.heap[w2.heap.size]? = some (.cells (zrd ((k : Int)) ((p : Int) + 1) (0)) 91 (0, 0)) := by rw [hw3]; exact heap_alloc_new _ _
  have hg2 := (hb3.block w.heap.size (Nat.lt_of_lt_of_le hz1 hb.size)).trans ((hb.block _ hz1).trans H.out.2.2.1)
  have N3 : NumW w w2.heap.size ((k : Int)) ((p : Int) + 1) (0) w3 := ⟨hb2.trans (hb3.mono hb2.size), hg2, hg3, Nat.lt_of_lt_of_le hz1 hb.size⟩
  clear hb hb2 hb3 hg2 hg3 hz1
  unfold zrd rc at hw3
  simp only [zrd, rc]
  go_upto_region 2 with fail
  rw [← hw3]
  clear hw3
  generalize w2.heap.size = g at *
  obtain ⟨r0, r1, r2, r3, r4, r5, r6, fr⟩ := rc_cells N3.row
  go_wp2_with fail
  refine (H.out.2.2.2.2 w3).mono ?_
  rintro e w4 ⟨rfl, hb⟩
  have N4 := N3.call hb
  obtain ⟨w5, hw5⟩ : ∃ w5, w5 = w4.alloc (.cells (zrd (0) (0) (x)) 91) := ⟨_, rfl⟩
  have hb5 : Below w4.heap.size w4 w5 := by rw [hw5]; exact (Below.refl _ _).alloc (Nat.le_refl _) _
  have hg5 : w5.heap[w4.heap.size]? = some (.cells (zrd (0) (0) (x)) 91 (0, 0)) := by rw [hw5]; exact heap_alloc_new _ _
  have N5 := N4.call hb5
  have hz4 : w.heap.size < w4.heap.size := lt_of_heap N4.zero
  have hzg : g < w4.heap.size := N4.lt
  clear hb hb5 N3 N4 r0 r1 r2 r3 r4 r5 r6 fr
  unfold zrd rc at hw5
  simp only [zrd, rc]
  go_upto_region 11 with fail
  rw [← hw5]
  clear hw5
  generalize w4.heap.size = g2 at *
  obtain ⟨-, -, -, -, cN, -, -, -⟩ := rc_cells N5.row
  obtain ⟨r0, r1, r2, r3, r4, r5, r6, fr⟩ := rc_cells hg5
  obtain ⟨q0, q1, q2, q3, q4, q5, q6, f⟩ := rc_cells N5.zero
  have HB := Lib.hid N5.below
  clear N5 hg5
  go_wp2_with fail
  refine bodyPost_ret (v := .agg (rc (0) 0 ⟨#[]⟩ (.slice none 0 0) (0) (0) (x))) (by simp [results, Try.results52, go_sem, q0, q1, q2, q3, q4, q5, q6, rc]) rfl ?_
  exact RItP.err (k := 0) H.out.2.2.2.1 HX.out (below_setCells w.heap.size (Nat.le_refl _) [.int .i64 (0), .int .i64 0, .string ⟨#[]⟩, .slice none 0 0, .int .i64 (0), .int .i64 (0), .int .i64 (x)] 0 w5 HB.out)
set_option maxRecDepth 100000 in
set_option maxHeartbeats 1000000 in
theorem ritem_text_long (s : ByteArray) (hs : s.size ≤ maxLen) (d : Nat) (p : Nat) (w : World) (hp : p ≤ 65536) {c : UInt8} {l' : List UInt8} (hO : oct p (s.data.toList.drop p) = .ok (c, l')) (hc : c.toNat = 8) {n q : Nat} {r' : List UInt8} (hN : rnum (p + 1) (s.data.toList.drop (p + 1)) = .ok (n, q, r')) (h1 : 65536 < q + n) :
    Calls Try.prog 52 #[.string s, .int .i64 (p : Int), .int .i64 (6 - (d : Int))] w (RItP w (ritem d p (s.data.toList.drop p))) := by
  obtain ⟨w1, hw1⟩ : ∃ w1, w1 = w.alloc (.cells (zrd 0 0 0) 91) := ⟨_, rfl⟩
  have hb1 : Below w.heap.size w w1 := by rw [hw1]; exact (Below.refl _ _).alloc (Nat.le_refl _) _
  have hg1 : w1.heap[w.heap.size]? = some (.cells (zrd 0 0 0) 91 (0, 0)) := by rw [hw1]; exact heap_alloc_new _ _
  unfold zrd rc at hw1
  have ho := roctet_any s hs p (by omega) w1
  obtain ⟨D, hD⟩ : ∃ D : Int, D = 6 - (d : Int) := ⟨_, rfl⟩
  rw [← hD]
  obtain ⟨R, hR⟩ : ∃ R, R = ritem d p (s.data.toList.drop p) := ⟨_, rfl⟩
  rw [← hR]
  have hpi : (p : Int) ≤ 65536 := by omega
  unfold octV at ho
  rw [hO] at ho
  simp only at ho
  obtain ⟨hp6, hdr⟩ := oct_ok.1 hO
  have hl' : l' = s.data.toList.drop (p + 1) := rest_drop (a := [c]) hdr rfl rfl
  obtain ⟨k, hk⟩ : ∃ k, k = c.toNat := ⟨_, rfl⟩
  rw [ritem.eq_def] at hR
  simp only at hR
  rw [hO] at hR
  simp only at hR
  rw [← hk] at hR ho hc
  rw [hl'] at hR
  rw [if_neg (by omega), if_neg (by omega), hN] at hR
  simp only at hR
  rw [if_pos hc] at hR
  unfold rtext at hR
  rw [if_pos h1] at hR
  have hn := fun W => rnumber_any s hs (p + 1) (by omega) W
  rw [show ((p + 1 : Nat) : Int) = (p : Int) + 1 by omega, hN] at hn
  unfold numE at hn
  simp only at hn
  obtain ⟨e1, e2, e3, e4⟩ := rnum_ok hN
  have hr' : r' = s.data.toList.drop q := rest_drop e1 rfl e3
  have hni : (n : Int) < 72057594037927936 := by
    have : (256 : Nat) ^ 7 = 72057594037927936 := by decide
    omega
  have hqi : (q : Int) ≤ 65536 := by omega
  have hqs : q ≤ s.size := by
    have a1 := congrArg List.length e1
    have a2 := congrArg List.length hdr
    have a3 : s.data.toList.length = s.size := by simp
    rw [List.length_drop, List.length_append] at a1
    rw [List.length_drop, List.length_cons] at a2
    omega
  clear e1 e2 e3 e4
  have hk8 : ((k : Int) != 8) = false := by rw [bne_eq_false_iff_eq]; omega
  have hke : ((k : Int) == 9) = false := by rw [beq_eq_false_iff_ne]; omega
  have hkt : ((k : Int) == 8) = true := by rw [beq_iff_eq]; omega
  obtain ⟨S, hS⟩ : ∃ S, S = s.size := ⟨_, rfl⟩
  have hSi : (s.size : Int) = (S : Int) := by omega
  have hrl : r'.length = S - q := by rw [hr', List.length_drop, hS]; simp
  have hSm : (S : Int) ≤ 9223372036854775807 := by unfold maxLen at hs; omega
  have hg1' : decide ((65536 : Int) - (q : Int) < (n : Int)) = true := decide_eq_true (by omega)
  have H := Lib.hid (And.intro ho (And.intro hb1 (And.intro hg1 (And.intro hR hn))))
  clear ho hb1 hg1 hR hO hD hN hn hc hdr hl' hk hr' hrl hS hs hqs h1
  go_enter Try.func52, Try.ntmps52
  go_upto_region 1 with fail
  rw [← hw1]
  clear hw1
  go_wp2_with fail
  refine H.out.1.mono ?_
  rintro e w2 ⟨rfl, hb⟩
  have hz1 := lt_of_heap H.out.2.2.1
  obtain ⟨w3, hw3⟩ : ∃ w3, w3 = w2.alloc (.cells (zrd ((k : Int)) ((p : Int) + 1) (0)) 91) := ⟨_, rfl⟩
  have hb2 := H.out.2.1.trans (hb.mono H.out.2.1.size)
  have hb3 : Below w2.heap.size w2 w3 := by rw [hw3]; exact (Below.refl _ _).alloc (Nat.le_refl _) _
  have hg3 : w3.heap[w2.heap.size]? = some (.cells (zrd ((k : Int)) ((p : Int) + 1) (0)) 91 (0, 0)) := by rw [hw3]; exact heap_alloc_new _ _
  have hg2 := (hb3.block w.heap.size (Nat.lt_of_lt_of_le hz1 hb.size)).trans ((hb.block _ hz1).trans H.out.2.2.1)
  have N3 : NumW w w2.heap.size ((k : Int)) ((p : Int) + 1) (0) w3 := ⟨hb2.trans (hb3.mono hb2.size), hg2, hg3, Nat.lt_of_lt_of_le hz1 hb.size⟩
  clear hb hb2 hb3 hg2 hg3 hz1
  unfold zrd rc at hw3
  simp only [zrd, rc]
  go_upto_region 2 with fail
  rw [← hw3]
  clear hw3
  generalize w2.heap.size = g at *
  obtain ⟨r0, r1, r2, r3, r4, r5, r6, fr⟩ := rc_cells N3.row
  go_wp2_with fail
  refine (H.out.2.2.2.2 w3).mono ?_
  rintro e w4 ⟨rfl, hb⟩
  have N4 := N3.call hb
  obtain ⟨w5, hw5⟩ : ∃ w5, w5 = w4.alloc (.cells (zrd ((n : Int)) ((q : Int)) (0)) 91) := ⟨_, rfl⟩
  have hb5 : Below w4.heap.size w4 w5 := by rw [hw5]; exact (Below.refl _ _).alloc (Nat.le_refl _) _
  have hg5 : w5.heap[w4.heap.size]? = some (.cells (zrd ((n : Int)) ((q : Int)) (0)) 91 (0, 0)) := by rw [hw5]; exact heap_alloc_new _ _
  have N5 := N4.call hb5
  have hz4 : w.heap.size < w4.heap.size := lt_of_heap N4.zero
  have hzg : g < w4.heap.size := N4.lt
  clear hb hb5 N3 N4 r0 r1 r2 r3 r4 r5 r6 fr
  unfold zrd rc at hw5
  simp only [zrd, rc]
  go_upto_region 11 with fail
  rw [← hw5]
  clear hw5
  generalize w4.heap.size = g2 at *
  obtain ⟨-, -, -, -, cN, -, -, -⟩ := rc_cells N5.row
  obtain ⟨r0, r1, r2, r3, r4, r5, r6, fr⟩ := rc_cells hg5
  obtain ⟨q0, q1, q2, q3, q4, q5, q6, f⟩ := rc_cells N5.zero
  have HB := Lib.hid N5.below
  clear N5 hg5
  go_wp2_with fail
  refine bodyPost_ret (v := .agg (rc (0) 0 ⟨#[]⟩ (.slice none 0 0) (0) (0) (3))) (by simp [results, Try.results52, go_sem, q0, q1, q2, q3, q4, q5, q6, rc]) rfl ?_
  exact RItP.err (k := 0) H.out.2.2.2.1 (.inl rfl) (below_setCells w.heap.size (Nat.le_refl _) [.int .i64 (0), .int .i64 0, .string ⟨#[]⟩, .slice none 0 0, .int .i64 (0), .int .i64 (0), .int .i64 (3)] 0 w5 HB.out)
set_option maxRecDepth 100000 in
set_option maxHeartbeats 1000000 in
theorem ritem_text_short (s : ByteArray) (hs : s.size ≤ maxLen) (d : Nat) (p : Nat) (w : World) (hp : p ≤ 65536) {c : UInt8} {l' : List UInt8} (hO : oct p (s.data.toList.drop p) = .ok (c, l')) (hc : c.toNat = 8) {n q : Nat} {r' : List UInt8} (hN : rnum (p + 1) (s.data.toList.drop (p + 1)) = .ok (n, q, r')) (h1 : ¬ 65536 < q + n) (h2 : r'.length < n) :
    Calls Try.prog 52 #[.string s, .int .i64 (p : Int), .int .i64 (6 - (d : Int))] w (RItP w (ritem d p (s.data.toList.drop p))) := by
  obtain ⟨w1, hw1⟩ : ∃ w1, w1 = w.alloc (.cells (zrd 0 0 0) 91) := ⟨_, rfl⟩
  have hb1 : Below w.heap.size w w1 := by rw [hw1]; exact (Below.refl _ _).alloc (Nat.le_refl _) _
  have hg1 : w1.heap[w.heap.size]? = some (.cells (zrd 0 0 0) 91 (0, 0)) := by rw [hw1]; exact heap_alloc_new _ _
  unfold zrd rc at hw1
  have ho := roctet_any s hs p (by omega) w1
  obtain ⟨D, hD⟩ : ∃ D : Int, D = 6 - (d : Int) := ⟨_, rfl⟩
  rw [← hD]
  obtain ⟨R, hR⟩ : ∃ R, R = ritem d p (s.data.toList.drop p) := ⟨_, rfl⟩
  rw [← hR]
  have hpi : (p : Int) ≤ 65536 := by omega
  unfold octV at ho
  rw [hO] at ho
  simp only at ho
  obtain ⟨hp6, hdr⟩ := oct_ok.1 hO
  have hl' : l' = s.data.toList.drop (p + 1) := rest_drop (a := [c]) hdr rfl rfl
  obtain ⟨k, hk⟩ : ∃ k, k = c.toNat := ⟨_, rfl⟩
  rw [ritem.eq_def] at hR
  simp only at hR
  rw [hO] at hR
  simp only at hR
  rw [← hk] at hR ho hc
  rw [hl'] at hR
  rw [if_neg (by omega), if_neg (by omega), hN] at hR
  simp only at hR
  rw [if_pos hc] at hR
  unfold rtext at hR
  rw [if_neg h1, if_pos h2] at hR
  have hn := fun W => rnumber_any s hs (p + 1) (by omega) W
  rw [show ((p + 1 : Nat) : Int) = (p : Int) + 1 by omega, hN] at hn
  unfold numE at hn
  simp only at hn
  obtain ⟨e1, e2, e3, e4⟩ := rnum_ok hN
  have hr' : r' = s.data.toList.drop q := rest_drop e1 rfl e3
  have hni : (n : Int) < 72057594037927936 := by
    have : (256 : Nat) ^ 7 = 72057594037927936 := by decide
    omega
  have hqi : (q : Int) ≤ 65536 := by omega
  have hqs : q ≤ s.size := by
    have a1 := congrArg List.length e1
    have a2 := congrArg List.length hdr
    have a3 : s.data.toList.length = s.size := by simp
    rw [List.length_drop, List.length_append] at a1
    rw [List.length_drop, List.length_cons] at a2
    omega
  clear e1 e2 e3 e4
  have hk8 : ((k : Int) != 8) = false := by rw [bne_eq_false_iff_eq]; omega
  have hke : ((k : Int) == 9) = false := by rw [beq_eq_false_iff_ne]; omega
  have hkt : ((k : Int) == 8) = true := by rw [beq_iff_eq]; omega
  obtain ⟨S, hS⟩ : ∃ S, S = s.size := ⟨_, rfl⟩
  have hSi : (s.size : Int) = (S : Int) := by omega
  have hrl : r'.length = S - q := by rw [hr', List.length_drop, hS]; simp
  have hSm : (S : Int) ≤ 9223372036854775807 := by unfold maxLen at hs; omega
  have hg1' : decide ((65536 : Int) - (q : Int) < (n : Int)) = false := decide_eq_false (by omega)
  have hg2' : decide ((S : Int) - (q : Int) < (n : Int)) = true := decide_eq_true (by omega)
  have H := Lib.hid (And.intro ho (And.intro hb1 (And.intro hg1 (And.intro hR hn))))
  clear ho hb1 hg1 hR hO hD hN hn hc hdr hl' hk hr' hrl hS hs hqs h1 h2
  go_enter Try.func52, Try.ntmps52
  go_upto_region 1 with fail
  rw [← hw1]
  clear hw1
  go_wp2_with fail
  refine H.out.1.mono ?_
  rintro e w2 ⟨rfl, hb⟩
  have hz1 := lt_of_heap H.out.2.2.1
  obtain ⟨w3, hw3⟩ : ∃ w3, w3 = w2.alloc (.cells (zrd ((k : Int)) ((p : Int) + 1) (0)) 91) := ⟨_, rfl⟩
  have hb2 := H.out.2.1.trans (hb.mono H.out.2.1.size)
  have hb3 : Below w2.heap.size w2 w3 := by rw [hw3]; exact (Below.refl _ _).alloc (Nat.le_refl _) _
  have hg3 : w3.heap[w2.heap.size]? = some (.cells (zrd ((k : Int)) ((p : Int) + 1) (0)) 91 (0, 0)) := by rw [hw3]; exact heap_alloc_new _ _
  have hg2 := (hb3.block w.heap.size (Nat.lt_of_lt_of_le hz1 hb.size)).trans ((hb.block _ hz1).trans H.out.2.2.1)
  have N3 : NumW w w2.heap.size ((k : Int)) ((p : Int) + 1) (0) w3 := ⟨hb2.trans (hb3.mono hb2.size), hg2, hg3, Nat.lt_of_lt_of_le hz1 hb.size⟩
  clear hb hb2 hb3 hg2 hg3 hz1
  unfold zrd rc at hw3
  simp only [zrd, rc]
  go_upto_region 2 with fail
  rw [← hw3]
  clear hw3
  generalize w2.heap.size = g at *
  obtain ⟨r0, r1, r2, r3, r4, r5, r6, fr⟩ := rc_cells N3.row
  go_wp2_with fail
  refine (H.out.2.2.2.2 w3).mono ?_
  rintro e w4 ⟨rfl, hb⟩
  have N4 := N3.call hb
  obtain ⟨w5, hw5⟩ : ∃ w5, w5 = w4.alloc (.cells (zrd ((n : Int)) ((q : Int)) (0)) 91) := ⟨_, rfl⟩
  have hb5 : Below w4.heap.size w4 w5 := by rw [hw5]; exact (Below.refl _ _).alloc (Nat.le_refl _) _
  have hg5 : w5.heap[w4.heap.size]? = some (.cells (zrd ((n : Int)) ((q : Int)) (0)) 91 (0, 0)) := by rw [hw5]; exact heap_alloc_new _ _
  have N5 := N4.call hb5
  have hz4 : w.heap.size < w4.heap.size := lt_of_heap N4.zero
  have hzg : g < w4.heap.size := N4.lt
  clear hb hb5 N3 N4 r0 r1 r2 r3 r4 r5 r6 fr
  unfold zrd rc at hw5
  simp only [zrd, rc]
  go_upto_region 11 with fail
  rw [← hw5]
  clear hw5
  generalize w4.heap.size = g2 at *
  obtain ⟨-, -, -, -, cN, -, -, -⟩ := rc_cells N5.row
  obtain ⟨r0, r1, r2, r3, r4, r5, r6, fr⟩ := rc_cells hg5
  obtain ⟨q0, q1, q2, q3, q4, q5, q6, f⟩ := rc_cells N5.zero
  have HB := Lib.hid N5.below
  clear N5 hg5
  go_wp2_with fail
  refine bodyPost_ret (v := .agg (rc (0) 0 ⟨#[]⟩ (.slice none 0 0) (0) (0) (7))) (by simp [results, Try.results52, go_sem, q0, q1, q2, q3, q4, q5, q6, rc]) rfl ?_
  exact RItP.err (k := 0) H.out.2.2.2.1 (.inr rfl) (below_setCells w.heap.size (Nat.le_refl _) [.int .i64 (0), .int .i64 0, .string ⟨#[]⟩, .slice none 0 0, .int .i64 (0), .int .i64 (0), .int .i64 (7)] 0 w5 HB.out)
set_option maxRecDepth 100000 in
set_option maxHeartbeats 1000000 in
theorem ritem_text_good (s : ByteArray) (hs : s.size ≤ maxLen) (d : Nat) (p : Nat) (w : World) (hp : p ≤ 65536) {c : UInt8} {l' : List UInt8} (hO : oct p (s.data.toList.drop p) = .ok (c, l')) (hc : c.toNat = 8) {n q : Nat} {r' : List UInt8} (hN : rnum (p + 1) (s.data.toList.drop (p + 1)) = .ok (n, q, r')) (h1 : ¬ 65536 < q + n) (h2 : ¬ r'.length < n) :
    Calls Try.prog 52 #[.string s, .int .i64 (p : Int), .int .i64 (6 - (d : Int))] w (RItP w (ritem d p (s.data.toList.drop p))) := by
  obtain ⟨w1, hw1⟩ : ∃ w1, w1 = w.alloc (.cells (zrd 0 0 0) 91) := ⟨_, rfl⟩
  have hb1 : Below w.heap.size w w1 := by rw [hw1]; exact (Below.refl _ _).alloc (Nat.le_refl _) _
  have hg1 : w1.heap[w.heap.size]? = some (.cells (zrd 0 0 0) 91 (0, 0)) := by rw [hw1]; exact heap_alloc_new _ _
  unfold zrd rc at hw1
  have ho := roctet_any s hs p (by omega) w1
  obtain ⟨D, hD⟩ : ∃ D : Int, D = 6 - (d : Int) := ⟨_, rfl⟩
  rw [← hD]
  obtain ⟨R, hR⟩ : ∃ R, R = ritem d p (s.data.toList.drop p) := ⟨_, rfl⟩
  rw [← hR]
  have hpi : (p : Int) ≤ 65536 := by omega
  unfold octV at ho
  rw [hO] at ho
  simp only at ho
  obtain ⟨hp6, hdr⟩ := oct_ok.1 hO
  have hl' : l' = s.data.toList.drop (p + 1) := rest_drop (a := [c]) hdr rfl rfl
  obtain ⟨k, hk⟩ : ∃ k, k = c.toNat := ⟨_, rfl⟩
  rw [ritem.eq_def] at hR
  simp only at hR
  rw [hO] at hR
  simp only at hR
  rw [← hk] at hR ho hc
  rw [hl'] at hR
  rw [if_neg (by omega), if_neg (by omega), hN] at hR
  simp only at hR
  rw [if_pos hc] at hR
  unfold rtext at hR
  rw [if_neg h1, if_neg h2] at hR
  have hn := fun W => rnumber_any s hs (p + 1) (by omega) W
  rw [show ((p + 1 : Nat) : Int) = (p : Int) + 1 by omega, hN] at hn
  unfold numE at hn
  simp only at hn
  obtain ⟨e1, e2, e3, e4⟩ := rnum_ok hN
  have hr' : r' = s.data.toList.drop q := rest_drop e1 rfl e3
  have hni : (n : Int) < 72057594037927936 := by
    have : (256 : Nat) ^ 7 = 72057594037927936 := by decide
    omega
  have hqi : (q : Int) ≤ 65536 := by omega
  have hqs : q ≤ s.size := by
    have a1 := congrArg List.length e1
    have a2 := congrArg List.length hdr
    have a3 : s.data.toList.length = s.size := by simp
    rw [List.length_drop, List.length_append] at a1
    rw [List.length_drop, List.length_cons] at a2
    omega
  clear e1 e2 e3 e4
  have hk8 : ((k : Int) != 8) = false := by rw [bne_eq_false_iff_eq]; omega
  have hke : ((k : Int) == 9) = false := by rw [beq_eq_false_iff_ne]; omega
  have hkt : ((k : Int) == 8) = true := by rw [beq_iff_eq]; omega
  obtain ⟨S, hS⟩ : ∃ S, S = s.size := ⟨_, rfl⟩
  have hSi : (s.size : Int) = (S : Int) := by omega
  have hrl : r'.length = S - q := by rw [hr', List.length_drop, hS]; simp
  have hSm : (S : Int) ≤ 9223372036854775807 := by unfold maxLen at hs; omega
  have hg1' : decide ((65536 : Int) - (q : Int) < (n : Int)) = false := decide_eq_false (by omega)
  have hg2' : decide ((S : Int) - (q : Int) < (n : Int)) = false := decide_eq_false (by omega)
  have hqn : q + n ≤ s.size := by omega
  have hsl : ∀ W : World, (Instr.slice 9 (.string s) (some (.int .i64 (q : Int))) (some (.int .i64 ((q : Int) + (n : Int)))) none).run Try.prog W = .ok (.string (s.extract q (q + n))) W := fun W => by
    rw [run_slice_string W _ _ _ _ _ _ Try.underlying9 (by omega) (by omega) (by omega)]
    rw [Int.toNat_natCast, show ((q : Int) + (n : Int)).toNat = q + n by omega]
  have hT : (⟨(r'.take n).toArray⟩ : ByteArray) = s.extract q (q + n) := by
    refine (Go.WideShapes.bytes_inj ?_).symm
    rw [extract_data, hr']
    simp
  obtain ⟨T, hTT⟩ : ∃ T, T = s.extract q (q + n) := ⟨_, rfl⟩
  simp only [← hTT] at hsl hT
  rw [hT] at hR
  have hTs : T.size ≤ maxLen := by rw [hTT, ByteArray.size_extract]; omega
  have hwq : IntKind.i64.wrap ((q : Int) + (n : Int)) = (q : Int) + (n : Int) := IntWalk.i64_in _ (by omega)
  have H := Lib.hid (And.intro ho (And.intro hb1 (And.intro hg1 (And.intro hR (And.intro hn hTs)))))
  clear ho hb1 hg1 hR hO hD hN hn hc hdr hl' hk hr' hrl hS hs hqs h1 h2 hT hTT hTs hqn
  go_enter Try.func52, Try.ntmps52
  go_upto_region 1 with fail
  rw [← hw1]
  clear hw1
  go_wp2_with fail
  refine H.out.1.mono ?_
  rintro e w2 ⟨rfl, hb⟩
  have hz1 := lt_of_heap H.out.2.2.1
  obtain ⟨w3, hw3⟩ : ∃ w3, w3 = w2.alloc (.cells (zrd ((k : Int)) ((p : Int) + 1) (0)) 91) := ⟨_, rfl⟩
  have hb2 := H.out.2.1.trans (hb.mono H.out.2.1.size)
  have hb3 : Below w2.heap.size w2 w3 := by rw [hw3]; exact (Below.refl _ _).alloc (Nat.le_refl _) _
  have hg3 : w3.heap[w2.heap.size]? = some (.cells (zrd ((k : Int)) ((p : Int) + 1) (0)) 91 (0, 0)) := by rw [hw3]; exact heap_alloc_new _ _
  have hg2 := (hb3.block w.heap.size (Nat.lt_of_lt_of_le hz1 hb.size)).trans ((hb.block _ hz1).trans H.out.2.2.1)
  have N3 : NumW w w2.heap.size ((k : Int)) ((p : Int) + 1) (0) w3 := ⟨hb2.trans (hb3.mono hb2.size), hg2, hg3, Nat.lt_of_lt_of_le hz1 hb.size⟩
  clear hb hb2 hb3 hg2 hg3 hz1
  unfold zrd rc at hw3
  simp only [zrd, rc]
  go_upto_region 2 with fail
  rw [← hw3]
  clear hw3
  generalize w2.heap.size = g at *
  obtain ⟨r0, r1, r2, r3, r4, r5, r6, fr⟩ := rc_cells N3.row
  go_wp2_with fail
  refine (H.out.2.2.2.2.1 w3).mono ?_
  rintro e w4 ⟨rfl, hb⟩
  have N4 := N3.call hb
  obtain ⟨w5, hw5⟩ : ∃ w5, w5 = w4.alloc (.cells (zrd ((n : Int)) ((q : Int)) (0)) 91) := ⟨_, rfl⟩
  have hb5 : Below w4.heap.size w4 w5 := by rw [hw5]; exact (Below.refl _ _).alloc (Nat.le_refl _) _
  have hg5 : w5.heap[w4.heap.size]? = some (.cells (zrd ((n : Int)) ((q : Int)) (0)) 91 (0, 0)) := by rw [hw5]; exact heap_alloc_new _ _
  have N5 := N4.call hb5
  have hz4 : w.heap.size < w4.heap.size := lt_of_heap N4.zero
  have hzg : g < w4.heap.size := N4.lt
  clear hb hb5 N3 N4 r0 r1 r2 r3 r4 r5 r6 fr
  unfold zrd rc at hw5
  simp only [zrd, rc]
  go_upto_region 11 with fail
  rw [← hw5]
  clear hw5
  generalize w4.heap.size = g2 at *
  obtain ⟨-, -, -, -, cN, -, -, -⟩ := rc_cells N5.row
  obtain ⟨r0, r1, r2, r3, r4, r5, r6, fr⟩ := rc_cells hg5
  obtain ⟨q0, q1, q2, q3, q4, q5, q6, f⟩ := rc_cells N5.zero
  have HB := Lib.hid N5.below.drew
  go_wp2_with fail
  clear r0 r1 r2 r3 r4 r5 r6 fr q0 q1 q2 q3 q4 q5 q6 f cN
  have hg6 : w5.drew.heap[g2]? = some (.cells (zrd (n : Int) (q : Int) 0) 91 (0, 0)) := hg5
  have hz6 : w5.drew.heap[w.heap.size]? = some (.cells (zrd 0 0 0) 91 (0, 0)) := N5.zero
  clear hg5 N5
  obtain ⟨r0, r1, r2, r3, r4, r5, r6, fr⟩ := rc_cells hg6
  obtain ⟨q0, q1, q2, q3, q4, q5, q6, f⟩ := rc_cells hz6
  refine wp_region_still_tail 16 (by kernel_rfl) (by kernel_rfl) ?_
  simp only [List.take_succ_cons, List.take_zero, List.drop_succ_cons, List.drop_zero]
  repeat still_step
  refine wpStill_nil ?_
  change wpList _ _ _ _ _ w5.drew
  generalize w5.drew = w6 at *
  clear hg6 hz6
  go_wp2_with fail
  refine bodyPost_ret (v := .agg (rc 2 0 T (.slice none 0 0) 0 ((q : Int) + (n : Int)) 0)) (by simp [results, Try.results52, go_sem, q0, q1, q2, q3, q4, q5, q6, rc]) rfl ?_
  rw [H.out.2.2.2.1]
  exact ⟨below_setCells w.heap.size (Nat.le_refl _) [.int .i64 2, .int .i64 0, .string T, .slice none 0 0, .int .i64 0, .int .i64 ((q : Int) + (n : Int)), .int .i64 0] 0 w6 HB.out, .mk 2 0 T none 0 [], 0, rfl, rfl, ⟨H.out.2.2.2.2.2, ⟨Nat.zero_le _, fun h => absurd rfl h⟩, trivial⟩⟩
end Go.Proofs.Ytgoimggfpagojaa
