/- The reference's reader of items: lists; Front, Decode. -/
import Derived.Test.YtgoimggfpagojaaCRIt
namespace Go.Proofs.Ytgoimggfpagojaa
open Go.RowKit
open Cn

set_option maxRecDepth 100000 in
set_option maxHeartbeats 1000000 in
theorem ritem_list_long (s : ByteArray) (hs : s.size ≤ maxLen) (d : Nat) (p : Nat) (w : World) (hp : p ≤ 65536) {c : UInt8} {l' : List UInt8} (hO : oct p (s.data.toList.drop p) = .ok (c, l')) (hc : c.toNat = 9) {n q : Nat} {r' : List UInt8} (hN : rnum (p + 1) (s.data.toList.drop (p + 1)) = .ok (n, q, r')) (hd : 0 < d) (hd6 : d ≤ 6) (h1 : 1024 < n) :
    Calls Try.prog 52 #[.string s, .int .i64 (p : Int), .int .i64 (6 - (d : Int))] w (RItP w (ritem d p (s.data.toList.drop p))) := by
  obtain ⟨w1, hw1⟩ : ∃ w1, w1 = w.alloc (.cells (zrd 0 0 0) 91) := ⟨_, rfl⟩
  have hb1 : Below w.heap.size w w1 := by rw [hw1]; exact (Below.refl _ _).alloc (Nat.le_refl _) _
  have hg1 : w1.heap[w.heap.size]? = some (.cells (zrd 0 0 0) 91 (0, 0)) := by rw [hw1]; exact heap_alloc_new _ _
  unfold zrd rc at hw1
  have ho := roctet_any s hs p (by omega) w1
  obtain ⟨D, hD⟩ : ∃ D : Int, D = 6 - (d : Int) := ⟨_, rfl⟩
  rw [← hD]
  obtain ⟨R, hR⟩ : ∃ R, R = ritem d p (s.data.toList.drop p) := ⟨_, rfl⟩
  rw [← hR]
  have hpi : (p : Int) ≤ 65536 := by omega
  unfold octV at ho
  rw [hO] at ho
  simp only at ho
  obtain ⟨hp6, hdr⟩ := oct_ok.1 hO
  have hl' : l' = s.data.toList.drop (p + 1) := rest_drop (a := [c]) hdr rfl rfl
  obtain ⟨k, hk⟩ : ∃ k, k = c.toNat := ⟨_, rfl⟩
  rw [ritem.eq_def] at hR
  simp only at hR
  rw [hO] at hR
  simp only at hR
  rw [← hk] at hR ho hc
  rw [hl'] at hR
  rw [if_neg (by omega), if_neg (by omega), hN] at hR
  simp only at hR
  rw [if_neg (by omega)] at hR
  have hn := fun W => rnumber_any s hs (p + 1) (by omega) W
  rw [show ((p + 1 : Nat) : Int) = (p : Int) + 1 by omega, hN] at hn
  unfold numE at hn
  simp only at hn
  obtain ⟨e1, e2, e3, e4⟩ := rnum_ok hN
  have hr' : r' = s.data.toList.drop q := rest_drop e1 rfl e3
  have hni : (n : Int) < 72057594037927936 := by
    have : (256 : Nat) ^ 7 = 72057594037927936 := by decide
    omega
  have hqi : (q : Int) ≤ 65536 := by omega
  have hqs : q ≤ s.size := by
    have a1 := congrArg List.length e1
    have a2 := congrArg List.length hdr
    have a3 : s.data.toList.length = s.size := by simp
    rw [List.length_drop, List.length_append] at a1
    rw [List.length_drop, List.length_cons] at a2
    omega
  clear e1 e2 e3 e4
  have hk8 : ((k : Int) != 8) = true := by rw [bne_iff_ne]; omega
  have hk9 : ((k : Int) != 9) = false := by rw [bne_eq_false_iff_eq]; omega
  have hke : ((k : Int) == 9) = true := by rw [beq_iff_eq]; omega
  have hkt : ((k : Int) == 8) = false := by rw [beq_eq_false_iff_ne]; omega
  have hDd : decide ((6 : Int) ≤ D) = false := decide_eq_false (by omega)
  rw [if_pos h1] at hR
  have hg1' : decide ((1024 : Int) < (n : Int)) = true := decide_eq_true (by omega)
  have H := Lib.hid (And.intro ho (And.intro hb1 (And.intro hg1 (And.intro hR hn))))
  clear ho hb1 hg1 hR hO hD hN hn hc hdr hl' hk hr' hs hqs h1 hd hd6
  go_enter Try.func52, Try.ntmps52
  go_upto_region 1 with fail
  rw [← hw1]
  clear hw1
  go_wp2_with fail
  refine H.out.1.mono ?_
  rintro e w2 ⟨rfl, hb⟩
  have hz1 := lt_of_heap H.out.2.2.1
  obtain ⟨w3, hw3⟩ : ∃ w3, w3 = w2.alloc (.cells (zrd ((k : Int)) ((p : Int) + 1) (0)) 91) := ⟨_, rfl⟩
  have hb2 := H.out.2.1.trans (hb.mono H.out.2.1.size)
  have hb3 : Below w2.heap.size w2 w3 := by rw [hw3]; exact (Below.refl _ _).alloc (Nat.le_refl _) _
  have hg3 : w3.heap[w2.heap.size]? = some (.cells (zrd ((k : Int)) ((p : Int) + 1) (0)) 91 (0, 0)) := by rw [hw3]; exact heap_alloc_new _ _
  have hg2 := (hb3.block w.heap.size (Nat.lt_of_lt_of_le hz1 hb.size)).trans ((hb.block _ hz1).trans H.out.2.2.1)
  have N3 : NumW w w2.heap.size ((k : Int)) ((p : Int) + 1) (0) w3 := ⟨hb2.trans (hb3.mono hb2.size), hg2, hg3, Nat.lt_of_lt_of_le hz1 hb.size⟩
  clear hb hb2 hb3 hg2 hg3 hz1
  unfold zrd rc at hw3
  simp only [zrd, rc]
  go_upto_region 2 with fail
  rw [← hw3]
  clear hw3
  generalize w2.heap.size = g at *
  obtain ⟨r0, r1, r2, r3, r4, r5, r6, fr⟩ := rc_cells N3.row
  go_wp2_with fail
  refine (H.out.2.2.2.2 w3).mono ?_
  rintro e w4 ⟨rfl, hb⟩
  have N4 := N3.call hb
  obtain ⟨w5, hw5⟩ : ∃ w5, w5 = w4.alloc (.cells (zrd ((n : Int)) ((q : Int)) (0)) 91) := ⟨_, rfl⟩
  have hb5 : Below w4.heap.size w4 w5 := by rw [hw5]; exact (Below.refl _ _).alloc (Nat.le_refl _) _
  have hg5 : w5.heap[w4.heap.size]? = some (.cells (zrd ((n : Int)) ((q : Int)) (0)) 91 (0, 0)) := by rw [hw5]; exact heap_alloc_new _ _
  have N5 := N4.call hb5
  have hz4 : w.heap.size < w4.heap.size := lt_of_heap N4.zero
  have hzg : g < w4.heap.size := N4.lt
  clear hb hb5 N3 N4 r0 r1 r2 r3 r4 r5 r6 fr
  unfold zrd rc at hw5
  simp only [zrd, rc]
  go_upto_region 11 with fail
  rw [← hw5]
  clear hw5
  generalize w4.heap.size = g2 at *
  obtain ⟨-, -, -, -, cN, -, -, -⟩ := rc_cells N5.row
  obtain ⟨r0, r1, r2, r3, r4, r5, r6, fr⟩ := rc_cells hg5
  obtain ⟨q0, q1, q2, q3, q4, q5, q6, f⟩ := rc_cells N5.zero
  have HB := Lib.hid N5.below
  clear N5 hg5
  go_wp2_with fail
  refine bodyPost_ret (v := .agg (rc (0) 0 ⟨#[]⟩ (.slice none 0 0) (0) (0) (3))) (by simp [results, Try.results52, go_sem, q0, q1, q2, q3, q4, q5, q6, rc]) rfl ?_
  exact RItP.err (k := 0) H.out.2.2.2.1 (.inl rfl) (below_setCells w.heap.size (Nat.le_refl _) [.int .i64 (0), .int .i64 0, .string ⟨#[]⟩, .slice none 0 0, .int .i64 (0), .int .i64 (0), .int .i64 (3)] 0 w5 HB.out)
set_option maxRecDepth 100000 in
set_option maxHeartbeats 1000000 in
theorem slice_form {w : World} {a : Option Addr} {e : TypeId} {k n cap : Nat} {xs : List Value} (h : w.ownsRow 0 e k (.slice a (n + 1) cap) (n + 1) xs) : ∃ g, a = some ⟨g, 0, none⟩ := by
  rcases h.2 with ⟨_, h0⟩ | ⟨g, c, cur, e, _⟩
  · omega
  · injection e with e1 _ _
    exact ⟨g, e1⟩
theorem it_cells {W : World} {g : Nat} {k n : Int} {s : ByteArray} {l : Value} {t : TypeId} (h : W.heap[g]? = some (.cells #[.int .i64 k, .int .i64 n, .string s, l] t (0, 0))) :
    W.cell? ⟨g, 0, none⟩ = some (.int .i64 k) ∧ W.cell? ⟨g, 1, none⟩ = some (.int .i64 n) ∧ W.cell? ⟨g, 2, none⟩ = some (.string s) ∧ W.cell? ⟨g, 3, none⟩ = some l :=
  ⟨by rw [Lib.cell_of_heap h]; rfl, by rw [Lib.cell_of_heap h]; rfl, by rw [Lib.cell_of_heap h]; rfl, by rw [Lib.cell_of_heap h]; rfl⟩
set_option maxRecDepth 100000 in
set_option maxHeartbeats 1000000 in
theorem ritem_list (s : ByteArray) (hs : s.size ≤ maxLen) (d' d : Nat) (p : Nat) (w : World) (hp : p ≤ 65536) (hd : d = d' + 1) (hd6 : d ≤ 6) (ih : RItSo s d') {c : UInt8} {l' : List UInt8} (hO : oct p (s.data.toList.drop p) = .ok (c, l')) (hc : c.toNat = 9) {n q : Nat} {r' : List UInt8} (hN : rnum (p + 1) (s.data.toList.drop (p + 1)) = .ok (n, q, r')) (h1 : ¬ 1024 < n) :
    Calls Try.prog 52 #[.string s, .int .i64 (p : Int), .int .i64 (6 - (d : Int))] w (RItP w (ritem d p (s.data.toList.drop p))) := by
  obtain ⟨w1, hw1⟩ : ∃ w1, w1 = w.alloc (.cells (zrd 0 0 0) 91) := ⟨_, rfl⟩
  have hb1 : Below w.heap.size w w1 := by rw [hw1]; exact (Below.refl _ _).alloc (Nat.le_refl _) _
  have hg1 : w1.heap[w.heap.size]? = some (.cells (zrd 0 0 0) 91 (0, 0)) := by rw [hw1]; exact heap_alloc_new _ _
  unfold zrd rc at hw1
  have ho := roctet_any s hs p (by omega) w1
  obtain ⟨D, hD⟩ : ∃ D : Int, D = 6 - (d : Int) := ⟨_, rfl⟩
  rw [← hD]
  obtain ⟨R, hR⟩ : ∃ R, R = ritem d p (s.data.toList.drop p) := ⟨_, rfl⟩
  rw [← hR]
  have hpi : (p : Int) ≤ 65536 := by omega
  unfold octV at ho
  rw [hO] at ho
  simp only at ho
  obtain ⟨hp6, hdr⟩ := oct_ok.1 hO
  have hl' : l' = s.data.toList.drop (p + 1) := rest_drop (a := [c]) hdr rfl rfl
  obtain ⟨k, hk⟩ : ∃ k, k = c.toNat := ⟨_, rfl⟩
  rw [ritem.eq_def] at hR
  simp only at hR
  rw [hO] at hR
  simp only at hR
  rw [← hk] at hR ho hc
  rw [hl'] at hR
  rw [if_neg (by omega), if_neg (by omega), hN] at hR
  simp only at hR
  rw [if_neg (by omega)] at hR
  have hn := fun W => rnumber_any s hs (p + 1) (by omega) W
  rw [show ((p + 1 : Nat) : Int) = (p : Int) + 1 by omega, hN] at hn
  unfold numE at hn
  simp only at hn
  obtain ⟨e1, e2, e3, e4⟩ := rnum_ok hN
  have hr' : r' = s.data.toList.drop q := rest_drop e1 rfl e3
  have hni : (n : Int) < 72057594037927936 := by
    have : (256 : Nat) ^ 7 = 72057594037927936 := by decide
    omega
  have hqi : (q : Int) ≤ 65536 := by omega
  have hqs : q ≤ s.size := by
    have a1 := congrArg List.length e1
    have a2 := congrArg List.length hdr
    have a3 : s.data.toList.length = s.size := by simp
    rw [List.length_drop, List.length_append] at a1
    rw [List.length_drop, List.length_cons] at a2
    omega
  clear e1 e2 e3 e4
  have hk8 : ((k : Int) != 8) = true := by rw [bne_iff_ne]; omega
  have hk9 : ((k : Int) != 9) = false := by rw [bne_eq_false_iff_eq]; omega
  have hke : ((k : Int) == 9) = true := by rw [beq_iff_eq]; omega
  have hkt : ((k : Int) == 8) = false := by rw [beq_eq_false_iff_ne]; omega
  have hDd : decide ((6 : Int) ≤ D) = false := decide_eq_false (by omega)
  rw [if_neg h1] at hR
  subst hd
  simp only at hR
  rw [hr'] at hR
  obtain ⟨L, hL⟩ : ∃ L : Nat → List UInt8, L = fun i => s.data.toList.drop i := ⟨_, rfl⟩
  have hLi : ∀ i, s.data.toList.drop i = L i := fun i => by rw [hL]
  have hih : ∀ (a : Nat) (W : World), a ≤ 65536 → Calls Try.prog 52 #[.string s, .int .i64 (a : Int), .int .i64 (D + 1)] W (RItP W (ritem d' a (L a))) := fun a W ha => by
    have := ih a W ha
    rw [hLi] at this
    rwa [show D + 1 = 6 - (d' : Int) by omega]
  have hrest : ∀ a x q' r', ritem d' a (L a) = .ok (x, q', r') → r' = L q' ∧ q' ≤ 65536 := fun a x q' r' h => by
    obtain ⟨e1, e2, e3, e4⟩ := ritem_ok _ _ _ _ _ _ h
    rw [← hLi] at e1 ⊢
    exact ⟨rest_drop e1 rfl e3, e4⟩
  rw [hLi] at hR
  have hg1' : decide ((1024 : Int) < (n : Int)) = false := decide_eq_false (by omega)
  have hD5 : D ≤ 5 := by omega
  have hD0 : 0 ≤ D := by omega
  have hn1 : (n : Int) ≤ 1024 := by omega
  have hq2 : q ≤ 65536 := by omega
  have H := Lib.hid (And.intro ho (And.intro hb1 (And.intro hg1 (And.intro hR (And.intro hn (And.intro hih hrest))))))
  clear ho hb1 hg1 hR hO hD hN hn hc hdr hl' hk hr' hs hqs h1 hd6 ih hih hrest hLi hL
  go_enter Try.func52, Try.ntmps52
  go_upto_region 1 with fail
  rw [← hw1]
  clear hw1
  go_wp2_with fail
  refine H.out.1.mono ?_
  rintro e w2 ⟨rfl, hb⟩
  have hz1 := lt_of_heap H.out.2.2.1
  obtain ⟨w3, hw3⟩ : ∃ w3, w3 = w2.alloc (.cells (zrd ((k : Int)) ((p : Int) + 1) (0)) 91) := ⟨_, rfl⟩
  have hb2 := H.out.2.1.trans (hb.mono H.out.2.1.size)
  have hb3 : Below w2.heap.size w2 w3 := by rw [hw3]; exact (Below.refl _ _).alloc (Nat.le_refl _) _
  have hg3 : w3.heap[w2.heap.size]? = some (.cells (zrd ((k : Int)) ((p : Int) + 1) (0)) 91 (0, 0)) := by rw [hw3]; exact heap_alloc_new _ _
  have hg2 := (hb3.block w.heap.size (Nat.lt_of_lt_of_le hz1 hb.size)).trans ((hb.block _ hz1).trans H.out.2.2.1)
  have N3 : NumW w w2.heap.size ((k : Int)) ((p : Int) + 1) (0) w3 := ⟨hb2.trans (hb3.mono hb2.size), hg2, hg3, Nat.lt_of_lt_of_le hz1 hb.size⟩
  clear hb hb2 hb3 hg2 hg3 hz1
  unfold zrd rc at hw3
  simp only [zrd, rc]
  go_upto_region 2 with fail
  rw [← hw3]
  clear hw3
  generalize w2.heap.size = g at *
  obtain ⟨r0, r1, r2, r3, r4, r5, r6, fr⟩ := rc_cells N3.row
  go_wp2_with fail
  refine (H.out.2.2.2.2.1 w3).mono ?_
  rintro e w4 ⟨rfl, hb⟩
  have N4 := N3.call hb
  obtain ⟨w5, hw5⟩ : ∃ w5, w5 = w4.alloc (.cells (zrd ((n : Int)) ((q : Int)) (0)) 91) := ⟨_, rfl⟩
  have hb5 : Below w4.heap.size w4 w5 := by rw [hw5]; exact (Below.refl _ _).alloc (Nat.le_refl _) _
  have hg5 : w5.heap[w4.heap.size]? = some (.cells (zrd ((n : Int)) ((q : Int)) (0)) 91 (0, 0)) := by rw [hw5]; exact heap_alloc_new _ _
  have N5 := N4.call hb5
  have hz4 : w.heap.size < w4.heap.size := lt_of_heap N4.zero
  have hzg : g < w4.heap.size := N4.lt
  clear hb hb5 N3 N4 r0 r1 r2 r3 r4 r5 r6 fr
  unfold zrd rc at hw5
  simp only [zrd, rc]
  go_upto_region 11 with fail
  rw [← hw5]
  clear hw5
  generalize w4.heap.size = g2 at *
  obtain ⟨-, -, -, -, cN, -, -, -⟩ := rc_cells N5.row
  obtain ⟨r0, r1, r2, r3, r4, r5, r6, fr⟩ := rc_cells hg5
  obtain ⟨q0, q1, q2, q3, q4, q5, q6, f⟩ := rc_cells N5.zero
  go_upto_region 21 with fail
  clear cN
  obtain ⟨w6, hw6⟩ : ∃ w6, w6 = w5.alloc (.cells #[.int .i64 3, .int .i64 0, .string ⟨#[]⟩, .slice none 0 0] 65) := ⟨_, rfl⟩
  have hb6 : Below w5.heap.size w5 w6 := by rw [hw6]; exact (Below.refl _ _).alloc (Nat.le_refl _) _
  have hg6 : w6.heap[w5.heap.size]? = some (.cells #[.int .i64 3, .int .i64 0, .string ⟨#[]⟩, .slice none 0 0] 65 (0, 0)) := by rw [hw6]; exact heap_alloc_new _ _
  have hs6 : w6.heap.size = w5.heap.size + 1 := by rw [hw6]; simp
  have hl5 := lt_of_heap hg5
  have hL0 : RList L w g2 w5.heap.size w6.heap.size n d' q (q : Int) 0 [] none 0 q w6 := by
    have N6 := N5.call hb6
    exact ⟨N6.below, N6.zero, (hb6.block _ hl5).trans hg5, hg6, ⟨hz4, hl5, by omega⟩, rfl, World.ownsRow_nil _ _ _ _, fun g hg => by simp [Value.ownBlock] at hg, trivial, Nat.le_refl _, by
      rw [Nat.sub_zero]
      show _ = comb [] _
      cases ritems (ritem d') n q (L q) with
      | error e => rfl
      | ok y => obtain ⟨ys, q', r'⟩ := y; rfl, hq2⟩
  have HL0 := Lib.hid hL0
  clear hL0 hb6 hg6 hs6 hl5 N5 hg5 r0 r1 r2 r3 r4 r5 r6 fr q0 q1 q2 q3 q4 q5 q6 f
  generalize hB : w6.heap.size = B at HL0
  go_upto_region 22 with fail
  rw [← hw6]
  clear hw6 hB
  generalize w5.heap.size = g3 at *
  obtain ⟨r0, r1, r2, r3, r4, r5, r6, fr⟩ := rc_cells HL0.out.row2
  go_wp2_with fail
  clear r0 r1 r2 r3 r4 r5 r6 fr hp6 hq2 hp hpi hqi hni
  go_loopw [11, 12, 13] (fun t i _ wr => ∃ (j a : Nat) (xs : List It) (ad : Option Addr) (cp : Nat), j ≤ n ∧ i = .int .i64 (j : Int) ∧ t = .int .i64 (a : Int) ∧ RList L w g2 g3 B n d' q (q : Int) j xs ad cp a wr) (fun _ i _ _ => n - (intOf i).toNat)
  case atStart => exact ⟨0, q, [], none, 0, by omega, rfl, rfl, HL0.out⟩
  case round =>
    clear HL0
    obtain ⟨j, a, xs, ad, cp, hj, rfl, rfl, hR⟩ := hrel
    obtain ⟨-, -, -, -, r4, -, -, -⟩ := rc_cells hR.row2
    by_cases hlt : j < n
    · have hji : (j : Int) < (n : Int) := by omega
      have hih := H.out.2.2.2.2.2.1 a wr hR.place
      have hrest := H.out.2.2.2.2.2.2 a
      cases hI : ritem d' a (L a) with
      | error x =>
        rw [hI] at hih
        have HE := Lib.hid (show R = .error x by rw [H.out.2.2.2.1, hR.err hlt hI])
        have HR := Lib.hid (And.intro hR hih)
        clear hR hih hrest hI
        go_wp2_with fail
        refine HR.out.2.mono ?_
        rintro e w7 ⟨hb, hx, k2, rfl⟩
        have hx0 : (x != 0) = true := by rcases hx with rfl | rfl <;> rfl
        have HX := Lib.hid hx
        have R7 := HR.out.1.call hb
        obtain ⟨w8, hw8⟩ : ∃ w8, w8 = w7.alloc (.cells (rc k2 0 ⟨#[]⟩ (.slice none 0 0) 0 0 x) 91) := ⟨_, rfl⟩
        have hb8 : Below w7.heap.size w7 w8 := by rw [hw8]; exact (Below.refl _ _).alloc (Nat.le_refl _) _
        have hg8 : w8.heap[w7.heap.size]? = some (.cells (rc k2 0 ⟨#[]⟩ (.slice none 0 0) 0 0 x) 91 (0, 0)) := by rw [hw8]; exact heap_alloc_new _ _
        have R8 := R7.call hb8
        unfold rc at hw8
        clear r4 hx hb hb8 R7
        simp only [rc]
        go_upto_region 27 with fail
        rw [← hw8]
        clear hw8
        generalize w7.heap.size = g4 at *
        obtain ⟨r0, r1, r2, r3, r4, r5, r6, fr⟩ := rc_cells hg8
        obtain ⟨q0, q1, q2, q3, q4, q5, q6, f⟩ := rc_cells R8.zero
        have HB := Lib.hid R8.below
        clear R8 hg8
        go_wp2_with fail
        refine bodyPost_ret (v := .agg (rc (k2) 0 ⟨#[]⟩ (.slice none 0 0) (0) (0) (x))) (by simp [results, Try.results52, go_sem, q0, q1, q2, q3, q4, q5, q6, rc]) rfl ?_
        exact RItP.err (k := k2) HE.out HX.out (below_setCells w.heap.size (Nat.le_refl _) [.int .i64 (k2), .int .i64 0, .string ⟨#[]⟩, .slice none 0 0, .int .i64 (0), .int .i64 (0), .int .i64 (x)] 0 w8 HB.out)
      | ok y =>
        obtain ⟨x, q', r'⟩ := y
        obtain ⟨hrq, hq6⟩ := hrest _ _ _ hI
        rw [hrq] at hI
        rw [hI] at hih
        have HR := Lib.hid (And.intro hR (And.intro hih (And.intro hI hq6)))
        clear hR hih hrest hI hrq hq6
        go_wp2_with fail
        refine HR.out.2.1.mono ?_
        rintro e w7 ⟨hb, it, N, hpi, rfl, hit⟩
        obtain ⟨yk, yn, ys, ya, yc, yl⟩ := it
        simp only [It.k, It.n, It.s, It.lv, It.a, It.l, It.cap] at *
        have R7 := HR.out.1.call hb
        obtain ⟨w8, hw8⟩ : ∃ w8, w8 = w7.alloc (.cells (rc yk yn ys (.slice ya yl.length yc) N (q' : Int) 0) 91) := ⟨_, rfl⟩
        have hb8 : Below w7.heap.size w7 w8 := by rw [hw8]; exact (Below.refl _ _).alloc (Nat.le_refl _) _
        have hg8 : w8.heap[w7.heap.size]? = some (.cells (rc yk yn ys (.slice ya yl.length yc) N (q' : Int) 0) 91 (0, 0)) := by rw [hw8]; exact heap_alloc_new _ _
        have R8 := R7.call hb8
        have hit8 : It.In w8 (wr.heap.size ≤ ·) (.mk yk yn ys ya yc yl) := It.In.kept ⟨fun b hb _ => ⟨hb, hb8.block b (by assumption)⟩, hb8.size⟩ _ hit
        have hbw8 := hb.trans (hb8.mono hb.size)
        have hgl4 := hb.size
        have hg3l := lt_of_heap R8.row3
        unfold rc at hw8
        obtain ⟨s0, s1, s2, s3⟩ := it_cells R8.row3
        have fx : ∀ jj, w8.frozen? ⟨g3, jj, none⟩ = false := fun jj => Lib.frozen_of_heap R8.row3 jj
        clear r4 hb hb8 R7 hit
        simp only [rc]
        go_upto_region 27 with fail
        rw [← hw8]
        clear hw8
        generalize w7.heap.size = g4 at *
        obtain ⟨r0, r1, r2, r3, r4, r5, r6, fr⟩ := rc_cells hg8
        have hI2 : ritem d' a (L a) = .ok ((It.mk yk yn ys ya yc yl).pure, q', L q') := by rw [hpi]; exact HR.out.2.2.1
        obtain ⟨i0, hi0, hz0, hz1, hz2⟩ := info_parts info_rit
        have hg4l := lt_of_heap hg8
        have H8 := Lib.hid (And.intro R8 (And.intro hit8 (And.intro hbw8 (And.intro hI2 (And.intro hg8 (And.intro hpi hi0))))))
        have hown8 := Lib.hid R8.own
        have hob8 := Lib.hid R8.ownlt
        have hx3 := Lib.hid R8.row3
        have hz8 := hbw8.size
        have hob := Lib.hid HR.out.1.ownlt
        have hgg : g4 ≠ g3 := fun e => by
          have h1 := R8.row3
          rw [← e, hg8] at h1
          injection h1 with h1
          injection h1 with _ h1
          exact absurd h1 (by decide)
        clear R8 hit8 hbw8 hI2 hg8 hpi fr r0 r1 r2 r3 r4 r5 r6
        obtain ⟨r0, r1, r2, r3, r4, r5, r6, fr⟩ := rc_cells H8.out.2.2.2.2.1
        go_wp2_with (at_builtin; (refine wpList_append_src rfl (.tmp 111) (.tmp 114) 63 63 rfl 65 i0 (.agg #[.int .i64 0, .int .i64 0, .string ⟨#[]⟩, .slice none 0 0]) 4 56 Try.underlying63 H8.out.2.2.2.2.2.2 hz0 hz1 hz2 rfl (.slice ad j cp) j (flat xs) rfl (hown8.out.alloc _) (.slice (some ⟨w8.heap.size, 0, none⟩) 1 1) 1 [.int .i64 yk, .int .i64 yn, .string ys, .slice ya yl.length yc] rfl (Src.ofSlice _ Try.underlying63 ⟨w8.heap.size, 0, none⟩ 1 1 [.int .i64 yk, .int .i64 yn, .string ys, .slice ya yl.length yc] rfl (World.news_of_block (heap_alloc_new _ _)) (by intro u hu; simp at hu; rcases hu with rfl | rfl | rfl | rfl <;> rfl)) (by omega) (by omega) (fun ad2 cap2 w10 h1 h2 h3 => ?_); obtain ⟨g', rfl⟩ := slice_form h1; have hx10 : w10.heap[g3]? = some (.cells #[.int .i64 3, .int .i64 0, .string ⟨#[]⟩, .slice ad j cp] 65 (0, 0)) := (h2.block g3 (by simp; omega) (fun e => by have := hob8.out g3 e.symm; have := H8.out.1.gl; omega)).trans ((Lib.alloc_old _ _ _ hg3l).trans hx3.out); have hy10 : w10.heap[g4]? = some (.cells (rc yk yn ys (.slice ya yl.length yc) N (q' : Int) 0) 91 (0, 0)) := (h2.block g4 (by simp; omega) (fun e => by have := hob.out g4 e.symm; omega)).trans ((Lib.alloc_old _ _ _ hg4l).trans H8.out.2.2.2.2.1); obtain ⟨-, -, -, t3⟩ := it_cells hx10; have tf : w10.frozen? ⟨g3, 3, none⟩ = false := Lib.frozen_of_heap hx10 3; obtain ⟨-, -, -, -, -, u5, -, -⟩ := rc_cells hy10; have HA := Lib.hid (And.intro h1 (And.intro h2 h3)); clear h1 h2 h3 hx10 hy10))
        go_roundw
        case rel => exact ⟨j + 1, q', xs ++ [.mk yk yn ys ya yc yl], _, _, by omega, by go_num, rfl, RList.next (it := .mk yk yn ys ya yc yl) HR.out.1 hlt (H8.out.2.2.1.trans ((Below.refl _ _).alloc (by omega) _)) (It.In.kept ⟨fun b hb hl => ⟨hb, Lib.alloc_old _ _ _ hl⟩, by simp⟩ _ H8.out.2.1) HA.out.1 HA.out.2.1 ((HA.out.2.2 _ rfl).imp id And.left) H8.out.2.2.2.1 HR.out.2.2.2⟩
        case measure => simp [intOf]; omega
    · obtain rfl : n = j := by omega
      obtain ⟨q0, q1, q2, q3, q4, q5, q6, f⟩ := rc_cells hR.zero
      obtain ⟨s0, s1, s2, s3⟩ := it_cells hR.row3
      have HD := Lib.hid (hR.done (by unfold maxLen; omega) H.out.2.2.2.1)
      clear hR
      go_wp2_with fail
      refine bodyPost_ret (v := .agg (rc 3 0 ⟨#[]⟩ (.slice ad n cp) 0 (a : Int) 0)) (by simp [results, Try.results52, go_sem, q0, q1, q2, q3, q4, q5, q6, rc]) rfl ?_
      exact HD.out
/-- item, any. -/
theorem ritem_any (s : ByteArray) (hs : s.size ≤ maxLen) : ∀ d, d ≤ 6 → RItSo s d
  | d, hd6 => fun p w hp => by
    cases hO : oct p (s.data.toList.drop p) with
    | error x => exact ritem_none s hs d p w hp hO
    | ok cl =>
      obtain ⟨c, l'⟩ := cl
      by_cases hc : c.toNat ≠ 8 ∧ c.toNat ≠ 9
      · cases hN : rnum p (s.data.toList.drop p) with
        | error x => exact ritem_num_bad s hs d p w hp hO hc hN
        | ok y => obtain ⟨n, q, r'⟩ := y; exact ritem_num_good s hs d p w hp hO hc hN
      by_cases hc8 : c.toNat = 8
      · cases hN : rnum (p + 1) (s.data.toList.drop (p + 1)) with
        | error x => exact ritem_bad8 s hs d p w hp hO hc8 hN
        | ok y =>
          obtain ⟨n, q, r'⟩ := y
          by_cases h1 : 65536 < q + n
          · exact ritem_text_long s hs d p w hp hO hc8 hN h1
          · by_cases h2 : r'.length < n
            · exact ritem_text_short s hs d p w hp hO hc8 hN h1 h2
            · exact ritem_text_good s hs d p w hp hO hc8 hN h1 h2
      · have hc9 : c.toNat = 9 := by omega
        match d, hd6 with
        | 0, _ => exact ritem_deep s hs 0 p w hp hO hc9 rfl
        | d + 1, hd6 =>
          cases hN : rnum (p + 1) (s.data.toList.drop (p + 1)) with
          | error x => exact ritem_bad9 s hs (d + 1) p w hp hO hc9 (by omega) hd6 hN
          | ok y =>
            obtain ⟨n, q, r'⟩ := y
            by_cases h1 : 1024 < n
            · exact ritem_list_long s hs (d + 1) p w hp hO hc9 hN (by omega) hd6 h1
            · exact ritem_list s hs d (d + 1) p w hp rfl hd6 (ritem_any s hs d (by omega)) hO hc9 hN h1
/-- What the reference's Front hands back. -/
def RFrP (w : World) (R : Except Int (Pt × Nat × List UInt8)) (e : Ending) (w' : World) : Prop :=
  Below w.heap.size w w' ∧ match R with
    | .error x => (x = 3 ∨ x = 7) ∧ e = .returned (.agg (zrd 0 0 x))
    | .ok (x, q, _) => ∃ it : It, it.pure = x ∧ e = .returned (.agg (rc it.k it.n it.s it.lv 0 q 0)) ∧ it.In w' (w.heap.size ≤ ·)
set_option maxRecDepth 100000 in
set_option maxHeartbeats 1000000 in
theorem rfront_any (s : ByteArray) (hs : s.size ≤ maxLen) (w : World) : Calls Try.prog 46 #[.string s] w (RFrP w (ritem 6 0 s.data.toList)) := by
  obtain ⟨w1, hw1⟩ : ∃ w1, w1 = w.alloc (.cells (zrd 0 0 0) 91) := ⟨_, rfl⟩
  have hb1 : Below w.heap.size w w1 := by rw [hw1]; exact (Below.refl _ _).alloc (Nat.le_refl _) _
  have hg1 : w1.heap[w.heap.size]? = some (.cells (zrd 0 0 0) 91 (0, 0)) := by rw [hw1]; exact heap_alloc_new _ _
  have hs1 : w1.heap.size = w.heap.size + 1 := by rw [hw1]; simp
  unfold zrd rc at hw1
  have hi : Calls Try.prog 52 #[.string s, .int .i64 0, .int .i64 0] w1 (RItP w1 (ritem 6 0 s.data.toList)) := ritem_any s hs 6 (Nat.le_refl _) 0 w1 (Nat.zero_le _)
  obtain ⟨R, hR⟩ : ∃ R, R = ritem 6 0 s.data.toList := ⟨_, rfl⟩
  rw [← hR] at hi ⊢
  have H := Lib.hid (And.intro hi (And.intro hb1 (And.intro hg1 hs1)))
  clear hi hb1 hg1 hs1 hR hs
  go_enter Try.func46, Try.ntmps46
  go_upto_region 1 with fail
  rw [← hw1]
  clear hw1
  go_wp2_with fail
  refine H.out.1.mono ?_
  rintro e w2 ⟨hb, hres⟩
  have hz1 := lt_of_heap H.out.2.2.1
  have hb2 := H.out.2.1.trans (hb.mono H.out.2.1.size)
  cases R with
  | error x =>
    obtain ⟨hx, k, rfl⟩ := hres
    have hx0 : (x != 0) = true := by rcases hx with rfl | rfl <;> rfl
    obtain ⟨w3, hw3⟩ : ∃ w3, w3 = w2.alloc (.cells (rc k 0 ⟨#[]⟩ (.slice none 0 0) 0 0 x) 91) := ⟨_, rfl⟩
    have hb3 : Below w2.heap.size w2 w3 := by rw [hw3]; exact (Below.refl _ _).alloc (Nat.le_refl _) _
    have hg3 : w3.heap[w2.heap.size]? = some (.cells (rc k 0 ⟨#[]⟩ (.slice none 0 0) 0 0 x) 91 (0, 0)) := by rw [hw3]; exact heap_alloc_new _ _
    have hg2 := (hb3.block w.heap.size (Nat.lt_of_lt_of_le hz1 hb.size)).trans ((hb.block _ hz1).trans H.out.2.2.1)
    obtain ⟨q0, q1, q2, q3, q4, q5, q6, f⟩ := rc_cells hg2
    obtain ⟨r0, r1, r2, r3, r4, r5, r6, fr⟩ := rc_cells hg3
    have HB := Lib.hid (And.intro (hb2.trans (hb3.mono hb2.size)) hx)
    clear hb hb2 hb3 hg2 hg3 hz1 hx
    unfold rc at hw3
    simp only [rc]
    go_upto_region 2 with fail
    rw [← hw3]
    clear hw3
    go_wp2_with fail
    refine bodyPost_ret (v := .agg (zrd 0 0 x)) (by simp [results, Try.results46, go_sem, q0, q1, q2, q3, q4, q5, q6, zrd, rc]) rfl ?_
    exact ⟨below_setCells w.heap.size (Nat.le_refl _) [.int .i64 0, .int .i64 0, .string ⟨#[]⟩, .slice none 0 0, .int .i64 0, .int .i64 0, .int .i64 x] 0 w3 HB.out.1, HB.out.2, rfl⟩
  | ok y =>
    obtain ⟨x, q, r'⟩ := y
    obtain ⟨it, N, rfl, rfl, hin⟩ := hres
    obtain ⟨yk, yn, ys, ya, yc, yl⟩ := it
    simp only [It.k, It.n, It.s, It.lv, It.a, It.l, It.cap] at *
    obtain ⟨w3, hw3⟩ : ∃ w3, w3 = w2.alloc (.cells (rc yk yn ys (.slice ya yl.length yc) N (q : Int) 0) 91) := ⟨_, rfl⟩
    have hb3 : Below w2.heap.size w2 w3 := by rw [hw3]; exact (Below.refl _ _).alloc (Nat.le_refl _) _
    have hg3 : w3.heap[w2.heap.size]? = some (.cells (rc yk yn ys (.slice ya yl.length yc) N (q : Int) 0) 91 (0, 0)) := by rw [hw3]; exact heap_alloc_new _ _
    have hg2 := (hb3.block w.heap.size (Nat.lt_of_lt_of_le hz1 hb.size)).trans ((hb.block _ hz1).trans H.out.2.2.1)
    have hin3 : It.In w3 (w1.heap.size ≤ ·) (.mk yk yn ys ya yc yl) := It.In.kept (keptS_any hb3) _ hin
    obtain ⟨q0, q1, q2, q3, q4, q5, q6, f⟩ := rc_cells hg2
    obtain ⟨r0, r1, r2, r3, r4, r5, r6, fr⟩ := rc_cells hg3
    have HB := Lib.hid (And.intro (hb2.trans (hb3.mono hb2.size)) hin3)
    clear hb hb2 hb3 hg2 hg3 hz1 hin hin3
    unfold rc at hw3
    simp only [rc]
    go_upto_region 2 with fail
    rw [← hw3]
    clear hw3
    go_wp2_with fail
    refine bodyPost_ret (v := .agg (rc yk yn ys (.slice ya yl.length yc) 0 (q : Int) 0)) (by simp [results, Try.results46, go_sem, q0, q1, q2, q3, q4, q5, q6, rc]) rfl ?_
    refine ⟨below_setCells w.heap.size (Nat.le_refl _) [.int .i64 yk, .int .i64 yn, .string ys, .slice ya yl.length yc, .int .i64 0, .int .i64 (q : Int), .int .i64 0] 0 w3 HB.out.1, .mk yk yn ys ya yc yl, rfl, rfl, ?_⟩
    refine It.In.kept (w := w3) (S := (w1.heap.size ≤ ·)) ⟨fun b hb _ => ⟨?_, ?_⟩, ?_⟩ _ HB.out.2
    · have h1 : w1.heap.size ≤ b := hb
      have := H.out.2.2.2
      show w.heap.size ≤ b
      omega
    · have h1 : w1.heap.size ≤ b := hb
      have := H.out.2.2.2
      exact c_heap_setCells_other w.heap.size b (by omega) [.int .i64 yk, .int .i64 yn, .string ys, .slice ya yl.length yc, .int .i64 0, .int .i64 (q : Int), .int .i64 0] 0 w3
    · exact Nat.le_of_eq (c_size_setCells w.heap.size [.int .i64 yk, .int .i64 yn, .string ys, .slice ya yl.length yc, .int .i64 0, .int .i64 (q : Int), .int .i64 0] 0 w3).symm
end Go.Proofs.Ytgoimggfpagojaa
