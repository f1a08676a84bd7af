/- IxShw, what is wanted of it. -/
import Derived.Test.YtdfkpjmljaanpaaGreatDoorZIxMay
import Derived.Test.YtdfkpjmljaanpaaGreatDoorZMX9
import Derived.IntWalk
import Derived.BigRegion
import Derived.RegionTactic
namespace Go.Proofs.YtdfkpjmljaanpaaGreatDoor
open Go.RowKit
open Cn
theorem sh_eq0 {s t : ByteArray} (h : s ≠ t) : (s.toList == t.toList) = false := by
  cases e : s.toList == t.toList with
  | false => rfl
  | true => exact absurd (Wd.toList_eq (by simpa using e)) h
theorem less_asy {s t : ByteArray} (h : Wd.less s t = true) : Wd.less t s = false := by
  cases e : Wd.less t s with
  | false => rfl
  | true => exact absurd h (by rw [Wd.less_asymm e]; decide)
theorem cell5 {W : World} {g : Nat} {a b c d e : Value} {T : TypeId} (h : W.heap[g]? = some (.cells #[a, b, c, d, e] T (0, 0))) :
    W.cell? ⟨g, 0, none⟩ = some a ∧ W.cell? ⟨g, 1, none⟩ = some b ∧ W.cell? ⟨g, 2, none⟩ = some c ∧ W.cell? ⟨g, 3, none⟩ = some d ∧ W.cell? ⟨g, 4, none⟩ = some e := by
  refine ⟨?_, ?_, ?_, ?_, ?_⟩ <;> rw [cell_of_row _ _ _ _ _ _ h] <;> rfl
set_option maxRecDepth 100000 in
set_option maxHeartbeats 8000000 in
theorem shows_any (t : ByteArray) (n : Int) (l : List Ix.Sh) (a0 : Option Addr) (cap : Nat) (w : World) (hT : ShAt w a0 l) :
    Calls Tryz.prog 69 #[.string t, .agg #[.int .i64 n, .slice a0 l.length cap]] w fun e w' => e = .returned (.bool (Ix.shwB t n l)) ∧ Below w.heap.size w w' := by
  obtain ⟨w1, hw1⟩ : ∃ w1, w1 = w.alloc (.cells #[.int .i64 n, .slice a0 l.length cap] 34) := ⟨_, rfl⟩
  have hb1 : Below w.heap.size w w1 := by rw [hw1]; exact (Below.refl _ _).alloc (Nat.le_refl _) _
  have hz1 : w.heap.size < w1.heap.size := by rw [hw1, World.size_alloc]; exact Nat.lt_succ_self _
  have c0 : w1.cell? ⟨w.heap.size, 0, none⟩ = some (.int .i64 n) := by rw [hw1, cell_of_row _ _ _ _ _ _ (heap_alloc_new _ _)]; rfl
  have c1 : w1.cell? ⟨w.heap.size, 1, none⟩ = some (.slice a0 l.length cap) := by rw [hw1, cell_of_row _ _ _ _ _ _ (heap_alloc_new _ _)]; rfl
  obtain ⟨Z, hZ⟩ : ∃ Z, Z = Ix.shwB t n l := ⟨_, rfl⟩
  rw [← hZ]
  have hT1 := hT.below hb1
  match l with
  | [] =>
    have H := Lib.hid (And.intro hb1 hZ)
    clear hb1 hZ hT hT1 hz1
    unfold Ix.shwB at H
    simp only [List.length_nil] at hw1 c1 ⊢
    by_cases h0 : (n == 0) = true
    · have HZ : Z = true := by rw [H.out.2]; exact decide_eq_true (eq_of_beq h0)
      subst HZ
      go_enter Tryz.func69, Tryz.ntmps69
      go_upto_region 1 with fail
      rw [← hw1]
      clear hw1
      go_wp2_with fail
      go_ret
      exact ⟨rfl, H.out.1⟩
    · have HZ : Z = false := by rw [H.out.2]; exact decide_eq_false (fun h => h0 (by rw [h]; rfl))
      subst HZ
      have h0' : (n == 0) = false := by simpa using h0
      clear h0
      go_enter Tryz.func69, Tryz.ntmps69
      go_upto_region 1 with fail
      rw [← hw1]
      clear hw1
      go_wp2_with fail
      go_ret
      exact ⟨rfl, H.out.1⟩
  | [a] =>
    obtain ⟨b, off, wa, wc, rfl, hbl, k0, k1, k2, k3, k4, -⟩ := hT1 0 a rfl
    obtain ⟨w2, hw2⟩ : ∃ w2, w2 = w1.alloc (.cells (shCs (a, wa, wc)) 131) := ⟨_, rfl⟩
    have hb2 : Below w.heap.size w w2 := by rw [hw2]; exact hb1.alloc (Nat.le_of_lt hz1) _
    have hg2 : w2.heap[w1.heap.size]? = some (.cells (shCs (a, wa, wc)) 131 (0, 0)) := by rw [hw2]; exact heap_alloc_new _ _
    obtain ⟨r0, r1, r2, r3, r4⟩ := cell5 hg2
    have hb12 : Below w1.heap.size w1 w2 := by rw [hw2]; exact (Below.refl _ _).alloc (Nat.le_refl _) _
    have d0 : w2.cell? ⟨w.heap.size, 0, none⟩ = some (.int .i64 n) := by rw [hb12.cell (p := ⟨w.heap.size, 0, none⟩) hz1]; exact c0
    rw [show [a].length = 1 from rfl] at hw1 c1
    rw [show [a].length = 1 from rfl]
    have hcs : shCs (a, wa, wc) = #[.int .i64 a.pl, .string a.row.tag, .int .i64 a.row.cnt, .int .i64 a.row.last, .slice wa a.way.length wc] := rfl
    rw [hcs] at hw2
    obtain ⟨x0, hx0⟩ : ∃ x, x = a.pl := ⟨_, rfl⟩
    obtain ⟨x1, hx1⟩ : ∃ x, x = a.row.tag := ⟨_, rfl⟩
    obtain ⟨x2, hx2⟩ : ∃ x, x = a.row.cnt := ⟨_, rfl⟩
    obtain ⟨x3, hx3⟩ : ∃ x, x = a.row.last := ⟨_, rfl⟩
    obtain ⟨x4, hx4⟩ : ∃ x, x = a.way.length := ⟨_, rfl⟩
    have hZ1 : Z = (decide (t = x1) || (Wd.less t x1 && decide (x0 = 0)) || (Wd.less x1 t && decide (x0 = wrap64 (n - 1)))) := by rw [hZ, hx0, hx1, ← IntWalk.i64_left]; rfl
    simp only [← hx0, ← hx1, ← hx2, ← hx3, ← hx4, Nat.zero_mul, Nat.add_zero] at hw2 r0 r1 r2 r3 r4 k0 k1 k2 k3 k4
    have H := Lib.hid (And.intro hb2 hZ1)
    clear hZ hZ1 hb1 hb2 hb12 hT hT1 hg2 hcs hx0 hx1 hx2 hx3 hx4 hbl hz1 r2 r3 r4
    by_cases h0 : t = x1
    · have e0 : (t.toList == x1.toList) = true := by rw [h0]; exact beq_self_eq_true _
      obtain rfl : Z = true := by rw [H.out.2, decide_eq_true h0]; rfl
      clear h0
      go_enter Tryz.func69, Tryz.ntmps69
      go_upto_region 1 with fail
      rw [← hw1]
      clear hw1
      go_upto_region 6 with fail
      rw [← hw2]
      clear hw2
      go_wp2_with fail
      go_ret
      exact ⟨rfl, H.out.1⟩
    have e0 : (t.toList == x1.toList) = false := sh_eq0 h0
    have HE := Lib.hid (decide_eq_false h0)
    clear h0
    by_cases h1 : Wd.less t x1 = true
    · have l1 : Op.bytesLess t.toList x1.toList = true := h1
      have l2 : Op.bytesLess x1.toList t.toList = false := less_asy h1
      by_cases h2 : (x0 == 0) = true
      · obtain rfl : Z = true := by rw [H.out.2, HE.out, h1, decide_eq_true (eq_of_beq h2)]; rfl
        clear h1
        go_enter Tryz.func69, Tryz.ntmps69
        go_upto_region 1 with fail
        rw [← hw1]
        clear hw1
        go_upto_region 6 with fail
        rw [← hw2]
        clear hw2
        go_wp2_with fail
        go_ret
        exact ⟨rfl, H.out.1⟩
      have h2' : (x0 == 0) = false := by simpa using h2
      obtain rfl : Z = false := by rw [H.out.2, HE.out, h1, decide_eq_false (fun e => h2 (by rw [e]; rfl)), show Wd.less x1 t = false from l2]; rfl
      clear h1 h2
      go_enter Tryz.func69, Tryz.ntmps69
      go_upto_region 1 with fail
      rw [← hw1]
      clear hw1
      go_upto_region 6 with fail
      rw [← hw2]
      clear hw2
      go_wp2_with fail
      go_ret
      exact ⟨rfl, H.out.1⟩
    have h1f : Wd.less t x1 = false := by simpa using h1
    have l1 : Op.bytesLess t.toList x1.toList = false := h1f
    clear h1f
    have HL := Lib.hid (show Wd.less t x1 = false from l1)
    clear h1
    by_cases h2 : Wd.less x1 t = true
    · have l2 : Op.bytesLess x1.toList t.toList = true := h2
      by_cases h3 : (x0 == wrap64 (n - 1)) = true
      · obtain rfl : Z = true := by rw [H.out.2, HE.out, HL.out, h2, show decide (x0 = wrap64 (n - 1)) = true from decide_eq_true (eq_of_beq h3)]; cases decide (x0 = 0) <;> rfl
        clear h2
        go_enter Tryz.func69, Tryz.ntmps69
        go_upto_region 1 with fail
        rw [← hw1]
        clear hw1
        go_upto_region 6 with fail
        rw [← hw2]
        clear hw2
        go_wp2_with fail
        go_ret
        exact ⟨rfl, H.out.1⟩
      have h3' : (x0 == wrap64 (n - 1)) = false := by simpa using h3
      obtain rfl : Z = false := by rw [H.out.2, HE.out, HL.out, h2, show decide (x0 = wrap64 (n - 1)) = false from decide_eq_false (fun e => h3 (by rw [← e]; exact beq_self_eq_true _))]; cases decide (x0 = 0) <;> rfl
      clear h2 h3
      go_enter Tryz.func69, Tryz.ntmps69
      go_upto_region 1 with fail
      rw [← hw1]
      clear hw1
      go_upto_region 6 with fail
      rw [← hw2]
      clear hw2
      go_wp2_with fail
      go_ret
      exact ⟨rfl, H.out.1⟩
    exact absurd ((Wd.less_total (of_decide_eq_false HE.out)).resolve_left (by rw [HL.out]; decide)) h2
  | a :: b :: c :: l =>
    obtain rfl : Z = false := hZ
    obtain ⟨N, hN⟩ : ∃ N, N = (a :: b :: c :: l).length := ⟨_, rfl⟩
    have h0 : ((N : Int) == 0) = false := by
      cases e : ((N : Int) == 0) with
      | false => rfl
      | true => have := eq_of_beq e; simp only [List.length_cons] at hN; omega
    have h1 : ((N : Int) == 1) = false := by
      cases e : ((N : Int) == 1) with
      | false => rfl
      | true => have := eq_of_beq e; simp only [List.length_cons] at hN; omega
    have h2 : ((N : Int) == 2) = false := by
      cases e : ((N : Int) == 2) with
      | false => rfl
      | true => have := eq_of_beq e; simp only [List.length_cons] at hN; omega
    rw [← hN] at hw1 c1
    rw [← hN]
    have H := Lib.hid (And.intro hb1 hN)
    clear hb1 hN hT hT1 hz1
    go_enter Tryz.func69, Tryz.ntmps69
    go_upto_region 1 with fail
    rw [← hw1]
    clear hw1
    go_wp2_with fail
    go_ret
    exact ⟨rfl, H.out.1⟩
  | [a, b] =>
    obtain ⟨bb, off, wa, wc, rfl, hbl, k0, k1, k2, k3, k4, -⟩ := hT1 0 a rfl
    obtain ⟨_, _, wb, wd, he, -, m0, m1, m2, m3, m4, -⟩ := hT1 1 b rfl
    cases he
    rw [show [a, b].length = 2 from rfl] at hw1 c1
    rw [show [a, b].length = 2 from rfl]
    obtain ⟨x0, hx0⟩ : ∃ x, x = a.pl := ⟨_, rfl⟩
    obtain ⟨x1, hx1⟩ : ∃ x, x = a.row.tag := ⟨_, rfl⟩
    obtain ⟨x2, hx2⟩ : ∃ x, x = a.row.cnt := ⟨_, rfl⟩
    obtain ⟨x3, hx3⟩ : ∃ x, x = a.row.last := ⟨_, rfl⟩
    obtain ⟨x4, hx4⟩ : ∃ x, x = a.way.length := ⟨_, rfl⟩
    obtain ⟨y0, hy0⟩ : ∃ x, x = b.pl := ⟨_, rfl⟩
    obtain ⟨y1, hy1⟩ : ∃ x, x = b.row.tag := ⟨_, rfl⟩
    obtain ⟨y2, hy2⟩ : ∃ x, x = b.row.cnt := ⟨_, rfl⟩
    obtain ⟨y3, hy3⟩ : ∃ x, x = b.row.last := ⟨_, rfl⟩
    obtain ⟨y4, hy4⟩ : ∃ x, x = b.way.length := ⟨_, rfl⟩
    have hZ1 : Z = (decide (y0 = wrap64 (x0 + 1)) && Wd.less x1 t && Wd.less t y1) := by rw [hZ, hx0, hx1, hy0, hy1, ← IntWalk.i64_left]; rfl
    simp only [← hx0, ← hx1, ← hx2, ← hx3, ← hx4, ← hy0, ← hy1, ← hy2, ← hy3, ← hy4, Nat.zero_mul, Nat.one_mul, Nat.add_zero] at k0 k1 k2 k3 k4 m0 m1 m2 m3 m4
    have H := Lib.hid (And.intro hb1 (And.intro hZ1 hz1))
    clear hZ hZ1 hb1 hT hT1 hx0 hx1 hx2 hx3 hx4 hy0 hy1 hy2 hy3 hy4
    go_enter Tryz.func69, Tryz.ntmps69
    go_upto_region 1 with fail
    rw [← hw1]
    clear hw1
    go_upto_region 8 with fail
    go_region
    · obtain ⟨w2, hw2⟩ : ∃ w2, w2 = ((w1.alloc (.cells #[.int .i64 x0, .string x1, .int .i64 x2, .int .i64 x3, .slice wa x4 wc] 131)).alloc (.cells #[.int .i64 y0, .string y1, .int .i64 y2, .int .i64 y3, .slice wb y4 wd] 131)).drew := ⟨_, rfl⟩
      have hb2 : Below w1.heap.size w1 w2 := by rw [hw2]; exact (((Below.refl _ _).alloc (Nat.le_refl _) _).alloc (by rw [World.size_alloc]; omega) _).drew
      have hgp : w2.heap[w1.heap.size]? = some (.cells #[.int .i64 x0, .string x1, .int .i64 x2, .int .i64 x3, .slice wa x4 wc] 131 (0, 0)) := by
        rw [hw2]
        refine (((Below.refl _ (w1.alloc (.cells #[.int .i64 x0, .string x1, .int .i64 x2, .int .i64 x3, .slice wa x4 wc] 131))).alloc (Nat.le_refl _) _).drew.block _ (by rw [World.size_alloc]; omega)).trans (heap_alloc_new _ _)
      have hgq : w2.heap[w1.heap.size + 1]? = some (.cells #[.int .i64 y0, .string y1, .int .i64 y2, .int .i64 y3, .slice wb y4 wd] 131 (0, 0)) := by
        rw [hw2]
        have := heap_alloc_new (w1.alloc (.cells #[.int .i64 x0, .string x1, .int .i64 x2, .int .i64 x3, .slice wa x4 wc] 131)) (.cells #[.int .i64 y0, .string y1, .int .i64 y2, .int .i64 y3, .slice wb y4 wd] 131 (0, 0))
        rw [World.size_alloc] at this
        exact this
      rw [← hw2]
      clear hw2
      have HB := Lib.hid (bcall H.out.1 hb2 H.out.1.size)
      clear hb2 k0 k1 k2 k3 k4 m0 m1 m2 m3 m4 c0 c1 hz1 hbl
      obtain ⟨p0, p1, -, -, -⟩ := cell5 hgp
      obtain ⟨q0, q1, -, -, -⟩ := cell5 hgq
      clear hgp hgq
      by_cases h1 : (y0 == wrap64 (x0 + 1)) = true
      · have E1 := Lib.hid (decide_eq_true (eq_of_beq h1))
        by_cases h2 : Wd.less x1 t = true
        · have l2 : Op.bytesLess x1.toList t.toList = true := h2
          by_cases h3 : Wd.less t y1 = true
          · have l3 : Op.bytesLess t.toList y1.toList = true := h3
            obtain rfl : Z = true := by rw [H.out.2.1, E1.out, h2, h3]; rfl
            clear h2 h3
            go_wp2_with fail
            go_ret
            exact ⟨rfl, HB.out⟩
          have h3f : Wd.less t y1 = false := by simpa using h3
          have l3 : Op.bytesLess t.toList y1.toList = false := h3f
          obtain rfl : Z = false := by rw [H.out.2.1, h3f]; cases decide (y0 = wrap64 (x0 + 1)) <;> cases Wd.less x1 t <;> rfl
          clear h2 h3 h3f
          go_wp2_with fail
          go_ret
          exact ⟨rfl, HB.out⟩
        have h2f : Wd.less x1 t = false := by simpa using h2
        have l2 : Op.bytesLess x1.toList t.toList = false := h2f
        obtain rfl : Z = false := by rw [H.out.2.1, h2f]; cases decide (y0 = wrap64 (x0 + 1)) <;> rfl
        clear h2 h2f
        go_wp2_with fail
        go_ret
        exact ⟨rfl, HB.out⟩
      have h1f : (y0 == wrap64 (x0 + 1)) = false := by simpa using h1
      obtain rfl : Z = false := by rw [H.out.2.1, show decide (y0 = wrap64 (x0 + 1)) = false from decide_eq_false (fun e => h1 (by rw [← e]; exact beq_self_eq_true _))]; rfl
      clear h1
      go_wp2_with fail
      go_ret
      exact ⟨rfl, HB.out⟩
    · obtain ⟨w2, hw2⟩ : ∃ w2, w2 = ((w1.alloc (.cells #[.int .i64 y0, .string y1, .int .i64 y2, .int .i64 y3, .slice wb y4 wd] 131)).alloc (.cells #[.int .i64 x0, .string x1, .int .i64 x2, .int .i64 x3, .slice wa x4 wc] 131)).drew := ⟨_, rfl⟩
      have hb2 : Below w1.heap.size w1 w2 := by rw [hw2]; exact (((Below.refl _ _).alloc (Nat.le_refl _) _).alloc (by rw [World.size_alloc]; omega) _).drew
      have hgp : w2.heap[w1.heap.size]? = some (.cells #[.int .i64 y0, .string y1, .int .i64 y2, .int .i64 y3, .slice wb y4 wd] 131 (0, 0)) := by
        rw [hw2]
        refine (((Below.refl _ (w1.alloc (.cells #[.int .i64 y0, .string y1, .int .i64 y2, .int .i64 y3, .slice wb y4 wd] 131))).alloc (Nat.le_refl _) _).drew.block _ (by rw [World.size_alloc]; omega)).trans (heap_alloc_new _ _)
      have hgq : w2.heap[w1.heap.size + 1]? = some (.cells #[.int .i64 x0, .string x1, .int .i64 x2, .int .i64 x3, .slice wa x4 wc] 131 (0, 0)) := by
        rw [hw2]
        have := heap_alloc_new (w1.alloc (.cells #[.int .i64 y0, .string y1, .int .i64 y2, .int .i64 y3, .slice wb y4 wd] 131)) (.cells #[.int .i64 x0, .string x1, .int .i64 x2, .int .i64 x3, .slice wa x4 wc] 131 (0, 0))
        rw [World.size_alloc] at this
        exact this
      rw [← hw2]
      clear hw2
      have HB := Lib.hid (bcall H.out.1 hb2 H.out.1.size)
      clear hb2 k0 k1 k2 k3 k4 m0 m1 m2 m3 m4 c0 c1 hz1 hbl
      obtain ⟨p0, p1, -, -, -⟩ := cell5 hgp
      obtain ⟨q0, q1, -, -, -⟩ := cell5 hgq
      clear hgp hgq
      by_cases h1 : (y0 == wrap64 (x0 + 1)) = true
      · have E1 := Lib.hid (decide_eq_true (eq_of_beq h1))
        by_cases h2 : Wd.less x1 t = true
        · have l2 : Op.bytesLess x1.toList t.toList = true := h2
          by_cases h3 : Wd.less t y1 = true
          · have l3 : Op.bytesLess t.toList y1.toList = true := h3
            obtain rfl : Z = true := by rw [H.out.2.1, E1.out, h2, h3]; rfl
            clear h2 h3
            go_wp2_with fail
            go_ret
            exact ⟨rfl, HB.out⟩
          have h3f : Wd.less t y1 = false := by simpa using h3
          have l3 : Op.bytesLess t.toList y1.toList = false := h3f
          obtain rfl : Z = false := by rw [H.out.2.1, h3f]; cases decide (y0 = wrap64 (x0 + 1)) <;> cases Wd.less x1 t <;> rfl
          clear h2 h3 h3f
          go_wp2_with fail
          go_ret
          exact ⟨rfl, HB.out⟩
        have h2f : Wd.less x1 t = false := by simpa using h2
        have l2 : Op.bytesLess x1.toList t.toList = false := h2f
        obtain rfl : Z = false := by rw [H.out.2.1, h2f]; cases decide (y0 = wrap64 (x0 + 1)) <;> rfl
        clear h2 h2f
        go_wp2_with fail
        go_ret
        exact ⟨rfl, HB.out⟩
      have h1f : (y0 == wrap64 (x0 + 1)) = false := by simpa using h1
      obtain rfl : Z = false := by rw [H.out.2.1, show decide (y0 = wrap64 (x0 + 1)) = false from decide_eq_false (fun e => h1 (by rw [← e]; exact beq_self_eq_true _))]; rfl
      clear h1
      go_wp2_with fail
      go_ret
      exact ⟨rfl, HB.out⟩
end Go.Proofs.YtdfkpjmljaanpaaGreatDoor
