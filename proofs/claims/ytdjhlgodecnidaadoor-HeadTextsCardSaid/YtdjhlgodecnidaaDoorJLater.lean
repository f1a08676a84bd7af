/- head.Later; lockboxlaw14.Ref, awake. -/
import Derived.Test.YtdjhlgodecnidaaDoorJChk
namespace Go.Proofs.YtdjhlgodecnidaaDoor
open Go.RowKit
open Cn

/-- Could one be signed behind the other? X: are the roots the same? -/
def lateB (a b : Hd) (X : Bool) : Bool := decide (a.n ≤ b.n) && decide (a.t ≤ b.t) && (decide (a.n < b.n) || X)
set_option maxRecDepth 100000 in
set_option maxHeartbeats 2000000 in
theorem later_any (a b : Hd) (w : World) : Calls Tryd.prog 54 #[.agg a.cs, .agg b.cs] w fun e w' => e = .returned (.bool (lateB a b (b.r.toList == a.r.toList))) ∧ Below w.heap.size w w' := by
  obtain ⟨X, hX⟩ : ∃ X, X = (b.r.toList == a.r.toList) := ⟨_, rfl⟩
  rw [← hX]
  obtain ⟨w1, hw1⟩ : ∃ w1, w1 = w.alloc (.cells a.cs 57) := ⟨_, rfl⟩
  have hb1 : Below w.heap.size w w1 := by rw [hw1]; exact (Below.refl _ _).alloc (Nat.le_refl _) _
  have hg1 : w1.heap[w.heap.size]? = some (.cells a.cs 57 (0, 0)) := by rw [hw1]; exact heap_alloc_new _ _
  have hs1 : w1.heap.size = w.heap.size + 1 := by rw [hw1]; simp
  obtain ⟨w2, hw2⟩ : ∃ w2, w2 = w1.alloc (.cells b.cs 57) := ⟨_, rfl⟩
  have hb2 : Below w1.heap.size w1 w2 := by rw [hw2]; exact (Below.refl _ _).alloc (Nat.le_refl _) _
  have hg2 : w2.heap[w.heap.size + 1]? = some (.cells b.cs 57 (0, 0)) := by rw [hw2, ← hs1]; exact heap_alloc_new _ _
  obtain ⟨c0, c1, c2, c3⟩ := hd_cell ((hb2.block _ (lt_of_heap hg1)).trans hg1)
  obtain ⟨d0, d1, d2, d3⟩ := hd_cell hg2
  have HB := Lib.hid (hb1.trans (hb2.mono hb1.size))
  clear hb1 hg1 hs1 hb2 hg2
  unfold Hd.cs at hw1 hw2 ⊢
  unfold lateB
  have hX1 := hX.symm
  clear hX
  by_cases h1 : a.n ≤ b.n
  · rw [decide_eq_true h1, Bool.true_and]
    by_cases h2 : a.t ≤ b.t
    · rw [decide_eq_true h2, Bool.true_and]
      by_cases h3 : a.n < b.n
      · rw [decide_eq_true h3, Bool.true_or]
        go_enter Tryd.func54, Tryd.ntmps54
        go_upto_region 1 with fail
        rw [← hw1]
        rw [← hw2]
        clear hw1 hw2
        go_wp2_with fail
        go_ret
        exact ⟨rfl, HB.out⟩
      · rw [decide_eq_false h3, Bool.false_or]
        go_enter Tryd.func54, Tryd.ntmps54
        go_upto_region 1 with fail
        rw [← hw1]
        rw [← hw2]
        clear hw1 hw2
        go_wp2_with fail
        go_ret
        exact ⟨rfl, HB.out⟩
    · rw [decide_eq_false h2, Bool.false_and]
      go_enter Tryd.func54, Tryd.ntmps54
      go_upto_region 1 with fail
      rw [← hw1]
      rw [← hw2]
      clear hw1 hw2
      go_wp2_with fail
      go_ret
      exact ⟨rfl, HB.out⟩
  · rw [decide_eq_false h1, Bool.false_and, Bool.false_and]
    go_enter Tryd.func54, Tryd.ntmps54
    go_upto_region 1 with fail
    rw [← hw1]
    rw [← hw2]
    clear hw1 hw2
    go_wp2_with fail
    go_ret
    exact ⟨rfl, HB.out⟩
set_option maxRecDepth 100000 in
set_option maxHeartbeats 1000000 in
theorem ref_any (h : Hd) (w : World) : Calls Tryd.prog 45 #[.agg h.cs] w fun e w' => e = .returned (.agg h.cs) ∧ Below w.heap.size w w' := by
  obtain ⟨w1, hw1⟩ : ∃ w1, w1 = w.alloc (.cells h.cs 57) := ⟨_, rfl⟩
  have hb1 : Below w.heap.size w w1 := by rw [hw1]; exact (Below.refl _ _).alloc (Nat.le_refl _) _
  have hg1 : w1.heap[w.heap.size]? = some (.cells h.cs 57 (0, 0)) := by rw [hw1]; exact heap_alloc_new _ _
  have hs1 : w1.heap.size = w.heap.size + 1 := by rw [hw1]; simp
  obtain ⟨w2, hw2⟩ : ∃ w2, w2 = w1.alloc (.cells Hd.zero.cs 61) := ⟨_, rfl⟩
  have hb2 : Below w1.heap.size w1 w2 := by rw [hw2]; exact (Below.refl _ _).alloc (Nat.le_refl _) _
  have hg2 : w2.heap[w.heap.size + 1]? = some (.cells Hd.zero.cs 61 (0, 0)) := by rw [hw2, ← hs1]; exact heap_alloc_new _ _
  obtain ⟨d0, d1, d2, d3⟩ := hd_cell ((hb2.block _ (lt_of_heap hg1)).trans hg1)
  obtain ⟨c0, c1, c2, c3, cf⟩ := zero_cells4 hg2
  have HB := Lib.hid (hb1.trans (hb2.mono hb1.size))
  clear hb1 hg1 hs1 hb2 hg2
  unfold Hd.zero Hd.cs at hw2
  unfold Hd.cs at hw1 ⊢
  simp only at hw2
  go_enter Tryd.func45, Tryd.ntmps45
  go_upto_region 1 with fail
  rw [← hw1]
  rw [← hw2]
  clear hw1 hw2
  go_wp2_with fail
  refine bodyPost_ret (v := .agg #[.int .i64 h.n, .string h.r, .int .i64 h.t, .string h.c]) (by simp [results, Tryd.results45, go_sem, c0, c1, c2, c3]) rfl ?_
  exact ⟨rfl, below_put4 HB.out (by omega) _ _ _ _⟩
/-- A key of bytes 0. -/
def key0 : ByteArray := str (List.replicate 32 0)
theorem key0_size : key0.size = 32 := rfl
def hd0 : Hd := ⟨0, key0, 5, ⟨#[]⟩⟩
theorem hd0_body : bodyB hd0 = true := by decide
theorem sg0_size : 10 < (sgS hd0).size := by decide +kernel
theorem sg0_head : (sgS hd0).extract 0 10 = ⟨#[9, 1, 4, 8, 1, 4, 104, 101, 97, 100]⟩ := by decide +kernel
theorem sign_is {key : ByteArray} {h : Hd} (hk : key.size = 32) (hb : bodyB h = true) : signP key h = (⟨h.n, h.r, h.t, str (code key.data.toList (sgS h).data.toList)⟩, 0) := by
  unfold signP
  rw [if_neg (fun e => e hk), if_neg (by rw [hb]; decide)]
theorem check_sign {key : ByteArray} {h : Hd} (hk : key.size = 32) (hb : bodyB h = true) : checkP key (signP key h).1 = 0 := by
  have hm := sign_may hk hb
  rw [sign_is hk hb] at hm ⊢
  unfold checkP
  rw [if_neg (fun e => e hk), if_neg (by rw [hm]; decide)]
  exact if_pos rfl
theorem sg_sign {key : ByteArray} {h : Hd} (hk : key.size = 32) (hb : bodyB h = true) : sgS (signP key h).1 = sgS h := by
  unfold signP
  rw [if_neg (fun e => e hk), if_neg (by rw [hb]; decide)]
  rfl
theorem sign_ok {key : ByteArray} {h : Hd} (hk : key.size = 32) (hb : bodyB h = true) : (signP key h).2 = 0 := by
  unfold signP
  rw [if_neg (fun e => e hk), if_neg (by rw [hb]; decide)]
set_option maxRecDepth 100000 in
set_option maxHeartbeats 2000000 in
theorem awake14_any (w : World) (hG : Glob w) : Calls Tryd.prog 42 #[] w fun e w' => e = .returned (.bool true) ∧ Below w.heap.size w w' := by
  obtain ⟨w0, hmk0, hown, hb0⟩ := make_bytes w 32 (by decide)
  have hmk : (Instr.makeSlice 91 (.int .i64 32) (.int .i64 32)).run Tryd.prog w = .ok (.slice (some ⟨w.heap.size, 0, none⟩) 32 32) w0 := hmk0
  have hcv0 := hown.conv
  rw [List.length_replicate] at hcv0
  obtain ⟨K, hK⟩ : ∃ K, K = key0 := ⟨_, rfl⟩
  have hcv : (convert 91 9 (.slice (some ⟨w.heap.size, 0, none⟩) 32 32)).run Tryd.prog w0 = .ok (.string K) w0 := by rw [hK]; exact hcv0
  have hKs : K.size = 32 := by rw [hK]; rfl
  obtain ⟨h0, hh0⟩ : ∃ h0 : Hd, h0 = ⟨0, K, 5, ⟨#[]⟩⟩ := ⟨_, rfl⟩
  have hbd : bodyB h0 = true := by rw [hh0, hK]; exact hd0_body
  have hsn := fun W hG => sign_any K h0 W hG
  rw [sign_ok hKs hbd] at hsn
  have hck := fun W hG => hcheck_any K (signP K h0).1 W hG
  rw [check_sign hKs hbd] at hck
  have hsg := fun W => signed_any (signP K h0).1 W
  rw [sg_sign hKs hbd] at hsg
  have hT1 : 10 < (sgS h0).size := by rw [hh0, hK]; exact sg0_size
  have hT2 : (sgS h0).extract 0 10 = ⟨#[9, 1, 4, 8, 1, 4, 104, 101, 97, 100]⟩ := by rw [hh0, hK]; exact sg0_head
  obtain ⟨T, hT⟩ : ∃ T, T = sgS h0 := ⟨_, rfl⟩
  obtain ⟨A, hA⟩ : ∃ A, A = (signP K h0).1 := ⟨_, rfl⟩
  rw [← hT] at hT1 hT2 hsg
  rw [← hA] at hsn hck hsg
  have hsn1 : ∀ W, Glob W → Calls Tryd.prog 43 #[.string K, .int .i64 0, .string K, .int .i64 5] W fun e w' => e = .returned (.tuple #[.agg A.cs, .int .i64 0]) ∧ Below W.heap.size W w' := fun W hG => by
    have := hsn W hG
    rw [hh0] at this
    exact this
  have H := Lib.hid (And.intro hsn1 (And.intro hck (And.intro hsg (And.intro hb0 (And.intro hG (And.intro hT2 hT1))))))
  have hT10 : (10 : Int) < (T.size : Int) := by omega
  clear hmk0 hown hb0 hcv0 hK hKs hh0 hbd hsn hck hsg hT2 hT hA hsn1 hG hT1
  unfold Hd.cs at *
  go_enter Tryd.func42, Tryd.ntmps42
  go_upto_region 2 with fail
  clear hmk hcv
  go_wp2_with fail
  refine (H.out.1 _ (H.out.2.2.2.2.1.below H.out.2.2.2.1)).mono ?_
  rintro e w1 ⟨rfl, hb1⟩
  obtain ⟨w2, hw2⟩ : ∃ w2, w2 = w1.alloc (.cells A.cs 57) := ⟨_, rfl⟩
  have hb2 : Below w1.heap.size w1 w2 := by rw [hw2]; exact (Below.refl _ _).alloc (Nat.le_refl _) _
  have hg2 : w2.heap[w1.heap.size]? = some (.cells A.cs 57 (0, 0)) := by rw [hw2]; exact heap_alloc_new _ _
  have B1 := H.out.2.2.2.1.trans (hb1.mono H.out.2.2.2.1.size)
  have B2 := B1.trans (hb2.mono B1.size)
  unfold Hd.cs at hw2
  have HC := Lib.hid (And.intro hg2 B2)
  obtain ⟨c0, c1, c2, c3⟩ := hd_cell hg2
  clear hb1 hb2 hg2 B1 B2
  go_upto_region 3 with fail
  rw [← hw2]
  clear hw2
  go_wp2_with fail
  refine (H.out.2.2.1 _).mono ?_
  rintro e w3 ⟨rfl, hb3⟩
  have hg3 := (hb3.block _ (lt_of_heap HC.out.1)).trans HC.out.1
  have B3 := HC.out.2.trans (hb3.mono HC.out.2.size)
  have HD := Lib.hid (And.intro hg3 B3)
  clear c0 c1 c2 c3 hb3
  obtain ⟨c0, c1, c2, c3⟩ := hd_cell hg3
  clear hg3 B3
  have hT2 := H.out.2.2.2.2.2.1
  have hTI : (10 : Int) ≤ (T.size : Int) := by omega
  go_wp2_with fail
  refine (H.out.2.1 _ (H.out.2.2.2.2.1.below HD.out.2)).mono ?_
  rintro e w4 ⟨rfl, hb4⟩
  have B4 := HD.out.2.trans (hb4.mono HD.out.2.size)
  have HE := Lib.hid B4
  clear hb4 B4
  go_wp2_with fail
  go_ret
  exact ⟨rfl, HE.out⟩
end Go.Proofs.YtdjhlgodecnidaaDoor
