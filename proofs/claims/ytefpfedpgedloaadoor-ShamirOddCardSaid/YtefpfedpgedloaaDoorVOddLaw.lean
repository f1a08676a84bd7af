/- PROVED HERE: for every secret, every way to split it and every two numbers the law ShamirOdd returns true (a share that was turned is found among more than are needed, and one that is needed makes another secret of as many bytes). No condition. -/
import Derived.Test.YtefpfedpgedloaaDoorVOddM
import Derived.Test.YtefpfedpgedloaaDoorVOpen
import Derived.Test.YtefpfedpgedloaaDoorVSplit2
import Derived.Test.YtefpfedpgedloaaDoorVAwake
import Derived.Test.YtefpfedpgedloaaDoorVCombine
import Derived.Test.YtefpfedpgedloaaDoorPLaid
import Derived.Test.YtefpfedpgedloaaDoorBytesB
namespace Go.Proofs.YtefpfedpgedloaaDoor
open Go.RowKit
open Gf

theorem Row8.set {B : Nat} {w : World} {g : Nat} {l : List UInt8} (h : Row8 B w g l) (j : Nat) (hj : j < l.length) (c : UInt8) : Row8 B (w.setCell ⟨g, j, none⟩ (.int .u8 (c.toNat : Int))) g (l.set j c) :=
  Row8.put (l' := l.set j c) h j hj c (List.length_set ..) (by simp [List.getD_eq_getElem?_getD, hj]) (fun i hi he => by
    rw [List.getD_eq_getElem?_getD, List.getD_eq_getElem?_getD, List.getElem?_set, if_neg (fun e => he e.symm)])

/-- The boxes of the two arguments that are built of parts, and all that was there. -/
structure OddW (w : World) (need n : Int) (d : ByteArray) (a b : Int) (W : World) : Prop where
  below : Below w.heap.size w W
  h0 : W.heap[w.heap.size]? = some (.cells #[.int .i64 need, .int .i64 n, .string d] 23 (0, 0))
  h1 : W.heap[w.heap.size + 1]? = some (.cells #[.int .i64 a, .int .i64 b] 52 (0, 0))
theorem OddW.start (w : World) (need n : Int) (d : ByteArray) (a b : Int) : OddW w need n d a b ((w.alloc (.cells #[.int .i64 need, .int .i64 n, .string d] 23)).alloc (.cells #[.int .i64 a, .int .i64 b] 52)) := by
  refine ⟨((Below.refl _ _).alloc (Nat.le_refl _) _).alloc (((Below.refl _ _).alloc (Nat.le_refl _) _).size) _, ?_, ?_⟩
  · show (Array.push (Array.push w.heap _) _)[w.heap.size]? = _
    simp [Array.getElem?_push]
  · have h := heap_alloc_last (w.alloc (.cells #[.int .i64 need, .int .i64 n, .string d] 23)) (.cells #[.int .i64 a, .int .i64 b] 52)
    rwa [show (w.alloc (.cells #[.int .i64 need, .int .i64 n, .string d] 23)).heap.size = w.heap.size + 1 from by simp] at h
section
variable {w W W' : World} {need n : Int} {d : ByteArray} {a b : Int}
theorem OddW.lt (h : OddW w need n d a b W) : w.heap.size + 1 < W.heap.size := (Array.getElem?_eq_some_iff.1 h.h1).1
theorem OddW.step (h : OddW w need n d a b W) (hb : Below W.heap.size W W') : OddW w need n d a b W' :=
  ⟨h.below.trans (hb.mono h.below.size), (hb.block _ (by have := h.lt; omega)).trans h.h0, (hb.block _ h.lt).trans h.h1⟩
theorem OddW.step' (h : OddW w need n d a b W) (hb : Below W.heap.size W W') {g : Nat} (hg : w.heap.size + 2 ≤ g) (j : Nat) (v : Value) : OddW w need n d a b (W'.setCell ⟨g, j, none⟩ v) := by
  have h' := h.step hb
  have hh : Below (w.heap.size + 2) W' (W'.setCell ⟨g, j, none⟩ v) := below_put (Below.refl _ _) hg j v
  exact ⟨h'.below.trans (hh.mono (by omega)), (hh.block _ (by omega)).trans h'.h0, (hh.block _ (by omega)).trans h'.h1⟩
theorem OddW.c0 (h : OddW w need n d a b W) : W.cell? ⟨w.heap.size, 0, none⟩ = some (.int .i64 need) := by rw [cell_of_row _ _ _ _ _ _ h.h0]; rfl
theorem OddW.c1 (h : OddW w need n d a b W) : W.cell? ⟨w.heap.size, 1, none⟩ = some (.int .i64 n) := by rw [cell_of_row _ _ _ _ _ _ h.h0]; rfl
theorem OddW.c2 (h : OddW w need n d a b W) : W.cell? ⟨w.heap.size, 2, none⟩ = some (.string d) := by rw [cell_of_row _ _ _ _ _ _ h.h0]; rfl
theorem OddW.d0 (h : OddW w need n d a b W) : W.cell? ⟨w.heap.size + 1, 0, none⟩ = some (.int .i64 a) := by rw [cell_of_row _ _ _ _ _ _ h.h1]; rfl
theorem OddW.d1 (h : OddW w need n d a b W) : W.cell? ⟨w.heap.size + 1, 1, none⟩ = some (.int .i64 b) := by rw [cell_of_row _ _ _ _ _ _ h.h1]; rfl
end
set_option maxRecDepth 100000 in
set_option maxHeartbeats 1000000 in
theorem odd_law {w : World} (s : ByteArray) (hs : s.size ≤ maxLen) (x : Hw) (hx : x.Ok) (y : Two) (hy : y.Ok) : Calls Tryd.prog 7 #[.string s, .agg x.cells, .agg y.cells] w fun e w' => e = .returned (.bool true) ∧ Below w.heap.size w w' := by
  obtain ⟨need, n, d⟩ := x
  obtain ⟨a, b⟩ := y
  obtain ⟨⟨x1, x2⟩, ⟨x3, x4⟩, x5⟩ := hx
  obtain ⟨⟨y1, y2⟩, ⟨y3, y4⟩⟩ := hy
  simp only at x1 x2 x3 x4 x5 y1 y2 y3 y4
  unfold Hw.cells Two.cells
  simp only
  have H0 := Lib.hid (OddW.start w need n d a b)
  by_cases hout : n > 12 ∨ 64 < s.size ∨ s.size = 0
  · have b1 := H0.out.c1
    have hfin : ∀ e w1, (e = Ending.returned (.bool true) ∧ Below ((w.alloc (.cells #[.int .i64 need, .int .i64 n, .string d] 23)).alloc (.cells #[.int .i64 a, .int .i64 b] 52)).heap.size ((w.alloc (.cells #[.int .i64 need, .int .i64 n, .string d] 23)).alloc (.cells #[.int .i64 a, .int .i64 b] 52)) w1) → Below w.heap.size w w1 := fun e w1 h => (H0.out.step h.2).below
    have HF := Lib.hid hfin
    clear hfin
    go_enter Tryd.func7, Tryd.ntmps7
    by_cases q1 : n > 12
    · have q1' : decide (12 < n) = true := decide_eq_true q1
      clear hout
      go_wp2_with fail
      refine (awake_any _).mono ?_
      rintro e w1 ⟨rfl, hb⟩
      have HB := Lib.hid (HF.out _ _ ⟨rfl, hb⟩)
      clear hb
      go_wp2_with fail
      go_ret
      exact ⟨rfl, HB.out⟩
    · have q1' : decide (12 < n) = false := decide_eq_false q1
      by_cases q2 : 64 < s.size
      · have q2' : decide (64 < s.size) = true := decide_eq_true q2
        have q3' : decide ((64 : Int) < (s.size : Int)) = true := decide_eq_true (by omega)
        clear hout
        go_wp2_with fail
        refine (awake_any _).mono ?_
        rintro e w1 ⟨rfl, hb⟩
        have HB := Lib.hid (HF.out _ _ ⟨rfl, hb⟩)
        clear hb
        go_wp2_with fail
        go_ret
        exact ⟨rfl, HB.out⟩
      · have q2' : decide (64 < s.size) = false := decide_eq_false q2
        have q3' : decide ((64 : Int) < (s.size : Int)) = false := decide_eq_false (by omega)
        have q4 : s.size = 0 := by omega
        have q4' : ((s.size : Int) == 0) = true := by rw [q4]; rfl
        clear hout
        go_wp2_with fail
        refine (awake_any _).mono ?_
        rintro e w1 ⟨rfl, hb⟩
        have HB := Lib.hid (HF.out _ _ ⟨rfl, hb⟩)
        clear hb
        go_wp2_with fail
        go_ret
        exact ⟨rfl, HB.out⟩
  · have b1 := H0.out.c1
    have q1 : ¬ n > 12 := fun e => hout (.inl e)
    have q1' : decide (12 < n) = false := decide_eq_false q1
    have q2 : ¬ 64 < s.size := fun e => hout (.inr (.inl e))
    have q2' : decide (64 < s.size) = false := decide_eq_false q2
    have q3' : decide ((64 : Int) < (s.size : Int)) = false := decide_eq_false (by omega)
    have q4 : ¬ s.size = 0 := fun e => hout (.inr (.inr e))
    have q4' : ((s.size : Int) == 0) = false := by rw [beq_eq_false_iff_ne]; omega
    clear hout
    cases hm : mayP s d need n with
    | false =>
      have hsp := fun W => split_bad s d need n hs hm W
      have HS := Lib.hid hsp
      clear hsp hm hs
      go_enter Tryd.func7, Tryd.ntmps7
      go_wp2_with fail
      refine (awake_any _).mono ?_
      rintro e w1 ⟨rfl, hb⟩
      have H1 := Lib.hid (H0.out.step hb)
      clear hb b1
      have b0 := H1.out.c0
      have b1 := H1.out.c1
      have b2 := H1.out.c2
      go_wp2_with fail
      refine (HS.out _).mono ?_
      rintro e w' ⟨rfl, rfl⟩
      go_wp2_with fail
      refine (awake_any _).mono ?_
      rintro e w2 ⟨rfl, hb⟩
      have H2 := Lib.hid (H1.out.step hb)
      clear hb b0 b1 b2
      go_wp2_with fail
      go_ret
      exact ⟨rfl, H2.out.below⟩
    | true =>
      have hpm := mayP_iff.1 hm
      obtain ⟨N, rfl⟩ : ∃ N : Nat, n = (N : Int) := ⟨n.toNat, by omega⟩
      have hsp := fun W => split_good s d need N hm W
      have HS := Lib.hid hsp
      clear hsp
      have hN0 : (0 : Int) < N := by omega
      have hN1 : (N : Int) ≤ 12 := by omega
      have z1 := Int.lt_tmod_of_pos a hN0
      have z2 := Int.tmod_lt_of_pos a hN0
      obtain ⟨ta, hta⟩ : ∃ ta, ta = a.tmod (N : Int) := ⟨_, rfl⟩
      rw [← hta] at z1 z2
      have c1 : 0 ≤ (ta + N) % (N : Int) := Int.emod_nonneg _ (by omega)
      have c2 : (ta + N) % (N : Int) < N := Int.emod_lt_of_pos _ hN0
      obtain ⟨k, hk⟩ : ∃ k : Nat, (k : Int) = (ta + N) % (N : Int) := ⟨((ta + N) % (N : Int)).toNat, by omega⟩
      have e0 : a.tmod (N : Int) = ta := hta.symm
      have e1 : (ta + N) % (N : Int) = (k : Int) := hk.symm
      have e2 : (ta + N).tmod (N : Int) = (k : Int) := by rw [Int.tmod_eq_emod_of_nonneg (by omega)]; exact e1
      have hkN : k < N := by omega
      have hNn : ((N : Int) == 0) = false := by simp; omega
      obtain ⟨m, hsm⟩ : ∃ m, m = s.size := ⟨_, rfl⟩
      have hm0 : (0 : Int) < m := by omega
      have hm1 : (m : Int) ≤ 64 := by omega
      have z3 := Int.lt_tmod_of_pos b hm0
      have z4 := Int.tmod_lt_of_pos b hm0
      obtain ⟨tb, htb⟩ : ∃ tb, tb = b.tmod (m : Int) := ⟨_, rfl⟩
      rw [← htb] at z3 z4
      have c3 : 0 ≤ (tb + m) % (m : Int) := Int.emod_nonneg _ (by omega)
      have c4 : (tb + m) % (m : Int) < m := Int.emod_lt_of_pos _ hm0
      obtain ⟨i, hi⟩ : ∃ i : Nat, (i : Int) = (tb + m) % (m : Int) := ⟨((tb + m) % (m : Int)).toNat, by omega⟩
      have f0 : b.tmod (m : Int) = tb := htb.symm
      have f1 : (tb + m) % (m : Int) = (i : Int) := hi.symm
      have f2 : (tb + m).tmod (m : Int) = (i : Int) := by rw [Int.tmod_eq_emod_of_nonneg (by omega)]; exact f1
      have him : i < m := by omega
      have hmn : ((m : Int) == 0) = false := by simp; omega
      have hms : (s.size : Int) = (m : Int) := by omega
      have z5 := Int.lt_tmod_of_pos a (show (0 : Int) < 255 by decide)
      have z6 := Int.tmod_lt_of_pos a (show (0 : Int) < 255 by decide)
      obtain ⟨tc, htc⟩ : ∃ tc, tc = a.tmod 255 := ⟨_, rfl⟩
      rw [← htc] at z5 z6
      have g0 : a.tmod 255 = tc := htc.symm
      obtain ⟨q, hq⟩ : ∃ q : Nat, (q : Int) = (tc + 255) % 255 := ⟨((tc + 255) % 255).toNat, by omega⟩
      have g1 : (tc + 255) % 255 = (q : Int) := hq.symm
      have g2 : (tc + 255).tmod 255 = (q : Int) := by rw [Int.tmod_eq_emod_of_nonneg (by omega)]; exact g1
      have hq5 : q < 255 := by omega
      obtain ⟨z, hz⟩ : ∃ z : UInt8, z = UInt8.ofNat (1 + q) := ⟨_, rfl⟩
      have hzn : (z.toNat : Int) = 1 + (q : Int) := by rw [hz, UInt8.toNat_ofNat']; omega
      have hz0 : z ≠ 0 := fun e => by rw [e] at hzn; simp at hzn; omega
      have g3 : IntKind.u8.wrap (1 + (q : Int)) = (z.toNat : Int) := by rw [hzn]; exact IntWalk.u8_in _ (by omega)
      obtain ⟨t, ht⟩ : ∃ t, (splt s d need N)[k]? = some t := ⟨_, splt_get hkN⟩
      have hty : t.y.size = m := by rw [hsm]; exact (splt_alk hm).size t (List.mem_of_getElem? ht)
      have hmore := odd_more (i := i) hm ht (by omega) hz0
      have hjust := odd_just (i := i) hm ht (by omega) hz0
      have HK := Lib.hid (And.intro hm (And.intro ht (And.intro hmore (And.intro hjust (And.intro hty (And.intro him hsm))))))
      clear hm hmore hjust hs htc hz hq hi hta htb hk hsm
      go_enter Tryd.func7, Tryd.ntmps7
      go_wp2_with fail
      refine (awake_any _).mono ?_
      rintro e w1 ⟨rfl, hb⟩
      have H1 := Lib.hid (H0.out.step hb)
      clear hb b1
      have b0 := H1.out.c0
      have b1 := H1.out.c1
      have b2 := H1.out.c2
      go_wp2_with fail
      refine (HS.out _).mono ?_
      rintro e w2 ⟨al, cp, rfl, ho, hb⟩
      obtain ⟨g, rfl, hgB, hgl, hgc, hgf⟩ := ho.addr (by rw [splt_length]; omega)
      obtain ⟨r0, r1, r2, -⟩ := ho.cells HK.out.2.1
      obtain ⟨cy, w3, hcv, hrow, hb3, hz3⟩ := conv_bytes w2 t.y
      rw [HK.out.2.2.2.2.1] at hcv
      have H2 := Lib.hid (And.intro (H1.out.step hb) (And.intro ho (And.intro hrow (And.intro hb3 hz3))))
      clear hb ho b0 b1 b2 hb3 hz3 hrow ht hpm
      have d0 := H2.out.1.d0
      have d1 := H2.out.1.d1
      rw [splt_length] at hgc
      go_wp2_with fail
      clear d0 d1
      have O3 := H2.out.1.step H2.out.2.2.2.1
      have d0 := O3.d0
      have d1 := O3.c0
      have d2 := O3.c1
      obtain ⟨c0, hc0⟩ : ∃ c0, c0 = co t.y.data.toList i := ⟨_, rfl⟩
      obtain ⟨v0, hv0⟩ : ∃ v0, v0 = c0 ^^^ z := ⟨_, rfl⟩
      have hyi : i < t.y.data.toList.length := by rw [data_len, HK.out.2.2.2.2.1]; exact HK.out.2.2.2.2.2.1
      obtain ⟨hyc, hyf⟩ := H2.out.2.2.1.2.2 i hyi
      rw [show t.y.data.toList.getD i 0 = c0 from hc0.symm] at hyc
      have hxo : bits .xor .u8 (c0.toNat : Int) (1 + (q : Int)) = (v0.toNat : Int) := by rw [← hzn, hv0]; exact u_xor c0 z
      have hT : str (t.y.data.toList.set i v0) = turnY t.y i z := by rw [hv0, hc0]; rfl
      have hlm : (t.y.data.toList.set i v0).length = m := by rw [List.length_set, data_len, HK.out.2.2.2.2.1]
      have H3 := Lib.hid (And.intro hT (And.intro hyi hlm))
      clear O3 hc0 hv0 hT hyi hlm
      go_region
      obtain ⟨w4, hw4⟩ : ∃ w4, w4 = (w3.setCell ⟨w2.heap.size, i, none⟩ (.int .u8 (v0.toNat : Int))).drew := ⟨_, rfl⟩
      rw [← hw4]
      have hb4 : Below w2.heap.size w2 w4 := by rw [hw4]; exact (below_put H2.out.2.2.2.1 (Nat.le_refl _) i _).drew
      have hrow4 : Row8 w2.heap.size w4 w2.heap.size (t.y.data.toList.set i v0) := by rw [hw4]; exact (H2.out.2.2.1.set i H3.out.2.1 v0).drew
      have hcv4 := hrow4.conv m H3.out.2.2 cy
      rw [H3.out.1] at hcv4
      obtain ⟨T, hT⟩ : ∃ T, T = turnY t.y i z := ⟨_, rfl⟩
      rw [← hT] at hcv4
      have ho4 := H2.out.2.1.below hb4
      have hput := OwnS.putY ho4 HK.out.2.1 T
      have hg4 : g < w4.heap.size := Nat.lt_of_lt_of_le hgl hb4.size
      have hf4 : w4.frozen? ⟨g, k * 3 + 2, none⟩ = false := by rw [hb4.frozen (p := ⟨g, k * 3 + 2, none⟩) hgl]; exact hgf _
      have s4 : w4.cell? ⟨g, k * 3 + 2, none⟩ = some (.string t.y) := by rw [hb4.cell (p := ⟨g, k * 3 + 2, none⟩) hgl]; exact r2
      have O4 := (H2.out.1.step hb4)
      have HP := Lib.hid (And.intro hput (And.intro O4 (And.intro hT (H1.out.below.size))))
      clear hrow4 ho4 hput O4 hT d0 d1 d2 hyc hyf hxo r0 r1 r2 hcv hw4 hb4
      go_wp2_with fail
      have hL : ((splt s d need N).set k ⟨t.x, t.need, T⟩) = (splt s d need N).set k (turnS t i z) := by rw [HP.out.2.2.1]; rfl
      have hlen : ((splt s d need N).set k ⟨t.x, t.need, T⟩).length = N := by rw [List.length_set, splt_length]
      have hok := turned_alk (splt_alk HK.out.1) HK.out.2.1 i z
      have hcm := combine_any HP.out.1.at (by rw [hlen]; omega) (fun u hu => by
        have := (okS_iff.1 (hok.ok u (hL ▸ hu))).2.2.2
        unfold maxLen; omega) cp
      rw [hlen, hL] at hcm
      have O5 : OddW w need N d a b (w4.setCell ⟨g, k * 3 + 2, none⟩ (.string T)) := HP.out.2.1.step' (Below.refl _ _) (by have := H1.out.lt; omega) _ _
      by_cases hN : need < N
      · rw [HK.out.2.2.1 hN] at hcm
        have HC := Lib.hid (And.intro hcm O5)
        clear hL hlen hok hcm O5
        refine HC.out.1.mono ?_
        rintro e w6 ⟨rfl, hb6⟩
        have O6 := HC.out.2.step hb6
        have b0 := O6.c0
        have b1 := O6.c1
        have H6 := Lib.hid O6
        clear O6 hb6
        have hd : decide (need < (N : Int)) = true := decide_eq_true hN
        go_wp2_with fail
        refine (awake_any _).mono ?_
        rintro e w7 ⟨rfl, hb7⟩
        have H7 := Lib.hid (H6.out.step hb7)
        clear hb7
        go_wp2_with fail
        go_ret
        exact ⟨rfl, H7.out.below⟩
      · obtain ⟨r, hr, hrs, hrn⟩ := HK.out.2.2.2.1 (by omega)
        rw [hr] at hcm
        have HC := Lib.hid (And.intro hcm O5)
        have hrs' : (r.size : Int) = (m : Int) := by rw [hrs]; exact hms
        have hne : (r.toList == s.toList) = false := by
          rw [beq_eq_false_iff_ne]
          exact fun e => hrn (ByteArray.ext (Array.toList_inj.1 (by rw [← ByteArray.toList_eq, ← ByteArray.toList_eq, e])))
        clear hL hlen hok hcm O5 hr hrs hrn
        refine HC.out.1.mono ?_
        rintro e w6 ⟨rfl, hb6⟩
        have O6 := HC.out.2.step hb6
        have b0 := O6.c0
        have b1 := O6.c1
        have H6 := Lib.hid O6
        clear O6 hb6
        have hd : decide (need < (N : Int)) = false := decide_eq_false hN
        go_wp2_with fail
        refine (awake_any _).mono ?_
        rintro e w7 ⟨rfl, hb7⟩
        have H7 := Lib.hid (H6.out.step hb7)
        clear hb7
        go_wp2_with fail
        go_ret
        exact ⟨rfl, H7.out.below⟩
end Go.Proofs.YtefpfedpgedloaaDoor

namespace Go.Proofs.YtefpfedpgedloaaDoor.shamirOddLaw
open Go.ChangeShapes Go.WideShapes Go.ChangeAt Go.RowKit
open Go.ChangeMaps (open_string shut_string)

set_option maxRecDepth 100000 in
theorem contract (H : Type) (enc : TypeId × Value → H) (W : World) (base : Nat) (args : Array Value) (ds gs : List (DataW H)) (before : List MemPlace)
    (hval : ∀ (j : Nat) t v, Tryd.f7.params[j]? = some t → args[j]? = some v → Value.okWide Tryd.prog W .any base t v)
    (hW : DataW.Whole enc Tryd.prog Tryd.f7.params.toList Rows.shamirOddSpec.vars false W args.toList ds gs before) (_ : laidMetH Tryd.prog Rows.shamirOddRow.laid W) :
    Calls Tryd.prog 7 args W fun e W' => ∃ v, e = .returned v ∧ Rows.shamirOddSpec.post enc Tryd.prog Tryd.f7 false true false false W args v W' := by
  have hW' := hW
  obtain ⟨p, q, hA0, hV, rfl, hfz, hnd⟩ := hW
  have hA : DataW.TrodAll enc Tryd.prog W 0 (fun _ => true) true Tryd.f7.params.toList args.toList ds p := hA0
  rw [Tryd.params7] at hA hval
  obtain ⟨v0, vs0, d0, ds0, p0, q0, hargs, rfl, rfl, h0, r0⟩ := trodAll_cons hA
  obtain ⟨v1, vs1, d1, ds1, p1, q1, rfl, rfl, rfl, h1, r1⟩ := trodAll_cons r0
  obtain ⟨v2, vs2, d2, ds2, p2, q2, rfl, rfl, rfl, h2, r2⟩ := trodAll_cons r1
  obtain ⟨rfl, rfl, rfl⟩ := trodAll_nil r2
  obtain rfl : args = #[v0, v1, v2] := by cases args; simp_all
  obtain ⟨rfl, rfl⟩ := trodVars_none hV
  obtain ⟨s0, rfl, rfl, rfl, ws0⟩ := open_string Tryd.underlying9 (hval 0 9 v0 rfl rfl) h0
  obtain ⟨cs1, rfl, hcs1⟩ := okWide_struct Tryd.underlying23 (hval 1 23 v1 rfl rfl)
  have hk1 := h1
  obtain ⟨fuel1, hf1⟩ := h1
  obtain ⟨cs2, rfl, hcs2⟩ := okWide_array Tryd.underlying52 (hval 2 52 v2 rfl rfl)
  have hk2 := h2
  obtain ⟨fuel2, hf2⟩ := h2
  clear hA0
  simp only [List.append_nil, List.nil_append] at hW'
  have hlt1 : ∀ x ∈ p1, x.block < W.heap.size := fun x hx => by simpa using hW'.lt x (by simp [hx])
  obtain ⟨x1a, hit1, hf1a⟩ := open_how hf1
  obtain rfl : cs1 = Hw.cells x1a := Array.toList_inj.1 hit1
  have hlt2 : ∀ x ∈ p2, x.block < W.heap.size := fun x hx => by simpa using hW'.lt x (by simp [hx])
  obtain ⟨x2a, hit2, hf2a⟩ := open_two hf2
  obtain rfl : cs2 = Two.cells x2a := Array.toList_inj.1 hit2
  refine (odd_law s0 (by simpa using ws0) x1a hf1a x2a hf2a (w := W)).mono fun e W' ⟨he, hb⟩ => ?_
  subst he
  exact ⟨_, rfl, _, _, _, [], _, [], hW', trodAll_cons_mk (shut_bool Tryd.underlying4 _) trodAll_mk0, (trodAll_cons_mk (shut_string Tryd.underlying9 ws0) (trodAll_cons_mk (Below.trod laidOut (by kernel_rfl) (of_decide_eq_true (by kernel_rfl)) hk1 hb hlt1) (trodAll_cons_mk (Below.trod laidOut (by kernel_rfl) (of_decide_eq_true (by kernel_rfl)) hk2 hb hlt2) trodAll_mk0))), rfl, hb.frame _, fun h => by cases h⟩
theorem laid_met (os : Os) : laidMet Tryd.prog Rows.shamirOddRow.laid ((laidWorld os).forCall (fun _ _ => 0) ⟨#[], #[.string ⟨#[]⟩, .agg #[.int .i64 0, .int .i64 0, .string ⟨#[]⟩], .agg #[.int .i64 0, .int .i64 0]], []⟩).memory :=
  laidMet_of_run' 8 (by kernel_rfl) (by kernel_rfl)
theorem reads (os : Os) {H : Type} (enc : TypeId × Value → H) : ∃ places, DataW.whole enc Tryd.prog ((laidWorld os).forCall (fun _ _ => 0) ⟨#[], #[.string ⟨#[]⟩, .agg #[.int .i64 0, .int .i64 0, .string ⟨#[]⟩], .agg #[.int .i64 0, .int .i64 0]], []⟩).memory Tryd.f7.params.toList Rows.shamirOddSpec.vars false #[Value.string ⟨#[]⟩, .agg #[.int .i64 0, .int .i64 0, .string ⟨#[]⟩], .agg #[.int .i64 0, .int .i64 0]].toList 8 = some ([.lit (.string []), .agg [.lit (.int .i64 0), .lit (.int .i64 0), .lit (.string [])], .agg [.lit (.int .i64 0), .lit (.int .i64 0)]], [], places) :=
  ⟨[], by kernel_rfl⟩
set_option maxRecDepth 100000 in
theorem lifted (os : Os) (started : os.Started) (H : Type) (enc : TypeId × Value → H) (F : Stop.Interp) :
    ReturnsInHanded {} Tryd.checked os 7 .any ((OpenSpec.ofChange Rows.shamirOddSpec).preRow enc Tryd.prog Tryd.f7 Rows.shamirOddRow.domain false Rows.shamirOddRow.laid) (((OpenSpec.ofChange Rows.shamirOddSpec).at F).post enc Tryd.prog Tryd.f7 false true false false) := by
  obtain ⟨places, hx⟩ := reads os enc
  refine returnsInHanded_of_row (C := Tryd.checked) (s := OpenSpec.ofChange Rows.shamirOddSpec) own started (by kernel_rfl) Tryd.func7
    (witness_row_at (enc := enc) (C := Tryd.checked) false (laidWorld os) #[.string ⟨#[]⟩, .agg #[.int .i64 0, .int .i64 0, .string ⟨#[]⟩], .agg #[.int .i64 0, .int .i64 0]] rfl (by kernel_rfl) (by kernel_rfl) (by kernel_rfl)
      (OpenSpec.preRow_of_cond 8 hx (by kernel_rfl) (fun k hk => by cases hk) (by kernel_rfl) (laid_met os))) ?_
  intro W base args ds gs before hval hW _ _ _ hL _ _
  exact contract H enc W base args ds gs before hval hW hL
theorem said : Rows.ShamirOddSaid :=
  OpenClaim.holds_of_cond 7 Tryd.f7 rfl rfl rfl rfl rfl rfl rfl ⟨rfl, rfl, rfl, rfl, rfl⟩ rfl rfl rfl rfl rfl (by kernel_rfl) Tryd.func7 (by kernel_rfl)
    (of_decide_eq_true (by kernel_rfl)) (by unfold Func.isWrapper; first | (rw [if_pos (by decide +kernel)]; kernel_rfl) | (rw [if_neg (by decide +kernel)]; exact ⟨rfl, rfl⟩))
    (fun os started H enc _ F => by rw [OpenClaim.pre_eq_preRow]; exact lifted os started H enc F)
theorem plain (f : FuncId) (fn : Func) (hf : Tryd.pinned.checked.prog.funcNamed "lockbox/lockboxlaw09.ShamirOdd" = some f) (hfn : Tryd.pinned.checked.prog.funcs[f]? = some fn) :
    false = Tryd.pinned.checked.prog.looks [] ∧ ∀ (j : Nat) t, fn.params[j]? = some t → Tryd.pinned.checked.prog.wantsStandIn t = false := by
  obtain rfl : f = 7 := Option.some.inj ((show Tryd.prog.funcNamed "lockbox/lockboxlaw09.ShamirOdd" = some 7 by kernel_rfl).symm.trans hf) |>.symm
  obtain rfl : fn = Tryd.f7 := (Option.some.inj (Tryd.func7.symm.trans hfn)).symm
  refine ⟨by kernel_rfl, fun j t ht => ?_⟩
  rw [Tryd.params7] at ht
  have hm : t ∈ [9, 23, 52] := by simpa using Array.mem_of_getElem? ht
  have hall : ([9, 23, 52].all fun u => !Tryd.prog.wantsStandIn u) = true := by kernel_rfl
  exact (show Tryd.prog.wantsStandIn t = false by simpa using List.all_eq_true.1 hall t hm)
end Go.Proofs.YtefpfedpgedloaaDoor.shamirOddLaw

namespace Go.Proofs.YtefpfedpgedloaaDoor
/-- THE CARD. -/
theorem shamirOdd_card : Rows.ShamirOddCardSaid :=
  Claim7.holds_tied_plain_at .later [] _ _ _ _ shamirOddLaw.said (fun _ h => by cases h) (by kernel_rfl) (fun _ h => by cases h) shamirOdd_row_tie rfl ⟨rfl, rfl⟩ (by kernel_rfl) rfl shamirOddLaw.plain (by kernel_rfl)
end Go.Proofs.YtefpfedpgedloaaDoor
