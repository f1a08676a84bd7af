/- Merged by program: Front, Decode. -/
import Derived.Test.YtgoimggfpagojaaDoorMC4
import Derived.Deep.RegionWith
import Derived.Deep.DeepCutAuto
namespace Go.Proofs.YtgoimggfpagojaaDoor
open Go.RowKit
open Cn

def FrontPost (w : World) (R : Except Int (Pt × Nat × List UInt8)) (e : Ending) (w' : World) : Prop :=
  Below w.heap.size w w' ∧ match R with
    | .error x => x ≠ 0 ∧ e = .returned (.tuple #[zeroIt, .string ⟨#[]⟩, .int .i64 x])
    | .ok (x, _, r) => ∃ it : It, it.pure = x ∧ e = .returned (.tuple #[it.val, .string ⟨r.toArray⟩, .int .i64 0]) ∧ it.In w' (w.heap.size ≤ ·)
/-- The same, and how much room the list's row has. -/
def FrontCap (w : World) (R : Except Int (Pt × Nat × List UInt8)) (e : Ending) (w' : World) : Prop :=
  Below w.heap.size w w' ∧ match R with
    | .error x => x ≠ 0 ∧ e = .returned (.tuple #[zeroIt, .string ⟨#[]⟩, .int .i64 x])
    | .ok (x, _, r) => ∃ it : It, it.pure = x ∧ e = .returned (.tuple #[it.val, .string ⟨r.toArray⟩, .int .i64 0]) ∧ it.In w' (w.heap.size ≤ ·) ∧ it.l.length ≤ it.cap
/-- Four cells stored over an item's row. -/
theorem hrow_set {W : World} {b : Nat} {cs : Array Value} (h : W.heap[b]? = some (.cells cs 104 (0, 0))) (x0 x1 x2 x3 : Value) (hs : cs.size = 4 := by rfl) :
    ((((W.setCell ⟨b, 0, none⟩ x0).setCell ⟨b, 1, none⟩ x1).setCell ⟨b, 2, none⟩ x2).setCell ⟨b, 3, none⟩ x3).heap[b]? = some (.cells #[x0, x1, x2, x3] 104 (0, 0)) := by
  obtain ⟨c', h1, h2, h3⟩ := c_heap_setCells b 104 [x0, x1, x2, x3] 0 W cs h (by simp [hs])
  have : c' = #[x0, x1, x2, x3] := by
    refine Array.ext_getElem? fun i => ?_
    rw [h3]
    by_cases hi : i < 4
    · rw [if_pos (by simp; omega)]; simp
    · rw [if_neg (by simp; omega), Array.getElem?_eq_none (by omega), Array.getElem?_eq_none (by simp; omega)]
  rw [← this]
  exact h1
theorem front_end {s : ByteArray} {w w5 : World} {B q q' : Nat} {r : List UInt8} {xk xn : Int} {xs : ByteArray} {xa : Option Addr} {xc : Nat} {xl : List It} (hb : Below w.heap.size w w5) (hin : It.In w5 (B ≤ ·) (.mk xk xn xs xa xc xl)) (hB : w.heap.size < B) (hd : s.data.toList.drop q = r) (hcp : xl.length ≤ xc) :
    FrontCap w (.ok ((It.mk xk xn xs xa xc xl).pure, q', r)) (.returned (.tuple #[.agg #[.int .i64 xk, .int .i64 xn, .string xs, .slice xa xl.length xc], .string (s.extract q s.size), .int .i64 0]))
      (w5.setCells w.heap.size 0 [.int .i64 xk, .int .i64 xn, .string xs, .slice xa xl.length xc]).drew := by
  have hex : s.extract q s.size = ⟨r.toArray⟩ := Go.WideShapes.bytes_inj (by rw [extract_data, hd, List.take_of_length_le (by rw [← hd]; simp)])
  refine ⟨(below_setCells w.heap.size (Nat.le_refl _) _ 0 w5 hb).drew, .mk xk xn xs xa xc xl, rfl, by rw [hex]; rfl, ?_, hcp⟩
  refine It.In.kept (w := w5) (S := (B ≤ ·)) ⟨fun b hb _ => ⟨?_, ?_⟩, ?_⟩ _ hin
  · have : B ≤ b := hb
    omega
  · have : B ≤ b := hb
    exact c_heap_setCells_other w.heap.size b (by omega) _ 0 w5
  · exact Nat.le_of_eq (c_size_setCells w.heap.size _ 0 w5).symm
set_option maxRecDepth 100000 in
set_option maxHeartbeats 400000 in
theorem front_cap (s : ByteArray) (hsz : s.size ≤ maxLen) (w : World) :
    Calls Tryd.prog 107 #[.string s] w (FrontCap w (item 6 0 0 s.data.toList)) := by
  obtain ⟨R, hR⟩ : ∃ R, R = item 6 0 0 s.data.toList := ⟨_, rfl⟩
  rw [← hR]
  have HR := Lib.hid hR
  clear hR
  go_enter Tryd.func107, Tryd.ntmps107
  go_wp2_with fail
  have hrow : ((w.alloc (.cells zc 104)).alloc (.cells #[.string s, .int .i64 0, .int .i64 0] 161)).heap[w.heap.size]? = some (.cells zc 104 (0, 0)) := by
    rw [Lib.alloc_old _ _ _ (by simp)]; exact heap_alloc_new _ _
  have hrd : Rd s (w.heap.size + 1) 0 0 ((w.alloc (.cells zc 104)).alloc (.cells #[.string s, .int .i64 0, .int .i64 0] 161)) := by
    have := heap_alloc_new (w.alloc (.cells zc 104)) (.cells #[.string s, .int .i64 0, .int .i64 0] 161)
    rw [show (w.alloc (.cells zc 104)).heap.size = w.heap.size + 1 by simp] at this
    exact this
  have hbl : Below w.heap.size w ((w.alloc (.cells zc 104)).alloc (.cells #[.string s, .int .i64 0, .int .i64 0] 161)) := ((Below.refl _ _).alloc (Nat.le_refl _) _).alloc (by simp) _
  have hs2 : ((w.alloc (.cells zc 104)).alloc (.cells #[.string s, .int .i64 0, .int .i64 0] 161)).heap.size = w.heap.size + 2 := by simp
  generalize World.alloc (World.alloc w _) _ = w2 at *
  have H2 := Lib.hid (And.intro hrow (And.intro hrd hbl))
  clear hrow hrd hbl
  refine (item_any 6 (by decide) s (w.heap.size + 1) 0 0 w2 hsz H2.out.2.1 (by decide) (Nat.zero_le _)).mono ?_
  intro e w4 hpost
  rw [List.drop_zero, ← HR.out] at hpost
  have hrow4 : w4.heap[w.heap.size]? = some (.cells zc 104 (0, 0)) := (hpost.1.2 _ (by omega) (by omega)).trans H2.out.1
  obtain ⟨q0, q1, q2, q3, f⟩ := row_cells hrow4
  have hb4 : Below w.heap.size w w4 := H2.out.2.2.trans (hpost.1.1.mono (by omega))
  have hs4 : w2.heap.size ≤ w4.heap.size := hpost.1.size
  obtain ⟨-, hres⟩ := hpost
  cases R with
  | error x =>
    obtain ⟨hx0, rfl⟩ := hres
    have hx : (x == 0) = false := by simpa using hx0
    have HX := Lib.hid (And.intro hx0 (And.intro hb4 hrow4))
    clear hx0 hb4 hrow4
    simp only [zeroIt]
    go_upto_region 3 with fail
    have hrow5 : ((((w4.setCell ⟨w.heap.size, 0, none⟩ (.int .i64 0)).setCell ⟨w.heap.size, 1, none⟩ (.int .i64 0)).setCell ⟨w.heap.size, 2, none⟩ (.string ⟨#[]⟩)).setCell ⟨w.heap.size, 3, none⟩ (.slice none 0 0)).heap[w.heap.size]? = some (.cells zc 104 (0, 0)) := hrow_set HX.out.2.2 _ _ _ _
    have hb5 : Below w.heap.size w ((((w4.setCell ⟨w.heap.size, 0, none⟩ (.int .i64 0)).setCell ⟨w.heap.size, 1, none⟩ (.int .i64 0)).setCell ⟨w.heap.size, 2, none⟩ (.string ⟨#[]⟩)).setCell ⟨w.heap.size, 3, none⟩ (.slice none 0 0)) := below_setCells w.heap.size (Nat.le_refl _) [.int .i64 0, .int .i64 0, .string ⟨#[]⟩, .slice none 0 0] 0 _ HX.out.2.1
    generalize World.setCell (World.setCell (World.setCell (World.setCell _ _ _) _ _) _ _) _ _ = w5 at *
    clear q0 q1 q2 q3 f
    obtain ⟨q0, q1, q2, q3, f⟩ := row_cells hrow5
    have HX5 := Lib.hid hb5
    clear hb5 hrow5
    go_wp2_with fail
    refine bodyPost_ret (v := .tuple #[zeroIt, .string ⟨#[]⟩, .int .i64 x]) (by simp [results, Tryd.results107, go_sem, q0, q1, q2, q3, zeroIt]) rfl ?_
    exact ⟨below_setCells w.heap.size (Nat.le_refl _) [.int .i64 0, .int .i64 0, .string ⟨#[]⟩, .slice none 0 0] 0 _ HX5.out, HX.out.1, rfl⟩
  | ok y =>
    obtain ⟨x, q, r⟩ := y
    obtain ⟨it, rfl, rfl, ⟨hIn, hcp⟩, hRd, hq, hdr⟩ := hres
    have c1 := hRd.c1
    have hqi : (q : Int) ≤ s.size := by omega
    have hq0 : (0 : Int) ≤ (q : Int) := by omega
    have HX := Lib.hid (And.intro hIn (And.intro hRd (And.intro hdr (And.intro hb4 hrow4))))
    clear hIn hRd hdr hb4 hrow4
    have HCP := Lib.hid hcp
    clear hcp
    obtain ⟨xk, xn, xs', xa, xc, xl⟩ := it
    simp only [It.val, It.cells, It.k, It.n, It.s, It.a, It.cap, It.l]
    go_wp2_with fail
    obtain ⟨L, hL⟩ : ∃ L : List Value, L = [.int .i64 xk, .int .i64 xn, .string xs', .slice xa xl.length xc] := ⟨_, rfl⟩
    have hW5 : ((((w4.setCell ⟨w.heap.size, 0, none⟩ (.int .i64 xk)).setCell ⟨w.heap.size, 1, none⟩ (.int .i64 xn)).setCell ⟨w.heap.size, 2, none⟩ (.string xs')).setCell ⟨w.heap.size, 3, none⟩ (.slice xa xl.length xc)) = w4.setCells w.heap.size 0 L := by rw [hL]; rfl
    have hrow5 : (w4.setCells w.heap.size 0 L).heap[w.heap.size]? = some (.cells #[.int .i64 xk, .int .i64 xn, .string xs', .slice xa xl.length xc] 104 (0, 0)) := by rw [hL]; exact hrow_set HX.out.2.2.2.2 _ _ _ _
    rw [hW5]
    have hb5 : Below w.heap.size w (w4.setCells w.heap.size 0 L) := below_setCells w.heap.size (Nat.le_refl _) _ 0 _ HX.out.2.2.2.1
    have hin5 : It.In (w4.setCells w.heap.size 0 L) (w2.heap.size ≤ ·) (.mk xk xn xs' xa xc xl) := It.In.kept ⟨fun b hb _ => ⟨hb, c_heap_setCells_other _ _ (by have : w2.heap.size ≤ b := hb; omega) _ _ _⟩, by rw [c_size_setCells]; exact Nat.le_refl _⟩ _ HX.out.1
    have c5 : (w4.setCells w.heap.size 0 L).cell? ⟨w.heap.size + 1, 1, none⟩ = some (.int .i64 q) := by
      rw [World.cell?_of_block (w := w4) (c_heap_setCells_other _ _ (by show w.heap.size + 1 ≠ w.heap.size; omega) _ _ _)]; exact c1
    generalize World.setCells _ _ _ _ = w5 at *
    clear q0 q1 q2 q3 f c1 hW5 hL
    have q0 : w5.cell? ⟨w.heap.size, 0, none⟩ = some (.int .i64 xk) := by rw [Lib.cell_of_heap hrow5]; rfl
    have q1 : w5.cell? ⟨w.heap.size, 1, none⟩ = some (.int .i64 xn) := by rw [Lib.cell_of_heap hrow5]; rfl
    have q2 : w5.cell? ⟨w.heap.size, 2, none⟩ = some (.string xs') := by rw [Lib.cell_of_heap hrow5]; rfl
    have q3 : w5.cell? ⟨w.heap.size, 3, none⟩ = some (.slice xa xl.length xc) := by rw [Lib.cell_of_heap hrow5]; rfl
    have f : ∀ j, w5.frozen? ⟨w.heap.size, j, none⟩ = false := fun j => Lib.frozen_of_heap hrow5 j
    have HY := Lib.hid (And.intro hb5 hin5)
    clear hb5 hin5 hrow5
    go_region_with (fail)
    all_goals
      go_wp2_with fail
      refine bodyPost_ret (v := .tuple #[.agg #[.int .i64 xk, .int .i64 xn, .string xs', .slice xa xl.length xc], .string (s.extract q s.size), .int .i64 0]) (by simp [results, Tryd.results107, go_sem, q0, q1, q2, q3]) rfl ?_
      exact front_end HY.out.1 HY.out.2 (by omega) HX.out.2.2.1 HCP.out
theorem front_any (s : ByteArray) (hsz : s.size ≤ maxLen) (w : World) :
    Calls Tryd.prog 107 #[.string s] w (FrontPost w (item 6 0 0 s.data.toList)) :=
  (front_cap s hsz w).mono fun e w' h => by
    refine ⟨h.1, ?_⟩
    have h2 := h.2
    cases hR : item 6 0 0 s.data.toList with
    | error x => rw [hR] at h2; exact h2
    | ok y =>
      obtain ⟨x, q, r⟩ := y
      rw [hR] at h2
      obtain ⟨it, k1, k2, k3, -⟩ := h2
      exact ⟨it, k1, k2, k3⟩
/-- What Decode makes of it. -/
def decR (l : List UInt8) : Except Int Pt :=
  match item 6 0 0 l with
  | .error x => .error x
  | .ok (x, _, r) => if r = [] then .ok x else .error 3
def DecPost (w : World) (R : Except Int Pt) (e : Ending) (w' : World) : Prop :=
  Below w.heap.size w w' ∧ match R with
    | .error x => x ≠ 0 ∧ e = .returned (.tuple #[zeroIt, .int .i64 x])
    | .ok x => ∃ it : It, it.pure = x ∧ e = .returned (.tuple #[it.val, .int .i64 0]) ∧ it.In w' (w.heap.size ≤ ·)
def DecCap (w : World) (R : Except Int Pt) (e : Ending) (w' : World) : Prop :=
  Below w.heap.size w w' ∧ match R with
    | .error x => x ≠ 0 ∧ e = .returned (.tuple #[zeroIt, .int .i64 x])
    | .ok x => ∃ it : It, it.pure = x ∧ e = .returned (.tuple #[it.val, .int .i64 0]) ∧ it.In w' (w.heap.size ≤ ·) ∧ it.l.length ≤ it.cap
set_option maxRecDepth 100000 in
set_option maxHeartbeats 400000 in
theorem decode_cap (s : ByteArray) (hsz : s.size ≤ maxLen) (w : World) :
    Calls Tryd.prog 77 #[.string s] w (DecCap w (decR s.data.toList)) := by
  obtain ⟨R, hR⟩ : ∃ R, R = decR s.data.toList := ⟨_, rfl⟩
  rw [← hR]
  have HR := Lib.hid hR
  clear hR
  go_enter Tryd.func77, Tryd.ntmps77
  go_wp2_with fail
  have hrow : (w.alloc (.cells zc 104)).heap[w.heap.size]? = some (.cells zc 104 (0, 0)) := heap_alloc_new _ _
  have hbl : Below w.heap.size w (w.alloc (.cells zc 104)) := (Below.refl _ _).alloc (Nat.le_refl _) _
  have hs1 : (w.alloc (.cells zc 104)).heap.size = w.heap.size + 1 := by simp
  generalize World.alloc w _ = w1 at *
  refine (front_cap s hsz w1).mono ?_
  rintro e w2 ⟨hb2, hres⟩
  have hrow2 : w2.heap[w.heap.size]? = some (.cells zc 104 (0, 0)) := (hb2.block _ (by omega)).trans hrow
  obtain ⟨q0, q1, q2, q3, f⟩ := row_cells hrow2
  have hb : Below w.heap.size w w2 := hbl.trans (hb2.mono (by omega))
  have hs2 : w.heap.size < w2.heap.size := by have := hb2.size; omega
  cases hI : item 6 0 0 s.data.toList with
  | error x =>
    rw [hI] at hres
    obtain ⟨hx0, rfl⟩ := hres
    have hx : (x == 0) = false := by simpa using hx0
    have HX := Lib.hid (And.intro hI (And.intro hx0 hb))
    clear hI hx0 hb hb2 hrow2 hrow hbl
    simp only [zeroIt]
    go_wp2_with fail
    refine bodyPost_ret (v := .tuple #[zeroIt, .int .i64 x]) (by simp [results, Tryd.results77, go_sem, q0, q1, q2, q3, zeroIt, hs2]) rfl ?_
    have hw := HX.out.2.2
    refine ⟨(below_setCells w.heap.size (Nat.le_refl _) [.int .i64 0, .int .i64 0, .string ⟨#[]⟩, .slice none 0 0] 0 w2 hw).alloc (by rw [c_size_setCells]; exact hw.size) _, ?_⟩
    rw [HR.out, decR, HX.out.1]
    exact ⟨HX.out.2.1, rfl⟩
  | ok y =>
    obtain ⟨x, q, r⟩ := y
    rw [hI] at hres
    obtain ⟨it, rfl, rfl, hIn, hcp⟩ := hres
    have HX := Lib.hid (And.intro hI (And.intro hIn hb))
    have HCP := Lib.hid hcp
    clear hI hIn hb hb2 hrow2 hrow hbl hcp
    obtain ⟨xk, xn, xs', xa, xc, xl⟩ := it
    simp only [It.val, It.cells, It.k, It.n, It.s, It.a, It.cap, It.l]
    by_cases hr : r = []
    · subst hr
      go_wp2_with fail
      refine bodyPost_ret (v := .tuple #[.agg #[.int .i64 xk, .int .i64 xn, .string xs', .slice xa xl.length xc], .int .i64 0]) (by simp [results, Tryd.results77, go_sem, q0, q1, q2, q3, hs2]) rfl ?_
      have hw := HX.out.2.2
      refine ⟨(below_setCells w.heap.size (Nat.le_refl _) [.int .i64 xk, .int .i64 xn, .string xs', .slice xa xl.length xc] 0 w2 hw).alloc (by rw [c_size_setCells]; exact hw.size) _, ?_⟩
      rw [HR.out, decR, HX.out.1]
      refine ⟨.mk xk xn xs' xa xc xl, rfl, rfl, ?_, HCP.out⟩
      refine It.In.kept (w := w2) (S := (w1.heap.size ≤ ·)) ⟨fun b hb hlt => ⟨?_, ?_⟩, ?_⟩ _ HX.out.2.1
      · have : w1.heap.size ≤ b := hb
        omega
      · have : w1.heap.size ≤ b := hb
        have h1 := c_heap_setCells_other w.heap.size b (by omega) [.int .i64 xk, .int .i64 xn, .string xs', .slice xa xl.length xc] 0 w2
        exact (Lib.alloc_old (w2.setCells w.heap.size 0 [.int .i64 xk, .int .i64 xn, .string xs', .slice xa xl.length xc]) _ b (by rw [c_size_setCells]; exact hlt)).trans h1
      · have := c_size_setCells w.heap.size [.int .i64 xk, .int .i64 xn, .string xs', .slice xa xl.length xc] 0 w2
        exact Nat.le_trans (Nat.le_of_eq this.symm) (((Below.refl 0 (w2.setCells w.heap.size 0 [.int .i64 xk, .int .i64 xn, .string xs', .slice xa xl.length xc])).alloc (Nat.zero_le _) _).size)
    · have hre : r.isEmpty = false := by simpa using hr
      go_wp2_with fail
      refine bodyPost_ret (v := .tuple #[zeroIt, .int .i64 3]) (by simp [results, Tryd.results77, go_sem, q0, q1, q2, q3, zeroIt, hs2]) rfl ?_
      have hw := HX.out.2.2
      refine ⟨(below_setCells w.heap.size (Nat.le_refl _) [.int .i64 0, .int .i64 0, .string ⟨#[]⟩, .slice none 0 0] 0 w2 hw).alloc (by rw [c_size_setCells]; exact hw.size) _, ?_⟩
      rw [HR.out, decR, HX.out.1]
      simp only
      rw [if_neg hr]
      exact ⟨by decide, rfl⟩
theorem decode_any (s : ByteArray) (hsz : s.size ≤ maxLen) (w : World) :
    Calls Tryd.prog 77 #[.string s] w (DecPost w (decR s.data.toList)) :=
  (decode_cap s hsz w).mono fun e w' h => by
    refine ⟨h.1, ?_⟩
    have h2 := h.2
    cases hR : decR s.data.toList with
    | error x => rw [hR] at h2; exact h2
    | ok y =>
      rw [hR] at h2
      obtain ⟨it, k1, k2, k3, -⟩ := h2
      exact ⟨it, k1, k2, k3⟩
end Go.Proofs.YtgoimggfpagojaaDoor
