/- The reader: text. -/
import Derived.Test.YtefpfedpgedloaaGreatDoorCCount
import Derived.StillTailTactics
namespace Go.Proofs.YtefpfedpgedloaaGreatDoor
open Go.RowKit
open Cn

def zeroIt : Value := .agg #[.int .i64 0, .int .i64 0, .string ⟨#[]⟩, .slice none 0 0]
/-- How a reading of an item ends. -/
def ItPost (s : ByteArray) (g ow : Nat) (w : World) (R : Except Int (Pt × Nat × List UInt8)) (e : Ending) (w' : World) : Prop :=
  RdKept g w w' ∧ match R with
    | .error x => x ≠ 0 ∧ e = .returned (.tuple #[zeroIt, .int .i64 x])
    | .ok (x, q, r) => ∃ it : It, it.pure = x ∧ e = .returned (.tuple #[it.val, .int .i64 0]) ∧ it.In w' (w.heap.size ≤ ·) ∧ Rd s g q ow w' ∧ q ≤ s.size ∧ s.data.toList.drop q = r
def textR (p ow : Nat) (l : List UInt8) : Except Int (Pt × Nat × List UInt8) :=
  match count 65536 p ow l with
  | .error x => .error x
  | .ok (n, q, r) => if r.length < n then .error 7 else .ok (.mk 2 0 ⟨(r.take n).toArray⟩ [], q + n, r.drop n)
theorem count_rest {most p ow n q : Nat} {s : ByteArray} {r : List UInt8} (h : count most p ow (s.data.toList.drop p) = .ok (n, q, r)) : s.data.toList.drop q = r ∧ q + n + ow ≤ 65536 ∧ n ≤ most := by
  obtain ⟨h1, h2, h3, h4, h5⟩ := count_ok h
  refine ⟨?_, h5, h2⟩
  rw [h4, ← List.drop_drop, h1, List.drop_append_of_le_length (Nat.le_refl _), List.drop_of_length_le (Nat.le_refl _)]; rfl
theorem count_err {most p ow : Nat} {l : List UInt8} {x : Int} (h : count most p ow l = .error x) : x ≠ 0 := by
  cases l with
  | nil => simp [count] at h; omega
  | cons c l =>
    rw [count] at h
    split at h
    · simp at h; omega
    · split at h
      · rename_i e hd
        simp at h
        subst h
        exact digits_err _ _ _ _ _ hd
      · split at h
        · simp at h; omega
        · simp at h
theorem RdKept.of_below {g : Nat} {a b : World} (hg : g < a.heap.size) (h : Below a.heap.size a b) : RdKept g a b := ⟨h.mono (by omega), fun i hi _ => h.block i hi⟩
theorem c_size_setCells' (b : Nat) (vs : List Value) (o : Nat) (w : World) : (w.setCells b o vs).heap.size = w.heap.size := c_size_setCells b vs o w
theorem RdKept.setCells {g : Nat} {w w' : World} (h : RdKept g w w') (b : Nat) (hb : w.heap.size ≤ b) (hg : g < b) (vs : List Value) (o : Nat) : RdKept g w (w'.setCells b o vs) :=
  ⟨below_setCells b (by omega) _ _ _ h.1, fun i hi hne => (c_heap_setCells_other b i (by omega) vs o w').trans (h.2 i hi hne)⟩
theorem Rd.setCells {s : ByteArray} {g p ow : Nat} {w : World} (h : Rd s g p ow w) (b : Nat) (hb : g < b) (vs : List Value) (o : Nat) : Rd s g p ow (w.setCells b o vs) :=
  (c_heap_setCells_other b g (by omega) vs o w).trans h
theorem extract_data (s : ByteArray) (a b : Nat) : (s.extract a b).data.toList = (s.data.toList.drop a).take (b - a) := by
  rw [ByteArray.data_extract, Array.toList_extract, List.extract_eq_take_drop]
set_option maxRecDepth 100000 in
set_option maxHeartbeats 400000 in
theorem rdText_any (s : ByteArray) (hsz : s.size ≤ maxLen) (g p ow : Nat) (w : World) (h : Rd s g p ow w) (hp : p ≤ 70000) (hps : p ≤ s.size) (ho : ow ≤ 70000) :
    Calls Tryz.prog 85 #[.pointer (some ⟨g, 0, none⟩)] w (ItPost s g ow w (textR p ow (s.data.toList.drop p))) := by
  obtain ⟨R, hR⟩ : ∃ R, R = textR p ow (s.data.toList.drop p) := ⟨_, rfl⟩
  rw [← hR]
  have hglt := h.lt
  have hcnt := fun w' (hr : Rd s g p ow w') => count_any s g p ow 65536 w' hr hp hps ho
  have HR := Lib.hid (And.intro hR (And.intro h hcnt))
  clear hR h hcnt
  go_enter Tryz.func85, Tryz.ntmps85
  go_wp2_with fail
  have hrow1 : (w.alloc (.cells #[.int .i64 0, .int .i64 0, .string ⟨#[]⟩, .slice none 0 0] 60)).heap[w.heap.size]? = some (.cells #[.int .i64 0, .int .i64 0, .string ⟨#[]⟩, .slice none 0 0] 60 (0, 0)) := heap_alloc_new _ _
  have hrd1 : Rd s g p ow (w.alloc (.cells #[.int .i64 0, .int .i64 0, .string ⟨#[]⟩, .slice none 0 0] 60)) := (Lib.alloc_old _ _ _ hglt).trans HR.out.2.1
  have hk1 : RdKept g w (w.alloc (.cells #[.int .i64 0, .int .i64 0, .string ⟨#[]⟩, .slice none 0 0] 60)) := (RdKept.refl g w).alloc hglt _
  have hs1 : w.heap.size < (w.alloc (.cells #[.int .i64 0, .int .i64 0, .string ⟨#[]⟩, .slice none 0 0] 60)).heap.size := by simp
  generalize World.alloc w _ = w1 at *
  have H1 := Lib.hid (And.intro hrow1 (And.intro hrd1 hk1))
  clear hrow1 hrd1 hk1
  refine (HR.out.2.2 _ H1.out.2.1).mono ?_
  rintro e w2 ⟨hk2, hres⟩
  have hrow2 : w2.heap[w.heap.size]? = some (.cells #[.int .i64 0, .int .i64 0, .string ⟨#[]⟩, .slice none 0 0] 60 (0, 0)) := (hk2.2 _ hs1 (by omega)).trans H1.out.1
  have q0 : w2.cell? ⟨w.heap.size, 0, none⟩ = some (.int .i64 0) := by rw [Lib.cell_of_heap hrow2]; rfl
  have q1 : w2.cell? ⟨w.heap.size, 1, none⟩ = some (.int .i64 0) := by rw [Lib.cell_of_heap hrow2]; rfl
  have q2 : w2.cell? ⟨w.heap.size, 2, none⟩ = some (.string ⟨#[]⟩) := by rw [Lib.cell_of_heap hrow2]; rfl
  have q3 : w2.cell? ⟨w.heap.size, 3, none⟩ = some (.slice none 0 0) := by rw [Lib.cell_of_heap hrow2]; rfl
  have f : ∀ j, w2.frozen? ⟨w.heap.size, j, none⟩ = false := fun j => Lib.frozen_of_heap hrow2 j
  have H2 := Lib.hid (And.intro (H1.out.2.2.trans hk2) hrow2)
  have hs2 : w1.heap.size ≤ w2.heap.size := hk2.size
  clear hk2 hrow2
  cases hd : count 65536 p ow (s.data.toList.drop p) with
  | error x =>
    rw [countAt, hd] at hres
    obtain ⟨hx0, rfl⟩ := hres
    have hx : (x == 0) = false := by simpa using hx0
    have HX := Lib.hid (And.intro hd hx0)
    clear hd hx0
    go_wp2_with fail
    refine bodyPost_ret (v := .tuple #[zeroIt, .int .i64 x]) (by simp [results, Tryz.results85, go_sem, q0, q1, q2, q3, zeroIt]) rfl ?_
    refine ⟨H2.out.1.setCells w.heap.size (Nat.le_refl _) hglt [.int .i64 0, .int .i64 0, .string ⟨#[]⟩, .slice none 0 0] 0, ?_⟩
    rw [HR.out.1, textR, HX.out.1]
    exact ⟨HX.out.2, rfl⟩
  | ok nr =>
    obtain ⟨n, q, r⟩ := nr
    rw [countAt, hd] at hres
    obtain ⟨rfl, hrd, hq⟩ := hres
    obtain ⟨hdr, hroom, hn⟩ := count_rest hd
    have hrl : r.length = s.size - q := by rw [← hdr]; simp
    have c0 := hrd.c0
    have c1 := hrd.c1
    have hni : (n : Int) ≤ 65536 := by omega
    have hqi : (q : Int) ≤ s.size := by omega
    have HX := Lib.hid (And.intro hd (And.intro hrd (And.intro hdr hrl)))
    unfold maxLen at hsz
    have e1 : IntKind.i64.wrap ((s.size : Int) - q) = (s.size : Int) - q := IntWalk.i64_in _ (by omega)
    clear hd hrd hdr hrl
    by_cases hshort : s.size - q < n
    · have hsi : (s.size : Int) - q < n := by omega
      have hsd : decide ((s.size : Int) - q < n) = true := decide_eq_true hsi
      go_wp2_with fail
      go_quiet (fail)
      go_wp2_with fail
      refine bodyPost_ret (v := .tuple #[zeroIt, .int .i64 7]) (by simp [results, Tryz.results85, go_sem, q0, q1, q2, q3, zeroIt]) rfl ?_
      refine ⟨(H2.out.1.drewN nq).setCells w.heap.size (Nat.le_refl _) hglt [.int .i64 0, .int .i64 0, .string ⟨#[]⟩, .slice none 0 0] 0, ?_⟩
      rw [HR.out.1, textR, HX.out.1]
      simp only
      rw [if_pos (by have := HX.out.2.2.2; omega)]
      exact ⟨by decide, rfl⟩
    · have hsi : (n : Int) ≤ (s.size : Int) - q := by omega
      have hsd : decide ((s.size : Int) - q < n) = false := decide_eq_false (by omega)
      have f1 := HX.out.2.1.f 1
      have R1 : ∀ W, Rd s g q ow W → Rd s g (q + n) ow (W.setCell ⟨g, 1, none⟩ (.int .i64 ((q : Int) + n))) := fun W h => h.at_set (q + n)
      have HR1 := Lib.hid R1
      clear R1
      go_wp2_with fail
      go_quiet (fail)
      go_wp2_with fail
      have R2 := HR1.out _ (HX.out.2.1.drewN nq)
      have K2 := (H2.out.1.drewN nq).setCell 1 (.int .i64 ((q : Int) + n))
      have hrow3 : ((w2.drewN nq).setCell ⟨g, 1, none⟩ (.int .i64 ((q : Int) + n))).heap[w.heap.size]? = some (.cells #[.int .i64 0, .int .i64 0, .string ⟨#[]⟩, .slice none 0 0] 60 (0, 0)) := by
        rw [heap_setCell_other _ _ _ _ (by show w.heap.size ≠ g; omega), heap_drewN]; exact H2.out.2
      have hs3 : w.heap.size < ((w2.drewN nq).setCell ⟨g, 1, none⟩ (.int .i64 ((q : Int) + n))).heap.size := lt_of_heap hrow3
      generalize World.setCell _ _ _ = W1 at *
      clear c0 c1 f1 q0 q1 q2 q3 f
      have d0 := R2.c0
      have d1 : W1.cell? ⟨g, 1, none⟩ = some (.int .i64 ((q : Int) + n)) := R2.c1
      have HW := Lib.hid (And.intro R2 (And.intro K2 hrow3))
      clear R2 K2 hrow3
      have e2 : IntKind.i64.wrap (q : Int) = (q : Int) := IntWalk.i64_in _ (by omega)
      have hq0 : (0 : Int) ≤ (q : Int) := by omega
      have hle : (q : Int) ≤ (q : Int) + n := by omega
      have hle2 : (q : Int) + n ≤ s.size := by omega
      have htn : ((q : Int) + n).toNat = q + n := by omega
      go_still_tail 15, (by kernel_rfl)
      change wpList _ _ _ _ _ W1.drew
      go_wp2_with fail
      refine (text_any _ _).mono ?_
      rintro e w4 ⟨rfl, hb4⟩
      have hrow4 : w4.heap[w.heap.size]? = some (.cells #[.int .i64 0, .int .i64 0, .string ⟨#[]⟩, .slice none 0 0] 60 (0, 0)) := (hb4.block _ (by simpa using hs3)).trans HW.out.2.2
      have q0 : w4.cell? ⟨w.heap.size, 0, none⟩ = some (.int .i64 0) := by rw [Lib.cell_of_heap hrow4]; rfl
      have q1 : w4.cell? ⟨w.heap.size, 1, none⟩ = some (.int .i64 0) := by rw [Lib.cell_of_heap hrow4]; rfl
      have q2 : w4.cell? ⟨w.heap.size, 2, none⟩ = some (.string ⟨#[]⟩) := by rw [Lib.cell_of_heap hrow4]; rfl
      have q3 : w4.cell? ⟨w.heap.size, 3, none⟩ = some (.slice none 0 0) := by rw [Lib.cell_of_heap hrow4]; rfl
      have f : ∀ j, w4.frozen? ⟨w.heap.size, j, none⟩ = false := fun j => Lib.frozen_of_heap hrow4 j
      have hk4 : RdKept g w w4 := HW.out.2.1.drew.trans (RdKept.of_below (g := g) (a := W1.drew) (by simp; omega) hb4)
      have hr4 : Rd s g (q + n) ow w4 := (hb4.block g (by simp; omega)).trans HW.out.1
      have H4 := Lib.hid (And.intro hk4 hr4)
      clear hrow4 hb4 hk4 hr4
      go_wp2_with fail
      refine bodyPost_ret (v := .tuple #[.agg #[.int .i64 2, .int .i64 0, .string (s.extract q (q + n)), .slice none 0 0], .int .i64 0]) (by simp [results, Tryz.results85, go_sem, q0, q1, q2, q3]) rfl ?_
      refine ⟨H4.out.1.setCells w.heap.size (Nat.le_refl _) hglt [.int .i64 2, .int .i64 0, .string (s.extract q (q + n)), .slice none 0 0] 0, ?_⟩
      rw [HR.out.1, textR, HX.out.1]
      simp only
      have hrl := HX.out.2.2.2
      rw [if_neg (by omega)]
      have hex : s.extract q (q + n) = ⟨(r.take n).toArray⟩ := Go.WideShapes.bytes_inj (by rw [extract_data, HX.out.2.2.1, Nat.add_sub_cancel_left])
      refine ⟨.mk 2 0 (s.extract q (q + n)) none 0 [], by rw [hex]; rfl, rfl, ?_, H4.out.2.setCells w.heap.size hglt [.int .i64 2, .int .i64 0, .string (s.extract q (q + n)), .slice none 0 0] 0, by omega, ?_⟩
      · rw [It.in_eq]
        refine ⟨?_, ⟨Nat.zero_le _, fun h => absurd rfl h⟩, trivial⟩
        show (s.extract q (q + n)).size ≤ maxLen
        rw [hex, size_toArray, List.length_take]
        unfold maxLen; omega
      · rw [← List.drop_drop, HX.out.2.2.1]
end Go.Proofs.YtefpfedpgedloaaGreatDoor
