/- Merged by program: The reader: count, text. | The reader: text. | The reader: list, item. | The reader: list. | The reader: item. -/
import Derived.Test.YtgoimggfpagojaaDoorMC3
import Derived.Test.YtgoimggfpagojaaDoorMC1
import Derived.StillTailTactics
import Derived.Deep.AppendLies
namespace Go.Proofs.YtgoimggfpagojaaDoor
open Go.RowKit
open Cn

def countAt (most p ow : Nat) (l : List UInt8) : Except Int (Nat × Nat) :=
  match count most p ow l with
  | .error x => .error x
  | .ok (n, q, _) => .ok (n, q)
theorem digitsAt_of {k p : Nat} {s : ByteArray} {l : List UInt8} (hl : s.data.toList.drop p = l) (hp : p ≤ s.size) : digitsAt k true 0 l s.size = (match digits k true 0 l with | .error x => .error x | .ok (n, _) => .ok (n, p + k)) := by
  unfold digitsAt
  cases h : digits k true 0 l with
  | error x => rfl
  | ok nr =>
    obtain ⟨n, r⟩ := nr
    obtain ⟨h1, -⟩ := digits_ok _ _ _ _ _ _ h
    have := congrArg List.length hl
    simp at this
    simp only
    congr 2
    omega
theorem digits7 {k : Nat} {l : List UInt8} {n : Nat} {r : List UInt8} (hk : k ≤ 7) (h : digits k true 0 l = .ok (n, r)) : n < 72057594037927936 := (digits_first hk h).2.1

set_option maxRecDepth 100000 in
set_option maxHeartbeats 400000 in
theorem count_any (s : ByteArray) (g p ow most : Nat) (w : World) (h : Rd s g p ow w) (hp : p ≤ 70000) (hps : p ≤ s.size) (ho : ow ≤ 70000) :
    Calls Tryd.prog 147 #[.pointer (some ⟨g, 0, none⟩), .int .i64 most] w (NumPost s g ow w (countAt most p ow (s.data.toList.drop p))) := by
  obtain ⟨R, hR⟩ : ∃ R, R = countAt most p ow (s.data.toList.drop p) := ⟨_, rfl⟩
  rw [← hR]
  have HR := Lib.hid (And.intro hR h)
  clear hR h
  cases hl : s.data.toList.drop p with
  | nil =>
    have HN := Lib.hid hl
    clear hl
    go_enter Tryd.func147, Tryd.ntmps147
    go_wp2_with fail
    refine ((next_at s g p ow _ HR.out.2 (by omega) hps).1 HN.out).mono ?_
    rintro e w2 ⟨rfl, hb1, hb2⟩
    have HB := Lib.hid (And.intro hb1 hb2)
    clear hb1 hb2
    go_wp2_with fail
    go_ret2
    refine ⟨HB.out.2, ?_⟩
    rw [HR.out.1, HN.out]
    exact ⟨by decide, rfl⟩
  | cons c r =>
    have hc255 : (c.toNat : Int) ≤ 255 := by have := byte_lt c; omega
    have hps1 : p + 1 ≤ s.size := by
      have := congrArg List.length hl
      simp at this; omega
    have hdr : s.data.toList.drop (p + 1) = r := by rw [← List.drop_drop, hl]; rfl
    have HN := Lib.hid (And.intro hl hdr)
    clear hl hdr
    by_cases hc7 : 7 < c.toNat
    · have hci : (7 : Int) < c.toNat := by omega
      go_enter Tryd.func147, Tryd.ntmps147
      go_wp2_with fail
      refine ((next_at s g p ow _ HR.out.2 (by omega) hps).2 c r HN.out.1).mono ?_
      rintro e w2 ⟨rfl, hb1, hb2⟩
      have HB := Lib.hid (And.intro hb1 hb2)
      clear hb1 hb2
      go_wp2_with fail
      go_ret2
      refine ⟨HB.out.2, ?_⟩
      rw [HR.out.1, HN.out.1, countAt, count, if_pos hc7]
      exact ⟨by decide, rfl⟩
    · have hci : (c.toNat : Int) ≤ 7 := by omega
      go_enter Tryd.func147, Tryd.ntmps147
      go_wp2_with fail
      refine ((next_at s g p ow _ HR.out.2 (by omega) hps).2 c r HN.out.1).mono ?_
      rintro e w2 ⟨rfl, hb1, hb2⟩
      have HB := Lib.hid (And.intro hb1 hb2)
      clear hb1 hb2
      go_wp2_with fail
      refine (number_any s g (p + 1) ow c.toNat _ HB.out.1 (by omega) hps1 (by omega)).mono ?_
      rw [HN.out.2, digitsAt_of HN.out.2 hps1]
      rintro e w3 ⟨hk3, hres⟩
      cases hd : digits c.toNat true 0 r with
      | error x =>
        rw [hd] at hres
        obtain ⟨hx0, rfl⟩ := hres
        have hx : (x == 0) = false := by simpa using hx0
        have HX := Lib.hid (And.intro hd (And.intro hk3 hx0))
        clear hd hk3 hx0
        go_wp2_with fail
        go_ret2
        refine ⟨HB.out.2.trans HX.out.2.1, ?_⟩
        rw [HR.out.1, HN.out.1, countAt, count, if_neg hc7, HX.out.1]
        exact ⟨HX.out.2.2, rfl⟩
      | ok nr =>
        obtain ⟨n, r'⟩ := nr
        rw [hd] at hres
        obtain ⟨rfl, hrd, hq⟩ := hres
        have hn7 := digits7 (by omega) hd
        have HX := Lib.hid (And.intro hd (And.intro hk3 (And.intro hrd hq)))
        clear hd hk3 hrd hq
        have hRR : R = if most < n ∨ 65536 < p + 1 + c.toNat + n + ow then .error 3 else .ok (n, p + 1 + c.toNat) := by
          rw [HR.out.1, HN.out.1, countAt, count, if_neg hc7, HX.out.1]
          by_cases hx : most < n ∨ 65536 < p + 1 + c.toNat + n + ow
          · simp only [if_pos hx]
          · simp only [if_neg hx]
        have HRR := Lib.hid hRR
        clear hRR
        by_cases hmost : most < n
        · have hmi : (most : Int) < n := by omega
          go_wp2_with fail
          go_ret2
          refine ⟨HB.out.2.trans HX.out.2.1, ?_⟩
          rw [HRR.out, if_pos (.inl hmost)]
          exact ⟨by decide, rfl⟩
        · have hmi : (n : Int) ≤ most := by omega
          have hmd : decide ((most : Int) < n) = false := decide_eq_false (by omega)
          go_wp2_with fail
          refine (room_any s g (p + 1 + c.toNat) ow n _ HX.out.2.2.1 (by omega) (by omega) (by omega)).mono ?_
          rintro e w4 ⟨rfl, hb1, hb2⟩
          have HB4 := Lib.hid (And.intro hb1 hb2)
          clear hb1 hb2
          by_cases hroom : p + 1 + c.toNat + n + ow ≤ 65536
          · have hrt : decide (p + 1 + c.toNat + n + ow ≤ 65536) = true := decide_eq_true hroom
            rw [hrt]
            have HRT := Lib.hid hroom
            clear hrt hroom
            go_wp2_with fail
            go_ret2
            refine ⟨(HB.out.2.trans HX.out.2.1).trans HB4.out.2, ?_⟩
            have h9 := HRT.out
            rw [HRR.out, if_neg (by omega)]
            exact ⟨rfl, HB4.out.1, HX.out.2.2.2⟩
          · have hrt : decide (p + 1 + c.toNat + n + ow ≤ 65536) = false := decide_eq_false hroom
            rw [hrt]
            have HRT := Lib.hid hroom
            clear hrt hroom
            go_wp2_with fail
            go_ret2
            refine ⟨(HB.out.2.trans HX.out.2.1).trans HB4.out.2, ?_⟩
            have h9 := HRT.out
            rw [HRR.out, if_pos (by omega)]
            exact ⟨by decide, rfl⟩
end Go.Proofs.YtgoimggfpagojaaDoor
namespace Go.Proofs.YtgoimggfpagojaaDoor
open Go.RowKit
open Cn

def zeroIt : Value := .agg #[.int .i64 0, .int .i64 0, .string ⟨#[]⟩, .slice none 0 0]
/-- How a reading of an item ends. -/
def ItPost (s : ByteArray) (g ow : Nat) (w : World) (R : Except Int (Pt × Nat × List UInt8)) (e : Ending) (w' : World) : Prop :=
  RdKept g w w' ∧ match R with
    | .error x => x ≠ 0 ∧ e = .returned (.tuple #[zeroIt, .int .i64 x])
    | .ok (x, q, r) => ∃ it : It, it.pure = x ∧ e = .returned (.tuple #[it.val, .int .i64 0]) ∧ (it.In w' (w.heap.size ≤ ·) ∧ it.l.length ≤ it.cap) ∧ Rd s g q ow w' ∧ q ≤ s.size ∧ s.data.toList.drop q = r
def textR (p ow : Nat) (l : List UInt8) : Except Int (Pt × Nat × List UInt8) :=
  match count 65536 p ow l with
  | .error x => .error x
  | .ok (n, q, r) => if r.length < n then .error 7 else .ok (.mk 2 0 ⟨(r.take n).toArray⟩ [], q + n, r.drop n)
theorem count_rest {most p ow n q : Nat} {s : ByteArray} {r : List UInt8} (h : count most p ow (s.data.toList.drop p) = .ok (n, q, r)) : s.data.toList.drop q = r ∧ q + n + ow ≤ 65536 ∧ n ≤ most := by
  obtain ⟨h1, h2, h3, h4, h5⟩ := count_ok h
  refine ⟨?_, h5, h2⟩
  rw [h4, ← List.drop_drop, h1, List.drop_append_of_le_length (Nat.le_refl _), List.drop_of_length_le (Nat.le_refl _)]; rfl
theorem count_err {most p ow : Nat} {l : List UInt8} {x : Int} (h : count most p ow l = .error x) : x ≠ 0 := by
  cases l with
  | nil => simp [count] at h; omega
  | cons c l =>
    rw [count] at h
    split at h
    · simp at h; omega
    · split at h
      · rename_i e hd
        simp at h
        subst h
        exact digits_err _ _ _ _ _ hd
      · split at h
        · simp at h; omega
        · simp at h
theorem RdKept.of_below {g : Nat} {a b : World} (hg : g < a.heap.size) (h : Below a.heap.size a b) : RdKept g a b := ⟨h.mono (by omega), fun i hi _ => h.block i hi⟩
theorem c_size_setCells' (b : Nat) (vs : List Value) (o : Nat) (w : World) : (w.setCells b o vs).heap.size = w.heap.size := c_size_setCells b vs o w
theorem RdKept.setCells {g : Nat} {w w' : World} (h : RdKept g w w') (b : Nat) (hb : w.heap.size ≤ b) (hg : g < b) (vs : List Value) (o : Nat) : RdKept g w (w'.setCells b o vs) :=
  ⟨below_setCells b (by omega) _ _ _ h.1, fun i hi hne => (c_heap_setCells_other b i (by omega) vs o w').trans (h.2 i hi hne)⟩
theorem Rd.setCells {s : ByteArray} {g p ow : Nat} {w : World} (h : Rd s g p ow w) (b : Nat) (hb : g < b) (vs : List Value) (o : Nat) : Rd s g p ow (w.setCells b o vs) :=
  (c_heap_setCells_other b g (by omega) vs o w).trans h
theorem extract_data (s : ByteArray) (a b : Nat) : (s.extract a b).data.toList = (s.data.toList.drop a).take (b - a) := by
  rw [ByteArray.data_extract, Array.toList_extract, List.extract_eq_take_drop]
set_option maxRecDepth 100000 in
set_option maxHeartbeats 400000 in
theorem rdText_any (s : ByteArray) (hsz : s.size ≤ maxLen) (g p ow : Nat) (w : World) (h : Rd s g p ow w) (hp : p ≤ 70000) (hps : p ≤ s.size) (ho : ow ≤ 70000) :
    Calls Tryd.prog 142 #[.pointer (some ⟨g, 0, none⟩)] w (ItPost s g ow w (textR p ow (s.data.toList.drop p))) := by
  obtain ⟨R, hR⟩ : ∃ R, R = textR p ow (s.data.toList.drop p) := ⟨_, rfl⟩
  rw [← hR]
  have hglt := h.lt
  have hcnt := fun w' (hr : Rd s g p ow w') => count_any s g p ow 65536 w' hr hp hps ho
  have HR := Lib.hid (And.intro hR (And.intro h hcnt))
  clear hR h hcnt
  go_enter Tryd.func142, Tryd.ntmps142
  go_wp2_with fail
  have hrow1 : (w.alloc (.cells #[.int .i64 0, .int .i64 0, .string ⟨#[]⟩, .slice none 0 0] 104)).heap[w.heap.size]? = some (.cells #[.int .i64 0, .int .i64 0, .string ⟨#[]⟩, .slice none 0 0] 104 (0, 0)) := heap_alloc_new _ _
  have hrd1 : Rd s g p ow (w.alloc (.cells #[.int .i64 0, .int .i64 0, .string ⟨#[]⟩, .slice none 0 0] 104)) := (Lib.alloc_old _ _ _ hglt).trans HR.out.2.1
  have hk1 : RdKept g w (w.alloc (.cells #[.int .i64 0, .int .i64 0, .string ⟨#[]⟩, .slice none 0 0] 104)) := (RdKept.refl g w).alloc hglt _
  have hs1 : w.heap.size < (w.alloc (.cells #[.int .i64 0, .int .i64 0, .string ⟨#[]⟩, .slice none 0 0] 104)).heap.size := by simp
  generalize World.alloc w _ = w1 at *
  have H1 := Lib.hid (And.intro hrow1 (And.intro hrd1 hk1))
  clear hrow1 hrd1 hk1
  refine (HR.out.2.2 _ H1.out.2.1).mono ?_
  rintro e w2 ⟨hk2, hres⟩
  have hrow2 : w2.heap[w.heap.size]? = some (.cells #[.int .i64 0, .int .i64 0, .string ⟨#[]⟩, .slice none 0 0] 104 (0, 0)) := (hk2.2 _ hs1 (by omega)).trans H1.out.1
  have q0 : w2.cell? ⟨w.heap.size, 0, none⟩ = some (.int .i64 0) := by rw [Lib.cell_of_heap hrow2]; rfl
  have q1 : w2.cell? ⟨w.heap.size, 1, none⟩ = some (.int .i64 0) := by rw [Lib.cell_of_heap hrow2]; rfl
  have q2 : w2.cell? ⟨w.heap.size, 2, none⟩ = some (.string ⟨#[]⟩) := by rw [Lib.cell_of_heap hrow2]; rfl
  have q3 : w2.cell? ⟨w.heap.size, 3, none⟩ = some (.slice none 0 0) := by rw [Lib.cell_of_heap hrow2]; rfl
  have f : ∀ j, w2.frozen? ⟨w.heap.size, j, none⟩ = false := fun j => Lib.frozen_of_heap hrow2 j
  have H2 := Lib.hid (And.intro (H1.out.2.2.trans hk2) hrow2)
  have hs2 : w1.heap.size ≤ w2.heap.size := hk2.size
  clear hk2 hrow2
  cases hd : count 65536 p ow (s.data.toList.drop p) with
  | error x =>
    rw [countAt, hd] at hres
    obtain ⟨hx0, rfl⟩ := hres
    have hx : (x == 0) = false := by simpa using hx0
    have HX := Lib.hid (And.intro hd hx0)
    clear hd hx0
    go_wp2_with fail
    refine bodyPost_ret (v := .tuple #[zeroIt, .int .i64 x]) (by simp [results, Tryd.results142, go_sem, q0, q1, q2, q3, zeroIt]) rfl ?_
    refine ⟨H2.out.1.setCells w.heap.size (Nat.le_refl _) hglt [.int .i64 0, .int .i64 0, .string ⟨#[]⟩, .slice none 0 0] 0, ?_⟩
    rw [HR.out.1, textR, HX.out.1]
    exact ⟨HX.out.2, rfl⟩
  | ok nr =>
    obtain ⟨n, q, r⟩ := nr
    rw [countAt, hd] at hres
    obtain ⟨rfl, hrd, hq⟩ := hres
    obtain ⟨hdr, hroom, hn⟩ := count_rest hd
    have hrl : r.length = s.size - q := by rw [← hdr]; simp
    have c0 := hrd.c0
    have c1 := hrd.c1
    have hni : (n : Int) ≤ 65536 := by omega
    have hqi : (q : Int) ≤ s.size := by omega
    have HX := Lib.hid (And.intro hd (And.intro hrd (And.intro hdr hrl)))
    unfold maxLen at hsz
    have e1 : IntKind.i64.wrap ((s.size : Int) - q) = (s.size : Int) - q := IntWalk.i64_in _ (by omega)
    clear hd hrd hdr hrl
    by_cases hshort : s.size - q < n
    · have hsi : (s.size : Int) - q < n := by omega
      have hsd : decide ((s.size : Int) - q < n) = true := decide_eq_true hsi
      go_wp2_with fail
      go_quiet (fail)
      go_wp2_with fail
      refine bodyPost_ret (v := .tuple #[zeroIt, .int .i64 7]) (by simp [results, Tryd.results142, go_sem, q0, q1, q2, q3, zeroIt]) rfl ?_
      refine ⟨(H2.out.1.drewN nq).setCells w.heap.size (Nat.le_refl _) hglt [.int .i64 0, .int .i64 0, .string ⟨#[]⟩, .slice none 0 0] 0, ?_⟩
      rw [HR.out.1, textR, HX.out.1]
      simp only
      rw [if_pos (by have := HX.out.2.2.2; omega)]
      exact ⟨by decide, rfl⟩
    · have hsi : (n : Int) ≤ (s.size : Int) - q := by omega
      have hsd : decide ((s.size : Int) - q < n) = false := decide_eq_false (by omega)
      have f1 := HX.out.2.1.f 1
      have R1 : ∀ W, Rd s g q ow W → Rd s g (q + n) ow (W.setCell ⟨g, 1, none⟩ (.int .i64 ((q : Int) + n))) := fun W h => h.at_set (q + n)
      have HR1 := Lib.hid R1
      clear R1
      go_wp2_with fail
      go_quiet (fail)
      go_wp2_with fail
      have R2 := HR1.out _ (HX.out.2.1.drewN nq)
      have K2 := (H2.out.1.drewN nq).setCell 1 (.int .i64 ((q : Int) + n))
      have hrow3 : ((w2.drewN nq).setCell ⟨g, 1, none⟩ (.int .i64 ((q : Int) + n))).heap[w.heap.size]? = some (.cells #[.int .i64 0, .int .i64 0, .string ⟨#[]⟩, .slice none 0 0] 104 (0, 0)) := by
        rw [heap_setCell_other _ _ _ _ (by show w.heap.size ≠ g; omega), heap_drewN]; exact H2.out.2
      have hs3 : w.heap.size < ((w2.drewN nq).setCell ⟨g, 1, none⟩ (.int .i64 ((q : Int) + n))).heap.size := lt_of_heap hrow3
      generalize World.setCell _ _ _ = W1 at *
      clear c0 c1 f1 q0 q1 q2 q3 f
      have d0 := R2.c0
      have d1 : W1.cell? ⟨g, 1, none⟩ = some (.int .i64 ((q : Int) + n)) := R2.c1
      have HW := Lib.hid (And.intro R2 (And.intro K2 hrow3))
      clear R2 K2 hrow3
      have e2 : IntKind.i64.wrap (q : Int) = (q : Int) := IntWalk.i64_in _ (by omega)
      have hq0 : (0 : Int) ≤ (q : Int) := by omega
      have hle : (q : Int) ≤ (q : Int) + n := by omega
      have hle2 : (q : Int) + n ≤ s.size := by omega
      have htn : ((q : Int) + n).toNat = q + n := by omega
      go_still_tail 15, (by kernel_rfl)
      change wpList _ _ _ _ _ W1.drew
      go_wp2_with fail
      refine (text_any _ _).mono ?_
      rintro e w4 ⟨rfl, hb4⟩
      have hrow4 : w4.heap[w.heap.size]? = some (.cells #[.int .i64 0, .int .i64 0, .string ⟨#[]⟩, .slice none 0 0] 104 (0, 0)) := (hb4.block _ (by simpa using hs3)).trans HW.out.2.2
      have q0 : w4.cell? ⟨w.heap.size, 0, none⟩ = some (.int .i64 0) := by rw [Lib.cell_of_heap hrow4]; rfl
      have q1 : w4.cell? ⟨w.heap.size, 1, none⟩ = some (.int .i64 0) := by rw [Lib.cell_of_heap hrow4]; rfl
      have q2 : w4.cell? ⟨w.heap.size, 2, none⟩ = some (.string ⟨#[]⟩) := by rw [Lib.cell_of_heap hrow4]; rfl
      have q3 : w4.cell? ⟨w.heap.size, 3, none⟩ = some (.slice none 0 0) := by rw [Lib.cell_of_heap hrow4]; rfl
      have f : ∀ j, w4.frozen? ⟨w.heap.size, j, none⟩ = false := fun j => Lib.frozen_of_heap hrow4 j
      have hk4 : RdKept g w w4 := HW.out.2.1.drew.trans (RdKept.of_below (g := g) (a := W1.drew) (by simp; omega) hb4)
      have hr4 : Rd s g (q + n) ow w4 := (hb4.block g (by simp; omega)).trans HW.out.1
      have H4 := Lib.hid (And.intro hk4 hr4)
      clear hrow4 hb4 hk4 hr4
      go_wp2_with fail
      refine bodyPost_ret (v := .tuple #[.agg #[.int .i64 2, .int .i64 0, .string (s.extract q (q + n)), .slice none 0 0], .int .i64 0]) (by simp [results, Tryd.results142, go_sem, q0, q1, q2, q3]) rfl ?_
      refine ⟨H4.out.1.setCells w.heap.size (Nat.le_refl _) hglt [.int .i64 2, .int .i64 0, .string (s.extract q (q + n)), .slice none 0 0] 0, ?_⟩
      rw [HR.out.1, textR, HX.out.1]
      simp only
      have hrl := HX.out.2.2.2
      rw [if_neg (by omega)]
      have hex : s.extract q (q + n) = ⟨(r.take n).toArray⟩ := Go.WideShapes.bytes_inj (by rw [extract_data, HX.out.2.2.1, Nat.add_sub_cancel_left])
      refine ⟨.mk 2 0 (s.extract q (q + n)) none 0 [], by rw [hex]; rfl, rfl, ⟨?_, Nat.le_refl 0⟩, H4.out.2.setCells w.heap.size hglt [.int .i64 2, .int .i64 0, .string (s.extract q (q + n)), .slice none 0 0] 0, by omega, ?_⟩
      · rw [It.in_eq]
        refine ⟨?_, ⟨Nat.zero_le _, fun h => absurd rfl h⟩, trivial⟩
        show (s.extract q (q + n)).size ≤ maxLen
        rw [hex, size_toArray, List.length_take]
        unfold maxLen; omega
      · rw [← List.drop_drop, HX.out.2.2.1]
end Go.Proofs.YtgoimggfpagojaaDoor
namespace Go.Proofs.YtgoimggfpagojaaDoor
open Go.RowKit
open Cn

/-- The cells of items, one behind the other. -/
def flat : List It → List Value
  | [] => []
  | x :: r => x.cells.toList ++ flat r
theorem flat_length : ∀ l, (flat l).length = l.length * 4
  | [] => rfl
  | x :: r => by rw [flat, List.length_append, flat_length r]; simp [It.cells]; omega
theorem flat_append : ∀ a b, flat (a ++ b) = flat a ++ flat b
  | [], b => rfl
  | x :: r, b => by simp [flat, flat_append r b]
theorem flat_get : ∀ (l : List It) (j : Nat) (x : It) (m : Nat), l[j]? = some x → m < 4 → (flat l)[j * 4 + m]? = x.cells[m]?
  | [], j, x, m, h, _ => by simp at h
  | y :: r, 0, x, m, h, hm => by
    simp at h
    subst h
    rw [flat, Nat.zero_mul, Nat.zero_add, List.getElem?_append_left (by simp [It.cells]; omega)]
    simp
  | y :: r, j + 1, x, m, h, hm => by
    rw [flat, List.getElem?_append_right (by simp [It.cells]; omega)]
    have := flat_get r j x m (by simpa using h) hm
    rw [← this]
    congr 1
    simp [It.cells]
    omega
/-- What was read ahead of the rest. -/
def comb (done : List Pt) : Except Int (List Pt × Nat × List UInt8) → Except Int (List Pt × Nat × List UInt8)
  | .error e => .error e
  | .ok (ys, q, r) => .ok (done ++ ys, q, r)
theorem comb_step {f : Nat → Nat → List UInt8 → Except Int (Pt × Nat × List UInt8)} {done : List Pt} {n ow p : Nat} {l : List UInt8} {x : Pt} {p' : Nat} {l' : List UInt8} (h : f (ow + n) p l = .ok (x, p', l')) :
    comb done (items f (n + 1) ow p l) = comb (done ++ [x]) (items f n ow p' l') := by
  rw [items, h]
  simp only
  cases items f n ow p' l' with
  | error e => rfl
  | ok y => obtain ⟨ys, q, r⟩ := y; simp [comb]
theorem comb_err {f : Nat → Nat → List UInt8 → Except Int (Pt × Nat × List UInt8)} {done : List Pt} {n ow p : Nat} {l : List UInt8} {x : Int} (h : f (ow + n) p l = .error x) :
    comb done (items f (n + 1) ow p l) = .error x := by
  rw [items, h]; rfl
/-- A list in the making: i of n items are read. -/
structure Listing (s : ByteArray) (g ow n d q0 : Nat) (w : World) (i : Nat) (xs : List It) (a : Option Addr) (cap q : Nat) (wr : World) : Prop where
  len : xs.length = i
  own : wr.ownsRow (w.heap.size + 1) 104 4 (.slice a i cap) i (flat xs)
  all : It.InAll wr (fun b => w.heap.size < b ∧ (Value.slice a i cap).ownBlock ≠ some b) xs
  rd : Rd s g q (ow + (n - i)) wr
  kept : RdKept g w wr
  place : q ≤ s.size ∧ q + (n - i) + ow ≤ 65536
  res : wr.heap[w.heap.size]? = some (.cells #[.int .i64 0, .int .i64 0, .string ⟨#[]⟩, .slice none 0 0] 104 (0, 0))
  rest : items (item d) n ow q0 (s.data.toList.drop q0) = comb (It.pureAll xs) (items (item d) (n - i) ow q (s.data.toList.drop q))
theorem RdKept.grown {g : Nat} {w w' w'' : World} {row : Option Nat} (h : RdKept g w w') (hg : w'.grownBy w'' row) (hr : ∀ k, row = some k → w.heap.size ≤ k) (hgl : g < w.heap.size) : RdKept g w w'' :=
  ⟨h.1.grown hg (by have := h.1.size; omega) (fun k hk => by have := hr k hk; omega), fun b hb hne => (hg.block b (by have := h.1.size; omega) (fun e => by have := hr b e.symm; omega)).trans (h.2 b hb hne)⟩
theorem RdKept.by {g : Nat} {w w' : World} (h : RdKept g w w') : w.grownBy w' (some g) := ⟨h.1.os, h.1.tape, h.1.output, h.1.size, fun k hk hne => h.2 k hk (fun e => hne (by rw [e]))⟩
theorem ownBlock_lt {s : ByteArray} {g ow n d q0 : Nat} {w : World} {i : Nat} {xs : List It} {a : Option Addr} {cap q : Nat} {wr : World} (h : Listing s g ow n d q0 w i xs a cap q wr) :
    ∀ k, (Value.slice a i cap).ownBlock = some k → w.heap.size < k ∧ k < wr.heap.size := fun k hk => by have := h.own.lt k hk; omega
theorem Listing.start {s : ByteArray} {g ow n d q : Nat} {w wr : World} (hrd : Rd s g q (ow + n) wr) (hk : RdKept g w wr) (hq : q ≤ s.size) (hp : q + n + ow ≤ 65536)
    (hres : wr.heap[w.heap.size]? = some (.cells #[.int .i64 0, .int .i64 0, .string ⟨#[]⟩, .slice none 0 0] 104 (0, 0))) : Listing s g ow n d q w 0 [] none 0 q wr where
  len := rfl
  own := World.ownsRow_nil wr _ _ _
  all := trivial
  rd := hrd
  kept := hk
  place := ⟨hq, hp⟩
  res := hres
  rest := by
    rw [Nat.sub_zero]
    cases items (item d) n ow q (s.data.toList.drop q) with
    | error e => rfl
    | ok y => obtain ⟨ys, q, r⟩ := y; rfl
/-- One item more. -/
theorem Listing.next {s : ByteArray} {g ow n d q0 : Nat} {w : World} {i : Nat} {xs : List It} {a : Option Addr} {cap q : Nat} {wr wA w4 w6 : World} {it : It} {q' : Nat} {o1 o2 : Obj} {g' cap' : Nat}
    (h : Listing s g ow n d q0 w i xs a cap q wr) (hgl : g < w.heap.size) (hin : i < n) (hA : RdKept g wr wA) (hAs : wA.heap.size = wr.heap.size)
    (hx : item d (ow + (n - i - 1)) q (s.data.toList.drop q) = .ok (it.pure, q', s.data.toList.drop q')) (h4 : RdKept g wA w4) (hit : it.In w4 (wA.heap.size ≤ ·)) (hrd : Rd s g q' (ow + (n - i - 1)) w4) (hq' : q' ≤ s.size)
    (hown : w6.ownsRow (w.heap.size + 1) 104 4 (.slice (some ⟨g', 0, none⟩) (i + 1) cap') (i + 1) (flat xs ++ it.cells.toList)) (hgr : ((w4.alloc o1).alloc o2).grownBy w6 (Value.slice a i cap).ownBlock)
    (hat : (Value.slice a i cap).ownBlock = some g' ∨ g' = w4.heap.size + 2) : Listing s g ow n d q0 w (i + 1) (xs ++ [it]) (some ⟨g', 0, none⟩) cap' q' w6 := by
  have hob := ownBlock_lt h
  have s1 := hA.size
  have s4 := h4.size
  have sw := lt_of_heap h.res
  have s5 : ((w4.alloc o1).alloc o2).heap.size = w4.heap.size + 2 := by simp
  have s6 := hgr.size
  have hg'own : (Value.slice (some ⟨g', 0, none⟩) (i + 1) cap').ownBlock = some g' := rfl
  have keep : ∀ b, b < w4.heap.size → (Value.slice a i cap).ownBlock ≠ some b → w6.heap[b]? = w4.heap[b]? := fun b hb hne => by
    rw [hgr.block b (by omega) (fun e => hne e.symm), Lib.alloc_old _ _ _ (by simp; omega), Lib.alloc_old _ _ _ hb]
  have hgw : (Value.slice a i cap).ownBlock ≠ some g := fun e => by have := hob g e; omega
  have hk : RdKept g w ((w4.alloc o1).alloc o2) := (((h.kept.trans hA).trans h4).alloc hgl o1).alloc hgl o2
  obtain ⟨i1, i2, i3, i4⟩ := item_ok _ _ _ _ _ _ _ hx
  exact {
    len := by simp [h.len]
    own := by rw [flat_append]; simpa [flat] using hown
    all := by
      refine It.inAll_of fun y hy => ?_
      rcases List.mem_append.1 hy with hy | hy
      · have e1 : ∀ b, (Value.slice a i cap).ownBlock ≠ some b → b < wr.heap.size → (Value.slice (some ⟨g', 0, none⟩) (i + 1) cap').ownBlock ≠ some b := fun b hb hlt => by
          rw [hg'own]
          rcases hat with e | e
          · rw [← e]; exact hb
          · intro e2; have := Option.some.inj e2; omega
        exact It.In.kept (S := fun b => w.heap.size < b ∧ (Value.slice a i cap).ownBlock ≠ some b) (w := wr) ⟨fun b hb hlt => ⟨⟨hb.1, e1 b hb.2 hlt⟩, by rw [keep b (by omega) hb.2, h4.2 b (by omega) (by have := hb.1; omega), hA.2 b hlt (by have := hb.1; omega)]⟩, by omega⟩ y (It.inAll_mem h.all y hy)
      · obtain rfl := List.mem_singleton.1 hy
        have e1 : ∀ b, wA.heap.size ≤ b → b < w4.heap.size → (Value.slice (some ⟨g', 0, none⟩) (i + 1) cap').ownBlock ≠ some b := fun b hb hlt => by
          rw [hg'own]
          rcases hat with e | e
          · intro e2; have h1 := Option.some.inj e2; have := hob g' e; omega
          · intro e2; have := Option.some.inj e2; omega
        exact It.In.kept (S := (wA.heap.size ≤ ·)) (w := w4) ⟨fun b hb hlt => ⟨⟨by have : wA.heap.size ≤ b := hb; omega, e1 b hb hlt⟩, keep b hlt (fun e => by have := hob b e; have : wA.heap.size ≤ b := hb; omega)⟩, by omega⟩ _ hit
    rd := by
      have : ow + (n - (i + 1)) = ow + (n - i - 1) := by omega
      rw [this]
      exact (keep g (by omega) hgw).trans hrd
    kept := hk.grown hgr (fun k hk => by have := hob k hk; omega) hgl
    place := ⟨hq', by omega⟩
    res := by
      rw [keep _ (by omega) (fun e => by have := hob _ e; omega), h4.2 _ (by omega) (by omega), hA.2 _ (by have := lt_of_heap h.res; omega) (by omega)]
      exact h.res
    rest := by
      rw [h.rest, show n - i = n - (i + 1) + 1 by omega, comb_step (x := it.pure) (p' := q') (l' := s.data.toList.drop q') (by rw [show ow + (n - (i + 1)) = ow + (n - i - 1) by omega]; exact hx), pureAll_append]
      rfl }
end Go.Proofs.YtgoimggfpagojaaDoor
namespace Go.Proofs.YtgoimggfpagojaaDoor
open Go.RowKit
open Cn

def listR (d p ow : Nat) (l : List UInt8) : Except Int (Pt × Nat × List UInt8) :=
  match count 1024 p ow l with
  | .error x => .error x
  | .ok (n, q, r) => match items (item d) n ow q r with
    | .error x => .error x
    | .ok (xs, q', r') => .ok (.mk 3 0 ⟨#[]⟩ xs, q', r')
/-- The contract of item. -/
def ReadsSo (d : Nat) : Prop := ∀ (s : ByteArray) (g p ow : Nat) (w : World), s.size ≤ maxLen → Rd s g p ow w → p + ow ≤ 65536 → p ≤ s.size →
  Calls Tryd.prog 130 #[.pointer (some ⟨g, 0, none⟩), .int .i64 (6 - d)] w (ItPost s g ow w (item d ow p (s.data.toList.drop p)))
theorem item_err : ∀ d ow p l x, item d ow p l = .error x → x ≠ 0
  | d, ow, p, [], x, h => by cases d <;> simp [item] at h <;> omega
  | d, ow, p, c :: l, x, h => by
    have hits : ∀ d, (∀ ow p l x, item d ow p l = .error x → x ≠ 0) → ∀ n ow p l x, items (item d) n ow p l = .error x → x ≠ 0 := by
      intro d hd n
      induction n with
      | zero => intro ow p l x h; simp [items] at h
      | succ n ih =>
        intro ow p l x h
        rw [items] at h
        cases h1 : item d (ow + n) p l with
        | error y => rw [h1] at h; simp at h; subst h; exact hd _ _ _ _ h1
        | ok y =>
          obtain ⟨a, b, c⟩ := y
          rw [h1] at h
          simp only at h
          cases h2 : items (item d) n ow b c with
          | error y => rw [h2] at h; simp at h; subst h; exact ih _ _ _ _ h2
          | ok y => obtain ⟨a, b, c⟩ := y; rw [h2] at h; simp at h
    rw [item.eq_def] at h
    by_cases hd : c.toNat = 9 ∧ d = 0
    · simp [hd] at h; omega
    · simp only [if_neg hd] at h
      by_cases hroom : 9 < c.toNat ∨ 65536 < p + 1 + (if c.toNat < 8 then c.toNat else 1) + ow
      · simp [if_pos hroom] at h; omega
      · simp only [if_neg hroom] at h
        by_cases hc8 : c.toNat < 8
        · simp only [if_pos hc8] at h
          cases hdig : digits c.toNat true 0 l with
          | error e => rw [hdig] at h; simp at h; subst h; exact digits_err _ _ _ _ _ hdig
          | ok nr => obtain ⟨n, r⟩ := nr; rw [hdig] at h; simp at h
        · simp only [if_neg hc8] at h
          by_cases hceq : c.toNat = 8
          · simp only [if_pos hceq] at h
            cases hcnt : count 65536 (p + 1) ow l with
            | error e => rw [hcnt] at h; simp at h; subst h; exact count_err hcnt
            | ok nr =>
              obtain ⟨n, q, r⟩ := nr
              rw [hcnt] at h
              simp only at h
              by_cases hl : r.length < n
              · simp [hl] at h; omega
              · simp [hl] at h
          · simp only [if_neg hceq] at h
            match d, hd, h with
            | 0, hd, h => simp at h; omega
            | d + 1, hd, h =>
              simp only at h
              cases hcnt : count 1024 (p + 1) ow l with
              | error e => rw [hcnt] at h; simp at h; subst h; exact count_err hcnt
              | ok nr =>
                obtain ⟨n, q, r⟩ := nr
                rw [hcnt] at h
                simp only at h
                cases hi : items (item d) n ow q r with
                | error e => rw [hi] at h; simp at h; subst h; exact hits d (item_err d) _ _ _ _ _ hi
                | ok nr => obtain ⟨a, b, c⟩ := nr; rw [hi] at h; simp at h
/-- The list is whole. -/
theorem list_end {s : ByteArray} {g ow n d q0 : Nat} {w : World} {xs : List It} {a : Option Addr} {cap q : Nat} {wr : World} (h : Listing s g ow n d q0 w n xs a cap q wr) (hgl : g < w.heap.size) (hn : n ≤ 1024) :
    ItPost s g ow w (match items (item d) n ow q0 (s.data.toList.drop q0) with | .error x => .error x | .ok (xs, q', r') => .ok (.mk 3 0 ⟨#[]⟩ xs, q', r')) (.returned (.tuple #[.agg #[.int .i64 3, .int .i64 0, .string ⟨#[]⟩, .slice a n cap], .int .i64 0])) (wr.setCells w.heap.size 0 [.int .i64 3, .int .i64 0, .string ⟨#[]⟩, .slice a n cap]) := by
  have hob := ownBlock_lt h
  have hk : KeptS (fun b => w.heap.size < b ∧ (Value.slice a n cap).ownBlock ≠ some b) (w.heap.size ≤ ·) wr (wr.setCells w.heap.size 0 [.int .i64 3, .int .i64 0, .string ⟨#[]⟩, .slice a n cap]) :=
    ⟨fun b hb _ => ⟨by have := hb.1; omega, c_heap_setCells_other _ _ (by have := hb.1; omega) _ _ _⟩, by rw [c_size_setCells]; exact Nat.le_refl _⟩
  refine ⟨h.kept.setCells w.heap.size (Nat.le_refl _) hgl _ 0, ?_⟩
  rw [h.rest, Nat.sub_self]
  simp only [items, comb, List.append_nil]
  have hcap : xs.length ≤ cap := by
    rw [h.len]
    rcases h.own.2 with ⟨e, h0⟩ | ⟨g1, cap1, cur, e, hb, hg, hnc, hcm, hcs, htk⟩
    · rw [h0]; exact Nat.zero_le _
    · injection e with _ _ e3; rw [e3]; exact hnc
  refine ⟨.mk 3 0 ⟨#[]⟩ a cap xs, rfl, by simp only [It.val, It.cells, It.k, It.n, It.s, It.a, It.l, It.cap, h.len], ⟨?_, hcap⟩, ?_, h.place.1, trivial⟩
  · refine ⟨Nat.zero_le _, ⟨by have := h.len; have := h.place.2; unfold maxLen; omega, fun hne => ?_⟩, It.InAll.kept hk _ h.all⟩
    rcases h.own.2 with ⟨_, h0⟩ | ⟨g1, cap1, cur, hv, hb, hg, hnc, hcm, hcs, htk⟩
    · exact absurd (List.eq_nil_of_length_eq_zero (by have := h.len; omega)) hne
    · injection hv with e1 e2 e3
      subst e1
      refine ⟨g1, 0, rfl, by rw [c_size_setCells]; exact lt_of_heap hg, by show w.heap.size ≤ g1; omega, ?_⟩
      have hsame : (wr.setCells w.heap.size 0 [.int .i64 3, .int .i64 0, .string ⟨#[]⟩, .slice (some ⟨g1, 0, none⟩) n cap]).heap[g1]? = wr.heap[g1]? := c_heap_setCells_other _ _ (by omega) _ _ _
      refine RowAt.same (w := wr) (fun j x hx => ?_) hsame
      have hc : ∀ m u, m < 4 → x.cells[m]? = some u → wr.cell? ⟨g1, 0 + j * 4 + m, none⟩ = some u := fun m u hm hu => by
        have := h.own.cells (g := g1) rfl (j * 4 + m) u (by rw [flat_get xs j x m hx hm]; exact hu)
        rw [Nat.zero_add]
        rwa [show (⟨g1, 0, none⟩ : Addr).add (j * 4 + m) = ⟨g1, j * 4 + m, none⟩ by unfold Addr.add; split <;> simp_all] at this
      exact ⟨hc 0 _ (by decide) rfl, hc 1 _ (by decide) rfl, hc 2 _ (by decide) rfl, hc 3 _ (by decide) rfl⟩
  · have := h.rd.setCells w.heap.size hgl [.int .i64 3, .int .i64 0, .string ⟨#[]⟩, .slice a n cap] 0
    rwa [Nat.sub_self, Nat.add_zero] at this
set_option maxRecDepth 100000 in
set_option maxHeartbeats 800000 in
theorem rdList_any (d : Nat) (hd6 : d ≤ 6) (ih : ReadsSo d) (a : Int) (ha : a + 1 = 6 - (d : Int)) (s : ByteArray) (hsz : s.size ≤ maxLen) (g p ow : Nat) (w : World) (h : Rd s g p ow w) (hp : p ≤ 65537) (hps : p ≤ s.size) (ho : ow ≤ 65536) :
    Calls Tryd.prog 141 #[.pointer (some ⟨g, 0, none⟩), .int .i64 a] w (ItPost s g ow w (listR d p ow (s.data.toList.drop p))) := by
  obtain ⟨R, hR⟩ : ∃ R, R = listR d p ow (s.data.toList.drop p) := ⟨_, rfl⟩
  rw [← hR]
  have hglt := h.lt
  have hcnt := fun w' (hr : Rd s g p ow w') => count_any s g p ow 1024 w' hr (by omega) hps (by omega)
  have ih' := fun g p ow w => ih s g p ow w hsz
  rw [← ha] at ih'
  have HR := Lib.hid (And.intro hR (And.intro h (And.intro hcnt ih')))
  have ha5 : a ≤ 6 := by omega
  have ha0 : -9223372036854775808 ≤ a := by have := hd6; omega
  clear hR h hcnt ih ih' ha
  go_enter Tryd.func141, Tryd.ntmps141
  go_wp2_with fail
  have hrow1 : (w.alloc (.cells #[.int .i64 0, .int .i64 0, .string ⟨#[]⟩, .slice none 0 0] 104)).heap[w.heap.size]? = some (.cells #[.int .i64 0, .int .i64 0, .string ⟨#[]⟩, .slice none 0 0] 104 (0, 0)) := heap_alloc_new _ _
  have hrd1 : Rd s g p ow (w.alloc (.cells #[.int .i64 0, .int .i64 0, .string ⟨#[]⟩, .slice none 0 0] 104)) := (Lib.alloc_old _ _ _ hglt).trans HR.out.2.1
  have hk1 : RdKept g w (w.alloc (.cells #[.int .i64 0, .int .i64 0, .string ⟨#[]⟩, .slice none 0 0] 104)) := (RdKept.refl g w).alloc hglt _
  have hs1 : w.heap.size < (w.alloc (.cells #[.int .i64 0, .int .i64 0, .string ⟨#[]⟩, .slice none 0 0] 104)).heap.size := by simp
  generalize World.alloc w _ = w1 at *
  have H1 := Lib.hid (And.intro hrow1 (And.intro hrd1 hk1))
  clear hrow1 hrd1 hk1
  refine (HR.out.2.2.1 _ H1.out.2.1).mono ?_
  rintro e w2 ⟨hk2, hres⟩
  have hrow2 : w2.heap[w.heap.size]? = some (.cells #[.int .i64 0, .int .i64 0, .string ⟨#[]⟩, .slice none 0 0] 104 (0, 0)) := (hk2.2 _ hs1 (by omega)).trans H1.out.1
  have H2 := Lib.hid (And.intro (H1.out.2.2.trans hk2) hrow2)
  have hs2 : w1.heap.size ≤ w2.heap.size := hk2.size
  clear hk2
  cases hd : count 1024 p ow (s.data.toList.drop p) with
  | error x =>
    have q0 : w2.cell? ⟨w.heap.size, 0, none⟩ = some (.int .i64 0) := by rw [Lib.cell_of_heap hrow2]; rfl
    have q1 : w2.cell? ⟨w.heap.size, 1, none⟩ = some (.int .i64 0) := by rw [Lib.cell_of_heap hrow2]; rfl
    have q2 : w2.cell? ⟨w.heap.size, 2, none⟩ = some (.string ⟨#[]⟩) := by rw [Lib.cell_of_heap hrow2]; rfl
    have q3 : w2.cell? ⟨w.heap.size, 3, none⟩ = some (.slice none 0 0) := by rw [Lib.cell_of_heap hrow2]; rfl
    have f : ∀ j, w2.frozen? ⟨w.heap.size, j, none⟩ = false := fun j => Lib.frozen_of_heap hrow2 j
    rw [countAt, hd] at hres
    obtain ⟨hx0, rfl⟩ := hres
    have hx : (x == 0) = false := by simpa using hx0
    have HX := Lib.hid (And.intro hd hx0)
    clear hd hx0 hrow2
    go_wp2_with fail
    refine bodyPost_ret (v := .tuple #[zeroIt, .int .i64 x]) (by simp [results, Tryd.results141, go_sem, q0, q1, q2, q3, zeroIt]) rfl ?_
    refine ⟨H2.out.1.setCells w.heap.size (Nat.le_refl _) hglt [.int .i64 0, .int .i64 0, .string ⟨#[]⟩, .slice none 0 0] 0, ?_⟩
    rw [HR.out.1, listR, HX.out.1]
    exact ⟨HX.out.2, rfl⟩
  | ok nr =>
    obtain ⟨n, q, r⟩ := nr
    rw [countAt, hd] at hres
    obtain ⟨rfl, hrd, hq⟩ := hres
    obtain ⟨hdr, hroom, hn⟩ := count_rest hd
    have hni : (n : Int) ≤ 1024 := by omega
    have hoi : (ow : Int) ≤ 65536 := by omega
    have c2 := hrd.c2
    have f2 := hrd.f 2
    have hRR : R = match items (item d) n ow q (s.data.toList.drop q) with | .error x => .error x | .ok (xs, q', r') => .ok (.mk 3 0 ⟨#[]⟩ xs, q', r') := by
      rw [HR.out.1, listR, hd, ← hdr]
    have HX := Lib.hid (And.intro hRR hrd)
    clear hd hrd hdr hRR hrow2
    go_wp2_with fail
    have hR3 : Rd s g q (ow + n) (w2.setCell ⟨g, 2, none⟩ (.int .i64 ((ow : Int) + n))) := HX.out.2.ow_set (ow + n)
    have hK3 := H2.out.1.setCell 2 (.int .i64 ((ow : Int) + n))
    have hrow3 : (w2.setCell ⟨g, 2, none⟩ (.int .i64 ((ow : Int) + n))).heap[w.heap.size]? = some (.cells #[.int .i64 0, .int .i64 0, .string ⟨#[]⟩, .slice none 0 0] 104 (0, 0)) := by
      rw [heap_setCell_other _ _ _ _ (by show w.heap.size ≠ g; omega)]; exact H2.out.2
    generalize World.setCell _ _ _ = w3 at *
    have HL := Lib.hid (Listing.start (d := d) hR3 hK3 hq hroom hrow3)
    clear hR3 hK3 hrow3 c2 f2
    go_loopw [8, 29] (fun lv iv wr => ∃ (i : Nat) (xs : List It) (a' : Option Addr) (cap q' : Nat), i ≤ n ∧ iv = .int .i64 i ∧ lv = .slice a' i cap ∧ Listing s g ow n d q w i xs a' cap q' wr) (fun _ iv _ => n - (intOf iv).toNat)
    case atStart => exact ⟨0, [], none, 0, q, by omega, rfl, rfl, HL.out⟩
    case round =>
      clear HL
      obtain ⟨i, xs, a', cap, q', hi, rfl, rfl, hL⟩ := hrel
      have HL := Lib.hid hL
      by_cases hlt : i < n
      · have c2 := hL.rd.c2
        have f2 := hL.rd.f 2
        have hcast : (ow : Int) + ((n - i : Nat) : Int) - 1 = ((ow + (n - i - 1) : Nat) : Int) := by omega
        have hRA : Rd s g q' (ow + (n - i - 1)) (wr.setCell ⟨g, 2, none⟩ (.int .i64 ((ow : Int) + ((n - i : Nat) : Int) - 1))) := by rw [hcast]; exact hL.rd.ow_set _
        have hKA : RdKept g wr (wr.setCell ⟨g, 2, none⟩ (.int .i64 ((ow : Int) + ((n - i : Nat) : Int) - 1))) := (RdKept.refl g wr).setCell 2 _
        have hsA : (wr.setCell ⟨g, 2, none⟩ (.int .i64 ((ow : Int) + ((n - i : Nat) : Int) - 1))).heap.size = wr.heap.size := by simp [World.setCell]
        have HA0 := Lib.hid (And.intro hcast (And.intro hRA (And.intro hKA hsA)))
        clear hL hcast hRA hKA hsA
        go_wp2_with fail
        have HA := Lib.hid HA0.out.2
        clear HA0 c2 f2
        generalize World.setCell _ _ _ = wA at *
        refine (HR.out.2.2.2 g q' (ow + (n - i - 1)) wA HA.out.1 (by have := HL.out.place; omega) HL.out.place.1).mono ?_
        rintro e w4 ⟨hk4, hres4⟩
        cases hx : item d (ow + (n - i - 1)) q' (s.data.toList.drop q') with
        | error x =>
          rw [hx] at hres4
          obtain ⟨hx0, rfl⟩ := hres4
          have hxe : (x == 0) = false := by simpa using hx0
          have hrow : w4.heap[w.heap.size]? = some (.cells #[.int .i64 0, .int .i64 0, .string ⟨#[]⟩, .slice none 0 0] 104 (0, 0)) := by
            rw [hk4.2 _ (by have := lt_of_heap HL.out.res; have := HA.out.2.2; omega) (by omega), HA.out.2.1.2 _ (lt_of_heap HL.out.res) (by omega)]; exact HL.out.res
          have q0 : w4.cell? ⟨w.heap.size, 0, none⟩ = some (.int .i64 0) := by rw [Lib.cell_of_heap hrow]; rfl
          have q1 : w4.cell? ⟨w.heap.size, 1, none⟩ = some (.int .i64 0) := by rw [Lib.cell_of_heap hrow]; rfl
          have q2 : w4.cell? ⟨w.heap.size, 2, none⟩ = some (.string ⟨#[]⟩) := by rw [Lib.cell_of_heap hrow]; rfl
          have q3 : w4.cell? ⟨w.heap.size, 3, none⟩ = some (.slice none 0 0) := by rw [Lib.cell_of_heap hrow]; rfl
          have f : ∀ j, w4.frozen? ⟨w.heap.size, j, none⟩ = false := fun j => Lib.frozen_of_heap hrow j
          have hsz4 : w.heap.size < w4.heap.size := lt_of_heap hrow
          have HE := Lib.hid (And.intro hx (And.intro hx0 ((HL.out.kept.trans HA.out.2.1).trans hk4)))
          clear hx hx0 hk4 hrow
          simp only [zeroIt]
          go_wp2_with fail
          refine bodyPost_ret (v := .tuple #[zeroIt, .int .i64 x]) (by simp [results, Tryd.results141, go_sem, q0, q1, q2, q3, zeroIt, hsz4]) rfl ?_
          refine ⟨(HE.out.2.2.setCells w.heap.size (Nat.le_refl _) hglt [.int .i64 0, .int .i64 0, .string ⟨#[]⟩, .slice none 0 0] 0).alloc hglt _, ?_⟩
          rw [HX.out.1, HL.out.rest, show n - i = n - i - 1 + 1 by omega, comb_err HE.out.1]
          exact ⟨HE.out.2.1, rfl⟩
        | ok y =>
          obtain ⟨x, q4, r4⟩ := y
          rw [hx] at hres4
          obtain ⟨it, rfl, rfl, ⟨hIn, -⟩, hRd4, hq4, rfl⟩ := hres4
          have hgr4 := hk4.by
          have hown4 := (HL.out.own.kept (HA.out.2.1.by) (by right; intro e; have := ownBlock_lt HL.out g e; omega)).kept hgr4 (by right; intro e; have := ownBlock_lt HL.out g e; omega)
          have hsz4 : w.heap.size < w4.heap.size := by have := lt_of_heap HL.out.res; have := HA.out.2.2; have := hk4.size; omega
          obtain ⟨i0, hi0, hz0⟩ := Option.map_eq_some_iff.1 info24
          simp only [Prod.mk.injEq] at hz0
          have HT := Lib.hid (And.intro hx (And.intro hk4 (And.intro hIn (And.intro hRd4 (And.intro hq4 (And.intro hown4 (And.intro hi0 hz0)))))))
          clear hx hk4 hIn hRd4 hq4 hgr4 hown4 hi0 hz0
          obtain ⟨xk, xn, xs', xa, xc, xl⟩ := it
          simp only [It.val, It.cells, It.k, It.n, It.s, It.a, It.cap, It.l]
          go_wp2_with (at_builtin; refine wpList_append_lies _ rfl _ _ 102 rfl (w.heap.size + 1) 104 i0 (.agg #[.int .i64 0, .int .i64 0, .string ⟨#[]⟩, .slice none 0 0]) 4 56 Tryd.underlying102 HT.out.2.2.2.2.2.2.1 HT.out.2.2.2.2.2.2.2.1 HT.out.2.2.2.2.2.2.2.2.1 HT.out.2.2.2.2.2.2.2.2.2 rfl (by decide) _ i _ rfl ((HT.out.2.2.2.2.2.1.alloc _).alloc _) ⟨w4.heap.size + 1, 0, none⟩ 1 1 [.int .i64 xk, .int .i64 xn, .string xs', .slice xa xl.length xc] rfl rfl ?c1 ?c2 (by decide) ?c3 ?c4 ?c5 _ rfl ?_)
          case c1 =>
            intro j u hj
            match j, hj with
            | 0, hj => simp at hj; subst hj; simp [Addr.add]
            | 1, hj => simp at hj; subst hj; simp [Addr.add]
            | 2, hj => simp at hj; subst hj; simp [Addr.add]
            | 3, hj => simp at hj; subst hj; simp [Addr.add]
            | j + 4, hj => simp at hj
          case c2 => intro u hu; simp at hu; rcases hu with rfl | rfl | rfl | rfl <;> rfl
          case c3 => unfold maxLen; omega
          case c4 => omega
          case c5 => simp; omega
          intro g1 cap1 w6 hown6 hgr6 hat6 hlt6
          have hnext := Listing.next HL.out hglt hlt HA.out.2.1 HA.out.2.2 HT.out.1 HT.out.2.1 HT.out.2.2.1 HT.out.2.2.2.1 HT.out.2.2.2.2.1 hown6 hgr6 (by simpa using hat6)
          have HN := Lib.hid hnext
          clear hnext hown6 hgr6 hat6 hlt6
          go_wp2_with fail
          go_roundw
          case rel => exact ⟨i + 1, _, _, _, _, by omega, by go_num, rfl, HN.out⟩
          case measure => simp [intOf]; omega
      · obtain rfl : i = n := by omega
        have hrow := hL.res
        have q0 : wr.cell? ⟨w.heap.size, 0, none⟩ = some (.int .i64 0) := by rw [Lib.cell_of_heap hrow]; rfl
        have q1 : wr.cell? ⟨w.heap.size, 1, none⟩ = some (.int .i64 0) := by rw [Lib.cell_of_heap hrow]; rfl
        have q2 : wr.cell? ⟨w.heap.size, 2, none⟩ = some (.string ⟨#[]⟩) := by rw [Lib.cell_of_heap hrow]; rfl
        have q3 : wr.cell? ⟨w.heap.size, 3, none⟩ = some (.slice none 0 0) := by rw [Lib.cell_of_heap hrow]; rfl
        have f : ∀ j, wr.frozen? ⟨w.heap.size, j, none⟩ = false := fun j => Lib.frozen_of_heap hrow j
        clear hL hrow
        go_wp2_with fail
        refine bodyPost_ret (v := .tuple #[.agg #[.int .i64 3, .int .i64 0, .string ⟨#[]⟩, .slice a' i cap], .int .i64 0]) (by simp [results, Tryd.results141, go_sem, q0, q1, q2, q3]) rfl ?_
        exact HX.out.1 ▸ list_end HL.out hglt hn
end Go.Proofs.YtgoimggfpagojaaDoor
namespace Go.Proofs.YtgoimggfpagojaaDoor
open Go.RowKit
open Cn

abbrev zc : Array Value := #[.int .i64 0, .int .i64 0, .string ⟨#[]⟩, .slice none 0 0]
/-- The world behind 'var result': the new block, the reader as it was. -/
structure Begun (s : ByteArray) (g p ow : Nat) (w W : World) : Prop where
  row : W.heap[w.heap.size]? = some (.cells zc 104 (0, 0))
  rd : Rd s g p ow W
  kept : RdKept g w W
theorem Begun.mk' {s : ByteArray} {g p ow : Nat} {w : World} (h : Rd s g p ow w) : Begun s g p ow w (w.alloc (.cells zc 104)) :=
  ⟨heap_alloc_new _ _, (Lib.alloc_old _ _ _ h.lt).trans h, (RdKept.refl g w).alloc h.lt _⟩
theorem Begun.call {s : ByteArray} {g p ow q : Nat} {w W W' : World} (h : Begun s g p ow w W) (hgl : g < w.heap.size) (hr : Rd s g q ow W') (hk : RdKept g W W') : Begun s g q ow w W' :=
  ⟨(hk.2 _ (lt_of_heap h.row) (by omega)).trans h.row, hr, h.kept.trans hk⟩
theorem Begun.row' {g : Nat} {w W W' : World} (h : W.heap[w.heap.size]? = some (.cells zc 104 (0, 0))) (hgl : g < w.heap.size) (hk : RdKept g W W') : W'.heap[w.heap.size]? = some (.cells zc 104 (0, 0)) :=
  (hk.2 _ (lt_of_heap h) (by omega)).trans h
theorem row_cells {W : World} {b : Nat} (h : W.heap[b]? = some (.cells zc 104 (0, 0))) : W.cell? ⟨b, 0, none⟩ = some (.int .i64 0) ∧ W.cell? ⟨b, 1, none⟩ = some (.int .i64 0) ∧ W.cell? ⟨b, 2, none⟩ = some (.string ⟨#[]⟩) ∧ W.cell? ⟨b, 3, none⟩ = some (.slice none 0 0) ∧ ∀ j, W.frozen? ⟨b, j, none⟩ = false :=
  ⟨by rw [Lib.cell_of_heap h]; rfl, by rw [Lib.cell_of_heap h]; rfl, by rw [Lib.cell_of_heap h]; rfl, by rw [Lib.cell_of_heap h]; rfl, fun j => Lib.frozen_of_heap h j⟩
set_option maxRecDepth 100000 in
set_option maxHeartbeats 400000 in
theorem item_nil (d : Nat) (s : ByteArray) (g p ow : Nat) (w : World) (h : Rd s g p ow w) (hp : p + ow ≤ 65536) (hps : p ≤ s.size) (hl : s.data.toList.drop p = []) :
    Calls Tryd.prog 130 #[.pointer (some ⟨g, 0, none⟩), .int .i64 (6 - d)] w (ItPost s g ow w (item d ow p (s.data.toList.drop p))) := by
  have hR : item d ow p (s.data.toList.drop p) = .error 7 := by rw [hl]; cases d <;> rfl
  rw [hR]
  have hglt := h.lt
  have H := Lib.hid (And.intro (Begun.mk' h) hl)
  clear h hl hR
  go_enter Tryd.func130, Tryd.ntmps130
  go_wp2_with fail
  refine ((next_at s g p ow _ H.out.1.rd (by omega) hps).1 H.out.2).mono ?_
  rintro e w2 ⟨rfl, hb1, hb2⟩
  have HB := Lib.hid (H.out.1.call hglt hb1 hb2)
  clear hb1 hb2
  obtain ⟨q0, q1, q2, q3, f⟩ := row_cells HB.out.row
  go_wp2_with fail
  refine bodyPost_ret (v := .tuple #[zeroIt, .int .i64 7]) (by simp [results, Tryd.results130, go_sem, q0, q1, q2, q3, zeroIt]) rfl ?_
  exact ⟨HB.out.kept.setCells w.heap.size (Nat.le_refl _) hglt [.int .i64 0, .int .i64 0, .string ⟨#[]⟩, .slice none 0 0] 0, by decide, rfl⟩
/-- The byte at hand, and the rest. -/
structure AtHand (s : ByteArray) (g p ow d : Nat) (w : World) (c : UInt8) (r : List UInt8) : Prop where
  rd : Rd s g p ow w
  fit : p + ow ≤ 65536
  place : p + 1 ≤ s.size
  text : s.data.toList.drop p = c :: r
  rest : s.data.toList.drop (p + 1) = r
set_option maxRecDepth 100000 in
set_option maxHeartbeats 400000 in
theorem item_deep (s : ByteArray) (g p ow : Nat) (w : World) (c : UInt8) (r : List UInt8) (h : AtHand s g p ow 0 w c r) (hc : c.toNat = 9) :
    Calls Tryd.prog 130 #[.pointer (some ⟨g, 0, none⟩), .int .i64 6] w (ItPost s g ow w (item 0 ow p (s.data.toList.drop p))) := by
  have hR : item 0 ow p (s.data.toList.drop p) = .error 3 := by rw [h.text, item.eq_def]; simp [hc]
  rw [hR]
  have hglt := h.rd.lt
  have hfit := h.fit
  have hpl := h.place
  have hci : (c.toNat : Int) = 9 := by omega
  have H := Lib.hid (And.intro (Begun.mk' h.rd) (And.intro h hci))
  clear h hR hci hc
  go_enter Tryd.func130, Tryd.ntmps130
  go_wp2_with fail
  refine ((next_at s g p ow _ H.out.1.rd (by omega) (by omega)).2 c r H.out.2.1.text).mono ?_
  rintro e w2 ⟨rfl, hb1, hb2⟩
  have HB := Lib.hid (H.out.1.call hglt hb1 hb2)
  clear hb1 hb2
  obtain ⟨q0, q1, q2, q3, f⟩ := row_cells HB.out.row
  rw [H.out.2.2]
  go_wp2_with fail
  refine bodyPost_ret (v := .tuple #[zeroIt, .int .i64 3]) (by simp [results, Tryd.results130, go_sem, q0, q1, q2, q3, zeroIt]) rfl ?_
  exact ⟨HB.out.kept.setCells w.heap.size (Nat.le_refl _) hglt [.int .i64 0, .int .i64 0, .string ⟨#[]⟩, .slice none 0 0] 0, by decide, rfl⟩
set_option maxRecDepth 100000 in
set_option maxHeartbeats 400000 in
theorem item_odd (d : Nat) (s : ByteArray) (g p ow : Nat) (w : World) (c : UInt8) (r : List UInt8) (h : AtHand s g p ow d w c r) (hc : 9 < c.toNat) :
    Calls Tryd.prog 130 #[.pointer (some ⟨g, 0, none⟩), .int .i64 (6 - d)] w (ItPost s g ow w (item d ow p (s.data.toList.drop p))) := by
  have hR : item d ow p (s.data.toList.drop p) = .error 3 := by rw [h.text, item.eq_def]; simp only; rw [if_neg (by omega), if_pos (.inl hc)]
  rw [hR]
  have hglt := h.rd.lt
  have hfit := h.fit
  have hpl := h.place
  have hci : (9 : Int) < c.toNat := by omega
  have h9 : ((c.toNat : Int) == 9) = false := by simp; omega
  have h8 : ((c.toNat : Int) == 8) = false := by simp; omega
  have H := Lib.hid (And.intro (Begun.mk' h.rd) h)
  clear h hR hc
  go_enter Tryd.func130, Tryd.ntmps130
  go_wp2_with fail
  refine ((next_at s g p ow _ H.out.1.rd (by omega) (by omega)).2 c r H.out.2.text).mono ?_
  rintro e w2 ⟨rfl, hb1, hb2⟩
  have HB := Lib.hid (H.out.1.call hglt hb1 hb2)
  clear hb1 hb2
  obtain ⟨q0, q1, q2, q3, f⟩ := row_cells HB.out.row
  go_wp2_with fail
  refine bodyPost_ret (v := .tuple #[zeroIt, .int .i64 3]) (by simp [results, Tryd.results130, go_sem, q0, q1, q2, q3, zeroIt]) rfl ?_
  exact ⟨HB.out.kept.setCells w.heap.size (Nat.le_refl _) hglt [.int .i64 0, .int .i64 0, .string ⟨#[]⟩, .slice none 0 0] 0, by decide, rfl⟩
theorem ItPost.shape {s : ByteArray} {g ow : Nat} {w w' : World} {R : Except Int (Pt × Nat × List UInt8)} {e : Ending} (h : ItPost s g ow w R e w') :
    ∃ k n s' a len cap x, e = .returned (.tuple #[.agg #[.int .i64 k, .int .i64 n, .string s', .slice a len cap], .int .i64 x]) := by
  obtain ⟨-, h⟩ := h
  cases R with
  | error x => exact ⟨_, _, _, _, _, _, _, h.2⟩
  | ok y =>
    obtain ⟨x, q, r⟩ := y
    obtain ⟨it, -, he, -⟩ := h
    exact ⟨_, _, _, _, _, _, _, he⟩
theorem ItPost.store {s : ByteArray} {g ow : Nat} {w w2 w3 : World} {R : Except Int (Pt × Nat × List UInt8)} {e : Ending} (h : ItPost s g ow w2 R e w3) (hgl : g < w.heap.size) (hk : RdKept g w w2) (hs : w.heap.size < w2.heap.size) (vs : List Value) :
    ItPost s g ow w R e (w3.setCells w.heap.size 0 vs) := by
  obtain ⟨h0, h⟩ := h
  refine ⟨(hk.trans h0).setCells _ (Nat.le_refl _) hgl vs 0, ?_⟩
  cases R with
  | error x => exact h
  | ok y =>
    obtain ⟨x, q, r⟩ := y
    obtain ⟨it, h1, h2, ⟨h3, h3c⟩, h4, h5, h6⟩ := h
    refine ⟨it, h1, h2, ⟨It.In.kept ⟨fun b hb _ => ⟨by have : w2.heap.size ≤ b := hb; omega, c_heap_setCells_other _ _ (by have : w2.heap.size ≤ b := hb; omega) _ _ _⟩, by rw [c_size_setCells]; exact Nat.le_refl _⟩ it h3, h3c⟩, h4.setCells _ hgl vs 0, h5, h6⟩
theorem item_eq8 {d ow p : Nat} {c : UInt8} {r : List UInt8} (hc : c.toNat = 8) : item d ow p (c :: r) = if p + 1 + 1 + ow ≤ 65536 then textR (p + 1) ow r else .error 3 := by
  rw [item.eq_def]
  simp only [hc]
  by_cases h : p + 1 + 1 + ow ≤ 65536
  · rw [if_neg (by omega), if_neg (by simp; omega), if_neg (by decide), if_pos trivial, if_pos h]
    rfl
  · rw [if_neg (by omega), if_pos (by simp; omega), if_neg h]
theorem item_eq9 {d ow p : Nat} {c : UInt8} {r : List UInt8} (hc : c.toNat = 9) : item (d + 1) ow p (c :: r) = if p + 1 + 1 + ow ≤ 65536 then listR d (p + 1) ow r else .error 3 := by
  rw [item.eq_def]
  simp only [hc]
  by_cases h : p + 1 + 1 + ow ≤ 65536
  · rw [if_neg (by omega), if_neg (by simp; omega), if_neg (by decide), if_neg (by decide), if_pos h]
    rfl
  · rw [if_neg (by omega), if_pos (by simp; omega), if_neg h]
theorem item_eqn {d ow p : Nat} {c : UInt8} {r : List UInt8} (hc : c.toNat < 8) : item d ow p (c :: r) = if p + 1 + c.toNat + ow ≤ 65536 then (match digits c.toNat true 0 r with | .error e => .error e | .ok (n, r') => .ok (.mk 1 n ⟨#[]⟩ [], p + 1 + c.toNat, r')) else .error 3 := by
  rw [item.eq_def]
  simp only [if_pos hc]
  by_cases h : p + 1 + c.toNat + ow ≤ 65536
  · rw [if_neg (by omega), if_neg (by omega), if_pos h]
    rfl
  · rw [if_neg (by omega), if_pos (by omega), if_neg h]
set_option maxRecDepth 100000 in
set_option maxHeartbeats 400000 in
theorem item_text (d : Nat) (s : ByteArray) (hsz : s.size ≤ maxLen) (g p ow : Nat) (w : World) (c : UInt8) (r : List UInt8) (h : AtHand s g p ow d w c r) (hc : c.toNat = 8) :
    Calls Tryd.prog 130 #[.pointer (some ⟨g, 0, none⟩), .int .i64 (6 - d)] w (ItPost s g ow w (item d ow p (s.data.toList.drop p))) := by
  rw [h.text, item_eq8 hc]
  have hglt := h.rd.lt
  have hfit := h.fit
  have hpl := h.place
  have hci : (c.toNat : Int) = 8 := by omega
  have H := Lib.hid (And.intro (Begun.mk' h.rd) (And.intro h hci))
  clear h hc hci
  by_cases hroom : p + 1 + 1 + ow ≤ 65536
  · rw [if_pos hroom]
    obtain ⟨R, hR⟩ : ∃ R, R = textR (p + 1) ow r := ⟨_, rfl⟩
    rw [← hR]
    have hrt : decide (p + 1 + 1 + ow ≤ 65536) = true := decide_eq_true hroom
    have HD := Lib.hid (And.intro hR hrt)
    clear hR hrt
    go_enter Tryd.func130, Tryd.ntmps130
    go_wp2_with fail
    refine ((next_at s g p ow _ H.out.1.rd (by omega) (by omega)).2 c r H.out.2.1.text).mono ?_
    rintro e w2 ⟨rfl, hb1, hb2⟩
    have HB := Lib.hid (H.out.1.call hglt hb1 hb2)
    clear hb1 hb2
    rw [H.out.2.2]
    go_wp2_with fail
    refine (room_any s g (p + 1) ow 1 _ HB.out.rd (by omega) (by omega) (by omega)).mono ?_
    rintro e w3 ⟨rfl, hb1, hb2⟩
    have HB3 := Lib.hid (HB.out.call hglt hb1 hb2)
    clear hb1 hb2
    rw [HD.out.2]
    go_wp2_with fail
    refine (rdText_any s hsz g (p + 1) ow _ HB3.out.rd (by omega) hpl (by omega)).mono ?_
    intro e w4 hpost
    rw [H.out.2.1.rest, ← HD.out.1] at hpost
    obtain ⟨k4, n4, s4, a4, l4, cap4, x4, rfl⟩ := hpost.shape
    obtain ⟨q0, q1, q2, q3, f⟩ := row_cells (Begun.row' HB3.out.row hglt hpost.1)
    have HP := Lib.hid (hpost.store hglt HB3.out.kept (lt_of_heap HB3.out.row) [.int .i64 k4, .int .i64 n4, .string s4, .slice a4 l4 cap4])
    clear hpost
    go_wp2_with fail
    exact bodyPost_ret (v := .tuple #[.agg #[.int .i64 k4, .int .i64 n4, .string s4, .slice a4 l4 cap4], .int .i64 x4]) (by simp [results, Tryd.results130, go_sem, q0, q1, q2, q3]) rfl HP.out
  · rw [if_neg hroom]
    have hrt : decide (p + 1 + 1 + ow ≤ 65536) = false := decide_eq_false hroom
    have HD := Lib.hid hrt
    clear hrt hroom
    go_enter Tryd.func130, Tryd.ntmps130
    go_wp2_with fail
    refine ((next_at s g p ow _ H.out.1.rd (by omega) (by omega)).2 c r H.out.2.1.text).mono ?_
    rintro e w2 ⟨rfl, hb1, hb2⟩
    have HB := Lib.hid (H.out.1.call hglt hb1 hb2)
    clear hb1 hb2
    rw [H.out.2.2]
    go_wp2_with fail
    refine (room_any s g (p + 1) ow 1 _ HB.out.rd (by omega) (by omega) (by omega)).mono ?_
    rintro e w3 ⟨rfl, hb1, hb2⟩
    have HB3 := Lib.hid (HB.out.call hglt hb1 hb2)
    clear hb1 hb2
    rw [HD.out]
    obtain ⟨q0, q1, q2, q3, f⟩ := row_cells HB3.out.row
    go_wp2_with fail
    refine bodyPost_ret (v := .tuple #[zeroIt, .int .i64 3]) (by simp [results, Tryd.results130, go_sem, q0, q1, q2, q3, zeroIt]) rfl ?_
    exact ⟨HB3.out.kept.setCells w.heap.size (Nat.le_refl _) hglt [.int .i64 0, .int .i64 0, .string ⟨#[]⟩, .slice none 0 0] 0, by decide, rfl⟩
set_option maxRecDepth 100000 in
set_option maxHeartbeats 400000 in
theorem item_list (d : Nat) (ih : ReadsSo d) (hd6 : d + 1 ≤ 6) (s : ByteArray) (hsz : s.size ≤ maxLen) (a : Int) (ha : a + 1 = 6 - (d : Int)) (g p ow : Nat) (w : World) (c : UInt8) (r : List UInt8) (h : AtHand s g p ow (d + 1) w c r) (hc : c.toNat = 9) :
    Calls Tryd.prog 130 #[.pointer (some ⟨g, 0, none⟩), .int .i64 a] w (ItPost s g ow w (item (d + 1) ow p (s.data.toList.drop p))) := by
  rw [h.text, item_eq9 hc]
  have hglt := h.rd.lt
  have hfit := h.fit
  have hpl := h.place
  have hci : (c.toNat : Int) = 9 := by omega
  have ha6 : (a == 6) = false := by simp; omega
  have ha6' : ¬ a = 6 := by omega
  have H := Lib.hid (And.intro (Begun.mk' h.rd) (And.intro h hci))
  clear h hc hci
  by_cases hroom : p + 1 + 1 + ow ≤ 65536
  · rw [if_pos hroom]
    obtain ⟨R, hR⟩ : ∃ R, R = listR d (p + 1) ow r := ⟨_, rfl⟩
    rw [← hR]
    have hrt : decide (p + 1 + 1 + ow ≤ 65536) = true := decide_eq_true hroom
    have HD := Lib.hid (And.intro hR hrt)
    clear hR hrt
    go_enter Tryd.func130, Tryd.ntmps130
    go_wp2_with fail
    refine ((next_at s g p ow _ H.out.1.rd (by omega) (by omega)).2 c r H.out.2.1.text).mono ?_
    rintro e w2 ⟨rfl, hb1, hb2⟩
    have HB := Lib.hid (H.out.1.call hglt hb1 hb2)
    clear hb1 hb2
    rw [H.out.2.2]
    go_wp2_with fail
    refine (room_any s g (p + 1) ow 1 _ HB.out.rd (by omega) (by omega) (by omega)).mono ?_
    rintro e w3 ⟨rfl, hb1, hb2⟩
    have HB3 := Lib.hid (HB.out.call hglt hb1 hb2)
    clear hb1 hb2
    rw [HD.out.2]
    go_wp2_with fail
    refine (rdList_any d (by omega) ih a ha s hsz g (p + 1) ow _ HB3.out.rd (by omega) hpl (by omega)).mono ?_
    intro e w4 hpost
    rw [H.out.2.1.rest, ← HD.out.1] at hpost
    obtain ⟨k4, n4, s4, a4, l4, cap4, x4, rfl⟩ := hpost.shape
    obtain ⟨q0, q1, q2, q3, f⟩ := row_cells (Begun.row' HB3.out.row hglt hpost.1)
    have HP := Lib.hid (hpost.store hglt HB3.out.kept (lt_of_heap HB3.out.row) [.int .i64 k4, .int .i64 n4, .string s4, .slice a4 l4 cap4])
    clear hpost
    go_wp2_with fail
    exact bodyPost_ret (v := .tuple #[.agg #[.int .i64 k4, .int .i64 n4, .string s4, .slice a4 l4 cap4], .int .i64 x4]) (by simp [results, Tryd.results130, go_sem, q0, q1, q2, q3]) rfl HP.out
  · rw [if_neg hroom]
    have hrt : decide (p + 1 + 1 + ow ≤ 65536) = false := decide_eq_false hroom
    have HD := Lib.hid hrt
    clear hrt hroom
    go_enter Tryd.func130, Tryd.ntmps130
    go_wp2_with fail
    refine ((next_at s g p ow _ H.out.1.rd (by omega) (by omega)).2 c r H.out.2.1.text).mono ?_
    rintro e w2 ⟨rfl, hb1, hb2⟩
    have HB := Lib.hid (H.out.1.call hglt hb1 hb2)
    clear hb1 hb2
    rw [H.out.2.2]
    go_wp2_with fail
    refine (room_any s g (p + 1) ow 1 _ HB.out.rd (by omega) (by omega) (by omega)).mono ?_
    rintro e w3 ⟨rfl, hb1, hb2⟩
    have HB3 := Lib.hid (HB.out.call hglt hb1 hb2)
    clear hb1 hb2
    rw [HD.out]
    obtain ⟨q0, q1, q2, q3, f⟩ := row_cells HB3.out.row
    go_wp2_with fail
    refine bodyPost_ret (v := .tuple #[zeroIt, .int .i64 3]) (by simp [results, Tryd.results130, go_sem, q0, q1, q2, q3, zeroIt]) rfl ?_
    exact ⟨HB3.out.kept.setCells w.heap.size (Nat.le_refl _) hglt [.int .i64 0, .int .i64 0, .string ⟨#[]⟩, .slice none 0 0] 0, by decide, rfl⟩
set_option maxRecDepth 100000 in
set_option maxHeartbeats 400000 in
theorem item_num (d : Nat) (s : ByteArray) (g p ow : Nat) (w : World) (c : UInt8) (r : List UInt8) (h : AtHand s g p ow d w c r) (hc : c.toNat < 8) :
    Calls Tryd.prog 130 #[.pointer (some ⟨g, 0, none⟩), .int .i64 (6 - d)] w (ItPost s g ow w (item d ow p (s.data.toList.drop p))) := by
  rw [h.text, item_eqn hc]
  have hglt := h.rd.lt
  have hfit := h.fit
  have hpl := h.place
  have hci : (c.toNat : Int) < 8 := by omega
  have hci0 : (0 : Int) ≤ c.toNat := by omega
  have h9 : ((c.toNat : Int) == 9) = false := by simp; omega
  have h8 : ((c.toNat : Int) == 8) = false := by simp; omega
  have h9i : decide ((9 : Int) < c.toNat) = false := decide_eq_false (by omega)
  have H := Lib.hid (And.intro (Begun.mk' h.rd) h)
  clear h
  by_cases hroom : p + 1 + c.toNat + ow ≤ 65536
  · rw [if_pos hroom]
    obtain ⟨R, hR⟩ : ∃ R, R = (match digits c.toNat true 0 r with | .error e => .error e | .ok (n, r') => .ok (.mk 1 n ⟨#[]⟩ [], p + 1 + c.toNat, r') : Except Int (Pt × Nat × List UInt8)) := ⟨_, rfl⟩
    rw [← hR]
    have hrt : decide (p + 1 + c.toNat + ow ≤ 65536) = true := decide_eq_true hroom
    have HD := Lib.hid (And.intro hR hrt)
    clear hR hrt
    go_enter Tryd.func130, Tryd.ntmps130
    go_wp2_with fail
    refine ((next_at s g p ow _ H.out.1.rd (by omega) (by omega)).2 c r H.out.2.text).mono ?_
    rintro e w2 ⟨rfl, hb1, hb2⟩
    have HB := Lib.hid (H.out.1.call hglt hb1 hb2)
    clear hb1 hb2
    go_wp2_with fail
    refine (room_any s g (p + 1) ow c.toNat _ HB.out.rd (by omega) (by omega) (by omega)).mono ?_
    rintro e w3 ⟨rfl, hb1, hb2⟩
    have HB3 := Lib.hid (HB.out.call hglt hb1 hb2)
    clear hb1 hb2
    rw [HD.out.2]
    go_wp2_with fail
    refine (number_any s g (p + 1) ow c.toNat _ HB3.out.rd (by omega) hpl (by omega)).mono ?_
    rw [H.out.2.rest, digitsAt_of H.out.2.rest hpl]
    rintro e w4 ⟨hk4, hres⟩
    cases hd : digits c.toNat true 0 r with
    | error x =>
      rw [hd] at hres
      obtain ⟨hx0, rfl⟩ := hres
      have hx : (x == 0) = false := by simpa using hx0
      obtain ⟨q0, q1, q2, q3, f⟩ := row_cells (Begun.row' HB3.out.row hglt hk4)
      have HX := Lib.hid (And.intro hd (And.intro (HB3.out.kept.trans hk4) hx0))
      clear hd hk4 hx0
      go_wp2_with fail
      refine bodyPost_ret (v := .tuple #[zeroIt, .int .i64 x]) (by simp [results, Tryd.results130, go_sem, q0, q1, q2, q3, zeroIt]) rfl ?_
      refine ⟨HX.out.2.1.setCells w.heap.size (Nat.le_refl _) hglt [.int .i64 0, .int .i64 0, .string ⟨#[]⟩, .slice none 0 0] 0, ?_⟩
      rw [HD.out.1, HX.out.1]
      exact ⟨HX.out.2.2, rfl⟩
    | ok nr =>
      obtain ⟨n, r'⟩ := nr
      rw [hd] at hres
      obtain ⟨rfl, hrd, hq⟩ := hres
      have hrow4 := Begun.row' HB3.out.row hglt hk4
      have HX := Lib.hid (And.intro hd (And.intro (HB3.out.kept.trans hk4) (And.intro hrd (And.intro hq hrow4))))
      clear hd hk4 hrd hq hrow4
      go_wp2_with fail
      refine (num_any n _).mono ?_
      rintro e w5 ⟨rfl, hb5⟩
      have hrow5 : w5.heap[w.heap.size]? = some (.cells zc 104 (0, 0)) := (hb5.block _ (lt_of_heap HX.out.2.2.2.2)).trans HX.out.2.2.2.2
      obtain ⟨q0, q1, q2, q3, f⟩ := row_cells hrow5
      have hgl4 : g < w4.heap.size := HX.out.2.2.1.lt
      have hrd5 : Rd s g (p + 1 + c.toNat) ow w5 := (hb5.block _ hgl4).trans HX.out.2.2.1
      have HY := Lib.hid (And.intro (HX.out.2.1.trans (RdKept.of_below (g := g) (a := w4) hgl4 hb5)) hrd5)
      clear hb5 hrow5 hrd5
      go_wp2_with fail
      refine bodyPost_ret (v := .tuple #[.agg #[.int .i64 1, .int .i64 n, .string ⟨#[]⟩, .slice none 0 0], .int .i64 0]) (by simp [results, Tryd.results130, go_sem, q0, q1, q2, q3]) rfl ?_
      refine ⟨HY.out.1.setCells w.heap.size (Nat.le_refl _) hglt [.int .i64 1, .int .i64 n, .string ⟨#[]⟩, .slice none 0 0] 0, ?_⟩
      rw [HD.out.1, HX.out.1]
      refine ⟨.mk 1 n ⟨#[]⟩ none 0 [], rfl, rfl, ⟨⟨Nat.zero_le _, ⟨Nat.zero_le _, fun h => absurd rfl h⟩, trivial⟩, Nat.le_refl 0⟩, HY.out.2.setCells w.heap.size hglt [.int .i64 1, .int .i64 n, .string ⟨#[]⟩, .slice none 0 0] 0, HX.out.2.2.2.1, ?_⟩
      obtain ⟨-, -, h3, -⟩ := digits_first (by omega) HX.out.1
      rw [← List.drop_drop, H.out.2.rest, h3, List.drop_append_of_le_length (by rw [be_length]; exact Nat.le_refl _), List.drop_of_length_le (by rw [be_length]; exact Nat.le_refl _)]
      rfl
  · rw [if_neg hroom]
    have hrt : decide (p + 1 + c.toNat + ow ≤ 65536) = false := decide_eq_false hroom
    have HD := Lib.hid hrt
    clear hrt hroom
    go_enter Tryd.func130, Tryd.ntmps130
    go_wp2_with fail
    refine ((next_at s g p ow _ H.out.1.rd (by omega) (by omega)).2 c r H.out.2.text).mono ?_
    rintro e w2 ⟨rfl, hb1, hb2⟩
    have HB := Lib.hid (H.out.1.call hglt hb1 hb2)
    clear hb1 hb2
    go_wp2_with fail
    refine (room_any s g (p + 1) ow c.toNat _ HB.out.rd (by omega) (by omega) (by omega)).mono ?_
    rintro e w3 ⟨rfl, hb1, hb2⟩
    have HB3 := Lib.hid (HB.out.call hglt hb1 hb2)
    clear hb1 hb2
    rw [HD.out]
    obtain ⟨q0, q1, q2, q3, f⟩ := row_cells HB3.out.row
    go_wp2_with fail
    refine bodyPost_ret (v := .tuple #[zeroIt, .int .i64 3]) (by simp [results, Tryd.results130, go_sem, q0, q1, q2, q3, zeroIt]) rfl ?_
    exact ⟨HB3.out.kept.setCells w.heap.size (Nat.le_refl _) hglt [.int .i64 0, .int .i64 0, .string ⟨#[]⟩, .slice none 0 0] 0, by decide, rfl⟩
theorem item_any : ∀ d, d ≤ 6 → ReadsSo d
  | 0, _, s, g, p, ow, w, hsz, h, hp, hps => by
    cases hl : s.data.toList.drop p with
    | nil => rw [← hl]; exact item_nil 0 s g p ow w h hp hps hl
    | cons c r =>
      have hat : AtHand s g p ow 0 w c r := ⟨h, hp, by have := congrArg List.length hl; simp at this; omega, hl, by rw [← List.drop_drop, hl]; rfl⟩
      rw [← hl]
      by_cases h9 : 9 < c.toNat
      · exact item_odd 0 s g p ow w c r hat h9
      · by_cases e9 : c.toNat = 9
        · exact item_deep s g p ow w c r hat e9
        · by_cases e8 : c.toNat = 8
          · exact item_text 0 s hsz g p ow w c r hat e8
          · exact item_num 0 s g p ow w c r hat (by omega)
  | d + 1, hd, s, g, p, ow, w, hsz, h, hp, hps => by
    cases hl : s.data.toList.drop p with
    | nil => rw [← hl]; exact item_nil (d + 1) s g p ow w h hp hps hl
    | cons c r =>
      have hat : AtHand s g p ow (d + 1) w c r := ⟨h, hp, by have := congrArg List.length hl; simp at this; omega, hl, by rw [← List.drop_drop, hl]; rfl⟩
      rw [← hl]
      by_cases h9 : 9 < c.toNat
      · exact item_odd (d + 1) s g p ow w c r hat h9
      · by_cases e9 : c.toNat = 9
        · exact item_list d (item_any d (by omega)) hd s hsz _ (by omega) g p ow w c r hat e9
        · by_cases e8 : c.toNat = 8
          · exact item_text (d + 1) s hsz g p ow w c r hat e8
          · exact item_num (d + 1) s g p ow w c r hat (by omega)
end Go.Proofs.YtgoimggfpagojaaDoor
