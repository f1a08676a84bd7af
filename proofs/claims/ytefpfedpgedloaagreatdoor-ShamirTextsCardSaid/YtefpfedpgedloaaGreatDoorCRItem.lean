/- The reader: item. -/
import Derived.Test.YtefpfedpgedloaaGreatDoorCRList
namespace Go.Proofs.YtefpfedpgedloaaGreatDoor
open Go.RowKit
open Cn

abbrev zc : Array Value := #[.int .i64 0, .int .i64 0, .string ⟨#[]⟩, .slice none 0 0]
/-- The world behind 'var result': the new block, the reader as it was. -/
structure Begun (s : ByteArray) (g p ow : Nat) (w W : World) : Prop where
  row : W.heap[w.heap.size]? = some (.cells zc 60 (0, 0))
  rd : Rd s g p ow W
  kept : RdKept g w W
theorem Begun.mk' {s : ByteArray} {g p ow : Nat} {w : World} (h : Rd s g p ow w) : Begun s g p ow w (w.alloc (.cells zc 60)) :=
  ⟨heap_alloc_new _ _, (Lib.alloc_old _ _ _ h.lt).trans h, (RdKept.refl g w).alloc h.lt _⟩
theorem Begun.call {s : ByteArray} {g p ow q : Nat} {w W W' : World} (h : Begun s g p ow w W) (hgl : g < w.heap.size) (hr : Rd s g q ow W') (hk : RdKept g W W') : Begun s g q ow w W' :=
  ⟨(hk.2 _ (lt_of_heap h.row) (by omega)).trans h.row, hr, h.kept.trans hk⟩
theorem Begun.row' {g : Nat} {w W W' : World} (h : W.heap[w.heap.size]? = some (.cells zc 60 (0, 0))) (hgl : g < w.heap.size) (hk : RdKept g W W') : W'.heap[w.heap.size]? = some (.cells zc 60 (0, 0)) :=
  (hk.2 _ (lt_of_heap h) (by omega)).trans h
theorem row_cells {W : World} {b : Nat} (h : W.heap[b]? = some (.cells zc 60 (0, 0))) : W.cell? ⟨b, 0, none⟩ = some (.int .i64 0) ∧ W.cell? ⟨b, 1, none⟩ = some (.int .i64 0) ∧ W.cell? ⟨b, 2, none⟩ = some (.string ⟨#[]⟩) ∧ W.cell? ⟨b, 3, none⟩ = some (.slice none 0 0) ∧ ∀ j, W.frozen? ⟨b, j, none⟩ = false :=
  ⟨by rw [Lib.cell_of_heap h]; rfl, by rw [Lib.cell_of_heap h]; rfl, by rw [Lib.cell_of_heap h]; rfl, by rw [Lib.cell_of_heap h]; rfl, fun j => Lib.frozen_of_heap h j⟩
set_option maxRecDepth 100000 in
set_option maxHeartbeats 400000 in
theorem item_nil (d : Nat) (s : ByteArray) (g p ow : Nat) (w : World) (h : Rd s g p ow w) (hp : p + ow ≤ 65536) (hps : p ≤ s.size) (hl : s.data.toList.drop p = []) :
    Calls Tryz.prog 68 #[.pointer (some ⟨g, 0, none⟩), .int .i64 (6 - d)] w (ItPost s g ow w (item d ow p (s.data.toList.drop p))) := by
  have hR : item d ow p (s.data.toList.drop p) = .error 7 := by rw [hl]; cases d <;> rfl
  rw [hR]
  have hglt := h.lt
  have H := Lib.hid (And.intro (Begun.mk' h) hl)
  clear h hl hR
  go_enter Tryz.func68, Tryz.ntmps68
  go_wp2_with fail
  refine ((next_at s g p ow _ H.out.1.rd (by omega) hps).1 H.out.2).mono ?_
  rintro e w2 ⟨rfl, hb1, hb2⟩
  have HB := Lib.hid (H.out.1.call hglt hb1 hb2)
  clear hb1 hb2
  obtain ⟨q0, q1, q2, q3, f⟩ := row_cells HB.out.row
  go_wp2_with fail
  refine bodyPost_ret (v := .tuple #[zeroIt, .int .i64 7]) (by simp [results, Tryz.results68, go_sem, q0, q1, q2, q3, zeroIt]) rfl ?_
  exact ⟨HB.out.kept.setCells w.heap.size (Nat.le_refl _) hglt [.int .i64 0, .int .i64 0, .string ⟨#[]⟩, .slice none 0 0] 0, by decide, rfl⟩
/-- The byte at hand, and the rest. -/
structure AtHand (s : ByteArray) (g p ow d : Nat) (w : World) (c : UInt8) (r : List UInt8) : Prop where
  rd : Rd s g p ow w
  fit : p + ow ≤ 65536
  place : p + 1 ≤ s.size
  text : s.data.toList.drop p = c :: r
  rest : s.data.toList.drop (p + 1) = r
set_option maxRecDepth 100000 in
set_option maxHeartbeats 400000 in
theorem item_deep (s : ByteArray) (g p ow : Nat) (w : World) (c : UInt8) (r : List UInt8) (h : AtHand s g p ow 0 w c r) (hc : c.toNat = 9) :
    Calls Tryz.prog 68 #[.pointer (some ⟨g, 0, none⟩), .int .i64 6] w (ItPost s g ow w (item 0 ow p (s.data.toList.drop p))) := by
  have hR : item 0 ow p (s.data.toList.drop p) = .error 3 := by rw [h.text, item.eq_def]; simp [hc]
  rw [hR]
  have hglt := h.rd.lt
  have hfit := h.fit
  have hpl := h.place
  have hci : (c.toNat : Int) = 9 := by omega
  have H := Lib.hid (And.intro (Begun.mk' h.rd) (And.intro h hci))
  clear h hR hci hc
  go_enter Tryz.func68, Tryz.ntmps68
  go_wp2_with fail
  refine ((next_at s g p ow _ H.out.1.rd (by omega) (by omega)).2 c r H.out.2.1.text).mono ?_
  rintro e w2 ⟨rfl, hb1, hb2⟩
  have HB := Lib.hid (H.out.1.call hglt hb1 hb2)
  clear hb1 hb2
  obtain ⟨q0, q1, q2, q3, f⟩ := row_cells HB.out.row
  rw [H.out.2.2]
  go_wp2_with fail
  refine bodyPost_ret (v := .tuple #[zeroIt, .int .i64 3]) (by simp [results, Tryz.results68, go_sem, q0, q1, q2, q3, zeroIt]) rfl ?_
  exact ⟨HB.out.kept.setCells w.heap.size (Nat.le_refl _) hglt [.int .i64 0, .int .i64 0, .string ⟨#[]⟩, .slice none 0 0] 0, by decide, rfl⟩
set_option maxRecDepth 100000 in
set_option maxHeartbeats 400000 in
theorem item_odd (d : Nat) (s : ByteArray) (g p ow : Nat) (w : World) (c : UInt8) (r : List UInt8) (h : AtHand s g p ow d w c r) (hc : 9 < c.toNat) :
    Calls Tryz.prog 68 #[.pointer (some ⟨g, 0, none⟩), .int .i64 (6 - d)] w (ItPost s g ow w (item d ow p (s.data.toList.drop p))) := by
  have hR : item d ow p (s.data.toList.drop p) = .error 3 := by rw [h.text, item.eq_def]; simp only; rw [if_neg (by omega), if_pos (.inl hc)]
  rw [hR]
  have hglt := h.rd.lt
  have hfit := h.fit
  have hpl := h.place
  have hci : (9 : Int) < c.toNat := by omega
  have h9 : ((c.toNat : Int) == 9) = false := by simp; omega
  have h8 : ((c.toNat : Int) == 8) = false := by simp; omega
  have H := Lib.hid (And.intro (Begun.mk' h.rd) h)
  clear h hR hc
  go_enter Tryz.func68, Tryz.ntmps68
  go_wp2_with fail
  refine ((next_at s g p ow _ H.out.1.rd (by omega) (by omega)).2 c r H.out.2.text).mono ?_
  rintro e w2 ⟨rfl, hb1, hb2⟩
  have HB := Lib.hid (H.out.1.call hglt hb1 hb2)
  clear hb1 hb2
  obtain ⟨q0, q1, q2, q3, f⟩ := row_cells HB.out.row
  go_wp2_with fail
  refine bodyPost_ret (v := .tuple #[zeroIt, .int .i64 3]) (by simp [results, Tryz.results68, go_sem, q0, q1, q2, q3, zeroIt]) rfl ?_
  exact ⟨HB.out.kept.setCells w.heap.size (Nat.le_refl _) hglt [.int .i64 0, .int .i64 0, .string ⟨#[]⟩, .slice none 0 0] 0, by decide, rfl⟩
theorem ItPost.shape {s : ByteArray} {g ow : Nat} {w w' : World} {R : Except Int (Pt × Nat × List UInt8)} {e : Ending} (h : ItPost s g ow w R e w') :
    ∃ k n s' a len cap x, e = .returned (.tuple #[.agg #[.int .i64 k, .int .i64 n, .string s', .slice a len cap], .int .i64 x]) := by
  obtain ⟨-, h⟩ := h
  cases R with
  | error x => exact ⟨_, _, _, _, _, _, _, h.2⟩
  | ok y =>
    obtain ⟨x, q, r⟩ := y
    obtain ⟨it, -, he, -⟩ := h
    exact ⟨_, _, _, _, _, _, _, he⟩
theorem ItPost.store {s : ByteArray} {g ow : Nat} {w w2 w3 : World} {R : Except Int (Pt × Nat × List UInt8)} {e : Ending} (h : ItPost s g ow w2 R e w3) (hgl : g < w.heap.size) (hk : RdKept g w w2) (hs : w.heap.size < w2.heap.size) (vs : List Value) :
    ItPost s g ow w R e (w3.setCells w.heap.size 0 vs) := by
  obtain ⟨h0, h⟩ := h
  refine ⟨(hk.trans h0).setCells _ (Nat.le_refl _) hgl vs 0, ?_⟩
  cases R with
  | error x => exact h
  | ok y =>
    obtain ⟨x, q, r⟩ := y
    obtain ⟨it, h1, h2, h3, h4, h5, h6⟩ := h
    refine ⟨it, h1, h2, It.In.kept ⟨fun b hb _ => ⟨by have : w2.heap.size ≤ b := hb; omega, c_heap_setCells_other _ _ (by have : w2.heap.size ≤ b := hb; omega) _ _ _⟩, by rw [c_size_setCells]; exact Nat.le_refl _⟩ it h3, h4.setCells _ hgl vs 0, h5, h6⟩
theorem item_eq8 {d ow p : Nat} {c : UInt8} {r : List UInt8} (hc : c.toNat = 8) : item d ow p (c :: r) = if p + 1 + 1 + ow ≤ 65536 then textR (p + 1) ow r else .error 3 := by
  rw [item.eq_def]
  simp only [hc]
  by_cases h : p + 1 + 1 + ow ≤ 65536
  · rw [if_neg (by omega), if_neg (by simp; omega), if_neg (by decide), if_pos trivial, if_pos h]
    rfl
  · rw [if_neg (by omega), if_pos (by simp; omega), if_neg h]
theorem item_eq9 {d ow p : Nat} {c : UInt8} {r : List UInt8} (hc : c.toNat = 9) : item (d + 1) ow p (c :: r) = if p + 1 + 1 + ow ≤ 65536 then listR d (p + 1) ow r else .error 3 := by
  rw [item.eq_def]
  simp only [hc]
  by_cases h : p + 1 + 1 + ow ≤ 65536
  · rw [if_neg (by omega), if_neg (by simp; omega), if_neg (by decide), if_neg (by decide), if_pos h]
    rfl
  · rw [if_neg (by omega), if_pos (by simp; omega), if_neg h]
theorem item_eqn {d ow p : Nat} {c : UInt8} {r : List UInt8} (hc : c.toNat < 8) : item d ow p (c :: r) = if p + 1 + c.toNat + ow ≤ 65536 then (match digits c.toNat true 0 r with | .error e => .error e | .ok (n, r') => .ok (.mk 1 n ⟨#[]⟩ [], p + 1 + c.toNat, r')) else .error 3 := by
  rw [item.eq_def]
  simp only [if_pos hc]
  by_cases h : p + 1 + c.toNat + ow ≤ 65536
  · rw [if_neg (by omega), if_neg (by omega), if_pos h]
    rfl
  · rw [if_neg (by omega), if_pos (by omega), if_neg h]
set_option maxRecDepth 100000 in
set_option maxHeartbeats 400000 in
theorem item_text (d : Nat) (s : ByteArray) (hsz : s.size ≤ maxLen) (g p ow : Nat) (w : World) (c : UInt8) (r : List UInt8) (h : AtHand s g p ow d w c r) (hc : c.toNat = 8) :
    Calls Tryz.prog 68 #[.pointer (some ⟨g, 0, none⟩), .int .i64 (6 - d)] w (ItPost s g ow w (item d ow p (s.data.toList.drop p))) := by
  rw [h.text, item_eq8 hc]
  have hglt := h.rd.lt
  have hfit := h.fit
  have hpl := h.place
  have hci : (c.toNat : Int) = 8 := by omega
  have H := Lib.hid (And.intro (Begun.mk' h.rd) (And.intro h hci))
  clear h hc hci
  by_cases hroom : p + 1 + 1 + ow ≤ 65536
  · rw [if_pos hroom]
    obtain ⟨R, hR⟩ : ∃ R, R = textR (p + 1) ow r := ⟨_, rfl⟩
    rw [← hR]
    have hrt : decide (p + 1 + 1 + ow ≤ 65536) = true := decide_eq_true hroom
    have HD := Lib.hid (And.intro hR hrt)
    clear hR hrt
    go_enter Tryz.func68, Tryz.ntmps68
    go_wp2_with fail
    refine ((next_at s g p ow _ H.out.1.rd (by omega) (by omega)).2 c r H.out.2.1.text).mono ?_
    rintro e w2 ⟨rfl, hb1, hb2⟩
    have HB := Lib.hid (H.out.1.call hglt hb1 hb2)
    clear hb1 hb2
    rw [H.out.2.2]
    go_wp2_with fail
    refine (room_any s g (p + 1) ow 1 _ HB.out.rd (by omega) (by omega) (by omega)).mono ?_
    rintro e w3 ⟨rfl, hb1, hb2⟩
    have HB3 := Lib.hid (HB.out.call hglt hb1 hb2)
    clear hb1 hb2
    rw [HD.out.2]
    go_wp2_with fail
    refine (rdText_any s hsz g (p + 1) ow _ HB3.out.rd (by omega) hpl (by omega)).mono ?_
    intro e w4 hpost
    rw [H.out.2.1.rest, ← HD.out.1] at hpost
    obtain ⟨k4, n4, s4, a4, l4, cap4, x4, rfl⟩ := hpost.shape
    obtain ⟨q0, q1, q2, q3, f⟩ := row_cells (Begun.row' HB3.out.row hglt hpost.1)
    have HP := Lib.hid (hpost.store hglt HB3.out.kept (lt_of_heap HB3.out.row) [.int .i64 k4, .int .i64 n4, .string s4, .slice a4 l4 cap4])
    clear hpost
    go_wp2_with fail
    exact bodyPost_ret (v := .tuple #[.agg #[.int .i64 k4, .int .i64 n4, .string s4, .slice a4 l4 cap4], .int .i64 x4]) (by simp [results, Tryz.results68, go_sem, q0, q1, q2, q3]) rfl HP.out
  · rw [if_neg hroom]
    have hrt : decide (p + 1 + 1 + ow ≤ 65536) = false := decide_eq_false hroom
    have HD := Lib.hid hrt
    clear hrt hroom
    go_enter Tryz.func68, Tryz.ntmps68
    go_wp2_with fail
    refine ((next_at s g p ow _ H.out.1.rd (by omega) (by omega)).2 c r H.out.2.1.text).mono ?_
    rintro e w2 ⟨rfl, hb1, hb2⟩
    have HB := Lib.hid (H.out.1.call hglt hb1 hb2)
    clear hb1 hb2
    rw [H.out.2.2]
    go_wp2_with fail
    refine (room_any s g (p + 1) ow 1 _ HB.out.rd (by omega) (by omega) (by omega)).mono ?_
    rintro e w3 ⟨rfl, hb1, hb2⟩
    have HB3 := Lib.hid (HB.out.call hglt hb1 hb2)
    clear hb1 hb2
    rw [HD.out]
    obtain ⟨q0, q1, q2, q3, f⟩ := row_cells HB3.out.row
    go_wp2_with fail
    refine bodyPost_ret (v := .tuple #[zeroIt, .int .i64 3]) (by simp [results, Tryz.results68, go_sem, q0, q1, q2, q3, zeroIt]) rfl ?_
    exact ⟨HB3.out.kept.setCells w.heap.size (Nat.le_refl _) hglt [.int .i64 0, .int .i64 0, .string ⟨#[]⟩, .slice none 0 0] 0, by decide, rfl⟩
set_option maxRecDepth 100000 in
set_option maxHeartbeats 400000 in
theorem item_list (d : Nat) (ih : ReadsSo d) (hd6 : d + 1 ≤ 6) (s : ByteArray) (hsz : s.size ≤ maxLen) (a : Int) (ha : a + 1 = 6 - (d : Int)) (g p ow : Nat) (w : World) (c : UInt8) (r : List UInt8) (h : AtHand s g p ow (d + 1) w c r) (hc : c.toNat = 9) :
    Calls Tryz.prog 68 #[.pointer (some ⟨g, 0, none⟩), .int .i64 a] w (ItPost s g ow w (item (d + 1) ow p (s.data.toList.drop p))) := by
  rw [h.text, item_eq9 hc]
  have hglt := h.rd.lt
  have hfit := h.fit
  have hpl := h.place
  have hci : (c.toNat : Int) = 9 := by omega
  have ha6 : (a == 6) = false := by simp; omega
  have ha6' : ¬ a = 6 := by omega
  have H := Lib.hid (And.intro (Begun.mk' h.rd) (And.intro h hci))
  clear h hc hci
  by_cases hroom : p + 1 + 1 + ow ≤ 65536
  · rw [if_pos hroom]
    obtain ⟨R, hR⟩ : ∃ R, R = listR d (p + 1) ow r := ⟨_, rfl⟩
    rw [← hR]
    have hrt : decide (p + 1 + 1 + ow ≤ 65536) = true := decide_eq_true hroom
    have HD := Lib.hid (And.intro hR hrt)
    clear hR hrt
    go_enter Tryz.func68, Tryz.ntmps68
    go_wp2_with fail
    refine ((next_at s g p ow _ H.out.1.rd (by omega) (by omega)).2 c r H.out.2.1.text).mono ?_
    rintro e w2 ⟨rfl, hb1, hb2⟩
    have HB := Lib.hid (H.out.1.call hglt hb1 hb2)
    clear hb1 hb2
    rw [H.out.2.2]
    go_wp2_with fail
    refine (room_any s g (p + 1) ow 1 _ HB.out.rd (by omega) (by omega) (by omega)).mono ?_
    rintro e w3 ⟨rfl, hb1, hb2⟩
    have HB3 := Lib.hid (HB.out.call hglt hb1 hb2)
    clear hb1 hb2
    rw [HD.out.2]
    go_wp2_with fail
    refine (rdList_any d (by omega) ih a ha s hsz g (p + 1) ow _ HB3.out.rd (by omega) hpl (by omega)).mono ?_
    intro e w4 hpost
    rw [H.out.2.1.rest, ← HD.out.1] at hpost
    obtain ⟨k4, n4, s4, a4, l4, cap4, x4, rfl⟩ := hpost.shape
    obtain ⟨q0, q1, q2, q3, f⟩ := row_cells (Begun.row' HB3.out.row hglt hpost.1)
    have HP := Lib.hid (hpost.store hglt HB3.out.kept (lt_of_heap HB3.out.row) [.int .i64 k4, .int .i64 n4, .string s4, .slice a4 l4 cap4])
    clear hpost
    go_wp2_with fail
    exact bodyPost_ret (v := .tuple #[.agg #[.int .i64 k4, .int .i64 n4, .string s4, .slice a4 l4 cap4], .int .i64 x4]) (by simp [results, Tryz.results68, go_sem, q0, q1, q2, q3]) rfl HP.out
  · rw [if_neg hroom]
    have hrt : decide (p + 1 + 1 + ow ≤ 65536) = false := decide_eq_false hroom
    have HD := Lib.hid hrt
    clear hrt hroom
    go_enter Tryz.func68, Tryz.ntmps68
    go_wp2_with fail
    refine ((next_at s g p ow _ H.out.1.rd (by omega) (by omega)).2 c r H.out.2.1.text).mono ?_
    rintro e w2 ⟨rfl, hb1, hb2⟩
    have HB := Lib.hid (H.out.1.call hglt hb1 hb2)
    clear hb1 hb2
    rw [H.out.2.2]
    go_wp2_with fail
    refine (room_any s g (p + 1) ow 1 _ HB.out.rd (by omega) (by omega) (by omega)).mono ?_
    rintro e w3 ⟨rfl, hb1, hb2⟩
    have HB3 := Lib.hid (HB.out.call hglt hb1 hb2)
    clear hb1 hb2
    rw [HD.out]
    obtain ⟨q0, q1, q2, q3, f⟩ := row_cells HB3.out.row
    go_wp2_with fail
    refine bodyPost_ret (v := .tuple #[zeroIt, .int .i64 3]) (by simp [results, Tryz.results68, go_sem, q0, q1, q2, q3, zeroIt]) rfl ?_
    exact ⟨HB3.out.kept.setCells w.heap.size (Nat.le_refl _) hglt [.int .i64 0, .int .i64 0, .string ⟨#[]⟩, .slice none 0 0] 0, by decide, rfl⟩
set_option maxRecDepth 100000 in
set_option maxHeartbeats 400000 in
theorem item_num (d : Nat) (s : ByteArray) (g p ow : Nat) (w : World) (c : UInt8) (r : List UInt8) (h : AtHand s g p ow d w c r) (hc : c.toNat < 8) :
    Calls Tryz.prog 68 #[.pointer (some ⟨g, 0, none⟩), .int .i64 (6 - d)] w (ItPost s g ow w (item d ow p (s.data.toList.drop p))) := by
  rw [h.text, item_eqn hc]
  have hglt := h.rd.lt
  have hfit := h.fit
  have hpl := h.place
  have hci : (c.toNat : Int) < 8 := by omega
  have hci0 : (0 : Int) ≤ c.toNat := by omega
  have h9 : ((c.toNat : Int) == 9) = false := by simp; omega
  have h8 : ((c.toNat : Int) == 8) = false := by simp; omega
  have h9i : decide ((9 : Int) < c.toNat) = false := decide_eq_false (by omega)
  have H := Lib.hid (And.intro (Begun.mk' h.rd) h)
  clear h
  by_cases hroom : p + 1 + c.toNat + ow ≤ 65536
  · rw [if_pos hroom]
    obtain ⟨R, hR⟩ : ∃ R, R = (match digits c.toNat true 0 r with | .error e => .error e | .ok (n, r') => .ok (.mk 1 n ⟨#[]⟩ [], p + 1 + c.toNat, r') : Except Int (Pt × Nat × List UInt8)) := ⟨_, rfl⟩
    rw [← hR]
    have hrt : decide (p + 1 + c.toNat + ow ≤ 65536) = true := decide_eq_true hroom
    have HD := Lib.hid (And.intro hR hrt)
    clear hR hrt
    go_enter Tryz.func68, Tryz.ntmps68
    go_wp2_with fail
    refine ((next_at s g p ow _ H.out.1.rd (by omega) (by omega)).2 c r H.out.2.text).mono ?_
    rintro e w2 ⟨rfl, hb1, hb2⟩
    have HB := Lib.hid (H.out.1.call hglt hb1 hb2)
    clear hb1 hb2
    go_wp2_with fail
    refine (room_any s g (p + 1) ow c.toNat _ HB.out.rd (by omega) (by omega) (by omega)).mono ?_
    rintro e w3 ⟨rfl, hb1, hb2⟩
    have HB3 := Lib.hid (HB.out.call hglt hb1 hb2)
    clear hb1 hb2
    rw [HD.out.2]
    go_wp2_with fail
    refine (number_any s g (p + 1) ow c.toNat _ HB3.out.rd (by omega) hpl (by omega)).mono ?_
    rw [H.out.2.rest, digitsAt_of H.out.2.rest hpl]
    rintro e w4 ⟨hk4, hres⟩
    cases hd : digits c.toNat true 0 r with
    | error x =>
      rw [hd] at hres
      obtain ⟨hx0, rfl⟩ := hres
      have hx : (x == 0) = false := by simpa using hx0
      obtain ⟨q0, q1, q2, q3, f⟩ := row_cells (Begun.row' HB3.out.row hglt hk4)
      have HX := Lib.hid (And.intro hd (And.intro (HB3.out.kept.trans hk4) hx0))
      clear hd hk4 hx0
      go_wp2_with fail
      refine bodyPost_ret (v := .tuple #[zeroIt, .int .i64 x]) (by simp [results, Tryz.results68, go_sem, q0, q1, q2, q3, zeroIt]) rfl ?_
      refine ⟨HX.out.2.1.setCells w.heap.size (Nat.le_refl _) hglt [.int .i64 0, .int .i64 0, .string ⟨#[]⟩, .slice none 0 0] 0, ?_⟩
      rw [HD.out.1, HX.out.1]
      exact ⟨HX.out.2.2, rfl⟩
    | ok nr =>
      obtain ⟨n, r'⟩ := nr
      rw [hd] at hres
      obtain ⟨rfl, hrd, hq⟩ := hres
      have hrow4 := Begun.row' HB3.out.row hglt hk4
      have HX := Lib.hid (And.intro hd (And.intro (HB3.out.kept.trans hk4) (And.intro hrd (And.intro hq hrow4))))
      clear hd hk4 hrd hq hrow4
      go_wp2_with fail
      refine (num_any n _).mono ?_
      rintro e w5 ⟨rfl, hb5⟩
      have hrow5 : w5.heap[w.heap.size]? = some (.cells zc 60 (0, 0)) := (hb5.block _ (lt_of_heap HX.out.2.2.2.2)).trans HX.out.2.2.2.2
      obtain ⟨q0, q1, q2, q3, f⟩ := row_cells hrow5
      have hgl4 : g < w4.heap.size := HX.out.2.2.1.lt
      have hrd5 : Rd s g (p + 1 + c.toNat) ow w5 := (hb5.block _ hgl4).trans HX.out.2.2.1
      have HY := Lib.hid (And.intro (HX.out.2.1.trans (RdKept.of_below (g := g) (a := w4) hgl4 hb5)) hrd5)
      clear hb5 hrow5 hrd5
      go_wp2_with fail
      refine bodyPost_ret (v := .tuple #[.agg #[.int .i64 1, .int .i64 n, .string ⟨#[]⟩, .slice none 0 0], .int .i64 0]) (by simp [results, Tryz.results68, go_sem, q0, q1, q2, q3]) rfl ?_
      refine ⟨HY.out.1.setCells w.heap.size (Nat.le_refl _) hglt [.int .i64 1, .int .i64 n, .string ⟨#[]⟩, .slice none 0 0] 0, ?_⟩
      rw [HD.out.1, HX.out.1]
      refine ⟨.mk 1 n ⟨#[]⟩ none 0 [], rfl, rfl, ⟨Nat.zero_le _, ⟨Nat.zero_le _, fun h => absurd rfl h⟩, trivial⟩, HY.out.2.setCells w.heap.size hglt [.int .i64 1, .int .i64 n, .string ⟨#[]⟩, .slice none 0 0] 0, HX.out.2.2.2.1, ?_⟩
      obtain ⟨-, -, h3, -⟩ := digits_first (by omega) HX.out.1
      rw [← List.drop_drop, H.out.2.rest, h3, List.drop_append_of_le_length (by rw [be_length]; exact Nat.le_refl _), List.drop_of_length_le (by rw [be_length]; exact Nat.le_refl _)]
      rfl
  · rw [if_neg hroom]
    have hrt : decide (p + 1 + c.toNat + ow ≤ 65536) = false := decide_eq_false hroom
    have HD := Lib.hid hrt
    clear hrt hroom
    go_enter Tryz.func68, Tryz.ntmps68
    go_wp2_with fail
    refine ((next_at s g p ow _ H.out.1.rd (by omega) (by omega)).2 c r H.out.2.text).mono ?_
    rintro e w2 ⟨rfl, hb1, hb2⟩
    have HB := Lib.hid (H.out.1.call hglt hb1 hb2)
    clear hb1 hb2
    go_wp2_with fail
    refine (room_any s g (p + 1) ow c.toNat _ HB.out.rd (by omega) (by omega) (by omega)).mono ?_
    rintro e w3 ⟨rfl, hb1, hb2⟩
    have HB3 := Lib.hid (HB.out.call hglt hb1 hb2)
    clear hb1 hb2
    rw [HD.out]
    obtain ⟨q0, q1, q2, q3, f⟩ := row_cells HB3.out.row
    go_wp2_with fail
    refine bodyPost_ret (v := .tuple #[zeroIt, .int .i64 3]) (by simp [results, Tryz.results68, go_sem, q0, q1, q2, q3, zeroIt]) rfl ?_
    exact ⟨HB3.out.kept.setCells w.heap.size (Nat.le_refl _) hglt [.int .i64 0, .int .i64 0, .string ⟨#[]⟩, .slice none 0 0] 0, by decide, rfl⟩
theorem item_any : ∀ d, d ≤ 6 → ReadsSo d
  | 0, _, s, g, p, ow, w, hsz, h, hp, hps => by
    cases hl : s.data.toList.drop p with
    | nil => rw [← hl]; exact item_nil 0 s g p ow w h hp hps hl
    | cons c r =>
      have hat : AtHand s g p ow 0 w c r := ⟨h, hp, by have := congrArg List.length hl; simp at this; omega, hl, by rw [← List.drop_drop, hl]; rfl⟩
      rw [← hl]
      by_cases h9 : 9 < c.toNat
      · exact item_odd 0 s g p ow w c r hat h9
      · by_cases e9 : c.toNat = 9
        · exact item_deep s g p ow w c r hat e9
        · by_cases e8 : c.toNat = 8
          · exact item_text 0 s hsz g p ow w c r hat e8
          · exact item_num 0 s g p ow w c r hat (by omega)
  | d + 1, hd, s, g, p, ow, w, hsz, h, hp, hps => by
    cases hl : s.data.toList.drop p with
    | nil => rw [← hl]; exact item_nil (d + 1) s g p ow w h hp hps hl
    | cons c r =>
      have hat : AtHand s g p ow (d + 1) w c r := ⟨h, hp, by have := congrArg List.length hl; simp at this; omega, hl, by rw [← List.drop_drop, hl]; rfl⟩
      rw [← hl]
      by_cases h9 : 9 < c.toNat
      · exact item_odd (d + 1) s g p ow w c r hat h9
      · by_cases e9 : c.toNat = 9
        · exact item_list d (item_any d (by omega)) hd s hsz _ (by omega) g p ow w c r hat e9
        · by_cases e8 : c.toNat = 8
          · exact item_text (d + 1) s hsz g p ow w c r hat e8
          · exact item_num (d + 1) s g p ow w c r hat (by omega)
end Go.Proofs.YtefpfedpgedloaaGreatDoor
