/- The reference of disk: Sync, New. -/
import Derived.Test.YtefpfedpgedloaaDRNow
namespace Go.Proofs.Ytefpfedpgedloaa
open Go.RowKit
open Dk

theorem keptS_drew {S : Nat → Prop} {w w' : World} (h : KeptS S S w w') : KeptS S S w w'.drew := h
set_option maxRecDepth 100000 in
set_option maxHeartbeats 1000000 in
theorem rsync_any {w : World} {S : Nat → Prop} {cells : Array Value} {R : Disk} (h : RefIn w S cells R) (hS : ∀ g, w.heap.size ≤ g → S g) (hF : Fits R.sure R.waits) (hn : R.sure.length ≤ 64) (hw : R.waits.length ≤ 1000000) :
    Calls Try.prog 33 #[.agg cells] w fun e w' => ∃ cells', e = .returned (.tuple #[.agg cells', .int .i64 R.sync.2]) ∧ RefIn w' S cells' R.sync.1 ∧ Below w.heap.size w w' := by
  have hin := h
  obtain ⟨sv, wv, rfl, hsv, hwv⟩ := h
  obtain ⟨sa, sc, rfl⟩ := hsv.form
  obtain ⟨wa, wc, rfl⟩ := hwv.form
  unfold Disk.sync
  rcases Bool.eq_false_or_eq_true R.down with hd | hd
  · rw [if_pos hd]
    have hB : ∀ o1 o2, Below w.heap.size w ((w.alloc o1).alloc o2) := fun o1 o2 => ((Below.refl _ _).alloc (Nat.le_refl _) _).alloc (by simp) _
    have H := Lib.hid (And.intro hin hB)
    clear hsv hwv hS hF hn hin hB hw
    unfold refCells at *
    rw [hd] at *
    go_enter Try.func33, Try.ntmps33
    go_wp2_with fail
    refine bodyPost_ret (v := .tuple #[.agg #[.int .i64 R.room, .slice sa R.sure.length sc, .slice wa R.waits.length wc, .int .i64 R.changes, .int .i64 R.falls, .bool true, .int .i64 R.after, .int .i64 R.keep, .int .i64 R.torn, .bool R.laid], .int .i64 9]) (by simp [results, Try.results33, go_sem]) rfl ?_
    exact ⟨_, rfl, H.out.1.kept (keptS_below (H.out.2 _ _)), H.out.2 _ _⟩
  · rw [if_neg (by rw [hd]; decide)]
    obtain ⟨w1, hw1⟩ : ∃ w1, w1 = (w.alloc (.cells (refCells R (.slice sa R.sure.length sc) (.slice wa R.waits.length wc)) 32)).alloc (.cells #[.int .i64 0, .slice none 0 0, .slice none 0 0, .int .i64 0, .int .i64 0, .bool false, .int .i64 0, .int .i64 0, .int .i64 0, .bool false] 32) := ⟨_, rfl⟩
    have hB : Below w.heap.size w w1 := by rw [hw1]; exact ((Below.refl _ _).alloc (Nat.le_refl _) _).alloc (by simp) _
    have hb0 : w1.heap[w.heap.size]? = some (.cells (refCells R (.slice sa R.sure.length sc) (.slice wa R.waits.length wc)) 32 (0, 0)) := by rw [hw1, Lib.alloc_old _ _ _ (by simp)]; exact heap_alloc_new _ _
    have hb1 : w1.heap[w.heap.size + 1]? = some (.cells #[.int .i64 0, .slice none 0 0, .slice none 0 0, .int .i64 0, .int .i64 0, .bool false, .int .i64 0, .int .i64 0, .int .i64 0, .bool false] 32 (0, 0)) := by
      rw [hw1]
      have := heap_alloc_new (w.alloc (.cells (refCells R (.slice sa R.sure.length sc) (.slice wa R.waits.length wc)) 32)) (.cells #[.int .i64 0, .slice none 0 0, .slice none 0 0, .int .i64 0, .int .i64 0, .bool false, .int .i64 0, .int .i64 0, .int .i64 0, .bool false] 32)
      rw [show (w.alloc (.cells (refCells R (.slice sa R.sure.length sc) (.slice wa R.waits.length wc)) 32)).heap.size = w.heap.size + 1 by simp] at this
      exact this
    have hsz1 : w1.heap.size = w.heap.size + 2 := by rw [hw1]; simp
    have hnow := rnow_any (S := fun g => S g ∧ g ≠ w.heap.size ∧ g ≠ w.heap.size + 1) (hin.kept (w' := w1) ⟨fun b hs hb => ⟨⟨hs, by omega, by omega⟩, hB.block b hb⟩, hB.size⟩) (fun g hg => ⟨hS g (by omega), by omega, by omega⟩) hF hn hw
    have H := Lib.hid (And.intro hin (And.intro hS (And.intro hB (And.intro hb0 (And.intro hb1 (And.intro hnow (And.intro hsv (And.intro hwv hsz1))))))))
    clear hsv hwv hS hF hn hin hB hb0 hb1 hnow hsz1 hw
    unfold refCells at *
    rw [hd] at *
    go_enter Try.func33, Try.ntmps33
    go_wp2_with fail
    rw [← hw1]
    clear hw1
    refine H.out.2.2.2.2.2.1.mono ?_
    rintro e w2 ⟨v2, rfl, ht2, hb2⟩
    have hsz := H.out.2.2.2.2.2.2.2.2
    have r0 := (hb2.block w.heap.size (by omega)).trans H.out.2.2.2.1
    have r1 := (hb2.block (w.heap.size + 1) (by omega)).trans H.out.2.2.2.2.1
    have c0 : w2.cell? ⟨w.heap.size, 0, none⟩ = some (.int .i64 R.room) := by rw [cell_of_row _ _ _ _ _ _ r0]; rfl
    have c1 : w2.cell? ⟨w.heap.size, 1, none⟩ = some (.slice sa R.sure.length sc) := by rw [cell_of_row _ _ _ _ _ _ r0]; rfl
    have c2 : w2.cell? ⟨w.heap.size, 2, none⟩ = some (.slice wa R.waits.length wc) := by rw [cell_of_row _ _ _ _ _ _ r0]; rfl
    have c3 : w2.cell? ⟨w.heap.size, 3, none⟩ = some (.int .i64 R.changes) := by rw [cell_of_row _ _ _ _ _ _ r0]; rfl
    have c4 : w2.cell? ⟨w.heap.size, 4, none⟩ = some (.int .i64 R.falls) := by rw [cell_of_row _ _ _ _ _ _ r0]; rfl
    have c5 : w2.cell? ⟨w.heap.size, 5, none⟩ = some (.bool false) := by rw [cell_of_row _ _ _ _ _ _ r0]; rfl
    have c6 : w2.cell? ⟨w.heap.size, 6, none⟩ = some (.int .i64 R.after) := by rw [cell_of_row _ _ _ _ _ _ r0]; rfl
    have c7 : w2.cell? ⟨w.heap.size, 7, none⟩ = some (.int .i64 R.keep) := by rw [cell_of_row _ _ _ _ _ _ r0]; rfl
    have c8 : w2.cell? ⟨w.heap.size, 8, none⟩ = some (.int .i64 R.torn) := by rw [cell_of_row _ _ _ _ _ _ r0]; rfl
    have c9 : w2.cell? ⟨w.heap.size, 9, none⟩ = some (.bool R.laid) := by rw [cell_of_row _ _ _ _ _ _ r0]; rfl
    have f0 : ∀ j, w2.frozen? ⟨w.heap.size, j, none⟩ = false := fun j => frozen_of_row _ _ _ _ _ r0
    have f1 : ∀ j, w2.frozen? ⟨w.heap.size + 1, j, none⟩ = false := fun j => frozen_of_row _ _ _ _ _ r1
    have e0 : w2.cell? ⟨w.heap.size + 1, 0, none⟩ = some (.int .i64 0) := by rw [cell_of_row _ _ _ _ _ _ r1]; rfl
    have e1 : w2.cell? ⟨w.heap.size + 1, 1, none⟩ = some (.slice none 0 0) := by rw [cell_of_row _ _ _ _ _ _ r1]; rfl
    have e2 : w2.cell? ⟨w.heap.size + 1, 2, none⟩ = some (.slice none 0 0) := by rw [cell_of_row _ _ _ _ _ _ r1]; rfl
    have e3 : w2.cell? ⟨w.heap.size + 1, 3, none⟩ = some (.int .i64 0) := by rw [cell_of_row _ _ _ _ _ _ r1]; rfl
    have e4 : w2.cell? ⟨w.heap.size + 1, 4, none⟩ = some (.int .i64 0) := by rw [cell_of_row _ _ _ _ _ _ r1]; rfl
    have e5 : w2.cell? ⟨w.heap.size + 1, 5, none⟩ = some (.bool false) := by rw [cell_of_row _ _ _ _ _ _ r1]; rfl
    have e6 : w2.cell? ⟨w.heap.size + 1, 6, none⟩ = some (.int .i64 0) := by rw [cell_of_row _ _ _ _ _ _ r1]; rfl
    have e7 : w2.cell? ⟨w.heap.size + 1, 7, none⟩ = some (.int .i64 0) := by rw [cell_of_row _ _ _ _ _ _ r1]; rfl
    have e8 : w2.cell? ⟨w.heap.size + 1, 8, none⟩ = some (.int .i64 0) := by rw [cell_of_row _ _ _ _ _ _ r1]; rfl
    have e9 : w2.cell? ⟨w.heap.size + 1, 9, none⟩ = some (.bool false) := by rw [cell_of_row _ _ _ _ _ _ r1]; rfl
    obtain ⟨av, cv, rfl⟩ := ht2.form
    have H2 := Lib.hid (And.intro ht2 hb2)
    clear ht2 hb2 r0 r1 hsz
    go_wp2_with fail
    refine bodyPost_ret (v := .tuple #[.agg #[.int .i64 R.room, .slice av R.now.length cv, .slice none 0 0, .int .i64 R.changes, .int .i64 R.falls, .bool false, .int .i64 R.after, .int .i64 R.keep, .int .i64 R.torn, .bool R.laid], .int .i64 0]) (by simp [results, Try.results33, go_sem, e0, e1, e2, e3, e4, e5, e6, e7, e8, e9]) rfl ?_
    have hB2 : Below w.heap.size w w2 := H.out.2.2.1.trans (H2.out.2.mono (by have := H.out.2.2.2.2.2.2.2.2; omega))
    have hk : ∀ v1 v2 vs, KeptS (fun g => S g ∧ g ≠ w.heap.size ∧ g ≠ w.heap.size + 1) S w2 (((w2.setCell ⟨w.heap.size, 1, none⟩ v1).setCell ⟨w.heap.size, 2, none⟩ v2).setCells (w.heap.size + 1) 0 vs) := fun v1 v2 vs => by
      refine ⟨fun b hs hb => ⟨hs.1, ?_⟩, ?_⟩
      · rw [heap_setCells_other _ _ (fun e => hs.2.2 e), heap_setCell_other _ _ b _ (fun e => hs.2.1 e), heap_setCell_other _ _ b _ (fun e => hs.2.1 e)]
      · rw [size_setCells]; simp [World.setCell]
    have hbe : ∀ v1 v2 vs, Below w.heap.size w (((w2.setCell ⟨w.heap.size, 1, none⟩ v1).setCell ⟨w.heap.size, 2, none⟩ v2).setCells (w.heap.size + 1) 0 vs) := fun v1 v2 vs =>
      ((hB2.setCell (p := ⟨w.heap.size, 1, none⟩) (Nat.le_refl _) v1).setCell (p := ⟨w.heap.size, 2, none⟩) (Nat.le_refl _) v2).grown (grownBy_setCells _ _ _ _) (by have := hB2.size; simpa [World.setCell] using this) (fun k hk => by injection hk with hk; omega)
    refine ⟨_, rfl, ⟨.slice av R.now.length cv, .slice none 0 0, ?_, ?_, ⟨none, 0, rfl, fun e => absurd rfl e⟩⟩, hbe (.slice av R.now.length cv) (.slice none 0 0) [.int .i64 R.room, .slice av R.now.length cv, .slice none 0 0, .int .i64 R.changes, .int .i64 R.falls, .bool false, .int .i64 R.after, .int .i64 R.keep, .int .i64 R.torn, .bool R.laid]⟩
    · simp [refCells]
    · exact H2.out.1.kept (hk (.slice av R.now.length cv) (.slice none 0 0) [.int .i64 R.room, .slice av R.now.length cv, .slice none 0 0, .int .i64 R.changes, .int .i64 R.falls, .bool false, .int .i64 R.after, .int .i64 R.keep, .int .i64 R.torn, .bool R.laid])
end Go.Proofs.Ytefpfedpgedloaa
