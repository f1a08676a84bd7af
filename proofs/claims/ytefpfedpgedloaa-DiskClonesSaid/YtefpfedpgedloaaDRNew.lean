/- The reference of disk: New. -/
import Derived.Test.YtefpfedpgedloaaDRDo
namespace Go.Proofs.Ytefpfedpgedloaa
open Go.RowKit
open Dk

/-- The cells of a disk whose list of texts is being made. -/
def newCells (room : Int) (v : Value) : Array Value := #[.int .i64 room, v, .slice none 0 0, .int .i64 0, .int .i64 0, .bool false, .int .i64 0, .int .i64 0, .int .i64 0, .bool false]
theorem new_cell {w : World} {g : Nat} {room : Int} {v : Value} {t : TypeId} (h : w.heap[g]? = some (.cells (newCells room v) t (0, 0))) :
    w.cell? ⟨g, 0, none⟩ = some (.int .i64 room) ∧ w.cell? ⟨g, 1, none⟩ = some v ∧ w.cell? ⟨g, 2, none⟩ = some (.slice none 0 0) ∧ w.cell? ⟨g, 3, none⟩ = some (.int .i64 0) ∧ w.cell? ⟨g, 4, none⟩ = some (.int .i64 0) ∧
    w.cell? ⟨g, 5, none⟩ = some (.bool false) ∧ w.cell? ⟨g, 6, none⟩ = some (.int .i64 0) ∧ w.cell? ⟨g, 7, none⟩ = some (.int .i64 0) ∧ w.cell? ⟨g, 8, none⟩ = some (.int .i64 0) ∧ w.cell? ⟨g, 9, none⟩ = some (.bool false) ∧ ∀ j, w.frozen? ⟨g, j, none⟩ = false := by
  refine ⟨?_, ?_, ?_, ?_, ?_, ?_, ?_, ?_, ?_, ?_, fun j => frozen_of_row _ _ _ _ _ h⟩ <;> (rw [cell_of_row _ _ _ _ _ _ h]; rfl)
set_option maxRecDepth 100000 in
set_option maxHeartbeats 2000000 in
theorem rnew_any {w : World} (S : Nat → Prop) (hS : ∀ g, w.heap.size + 2 ≤ g → S g) (n : Nat) (hn : n ≤ 64) (room : Int) :
    Calls Try.prog 12 #[.int .i64 (n : Int), .int .i64 room] w fun e w' => ∃ cells', e = .returned (.agg cells') ∧ RefIn w' S cells' (Disk.new n room) ∧ Below w.heap.size w w' := by
  have H := Lib.hid hS
  clear hS
  go_enter Try.func12, Try.ntmps12
  go_upto_region 2 with fail
  obtain ⟨w1, hw1⟩ : ∃ w1, w1 = (w.alloc (.cells #[.int .i64 0, .slice none 0 0, .slice none 0 0, .int .i64 0, .int .i64 0, .bool false, .int .i64 0, .int .i64 0, .int .i64 0, .bool false] 32)).alloc (.cells #[.int .i64 room, .slice none 0 0, .slice none 0 0, .int .i64 0, .int .i64 0, .bool false, .int .i64 0, .int .i64 0, .int .i64 0, .bool false] 32) := ⟨_, rfl⟩
  rw [← hw1]
  have hb1 : Below w.heap.size w w1 := by rw [hw1]; exact (((Below.refl _ _).alloc (Nat.le_refl _) _).alloc (by simp) _)
  have hz1 : w1.heap.size = w.heap.size + 2 := by rw [hw1]; simp
  have hn0 : w1.heap[w.heap.size]? = some (.cells (newCells 0 (.slice none 0 0)) 32 (0, 0)) := by
    rw [hw1, heap_alloc_old _ _ (by simp : w.heap.size < (w.alloc _).heap.size)]; exact heap_alloc_new _ _
  have hn1 : w1.heap[w.heap.size + 1]? = some (.cells (newCells room (.slice none 0 0)) 32 (0, 0)) := by
    have h := heap_alloc_new (w.alloc (.cells #[.int .i64 0, .slice none 0 0, .slice none 0 0, .int .i64 0, .int .i64 0, .bool false, .int .i64 0, .int .i64 0, .int .i64 0, .bool false] 32)) (.cells #[.int .i64 room, .slice none 0 0, .slice none 0 0, .int .i64 0, .int .i64 0, .bool false, .int .i64 0, .int .i64 0, .int .i64 0, .bool false] 32)
    rw [← hw1] at h
    rw [show w.heap.size + 1 = (w.alloc (.cells #[.int .i64 0, .slice none 0 0, .slice none 0 0, .int .i64 0, .int .i64 0, .bool false, .int .i64 0, .int .i64 0, .int .i64 0, .bool false] 32)).heap.size by simp]
    exact h
  clear hw1
  have HB := Lib.hid (And.intro hb1 (And.intro hz1 hn0))
  go_wp2_with fail
  go_loopw [6] (fun i wr => ∃ (k : Nat) (ad : Option Addr) (cp : Nat), k ≤ n ∧ i = .int .i64 k ∧ OwnX (w.heap.size + 2) wr ad cp (List.replicate k ⟨#[]⟩) ∧ wr.heap[w.heap.size + 1]? = some (.cells (newCells room (.slice ad k cp)) 32 (0, 0)) ∧ wr.heap[w.heap.size]? = some (.cells (newCells 0 (.slice none 0 0)) 32 (0, 0)) ∧ Below w.heap.size w wr ∧ w.heap.size + 2 ≤ wr.heap.size) (fun i _ => n - (intOf i).toNat)
  case atStart => exact ⟨0, none, 0, by omega, rfl, OwnX.nil _ _, hn1, hn0, hb1, by omega⟩
  case round =>
    obtain ⟨k, ad, cp, hk, rfl, ho, h1, h0, hb, hz⟩ := hrel
    clear hn0 hn1 hb1 hz1
    obtain ⟨y0, y1, y2, y3, y4, y5, y6, y7, y8, y9, fy⟩ := new_cell h1
    by_cases hlt : k < n
    · have HR := Lib.hid (And.intro ho (And.intro h1 (And.intro h0 hb)))
      clear ho h1 h0 hb
      go_wp2_with (at_builtin; (refine wpList_append_txt (w0 := wr) rfl (.tmp 15) (.tmp 16) rfl (HR.out.1.below ((Below.refl _ _).alloc (Nat.le_refl _) _)) k (List.length_replicate ..) rfl wr.heap.size 1 ⟨#[]⟩ rfl (cell_of_row _ _ _ _ _ _ (heap_alloc_new wr _)) (by omega) (by simp; omega) ((Below.refl _ _).alloc (by omega) _) ?_; intro g1 cap1 w4 hown1 hb1 hz1; clear y0 y1 y2 y3 y4 y5 y6 y7 y8 y9 fy; have g1' := (hb1.block (w.heap.size + 1) (by omega)).trans HR.out.2.1; have g0' := (hb1.block w.heap.size (by omega)).trans HR.out.2.2.1; have fz : ∀ j, w4.frozen? ⟨w.heap.size + 1, j, none⟩ = false := fun j => frozen_of_row _ _ _ _ _ g1'; obtain ⟨y0, y1, y2, y3, y4, y5, y6, y7, y8, y9, -⟩ := new_cell g1'; have hzz : wr.heap.size ≤ w4.heap.size := Nat.le_trans (by simp) hz1; have HX := Lib.hid (And.intro hown1 (And.intro hb1 (And.intro g1' g0'))); clear hown1 hb1 hz1 g1' g0'))
      go_roundw
      case rel =>
        refine ⟨k + 1, some ⟨g1, 0, none⟩, cap1, by omega, by go_num, ?_, ?_, ?_, ?_, ?_⟩
        · rw [List.replicate_succ']
          exact HX.out.1.kept (fun g hg => heap_setCell_other _ _ _ _ (by have := HX.out.1.2 g hg; show g ≠ w.heap.size + 1; omega))
        · rw [heap_setCell_same _ _ _ _ _ _ HX.out.2.2.1]; rfl
        · rw [heap_setCell_other _ _ _ _ (by simp)]; exact HX.out.2.2.2
        · exact (HR.out.2.2.2.trans (HX.out.2.1.mono (by omega))).setCell (by show w.heap.size ≤ w.heap.size + 1; omega) _
        · simp [World.setCell]; omega
      case measure => simp [intOf]; omega
    · obtain rfl : k = n := by omega
      obtain ⟨e0, e1, e2, e3, e4, e5, e6, e7, e8, e9, f1⟩ := new_cell h0
      have HR := Lib.hid (And.intro ho (And.intro h1 (And.intro h0 hb)))
      clear ho h1 h0 hb
      go_wp2_with fail
      have hbe : ∀ vs, Below w.heap.size w (wr.setCells w.heap.size 0 vs) := fun vs => HR.out.2.2.2.grown (grownBy_setCells _ _ _ _) (by omega) (fun k hk => by injection hk with hk; omega)
      refine bodyPost_ret (v := .agg (newCells room (.slice ad k cp))) (by simp [results, Try.results12, go_sem, newCells, e0, e1, e2, e3, e4, e5, e6, e7, e8, e9]) rfl ?_
      refine ⟨_, rfl, ⟨.slice ad k cp, .slice none 0 0, rfl, ?_, ⟨none, 0, rfl, fun e => absurd rfl e⟩⟩, ?_⟩
      · have ht := (HR.out.1.kept (w' := wr.setCells w.heap.size 0 (newCells room (.slice ad k cp)).toList) (fun g hg => heap_setCells_other _ _ (by have := HR.out.1.2 g hg; omega) _ _ _)).texts H.out
        rw [List.length_replicate] at ht
        exact ht
      · exact hbe (newCells room (.slice ad k cp)).toList
end Go.Proofs.Ytefpfedpgedloaa
