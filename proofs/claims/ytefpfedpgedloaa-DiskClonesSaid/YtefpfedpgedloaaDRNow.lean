/- The reference of disk: Now, Sync, New. -/
import Derived.Test.YtefpfedpgedloaaDRef
namespace Go.Proofs.Ytefpfedpgedloaa
open Go.RowKit
open Dk

theorem ref_cell {w : World} {g : Nat} {R : Disk} {sv wv : Value} {t : TypeId} (h : w.heap[g]? = some (.cells (refCells R sv wv) t (0, 0))) :
    w.cell? ⟨g, 0, none⟩ = some (.int .i64 R.room) ∧ w.cell? ⟨g, 1, none⟩ = some sv ∧ w.cell? ⟨g, 2, none⟩ = some wv ∧ w.cell? ⟨g, 3, none⟩ = some (.int .i64 R.changes) ∧ w.cell? ⟨g, 4, none⟩ = some (.int .i64 R.falls) ∧
    w.cell? ⟨g, 5, none⟩ = some (.bool R.down) ∧ w.cell? ⟨g, 6, none⟩ = some (.int .i64 R.after) ∧ w.cell? ⟨g, 7, none⟩ = some (.int .i64 R.keep) ∧ w.cell? ⟨g, 8, none⟩ = some (.int .i64 R.torn) ∧ w.cell? ⟨g, 9, none⟩ = some (.bool R.laid) := by
  refine ⟨?_, ?_, ?_, ?_, ?_, ?_, ?_, ?_, ?_, ?_⟩ <;> (rw [cell_of_row _ _ _ _ _ _ h]; rfl)
theorem madeAll_step {l : List ByteArray} {cs : List Chg} {i : Nat} {c : Chg} (h : cs[i]? = some c) : madeAll l (cs.take (i + 1)) = made (madeAll l (cs.take i)) c := by rw [List.take_add_one, h, Option.toList_some, madeAll_snoc]
set_option maxRecDepth 100000 in
set_option maxHeartbeats 1000000 in
theorem rnow_any {w : World} {S : Nat → Prop} {cells : Array Value} {R : Disk} (h : RefIn w S cells R) (hS : ∀ g, w.heap.size ≤ g → S g) (hF : Fits R.sure R.waits) (hn : R.sure.length ≤ 64) (hw : R.waits.length ≤ 1000000) :
    Calls Try.prog 19 #[.agg cells] w fun e w' => ∃ v, e = .returned v ∧ TextsR w' S v R.now ∧ Below w.heap.size w w' := by
  obtain ⟨sv, wv, rfl, hsv, hwv⟩ := h
  obtain ⟨a, cap, rfl⟩ := hwv.form
  have hbox : (w.alloc (.cells (refCells R sv (.slice a R.waits.length cap)) 32)).heap[w.heap.size]? = some (.cells (refCells R sv (.slice a R.waits.length cap)) 32 (0, 0)) := heap_alloc_new _ _
  have hB : Below w.heap.size w (w.alloc (.cells (refCells R sv (.slice a R.waits.length cap)) 32)) := (Below.refl _ _).alloc (Nat.le_refl _) _
  have hlt : w.heap.size < (w.alloc (.cells (refCells R sv (.slice a R.waits.length cap)) 32)).heap.size := by simp
  obtain ⟨q0, q1, q2, -⟩ := ref_cell hbox
  have H := Lib.hid (And.intro hsv (And.intro hwv (And.intro hS (And.intro hF hn))))
  clear hsv hwv hS hF hn
  go_enter Try.func19, Try.ntmps19
  unfold refCells at *
  go_wp2_with fail
  generalize w.alloc _ = wb at *
  have HB := Lib.hid (And.intro hB (And.intro hbox hlt))
  clear hB hbox hlt q0 q1 q2
  go_loopw [3, 4] (fun v i wr => ∃ k : Nat, k ≤ R.waits.length ∧ i = .int .i64 k ∧ TextsR wr S v (madeAll R.sure (R.waits.take k)) ∧ Below wb.heap.size wb wr) (fun _ i _ => R.waits.length - (intOf i).toNat)
  case atStart => exact ⟨0, by omega, rfl, H.out.1.kept (keptS_below HB.out.1), Below.refl _ _⟩
  case round =>
    obtain ⟨k, hk, rfl, hv, hb⟩ := hrel
    have hbox := (hb.block _ HB.out.2.2).trans HB.out.2.1
    have q2 : wr.cell? ⟨w.heap.size, 2, none⟩ = some (.slice a R.waits.length cap) := by rw [cell_of_row _ _ _ _ _ _ hbox]; rfl
    have hbw : Below w.heap.size w wr := HB.out.1.trans (hb.mono (by have := HB.out.2.2; omega))
    by_cases hlt : k < R.waits.length
    · obtain ⟨c, hc⟩ : ∃ c, R.waits[k]? = some c := ⟨_, List.getElem?_eq_getElem hlt⟩
      obtain ⟨g, rfl, hg, -, c0, c1, c2, c3⟩ := (H.out.2.1.kept (keptS_below hbw)).at hc
      obtain ⟨av, cv, rfl⟩ := hv.form
      have hmay := H.out.2.2.2.1.may hc
      have hmd := rmade_any hv c hmay.2.1 hmay.2.2 (by rw [madeAll_length]; exact H.out.2.2.2.2) (H.out.2.2.2.1.upto k) (by rw [← madeAll_step hc]; exact H.out.2.2.2.1.upto (k + 1))
      unfold rchgCells at hmd
      rw [← madeAll_step hc] at hmd
      have HR := Lib.hid (And.intro hmd (And.intro hb hbw))
      clear hmd hb hbw hv hc hmay hbox
      generalize R.waits.length = n at *
      go_wp2_with fail
      refine HR.out.1.mono ?_
      rintro e w2 ⟨v2, rfl, ht2, hb2⟩
      have H2 := Lib.hid (And.intro ht2 hb2)
      clear ht2 hb2
      go_wp2_with fail
      go_roundw
      case rel => exact ⟨k + 1, by omega, by go_num, H2.out.1 S (fun g hg => H.out.2.2.1 g (by have := HR.out.2.2.size; omega)), HR.out.2.1.trans (H2.out.2.mono HR.out.2.1.size)⟩
      case measure => simp [intOf]; omega
    · obtain rfl : k = R.waits.length := by omega
      rw [List.take_length] at hv
      obtain ⟨av, cv, rfl⟩ := hv.form
      have HR := Lib.hid (And.intro hv hbw)
      clear hv hb hbw hbox
      generalize R.waits.length = n at *
      go_wp2_with fail
      go_ret
      exact ⟨_, rfl, HR.out.1, HR.out.2⟩
end Go.Proofs.Ytefpfedpgedloaa
