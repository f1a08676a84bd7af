/- wordsOf: the words of a block. -/
import Derived.Test.YtnpdmkgefaobeaaDoorMem
import Derived.Deep.QuietTactic
import Derived.BigQuiet
import Derived.StillTailTactics
namespace Go.Proofs.YtnpdmkgefaobeaaDoor
open Go.RowKit

attribute [local go_sem] V_add V_add' V_xor V_and V_or V_not V_not' V_shr V_div8 V_div1024 V_shl V_shl' V_byte V_byte' V_mul24 V_mul16 V_mul8

/-- What holds of memory at the head of round i. -/
def WoInv (f : Nat → UInt8) (bs : Array Value) (w wr : World) (i : Nat) : Prop :=
  (∃ a : Array Value, wr.heap[w.heap.size + 1 + 1]? = some (.cells a 74) ∧ a.size = 16 ∧ ∀ j, j < i → a[j]? = some (.int .u32 (V (wordOf f j)))) ∧
  wr.heap[w.heap.size]? = some (.cells bs 44) ∧ wr.heap[w.heap.size + 1]? = some (.cells (Array.replicate 16 (.int .u32 0)) 74) ∧ Below w.heap.size w wr
theorem WoInv.drew {f : Nat → UInt8} {bs : Array Value} {w wr : World} {i : Nat} (h : WoInv f bs w wr i) : WoInv f bs w wr.drew i := ⟨h.1, h.2.1, h.2.2.1, h.2.2.2.drew⟩
theorem WoInv.cell {f : Nat → UInt8} {bs : Array Value} {w wr : World} {i : Nat} (h : WoInv f bs w wr i) (hbs : ∀ j, j < 64 → bs[j]? = some (.int .u8 ((f j).toNat : Int))) (j : Nat) (hj : j < 64) :
    wr.cell? ⟨w.heap.size, j, none⟩ = some (.int .u8 ((f j).toNat : Int)) := by rw [cell_of_row _ _ _ _ _ _ h.2.1, hbs j hj]
theorem WoInv.put {f : Nat → UInt8} {bs : Array Value} {w wr : World} {i : Nat} (h : WoInv f bs w wr i) (hi : i < 16) (x : BitVec 32) (hx : x = wordOf f i) :
    WoInv f bs w (wr.setCell ⟨w.heap.size + 1 + 1, i, none⟩ (.int .u32 (V x))) (i + 1) := by
  obtain ⟨⟨a, ha, hz, hall⟩, hA, hC, hb⟩ := h
  refine ⟨⟨_, heap_setCell_same _ _ _ _ _ _ ha, by simpa using hz, fun j hj => ?_⟩, ?_, ?_, hb.setCell (by simp; omega) _⟩
  · rw [Array.getElem?_setIfInBounds]
    by_cases e : i = j
    · subst e; rw [if_pos rfl, if_pos (by omega), hx]
    · rw [if_neg e, hall j (by omega)]
  · rw [heap_setCell_other _ _ _ _ (by simp; omega)]; exact hA
  · rw [heap_setCell_other _ _ _ _ (by simp)]; exact hC

theorem words_oneCell {a : Array Value} {n : Nat} {g : Nat → BitVec 32} (hz : a.size = n) (h : ∀ j, j < n → a[j]? = some (.int .u32 (V (g j)))) : a.all (·.oneCell') = true := by
  refine Array.all_eq_true.2 fun j hj => ?_
  have := h j (by omega)
  rw [Array.getElem?_eq_getElem hj] at this
  rw [Option.some.inj this]; rfl

set_option maxRecDepth 100000 in
set_option maxHeartbeats 400000 in
theorem wordsOf_any (f : Nat → UInt8) (bs : Array Value) (hbs : ∀ j, j < 64 → bs[j]? = some (.int .u8 ((f j).toNat : Int))) (w : World) :
    Calls Tryd.prog 49 #[.agg bs] w fun e w' => ∃ ws : Array Value, e = .returned (.agg ws) ∧ ws.size = 16 ∧ (∀ j, j < 16 → ws[j]? = some (.int .u32 (V (wordOf f j)))) ∧ Below w.heap.size w w' := by
  go_enter Tryd.func49, Tryd.ntmps49
  go_wp2
  generalize hw1 : World.alloc (World.alloc (World.alloc w _) _) _ = w1
  have hI : WoInv f bs w w1 0 := by
    obtain ⟨hA, hB, hC, _, hb⟩ := heap_alloc3 w (.cells bs 44) (.cells (Array.replicate 16 (.int .u32 0)) 74) (.cells (Array.replicate 16 (.int .u32 0)) 74)
    rw [← hw1]
    exact ⟨⟨_, hC, rfl, fun j hj => absurd hj (by omega)⟩, hA, hB, hb⟩
  clear hw1
  go_loopw [6] (fun c wr => ∃ i : Nat, i ≤ 16 ∧ c = .int .i64 i ∧ WoInv f bs w wr i) (fun c _ => 16 - (intOf c).toNat)
  case atStart => exact ⟨0, by omega, rfl, hI⟩
  case round =>
    clear hI
    obtain ⟨i, hi, rfl, hI⟩ := hrel
    by_cases hlt : i < 16
    · obtain ⟨o, ho⟩ : ∃ o, o = 4 * i := ⟨_, rfl⟩
      obtain ⟨c, hc⟩ : ∃ c, c = 64 - o := ⟨_, rfl⟩
      have hsl : ∀ W, (Instr.sliceAt 44 (.pointer (some ⟨w.heap.size, 0, none⟩)) (some (.int .i64 (4 * (i : Int)))) (some (.int .i64 (4 * ((i : Int) + 1)))) none).run Tryd.prog W = .ok (.slice (some ⟨w.heap.size, o, none⟩) 4 c) W := fun W => by
        have := run_sliceAt_lh (P := Tryd.prog) Tryd.underlying44 (by kernel_rfl) w.heap.size 0 (4 * i) (4 * (i + 1)) (by omega) (by omega) (by omega) W
        rw [show ((4 * i : Nat) : Int) = 4 * (i : Int) from by omega, show ((4 * (i + 1) : Nat) : Int) = 4 * ((i : Int) + 1) from by omega, show 4 * (i + 1) - 4 * i = 4 from by omega, show 0 + 4 * i = o from by omega, show 64 - 4 * i = c from by omega] at this
        exact this
      have c0 := hI.cell hbs o (by omega)
      have c1 := hI.cell hbs (o + 1) (by omega)
      have c2 := hI.cell hbs (o + 2) (by omega)
      have c3 := hI.cell hbs (o + 3) (by omega)
      obtain ⟨y0, h0⟩ : ∃ y, y = f o := ⟨_, rfl⟩
      obtain ⟨y1, h1⟩ : ∃ y, y = f (o + 1) := ⟨_, rfl⟩
      obtain ⟨y2, h2⟩ : ∃ y, y = f (o + 2) := ⟨_, rfl⟩
      obtain ⟨y3, h3⟩ : ∃ y, y = f (o + 3) := ⟨_, rfl⟩
      rw [← h0] at c0
      rw [← h1] at c1
      rw [← h2] at c2
      rw [← h3] at c3
      have ce : ∃ v, wr.cell? ⟨w.heap.size + 1 + 1, i, none⟩ = some v := by
        obtain ⟨a, ha, hza, _⟩ := hI.1
        exact ⟨a[i], by rw [cell_of_row _ _ _ _ _ _ ha, Array.getElem?_eq_getElem (by omega)]⟩
      obtain ⟨v, ce⟩ := ce
      have cf : wr.frozen? ⟨w.heap.size + 1 + 1, i, none⟩ = false := by
        obtain ⟨a, ha, _⟩ := hI.1
        exact frozen_of_row _ _ _ _ _ ha
      have bi : (i : Int) < 16 := by omega
      have HX : Hid (V (w8 y0 <<< 24 ||| w8 y1 <<< 16 ||| w8 y2 <<< 8 ||| w8 y3) = V (wordOf f i) ∧ w8 y0 <<< 24 ||| w8 y1 <<< 16 ||| w8 y2 <<< 8 ||| w8 y3 = wordOf f i) := by
        have e : w8 y0 <<< 24 ||| w8 y1 <<< 16 ||| w8 y2 <<< 8 ||| w8 y3 = wordOf f i := by rw [h0, h1, h2, h3, ho]; rfl
        exact ⟨by rw [e], e⟩
      clear h0 h1 h2 h3 hc ho
      go_wp2_with fail
      refine wp_region_still_tail 24 (by kernel_rfl) (by kernel_rfl) ?_
      simp only [List.take_succ_cons, List.take_zero, List.drop_succ_cons, List.drop_zero]
      repeat still_step
      refine wpStill_nil ?_
      change wpList _ _ _ _ _ wr.drew
      have hI2 := hI.drew
      have ce2 : wr.drew.cell? ⟨w.heap.size + 1 + 1, i, none⟩ = some v := ce
      have cf2 : wr.drew.frozen? ⟨w.heap.size + 1 + 1, i, none⟩ = false := cf
      clear hI c0 c1 c2 c3 ce cf hsl
      generalize wr.drew = w3 at *
      go_wp2
      go_roundw
      case rel => exact ⟨i + 1, by omega, by go_num, hI2.put hlt _ HX.out.2⟩
      case measure => simp [intOf]; omega
    · obtain rfl : i = 16 := by omega
      obtain ⟨⟨a, ha, hza, hall⟩, hA, hC, hb⟩ := hI
      go_wp2_with (first
        | (refine wpList_load_row rfl 74 _ rfl (w.heap.size + 1 + 1) rfl 74 a (0, 0) _ ha Tryd.underlying74 rfl (by rw [hza]; kernel_rfl) ?_)
        | (refine wpList_store_row rfl 74 _ _ rfl (w.heap.size + 1) rfl 74 _ a rfl hC (by rw [hza]; kernel_rfl) (by rw [hza]; kernel_rfl) (words_oneCell hza hall) ?_))
      refine bodyPost_ret (results_cell_row rfl _ _ (w.heap.size + 1) 74 a (0, 0) _ rfl (setRow_heap _ _ _ _ _ _ hC) Tryd.underlying74 rfl (by rw [hza]; kernel_rfl)) rfl ⟨a, rfl, hza, hall, ?_⟩
      exact below_setRow hb _ _ (by omega)
end Go.Proofs.YtnpdmkgefaobeaaDoor
