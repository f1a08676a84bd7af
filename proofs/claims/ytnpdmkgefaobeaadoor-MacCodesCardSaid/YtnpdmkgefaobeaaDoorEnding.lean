/- ending: what stands behind a text of n bytes. -/
import Derived.Test.YtnpdmkgefaobeaaDoorMem
import Derived.Test.YtnpdmkgefaobeaaDoorPad
import Derived.Deep.QuietTactic
import Derived.BigQuiet
import Derived.Deep.WholeRow
namespace Go.Proofs.YtnpdmkgefaobeaaDoor
open Go.RowKit

/-- Byte j of the array at the head of round i. -/
def enAt (n i j : Nat) : UInt8 := if j = 0 then 128 else if padLen n ≤ j + i ∧ j < padLen n then padAt n j else 0
def EnInv (n : Nat) (w wr : World) (i : Nat) : Prop :=
  (∃ a : Array Value, wr.heap[w.heap.size]? = some (.cells a 81) ∧ a.size = 128 ∧ ∀ j, j < 128 → a[j]? = some (.int .u8 ((enAt n i j).toNat : Int))) ∧ Below w.heap.size w wr
theorem EnInv.put {n : Nat} {w wr : World} {i : Nat} (h : EnInv n w wr i) (hi : i < 8) (p : Nat) (hp : p + 1 + i = padLen n) (x : Int) (hx : x = ((padAt n p).toNat : Int)) :
    EnInv n w (wr.setCell ⟨w.heap.size, p, none⟩ (.int .u8 x)) (i + 1) := by
  obtain ⟨⟨a, ha, hz, hall⟩, hb⟩ := h
  have := padLen_bd n
  refine ⟨⟨_, heap_setCell_same _ _ _ _ _ _ ha, by simpa using hz, fun j hj => ?_⟩, hb.setCell (Nat.le_refl _) _⟩
  rw [Array.getElem?_setIfInBounds]
  by_cases e : p = j
  · subst e; rw [if_pos rfl, if_pos (by omega), hx, enAt, if_neg (by omega), if_pos (by omega)]
  · rw [if_neg e, hall j hj]
    unfold enAt
    by_cases h0 : j = 0
    · rw [if_pos h0, if_pos h0]
    · rw [if_neg h0, if_neg h0]
      by_cases h1 : padLen n ≤ j + i ∧ j < padLen n
      · rw [if_pos h1, if_pos (by omega)]
      · rw [if_neg h1, if_neg (by omega)]
theorem en_byte (n i p : Nat) (hi : i < 8) (hp : p + 1 + i = padLen n) : ((n : Int) * 8 / 2 ^ (8 * i)) % 256 = ((padAt n p).toNat : Int) := by
  have hb := padLen_bd n
  rw [padAt, if_neg (by omega), if_neg (by omega), show padLen n - 1 - p = i by omega]
  rw [UInt8.toNat_ofNat']
  have e : ((2 : Int) ^ (8 * i)) = ((256 ^ i : Nat) : Int) := by rw [Int.pow_mul]; simp
  rw [e, Nat.mul_comm 8 n]
  simp

/-- An array or a struct that is put together, as a value of one's own spelling. -/
theorem wpList_build_to {P : Program} {ops : Array Oper} {rest : List Oper} {o : Oper} {a : Act} {w : World} {Q : Exit → Act → World → Prop} (hg : o.guard = none) (t : TypeId) (parts : Array (Nat × Operand)) (ho : o.op = .build t parts)
    (cells : Array Value) (hb : P.built t (parts.map fun (i, x) => (i, a.eval x)).toList = some cells) (h : wpList P ops Q rest (a.put o.dst (.agg cells)) w) : wpList P ops Q (o :: rest) a w :=
  wpList_build hg t parts ho (by rw [hb]; rfl) (by rw [hb]; exact h)

theorem blocksI_nat (n : Nat) : blocksI (n : Int) = ((blocksN n : Nat) : Int) := by
  unfold blocksI blocksN
  rw [if_neg (by omega)]
  by_cases h : n % 64 + 9 > 64
  · rw [if_pos h, if_pos (by omega)]; omega
  · rw [if_neg h, if_neg (by omega)]; omega
def zero128 : Array Value := Array.replicate 128 (.int .u8 0)
def end128 : Array Value := zero128.setIfInBounds 0 (.int .u8 128)
theorem rep_get (N : Nat) (u v : Value) (j : Nat) (hj : j < N) : ((Array.replicate N u).setIfInBounds 0 v)[j]? = some (if j = 0 then v else u) := by
  rw [Array.getElem?_setIfInBounds]
  by_cases e : 0 = j
  · subst e; rw [if_pos rfl, if_pos (by simpa using hj), if_pos rfl]
  · rw [if_neg e, if_neg (by omega), Array.getElem?_replicate, if_pos hj]
theorem end128_get (n j : Nat) (hj : j < 128) : end128[j]? = some (.int .u8 ((enAt n 0 j).toNat : Int)) := by
  have := padLen_bd n
  unfold end128 zero128 enAt
  rw [rep_get 128 _ _ j hj]
  by_cases e : j = 0
  · rw [if_pos e, if_pos e]; rfl
  · rw [if_neg e, if_neg e, if_neg (by omega)]; rfl
theorem end128_size : end128.size = 128 := by rw [end128, zero128, Array.size_setIfInBounds, Array.size_replicate]
theorem en_start (n : Nat) (w : World) : EnInv n w ((w.alloc (.cells zero128 81)).setRow w.heap.size end128) 0 := by
  rw [World.setRow_alloc_new]
  exact ⟨⟨end128, heap_alloc_new _ _, end128_size, fun j hj => end128_get n j hj⟩, (Below.refl _ _).alloc (Nat.le_refl _) _⟩
theorem en_all {n : Nat} {a : Array Value} (hall : ∀ j, j < 128 → a[j]? = some (.int .u8 ((enAt n 8 j).toNat : Int))) (j : Nat) (hj : j < padLen n) : a[j]? = some (.int .u8 ((padAt n j).toNat : Int)) := by
  have := padLen_bd n
  rw [hall j (by omega)]
  unfold enAt
  by_cases h0 : j = 0
  · rw [if_pos h0, padAt, if_pos h0]
  · rw [if_neg h0]
    by_cases h1 : padLen n ≤ j + 8 ∧ j < padLen n
    · rw [if_pos h1]
    · rw [if_neg h1, padAt, if_neg h0, if_pos (by omega)]
theorem nums_pad (n j : Nat) (hj : j < padLen n) : (nums (padL n)).getD j 0 = ((padAt n j).toNat : Int) := by
  simp [nums, List.getD_eq_getElem?_getD, padL_get n j hj]

set_option maxRecDepth 100000 in
set_option maxHeartbeats 1000000 in
theorem ending_any (n : Nat) (hn : n < 1099511627776) (w : World) :
    Calls Tryd.prog 50 #[.int .i64 n] w fun e w' => e = .returned (.string (str (padL n))) ∧ Below w.heap.size w w' := by
  have hpb := padLen_bd n
  have z57 : ∀ w, (zeroValue 81).run Tryd.prog w = .ok (.agg zero128) w := (zero_of_info (P := Tryd.prog) (t := 81) (v := .agg zero128) (n := 128) (by kernel_rfl)).1
  have hB := blocksI_nat n
  obtain ⟨L, hL⟩ : ∃ L, L = padLen n := ⟨_, rfl⟩
  obtain ⟨bn, hbn⟩ : ∃ b, b = blocksN n := ⟨_, rfl⟩
  rw [← hbn] at hB
  have HB := Lib.hid hB
  have b1 : (bn : Int) ≤ 17179869186 := by omega
  have e1 : (bn : Int) * 64 - (n : Int) = (L : Int) := by omega
  have HL := Lib.hid hL
  have l1 : (9 : Int) ≤ L := by omega
  have l2 : (L : Int) ≤ 72 := by omega
  clear hB hL hbn hpb
  go_enter Tryd.func50, Tryd.ntmps50
  go_wp2_with (first
    | (refine wpList_build_to rfl 81 _ rfl end128 (by kernel_rfl) ?_)
    | (refine wpList_store_row rfl 81 _ _ rfl w.heap.size rfl 81 zero128 end128 rfl (heap_alloc_new _ _) (by kernel_rfl) (by kernel_rfl) (by kernel_rfl) ?_)
    | (go_at_call 53; refine (blocks_any _ (by omega) _).mono ?_; rintro e w' ⟨rfl, rfl⟩; rw [HB.out]))
  have hI := en_start n w
  generalize World.setRow _ _ _ = w1 at *
  go_loopw [16] (fun c wr => ∃ i : Nat, i ≤ 8 ∧ c = .int .i64 i ∧ EnInv n w wr i) (fun c _ => 8 - (intOf c).toNat)
  case atStart => exact ⟨0, by omega, rfl, hI⟩
  case round =>
    clear hI
    obtain ⟨i, hi, rfl, hI⟩ := hrel
    by_cases hlt : i < 8
    · have bi : (i : Int) < 8 := by omega
      have cf : wr.frozen? ⟨w.heap.size, L - 1 - i, none⟩ = false := by
        obtain ⟨a, ha, _⟩ := hI.1
        exact frozen_of_row _ _ _ _ _ ha
      have ce : ∃ v, wr.cell? ⟨w.heap.size, L - 1 - i, none⟩ = some v := by
        obtain ⟨a, ha, hza, _⟩ := hI.1
        exact ⟨a[L - 1 - i], by rw [cell_of_row _ _ _ _ _ _ ha, Array.getElem?_eq_getElem (by omega)]⟩
      obtain ⟨v, ce⟩ := ce
      go_wp2
      go_roundw
      case rel => exact ⟨i + 1, by omega, by go_num, hI.put hlt _ (by rw [← HL.out]; omega) _ (en_byte n i _ hlt (by rw [← HL.out]; omega))⟩
      case measure => simp [intOf]; omega
    · obtain rfl : i = 8 := by omega
      obtain ⟨⟨a, ha, hza, hall⟩, hb⟩ := hI
      have hsl : ∀ W, (Instr.sliceAt 81 (.pointer (some ⟨w.heap.size, 0, none⟩)) none (some (.int .i64 L)) none).run Tryd.prog W = .ok (.slice (some ⟨w.heap.size, 0, none⟩) L 128) W := fun W =>
        run_sliceAt_h (P := Tryd.prog) Tryd.underlying81 (by kernel_rfl) w.heap.size 0 L (by omega) W
      have hcv : (convert 31 9 (.slice (some ⟨w.heap.size, 0, none⟩) L 128)).run Tryd.prog wr = .ok (.string (str (padL n))) wr := by
        rw [← strOfNums_nums]
        refine run_convert_bytes_arg (P := Tryd.prog) (w := wr) 31 5 Tryd.underlying31 Tryd.underlying5 w.heap.size 0 L 128 (nums (padL n)) ?_ (fun j hj => ?_) 9 Tryd.underlying9
        · rw [nums, List.length_map, padL_length, HL.out]
        · rw [Nat.zero_add, cell_of_row _ _ _ _ _ _ ha, nums_pad n j (by rw [← HL.out]; exact hj)]
          exact en_all hall j (by rw [← HL.out]; exact hj)
      clear ha hza hall
      go_wp2
      go_ret
      exact ⟨rfl, hb⟩
end Go.Proofs.YtnpdmkgefaobeaaDoor
