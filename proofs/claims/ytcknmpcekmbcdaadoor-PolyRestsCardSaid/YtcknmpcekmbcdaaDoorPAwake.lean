/- lockboxlaw08.few, awake. -/
import Derived.Test.YtcknmpcekmbcdaaDoorPThr
namespace Go.Proofs.YtcknmpcekmbcdaaDoor
open Go.RowKit
open Gf

/-- Not longer than that, both. -/
def few2 (m : Int) (a b : ByteArray) : Bool := decide ((a.size : Int) ≤ m) && decide ((b.size : Int) ≤ m)
set_option maxRecDepth 100000 in
set_option maxHeartbeats 400000 in
theorem few_any (m : Int) (a b : ByteArray) (W : World) :
    Calls Tryd.prog 10 #[.int .i64 m, .slice (some ⟨W.heap.size, 0, none⟩) 2 2] (W.alloc (.cells #[.string a, .string b] 9)) fun e w' => e = .returned (.bool (few2 m a b)) ∧ (W.alloc (.cells #[.string a, .string b] 9)) = w' := by
  have c0 : (W.alloc (.cells #[.string a, .string b] 9)).cell? ⟨W.heap.size, 0, none⟩ = some (.string a) := by rw [cell_of_row _ _ _ _ _ _ (heap_alloc_new _ _)]; rfl
  have c1 : (W.alloc (.cells #[.string a, .string b] 9)).cell? ⟨W.heap.size, 1, none⟩ = some (.string b) := by rw [cell_of_row _ _ _ _ _ _ (heap_alloc_new _ _)]; rfl
  generalize W.alloc (.cells #[.string a, .string b] 9) = w at *
  generalize W.heap.size = g at *
  by_cases h1 : (a.size : Int) ≤ m
  · by_cases h2 : (b.size : Int) ≤ m
    · rw [show few2 m a b = true by unfold few2; rw [decide_eq_true h1, decide_eq_true h2]; rfl]
      have hn1 : ¬ (m < (a.size : Int)) := by omega
      have hn2 : ¬ (m < (b.size : Int)) := by omega
      go_enter Tryd.func10, Tryd.ntmps10
      go_wp2_with fail
      go_loopw [5] (fun i wr => ∃ k : Nat, k ≤ 2 ∧ i = .int .i64 (k : Int) ∧ wr = w) (fun i _ => 2 - (intOf i).toNat)
      case atStart => exact ⟨0, by omega, rfl, rfl⟩
      case round =>
        obtain ⟨k, hk, rfl, rfl⟩ := hrel
        obtain rfl | rfl | rfl : k = 0 ∨ k = 1 ∨ k = 2 := by omega
        · go_wp2_with fail
          go_roundw
          case rel => exact ⟨1, by omega, rfl, trivial⟩
          case measure => simp [intOf]
        · go_wp2_with fail
          go_roundw
          case rel => exact ⟨2, by omega, rfl, trivial⟩
          case measure => simp [intOf]
        · go_wp2_with fail
          go_ret
          exact ⟨rfl, rfl⟩
    · rw [show few2 m a b = false by unfold few2; rw [decide_eq_false h2, Bool.and_false]]
      have hn1 : ¬ (m < (a.size : Int)) := by omega
      have hn2 : m < (b.size : Int) := by omega
      go_enter Tryd.func10, Tryd.ntmps10
      go_wp2_with fail
      go_loopw [5] (fun i wr => ∃ k : Nat, k ≤ 1 ∧ i = .int .i64 (k : Int) ∧ wr = w) (fun i _ => 2 - (intOf i).toNat)
      case atStart => exact ⟨0, by omega, rfl, rfl⟩
      case round =>
        obtain ⟨k, hk, rfl, rfl⟩ := hrel
        obtain rfl | rfl : k = 0 ∨ k = 1 := by omega
        · go_wp2_with fail
          go_roundw
          case rel => exact ⟨1, by omega, rfl, trivial⟩
          case measure => simp [intOf]
        · go_wp2_with fail
          go_ret
          exact ⟨rfl, rfl⟩
  · rw [show few2 m a b = false by unfold few2; rw [decide_eq_false h1, Bool.false_and]]
    have hn1 : m < (a.size : Int) := by omega
    go_enter Tryd.func10, Tryd.ntmps10
    go_wp2_with fail
    go_loopw [5] (fun i wr => i = .int .i64 0 ∧ wr = w) (fun i _ => 2 - (intOf i).toNat)
    case atStart => exact ⟨rfl, rfl⟩
    case round =>
      obtain ⟨rfl, rfl⟩ := hrel
      go_wp2_with fail
      go_ret
      exact ⟨rfl, rfl⟩
theorem aw_thr (w : World) : Calls Tryd.prog 25 #[.string ⟨#[1, 2]⟩, .string ⟨#[3, 0]⟩] w fun e w' => e = .returned (.tuple #[.string ⟨#[2, 1]⟩, .int .i64 0]) ∧ Below w.heap.size w w' := by
  have h := through_any ⟨#[1, 2]⟩ ⟨#[3, 0]⟩ (by decide) w
  rw [show thrB ⟨#[1, 2]⟩ ⟨#[3, 0]⟩ = ⟨#[2, 1]⟩ by decide +kernel, show aerr ⟨#[1, 2]⟩ ⟨#[3, 0]⟩ = 0 by decide +kernel] at h
  exact h
theorem aw_v1 (w : World) : Calls Tryd.prog 14 #[.string ⟨#[1, 1]⟩, .int .u8 2] w fun e w' => e = .returned (.int .u8 3) ∧ Below w.heap.size w w' := by
  have h := value_any ⟨#[1, 1]⟩ (by decide) 2 w
  rw [show valB ⟨#[1, 1]⟩ 2 = 3 by decide +kernel] at h
  exact h
theorem aw_v2 (w : World) : Calls Tryd.prog 14 #[.string ⟨#[2, 1]⟩, .int .u8 1] w fun e w' => e = .returned (.int .u8 3) ∧ Below w.heap.size w w' := by
  have h := value_any ⟨#[2, 1]⟩ (by decide) 1 w
  rw [show valB ⟨#[2, 1]⟩ 1 = 3 by decide +kernel] at h
  exact h
theorem aw_v3 (w : World) : Calls Tryd.prog 14 #[.string ⟨#[2, 1]⟩, .int .u8 2] w fun e w' => e = .returned (.int .u8 0) ∧ Below w.heap.size w w' := by
  have h := value_any ⟨#[2, 1]⟩ (by decide) 2 w
  rw [show valB ⟨#[2, 1]⟩ 2 = 0 by decide +kernel] at h
  exact h
theorem gtrans {w X Y : World} (h : Below w.heap.size w X) (k : Below X.heap.size X Y) : Below w.heap.size w Y := h.trans (k.mono h.size)
set_option maxHeartbeats 1000000 in
theorem awake_any (w : World) :
    Calls Tryd.prog 11 #[] w fun e w' => e = .returned (.bool true) ∧ Below w.heap.size w w' := by
  go_enter Tryd.func11, Tryd.ntmps11
  go_wp2_with fail
  refine (aw_thr _).mono ?_
  rintro e w1 ⟨rfl, hb⟩
  have HB1 := Lib.hid hb
  clear hb
  go_wp2_with fail
  refine (aw_v1 _).mono ?_
  rintro e w2 ⟨rfl, hb⟩
  have HB2 := Lib.hid (gtrans HB1.out hb)
  clear hb
  go_wp2_with fail
  refine (aw_v2 _).mono ?_
  rintro e w3 ⟨rfl, hb⟩
  have HB3 := Lib.hid (gtrans HB2.out hb)
  clear hb
  go_wp2_with fail
  refine (aw_v3 _).mono ?_
  rintro e w4 ⟨rfl, hb⟩
  have HB4 := Lib.hid (gtrans HB3.out hb)
  clear hb
  go_wp2_with fail
  go_ret
  exact ⟨rfl, HB4.out⟩
end Go.Proofs.YtcknmpcekmbcdaaDoor
