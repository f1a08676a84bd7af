/- lockboxlaw08.few, awake. -/
import Derived.Test.YtefpfedpgedloaaDoorPThr
namespace Go.Proofs.YtefpfedpgedloaaDoor
open Go.RowKit
open Gf

/-- Not longer than that, both. -/
def few2 (m : Int) (a b : ByteArray) : Bool := decide ((a.size : Int) ≤ m) && decide ((b.size : Int) ≤ m)
theorem aw_thr (w : World) : Calls Tryd.prog 38 #[.string ⟨#[1, 2]⟩, .string ⟨#[3, 0]⟩] w fun e w' => e = .returned (.tuple #[.string ⟨#[2, 1]⟩, .int .i64 0]) ∧ Below w.heap.size w w' := by
  have h := through_any ⟨#[1, 2]⟩ ⟨#[3, 0]⟩ (by decide) w
  rw [show thrB ⟨#[1, 2]⟩ ⟨#[3, 0]⟩ = ⟨#[2, 1]⟩ by decide +kernel, show aerr ⟨#[1, 2]⟩ ⟨#[3, 0]⟩ = 0 by decide +kernel] at h
  exact h
theorem aw_v1 (w : World) : Calls Tryd.prog 30 #[.string ⟨#[1, 1]⟩, .int .u8 2] w fun e w' => e = .returned (.int .u8 3) ∧ Below w.heap.size w w' := by
  have h := value_any ⟨#[1, 1]⟩ (by decide) 2 w
  rw [show valB ⟨#[1, 1]⟩ 2 = 3 by decide +kernel] at h
  exact h
theorem aw_v2 (w : World) : Calls Tryd.prog 30 #[.string ⟨#[2, 1]⟩, .int .u8 1] w fun e w' => e = .returned (.int .u8 3) ∧ Below w.heap.size w w' := by
  have h := value_any ⟨#[2, 1]⟩ (by decide) 1 w
  rw [show valB ⟨#[2, 1]⟩ 1 = 3 by decide +kernel] at h
  exact h
theorem aw_v3 (w : World) : Calls Tryd.prog 30 #[.string ⟨#[2, 1]⟩, .int .u8 2] w fun e w' => e = .returned (.int .u8 0) ∧ Below w.heap.size w w' := by
  have h := value_any ⟨#[2, 1]⟩ (by decide) 2 w
  rw [show valB ⟨#[2, 1]⟩ 2 = 0 by decide +kernel] at h
  exact h
theorem gtrans {w X Y : World} (h : Below w.heap.size w X) (k : Below X.heap.size X Y) : Below w.heap.size w Y := h.trans (k.mono h.size)
end Go.Proofs.YtefpfedpgedloaaDoor
