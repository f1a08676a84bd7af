/- lockboxlaw05.awake. -/
import Derived.Test.YtgighdiidblihaaDoorQQuarter
namespace Go.Proofs.YtgighdiidblihaaDoor
open Go.RowKit

def q1 : Qr := { a := 286331153#32, b := 16909060#32, c := 2609737539#32, d := 19088743#32 }
theorem q1_out : cells4 (qtr q1) = #[.int .u32 3928658676, .int .u32 3407673550, .int .u32 1166100270, .int .u32 1484899515] := by
  have h1 : V (qtr q1).a = 3928658676 := by decide +kernel
  have h2 : V (qtr q1).b = 3407673550 := by decide +kernel
  have h3 : V (qtr q1).c = 1166100270 := by decide +kernel
  have h4 : V (qtr q1).d = 1484899515 := by decide +kernel
  unfold cells4; rw [h1, h2, h3, h4]
theorem quarter_c (w : World) :
    Calls Tryd.prog 17 #[.int .u32 286331153, .int .u32 16909060, .int .u32 2609737539, .int .u32 19088743] w fun e w' => e = .returned (.agg #[.int .u32 3928658676, .int .u32 3407673550, .int .u32 1166100270, .int .u32 1484899515]) ∧ Below w.heap.size w w' := by
  have h := quarter_any q1 w
  rw [q1_out] at h
  exact h
theorem below_call {A B C : World} (h : Below A.heap.size A B) (k : Below B.heap.size B C) : Below A.heap.size A C := h.trans (k.mono h.size)
set_option maxHeartbeats 1000000 in
theorem awake_any (w : World) :
    Calls Tryd.prog 9 #[] w fun e w' => e = .returned (.bool true) ∧ Below w.heap.size w w' := by
  go_enter Tryd.func9, Tryd.ntmps9
  go_wp2_with fail
  refine (quarter_c _).mono ?_
  rintro e w1 ⟨rfl, h1⟩
  have H1 := Lib.hid h1
  clear h1
  go_wp2_with fail
  go_ret
  exact ⟨rfl, H1.out.alloc H1.out.size _⟩
end Go.Proofs.YtgighdiidblihaaDoor
