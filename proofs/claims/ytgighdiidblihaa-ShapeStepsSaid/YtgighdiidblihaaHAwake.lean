/- lockboxlaw06.awake. -/
import Derived.Test.YtgighdiidblihaaHFind
namespace Go.Proofs.Ytgighdiidblihaa
open Go.RowKit

theorem below_call {A B C : World} (h : Below A.heap.size A B) (k : Below B.heap.size B C) : Below A.heap.size A C := h.trans (k.mono h.size)
/-- Texts in a new row. -/
theorem texts_new (W : World) (ss : List ByteArray) (cs : Array Value) (hcs : cs = (ss.map Value.string).toArray) : TextsAt (W.alloc (.cells cs 9)) (some ⟨W.heap.size, 0, none⟩) ss := fun j hj => by
  refine ⟨W.heap.size, 0, rfl, by simp, ?_⟩
  rw [Nat.zero_add, cell_of_row _ _ _ _ _ _ (heap_alloc_new _ _), hcs]
  simp [hj]
def tA : ByteArray := ⟨#[97]⟩
def tB : ByteArray := ⟨#[98]⟩
theorem equal_c (a b : ByteArray) (r : Bool) (n : Nat) (ha : a.size ≤ 100) (hb : b.size ≤ 100) (hr : decide (a = b) = r) (hn : longer a b = n) (w : World) :
    Calls Try.prog 13 #[.string a, .string b] w fun e w' => e = .returned (.tuple #[.bool r, .int .i64 n]) ∧ w = w' := by
  rw [← hr, ← hn]; exact equal_any a b (by unfold maxLen; omega) (by unfold maxLen; omega) w
theorem order_c (a b : ByteArray) (r : Int) (n : Nat) (ha : a.size ≤ 100) (hb : b.size ≤ 100) (hr : cmpB a b = r) (hn : longer a b = n) (w : World) :
    Calls Try.prog 14 #[.string a, .string b] w fun e w' => e = .returned (.tuple #[.int .i64 r, .int .i64 n]) ∧ Below w.heap.size w w' := by
  rw [← hr, ← hn]; exact order_any a b (by unfold maxLen; omega) (by unfold maxLen; omega) w
theorem find_c (w : World) :
    Calls Try.prog 21 #[.slice (some ⟨w.heap.size, 0, none⟩) 3 3, .string tA] (w.alloc (.cells #[.string tA, .string tB, .string tA] 9)) fun e w' => e = .returned (.tuple #[.int .i64 0, .int .i64 3]) ∧ (w.alloc (.cells #[.string tA, .string tB, .string tA] 9)) = w' := by
  have h := find_any [tA, tB, tA] (some ⟨w.heap.size, 0, none⟩) 3 tA _ (texts_new w [tA, tB, tA] _ rfl) (by decide) (by decide) (by
    intro j hj
    have : j = 0 ∨ j = 1 ∨ j = 2 := by simp at hj; omega
    rcases this with rfl | rfl | rfl <;> decide)
  rw [show findN [tA, tB, tA] tA [tA, tB, tA].length = 0 from by decide +kernel, show stepsN [tA, tB, tA] tA [tA, tB, tA].length = 3 from by decide +kernel] at h
  exact h
set_option maxRecDepth 100000 in
set_option maxHeartbeats 1000000 in
theorem awake_any (w : World) :
    Calls Try.prog 12 #[] w fun e w' => e = .returned (.bool true) ∧ Below w.heap.size w w' := by
  go_enter Try.func12, Try.ntmps12
  go_wp2_with fail
  refine (equal_c _ _ false 3 (by decide) (by decide) (by decide +kernel) (by decide +kernel) _).mono ?_
  rintro e w1 ⟨rfl, rfl⟩
  go_wp2_with fail
  refine (order_c _ _ (-1) 3 (by decide) (by decide) (by decide +kernel) (by decide +kernel) _).mono ?_
  rintro e w1 ⟨rfl, h1⟩
  have H1 := Lib.hid h1
  clear h1
  go_wp2_with fail
  refine (find_c _).mono ?_
  rintro e w2 ⟨rfl, rfl⟩
  go_wp2_with fail
  refine (equal_c _ _ true 2 (by decide) (by decide) (by decide +kernel) (by decide +kernel) _).mono ?_
  rintro e w2 ⟨rfl, rfl⟩
  go_wp2_with fail
  refine (mask_any true _).mono ?_
  rintro e w2 ⟨rfl, rfl⟩
  go_wp2_with fail
  refine (mask_any false _).mono ?_
  rintro e w2 ⟨rfl, rfl⟩
  go_wp2_with fail
  go_ret
  exact ⟨rfl, H1.out.alloc H1.out.size _⟩
end Go.Proofs.Ytgighdiidblihaa
