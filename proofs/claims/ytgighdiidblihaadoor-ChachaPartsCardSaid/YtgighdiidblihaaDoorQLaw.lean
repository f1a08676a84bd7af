/- What the laws of chacha share: few, a lock in its box. -/
import Derived.Test.YtgighdiidblihaaDoorQRefS
import Derived.Test.YtgighdiidblihaaDoorQLaid
import Derived.Test.YtgighdiidblihaaDoorOpenL
import Derived.Test.YtgighdiidblihaaDoorQAwake
namespace Go.Proofs.YtgighdiidblihaaDoor
open Go.RowKit

set_option maxHeartbeats 400000 in
theorem few_yes (a b : ByteArray) (n : Int) (ha : (a.size : Int) ≤ 100) (hb : (b.size : Int) ≤ 100) (w : World) :
    Calls Tryd.prog 8 #[.agg #[.string a, .string b, .int .i64 n]] w fun e w' => e = .returned (.bool true) ∧ Below w.heap.size w w' := by
  go_enter Tryd.func8, Tryd.ntmps8
  go_wp2_with fail
  go_ret
  exact ⟨rfl, (Below.refl _ _).alloc (Nat.le_refl _) _⟩
set_option maxHeartbeats 400000 in
theorem few_no (a b : ByteArray) (n : Int) (h : ¬ ((a.size : Int) ≤ 100 ∧ (b.size : Int) ≤ 100)) (w : World) :
    Calls Tryd.prog 8 #[.agg #[.string a, .string b, .int .i64 n]] w fun e w' => e = .returned (.bool false) ∧ Below w.heap.size w w' := by
  by_cases ha : (a.size : Int) ≤ 100
  · have hb : ¬ (b.size : Int) ≤ 100 := fun x => h ⟨ha, x⟩
    clear h
    go_enter Tryd.func8, Tryd.ntmps8
    go_wp2_with fail
    go_ret
    exact ⟨rfl, (Below.refl _ _).alloc (Nat.le_refl _) _⟩
  · clear h
    go_enter Tryd.func8, Tryd.ntmps8
    go_wp2_with fail
    go_ret
    exact ⟨rfl, (Below.refl _ _).alloc (Nat.le_refl _) _⟩
/-- A lock lies in block g. -/
def LkS (w : World) (g : Nat) (a b : ByteArray) (n : Int) (W : World) : Prop :=
  w.heap.size ≤ g ∧ g < W.heap.size ∧ Below w.heap.size w W ∧ W.cell? ⟨g, 0, none⟩ = some (.string a) ∧ W.cell? ⟨g, 1, none⟩ = some (.string b) ∧ W.cell? ⟨g, 2, none⟩ = some (.int .i64 n)
theorem LkS.call {w : World} {g : Nat} {a b : ByteArray} {n : Int} {W W' : World} (h : LkS w g a b n W) (hb : Below W.heap.size W W') : LkS w g a b n W' := by
  obtain ⟨h0, h1, h2, c0, c1, c2⟩ := h
  exact ⟨h0, Nat.lt_of_lt_of_le h1 hb.size, below_call' h2 hb, (hb.cell (p := ⟨g, 0, none⟩) h1).trans c0, (hb.cell (p := ⟨g, 1, none⟩) h1).trans c1, (hb.cell (p := ⟨g, 2, none⟩) h1).trans c2⟩
theorem LkS.start (w : World) (a b : ByteArray) (n : Int) : LkS w w.heap.size a b n (w.alloc (.cells #[.string a, .string b, .int .i64 n] 23)) := by
  have hr := heap_alloc_new w (.cells #[.string a, .string b, .int .i64 n] 23)
  exact ⟨Nat.le_refl _, by simp, (Below.refl _ _).alloc (Nat.le_refl _) _, by rw [cell_of_row _ _ _ _ _ _ hr]; rfl, by rw [cell_of_row _ _ _ _ _ _ hr]; rfl, by rw [cell_of_row _ _ _ _ _ _ hr]; rfl⟩
theorem beq_same (a : ByteArray) : (a.toList == a.toList) = true := by simp
theorem ok_of_ask {kl nl : Nat} {c : Int} (h : askE kl nl c = 0) : kl = 32 ∧ nl = 12 ∧ 0 ≤ c ∧ c ≤ 4294967295 := by
  unfold askE at h
  split at h
  · omega
  · split at h
    · omega
    · omega
end Go.Proofs.YtgighdiidblihaaDoor
