/- PROVED HERE: for every four words the law ChachaQuarters returns true (four words behind a quarter turn are as the reference defines it), and they read afterwards as they did. No condition. -/
import Derived.Test.YtgighdiidblihaaQRefQ
import Derived.Test.YtgighdiidblihaaQAwake
import Derived.Test.YtgighdiidblihaaOpenW
import Derived.Test.YtgighdiidblihaaRows
import Derived.ProofKit
import Derived.OpenShut
import Derived.Deep.RegionHeld
namespace Go.Proofs.Ytgighdiidblihaa
open Go.RowKit

theorem turn4 (a b c d : BitVec 32) : turnL [a, b, c, d] 0 1 2 3 = [(qtr ⟨a, b, c, d⟩).a, (qtr ⟨a, b, c, d⟩).b, (qtr ⟨a, b, c, d⟩).c, (qtr ⟨a, b, c, d⟩).d] := rfl
/-- Both stand where they stand. -/
def QqS (w : World) (g h : Nat) (q : Qr) (W : World) : Prop :=
  g < W.heap.size ∧ h < W.heap.size ∧ Below w.heap.size w W ∧ (W.cell? ⟨g, 0, none⟩ = some (.int .u32 (V q.a)) ∧ W.cell? ⟨g, 1, none⟩ = some (.int .u32 (V q.b)) ∧ W.cell? ⟨g, 2, none⟩ = some (.int .u32 (V q.c)) ∧ W.cell? ⟨g, 3, none⟩ = some (.int .u32 (V q.d))) ∧
  (W.cell? ⟨h, 0, none⟩ = some (.int .u32 (V q.a)) ∧ W.cell? ⟨h, 1, none⟩ = some (.int .u32 (V q.b)) ∧ W.cell? ⟨h, 2, none⟩ = some (.int .u32 (V q.c)) ∧ W.cell? ⟨h, 3, none⟩ = some (.int .u32 (V q.d)))
theorem QqS.call {w : World} {g h : Nat} {q : Qr} {W W' : World} (H : QqS w g h q W) (hb : Below W.heap.size W W') : QqS w g h q W' := by
  obtain ⟨hg, hh, hw, ⟨a0, a1, a2, a3⟩, ⟨b0, b1, b2, b3⟩⟩ := H
  exact ⟨Nat.lt_of_lt_of_le hg hb.size, Nat.lt_of_lt_of_le hh hb.size, below_call hw hb, ⟨(hb.cell (p := ⟨g, 0, none⟩) hg).trans a0, (hb.cell (p := ⟨g, 1, none⟩) hg).trans a1, (hb.cell (p := ⟨g, 2, none⟩) hg).trans a2, (hb.cell (p := ⟨g, 3, none⟩) hg).trans a3⟩,
    ⟨(hb.cell (p := ⟨h, 0, none⟩) hh).trans b0, (hb.cell (p := ⟨h, 1, none⟩) hh).trans b1, (hb.cell (p := ⟨h, 2, none⟩) hh).trans b2, (hb.cell (p := ⟨h, 3, none⟩) hh).trans b3⟩⟩
set_option maxRecDepth 100000 in
set_option maxHeartbeats 2000000 in
theorem quarters_law (a b c d : BitVec 32) (w : World) :
    Calls Try.prog 3 #[.agg (words4 a b c d)] w fun e w' => e = .returned (.bool true) ∧ Below w.heap.size w w' := by
  unfold words4
  obtain ⟨q0, hq0⟩ : ∃ q : Qr, q = ⟨a, b, c, d⟩ := ⟨_, rfl⟩
  have cq := fun W => quarter_any q0 W
  have ea : q0.a = a := by rw [hq0]
  have eb : q0.b = b := by rw [hq0]
  have ec : q0.c = c := by rw [hq0]
  have ed : q0.d = d := by rw [hq0]
  rw [ea, eb, ec, ed] at cq
  have ht := turn4 a b c d
  rw [← hq0] at ht
  generalize qtr q0 = q at *
  obtain ⟨w0, hw0⟩ : ∃ w0, w0 = w.alloc (.cells #[.int .u32 (V a), .int .u32 (V b), .int .u32 (V c), .int .u32 (V d)] 23) := ⟨_, rfl⟩
  have hb0 : Below w.heap.size w w0 := by rw [hw0]; exact (Below.refl _ _).alloc (Nat.le_refl _) _
  have hr0 : w0.heap[w.heap.size]? = some (.cells #[.int .u32 (V a), .int .u32 (V b), .int .u32 (V c), .int .u32 (V d)] 23 (0, 0)) := by rw [hw0]; exact heap_alloc_new _ _
  have hz0 : w0.heap.size = w.heap.size + 1 := by rw [hw0]; simp
  have H := Lib.hid (And.intro cq (And.intro ht (And.intro hb0 (And.intro hr0 hz0))))
  have HW := Lib.hid hw0
  clear cq ht hb0 hr0 hz0 hw0 ea eb ec ed hq0
  go_enter Try.func3, Try.ntmps3
  go_wp2_with fail
  rw [← HW.out]
  refine (H.out.1 _).mono ?_
  rintro e w1 ⟨rfl, h1⟩
  have hr1 : w1.heap[w.heap.size]? = some (.cells #[.int .u32 (V a), .int .u32 (V b), .int .u32 (V c), .int .u32 (V d)] 23 (0, 0)) := (h1.block _ (by have := H.out.2.2.2.2; omega)).trans H.out.2.2.2.1
  have c0 : w1.cell? ⟨w.heap.size, 0, none⟩ = some (.int .u32 (V a)) := by rw [cell_of_row _ _ _ _ _ _ hr1]; rfl
  have c1 : w1.cell? ⟨w.heap.size, 1, none⟩ = some (.int .u32 (V b)) := by rw [cell_of_row _ _ _ _ _ _ hr1]; rfl
  have c2 : w1.cell? ⟨w.heap.size, 2, none⟩ = some (.int .u32 (V c)) := by rw [cell_of_row _ _ _ _ _ _ hr1]; rfl
  have c3 : w1.cell? ⟨w.heap.size, 3, none⟩ = some (.int .u32 (V d)) := by rw [cell_of_row _ _ _ _ _ _ hr1]; rfl
  have K1 := Lib.hid (And.intro (below_call H.out.2.2.1 h1) h1.size)
  have hlt : w.heap.size < w1.heap.size := by have := h1.size; have := H.out.2.2.2.2; omega
  clear h1 hr1
  unfold cells4
  go_wp2_with fail
  have zz : (w1.alloc (.cells #[.int .u32 (V q.a), .int .u32 (V q.b), .int .u32 (V q.c), .int .u32 (V q.d)] 23)).heap.size = w1.heap.size + 1 := by simp
  obtain ⟨w3, hw3⟩ : ∃ w3, w3 = ((w1.alloc (.cells #[.int .u32 (V q.a), .int .u32 (V q.b), .int .u32 (V q.c), .int .u32 (V q.d)] 23)).alloc (.cells #[.int .u32 (V a), .int .u32 (V b), .int .u32 (V c), .int .u32 (V d)] 22)) := ⟨_, rfl⟩
  have hb3 : Below w.heap.size w w3 := by rw [hw3]; exact (K1.out.1.alloc (by omega) _).alloc (by rw [zz]; omega) _
  have hr3 : w3.heap[w1.heap.size]? = some (.cells #[.int .u32 (V q.a), .int .u32 (V q.b), .int .u32 (V q.c), .int .u32 (V q.d)] 23 (0, 0)) := by
    rw [hw3, Lib.alloc_old _ _ _ (by omega)]; exact heap_alloc_new _ _
  have hr4 : w3.heap[w1.heap.size + 1]? = some (.cells #[.int .u32 (V a), .int .u32 (V b), .int .u32 (V c), .int .u32 (V d)] 22 (0, 0)) := by
    rw [hw3, ← zz]; exact heap_alloc_new _ _
  have hz3 : w3.heap.size = w1.heap.size + 2 := by rw [hw3]; simp
  have hT3 : WordsAt w3 (some ⟨w1.heap.size + 1, 0, none⟩) [a, b, c, d] := fun j hj => by
    refine ⟨w1.heap.size + 1, 0, rfl, by omega, ?_⟩
    rw [Nat.zero_add, cell_of_row _ _ _ _ _ _ hr4]
    have : j = 0 ∨ j = 1 ∨ j = 2 ∨ j = 3 := by simp at hj; omega
    rcases this with rfl | rfl | rfl | rfl <;> rfl
  rw [← hw3]
  clear hw3 hr4 zz c0 c1 c2 c3
  have cr := rquarter_any [a, b, c, d] (some ⟨w1.heap.size + 1, 0, none⟩) 4 0 1 2 3 (by simp) (by simp) (by simp) (by simp) (by simp) (by decide) w3 hT3
  rw [H.out.2.1] at cr
  refine cr.mono ?_
  rintro e w4 ⟨la, lc, rfl, hown, hb4⟩
  obtain ⟨h, rfl, hB, hlt4⟩ := hown.at (by simp)
  have hg4 : w1.heap.size < w4.heap.size := by have := hb4.size; omega
  have hr5 : w4.heap[w1.heap.size]? = some (.cells #[.int .u32 (V q.a), .int .u32 (V q.b), .int .u32 (V q.c), .int .u32 (V q.d)] 23 (0, 0)) := (hb4.block _ (by omega)).trans hr3
  have C : QqS w w1.heap.size h q w4.drew := ⟨hg4, hlt4, (below_call hb3 hb4).drew, ⟨by rw [World.cell?_drew, cell_of_row _ _ _ _ _ _ hr5]; rfl, by rw [World.cell?_drew, cell_of_row _ _ _ _ _ _ hr5]; rfl, by rw [World.cell?_drew, cell_of_row _ _ _ _ _ _ hr5]; rfl, by rw [World.cell?_drew, cell_of_row _ _ _ _ _ _ hr5]; rfl⟩,
    ⟨hown.cellAt 0 (by simp), hown.cellAt 1 (by simp), hown.cellAt 2 (by simp), hown.cellAt 3 (by simp)⟩⟩
  clear hown hb3 hr3 hz3 hT3 cr hb4 hr5 hB
  go_wp2_with fail
  refine wp_region_held (S := QqS w w1.heap.size h q) (by kernel_rfl) ?_
  change wpAnyH _ _ _ _ _ _ _ _ (World.drew _)
  generalize World.drew _ = wh at *
  refine wpAnyH_ready (rs := [0]) (by kernel_rfl) (by simp) ?_
  refine AllReadyH.cons rfl (fun K hK => ?_) AllReadyH.nil
  go_simp
  refine (awake_any _).mono ?_
  rintro e W1 ⟨rfl, hb⟩
  have C := C.call hb
  refine hK.out _ _ C (fun _ => ?_)
  clear hK K hb
  refine wpAnyH_take (i := 1) (v := ?_) rfl (by kernel_rfl) (by kernel_rfl) (by kernel_rfl) (fun _ _ _ h => h) (Or.inl ⟨by kernel_rfl, ?_⟩) C ?_
  rotate_left
  · (intro W hS; obtain ⟨-, -, -, ⟨a0, a1, a2, a3⟩, ⟨b0, b1, b2, b3⟩⟩ := hS; go_simp; try (with_reducible rfl))
  refine wpAnyH_take (i := 2) (v := ?_) rfl (by kernel_rfl) (by kernel_rfl) (by kernel_rfl) (fun _ _ _ h => h) (Or.inl ⟨by kernel_rfl, ?_⟩) C ?_
  rotate_left
  · (intro W hS; obtain ⟨-, -, -, ⟨a0, a1, a2, a3⟩, ⟨b0, b1, b2, b3⟩⟩ := hS; go_simp; try (with_reducible rfl))
  refine wpAnyH_take (i := 3) (v := ?_) rfl (by kernel_rfl) (by kernel_rfl) (by kernel_rfl) (fun _ _ _ h => h) (Or.inl ⟨by kernel_rfl, ?_⟩) C ?_
  rotate_left
  · (intro W hS; obtain ⟨-, -, -, ⟨a0, a1, a2, a3⟩, ⟨b0, b1, b2, b3⟩⟩ := hS; go_simp; try (with_reducible rfl))
  refine wpAnyH_take (i := 4) (v := .bool true) rfl (by kernel_rfl) (by kernel_rfl) (by kernel_rfl) (fun _ _ _ h => h) (Or.inl ⟨by kernel_rfl, ?_⟩) C ?_
  · (intro W hS; obtain ⟨-, -, -, ⟨a0, a1, a2, a3⟩, ⟨b0, b1, b2, b3⟩⟩ := hS; go_simp; first | done | (with_reducible rfl) | simp)
  refine wpAnyH_take (i := 5) (v := .bool true) rfl (by kernel_rfl) (by kernel_rfl) (by kernel_rfl) (fun _ _ _ h => h) (Or.inl ⟨by kernel_rfl, ?_⟩) C ?_
  · (intro W hS; obtain ⟨-, -, -, ⟨a0, a1, a2, a3⟩, ⟨b0, b1, b2, b3⟩⟩ := hS; go_simp; first | done | (with_reducible rfl) | simp)
  refine wpAnyH_take (i := 6) (v := .bool true) rfl (by kernel_rfl) (by kernel_rfl) (by kernel_rfl) (fun _ _ _ h => h) (Or.inl ⟨by kernel_rfl, ?_⟩) C ?_
  · (intro W hS; obtain ⟨-, -, -, ⟨a0, a1, a2, a3⟩, ⟨b0, b1, b2, b3⟩⟩ := hS; go_simp; first | done | (with_reducible rfl) | simp)
  refine wpAnyH_take (i := 7) (v := ?_) rfl (by kernel_rfl) (by kernel_rfl) (by kernel_rfl) (fun _ _ _ h => h) (Or.inl ⟨by kernel_rfl, ?_⟩) C ?_
  rotate_left
  · (intro W hS; obtain ⟨-, -, -, ⟨a0, a1, a2, a3⟩, ⟨b0, b1, b2, b3⟩⟩ := hS; go_simp; try (with_reducible rfl))
  refine wpAnyH_take (i := 8) (v := ?_) rfl (by kernel_rfl) (by kernel_rfl) (by kernel_rfl) (fun _ _ _ h => h) (Or.inl ⟨by kernel_rfl, ?_⟩) C ?_
  rotate_left
  · (intro W hS; obtain ⟨-, -, -, ⟨a0, a1, a2, a3⟩, ⟨b0, b1, b2, b3⟩⟩ := hS; go_simp; try (with_reducible rfl))
  refine wpAnyH_take (i := 9) (v := ?_) rfl (by kernel_rfl) (by kernel_rfl) (by kernel_rfl) (fun _ _ _ h => h) (Or.inl ⟨by kernel_rfl, ?_⟩) C ?_
  rotate_left
  · (intro W hS; obtain ⟨-, -, -, ⟨a0, a1, a2, a3⟩, ⟨b0, b1, b2, b3⟩⟩ := hS; go_simp; try (with_reducible rfl))
  refine wpAnyH_take (i := 10) (v := ?_) rfl (by kernel_rfl) (by kernel_rfl) (by kernel_rfl) (fun _ _ _ h => h) (Or.inl ⟨by kernel_rfl, ?_⟩) C ?_
  rotate_left
  · (intro W hS; obtain ⟨-, -, -, ⟨a0, a1, a2, a3⟩, ⟨b0, b1, b2, b3⟩⟩ := hS; go_simp; try (with_reducible rfl))
  refine wpAnyH_take (i := 11) (v := ?_) rfl (by kernel_rfl) (by kernel_rfl) (by kernel_rfl) (fun _ _ _ h => h) (Or.inl ⟨by kernel_rfl, ?_⟩) C ?_
  rotate_left
  · (intro W hS; obtain ⟨-, -, -, ⟨a0, a1, a2, a3⟩, ⟨b0, b1, b2, b3⟩⟩ := hS; go_simp; try (with_reducible rfl))
  refine wpAnyH_take (i := 12) (v := .bool true) rfl (by kernel_rfl) (by kernel_rfl) (by kernel_rfl) (fun _ _ _ h => h) (Or.inl ⟨by kernel_rfl, ?_⟩) C ?_
  · (intro W hS; obtain ⟨-, -, -, ⟨a0, a1, a2, a3⟩, ⟨b0, b1, b2, b3⟩⟩ := hS; go_simp; first | done | (with_reducible rfl) | simp)
  refine wpAnyH_take (i := 13) (v := .bool true) rfl (by kernel_rfl) (by kernel_rfl) (by kernel_rfl) (fun _ _ _ h => h) (Or.inl ⟨by kernel_rfl, ?_⟩) C ?_
  · (intro W hS; obtain ⟨-, -, -, ⟨a0, a1, a2, a3⟩, ⟨b0, b1, b2, b3⟩⟩ := hS; go_simp; first | done | (with_reducible rfl) | simp)
  refine wpAnyH_take (i := 14) (v := .bool true) rfl (by kernel_rfl) (by kernel_rfl) (by kernel_rfl) (fun _ _ _ h => h) (Or.inl ⟨by kernel_rfl, ?_⟩) C ?_
  · (intro W hS; obtain ⟨-, -, -, ⟨a0, a1, a2, a3⟩, ⟨b0, b1, b2, b3⟩⟩ := hS; go_simp; first | done | (with_reducible rfl) | simp)
  refine wpAnyH_take (i := 15) (v := ?_) rfl (by kernel_rfl) (by kernel_rfl) (by kernel_rfl) (fun _ _ _ h => h) (Or.inl ⟨by kernel_rfl, ?_⟩) C ?_
  rotate_left
  · (intro W hS; obtain ⟨-, -, -, ⟨a0, a1, a2, a3⟩, ⟨b0, b1, b2, b3⟩⟩ := hS; go_simp; try (with_reducible rfl))
  refine wpAnyH_take (i := 16) (v := ?_) rfl (by kernel_rfl) (by kernel_rfl) (by kernel_rfl) (fun _ _ _ h => h) (Or.inl ⟨by kernel_rfl, ?_⟩) C ?_
  rotate_left
  · (intro W hS; obtain ⟨-, -, -, ⟨a0, a1, a2, a3⟩, ⟨b0, b1, b2, b3⟩⟩ := hS; go_simp; try (with_reducible rfl))
  refine wpAnyH_take (i := 17) (v := ?_) rfl (by kernel_rfl) (by kernel_rfl) (by kernel_rfl) (fun _ _ _ h => h) (Or.inl ⟨by kernel_rfl, ?_⟩) C ?_
  rotate_left
  · (intro W hS; obtain ⟨-, -, -, ⟨a0, a1, a2, a3⟩, ⟨b0, b1, b2, b3⟩⟩ := hS; go_simp; try (with_reducible rfl))
  refine wpAnyH_take (i := 18) (v := ?_) rfl (by kernel_rfl) (by kernel_rfl) (by kernel_rfl) (fun _ _ _ h => h) (Or.inl ⟨by kernel_rfl, ?_⟩) C ?_
  rotate_left
  · (intro W hS; obtain ⟨-, -, -, ⟨a0, a1, a2, a3⟩, ⟨b0, b1, b2, b3⟩⟩ := hS; go_simp; try (with_reducible rfl))
  refine wpAnyH_take (i := 19) (v := ?_) rfl (by kernel_rfl) (by kernel_rfl) (by kernel_rfl) (fun _ _ _ h => h) (Or.inl ⟨by kernel_rfl, ?_⟩) C ?_
  rotate_left
  · (intro W hS; obtain ⟨-, -, -, ⟨a0, a1, a2, a3⟩, ⟨b0, b1, b2, b3⟩⟩ := hS; go_simp; try (with_reducible rfl))
  refine wpAnyH_take (i := 20) (v := .bool true) rfl (by kernel_rfl) (by kernel_rfl) (by kernel_rfl) (fun _ _ _ h => h) (Or.inl ⟨by kernel_rfl, ?_⟩) C ?_
  · (intro W hS; obtain ⟨-, -, -, ⟨a0, a1, a2, a3⟩, ⟨b0, b1, b2, b3⟩⟩ := hS; go_simp; first | done | (with_reducible rfl) | simp)
  refine wpAnyH_take (i := 21) (v := .bool true) rfl (by kernel_rfl) (by kernel_rfl) (by kernel_rfl) (fun _ _ _ h => h) (Or.inl ⟨by kernel_rfl, ?_⟩) C ?_
  · (intro W hS; obtain ⟨-, -, -, ⟨a0, a1, a2, a3⟩, ⟨b0, b1, b2, b3⟩⟩ := hS; go_simp; first | done | (with_reducible rfl) | simp)
  refine wpAnyH_take (i := 22) (v := .bool true) rfl (by kernel_rfl) (by kernel_rfl) (by kernel_rfl) (fun _ _ _ h => h) (Or.inl ⟨by kernel_rfl, ?_⟩) C ?_
  · (intro W hS; obtain ⟨-, -, -, ⟨a0, a1, a2, a3⟩, ⟨b0, b1, b2, b3⟩⟩ := hS; go_simp; first | done | (with_reducible rfl) | simp)
  refine wpAnyH_take (i := 23) (v := ?_) rfl (by kernel_rfl) (by kernel_rfl) (by kernel_rfl) (fun _ _ _ h => h) (Or.inl ⟨by kernel_rfl, ?_⟩) C ?_
  rotate_left
  · (intro W hS; obtain ⟨-, -, -, ⟨a0, a1, a2, a3⟩, ⟨b0, b1, b2, b3⟩⟩ := hS; go_simp; try (with_reducible rfl))
  refine wpAnyH_take (i := 24) (v := ?_) rfl (by kernel_rfl) (by kernel_rfl) (by kernel_rfl) (fun _ _ _ h => h) (Or.inl ⟨by kernel_rfl, ?_⟩) C ?_
  rotate_left
  · (intro W hS; obtain ⟨-, -, -, ⟨a0, a1, a2, a3⟩, ⟨b0, b1, b2, b3⟩⟩ := hS; go_simp; try (with_reducible rfl))
  refine wpAnyH_take (i := 25) (v := ?_) rfl (by kernel_rfl) (by kernel_rfl) (by kernel_rfl) (fun _ _ _ h => h) (Or.inl ⟨by kernel_rfl, ?_⟩) C ?_
  rotate_left
  · (intro W hS; obtain ⟨-, -, -, ⟨a0, a1, a2, a3⟩, ⟨b0, b1, b2, b3⟩⟩ := hS; go_simp; try (with_reducible rfl))
  refine wpAnyH_take (i := 26) (v := ?_) rfl (by kernel_rfl) (by kernel_rfl) (by kernel_rfl) (fun _ _ _ h => h) (Or.inl ⟨by kernel_rfl, ?_⟩) C ?_
  rotate_left
  · (intro W hS; obtain ⟨-, -, -, ⟨a0, a1, a2, a3⟩, ⟨b0, b1, b2, b3⟩⟩ := hS; go_simp; try (with_reducible rfl))
  refine wpAnyH_take (i := 27) (v := ?_) rfl (by kernel_rfl) (by kernel_rfl) (by kernel_rfl) (fun _ _ _ h => h) (Or.inl ⟨by kernel_rfl, ?_⟩) C ?_
  rotate_left
  · (intro W hS; obtain ⟨-, -, -, ⟨a0, a1, a2, a3⟩, ⟨b0, b1, b2, b3⟩⟩ := hS; go_simp; try (with_reducible rfl))
  refine wpAnyH_take (i := 28) (v := .bool true) rfl (by kernel_rfl) (by kernel_rfl) (by kernel_rfl) (fun _ _ _ h => h) (Or.inl ⟨by kernel_rfl, ?_⟩) C ?_
  · (intro W hS; obtain ⟨-, -, -, ⟨a0, a1, a2, a3⟩, ⟨b0, b1, b2, b3⟩⟩ := hS; go_simp; first | done | (with_reducible rfl) | simp)
  refine wpAnyH_take (i := 29) (v := .bool true) rfl (by kernel_rfl) (by kernel_rfl) (by kernel_rfl) (fun _ _ _ h => h) (Or.inl ⟨by kernel_rfl, ?_⟩) C ?_
  · (intro W hS; obtain ⟨-, -, -, ⟨a0, a1, a2, a3⟩, ⟨b0, b1, b2, b3⟩⟩ := hS; go_simp; first | done | (with_reducible rfl) | simp)
  refine wpAnyH_take (i := 30) (v := .bool true) rfl (by kernel_rfl) (by kernel_rfl) (by kernel_rfl) (fun _ _ _ h => h) (Or.inl ⟨by kernel_rfl, ?_⟩) C ?_
  · (intro W hS; obtain ⟨-, -, -, ⟨a0, a1, a2, a3⟩, ⟨b0, b1, b2, b3⟩⟩ := hS; go_simp; first | done | (with_reducible rfl) | simp)
  refine wpAnyH_take (i := 31) (v := ?_) rfl (by kernel_rfl) (by kernel_rfl) (by kernel_rfl) (fun _ _ _ h => h) (Or.inl ⟨by kernel_rfl, ?_⟩) C ?_
  rotate_left
  · (intro W hS; obtain ⟨-, -, -, ⟨a0, a1, a2, a3⟩, ⟨b0, b1, b2, b3⟩⟩ := hS; go_simp; try (with_reducible rfl))
  refine wpAnyH_take (i := 32) (v := ?_) rfl (by kernel_rfl) (by kernel_rfl) (by kernel_rfl) (fun _ _ _ h => h) (Or.inl ⟨by kernel_rfl, ?_⟩) C ?_
  rotate_left
  · (intro W hS; obtain ⟨-, -, -, ⟨a0, a1, a2, a3⟩, ⟨b0, b1, b2, b3⟩⟩ := hS; go_simp; try (with_reducible rfl))
  refine wpAnyH_take (i := 33) (v := ?_) rfl (by kernel_rfl) (by kernel_rfl) (by kernel_rfl) (fun _ _ _ h => h) (Or.inl ⟨by kernel_rfl, ?_⟩) C ?_
  rotate_left
  · (intro W hS; obtain ⟨-, -, -, ⟨a0, a1, a2, a3⟩, ⟨b0, b1, b2, b3⟩⟩ := hS; go_simp; try (with_reducible rfl))
  refine wpAnyH_take (i := 34) (v := ?_) rfl (by kernel_rfl) (by kernel_rfl) (by kernel_rfl) (fun _ _ _ h => h) (Or.inl ⟨by kernel_rfl, ?_⟩) C ?_
  rotate_left
  · (intro W hS; obtain ⟨-, -, -, ⟨a0, a1, a2, a3⟩, ⟨b0, b1, b2, b3⟩⟩ := hS; go_simp; try (with_reducible rfl))
  refine wpAnyH_take (i := 35) (v := ?_) rfl (by kernel_rfl) (by kernel_rfl) (by kernel_rfl) (fun _ _ _ h => h) (Or.inl ⟨by kernel_rfl, ?_⟩) C ?_
  rotate_left
  · (intro W hS; obtain ⟨-, -, -, ⟨a0, a1, a2, a3⟩, ⟨b0, b1, b2, b3⟩⟩ := hS; go_simp; try (with_reducible rfl))
  refine wpAnyH_take (i := 36) (v := .bool true) rfl (by kernel_rfl) (by kernel_rfl) (by kernel_rfl) (fun _ _ _ h => h) (Or.inl ⟨by kernel_rfl, ?_⟩) C ?_
  · (intro W hS; obtain ⟨-, -, -, ⟨a0, a1, a2, a3⟩, ⟨b0, b1, b2, b3⟩⟩ := hS; go_simp; first | done | (with_reducible rfl) | simp)
  refine wpAnyH_take (i := 37) (v := .bool true) rfl (by kernel_rfl) (by kernel_rfl) (by kernel_rfl) (fun _ _ _ h => h) (Or.inl ⟨by kernel_rfl, ?_⟩) C ?_
  · (intro W hS; obtain ⟨-, -, -, ⟨a0, a1, a2, a3⟩, ⟨b0, b1, b2, b3⟩⟩ := hS; go_simp; first | done | (with_reducible rfl) | simp)
  refine wpAnyH_take (i := 38) (v := .bool true) rfl (by kernel_rfl) (by kernel_rfl) (by kernel_rfl) (fun _ _ _ h => h) (Or.inl ⟨by kernel_rfl, ?_⟩) C ?_
  · (intro W hS; obtain ⟨-, -, -, ⟨a0, a1, a2, a3⟩, ⟨b0, b1, b2, b3⟩⟩ := hS; go_simp; first | done | (with_reducible rfl) | simp)
  refine wpAnyH_done (by kernel_rfl) ?_ _
  go_wp2_with fail
  go_ret
  exact ⟨by kernel_rfl, C.2.2.1⟩
end Go.Proofs.Ytgighdiidblihaa

namespace Go.Proofs.Ytgighdiidblihaa.chachaQuartersLaw
open Go.ChangeShapes Go.WideShapes Go.ChangeAt Go.RowKit
open Go.ChangeMaps (open_string shut_string)

theorem own : ownKnob Try.prog.godebug = none := by kernel_rfl
set_option maxRecDepth 100000 in
theorem lifted (os : Os) (started : os.Started) (H : Type) (enc : TypeId × Value → H) :
    ReturnsInHanded {} Try.checked os 3 .any (Rows.chachaQuartersSpec.pre6 enc Try.prog Try.f3 Rows.chachaQuartersRow.domain false) (Rows.chachaQuartersSpec.post enc Try.prog Try.f3 false true false false) := by
  refine returnsInHanded_of_change (C := Try.checked) own started (by kernel_rfl) Try.func3
    (ChangeSpec.witness6 (enc := enc) (C := Try.checked) false ⟨#[], #[.agg #[.int .u32 0, .int .u32 0, .int .u32 0, .int .u32 0]], []⟩ 8 (by kernel_rfl) (by kernel_rfl) (by kernel_rfl) (by kernel_rfl)) ?_
  intro W base args ds gs before hval0 hW hcnd _
  have hval : ∀ (j : Nat) t v, Try.f3.params[j]? = some t → args[j]? = some v → Value.okWide Try.prog W .any base t v := hval0
  have hW' := hW
  obtain ⟨p, q, hA0, hV, rfl, hfz, hnd⟩ := hW
  have hA : DataW.TrodAll enc Try.prog W 0 (fun _ => true) true Try.f3.params.toList args.toList ds p := hA0
  rw [Try.params3] at hA hval
  obtain ⟨v0, vs0, d0, ds0, p0, q0, hargs, rfl, rfl, h0, r0⟩ := trodAll_cons hA
  obtain ⟨rfl, rfl, rfl⟩ := trodAll_nil r0
  obtain rfl : args = #[v0] := by cases args; simp_all
  obtain ⟨rfl, rfl⟩ := trodVars_none hV
  obtain ⟨cs0, rfl, hcs0⟩ := okWide_array Try.underlying23 (hval 0 23 v0 rfl rfl)
  have hk0 := h0
  obtain ⟨fuel0, hf0⟩ := h0
  clear hA0 hval0
  simp only [List.append_nil] at hW'
  have hlt0 : ∀ x ∈ p0, x.block < W.heap.size := fun x hx => by simpa using hW'.lt x (by simp [hx])
  obtain ⟨x0a, x0b, x0c, x0d, hit0⟩ := open_words4 hf0
  obtain rfl : cs0 = words4 x0a x0b x0c x0d := Array.toList_inj.1 hit0
  refine (quarters_law x0a x0b x0c x0d (w := W)).mono fun e W' ⟨he, hb⟩ => ?_
  subst he
  exact ⟨_, rfl, _, _, _, [], _, [], hW', trodAll_cons_mk (shut_bool Try.underlying4 _) trodAll_mk0, (trodAll_cons_mk (Below.trod laidOut (by kernel_rfl) (of_decide_eq_true (by kernel_rfl)) hk0 hb hlt0) trodAll_mk0), rfl, hb.frame _, fun h => by cases h⟩
theorem over : Rows.chachaQuartersRow.holds Try.pinned (OpenSpec.ofChange Rows.chachaQuartersSpec) :=
  OpenClaim.holds_of_wide 3 Try.f3 rfl rfl rfl rfl rfl rfl rfl ⟨rfl, rfl, rfl, rfl, rfl⟩ rfl rfl rfl rfl rfl (by kernel_rfl) Try.func3 (by kernel_rfl)
    (of_decide_eq_true (by kernel_rfl)) (by unfold Func.isWrapper; first | (rw [if_pos (by decide +kernel)]; kernel_rfl) | (rw [if_neg (by decide +kernel)]; exact ⟨rfl, rfl⟩))
    (fun os started H enc _ => lifted os started H enc)
end Go.Proofs.Ytgighdiidblihaa.chachaQuartersLaw

namespace Go.Proofs.Ytgighdiidblihaa
theorem chachaQuarters_said : Rows.ChachaQuartersSaid := chachaQuartersLaw.over
end Go.Proofs.Ytgighdiidblihaa
