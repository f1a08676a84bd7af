/- takeIn: a block is taken in. -/
import Derived.Test.YtnpdmkgefaobeaaDoorMem
import Derived.Deep.QuietTactic
import Derived.BigQuiet
import Derived.StillTailTactics
import Derived.Deep.DeepMust
namespace Go.Proofs.YtnpdmkgefaobeaaDoor
open Go.RowKit

attribute [local go_sem] V_add V_add' V_xor V_and V_or V_not V_not' V_shr V_shl V_shl'
attribute [local go_sem] V_div8 V_div1024

/-- What holds of memory at the head of round t. -/
def TkInv (m : Nat → BitVec 32) (s : St) (w wr : World) (t : Nat) : Prop :=
  (∃ ws : Array Value, wr.heap[w.heap.size + 1]? = some (.cells ws 74) ∧ ws.size = 16 ∧ ∀ i, i < 16 ∨ i < t → t ≤ i + 16 → ws[i % 16]? = some (.int .u32 (V (ww m i)))) ∧
  wr.heap[w.heap.size]? = some (.cells (cells8 s) 43) ∧ wr.heap[w.heap.size + 1 + 1]? = some (.cells (Array.replicate 8 (.int .u32 0)) 43) ∧ Below w.heap.size w wr
theorem TkInv.drewN {m : Nat → BitVec 32} {s : St} {w wr : World} {t : Nat} (h : TkInv m s w wr t) (n : Nat) : TkInv m s w (wr.drewN n) t :=
  ⟨h.1, h.2.1, h.2.2.1, below_drewN h.2.2.2 n⟩
theorem TkInv.drew {m : Nat → BitVec 32} {s : St} {w wr : World} {t : Nat} (h : TkInv m s w wr t) : TkInv m s w wr.drew t :=
  ⟨h.1, h.2.1, h.2.2.1, h.2.2.2.drew⟩
theorem TkInv.start {m : Nat → BitVec 32} {s : St} {w wr : World} {ws : Array Value} (hws : ws.size = 16) (hm : ∀ i, i < 16 → ws[i]? = some (.int .u32 (V (m i))))
    (hA : wr.heap[w.heap.size]? = some (.cells (cells8 s) 43)) (hB : wr.heap[w.heap.size + 1]? = some (.cells ws 74)) (hC : wr.heap[w.heap.size + 1 + 1]? = some (.cells (Array.replicate 8 (.int .u32 0)) 43)) (hb : Below w.heap.size w wr) : TkInv m s w wr 0 :=
  ⟨⟨ws, hB, hws, fun i hi _ => by rw [Nat.mod_eq_of_lt (by omega), hm i (by omega), ww_own m i (by omega)]⟩, hA, hC, hb⟩
theorem TkInv.cell {m : Nat → BitVec 32} {s : St} {w wr : World} {t : Nat} (h : TkInv m s w wr t) (j i : Nat) (hj : i % 16 = j) (h1 : i < 16 ∨ i < t) (h2 : t ≤ i + 16) :
    wr.cell? ⟨w.heap.size + 1, j, none⟩ = some (.int .u32 (V (ww m i))) := by
  obtain ⟨ws, hB, _, hall⟩ := h.1
  rw [cell_of_row _ _ _ _ _ _ hB, ← hj]; exact hall i h1 h2
theorem TkInv.free {m : Nat → BitVec 32} {s : St} {w wr : World} {t : Nat} (h : TkInv m s w wr t) (j : Nat) : wr.frozen? ⟨w.heap.size + 1, j, none⟩ = false := by
  obtain ⟨ws, hB, _⟩ := h.1
  exact frozen_of_row _ _ _ _ _ hB
theorem TkInv.keep {m : Nat → BitVec 32} {s : St} {w wr : World} {t : Nat} (h : TkInv m s w wr t) (ht : t < 16) : TkInv m s w wr (t + 1) := by
  obtain ⟨⟨ws, hB, hz, hall⟩, h2⟩ := h
  exact ⟨⟨ws, hB, hz, fun i hi _ => hall i (by omega) (by omega)⟩, h2⟩
theorem TkInv.put {m : Nat → BitVec 32} {s : St} {w wr : World} {t : Nat} (h : TkInv m s w wr t) (ht : ¬ t < 16) (j : Nat) (hj : t % 16 = j) (x : BitVec 32) (hx : x = ww m t) :
    TkInv m s w (wr.setCell ⟨w.heap.size + 1, j, none⟩ (.int .u32 (V x))) (t + 1) := by
  obtain ⟨⟨ws, hB, hz, hall⟩, hA, hC, hb⟩ := h
  refine ⟨⟨_, heap_setCell_same _ _ _ _ _ _ hB, by simpa using hz, fun i hi h16 => ?_⟩, ?_, ?_, hb.setCell (by simp) _⟩
  · rw [Array.getElem?_setIfInBounds]
    by_cases e : i = t
    · subst e; rw [if_pos hj.symm, if_pos (by omega), hx]
    · rw [if_neg (by omega)]; exact hall i (by omega) (by omega)
  · rw [heap_setCell_other _ _ _ _ (by simp)]; exact hA
  · rw [heap_setCell_other _ _ _ _ (by simp)]; exact hC

theorem nextEq {m : Nat → BitVec 32} {t k15 k2 j15 j2 k7 j7 jt : Nat} {x15 x2 x7 x16 : BitVec 32}
    (h : k15 = t - 15 ∧ k2 = t - 2 ∧ j15 = (t - 15) % 16 ∧ j2 = (t - 2) % 16 ∧ x15 = ww m (t - 15) ∧ x2 = ww m (t - 2))
    (g : k7 = t - 7 ∧ j7 = (t - 7) % 16 ∧ jt = t % 16 ∧ x7 = ww m (t - 7) ∧ x16 = ww m (t - 16)) (ht : ¬ t < 16) :
    x16 + ((ror x15 7 ^^^ ror x15 18 ^^^ x15 >>> 3) + x7 + (ror x2 17 ^^^ ror x2 19 ^^^ x2 >>> 10)) = ww m t := by
  rw [ww_next m t ht, h.2.2.2.2.1, h.2.2.2.2.2, g.2.2.2.1, g.2.2.2.2]
  simp only [BitVec.add_assoc]



/-- What holds of memory at the head of round i of the second loop. -/
def AddInv (s q : St) (w wr : World) (i : Nat) : Prop :=
  (∃ a : Array Value, wr.heap[w.heap.size]? = some (.cells a 43) ∧ a.size = 8 ∧ ∀ j, j < 8 → a[j]? = some (.int .u32 (V (if j < i then (s.add q).get j else s.get j)))) ∧
  wr.heap[w.heap.size + 1 + 1]? = some (.cells (Array.replicate 8 (.int .u32 0)) 43) ∧ Below w.heap.size w wr
theorem AddInv.start {s q : St} {w wr : World} (hA : wr.heap[w.heap.size]? = some (.cells (cells8 s) 43)) (hC : wr.heap[w.heap.size + 1 + 1]? = some (.cells (Array.replicate 8 (.int .u32 0)) 43)) (hb : Below w.heap.size w wr) : AddInv s q w wr 0 :=
  ⟨⟨_, hA, rfl, fun j hj => by rw [if_neg (by omega)]; exact cells8_get s j hj⟩, hC, hb⟩
theorem AddInv.cell {s q : St} {w wr : World} {i : Nat} (h : AddInv s q w wr i) (hi : i < 8) : wr.cell? ⟨w.heap.size, i, none⟩ = some (.int .u32 (V (s.get i))) := by
  obtain ⟨a, ha, _, hall⟩ := h.1
  rw [cell_of_row _ _ _ _ _ _ ha, hall i hi, if_neg (by omega)]
theorem AddInv.free {s q : St} {w wr : World} {i : Nat} (h : AddInv s q w wr i) (j : Nat) : wr.frozen? ⟨w.heap.size, j, none⟩ = false := by
  obtain ⟨a, ha, _⟩ := h.1
  exact frozen_of_row _ _ _ _ _ ha
theorem AddInv.put {s q : St} {w wr : World} {i : Nat} (h : AddInv s q w wr i) (hi : i < 8) (x : BitVec 32) (hx : x = s.get i + q.get i) :
    AddInv s q w (wr.setCell ⟨w.heap.size, i, none⟩ (.int .u32 (V x))) (i + 1) := by
  obtain ⟨⟨a, ha, hz, hall⟩, hC, hb⟩ := h
  refine ⟨⟨_, heap_setCell_same _ _ _ _ _ _ ha, by simpa using hz, fun j hj => ?_⟩, ?_, hb.setCell (Nat.le_refl _) _⟩
  · rw [Array.getElem?_setIfInBounds]
    by_cases e : i = j
    · subst e; rw [if_pos rfl, if_pos (by omega), if_pos (by omega), hx, St.get_add]
    · rw [if_neg e, hall j hj]
      by_cases h1 : j < i
      · rw [if_pos h1, if_pos (by omega)]
      · rw [if_neg h1, if_neg (by omega)]
  · rw [heap_setCell_other _ _ _ _ (by simp; omega)]; exact hC
theorem AddInv.done {s q : St} {w wr : World} (h : AddInv s q w wr 8) : wr.heap[w.heap.size]? = some (.cells (cells8 (s.add q)) 43) ∧
    wr.heap[w.heap.size + 1 + 1]? = some (.cells (Array.replicate 8 (.int .u32 0)) 43) ∧ Below w.heap.size w wr := by
  obtain ⟨⟨a, ha, hz, hall⟩, hC, hb⟩ := h
  refine ⟨?_, hC, hb⟩
  rw [ha, cells8_of (a := a) (s := s.add q) hz (fun i hi => by rw [hall i hi, if_pos hi])]
theorem idx8 (q : St) : ∀ (i : Nat) (_ : i < 8) (w : World), (Instr.index 43 (.agg #[.int .u32 (V q.a), .int .u32 (V q.b), .int .u32 (V q.c), .int .u32 (V q.d), .int .u32 (V q.e), .int .u32 (V q.f), .int .u32 (V q.g), .int .u32 (V q.h)]) (.int .i64 i)).run Tryd.prog w = .ok (.int .u32 (V (q.get i))) w
  | 0, _, _ => by kernel_rfl
  | 1, _, _ => by kernel_rfl
  | 2, _, _ => by kernel_rfl
  | 3, _, _ => by kernel_rfl
  | 4, _, _ => by kernel_rfl
  | 5, _, _ => by kernel_rfl
  | 6, _, _ => by kernel_rfl
  | 7, _, _ => by kernel_rfl
  | n + 8, h, _ => absurd h (by omega)

section
variable {m : Nat → BitVec 32} {r q : St} {t : Nat} {k x : BitVec 32}
theorem rel_a (h : q = rounds m r t) (g : x = ww m t ∧ k = kk t) : Value.int .u32 (V (uOf q k x + vOf q)) = .int .u32 (V (rounds m r (t + 1)).a) := by rw [rounds, ← h, g.1, g.2]; rfl
theorem rel_b (h : q = rounds m r t) : Value.int .u32 (V q.a) = .int .u32 (V (rounds m r (t + 1)).b) := by rw [rounds, ← h]; rfl
theorem rel_c (h : q = rounds m r t) : Value.int .u32 (V q.b) = .int .u32 (V (rounds m r (t + 1)).c) := by rw [rounds, ← h]; rfl
theorem rel_d (h : q = rounds m r t) : Value.int .u32 (V q.c) = .int .u32 (V (rounds m r (t + 1)).d) := by rw [rounds, ← h]; rfl
theorem rel_e (h : q = rounds m r t) (g : x = ww m t ∧ k = kk t) : Value.int .u32 (V (q.d + uOf q k x)) = .int .u32 (V (rounds m r (t + 1)).e) := by rw [rounds, ← h, g.1, g.2]; rfl
theorem rel_f (h : q = rounds m r t) : Value.int .u32 (V q.e) = .int .u32 (V (rounds m r (t + 1)).f) := by rw [rounds, ← h]; rfl
theorem rel_g (h : q = rounds m r t) : Value.int .u32 (V q.f) = .int .u32 (V (rounds m r (t + 1)).g) := by rw [rounds, ← h]; rfl
theorem rel_h (h : q = rounds m r t) : Value.int .u32 (V q.g) = .int .u32 (V (rounds m r (t + 1)).h) := by rw [rounds, ← h]; rfl
end

set_option maxRecDepth 100000 in
set_option maxHeartbeats 400000 in
theorem takeIn_any (s : St) (ws : Array Value) (m : Nat → BitVec 32) (hws : ws.size = 16) (hm : ∀ i, i < 16 → ws[i]? = some (.int .u32 (V (m i)))) (w : World) (hG : Glob w) :
    Calls Tryd.prog 48 #[.agg (cells8 s), .agg ws] w fun e w' => e = .returned (.agg (cells8 (s.add (rounds m (first.add s) 64)))) ∧ Below w.heap.size w w' := by
  go_enter Tryd.func48, Tryd.ntmps48
  go_wp2
  generalize hw1 : World.alloc (World.alloc (World.alloc w _) _) _ = w1
  obtain ⟨hA, hB, hC, hz, hb⟩ : w1.heap[w.heap.size]? = some (.cells (cells8 s) 43) ∧ w1.heap[w.heap.size + 1]? = some (.cells ws 74) ∧ w1.heap[w.heap.size + 1 + 1]? = some (.cells (Array.replicate 8 (.int .u32 0)) 43) ∧ w1.heap.size = w.heap.size + 3 ∧ Below w.heap.size w w1 := by
    rw [← hw1]; exact heap_alloc3 w _ _ _
  clear hw1
  have hG1 := hG.below hb
  have f0 := hG1.1 0 (by omega)
  have f1 := hG1.1 1 (by omega)
  have f2 := hG1.1 2 (by omega)
  have f3 := hG1.1 3 (by omega)
  have c0 : w1.cell? ⟨w.heap.size, 0, none⟩ = some (.int .u32 (V s.a)) := cell_of_row _ _ _ _ _ _ hA
  have c1 : w1.cell? ⟨w.heap.size, 1, none⟩ = some (.int .u32 (V s.b)) := cell_of_row _ _ _ _ _ _ hA
  have c2 : w1.cell? ⟨w.heap.size, 2, none⟩ = some (.int .u32 (V s.c)) := cell_of_row _ _ _ _ _ _ hA
  have c3 : w1.cell? ⟨w.heap.size, 3, none⟩ = some (.int .u32 (V s.d)) := cell_of_row _ _ _ _ _ _ hA
  go_quiet (fail)
  go_wp2
  have f4 := hG1.1 4 (by omega)
  have f5 := hG1.1 5 (by omega)
  have f6 := hG1.1 6 (by omega)
  have f7 := hG1.1 7 (by omega)
  have c4 : w1.cell? ⟨w.heap.size, 4, none⟩ = some (.int .u32 (V s.e)) := cell_of_row _ _ _ _ _ _ hA
  have c5 : w1.cell? ⟨w.heap.size, 5, none⟩ = some (.int .u32 (V s.f)) := cell_of_row _ _ _ _ _ _ hA
  have c6 : w1.cell? ⟨w.heap.size, 6, none⟩ = some (.int .u32 (V s.g)) := cell_of_row _ _ _ _ _ _ hA
  have c7 : w1.cell? ⟨w.heap.size, 7, none⟩ = some (.int .u32 (V s.h)) := cell_of_row _ _ _ _ _ _ hA
  clear f0 f1 f2 f3 c0 c1 c2 c3
  go_quiet (fail)
  go_wp2
  clear f4 f5 f6 f7 c4 c5 c6 c7
  have hI := fun n1 n2 => ((TkInv.start (m := m) hws hm hA hB hC hb).drewN n1).drewN n2
  clear hA hB hC hz hb hG1
  obtain ⟨r0, hr0'⟩ : ∃ r0, r0 = first.add s := ⟨_, rfl⟩
  have HR := Lib.hid hr0'
  clear hr0'
  go_loopw [5, 6, 7, 8, 9, 10, 11, 12, 60] (fun a b c d e f g h i wr => ∃ t : Nat, t ≤ 64 ∧ i = .int .i64 t ∧ a = .int .u32 (V (rounds m r0 t).a) ∧ b = .int .u32 (V (rounds m r0 t).b) ∧ c = .int .u32 (V (rounds m r0 t).c) ∧ d = .int .u32 (V (rounds m r0 t).d) ∧ e = .int .u32 (V (rounds m r0 t).e) ∧ f = .int .u32 (V (rounds m r0 t).f) ∧ g = .int .u32 (V (rounds m r0 t).g) ∧ h = .int .u32 (V (rounds m r0 t).h) ∧ TkInv m s w wr t)
    (fun _ _ _ _ _ _ _ _ i _ => 64 - (intOf i).toNat)
  case atStart => obtain rfl := HR.out; exact ⟨0, by omega, rfl, rfl, rfl, rfl, rfl, rfl, rfl, rfl, rfl, hI _ _⟩
  case round =>
    clear hI hws hm
    obtain ⟨t, ht, rfl, rfl, rfl, rfl, rfl, rfl, rfl, rfl, rfl, hI⟩ := hrel
    obtain ⟨q, hq⟩ : ∃ q, q = rounds m r0 t := ⟨_, rfl⟩
    rw [← hq]
    have HQ := Lib.hid hq
    clear hq
    by_cases hlt : t < 64
    · by_cases h16 : t < 16
      · go_wp2
        have hI4 := hI.keep h16
        clear hI h16
        obtain ⟨W, hW⟩ : ∃ W, W = wr := ⟨_, rfl⟩
        rw [← hW]
        rw [← hW] at hI4
        clear hW
        have hk := (hG.below hI4.2.2.2).2.1 t hlt
        obtain ⟨jt, hjt⟩ : ∃ k, k = t % 16 := ⟨_, rfl⟩
        have ct : W.cell? ⟨w.heap.size + 1, jt, none⟩ = some (.int .u32 (V (ww m t))) := hI4.cell _ _ (by omega) (by omega) (by omega)
        obtain ⟨xt, hxt⟩ : ∃ x, x = ww m t := ⟨_, rfl⟩
        obtain ⟨kt, hkt⟩ : ∃ x, x = kk t := ⟨_, rfl⟩
        rw [← hxt] at ct
        rw [← hkt] at hk
        have bt : (jt : Int) < 16 := by omega
        have dt : ((t : Int)).tmod 16 = (jt : Int) := by rw [Int.tmod_eq_emod_of_nonneg (by omega)]; omega
        have tl : (t : Int) < 64 := by omega
        have HK := Lib.hid (And.intro hxt hkt)
        clear hjt hxt hkt
        go_wp2_with fail
        go_quiet ((go_at_call 52; exact Calls.quiet_of_same (right_still _ _ (by decide) (by decide) _)))
        clear bt dt ct hk
        generalize hW : World.drewN _ _ = W5
        have hI5 : TkInv m s w W5 (t + 1) := by rw [← hW]; exact hI4.drewN _
        clear hW hI4
        go_wp2_with (go_at_call 52; refine (right_any _ _ (by decide) (by decide) _).mono ?_; rintro e w' ⟨rfl, rfl⟩)
        go_roundw
        case rel => exact ⟨t + 1, by omega, by go_num, rel_a HQ.out HK.out, rel_b HQ.out, rel_c HQ.out, rel_d HQ.out, rel_e HQ.out HK.out, rel_f HQ.out, rel_g HQ.out, rel_h HQ.out, hI5⟩
        case measure => simp [intOf]; omega
      · have hge : 16 ≤ t := by omega
        clear h16
        obtain ⟨k15, hk15⟩ : ∃ k, k = t - 15 := ⟨_, rfl⟩
        obtain ⟨k2, hk2⟩ : ∃ k, k = t - 2 := ⟨_, rfl⟩
        obtain ⟨j15, hj15⟩ : ∃ k, k = (t - 15) % 16 := ⟨_, rfl⟩
        obtain ⟨j2, hj2⟩ : ∃ k, k = (t - 2) % 16 := ⟨_, rfl⟩
        have c15 : wr.cell? ⟨w.heap.size + 1, j15, none⟩ = some (.int .u32 (V (ww m (t - 15)))) := hI.cell _ _ (by omega) (by omega) (by omega)
        have c2 : wr.cell? ⟨w.heap.size + 1, j2, none⟩ = some (.int .u32 (V (ww m (t - 2)))) := hI.cell _ _ (by omega) (by omega) (by omega)
        obtain ⟨x15, hx15⟩ : ∃ x, x = ww m (t - 15) := ⟨_, rfl⟩
        obtain ⟨x2, hx2⟩ : ∃ x, x = ww m (t - 2) := ⟨_, rfl⟩
        rw [← hx15] at c15
        rw [← hx2] at c2
        have b15 : (j15 : Int) < 16 := by omega
        have b2 : (j2 : Int) < 16 := by omega
        have e15 : IntKind.i64.wrap ((t : Int) - 15) = (k15 : Int) := by rw [IntWalk.i64_in _ (by omega)]; omega
        have e2 : IntKind.i64.wrap ((t : Int) - 2) = (k2 : Int) := by rw [IntWalk.i64_in _ (by omega)]; omega
        have d15 : ((k15 : Int)).tmod 16 = (j15 : Int) := by rw [Int.tmod_eq_emod_of_nonneg (by omega)]; omega
        have d2 : ((k2 : Int)).tmod 16 = (j2 : Int) := by rw [Int.tmod_eq_emod_of_nonneg (by omega)]; omega
        have HH := Lib.hid (And.intro hk15 (And.intro hk2 (And.intro hj15 (And.intro hj2 (And.intro hx15 hx2)))))
        clear hk15 hk2 hj15 hj2 hx15 hx2
        go_wp2
        go_quiet (fail)
        clear c15 c2 b15 b2 e15 e2 d15 d2
        generalize hW : World.drewN _ _ = w2
        have hI2 : TkInv m s w w2 t := by rw [← hW]; exact hI.drewN _
        clear hW hI
        obtain ⟨k7, hk7⟩ : ∃ k, k = t - 7 := ⟨_, rfl⟩
        obtain ⟨j7, hj7⟩ : ∃ k, k = (t - 7) % 16 := ⟨_, rfl⟩
        obtain ⟨jt, hjt⟩ : ∃ k, k = t % 16 := ⟨_, rfl⟩
        have c7 : w2.cell? ⟨w.heap.size + 1, j7, none⟩ = some (.int .u32 (V (ww m (t - 7)))) := hI2.cell _ _ (by omega) (by omega) (by omega)
        have ct : w2.cell? ⟨w.heap.size + 1, jt, none⟩ = some (.int .u32 (V (ww m (t - 16)))) := hI2.cell _ _ (by omega) (by omega) (by omega)
        have cf : w2.frozen? ⟨w.heap.size + 1, jt, none⟩ = false := hI2.free _
        obtain ⟨x7, hx7⟩ : ∃ x, x = ww m (t - 7) := ⟨_, rfl⟩
        obtain ⟨x16, hx16⟩ : ∃ x, x = ww m (t - 16) := ⟨_, rfl⟩
        rw [← hx7] at c7
        rw [← hx16] at ct
        have b7 : (j7 : Int) < 16 := by omega
        have bt : (jt : Int) < 16 := by omega
        have e7 : IntKind.i64.wrap ((t : Int) - 7) = (k7 : Int) := by rw [IntWalk.i64_in _ (by omega)]; omega
        have d7 : ((k7 : Int)).tmod 16 = (j7 : Int) := by rw [Int.tmod_eq_emod_of_nonneg (by omega)]; omega
        have dt : ((t : Int)).tmod 16 = (jt : Int) := by rw [Int.tmod_eq_emod_of_nonneg (by omega)]; omega
        have HG := Lib.hid (And.intro hk7 (And.intro hj7 (And.intro hjt (And.intro hx7 hx16))))
        clear hk7 hj7 hjt hx7 hx16
        go_wp2_with fail
        refine wp_region_still_tail 29 (by kernel_rfl) (by kernel_rfl) ?_
        simp only [List.take_succ_cons, List.take_zero, List.drop_succ_cons, List.drop_zero]
        repeat (first | still_step | still_call (right_still _ _ (by decide) (by decide) _))
        refine wpStill_nil ?_
        change wpList _ _ _ _ _ w2.drew
        have hI3 := hI2.drew
        have ct3 : w2.drew.cell? ⟨w.heap.size + 1, jt, none⟩ = some (.int .u32 (V x16)) := ct
        have cf3 : w2.drew.frozen? ⟨w.heap.size + 1, jt, none⟩ = false := cf
        clear hI2 c7 ct cf b7 e7 d7 dt
        generalize w2.drew = w3 at *
        go_wp2
        have hI4 := hI3.put (by omega) jt HG.out.2.2.1.symm _ (nextEq HH.out HG.out (by omega))
        clear hI3 ct3 cf3 HH HG
        generalize World.setCell _ _ _ = W at *
        have hk := (hG.below hI4.2.2.2).2.1 t hlt
        obtain ⟨jt, hjt⟩ : ∃ k, k = t % 16 := ⟨_, rfl⟩
        have ct : W.cell? ⟨w.heap.size + 1, jt, none⟩ = some (.int .u32 (V (ww m t))) := hI4.cell _ _ (by omega) (by omega) (by omega)
        obtain ⟨xt, hxt⟩ : ∃ x, x = ww m t := ⟨_, rfl⟩
        obtain ⟨kt, hkt⟩ : ∃ x, x = kk t := ⟨_, rfl⟩
        rw [← hxt] at ct
        rw [← hkt] at hk
        have bt : (jt : Int) < 16 := by omega
        have dt : ((t : Int)).tmod 16 = (jt : Int) := by rw [Int.tmod_eq_emod_of_nonneg (by omega)]; omega
        have tl : (t : Int) < 64 := by omega
        have HK := Lib.hid (And.intro hxt hkt)
        clear hjt hxt hkt
        go_wp2_with fail
        go_quiet ((go_at_call 52; exact Calls.quiet_of_same (right_still _ _ (by decide) (by decide) _)))
        clear bt dt ct hk
        generalize hW : World.drewN _ _ = W5
        have hI5 : TkInv m s w W5 (t + 1) := by rw [← hW]; exact hI4.drewN _
        clear hW hI4
        go_wp2_with (go_at_call 52; refine (right_any _ _ (by decide) (by decide) _).mono ?_; rintro e w' ⟨rfl, rfl⟩)
        go_roundw
        case rel => exact ⟨t + 1, by omega, by go_num, rel_a HQ.out HK.out, rel_b HQ.out, rel_c HQ.out, rel_d HQ.out, rel_e HQ.out HK.out, rel_f HQ.out, rel_g HQ.out, rel_h HQ.out, hI5⟩
        case measure => simp [intOf]; omega
    · obtain rfl : t = 64 := by omega
      obtain ⟨hA, hC, hb⟩ := hI.2
      clear hI
      go_wp2
      obtain ⟨wo, rfl⟩ : ∃ wo : World, wo = wr := ⟨_, rfl⟩
      go_loopw [174] (fun c wr => ∃ i : Nat, i ≤ 8 ∧ c = .int .i64 i ∧ AddInv s q w wr i) (fun c _ => 8 - (intOf c).toNat)
      case atStart => exact ⟨0, by omega, rfl, AddInv.start hA hC hb⟩
      case round =>
        clear hA hC hb
        obtain ⟨i, hi, rfl, hI⟩ := hrel
        by_cases hlt : i < 8
        · have hx := fun W => idx8 q i hlt W
          have c1 : wr.cell? ⟨w.heap.size, i, none⟩ = some (.int .u32 (V (s.get i))) := hI.cell hlt
          have cf : wr.frozen? ⟨w.heap.size, i, none⟩ = false := hI.free i
          have bi : (i : Int) < 8 := by omega
          obtain ⟨x1, hx1⟩ : ∃ x, x = s.get i := ⟨_, rfl⟩
          obtain ⟨x2, hx2⟩ : ∃ x, x = q.get i := ⟨_, rfl⟩
          rw [← hx1] at c1
          simp only [← hx2] at hx
          have HX := Lib.hid (And.intro hx1 hx2)
          clear hx1 hx2
          go_wp2
          go_roundw
          case rel => exact ⟨i + 1, by omega, by go_num, hI.put hlt _ (by rw [← HX.out.1, ← HX.out.2])⟩
          case measure => simp [intOf]; omega
        · obtain rfl : i = 8 := by omega
          obtain ⟨hA, hC, hb⟩ := hI.done
          clear hI
          go_wp2_with (first
            | (refine wpList_load_row rfl 43 _ rfl w.heap.size rfl 43 (cells8 (s.add q)) (0, 0) _ hA Tryd.underlying43 rfl (by kernel_rfl) ?_)
            | (refine wpList_store_row rfl 43 _ _ rfl (w.heap.size + 1 + 1) rfl 43 _ (cells8 (s.add q)) rfl hC (by kernel_rfl) (by kernel_rfl) (by kernel_rfl) ?_))
          refine bodyPost_ret (results_cell_row rfl _ _ (w.heap.size + 1 + 1) 43 (cells8 (s.add q)) (0, 0) _ rfl (setRow_heap _ _ _ _ _ _ hC) Tryd.underlying43 rfl (by kernel_rfl)) rfl ⟨by rw [HQ.out, HR.out], ?_⟩
          exact below_setRow hb _ _ (by omega)
end Go.Proofs.YtnpdmkgefaobeaaDoor
