/- MH2, what is wanted of it. -/
import Derived.Test.YtdfkpjmljaanpaaGreatDoorZMH1
import Derived.Deep.QuietTactic
import Derived.BigQuiet
import Derived.StillTailTactics
import Derived.Deep.DeepMust
import Derived.Deep.WholeRow
import Derived.Test.YtdfkpjmljaanpaaGreatDoorZMB
import Derived.Laws.CopyOwn
import Derived.Deep.RegionHeld3
import Derived.Deep.RegionWith
import Derived.Lib.Strings
import Derived.Lib.IndexBytes
namespace Go.Proofs.YtdfkpjmljaanpaaGreatDoor
open Go.RowKit
attribute [local go_sem] V_add V_add' V_xor V_and V_or V_not V_not' V_shr V_shl V_shl'
attribute [local go_sem] V_div8 V_div1024
/-- What holds of memory at the head of round t. -/
def TkInv (m : Nat → BitVec 32) (s : St) (w wr : World) (t : Nat) : Prop :=
  (∃ ws : Array Value, wr.heap[w.heap.size + 1]? = some (.cells ws 275) ∧ ws.size = 16 ∧ ∀ i, i < 16 ∨ i < t → t ≤ i + 16 → ws[i % 16]? = some (.int .u32 (V (ww m i)))) ∧
  wr.heap[w.heap.size]? = some (.cells (cells8 s) 220) ∧ wr.heap[w.heap.size + 1 + 1]? = some (.cells (Array.replicate 8 (.int .u32 0)) 220) ∧ Below w.heap.size w wr
theorem TkInv.drewN {m : Nat → BitVec 32} {s : St} {w wr : World} {t : Nat} (h : TkInv m s w wr t) (n : Nat) : TkInv m s w (wr.drewN n) t :=
  ⟨h.1, h.2.1, h.2.2.1, below_drewN h.2.2.2 n⟩
theorem TkInv.drew {m : Nat → BitVec 32} {s : St} {w wr : World} {t : Nat} (h : TkInv m s w wr t) : TkInv m s w wr.drew t :=
  ⟨h.1, h.2.1, h.2.2.1, h.2.2.2.drew⟩
theorem TkInv.start {m : Nat → BitVec 32} {s : St} {w wr : World} {ws : Array Value} (hws : ws.size = 16) (hm : ∀ i, i < 16 → ws[i]? = some (.int .u32 (V (m i))))
    (hA : wr.heap[w.heap.size]? = some (.cells (cells8 s) 220)) (hB : wr.heap[w.heap.size + 1]? = some (.cells ws 275)) (hC : wr.heap[w.heap.size + 1 + 1]? = some (.cells (Array.replicate 8 (.int .u32 0)) 220)) (hb : Below w.heap.size w wr) : TkInv m s w wr 0 :=
  ⟨⟨ws, hB, hws, fun i hi _ => by rw [Nat.mod_eq_of_lt (by omega), hm i (by omega), ww_own m i (by omega)]⟩, hA, hC, hb⟩
theorem TkInv.cell {m : Nat → BitVec 32} {s : St} {w wr : World} {t : Nat} (h : TkInv m s w wr t) (j i : Nat) (hj : i % 16 = j) (h1 : i < 16 ∨ i < t) (h2 : t ≤ i + 16) :
    wr.cell? ⟨w.heap.size + 1, j, none⟩ = some (.int .u32 (V (ww m i))) := by
  obtain ⟨ws, hB, _, hall⟩ := h.1
  rw [cell_of_row _ _ _ _ _ _ hB, ← hj]; exact hall i h1 h2
theorem TkInv.free {m : Nat → BitVec 32} {s : St} {w wr : World} {t : Nat} (h : TkInv m s w wr t) (j : Nat) : wr.frozen? ⟨w.heap.size + 1, j, none⟩ = false := by
  obtain ⟨ws, hB, _⟩ := h.1
  exact frozen_of_row _ _ _ _ _ hB
theorem TkInv.keep {m : Nat → BitVec 32} {s : St} {w wr : World} {t : Nat} (h : TkInv m s w wr t) (ht : t < 16) : TkInv m s w wr (t + 1) := by
  obtain ⟨⟨ws, hB, hz, hall⟩, h2⟩ := h
  exact ⟨⟨ws, hB, hz, fun i hi _ => hall i (by omega) (by omega)⟩, h2⟩
theorem TkInv.put {m : Nat → BitVec 32} {s : St} {w wr : World} {t : Nat} (h : TkInv m s w wr t) (ht : ¬ t < 16) (j : Nat) (hj : t % 16 = j) (x : BitVec 32) (hx : x = ww m t) :
    TkInv m s w (wr.setCell ⟨w.heap.size + 1, j, none⟩ (.int .u32 (V x))) (t + 1) := by
  obtain ⟨⟨ws, hB, hz, hall⟩, hA, hC, hb⟩ := h
  refine ⟨⟨_, heap_setCell_same _ _ _ _ _ _ hB, by simpa using hz, fun i hi h16 => ?_⟩, ?_, ?_, hb.setCell (by simp) _⟩
  · rw [Array.getElem?_setIfInBounds]
    by_cases e : i = t
    · subst e; rw [if_pos hj.symm, if_pos (by omega), hx]
    · rw [if_neg (by omega)]; exact hall i (by omega) (by omega)
  · rw [heap_setCell_other _ _ _ _ (by simp)]; exact hA
  · rw [heap_setCell_other _ _ _ _ (by simp)]; exact hC
theorem nextEq {m : Nat → BitVec 32} {t k15 k2 j15 j2 k7 j7 jt : Nat} {x15 x2 x7 x16 : BitVec 32}
    (h : k15 = t - 15 ∧ k2 = t - 2 ∧ j15 = (t - 15) % 16 ∧ j2 = (t - 2) % 16 ∧ x15 = ww m (t - 15) ∧ x2 = ww m (t - 2))
    (g : k7 = t - 7 ∧ j7 = (t - 7) % 16 ∧ jt = t % 16 ∧ x7 = ww m (t - 7) ∧ x16 = ww m (t - 16)) (ht : ¬ t < 16) :
    x16 + ((ror x15 7 ^^^ ror x15 18 ^^^ x15 >>> 3) + x7 + (ror x2 17 ^^^ ror x2 19 ^^^ x2 >>> 10)) = ww m t := by
  rw [ww_next m t ht, h.2.2.2.2.1, h.2.2.2.2.2, g.2.2.2.1, g.2.2.2.2]
  simp only [BitVec.add_assoc]
/-- What holds of memory at the head of round i of the second loop. -/
def AddInv (s q : St) (w wr : World) (i : Nat) : Prop :=
  (∃ a : Array Value, wr.heap[w.heap.size]? = some (.cells a 220) ∧ a.size = 8 ∧ ∀ j, j < 8 → a[j]? = some (.int .u32 (V (if j < i then (s.add q).get j else s.get j)))) ∧
  wr.heap[w.heap.size + 1 + 1]? = some (.cells (Array.replicate 8 (.int .u32 0)) 220) ∧ Below w.heap.size w wr
theorem AddInv.start {s q : St} {w wr : World} (hA : wr.heap[w.heap.size]? = some (.cells (cells8 s) 220)) (hC : wr.heap[w.heap.size + 1 + 1]? = some (.cells (Array.replicate 8 (.int .u32 0)) 220)) (hb : Below w.heap.size w wr) : AddInv s q w wr 0 :=
  ⟨⟨_, hA, rfl, fun j hj => by rw [if_neg (by omega)]; exact cells8_get s j hj⟩, hC, hb⟩
theorem AddInv.cell {s q : St} {w wr : World} {i : Nat} (h : AddInv s q w wr i) (hi : i < 8) : wr.cell? ⟨w.heap.size, i, none⟩ = some (.int .u32 (V (s.get i))) := by
  obtain ⟨a, ha, _, hall⟩ := h.1
  rw [cell_of_row _ _ _ _ _ _ ha, hall i hi, if_neg (by omega)]
theorem AddInv.free {s q : St} {w wr : World} {i : Nat} (h : AddInv s q w wr i) (j : Nat) : wr.frozen? ⟨w.heap.size, j, none⟩ = false := by
  obtain ⟨a, ha, _⟩ := h.1
  exact frozen_of_row _ _ _ _ _ ha
theorem AddInv.put {s q : St} {w wr : World} {i : Nat} (h : AddInv s q w wr i) (hi : i < 8) (x : BitVec 32) (hx : x = s.get i + q.get i) :
    AddInv s q w (wr.setCell ⟨w.heap.size, i, none⟩ (.int .u32 (V x))) (i + 1) := by
  obtain ⟨⟨a, ha, hz, hall⟩, hC, hb⟩ := h
  refine ⟨⟨_, heap_setCell_same _ _ _ _ _ _ ha, by simpa using hz, fun j hj => ?_⟩, ?_, hb.setCell (Nat.le_refl _) _⟩
  · rw [Array.getElem?_setIfInBounds]
    by_cases e : i = j
    · subst e; rw [if_pos rfl, if_pos (by omega), if_pos (by omega), hx, St.get_add]
    · rw [if_neg e, hall j hj]
      by_cases h1 : j < i
      · rw [if_pos h1, if_pos (by omega)]
      · rw [if_neg h1, if_neg (by omega)]
  · rw [heap_setCell_other _ _ _ _ (by simp; omega)]; exact hC
theorem AddInv.done {s q : St} {w wr : World} (h : AddInv s q w wr 8) : wr.heap[w.heap.size]? = some (.cells (cells8 (s.add q)) 220) ∧
    wr.heap[w.heap.size + 1 + 1]? = some (.cells (Array.replicate 8 (.int .u32 0)) 220) ∧ Below w.heap.size w wr := by
  obtain ⟨⟨a, ha, hz, hall⟩, hC, hb⟩ := h
  refine ⟨?_, hC, hb⟩
  rw [ha, cells8_of (a := a) (s := s.add q) hz (fun i hi => by rw [hall i hi, if_pos hi])]
theorem idx8 (q : St) : ∀ (i : Nat) (_ : i < 8) (w : World), (Instr.index 220 (.agg #[.int .u32 (V q.a), .int .u32 (V q.b), .int .u32 (V q.c), .int .u32 (V q.d), .int .u32 (V q.e), .int .u32 (V q.f), .int .u32 (V q.g), .int .u32 (V q.h)]) (.int .i64 i)).run Tryz.prog w = .ok (.int .u32 (V (q.get i))) w
  | 0, _, _ => by kernel_rfl
  | 1, _, _ => by kernel_rfl
  | 2, _, _ => by kernel_rfl
  | 3, _, _ => by kernel_rfl
  | 4, _, _ => by kernel_rfl
  | 5, _, _ => by kernel_rfl
  | 6, _, _ => by kernel_rfl
  | 7, _, _ => by kernel_rfl
  | n + 8, h, _ => absurd h (by omega)
section
variable {m : Nat → BitVec 32} {r q : St} {t : Nat} {k x : BitVec 32}
theorem rel_a (h : q = rounds m r t) (g : x = ww m t ∧ k = kk t) : Value.int .u32 (V (uOf q k x + vOf q)) = .int .u32 (V (rounds m r (t + 1)).a) := by rw [rounds, ← h, g.1, g.2]; rfl
theorem rel_b (h : q = rounds m r t) : Value.int .u32 (V q.a) = .int .u32 (V (rounds m r (t + 1)).b) := by rw [rounds, ← h]; rfl
theorem rel_c (h : q = rounds m r t) : Value.int .u32 (V q.b) = .int .u32 (V (rounds m r (t + 1)).c) := by rw [rounds, ← h]; rfl
theorem rel_d (h : q = rounds m r t) : Value.int .u32 (V q.c) = .int .u32 (V (rounds m r (t + 1)).d) := by rw [rounds, ← h]; rfl
theorem rel_e (h : q = rounds m r t) (g : x = ww m t ∧ k = kk t) : Value.int .u32 (V (q.d + uOf q k x)) = .int .u32 (V (rounds m r (t + 1)).e) := by rw [rounds, ← h, g.1, g.2]; rfl
theorem rel_f (h : q = rounds m r t) : Value.int .u32 (V q.e) = .int .u32 (V (rounds m r (t + 1)).f) := by rw [rounds, ← h]; rfl
theorem rel_g (h : q = rounds m r t) : Value.int .u32 (V q.f) = .int .u32 (V (rounds m r (t + 1)).g) := by rw [rounds, ← h]; rfl
theorem rel_h (h : q = rounds m r t) : Value.int .u32 (V q.g) = .int .u32 (V (rounds m r (t + 1)).h) := by rw [rounds, ← h]; rfl
end
set_option maxRecDepth 100000 in
set_option maxHeartbeats 400000 in
theorem takeIn_any (s : St) (ws : Array Value) (m : Nat → BitVec 32) (hws : ws.size = 16) (hm : ∀ i, i < 16 → ws[i]? = some (.int .u32 (V (m i)))) (w : World) (hG : Glob w) :
    Calls Tryz.prog 191 #[.agg (cells8 s), .agg ws] w fun e w' => e = .returned (.agg (cells8 (s.add (rounds m (first.add s) 64)))) ∧ Below w.heap.size w w' := by
  go_enter Tryz.func191, Tryz.ntmps191
  go_wp2
  generalize hw1 : World.alloc (World.alloc (World.alloc w _) _) _ = w1
  obtain ⟨hA, hB, hC, hz, hb⟩ : w1.heap[w.heap.size]? = some (.cells (cells8 s) 220) ∧ w1.heap[w.heap.size + 1]? = some (.cells ws 275) ∧ w1.heap[w.heap.size + 1 + 1]? = some (.cells (Array.replicate 8 (.int .u32 0)) 220) ∧ w1.heap.size = w.heap.size + 3 ∧ Below w.heap.size w w1 := by
    rw [← hw1]; exact heap_alloc3 w _ _ _
  clear hw1
  have hG1 := hG.below hb
  have f0 := hG1.1 0 (by omega)
  have f1 := hG1.1 1 (by omega)
  have f2 := hG1.1 2 (by omega)
  have f3 := hG1.1 3 (by omega)
  have c0 : w1.cell? ⟨w.heap.size, 0, none⟩ = some (.int .u32 (V s.a)) := cell_of_row _ _ _ _ _ _ hA
  have c1 : w1.cell? ⟨w.heap.size, 1, none⟩ = some (.int .u32 (V s.b)) := cell_of_row _ _ _ _ _ _ hA
  have c2 : w1.cell? ⟨w.heap.size, 2, none⟩ = some (.int .u32 (V s.c)) := cell_of_row _ _ _ _ _ _ hA
  have c3 : w1.cell? ⟨w.heap.size, 3, none⟩ = some (.int .u32 (V s.d)) := cell_of_row _ _ _ _ _ _ hA
  go_quiet (fail)
  go_wp2
  have f4 := hG1.1 4 (by omega)
  have f5 := hG1.1 5 (by omega)
  have f6 := hG1.1 6 (by omega)
  have f7 := hG1.1 7 (by omega)
  have c4 : w1.cell? ⟨w.heap.size, 4, none⟩ = some (.int .u32 (V s.e)) := cell_of_row _ _ _ _ _ _ hA
  have c5 : w1.cell? ⟨w.heap.size, 5, none⟩ = some (.int .u32 (V s.f)) := cell_of_row _ _ _ _ _ _ hA
  have c6 : w1.cell? ⟨w.heap.size, 6, none⟩ = some (.int .u32 (V s.g)) := cell_of_row _ _ _ _ _ _ hA
  have c7 : w1.cell? ⟨w.heap.size, 7, none⟩ = some (.int .u32 (V s.h)) := cell_of_row _ _ _ _ _ _ hA
  clear f0 f1 f2 f3 c0 c1 c2 c3
  go_quiet (fail)
  go_wp2
  clear f4 f5 f6 f7 c4 c5 c6 c7
  have hI := fun n1 n2 => ((TkInv.start (m := m) hws hm hA hB hC hb).drewN n1).drewN n2
  clear hA hB hC hz hb hG1
  obtain ⟨r0, hr0'⟩ : ∃ r0, r0 = first.add s := ⟨_, rfl⟩
  have HR := Lib.hid hr0'
  clear hr0'
  go_loopw [5, 6, 7, 8, 9, 10, 11, 12, 60] (fun a b c d e f g h i wr => ∃ t : Nat, t ≤ 64 ∧ i = .int .i64 t ∧ a = .int .u32 (V (rounds m r0 t).a) ∧ b = .int .u32 (V (rounds m r0 t).b) ∧ c = .int .u32 (V (rounds m r0 t).c) ∧ d = .int .u32 (V (rounds m r0 t).d) ∧ e = .int .u32 (V (rounds m r0 t).e) ∧ f = .int .u32 (V (rounds m r0 t).f) ∧ g = .int .u32 (V (rounds m r0 t).g) ∧ h = .int .u32 (V (rounds m r0 t).h) ∧ TkInv m s w wr t)
    (fun _ _ _ _ _ _ _ _ i _ => 64 - (intOf i).toNat)
  case atStart => obtain rfl := HR.out; exact ⟨0, by omega, rfl, rfl, rfl, rfl, rfl, rfl, rfl, rfl, rfl, hI _ _⟩
  case round =>
    clear hI hws hm
    obtain ⟨t, ht, rfl, rfl, rfl, rfl, rfl, rfl, rfl, rfl, rfl, hI⟩ := hrel
    obtain ⟨q, hq⟩ : ∃ q, q = rounds m r0 t := ⟨_, rfl⟩
    rw [← hq]
    have HQ := Lib.hid hq
    clear hq
    by_cases hlt : t < 64
    · by_cases h16 : t < 16
      · go_wp2
        have hI4 := hI.keep h16
        clear hI h16
        obtain ⟨W, hW⟩ : ∃ W, W = wr := ⟨_, rfl⟩
        rw [← hW]
        rw [← hW] at hI4
        clear hW
        have hk := (hG.below hI4.2.2.2).2.1 t hlt
        obtain ⟨jt, hjt⟩ : ∃ k, k = t % 16 := ⟨_, rfl⟩
        have ct : W.cell? ⟨w.heap.size + 1, jt, none⟩ = some (.int .u32 (V (ww m t))) := hI4.cell _ _ (by omega) (by omega) (by omega)
        obtain ⟨xt, hxt⟩ : ∃ x, x = ww m t := ⟨_, rfl⟩
        obtain ⟨kt, hkt⟩ : ∃ x, x = kk t := ⟨_, rfl⟩
        rw [← hxt] at ct
        rw [← hkt] at hk
        have bt : (jt : Int) < 16 := by omega
        have dt : ((t : Int)).tmod 16 = (jt : Int) := by rw [Int.tmod_eq_emod_of_nonneg (by omega)]; omega
        have tl : (t : Int) < 64 := by omega
        have HK := Lib.hid (And.intro hxt hkt)
        clear hjt hxt hkt
        go_wp2_with fail
        go_quiet ((go_at_call 219; exact Calls.quiet_of_same (right_still _ _ (by decide) (by decide) _)))
        clear bt dt ct hk
        generalize hW : World.drewN _ _ = W5
        have hI5 : TkInv m s w W5 (t + 1) := by rw [← hW]; exact hI4.drewN _
        clear hW hI4
        go_wp2_with (go_at_call 219; refine (right_any _ _ (by decide) (by decide) _).mono ?_; rintro e w' ⟨rfl, rfl⟩)
        go_roundw
        case rel => exact ⟨t + 1, by omega, by go_num, rel_a HQ.out HK.out, rel_b HQ.out, rel_c HQ.out, rel_d HQ.out, rel_e HQ.out HK.out, rel_f HQ.out, rel_g HQ.out, rel_h HQ.out, hI5⟩
        case measure => simp [intOf]; omega
      · have hge : 16 ≤ t := by omega
        clear h16
        obtain ⟨k15, hk15⟩ : ∃ k, k = t - 15 := ⟨_, rfl⟩
        obtain ⟨k2, hk2⟩ : ∃ k, k = t - 2 := ⟨_, rfl⟩
        obtain ⟨j15, hj15⟩ : ∃ k, k = (t - 15) % 16 := ⟨_, rfl⟩
        obtain ⟨j2, hj2⟩ : ∃ k, k = (t - 2) % 16 := ⟨_, rfl⟩
        have c15 : wr.cell? ⟨w.heap.size + 1, j15, none⟩ = some (.int .u32 (V (ww m (t - 15)))) := hI.cell _ _ (by omega) (by omega) (by omega)
        have c2 : wr.cell? ⟨w.heap.size + 1, j2, none⟩ = some (.int .u32 (V (ww m (t - 2)))) := hI.cell _ _ (by omega) (by omega) (by omega)
        obtain ⟨x15, hx15⟩ : ∃ x, x = ww m (t - 15) := ⟨_, rfl⟩
        obtain ⟨x2, hx2⟩ : ∃ x, x = ww m (t - 2) := ⟨_, rfl⟩
        rw [← hx15] at c15
        rw [← hx2] at c2
        have b15 : (j15 : Int) < 16 := by omega
        have b2 : (j2 : Int) < 16 := by omega
        have e15 : IntKind.i64.wrap ((t : Int) - 15) = (k15 : Int) := by rw [IntWalk.i64_in _ (by omega)]; omega
        have e2 : IntKind.i64.wrap ((t : Int) - 2) = (k2 : Int) := by rw [IntWalk.i64_in _ (by omega)]; omega
        have d15 : ((k15 : Int)).tmod 16 = (j15 : Int) := by rw [Int.tmod_eq_emod_of_nonneg (by omega)]; omega
        have d2 : ((k2 : Int)).tmod 16 = (j2 : Int) := by rw [Int.tmod_eq_emod_of_nonneg (by omega)]; omega
        have HH := Lib.hid (And.intro hk15 (And.intro hk2 (And.intro hj15 (And.intro hj2 (And.intro hx15 hx2)))))
        clear hk15 hk2 hj15 hj2 hx15 hx2
        go_wp2
        go_quiet (fail)
        clear c15 c2 b15 b2 e15 e2 d15 d2
        generalize hW : World.drewN _ _ = w2
        have hI2 : TkInv m s w w2 t := by rw [← hW]; exact hI.drewN _
        clear hW hI
        obtain ⟨k7, hk7⟩ : ∃ k, k = t - 7 := ⟨_, rfl⟩
        obtain ⟨j7, hj7⟩ : ∃ k, k = (t - 7) % 16 := ⟨_, rfl⟩
        obtain ⟨jt, hjt⟩ : ∃ k, k = t % 16 := ⟨_, rfl⟩
        have c7 : w2.cell? ⟨w.heap.size + 1, j7, none⟩ = some (.int .u32 (V (ww m (t - 7)))) := hI2.cell _ _ (by omega) (by omega) (by omega)
        have ct : w2.cell? ⟨w.heap.size + 1, jt, none⟩ = some (.int .u32 (V (ww m (t - 16)))) := hI2.cell _ _ (by omega) (by omega) (by omega)
        have cf : w2.frozen? ⟨w.heap.size + 1, jt, none⟩ = false := hI2.free _
        obtain ⟨x7, hx7⟩ : ∃ x, x = ww m (t - 7) := ⟨_, rfl⟩
        obtain ⟨x16, hx16⟩ : ∃ x, x = ww m (t - 16) := ⟨_, rfl⟩
        rw [← hx7] at c7
        rw [← hx16] at ct
        have b7 : (j7 : Int) < 16 := by omega
        have bt : (jt : Int) < 16 := by omega
        have e7 : IntKind.i64.wrap ((t : Int) - 7) = (k7 : Int) := by rw [IntWalk.i64_in _ (by omega)]; omega
        have d7 : ((k7 : Int)).tmod 16 = (j7 : Int) := by rw [Int.tmod_eq_emod_of_nonneg (by omega)]; omega
        have dt : ((t : Int)).tmod 16 = (jt : Int) := by rw [Int.tmod_eq_emod_of_nonneg (by omega)]; omega
        have HG := Lib.hid (And.intro hk7 (And.intro hj7 (And.intro hjt (And.intro hx7 hx16))))
        clear hk7 hj7 hjt hx7 hx16
        go_wp2_with fail
        refine wp_region_still_tail 29 (by kernel_rfl) (by kernel_rfl) ?_
        simp only [List.take_succ_cons, List.take_zero, List.drop_succ_cons, List.drop_zero]
        repeat (first | still_step | still_call (right_still _ _ (by decide) (by decide) _))
        refine wpStill_nil ?_
        change wpList _ _ _ _ _ w2.drew
        have hI3 := hI2.drew
        have ct3 : w2.drew.cell? ⟨w.heap.size + 1, jt, none⟩ = some (.int .u32 (V x16)) := ct
        have cf3 : w2.drew.frozen? ⟨w.heap.size + 1, jt, none⟩ = false := cf
        clear hI2 c7 ct cf b7 e7 d7 dt
        generalize w2.drew = w3 at *
        go_wp2
        have hI4 := hI3.put (by omega) jt HG.out.2.2.1.symm _ (nextEq HH.out HG.out (by omega))
        clear hI3 ct3 cf3 HH HG
        generalize World.setCell _ _ _ = W at *
        have hk := (hG.below hI4.2.2.2).2.1 t hlt
        obtain ⟨jt, hjt⟩ : ∃ k, k = t % 16 := ⟨_, rfl⟩
        have ct : W.cell? ⟨w.heap.size + 1, jt, none⟩ = some (.int .u32 (V (ww m t))) := hI4.cell _ _ (by omega) (by omega) (by omega)
        obtain ⟨xt, hxt⟩ : ∃ x, x = ww m t := ⟨_, rfl⟩
        obtain ⟨kt, hkt⟩ : ∃ x, x = kk t := ⟨_, rfl⟩
        rw [← hxt] at ct
        rw [← hkt] at hk
        have bt : (jt : Int) < 16 := by omega
        have dt : ((t : Int)).tmod 16 = (jt : Int) := by rw [Int.tmod_eq_emod_of_nonneg (by omega)]; omega
        have tl : (t : Int) < 64 := by omega
        have HK := Lib.hid (And.intro hxt hkt)
        clear hjt hxt hkt
        go_wp2_with fail
        go_quiet ((go_at_call 219; exact Calls.quiet_of_same (right_still _ _ (by decide) (by decide) _)))
        clear bt dt ct hk
        generalize hW : World.drewN _ _ = W5
        have hI5 : TkInv m s w W5 (t + 1) := by rw [← hW]; exact hI4.drewN _
        clear hW hI4
        go_wp2_with (go_at_call 219; refine (right_any _ _ (by decide) (by decide) _).mono ?_; rintro e w' ⟨rfl, rfl⟩)
        go_roundw
        case rel => exact ⟨t + 1, by omega, by go_num, rel_a HQ.out HK.out, rel_b HQ.out, rel_c HQ.out, rel_d HQ.out, rel_e HQ.out HK.out, rel_f HQ.out, rel_g HQ.out, rel_h HQ.out, hI5⟩
        case measure => simp [intOf]; omega
    · obtain rfl : t = 64 := by omega
      obtain ⟨hA, hC, hb⟩ := hI.2
      clear hI
      go_wp2
      obtain ⟨wo, rfl⟩ : ∃ wo : World, wo = wr := ⟨_, rfl⟩
      go_loopw [174] (fun c wr => ∃ i : Nat, i ≤ 8 ∧ c = .int .i64 i ∧ AddInv s q w wr i) (fun c _ => 8 - (intOf c).toNat)
      case atStart => exact ⟨0, by omega, rfl, AddInv.start hA hC hb⟩
      case round =>
        clear hA hC hb
        obtain ⟨i, hi, rfl, hI⟩ := hrel
        by_cases hlt : i < 8
        · have hx := fun W => idx8 q i hlt W
          have c1 : wr.cell? ⟨w.heap.size, i, none⟩ = some (.int .u32 (V (s.get i))) := hI.cell hlt
          have cf : wr.frozen? ⟨w.heap.size, i, none⟩ = false := hI.free i
          have bi : (i : Int) < 8 := by omega
          obtain ⟨x1, hx1⟩ : ∃ x, x = s.get i := ⟨_, rfl⟩
          obtain ⟨x2, hx2⟩ : ∃ x, x = q.get i := ⟨_, rfl⟩
          rw [← hx1] at c1
          simp only [← hx2] at hx
          have HX := Lib.hid (And.intro hx1 hx2)
          clear hx1 hx2
          go_wp2
          go_roundw
          case rel => exact ⟨i + 1, by omega, by go_num, hI.put hlt _ (by rw [← HX.out.1, ← HX.out.2])⟩
          case measure => simp [intOf]; omega
        · obtain rfl : i = 8 := by omega
          obtain ⟨hA, hC, hb⟩ := hI.done
          clear hI
          go_wp2_with (first
            | (refine wpList_load_row rfl 220 _ rfl w.heap.size rfl 220 (cells8 (s.add q)) (0, 0) _ hA Tryz.underlying220 rfl (by kernel_rfl) ?_)
            | (refine wpList_store_row rfl 220 _ _ rfl (w.heap.size + 1 + 1) rfl 220 _ (cells8 (s.add q)) rfl hC (by kernel_rfl) (by kernel_rfl) (by kernel_rfl) ?_))
          refine bodyPost_ret (results_cell_row rfl _ _ (w.heap.size + 1 + 1) 220 (cells8 (s.add q)) (0, 0) _ rfl (setRow_heap _ _ _ _ _ _ hC) Tryz.underlying220 rfl (by kernel_rfl)) rfl ⟨by rw [HQ.out, HR.out], ?_⟩
          exact below_setRow hb _ _ (by omega)
end Go.Proofs.YtdfkpjmljaanpaaGreatDoor
namespace Go.Proofs.YtdfkpjmljaanpaaGreatDoor
open Go.RowKit
attribute [local go_sem] V_add V_add' V_xor V_and V_or V_not V_not' V_shr V_div8 V_div1024 V_shl V_shl' V_byte V_byte' V_mul24 V_mul16 V_mul8
/-- What holds of memory at the head of round i. -/
def WoInv (f : Nat → UInt8) (bs : Array Value) (w wr : World) (i : Nat) : Prop :=
  (∃ a : Array Value, wr.heap[w.heap.size + 1 + 1]? = some (.cells a 275) ∧ a.size = 16 ∧ ∀ j, j < i → a[j]? = some (.int .u32 (V (wordOf f j)))) ∧
  wr.heap[w.heap.size]? = some (.cells bs 221) ∧ wr.heap[w.heap.size + 1]? = some (.cells (Array.replicate 16 (.int .u32 0)) 275) ∧ Below w.heap.size w wr
theorem WoInv.drew {f : Nat → UInt8} {bs : Array Value} {w wr : World} {i : Nat} (h : WoInv f bs w wr i) : WoInv f bs w wr.drew i := ⟨h.1, h.2.1, h.2.2.1, h.2.2.2.drew⟩
theorem WoInv.cell {f : Nat → UInt8} {bs : Array Value} {w wr : World} {i : Nat} (h : WoInv f bs w wr i) (hbs : ∀ j, j < 64 → bs[j]? = some (.int .u8 ((f j).toNat : Int))) (j : Nat) (hj : j < 64) :
    wr.cell? ⟨w.heap.size, j, none⟩ = some (.int .u8 ((f j).toNat : Int)) := by rw [cell_of_row _ _ _ _ _ _ h.2.1, hbs j hj]
theorem WoInv.put {f : Nat → UInt8} {bs : Array Value} {w wr : World} {i : Nat} (h : WoInv f bs w wr i) (hi : i < 16) (x : BitVec 32) (hx : x = wordOf f i) :
    WoInv f bs w (wr.setCell ⟨w.heap.size + 1 + 1, i, none⟩ (.int .u32 (V x))) (i + 1) := by
  obtain ⟨⟨a, ha, hz, hall⟩, hA, hC, hb⟩ := h
  refine ⟨⟨_, heap_setCell_same _ _ _ _ _ _ ha, by simpa using hz, fun j hj => ?_⟩, ?_, ?_, hb.setCell (by simp; omega) _⟩
  · rw [Array.getElem?_setIfInBounds]
    by_cases e : i = j
    · subst e; rw [if_pos rfl, if_pos (by omega), hx]
    · rw [if_neg e, hall j (by omega)]
  · rw [heap_setCell_other _ _ _ _ (by simp; omega)]; exact hA
  · rw [heap_setCell_other _ _ _ _ (by simp)]; exact hC
theorem words_oneCell {a : Array Value} {n : Nat} {g : Nat → BitVec 32} (hz : a.size = n) (h : ∀ j, j < n → a[j]? = some (.int .u32 (V (g j)))) : a.all (·.oneCell') = true := by
  refine Array.all_eq_true.2 fun j hj => ?_
  have := h j (by omega)
  rw [Array.getElem?_eq_getElem hj] at this
  rw [Option.some.inj this]; rfl
set_option maxRecDepth 100000 in
set_option maxHeartbeats 400000 in
theorem wordsOf_any (f : Nat → UInt8) (bs : Array Value) (hbs : ∀ j, j < 64 → bs[j]? = some (.int .u8 ((f j).toNat : Int))) (w : World) :
    Calls Tryz.prog 192 #[.agg bs] w fun e w' => ∃ ws : Array Value, e = .returned (.agg ws) ∧ ws.size = 16 ∧ (∀ j, j < 16 → ws[j]? = some (.int .u32 (V (wordOf f j)))) ∧ Below w.heap.size w w' := by
  go_enter Tryz.func192, Tryz.ntmps192
  go_wp2
  generalize hw1 : World.alloc (World.alloc (World.alloc w _) _) _ = w1
  have hI : WoInv f bs w w1 0 := by
    obtain ⟨hA, hB, hC, _, hb⟩ := heap_alloc3 w (.cells bs 221) (.cells (Array.replicate 16 (.int .u32 0)) 275) (.cells (Array.replicate 16 (.int .u32 0)) 275)
    rw [← hw1]
    exact ⟨⟨_, hC, rfl, fun j hj => absurd hj (by omega)⟩, hA, hB, hb⟩
  clear hw1
  go_loopw [6] (fun c wr => ∃ i : Nat, i ≤ 16 ∧ c = .int .i64 i ∧ WoInv f bs w wr i) (fun c _ => 16 - (intOf c).toNat)
  case atStart => exact ⟨0, by omega, rfl, hI⟩
  case round =>
    clear hI
    obtain ⟨i, hi, rfl, hI⟩ := hrel
    by_cases hlt : i < 16
    · obtain ⟨o, ho⟩ : ∃ o, o = 4 * i := ⟨_, rfl⟩
      obtain ⟨c, hc⟩ : ∃ c, c = 64 - o := ⟨_, rfl⟩
      have hsl : ∀ W, (Instr.sliceAt 221 (.pointer (some ⟨w.heap.size, 0, none⟩)) (some (.int .i64 (4 * (i : Int)))) (some (.int .i64 (4 * ((i : Int) + 1)))) none).run Tryz.prog W = .ok (.slice (some ⟨w.heap.size, o, none⟩) 4 c) W := fun W => by
        have := run_sliceAt_lh (P := Tryz.prog) Tryz.underlying221 (by kernel_rfl) w.heap.size 0 (4 * i) (4 * (i + 1)) (by omega) (by omega) (by omega) W
        rw [show ((4 * i : Nat) : Int) = 4 * (i : Int) from by omega, show ((4 * (i + 1) : Nat) : Int) = 4 * ((i : Int) + 1) from by omega, show 4 * (i + 1) - 4 * i = 4 from by omega, show 0 + 4 * i = o from by omega, show 64 - 4 * i = c from by omega] at this
        exact this
      have c0 := hI.cell hbs o (by omega)
      have c1 := hI.cell hbs (o + 1) (by omega)
      have c2 := hI.cell hbs (o + 2) (by omega)
      have c3 := hI.cell hbs (o + 3) (by omega)
      obtain ⟨y0, h0⟩ : ∃ y, y = f o := ⟨_, rfl⟩
      obtain ⟨y1, h1⟩ : ∃ y, y = f (o + 1) := ⟨_, rfl⟩
      obtain ⟨y2, h2⟩ : ∃ y, y = f (o + 2) := ⟨_, rfl⟩
      obtain ⟨y3, h3⟩ : ∃ y, y = f (o + 3) := ⟨_, rfl⟩
      rw [← h0] at c0
      rw [← h1] at c1
      rw [← h2] at c2
      rw [← h3] at c3
      have ce : ∃ v, wr.cell? ⟨w.heap.size + 1 + 1, i, none⟩ = some v := by
        obtain ⟨a, ha, hza, _⟩ := hI.1
        exact ⟨a[i], by rw [cell_of_row _ _ _ _ _ _ ha, Array.getElem?_eq_getElem (by omega)]⟩
      obtain ⟨v, ce⟩ := ce
      have cf : wr.frozen? ⟨w.heap.size + 1 + 1, i, none⟩ = false := by
        obtain ⟨a, ha, _⟩ := hI.1
        exact frozen_of_row _ _ _ _ _ ha
      have bi : (i : Int) < 16 := by omega
      have HX : Hid (V (w8 y0 <<< 24 ||| w8 y1 <<< 16 ||| w8 y2 <<< 8 ||| w8 y3) = V (wordOf f i) ∧ w8 y0 <<< 24 ||| w8 y1 <<< 16 ||| w8 y2 <<< 8 ||| w8 y3 = wordOf f i) := by
        have e : w8 y0 <<< 24 ||| w8 y1 <<< 16 ||| w8 y2 <<< 8 ||| w8 y3 = wordOf f i := by rw [h0, h1, h2, h3, ho]; rfl
        exact ⟨by rw [e], e⟩
      clear h0 h1 h2 h3 hc ho
      go_wp2_with fail
      refine wp_region_still_tail 24 (by kernel_rfl) (by kernel_rfl) ?_
      simp only [List.take_succ_cons, List.take_zero, List.drop_succ_cons, List.drop_zero]
      repeat still_step
      refine wpStill_nil ?_
      change wpList _ _ _ _ _ wr.drew
      have hI2 := hI.drew
      have ce2 : wr.drew.cell? ⟨w.heap.size + 1 + 1, i, none⟩ = some v := ce
      have cf2 : wr.drew.frozen? ⟨w.heap.size + 1 + 1, i, none⟩ = false := cf
      clear hI c0 c1 c2 c3 ce cf hsl
      generalize wr.drew = w3 at *
      go_wp2
      go_roundw
      case rel => exact ⟨i + 1, by omega, by go_num, hI2.put hlt _ HX.out.2⟩
      case measure => simp [intOf]; omega
    · obtain rfl : i = 16 := by omega
      obtain ⟨⟨a, ha, hza, hall⟩, hA, hC, hb⟩ := hI
      go_wp2_with (first
        | (refine wpList_load_row rfl 275 _ rfl (w.heap.size + 1 + 1) rfl 275 a (0, 0) _ ha Tryz.underlying275 rfl (by rw [hza]; kernel_rfl) ?_)
        | (refine wpList_store_row rfl 275 _ _ rfl (w.heap.size + 1) rfl 275 _ a rfl hC (by rw [hza]; kernel_rfl) (by rw [hza]; kernel_rfl) (words_oneCell hza hall) ?_))
      refine bodyPost_ret (results_cell_row rfl _ _ (w.heap.size + 1) 275 a (0, 0) _ rfl (setRow_heap _ _ _ _ _ _ hC) Tryz.underlying275 rfl (by rw [hza]; kernel_rfl)) rfl ⟨a, rfl, hza, hall, ?_⟩
      exact below_setRow hb _ _ (by omega)
end Go.Proofs.YtdfkpjmljaanpaaGreatDoor
namespace Go.Proofs.YtdfkpjmljaanpaaGreatDoor
open Go.RowKit
/-- Byte j of the array at the head of round i. -/
def enAt (n i j : Nat) : UInt8 := if j = 0 then 128 else if padLen n ≤ j + i ∧ j < padLen n then padAt n j else 0
def EnInv (n : Nat) (w wr : World) (i : Nat) : Prop :=
  (∃ a : Array Value, wr.heap[w.heap.size]? = some (.cells a 313) ∧ a.size = 128 ∧ ∀ j, j < 128 → a[j]? = some (.int .u8 ((enAt n i j).toNat : Int))) ∧ Below w.heap.size w wr
theorem EnInv.put {n : Nat} {w wr : World} {i : Nat} (h : EnInv n w wr i) (hi : i < 8) (p : Nat) (hp : p + 1 + i = padLen n) (x : Int) (hx : x = ((padAt n p).toNat : Int)) :
    EnInv n w (wr.setCell ⟨w.heap.size, p, none⟩ (.int .u8 x)) (i + 1) := by
  obtain ⟨⟨a, ha, hz, hall⟩, hb⟩ := h
  have := padLen_bd n
  refine ⟨⟨_, heap_setCell_same _ _ _ _ _ _ ha, by simpa using hz, fun j hj => ?_⟩, hb.setCell (Nat.le_refl _) _⟩
  rw [Array.getElem?_setIfInBounds]
  by_cases e : p = j
  · subst e; rw [if_pos rfl, if_pos (by omega), hx, enAt, if_neg (by omega), if_pos (by omega)]
  · rw [if_neg e, hall j hj]
    unfold enAt
    by_cases h0 : j = 0
    · rw [if_pos h0, if_pos h0]
    · rw [if_neg h0, if_neg h0]
      by_cases h1 : padLen n ≤ j + i ∧ j < padLen n
      · rw [if_pos h1, if_pos (by omega)]
      · rw [if_neg h1, if_neg (by omega)]
theorem en_byte (n i p : Nat) (hi : i < 8) (hp : p + 1 + i = padLen n) : ((n : Int) * 8 / 2 ^ (8 * i)) % 256 = ((padAt n p).toNat : Int) := by
  have hb := padLen_bd n
  rw [padAt, if_neg (by omega), if_neg (by omega), show padLen n - 1 - p = i by omega]
  rw [UInt8.toNat_ofNat']
  have e : ((2 : Int) ^ (8 * i)) = ((256 ^ i : Nat) : Int) := by rw [Int.pow_mul]; simp
  rw [e, Nat.mul_comm 8 n]
  simp
/-- An array or a struct that is put together, as a value of one's own spelling. -/
theorem wpList_build_to {P : Program} {ops : Array Oper} {rest : List Oper} {o : Oper} {a : Act} {w : World} {Q : Exit → Act → World → Prop} (hg : o.guard = none) (t : TypeId) (parts : Array (Nat × Operand)) (ho : o.op = .build t parts)
    (cells : Array Value) (hb : P.built t (parts.map fun (i, x) => (i, a.eval x)).toList = some cells) (h : wpList P ops Q rest (a.put o.dst (.agg cells)) w) : wpList P ops Q (o :: rest) a w :=
  wpList_build hg t parts ho (by rw [hb]; rfl) (by rw [hb]; exact h)
theorem blocksI_nat (n : Nat) : blocksI (n : Int) = ((blocksN n : Nat) : Int) := by
  unfold blocksI blocksN
  rw [if_neg (by omega)]
  by_cases h : n % 64 + 9 > 64
  · rw [if_pos h, if_pos (by omega)]; omega
  · rw [if_neg h, if_neg (by omega)]; omega
def zero128 : Array Value := Array.replicate 128 (.int .u8 0)
def end128 : Array Value := zero128.setIfInBounds 0 (.int .u8 128)
theorem rep_get (N : Nat) (u v : Value) (j : Nat) (hj : j < N) : ((Array.replicate N u).setIfInBounds 0 v)[j]? = some (if j = 0 then v else u) := by
  rw [Array.getElem?_setIfInBounds]
  by_cases e : 0 = j
  · subst e; rw [if_pos rfl, if_pos (by simpa using hj), if_pos rfl]
  · rw [if_neg e, if_neg (by omega), Array.getElem?_replicate, if_pos hj]
theorem end128_get (n j : Nat) (hj : j < 128) : end128[j]? = some (.int .u8 ((enAt n 0 j).toNat : Int)) := by
  have := padLen_bd n
  unfold end128 zero128 enAt
  rw [rep_get 128 _ _ j hj]
  by_cases e : j = 0
  · rw [if_pos e, if_pos e]; rfl
  · rw [if_neg e, if_neg e, if_neg (by omega)]; rfl
theorem end128_size : end128.size = 128 := by rw [end128, zero128, Array.size_setIfInBounds, Array.size_replicate]
theorem en_start (n : Nat) (w : World) : EnInv n w ((w.alloc (.cells zero128 313)).setRow w.heap.size end128) 0 := by
  rw [World.setRow_alloc_new]
  exact ⟨⟨end128, heap_alloc_new _ _, end128_size, fun j hj => end128_get n j hj⟩, (Below.refl _ _).alloc (Nat.le_refl _) _⟩
theorem en_all {n : Nat} {a : Array Value} (hall : ∀ j, j < 128 → a[j]? = some (.int .u8 ((enAt n 8 j).toNat : Int))) (j : Nat) (hj : j < padLen n) : a[j]? = some (.int .u8 ((padAt n j).toNat : Int)) := by
  have := padLen_bd n
  rw [hall j (by omega)]
  unfold enAt
  by_cases h0 : j = 0
  · rw [if_pos h0, padAt, if_pos h0]
  · rw [if_neg h0]
    by_cases h1 : padLen n ≤ j + 8 ∧ j < padLen n
    · rw [if_pos h1]
    · rw [if_neg h1, padAt, if_neg h0, if_pos (by omega)]
theorem nums_pad (n j : Nat) (hj : j < padLen n) : (nums (padL n)).getD j 0 = ((padAt n j).toNat : Int) := by
  simp [nums, List.getD_eq_getElem?_getD, padL_get n j hj]
set_option maxRecDepth 100000 in
set_option maxHeartbeats 1000000 in
theorem ending_any (n : Nat) (hn : n < 1099511627776) (w : World) :
    Calls Tryz.prog 193 #[.int .i64 n] w fun e w' => e = .returned (.string (str (padL n))) ∧ Below w.heap.size w w' := by
  have hpb := padLen_bd n
  have z57 : ∀ w, (zeroValue 313).run Tryz.prog w = .ok (.agg zero128) w := (zero_of_info (P := Tryz.prog) (t := 313) (v := .agg zero128) (n := 128) (by kernel_rfl)).1
  have hB := blocksI_nat n
  obtain ⟨L, hL⟩ : ∃ L, L = padLen n := ⟨_, rfl⟩
  obtain ⟨bn, hbn⟩ : ∃ b, b = blocksN n := ⟨_, rfl⟩
  rw [← hbn] at hB
  have HB := Lib.hid hB
  have b1 : (bn : Int) ≤ 17179869186 := by omega
  have e1 : (bn : Int) * 64 - (n : Int) = (L : Int) := by omega
  have HL := Lib.hid hL
  have l1 : (9 : Int) ≤ L := by omega
  have l2 : (L : Int) ≤ 72 := by omega
  clear hB hL hbn hpb
  go_enter Tryz.func193, Tryz.ntmps193
  go_wp2_with (first
    | (refine wpList_build_to rfl 313 _ rfl end128 (by kernel_rfl) ?_)
    | (refine wpList_store_row rfl 313 _ _ rfl w.heap.size rfl 313 zero128 end128 rfl (heap_alloc_new _ _) (by kernel_rfl) (by kernel_rfl) (by kernel_rfl) ?_)
    | (go_at_call 220; refine (blocks_any _ (by omega) _).mono ?_; rintro e w' ⟨rfl, rfl⟩; rw [HB.out]))
  have hI := en_start n w
  generalize World.setRow _ _ _ = w1 at *
  go_loopw [16] (fun c wr => ∃ i : Nat, i ≤ 8 ∧ c = .int .i64 i ∧ EnInv n w wr i) (fun c _ => 8 - (intOf c).toNat)
  case atStart => exact ⟨0, by omega, rfl, hI⟩
  case round =>
    clear hI
    obtain ⟨i, hi, rfl, hI⟩ := hrel
    by_cases hlt : i < 8
    · have bi : (i : Int) < 8 := by omega
      have cf : wr.frozen? ⟨w.heap.size, L - 1 - i, none⟩ = false := by
        obtain ⟨a, ha, _⟩ := hI.1
        exact frozen_of_row _ _ _ _ _ ha
      have ce : ∃ v, wr.cell? ⟨w.heap.size, L - 1 - i, none⟩ = some v := by
        obtain ⟨a, ha, hza, _⟩ := hI.1
        exact ⟨a[L - 1 - i], by rw [cell_of_row _ _ _ _ _ _ ha, Array.getElem?_eq_getElem (by omega)]⟩
      obtain ⟨v, ce⟩ := ce
      go_wp2
      go_roundw
      case rel => exact ⟨i + 1, by omega, by go_num, hI.put hlt _ (by rw [← HL.out]; omega) _ (en_byte n i _ hlt (by rw [← HL.out]; omega))⟩
      case measure => simp [intOf]; omega
    · obtain rfl : i = 8 := by omega
      obtain ⟨⟨a, ha, hza, hall⟩, hb⟩ := hI
      have hsl : ∀ W, (Instr.sliceAt 313 (.pointer (some ⟨w.heap.size, 0, none⟩)) none (some (.int .i64 L)) none).run Tryz.prog W = .ok (.slice (some ⟨w.heap.size, 0, none⟩) L 128) W := fun W =>
        run_sliceAt_h (P := Tryz.prog) Tryz.underlying313 (by kernel_rfl) w.heap.size 0 L (by omega) W
      have hcv : (convert 107 9 (.slice (some ⟨w.heap.size, 0, none⟩) L 128)).run Tryz.prog wr = .ok (.string (str (padL n))) wr := by
        rw [← strOfNums_nums]
        refine run_convert_bytes_arg (P := Tryz.prog) (w := wr) 107 5 Tryz.underlying107 Tryz.underlying5 w.heap.size 0 L 128 (nums (padL n)) ?_ (fun j hj => ?_) 9 Tryz.underlying9
        · rw [nums, List.length_map, padL_length, HL.out]
        · rw [Nat.zero_add, cell_of_row _ _ _ _ _ _ ha, nums_pad n j (by rw [← HL.out]; exact hj)]
          exact en_all hall j (by rw [← HL.out]; exact hj)
      clear ha hza hall
      go_wp2
      go_ret
      exact ⟨rfl, hb⟩
end Go.Proofs.YtdfkpjmljaanpaaGreatDoor
namespace Go.Proofs.YtdfkpjmljaanpaaGreatDoor
open Go.RowKit
/-- The cells of a Run: the words, the bytes of its block, its size. -/
def Blk (c : Array Value) (st : St) (f : Nat → UInt8) (n : Nat) : Prop :=
  c.size = 73 ∧ (∀ i, i < 8 → c[i]? = some (.int .u32 (V (st.get i)))) ∧ (∀ j, j < 64 → c[8 + j]? = some (.int .u8 ((f j).toNat : Int))) ∧ c[72]? = some (.int .i64 n)
/-- The bytes f begin as those behind the last whole block of l. -/
def Tail (f : Nat → UInt8) (l : List UInt8) : Prop := ∀ j, j < l.length % 64 → f j = l.getD (64 * (l.length / 64) + j) 0
/-- A Run that has taken l. -/
def RunOf (c : Array Value) (l : List UInt8) : Prop := ∃ st f, Blk c st f l.length ∧ first.add st = absorb first l (l.length / 64) ∧ Tail f l
theorem RunOf.size {c : Array Value} {l : List UInt8} (h : RunOf c l) : c.size = 73 := by obtain ⟨_, _, h, _⟩ := h; exact h.1
theorem Blk.oneCell {c : Array Value} {st : St} {f : Nat → UInt8} {n : Nat} (h : Blk c st f n) : c.all (·.oneCell') = true := by
  obtain ⟨hz, h1, h2, h3⟩ := h
  refine Array.all_eq_true.2 fun j hj => ?_
  have hg := Array.getElem?_eq_getElem hj
  by_cases a : j < 8
  · rw [h1 j a] at hg; rw [← Option.some.inj hg]; rfl
  · by_cases b : j < 72
    · have := h2 (j - 8) (by omega)
      rw [show 8 + (j - 8) = j by omega] at this
      rw [this] at hg; rw [← Option.some.inj hg]; rfl
    · obtain rfl : j = 72 := by omega
      rw [h3] at hg; rw [← Option.some.inj hg]; rfl
theorem RunOf.oneCell {c : Array Value} {l : List UInt8} (h : RunOf c l) : c.all (·.oneCell') = true := by obtain ⟨_, _, h, _⟩ := h; exact h.oneCell
theorem first_add (s r : St) : first.add (s.add r) = (first.add s).add r := St.ext_get fun i _ => by simp only [St.get_add, BitVec.add_assoc]
def mix (f : Nat → UInt8) (r n : Nat) (l : List UInt8) (j : Nat) : UInt8 := if r ≤ j ∧ j < r + n then l.getD (j - r) 0 else f j
theorem getD_app (l r : List UInt8) (i : Nat) : (l ++ r).getD i 0 = if i < l.length then l.getD i 0 else r.getD (i - l.length) 0 := by
  by_cases h : i < l.length
  · rw [if_pos h, getD_left _ _ _ _ h]
  · rw [if_neg h, List.getD_eq_getElem?_getD, List.getElem?_append_right (by omega), ← List.getD_eq_getElem?_getD]
theorem getD_take (l : List UInt8) (n i : Nat) (h : i < n) : (l.take n).getD i 0 = l.getD i 0 := by
  rw [List.getD_eq_getElem?_getD, List.getElem?_take_of_lt h, ← List.getD_eq_getElem?_getD]
/-- The block is not whole yet. -/
theorem tail_part {f : Nat → UInt8} {l s : List UInt8} {n : Nat} (h : Tail f l) (hn : n ≤ s.length) (h64 : l.length % 64 + n < 64) :
    Tail (mix f (l.length % 64) n s) (l ++ s.take n) ∧ (l ++ s.take n).length / 64 = l.length / 64 := by
  have hlen : (l ++ s.take n).length = l.length + n := by simp; omega
  have hd : (l.length + n) / 64 = l.length / 64 := by omega
  have hm : (l.length + n) % 64 = l.length % 64 + n := by omega
  refine ⟨fun j hj => ?_, by rw [hlen, hd]⟩
  rw [hlen] at hj ⊢
  rw [hd, getD_app]
  unfold mix
  by_cases e : l.length % 64 ≤ j
  · rw [if_pos (by omega), if_neg (by omega), getD_take _ _ _ (by omega)]
    congr 1; omega
  · rw [if_neg (by omega), if_pos (by omega)]
    exact h j (by omega)
/-- The block is whole. -/
theorem tail_whole {f : Nat → UInt8} {l s : List UInt8} {n : Nat} (h : Tail f l) (hn : n ≤ s.length) (h64 : l.length % 64 + n = 64) :
    (∀ j, j < 64 → mix f (l.length % 64) n s j = (l ++ s.take n).getD (64 * (l.length / 64) + j) 0) ∧ (l ++ s.take n).length / 64 = l.length / 64 + 1 ∧ (l ++ s.take n).length % 64 = 0 := by
  have hlen : (l ++ s.take n).length = l.length + n := by simp; omega
  refine ⟨fun j hj => ?_, by rw [hlen]; omega, by rw [hlen]; omega⟩
  rw [getD_app]
  unfold mix
  by_cases e : l.length % 64 ≤ j
  · rw [if_pos (by omega), if_neg (by omega), getD_take _ _ _ (by omega)]
    congr 1; omega
  · rw [if_neg (by omega), if_pos (by omega)]
    exact h j (by omega)
theorem absorb_app (s : St) (l r : List UInt8) (n : Nat) (h : 64 * n ≤ l.length) : absorb s (l ++ r) n = absorb s l n :=
  absorb_congr s n (fun j hj => by rw [getD_app, if_pos (by omega)])
theorem run_part {c : Array Value} {st : St} {f : Nat → UInt8} {l s : List UInt8} {n : Nat} (hb : Blk c st (mix f (l.length % 64) n s) (l.length + n)) (ha : first.add st = absorb first l (l.length / 64)) (ht : Tail f l)
    (hn : n ≤ s.length) (h64 : l.length % 64 + n < 64) : RunOf c (l ++ s.take n) := by
  obtain ⟨h1, h2⟩ := tail_part ht hn h64
  have hlen : (l ++ s.take n).length = l.length + n := by simp; omega
  exact ⟨st, _, by rw [hlen]; exact hb, by rw [h2, absorb_app _ _ _ _ (by omega)]; exact ha, h1⟩
theorem run_whole {c : Array Value} {st : St} {f g : Nat → UInt8} {l s : List UInt8} {n : Nat} (ha : first.add st = absorb first l (l.length / 64)) (ht : Tail f l)
    (hn : n ≤ s.length) (h64 : l.length % 64 + n = 64) (hb : Blk c (st.add (rounds (wordOf (mix f (l.length % 64) n s)) (first.add st) 64)) g (l.length + n)) : RunOf c (l ++ s.take n) := by
  obtain ⟨h1, h2, h3⟩ := tail_whole ht hn h64
  have hlen : (l ++ s.take n).length = l.length + n := by simp; omega
  refine ⟨_, g, by rw [hlen]; exact hb, ?_, fun j hj => by omega⟩
  rw [h2, absorb, absorb_app _ _ _ _ (by omega), ← ha, first_add]
  exact take_congr (fun i hi => wordOf_congr h1 hi) _
/-! ### The cells -/
theorem blk_copy {c : Array Value} {st : St} {f : Nat → UInt8} {m : Nat} (hb : Blk c st f m) (r n : Nat) (s : List UInt8) (hr : r + n ≤ 64) (hn : n ≤ s.length) :
    Blk (c.toList.take (8 + r) ++ ((s.take n).map (fun b => Value.int .u8 b.toNat) ++ c.toList.drop (8 + r + n))).toArray st (mix f r n s) m := by
  obtain ⟨hz, h1, h2, h3⟩ := hb
  have hl : c.toList.length = 73 := by simpa using hz
  have hlt : ((s.take n).map (fun b => Value.int .u8 b.toNat)).length = n := by simp; omega
  have hget : ∀ i, (c.toList.take (8 + r) ++ ((s.take n).map (fun b => Value.int .u8 b.toNat) ++ c.toList.drop (8 + r + n))).toArray[i]? =
      if i < 8 + r then c[i]? else if i < 8 + r + n then some (.int .u8 ((s.getD (i - (8 + r)) 0).toNat : Int)) else c[i]? := by
    intro i
    rw [List.getElem?_toArray]
    by_cases e : i < 8 + r
    · rw [if_pos e, List.getElem?_append_left (by simp; omega), List.getElem?_take_of_lt e, Array.getElem?_toList]
    · have hlen : (c.toList.take (8 + r)).length = 8 + r := by simp; omega
      rw [if_neg e, List.getElem?_append_right (by omega), hlen]
      by_cases e2 : i < 8 + r + n
      · rw [if_pos e2, List.getElem?_append_left (by omega), List.getElem?_map, List.getElem?_take_of_lt (by omega), List.getD_eq_getElem?_getD, List.getElem?_eq_getElem (by omega)]
        rfl
      · rw [if_neg e2, List.getElem?_append_right (by omega), hlt, List.getElem?_drop, Array.getElem?_toList]
        congr 1; omega
  refine ⟨by simp; omega, fun i hi => by rw [hget, if_pos (by omega), h1 i hi], fun j hj => ?_, ?_⟩
  · rw [hget]
    unfold mix
    by_cases e : 8 + j < 8 + r
    · rw [if_pos e, if_neg (by omega), h2 j hj]
    · rw [if_neg e]
      by_cases e2 : 8 + j < 8 + r + n
      · rw [if_pos e2, if_pos (by omega), show 8 + j - (8 + r) = j - r by omega]
      · rw [if_neg e2, if_neg (by omega), h2 j hj]
  · rw [hget, if_neg (by omega), if_neg (by omega)]; exact h3
theorem blk_size {c : Array Value} {st : St} {f : Nat → UInt8} {m : Nat} (hb : Blk c st f m) (n : Nat) : Blk (c.setIfInBounds 72 (.int .i64 n)) st f n := by
  obtain ⟨hz, h1, h2, h3⟩ := hb
  refine ⟨by simpa using hz, fun i hi => ?_, fun j hj => ?_, ?_⟩
  · rw [Array.getElem?_setIfInBounds, if_neg (by omega), h1 i hi]
  · rw [Array.getElem?_setIfInBounds, if_neg (by omega), h2 j hj]
  · rw [Array.getElem?_setIfInBounds, if_pos rfl, if_pos (by omega)]
/-- Cells that are laid over a block's cells from o on. -/
theorem blk_words {w : World} {b : Nat} {c : Array Value} {t : TypeId} {st st' : St} {f : Nat → UInt8} {m : Nat} (h : w.heap[b]? = some (.cells c t (0, 0))) (hb : Blk c st f m) :
    ∃ c', (w.setCells b 0 (cells8 st').toList).heap[b]? = some (.cells c' t (0, 0)) ∧ Blk c' st' f m := by
  obtain ⟨hz, _, h2, h3⟩ := hb
  have hl : (cells8 st').toList.length = 8 := rfl
  obtain ⟨c', g1, g2, g3⟩ := heap_setCells b t (cells8 st').toList 0 w c h (by rw [hl]; omega)
  refine ⟨c', g1, by omega, fun i hi => ?_, fun j hj => ?_, ?_⟩
  · rw [g3, if_pos (by rw [hl]; omega), Nat.sub_zero, Array.getElem?_toList, cells8_get st' i hi]
  · rw [g3, if_neg (by rw [hl]; omega), h2 j hj]
  · rw [g3, if_neg (by rw [hl]; omega), h3]
/-! ### copy(b[..], s), s a text -/
theorem run_firstCells_take {P : Program} (w : World) (size n : Nat) (s : ByteArray) : (Builtin.firstCells size n (.string s)).run P w = .ok ((s.data.toList.take n).map fun b => Value.int .u8 b.toNat).toArray w := by
  simp only [Builtin.firstCells, Sem.run_pure]
  congr 1
  apply Array.ext'
  simp
theorem wpList_copy_str {P : Program} {w : World} {ops : Array Oper} {rest : List Oper} {o : Oper} {a : Act} {Q : Exit → Act → World → Prop} (hgd : o.guard = none) (d s : Operand) (dT sT : TypeId)
    (ho : o.op = .call { callee := .builtin .copy, args := #[d, s], argTypes := #[dT, sT] }) (elem : TypeId) (hu : P.underlying dT = some (.slice elem)) (hsz : (P.info? elem).map (·.size) = some 1)
    (g off dLen dCap : Nat) (x : ByteArray) (hd : a.eval d = .slice (some ⟨g, off, none⟩) dLen dCap) (hs : a.eval s = .string x)
    (cur : Array Value) (t : TypeId) (hg : w.heap[g]? = some (.cells cur t (0, 0))) (n : Nat) (hn : n = Nat.min x.size dLen) (hfit : off + dLen ≤ cur.size)
    (h : ∀ vs : List Value, vs = (x.data.toList.take n).map (fun b => Value.int .u8 b.toNat) → wpList P ops Q rest (a.put o.dst (goInt n)) (w.setRow g (cur.toList.take off ++ (vs ++ cur.toList.drop (off + n))).toArray)) : wpList P ops Q (o :: rest) a w := by
  refine wpList_plain hgd fun K hK => ?_
  have hx : x.data.toList.length = x.size := rfl
  obtain ⟨vs, hvs⟩ : ∃ vs : List Value, vs = (x.data.toList.take n).map (fun b => Value.int .u8 b.toNat) := ⟨_, rfl⟩
  have hfc := fun size => run_firstCells_take (P := P) w size n x
  rw [← hvs] at hfc
  have hlen : vs.length = n := by
    rw [hvs, List.length_map, List.length_take, hx, hn]
    exact Nat.min_eq_left (Nat.min_le_left _ _)
  have hnd : n ≤ dLen := by rw [hn]; exact Nat.min_le_right _ _
  have hst := run_storeCells_at P g off t vs 0 cur w hg (by rw [hlen]; omega) (fun v hv => by
    rw [hvs] at hv
    simp only [List.mem_map] at hv
    obtain ⟨b, _, rfl⟩ := hv
    rfl)
  have h' := h vs hvs
  clear h hvs
  have hrun : (Builtin.copy_ #[dT, sT] o.type #[.slice (some ⟨g, off, none⟩) dLen dCap, .string x]).run P w =
      .ok (goInt n) (w.setRow g (cur.toList.take off ++ (vs ++ cur.toList.drop (off + n))).toArray) := by
    cases hq : P.info? elem with
    | none => simp [hq] at hsz
    | some i =>
      rw [Nat.add_zero, hlen] at hst
      simp [Builtin.copy_, run_underlying hu, Builtin.lenOf, hfc, sizeOf, typeInfo, hq, ← hn, hst]
  unfold Oper.wp
  simp [execOp, ho, resolve, invoke, builtin, hd, hs, hrun, Result.andThen]
  exact hK _ _ h'
/-- The same, into a Run's block: what the block says behind it. -/
theorem wpList_copy_blk {P : Program} {w : World} {ops : Array Oper} {rest : List Oper} {o : Oper} {a : Act} {Q : Exit → Act → World → Prop} (hgd : o.guard = none) (d s : Operand) (dT sT : TypeId)
    (ho : o.op = .call { callee := .builtin .copy, args := #[d, s], argTypes := #[dT, sT] }) (elem : TypeId) (hu : P.underlying dT = some (.slice elem)) (hsz : (P.info? elem).map (·.size) = some 1)
    (g off dLen : Nat) (x : ByteArray) (hd : a.eval d = .slice (some ⟨g, off, none⟩) dLen dLen) (hs : a.eval s = .string x)
    (c : Array Value) (t : TypeId) (st : St) (f : Nat → UInt8) (m r n : Nat) (B : Nat) (W : World)
    (hyp : Hid (w.heap[g]? = some (.cells c t (0, 0)) ∧ Blk c st f m ∧ Below B W w ∧ B ≤ g ∧ off = 8 + r ∧ dLen = 64 - r ∧ r < 64 ∧ n = Nat.min x.size dLen))
    (h : ∀ c' w', Hid (w'.heap[g]? = some (.cells c' t (0, 0)) ∧ Blk c' st (mix f r n x.data.toList) m ∧ Below B W w' ∧ ∀ k, k ≠ g → w'.heap[k]? = w.heap[k]?) → wpList P ops Q rest (a.put o.dst (goInt n)) w') : wpList P ops Q (o :: rest) a w := by
  obtain ⟨hg, hblk, hb, hB, ho8, hdl, hr, hn⟩ := hyp.out
  have hn1 : n ≤ x.size := by rw [hn]; exact Nat.min_le_left _ _
  have hn2 : n ≤ dLen := by rw [hn]; exact Nat.min_le_right _ _
  refine wpList_copy_str hgd d s dT sT ho elem hu hsz g off dLen dLen x hd hs c t hg n hn (by rw [hblk.1]; omega) (fun vs hvs => ?_)
  refine h _ _ (show _ ∧ _ from ⟨setRow_heap _ _ _ _ _ _ hg, ?_, below_setRow hb _ _ hB, fun k hk => setRow_other _ _ _ _ hk⟩)
  subst hvs ho8
  exact blk_copy hblk r n x.data.toList (by omega) hn1
end Go.Proofs.YtdfkpjmljaanpaaGreatDoor
namespace Go.Proofs.YtdfkpjmljaanpaaGreatDoor
open Go.RowKit
def zero73 : Array Value := Array.replicate 8 (.int .u32 0) ++ Array.replicate 64 (.int .u8 0) ++ #[.int .i64 0]
theorem zero73_size : zero73.size = 73 := by simp only [zero73, Array.size_append, Array.size_replicate]; rfl
theorem z34 (w : World) : (zeroValue 223).run Tryz.prog w = .ok (.agg zero73) w := (zero_of_info (P := Tryz.prog) (t := 223) (v := .agg zero73) (n := 73) (by kernel_rfl)).1 w
def strLen : Value → Nat
  | .string r => r.size
  | _ => 0
theorem extract_rest (s : ByteArray) (n : Nat) : (s.extract n s.size).data.toList = s.data.toList.drop n := by
  exact Lib.extract_to_end s n
theorem cell72 {w2 : World} {g : Nat} {c1 : Array Value} {t : TypeId} {st : St} {f : Nat → UInt8} {m : Nat} {R : Prop} (h : Hid (w2.heap[g]? = some (.cells c1 t (0, 0)) ∧ Blk c1 st f m ∧ R)) : w2.cell? ⟨g, 72, none⟩ = some (.int .i64 m) := by
  rw [cell_of_row _ _ _ _ _ _ h.out.1]; exact h.out.2.1.2.2.2
theorem free72 {w2 : World} {g : Nat} {c1 : Array Value} {t : TypeId} {R : Prop} (h : Hid (w2.heap[g]? = some (.cells c1 t (0, 0)) ∧ R)) : w2.frozen? ⟨g, 72, none⟩ = false := frozen_of_row _ _ _ _ _ h.out.1
theorem bytes_of {c : Array Value} {st : St} {f : Nat → UInt8} {m : Nat} (h : Blk c st f m) : (c.extract 8 72).size = 64 ∧ ∀ j, j < 64 → (c.extract 8 72)[j]? = some (.int .u8 ((f j).toNat : Int)) := by
  refine ⟨by rw [Array.size_extract, h.1]; decide, fun j hj => ?_⟩
  rw [Array.getElem?_extract, if_pos (by rw [h.1]; omega)]
  exact h.2.2.1 j hj
theorem words_of {c : Array Value} {st : St} {f : Nat → UInt8} {m : Nat} (h : Blk c st f m) : c.extract 0 8 = cells8 st :=
  cells8_of (by rw [Array.size_extract, h.1]; decide) fun i hi => by
    rw [Array.getElem?_extract, if_pos (by rw [h.1]; omega), Nat.zero_add]; exact h.2.1 i hi
/-- The cells of a block that may be written. -/
def rowOf (W : World) (g : Nat) : Array Value := match W.heap[g]? with | some (.cells c _ (0, 0)) => c | _ => #[]
theorem rowOf_eq {W : World} {g : Nat} {c : Array Value} {t : TypeId} (h : W.heap[g]? = some (.cells c t (0, 0))) : rowOf W g = c := by simp [rowOf, h]
theorem rowOf_heap {W : World} {g : Nat} {n : Nat} (h : (rowOf W g).size = n + 1) : ∃ t, W.heap[g]? = some (.cells (rowOf W g) t (0, 0)) := by
  cases hq : W.heap[g]? with
  | none => simp [rowOf, hq] at h
  | some o =>
    cases o with
    | cells c t fr =>
      obtain ⟨x, y⟩ := fr
      by_cases e : x = 0 ∧ y = 0
      · obtain ⟨rfl, rfl⟩ := e; exact ⟨t, by rw [rowOf_eq hq]⟩
      · exfalso
        revert h
        unfold rowOf
        rw [hq]
        split
        · rename_i h2; simp at h2; omega
        · simp
    | _ => simp [rowOf, hq] at h
theorem rowOf_below {W W' : World} {g : Nat} (h : Below W.heap.size W W') (hg : g < W.heap.size) : rowOf W' g = rowOf W g := by
  unfold rowOf; rw [h.block g hg]
theorem lt_of_row {W : World} {g n : Nat} (h : (rowOf W g).size = n + 1) : g < W.heap.size := by
  obtain ⟨t, ht⟩ := rowOf_heap h
  rcases Nat.lt_or_ge g W.heap.size with k | k
  · exact k
  · rw [Array.getElem?_eq_none k] at ht; cases ht
theorem load31_pre (W : World) (g : Nat) (h : (rowOf W g).size = 73) : (Instr.loadAt 220 (.pointer (some ⟨g, 0, none⟩))).run Tryz.prog W = .ok (.agg ((rowOf W g).extract 0 8)) W := by
  obtain ⟨t, ht⟩ := rowOf_heap h
  have := run_loadAt_mid (P := Tryz.prog) W g 0 220 ((rowOf W g).extract 0 8).toList _ (World.rangeAt_of_block ht 0 8) Tryz.underlying220 rfl (by rw [Array.length_toList, Array.size_extract, h]; kernel_rfl)
  rw [Array.toArray_toList] at this
  exact this
theorem load32_pre (W : World) (g : Nat) (h : (rowOf W g).size = 73) : (Instr.loadAt 221 (.pointer (some ⟨g, 8, none⟩))).run Tryz.prog W = .ok (.agg ((rowOf W g).extract 8 72)) W := by
  obtain ⟨t, ht⟩ := rowOf_heap h
  have := run_loadAt_mid (P := Tryz.prog) W g 8 221 ((rowOf W g).extract 8 72).toList _ (World.rangeAt_of_block ht 8 64) Tryz.underlying221 rfl (by rw [Array.length_toList, Array.size_extract, h]; kernel_rfl)
  rw [Array.toArray_toList] at this
  exact this
theorem store31_pre (W : World) (g : Nat) (s : St) (h : (rowOf W g).size = 73) : (Instr.storeAt 220 (.pointer (some ⟨g, 0, none⟩)) (.agg (cells8 s))).run Tryz.prog W = .ok () (W.setCells g 0 (cells8 s).toList) := by
  obtain ⟨t, ht⟩ := rowOf_heap h
  exact run_storeAt_mid (P := Tryz.prog) W g 0 220 (cells8 s) (fun j hj => ⟨by
    have hj8 : j < 8 := hj
    rw [cell_of_row _ _ _ _ _ _ ht, Array.getElem?_eq_getElem (by omega)]; rfl, frozen_of_row _ _ _ _ _ ht⟩) (by kernel_rfl) (by simp [cells8, Value.oneCell'])
/-- The loads and the store of whole rows, closed to the walk till their block is known. -/
def ldRow (T : TypeId) (p : Value) : Sem Value := Instr.loadAt T p
def stRow (T : TypeId) (p v : Value) : Sem Unit := Instr.storeAt T p v
theorem ld31_hide (p : Value) : Instr.loadAt 220 p = ldRow 220 p := rfl
theorem ld32_hide (p : Value) : Instr.loadAt 221 p = ldRow 221 p := rfl
theorem st31_hide (p v : Value) : Instr.storeAt 220 p v = stRow 220 p v := rfl
theorem ld31_eq (W : World) (g : Nat) (h : (rowOf W g).size = 73) : (ldRow 220 (.pointer (some ⟨g, 0, none⟩))).run Tryz.prog W = .ok (.agg ((rowOf W g).extract 0 8)) W := load31_pre W g h
theorem ld32_eq (W : World) (g : Nat) (h : (rowOf W g).size = 73) : (ldRow 221 (.pointer (some ⟨g, 8, none⟩))).run Tryz.prog W = .ok (.agg ((rowOf W g).extract 8 72)) W := load32_pre W g h
theorem st31_eq (W : World) (g : Nat) (s : St) (h : (rowOf W g).size = 73) : (stRow 220 (.pointer (some ⟨g, 0, none⟩)) (.agg (cells8 s))).run Tryz.prog W = .ok () (W.setCells g 0 (cells8 s).toList) := store31_pre W g s h
attribute [local go_sem ↓] ld31_hide ld32_hide st31_hide
attribute [local go_sem] ld31_eq ld32_eq st31_eq
theorem keepCall {A B C : World} (h : Below A.heap.size A B) (k : Below B.heap.size B C) : Below A.heap.size A C := h.trans (k.mono h.size)
theorem rowAfter {W W4 : World} {g : Nat} {c : Array Value} (h : rowOf W g = c) (hz : c.size = 73) (hb : Below W.drew.heap.size W.drew W4) : rowOf W4 g = c := by
  have hlt : g < W.heap.size := lt_of_row (n := 72) (by rw [h]; exact hz)
  exact (rowOf_below hb hlt).trans h
theorem rowAfter2 {W W4 : World} {g : Nat} {c : Array Value} (h : rowOf W g = c) (hz : c.size = 73) (hb : Below W.heap.size W W4) : rowOf W4 g = c := by
  have hlt : g < W.heap.size := lt_of_row (n := 72) (by rw [h]; exact hz)
  exact (rowOf_below hb hlt).trans h
theorem belowOfDrew {W W4 : World} (hb : Below W.drew.heap.size W.drew W4) : Below W.heap.size W W4 := ⟨hb.os, hb.tape, hb.output, hb.size, hb.block⟩
/-- The block and its Run behind the store of the size. -/
theorem size_stored {R : Prop} {w2 w : World} {g : Nat} {c1 : Array Value} {t : TypeId} {st : St} {f : Nat → UInt8} {m : Nat} {dl n : Nat} (hBg : w.heap.size ≤ g)
    (h : Hid (w2.heap[g]? = some (.cells c1 t (0, 0)) ∧ Blk c1 st f m ∧ Below w.heap.size w w2 ∧ R)) :
    (w2.setCell ⟨g, 72, none⟩ (.int .i64 ((dl : Int) + n))).heap[g]? = some (.cells (c1.setIfInBounds 72 (.int .i64 ((dl : Int) + n))) t (0, 0)) ∧ Blk (c1.setIfInBounds 72 (.int .i64 ((dl : Int) + n))) st f (dl + n) ∧
    Below w.heap.size w (w2.setCell ⟨g, 72, none⟩ (.int .i64 ((dl : Int) + n))) :=
  ⟨heap_setCell_same _ _ _ _ _ _ h.out.1, by have := blk_size h.out.2.1 (dl + n); simpa using this, h.out.2.2.1.setCell hBg _⟩
/-- The Run behind a block that was taken in. -/
theorem with_whole {w W3 w4 w5 : World} {g : Nat} {c3 : Array Value} {t : TypeId} {st st' : St} {f : Nat → UInt8} {m : Nat} {z : Obj}
    (g1 : W3.heap[g]? = some (.cells c3 t (0, 0))) (g2 : Blk c3 st f m) (g3 : Below w.heap.size w W3) (g4 : W3.heap[g + 1]? = some z) (h4 : Below W3.heap.size W3 w4) (h5 : Below w4.heap.size w4 w5)
    (hg : w.heap.size ≤ g := by exact Nat.le_refl _) :
    ∃ c4, (w5.setCells g 0 (cells8 st').toList).heap[g]? = some (.cells c4 t (0, 0)) ∧ Blk c4 st' f m ∧ (w5.setCells g 0 (cells8 st').toList).heap[g + 1]? = some z ∧ Below w.heap.size w (w5.setCells g 0 (cells8 st').toList) := by
  have hb := keepCall h4 h5
  have lt : g + 1 < W3.heap.size := by
    rcases Nat.lt_or_ge (g + 1) W3.heap.size with k | k
    · exact k
    · rw [Array.getElem?_eq_none k] at g4; cases g4
  have e1 := (hb.block g (by omega)).trans g1
  obtain ⟨c4, q1, q2⟩ := blk_words (st' := st') e1 g2
  exact ⟨c4, q1, q2, (heap_setCells_other g (g + 1) (by omega) _ 0 w5).trans ((hb.block (g + 1) lt).trans g4), below_setCells g hg _ 0 w5 (g3.trans (hb.mono g3.size))⟩
set_option maxRecDepth 100000 in
set_option maxHeartbeats 1000000 in
theorem with_any (c0 : Array Value) (l : List UInt8) (h0 : RunOf c0 l) (s : ByteArray) (hlen : l.length + s.size < 1099511627776) (w : World) (hG : Glob w) :
    Calls Tryz.prog 139 #[.agg c0, .string s] w fun e w' => ∃ c, e = .returned (.agg c) ∧ RunOf c (l ++ s.data.toList) ∧ Below w.heap.size w w' := by
  have hz34 := z34
  go_enter Tryz.func139, Tryz.ntmps139
  go_wp2_with fail
  have hI : ∀ W, W = (w.alloc (.cells c0 223)).alloc (.cells zero73 223) → W.heap[w.heap.size]? = some (.cells c0 223) ∧ W.heap[w.heap.size + 1]? = some (.cells zero73 223) ∧ Below w.heap.size w W := fun W h => by
    subst h
    exact ⟨heap_alloc2_old w _ _, heap_alloc2_new w _ _, ((Below.refl _ _).alloc (Nat.le_refl _) _).alloc (by simp) _⟩
  generalize hw1 : World.alloc (World.alloc w _) _ = w1
  obtain ⟨hA, hC, hb⟩ := hI _ hw1.symm
  clear hI hw1 hz34
  go_loopw [1] (fun sv wr => ∃ (rest : ByteArray) (done : List UInt8) (c : Array Value), sv = .string rest ∧ done ++ rest.data.toList = l ++ s.data.toList ∧ RunOf c done ∧
      wr.heap[w.heap.size]? = some (.cells c 223) ∧ wr.heap[w.heap.size + 1]? = some (.cells zero73 223) ∧ Below w.heap.size w wr) (fun sv _ => strLen sv)
  case atStart => exact ⟨s, l, c0, rfl, rfl, h0, hA, hC, hb⟩
  case round =>
    clear hA hC hb h0
    obtain ⟨rest, done, c, rfl, happ, hrun, hA, hC, hb⟩ := hrel
    have hsum : done.length + rest.size = l.length + s.size := by
      have := congrArg List.length happ
      simpa using this
    have HAPP := Lib.hid happ
    clear happ
    by_cases hpos : 0 < rest.size
    · obtain ⟨st, f, hblk, hst, htail⟩ := hrun
      obtain ⟨dl, hdl⟩ : ∃ n, n = done.length := ⟨_, rfl⟩
      obtain ⟨r, hr⟩ : ∃ r, r = dl % 64 := ⟨_, rfl⟩
      obtain ⟨d, hd⟩ : ∃ d, d = 64 - r := ⟨_, rfl⟩
      obtain ⟨o8, ho8⟩ : ∃ o, o = 8 + r := ⟨_, rfl⟩
      obtain ⟨n, hn⟩ : ∃ n, n = Nat.min rest.size d := ⟨_, rfl⟩
      have hn1 : n ≤ rest.size := by rw [hn]; exact Nat.min_le_left _ _
      have hn2 : n ≤ d := by rw [hn]; exact Nat.min_le_right _ _
      have hn3 : 0 < n := by rw [hn]; exact Nat.lt_min.2 ⟨hpos, by omega⟩
      have c72 : wr.cell? ⟨w.heap.size, 72, none⟩ = some (.int .i64 dl) := by rw [cell_of_row _ _ _ _ _ _ hA, hdl]; exact hblk.2.2.2
      have hsl : ∀ W, (Instr.sliceAt 221 (.pointer (some ⟨w.heap.size, 8, none⟩)) (some (.int .i64 ((dl : Int) % 64))) none none).run Tryz.prog W = .ok (.slice (some ⟨w.heap.size, o8, none⟩) d d) W := fun W => by
        have := run_sliceAt_l (P := Tryz.prog) Tryz.underlying221 (by kernel_rfl) w.heap.size 8 r (by omega) W
        rw [show ((r : Nat) : Int) = (dl : Int) % 64 by omega, ← ho8, ← hd] at this
        exact this
      have bd : (dl : Int) + n < 1099511627776 := by omega
      have bn : (n : Int) ≤ rest.size := by omega
      have HN := Lib.hid (And.intro hdl (And.intro hr (And.intro hd (And.intro ho8 hn))))
      have HC : Hid (wr.heap[w.heap.size]? = some (.cells c 223 (0, 0)) ∧ Blk c st f dl ∧ Below w.heap.size w wr ∧ w.heap.size ≤ w.heap.size ∧ o8 = 8 + r ∧ d = 64 - r ∧ r < 64 ∧ n = Nat.min rest.size d) :=
        ⟨hA, by rw [hdl]; exact hblk, hb, Nat.le_refl _, ho8, hd, by omega, hn⟩
      have HX := Lib.hid (And.intro hst (And.intro htail hC))
      have hposI : (0 : Int) < rest.size := by omega
      have hsub : n ≤ rest.size := hn1
      have HCC := Lib.hid hC
      by_cases h64 : r + n = 64
      · have hd64 : (((dl : Int) + n) % 64 == 0) = true := beq_iff_eq.2 (by omega)
        clear hdl hr hd ho8 hn hA hblk hb hst htail hC hsum
        go_wp2_with (((with_reducible refine (?_ : wpList _ _ _ ({ dst := some 15, op := _, type := _, pos := _, after := _, guard := none } :: _) _ _)); refine wpList_copy_blk rfl (.tmp 13) (.tmp 14) 107 9 rfl 5 Tryz.underlying107 (by kernel_rfl) w.heap.size o8 d rest rfl rfl c 223 st f dl r n w.heap.size w HC ?_; intro c1 w2 HC2; have c72b := cell72 HC2; have cfb := free72 HC2))
        obtain ⟨g1, g2, g3⟩ := size_stored (dl := dl) (n := n) (Nat.le_refl _) HC2
        have g4 : (w2.setCell ⟨w.heap.size, 72, none⟩ (.int .i64 ((dl : Int) + n))).heap[w.heap.size + 1]? = some (.cells zero73 223) := by
          rw [heap_setCell_other _ _ _ _ (by simp), HC2.out.2.2.2 _ (by omega)]; exact HCC.out
        generalize Array.setIfInBounds _ _ _ = c3 at *
        generalize World.setCell _ _ _ = W3 at *
        obtain ⟨bz, bg⟩ := bytes_of g2
        have w8 := words_of g2
        have ro : rowOf W3 w.heap.size = c3 := rowOf_eq g1
        have rz : c3.size = 73 := g2.1
        obtain ⟨bs, hbs⟩ : ∃ bs, bs = c3.extract 8 72 := ⟨_, rfl⟩
        rw [← hbs] at bz bg
        have b64 : c3.extract 8 72 = bs := hbs.symm
        have hG3 := hG.below g3
        have HG := Lib.hid (And.intro g1 (And.intro g2 (And.intro g3 (And.intro g4 (And.intro hG3 bg)))))
        clear g1 g2 g3 g4 hbs hG3 HC2 c72b cfb bg
        have rd : rowOf W3.drew w.heap.size = c3 := ro
        go_region_with ((first
          | (go_at_call 192; refine (wordsOf_any (mix f r n rest.data.toList) bs HG.out.2.2.2.2.2 _).mono ?_; rintro e w4 ⟨ws, rfl, hwz, hws, hbw⟩; have rw4 := rowAfter ro rz hbw; have HW4 := Lib.hid (And.intro hwz (And.intro hws hbw)); clear hwz hws hbw)
          | (go_at_call 191; refine (takeIn_any st _ _ HW4.out.1 HW4.out.2.1 _ (HG.out.2.2.2.2.1.below (belowOfDrew HW4.out.2.2))).mono ?_; rintro e w5 ⟨rfl, hbt⟩; have rw5 := rowAfter2 rw4 rz hbt; have HW5 := Lib.hid hbt; clear hbt)))
        all_goals
          obtain ⟨c4, q1, q2, q3, q4⟩ := with_whole (st' := st.add (rounds (wordOf (mix f r n rest.data.toList)) (first.add st) 64)) HG.out.1 HG.out.2.1 HG.out.2.2.1 HG.out.2.2.2.1 (belowOfDrew HW4.out.2.2) HW5.out
          obtain ⟨hdl, hr, hd, ho8, hn⟩ := HN.out
          clear ro rd rw4 rw5 w8 b64
          subst hdl hr
          go_wp2_with fail
          go_roundw
          case rel => exact ⟨rest.extract n rest.size, done ++ rest.data.toList.take n, c4, rfl, by rw [extract_rest, List.append_assoc, List.take_append_drop]; exact HAPP.out, run_whole HX.out.1 HX.out.2.1 hn1 (by omega) q2, q1, q3, q4⟩
          case measure => simp [strLen]; omega
      · have hd64 : (((dl : Int) + n) % 64 == 0) = false := beq_eq_false_iff_ne.2 (by omega)
        clear hdl hr hd ho8 hn hA hblk hb hst htail hC hsum
        go_wp2_with (((with_reducible refine (?_ : wpList _ _ _ ({ dst := some 15, op := _, type := _, pos := _, after := _, guard := none } :: _) _ _)); refine wpList_copy_blk rfl (.tmp 13) (.tmp 14) 107 9 rfl 5 Tryz.underlying107 (by kernel_rfl) w.heap.size o8 d rest rfl rfl c 223 st f dl r n w.heap.size w HC ?_; intro c1 w2 HC2; have c72b := cell72 HC2; have cfb := free72 HC2))
        obtain ⟨g1, g2, g3⟩ := size_stored (dl := dl) (n := n) (Nat.le_refl _) HC2
        have g4 : (w2.setCell ⟨w.heap.size, 72, none⟩ (.int .i64 ((dl : Int) + n))).heap[w.heap.size + 1]? = some (.cells zero73 223) := by
          rw [heap_setCell_other _ _ _ _ (by simp), HC2.out.2.2.2 _ (by omega)]; exact HCC.out
        obtain ⟨hdl, hr, hd, ho8, hn⟩ := HN.out
        subst hdl hr
        go_roundw
        case rel => exact ⟨rest.extract n rest.size, done ++ rest.data.toList.take n, _, rfl, by rw [extract_rest, List.append_assoc, List.take_append_drop]; exact HAPP.out, run_part g2 HX.out.1 HX.out.2.1 hn1 (by omega), g1, g4, g3⟩
        case measure => simp [strLen]; omega
    · have hz0 : rest.size = 0 := by omega
      have hd0 : decide ((0 : Int) < rest.size) = false := decide_eq_false (by omega)
      clear hpos
      go_wp2_with (first
        | (refine wpList_load_row rfl 223 _ rfl w.heap.size rfl 223 c (0, 0) _ hA Tryz.underlying223 rfl (by rw [hrun.size]; kernel_rfl) ?_)
        | (refine wpList_store_row rfl 223 _ _ rfl (w.heap.size + 1) rfl 223 _ c rfl hC (by rw [hrun.size]; kernel_rfl) (by rw [hrun.size]; exact zero73_size) hrun.oneCell ?_))
      refine bodyPost_ret (results_cell_row rfl _ _ (w.heap.size + 1) 223 c (0, 0) _ rfl (setRow_heap _ _ _ _ _ _ hC) Tryz.underlying223 rfl (by rw [hrun.size]; kernel_rfl)) rfl ⟨c, rfl, ?_, ?_⟩
      · rw [← HAPP.out, List.eq_nil_of_length_eq_zero (show rest.data.toList.length = 0 from hz0), List.append_nil]; exact hrun
      · exact below_setRow hb _ _ (by omega)
end Go.Proofs.YtdfkpjmljaanpaaGreatDoor
namespace Go.Proofs.YtdfkpjmljaanpaaGreatDoor
open Go.RowKit
attribute [local go_sem] V_add V_add' V_shr
theorem ld34_hide (p : Value) : Instr.loadAt 223 p = ldRow 223 p := rfl
theorem st34_hide (p v : Value) : Instr.storeAt 223 p v = stRow 223 p v := rfl
theorem ld34_eq (W : World) (g : Nat) (h : (rowOf W g).size = 73) : (ldRow 223 (.pointer (some ⟨g, 0, none⟩))).run Tryz.prog W = .ok (.agg (rowOf W g)) W := by
  obtain ⟨t, ht⟩ := rowOf_heap h
  have := run_loadVar_row (P := Tryz.prog) W g t 223 (rowOf W g) (0, 0) _ ht Tryz.underlying223 rfl (by rw [h]; kernel_rfl)
  simp only [ldRow, Instr.loadAt, Instr.sureAddr, Sem.run_bind, Sem.run_pure, Result.andThen_ok, this]
/-- 73 cells. -/
def Whole73 (c : Array Value) : Prop := c.size = 73 ∧ c.all (·.oneCell') = true
theorem st34_eq (W : World) (g : Nat) (c : Array Value) (h : (rowOf W g).size = 73) (hc : Whole73 c) : (stRow 223 (.pointer (some ⟨g, 0, none⟩)) (.agg c)).run Tryz.prog W = .ok () (W.setRow g c) := by
  obtain ⟨t, ht⟩ := rowOf_heap h
  have := run_storeVar_row (P := Tryz.prog) W g t 223 (rowOf W g) c ht (by rw [hc.1]; kernel_rfl) (by rw [h, hc.1]) hc.2
  simp only [stRow, Instr.storeAt, Instr.sureAddr, Sem.run_bind, Sem.run_pure, Result.andThen_ok, this]
attribute [local go_sem ↓] ld34_hide st34_hide
attribute [local go_sem] ld34_eq st34_eq
def zeroSt : St := { a := 0, b := 0, c := 0, d := 0, e := 0, f := 0, g := 0, h := 0 }
theorem zeroSt_get : ∀ i, zeroSt.get i = 0
  | 0 => rfl | 1 => rfl | 2 => rfl | 3 => rfl | 4 => rfl | 5 => rfl | 6 => rfl | _ + 7 => rfl
theorem V_zero : V 0 = 0 := rfl
theorem begin_run : RunOf zero73 [] := by
  have l8 : (Array.replicate 8 (Value.int .u32 0)).size = 8 := Array.size_replicate
  have l64 : (Array.replicate 64 (Value.int .u8 0)).size = 64 := Array.size_replicate
  have l72 : (Array.replicate 8 (Value.int .u32 0) ++ Array.replicate 64 (Value.int .u8 0)).size = 72 := by rw [Array.size_append, l8, l64]
  refine ⟨zeroSt, fun _ => 0, ⟨zero73_size, fun i hi => ?_, fun j hj => ?_, ?_⟩, ?_, fun j hj => absurd hj (by simp)⟩
  · rw [zero73, Array.getElem?_append_left (by omega), Array.getElem?_append_left (by omega), Array.getElem?_replicate, if_pos hi, zeroSt_get, V_zero]
  · rw [zero73, Array.getElem?_append_left (by omega), Array.getElem?_append_right (by omega), l8, show 8 + j - 8 = j by omega, Array.getElem?_replicate, if_pos hj]
    rfl
  · rw [zero73, Array.getElem?_append_right (by omega), l72]
    rfl
  · refine St.ext_get fun i _ => ?_
    rw [St.get_add, zeroSt_get]
    simp [absorb]
/-- What holds of memory ahead of the last loop. -/
structure SumMid (l : List UInt8) (st : St) (w wS : World) : Prop where
  row : ∃ c, wS.heap[w.heap.size]? = some (.cells c 223 (0, 0)) ∧ ∀ k, k < 8 → c[k]? = some (.int .u32 (V (st.get k)))
  word : ∀ k, k < 8 → hh k + st.get k = (shaSt l).get k
  below : Below w.heap.size w wS
  glob : Glob wS
  two : 2 < w.heap.size
theorem first_get : ∀ k, k < 8 → first.get k = hh k
  | 0, _ => rfl | 1, _ => rfl | 2, _ => rfl | 3, _ => rfl | 4, _ => rfl | 5, _ => rfl | 6, _ => rfl | 7, _ => rfl
  | n + 8, h => absurd h (by omega)
theorem sum_mid {l : List UInt8} {w w1 w4 w5 : World} {c0 c5 : Array Value} (_hA : w1.heap[w.heap.size]? = some (.cells c0 223 (0, 0))) (hb : Below w.heap.size w w1) (hGw : Glob w) (h4 : Below w1.heap.size w1 w4) (h5 : Below w4.heap.size w4 w5)
    (hr : RunOf c5 (l ++ (str (padL l.length)).data.toList)) (rw5 : rowOf w5 w.heap.size = c0) (hz : c0.size = 73) : ∃ st, SumMid l st w (w5.setRow w.heap.size c5) := by
  obtain ⟨st, f, hblk, hst, _⟩ := hr
  have hb5 : Below w1.heap.size w1 w5 := h4.trans (h5.mono h4.size)
  obtain ⟨t, ht⟩ := rowOf_heap (n := 72) (by rw [rw5]; exact hz)
  obtain rfl : t = 223 := by
    have lt : w.heap.size < w1.heap.size := by
      rcases Nat.lt_or_ge w.heap.size w1.heap.size with k | k
      · exact k
      · rw [Array.getElem?_eq_none k] at _hA; cases _hA
    have := (hb5.block _ lt).trans _hA
    rw [ht] at this; cases this; rfl
  have hp := padLen_bd l.length
  have hlen : (l ++ (str (padL l.length)).data.toList).length = 64 * blocksN l.length := by rw [str_data, List.length_append, padL_length]; omega
  have hq : 64 * blocksN l.length / 64 = blocksN l.length := by omega
  rw [hlen, hq, str_data] at hst
  refine ⟨st, ⟨c5, setRow_heap _ _ _ _ _ _ ht, hblk.2.1⟩, fun k hk => ?_, below_setRow (hb.trans (hb5.mono hb.size)) _ _ (Nat.le_refl _), ?_, hGw.2.2⟩
  · rw [shaSt, ← hst, St.get_add, first_get k hk]
  · exact hGw.below (below_setRow (hb.trans (hb5.mono hb.size)) _ _ (Nat.le_refl _))
structure SumInv (l : List UInt8) (st : St) (w wS wr : World) (i : Nat) : Prop where
  out : ∃ a : Array Value, wr.heap[wS.heap.size]? = some (.cells a 277 (0, 0)) ∧ a.size = 32 ∧ ∀ j, j < i → a[j]? = some (.int .u8 ((outAt (shaSt l) j).toNat : Int))
  row : ∃ c, wr.heap[w.heap.size]? = some (.cells c 223 (0, 0)) ∧ ∀ k, k < 8 → c[k]? = some (.int .u32 (V (st.get k)))
  word : ∀ k, k < 8 → hh k + st.get k = (shaSt l).get k
  below : Below w.heap.size w wr
  glob : Glob wr
  size : w.heap.size < wS.heap.size
  two : 2 < w.heap.size
theorem SumInv.start {l : List UInt8} {st : St} {w wS : World} (h : SumMid l st w wS) : SumInv l st w wS (wS.alloc (.cells (Array.replicate 32 (.int .u8 0)) 277)) 0 := by
  obtain ⟨c, hc, hcs⟩ := h.row
  have lt : w.heap.size < wS.heap.size := by
    rcases Nat.lt_or_ge w.heap.size wS.heap.size with k | k
    · exact k
    · rw [Array.getElem?_eq_none k] at hc; cases hc
  exact ⟨⟨_, heap_alloc_new _ _, Array.size_replicate, fun j hj => absurd hj (by omega)⟩, ⟨c, (Below.heap_alloc _ _ _ lt).trans hc, hcs⟩, h.word, h.below.alloc (by omega) _, h.glob.alloc _, lt, h.two⟩
theorem SumInv.cell {l : List UInt8} {st : St} {w wS wr : World} {i : Nat} (h : SumInv l st w wS wr i) (k : Nat) (hk : k < 8) : wr.cell? ⟨w.heap.size, k, none⟩ = some (.int .u32 (V (st.get k))) := by
  obtain ⟨c, hc, hcs⟩ := h.row
  rw [cell_of_row _ _ _ _ _ _ hc, hcs k hk]
theorem SumInv.there {l : List UInt8} {st : St} {w wS wr : World} {i : Nat} (h : SumInv l st w wS wr i) (j : Nat) (hj : j < 32) : ∃ v, wr.cell? ⟨wS.heap.size, j, none⟩ = some v := by
  obtain ⟨a, ha, hz, _⟩ := h.out
  exact ⟨a[j], by rw [cell_of_row _ _ _ _ _ _ ha, Array.getElem?_eq_getElem (by omega)]⟩
theorem SumInv.drewN {l : List UInt8} {st : St} {w wS wr : World} {i : Nat} (h : SumInv l st w wS wr i) (n : Nat) : SumInv l st w wS (wr.drewN n) i :=
  ⟨h.out, h.row, h.word, below_drewN h.below n, h.glob.drewN n, h.size, h.two⟩
theorem SumInv.put {l : List UInt8} {st : St} {w wS wr : World} {i : Nat} (h : SumInv l st w wS wr i) (hi : i < 32) (x : Int) (hx : x = ((outAt (shaSt l) i).toNat : Int)) :
    SumInv l st w wS (wr.setCell ⟨wS.heap.size, i, none⟩ (.int .u8 x)) (i + 1) := by
  obtain ⟨a, ha, hz, hall⟩ := h.out
  obtain ⟨c, hc, hcs⟩ := h.row
  have hs := h.size
  have ht := h.two
  refine ⟨⟨_, heap_setCell_same _ _ _ _ _ _ ha, by simpa using hz, fun j hj => ?_⟩, ⟨c, (heap_setCell_other _ _ _ _ (by simp; omega)).trans hc, hcs⟩, h.word, h.below.setCell (by simp; omega) _, ?_, hs, h.two⟩
  · rw [Array.getElem?_setIfInBounds]
    by_cases e : i = j
    · subst e; rw [if_pos rfl, if_pos (by omega), hx]
    · rw [if_neg e, hall j (by omega)]
  · have h2 := h.glob.2.2
    refine ⟨fun j hj => ?_, fun j hj => ?_, by simpa using h2⟩
    · rw [World.cell?_setCell_other _ _ _ _ (fun e => by have : wS.heap.size = 0 := congrArg Addr.block e; omega)]; exact h.glob.1 j hj
    · rw [World.cell?_setCell_other _ _ _ _ (fun e => by have : wS.heap.size = 2 := congrArg Addr.block e; omega)]; exact h.glob.2.1 j hj
theorem out_byte {l : List UInt8} {st : St} {i k : Nat} (hk : k = i / 4) (hx : hh k + st.get k = (shaSt l).get k) : V ((hh k + st.get k) >>> (24 - i % 4 * 8)) % 256 = ((outAt (shaSt l) i).toNat : Int) := by
  rw [hx, hk, outAt, V, UInt8.toNat_ofNat']
  simp
theorem SumInv.free {l : List UInt8} {st : St} {w wS wr : World} {i : Nat} (h : SumInv l st w wS wr i) (j : Nat) : wr.frozen? ⟨wS.heap.size, j, none⟩ = false := by
  obtain ⟨a, ha, _⟩ := h.out
  exact frozen_of_row _ _ _ _ _ ha
set_option maxRecDepth 100000 in
set_option maxHeartbeats 1000000 in
theorem rsum_any (c0 : Array Value) (l : List UInt8) (h0 : RunOf c0 l) (hlen : l.length < 1099511627000) (w : World) (hG : Glob w) :
    Calls Tryz.prog 140 #[.agg c0] w fun e w' => e = .returned (.string (str (sha l))) ∧ Below w.heap.size w w' := by
  have hz := h0.size
  have hpl : l.length + (str (padL l.length)).size < 1099511627776 := by
    have := padLen_bd l.length
    rw [str_size, padL_length]; omega
  have c72 : c0[72]? = some (.int .i64 l.length) := by obtain ⟨_, _, hb, _⟩ := h0; exact hb.2.2.2
  go_enter Tryz.func140, Tryz.ntmps140
  go_wp2
  obtain ⟨hA, hb, hG1⟩ : (w.alloc (.cells c0 223)).heap[w.heap.size]? = some (.cells c0 223) ∧ Below w.heap.size w (w.alloc (.cells c0 223)) ∧ Glob (w.alloc (.cells c0 223)) :=
    ⟨heap_alloc_new _ _, (Below.refl _ _).alloc (Nat.le_refl _) _, hG.alloc _⟩
  generalize World.alloc w _ = w1 at *
  have ro : rowOf w1 w.heap.size = c0 := rowOf_eq hA
  have rd : rowOf w1.drew w.heap.size = c0 := ro
  have cw : w1.cell? ⟨w.heap.size, 72, none⟩ = some (.int .i64 l.length) := by rw [cell_of_row _ _ _ _ _ _ hA]; exact c72
  have HX := Lib.hid (And.intro hA (And.intro hb (And.intro hG1 h0)))
  clear hA hb hG1 h0 c72
  go_region_with ((first
    | (go_at_call 193; refine (ending_any l.length (by omega) _).mono ?_; rintro e w4 ⟨rfl, hbw⟩; have rw4 := rowAfter ro hz hbw; have HW4 := Lib.hid hbw; clear hbw)
    | (go_at_call 139; refine (with_any _ _ HX.out.2.2.2 _ hpl _ (HX.out.2.2.1.below (belowOfDrew HW4.out))).mono ?_; rintro e w5 ⟨c5, rfl, hr5, hbt⟩; have rw5 := rowAfter2 rw4 hz hbt; have z5 : Whole73 c5 := ⟨hr5.size, hr5.oneCell⟩; have HW5 := Lib.hid (And.intro hr5 hbt); clear hr5 hbt)))
  all_goals
    obtain ⟨st, hS⟩ := sum_mid HX.out.1 HX.out.2.1 hG (belowOfDrew HW4.out) HW5.out.2 HW5.out.1 rw5 hz
    clear ro rd cw rw4 rw5 z5
    generalize World.setRow _ _ _ = wS at *
    go_wp2
    generalize hw7 : World.alloc wS _ = w7
    have hI : SumInv l st w wS w7 0 := by rw [← hw7]; exact SumInv.start hS
    clear hw7
    go_loopw [11] (fun c wr => ∃ i : Nat, i ≤ 32 ∧ c = .int .i64 i ∧ SumInv l st w wS wr i) (fun c _ => 32 - (intOf c).toNat)
    case atStart => exact ⟨0, by omega, rfl, hI⟩
    case round =>
      clear hI
      obtain ⟨i, hi, rfl, hI⟩ := hrel
      by_cases hlt : i < 32
      · obtain ⟨k, hk⟩ : ∃ k, k = i / 4 := ⟨_, rfl⟩
        have c1 : wr.cell? ⟨0, k, none⟩ = some (.int .u32 (V (hh k))) := hI.glob.1 k (by omega)
        have c2 : wr.cell? ⟨w.heap.size, k, none⟩ = some (.int .u32 (V (st.get k))) := hI.cell k (by omega)
        have ek : IntKind.i64.wrap ((i : Int) / 4) = (k : Int) := by rw [IntWalk.i64_in _ (by omega)]; omega
        have bk : (k : Int) < 8 := by omega
        have hx := hI.word k (by omega)
        have HK := Lib.hid (And.intro hk hx)
        clear hk hx
        go_wp2
        go_quiet (fail)
        clear c1 c2 ek bk
        generalize hW : World.drewN _ _ = W5
        have hI5 : SumInv l st w wS W5 i := by rw [← hW]; exact hI.drewN _
        clear hW hI
        obtain ⟨v, ce⟩ := hI5.there i hlt
        have cf := hI5.free i
        have bi : (i : Int) < 32 := by omega
        go_wp2
        go_roundw
        case rel => exact ⟨i + 1, by omega, by go_num, hI5.put hlt _ (out_byte HK.out.1 HK.out.2)⟩
        case measure => simp [intOf]; omega
      · obtain rfl : i = 32 := by omega
        obtain ⟨a, ha, hza, hall⟩ := hI.out
        have hb := hI.below
        have hcv : (convert 107 9 (.slice (some ⟨wS.heap.size, 0, none⟩) 32 32)).run Tryz.prog wr = .ok (.string (str (sha l))) wr := by
          rw [← strOfNums_nums]
          refine run_convert_bytes_arg (P := Tryz.prog) (w := wr) 107 5 Tryz.underlying107 Tryz.underlying5 wS.heap.size 0 32 32 (nums (sha l)) ?_ (fun j hj => ?_) 9 Tryz.underlying9
          · rw [nums, List.length_map, sha_length]
          · rw [Nat.zero_add, cell_of_row _ _ _ _ _ _ ha, hall j hj]
            simp [nums, sha, outL, List.getD_eq_getElem?_getD, hj]
        clear ha hza hall hI
        go_wp2
        go_ret
        exact ⟨rfl, hb⟩
set_option maxRecDepth 100000 in
set_option maxHeartbeats 400000 in
theorem begin_any (w : World) : Calls Tryz.prog 138 #[] w fun e w' => e = .returned (.agg zero73) ∧ Below w.heap.size w w' := by
  have hz34 := z34
  go_enter Tryz.func138, Tryz.ntmps138
  go_wp2_with (first
    | (refine wpList_build_to rfl 223 _ rfl zero73 (by kernel_rfl) ?_)
    | (refine wpList_store_row rfl 223 _ _ rfl w.heap.size rfl 223 zero73 zero73 rfl (heap_alloc_new _ _) (by kernel_rfl) zero73_size begin_run.oneCell ?_))
  refine bodyPost_ret (results_cell_row rfl _ _ w.heap.size 223 zero73 (0, 0) _ rfl (setRow_heap _ _ _ _ _ _ (heap_alloc_new _ _)) Tryz.underlying223 rfl (by rw [zero73_size]; kernel_rfl)) rfl ⟨rfl, ?_⟩
  exact below_setRow ((Below.refl _ _).alloc (Nat.le_refl _) _) _ _ (Nat.le_refl _)
set_option maxRecDepth 100000 in
set_option maxHeartbeats 400000 in
theorem dsum_any (s : ByteArray) (hs : s.size < 1099511627000) (w : World) (hG : Glob w) :
    Calls Tryz.prog 72 #[.string s] w fun e w' => e = .returned (.string (str (sha s.data.toList))) ∧ Below w.heap.size w w' := by
  go_enter Tryz.func72, Tryz.ntmps72
  go_wp2_with fail
  refine (begin_any _).mono ?_
  rintro e w1 ⟨rfl, hb1⟩
  go_wp2_with fail
  refine (with_any zero73 [] begin_run s (by simp; omega) _ (hG.below hb1)).mono ?_
  rintro e w2 ⟨c, rfl, hr, hb2⟩
  go_wp2_with fail
  have hl : ([] ++ s.data.toList).length = s.size := rfl
  refine (rsum_any c _ hr (by rw [hl]; omega) _ ((hG.below hb1).below hb2)).mono ?_
  rintro e w3 ⟨rfl, hb3⟩
  go_wp2_with fail
  go_ret
  exact ⟨rfl, (hb1.trans (hb2.mono hb1.size)).trans (hb3.mono (Nat.le_trans hb1.size hb2.size))⟩
end Go.Proofs.YtdfkpjmljaanpaaGreatDoor
