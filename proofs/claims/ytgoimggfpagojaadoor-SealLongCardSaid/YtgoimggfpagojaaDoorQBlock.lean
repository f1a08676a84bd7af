/- chacha.blockOf. -/
import Derived.Test.YtgoimggfpagojaaDoorQBMath
import Derived.Deep.RegionHeld
import Derived.Deep.WholeRow
namespace Go.Proofs.YtgoimggfpagojaaDoor
open Go.RowKit

/-- The table lies where it lies. -/
def GlobQ (w : World) : Prop := (∀ k, k < 32 → w.cell? ⟨2, k, none⟩ = some (.int .u8 ((tRow.getD k 0 : Nat) : Int))) ∧ 2 + 1 ≤ w.heap.size
theorem GlobQ.below {w w' : World} (h : GlobQ w) (hb : Below w.heap.size w w') : GlobQ w' :=
  ⟨fun i hi => (hb.cell (p := ⟨2, i, none⟩) (by have := h.2; show 2 < _; omega)).trans (h.1 i hi), Nat.le_trans h.2 hb.size⟩
/-- Four places, as cells. -/
def tCells (i : Nat) : Array Value := #[.int .u8 (tp i 0 : Nat), .int .u8 (tp i 1 : Nat), .int .u8 (tp i 2 : Nat), .int .u8 (tp i 3 : Nat)]
theorem GlobQ.range {w : World} (h : GlobQ w) (i : Nat) (hi : i < 8) : w.rangeAt 2 (4 * i) (tCells i).toList := fun j v hv => by
  have hj : j < 4 := by
    have := (List.getElem?_eq_some_iff.1 hv).1
    simpa [tCells] using this
  rw [h.1 (4 * i + j) (by omega)]
  obtain rfl | rfl | rfl | rfl : j = 0 ∨ j = 1 ∨ j = 2 ∨ j = 3 := by omega
  all_goals (simp [tCells] at hv; rw [← hv]; rfl)
/-- Bytes as the cells of an array. -/
def qbArr (l : List UInt8) : Array Value := (bcells l).toArray
theorem qbArr_size (l : List UInt8) : (qbArr l).size = l.length := by simp [qbArr, bcells]
theorem qbArr_oneCell (l : List UInt8) : (qbArr l).all (·.oneCell') = true := by
  rw [Array.all_eq_true_iff_forall_mem]
  intro x hx
  simp only [qbArr, bcells, List.mem_toArray, List.mem_map] at hx
  obtain ⟨b, _, rfl⟩ := hx
  rfl
theorem qbArr_get (l : List UInt8) (i : Nat) (h : i < l.length) : (qbArr l)[i]? = some (.int .u8 ((l.getD i 0).toNat : Int)) := by
  simp [qbArr, bcells, List.getD_eq_getElem?_getD, h]
theorem bArr_set (l : List UInt8) (i : Nat) (x : UInt8) : (qbArr l).setIfInBounds i (.int .u8 (x.toNat : Int)) = qbArr (l.set i x) := by
  simp [qbArr, bcells, List.map_set]
def qzero64 : Array Value := qbArr (List.replicate 64 0)
theorem zero64_to (f : List (BitVec 32)) : qzero64 = qbArr (blockTo f 0) := by
  unfold qzero64 blockTo
  congr 1
theorem z64 (w : World) : (zeroValue 84).run Tryd.prog w = .ok (.agg qzero64) w := (zero_of_info (P := Tryd.prog) (t := 84) (v := .agg qzero64) (n := 64) (by kernel_rfl)).1 w
def zeroF : Array Value := wArr (wordsTo ⟨#[]⟩ 0)
theorem zeroF_size : zeroF.size = 16 := by unfold zeroF; rw [wArr_size, wordsTo_length]
theorem z16 (w : World) : (zeroValue 140).run Tryd.prog w = .ok (.agg zeroF) w := (zero_of_info (P := Tryd.prog) (t := 140) (v := .agg zeroF) (n := 16) (by kernel_rfl)).1 w

/-- What holds of memory while a block is made. -/
def BkInv (f l : List (BitVec 32)) (w W : World) : Prop :=
  RowA 140 W w.heap.size f ∧ RowA 140 W (w.heap.size + 1 + 1) l ∧ W.heap[w.heap.size + 1]? = some (.cells qzero64 84 (0, 0)) ∧ Below w.heap.size w W
theorem BkInv.call {f l : List (BitVec 32)} {w W W' : World} (h : BkInv f l w W) (hb : Below W.heap.size W W') : BkInv f l w W' :=
  ⟨h.1.call hb, h.2.1.call hb, (hb.block _ (Array.getElem?_eq_some_iff.1 h.2.2.1).1).trans h.2.2.1, h.2.2.2.trans (hb.mono h.2.2.2.size)⟩
theorem BkInv.put {f l : List (BitVec 32)} {w W : World} (h : BkInv f l w W) (i : Nat) (x : BitVec 32) : BkInv f (l.set i x) w (W.setCell ⟨w.heap.size + 1 + 1, i, none⟩ (.int .u32 (V x))) :=
  ⟨h.1.other _ _ (by simp; omega), h.2.1.put i x, by rw [heap_setCell_other _ _ _ _ (by simp)]; exact h.2.2.1, h.2.2.2.setCell (by simp; omega) _⟩
theorem BkInv.drewN {f l : List (BitVec 32)} {w W : World} (h : BkInv f l w W) (n : Nat) : BkInv f l w (W.drewN n) := ⟨h.1, h.2.1, h.2.2.1, below_drewN h.2.2.2 n⟩
theorem tp_all (i : Nat) (hi : i < 8) : tp i 0 < 16 ∧ tp i 1 < 16 ∧ tp i 2 < 16 ∧ tp i 3 < 16 ∧ tp i 0 ≠ tp i 1 ∧ tp i 0 ≠ tp i 2 ∧ tp i 0 ≠ tp i 3 ∧ tp i 1 ≠ tp i 2 ∧ tp i 1 ≠ tp i 3 ∧ tp i 2 ≠ tp i 3 := tp_facts ⟨i, hi⟩
/-- In region 8. -/
def R8 (f l : List (BitVec 32)) (w : World) (g p0 p1 p2 p3 : Nat) (W : World) : Prop :=
  BkInv f l w W ∧ W.heap[g]? = some (.cells #[.int .u8 (p0 : Int), .int .u8 (p1 : Int), .int .u8 (p2 : Int), .int .u8 (p3 : Int)] 170 (0, 0))
theorem R8.call {f l : List (BitVec 32)} {w : World} {g p0 p1 p2 p3 : Nat} {W W' : World} (h : R8 f l w g p0 p1 p2 p3 W) (hb : Below W.heap.size W W') : R8 f l w g p0 p1 p2 p3 W' :=
  ⟨h.1.call hb, (hb.block _ (Array.getElem?_eq_some_iff.1 h.2).1).trans h.2⟩
theorem R8.all {f l : List (BitVec 32)} {w : World} {g p0 p1 p2 p3 : Nat} {W : World} {q : Qr} (hy : l.length = 16 ∧ p0 < 16 ∧ p1 < 16 ∧ p2 < 16 ∧ p3 < 16 ∧ q = qAt l p0 p1 p2 p3) (h : R8 f l w g p0 p1 p2 p3 W) :
    W.cell? ⟨g, 0, none⟩ = some (.int .u8 (p0 : Int)) ∧ W.cell? ⟨g, 1, none⟩ = some (.int .u8 (p1 : Int)) ∧ W.cell? ⟨g, 2, none⟩ = some (.int .u8 (p2 : Int)) ∧ W.cell? ⟨g, 3, none⟩ = some (.int .u8 (p3 : Int)) ∧
    W.cell? ⟨w.heap.size + 1 + 1, p0, none⟩ = some (.int .u32 (V q.a)) ∧ W.cell? ⟨w.heap.size + 1 + 1, p1, none⟩ = some (.int .u32 (V q.b)) ∧ W.cell? ⟨w.heap.size + 1 + 1, p2, none⟩ = some (.int .u32 (V q.c)) ∧ W.cell? ⟨w.heap.size + 1 + 1, p3, none⟩ = some (.int .u32 (V q.d)) := by
  obtain ⟨hl, h0, h1, h2, h3, rfl⟩ := hy
  exact ⟨by rw [cell_of_row _ _ _ _ _ _ h.2]; rfl, by rw [cell_of_row _ _ _ _ _ _ h.2]; rfl, by rw [cell_of_row _ _ _ _ _ _ h.2]; rfl, by rw [cell_of_row _ _ _ _ _ _ h.2]; rfl,
    h.1.2.1.cell p0 (by omega), h.1.2.1.cell p1 (by omega), h.1.2.1.cell p2 (by omega), h.1.2.1.cell p3 (by omega)⟩
theorem BkInv.other {f l : List (BitVec 32)} {w W : World} (h : BkInv f l w W) (a : Addr) (v : Value) (ha : w.heap.size + 1 + 1 < a.block) : BkInv f l w (W.setCell a v) :=
  ⟨h.1.other a v (by omega), h.2.1.other a v (by omega), by rw [heap_setCell_other _ _ _ _ (by omega)]; exact h.2.2.1, h.2.2.2.setCell (by omega) _⟩
theorem R8.other {f l : List (BitVec 32)} {w : World} {g p0 p1 p2 p3 : Nat} {W : World} (h : R8 f l w g p0 p1 p2 p3 W) (a : Addr) (v : Value) (ha : w.heap.size + 1 + 1 < a.block) (hg : a.block ≠ g) : R8 f l w g p0 p1 p2 p3 (W.setCell a v) :=
  ⟨h.1.other a v ha, by rw [heap_setCell_other _ _ _ _ (fun e => hg e.symm)]; exact h.2⟩
theorem put4 {W : World} {g : Nat} {t : TypeId} {z0 z1 z2 z3 : Value} (a b c d : Value) (h : W.heap[g]? = some (.cells #[z0, z1, z2, z3] t (0, 0))) :
    ((((W.setCell ⟨g, 0, none⟩ a).setCell ⟨g, 1, none⟩ b).setCell ⟨g, 2, none⟩ c).setCell ⟨g, 3, none⟩ d).heap[g]? = some (.cells #[a, b, c, d] t (0, 0)) :=
  heap_setCell_same _ _ _ _ _ _ (heap_setCell_same _ _ _ _ _ _ (heap_setCell_same _ _ _ _ _ _ (heap_setCell_same _ _ _ _ _ _ h)))
/-- In region 9. -/
def R9 (g g6 p0 p1 p2 p3 : Nat) (q : Qr) (W : World) : Prop :=
  W.heap[g]? = some (.cells #[.int .u8 (p0 : Int), .int .u8 (p1 : Int), .int .u8 (p2 : Int), .int .u8 (p3 : Int)] 170 (0, 0)) ∧ W.heap[g6]? = some (.cells #[.int .u32 (V q.a), .int .u32 (V q.b), .int .u32 (V q.c), .int .u32 (V q.d)] 172 (0, 0))
theorem R9.put {g g6 p0 p1 p2 p3 : Nat} {q : Qr} {W : World} (h : R9 g g6 p0 p1 p2 p3 q W) (a : Addr) (v : Value) (h1 : a.block ≠ g) (h2 : a.block ≠ g6) : R9 g g6 p0 p1 p2 p3 q (W.setCell a v) :=
  ⟨by rw [heap_setCell_other _ _ _ _ (fun e => h1 e.symm)]; exact h.1, by rw [heap_setCell_other _ _ _ _ (fun e => h2 e.symm)]; exact h.2⟩
theorem R9.all {g g6 p0 p1 p2 p3 : Nat} {q : Qr} {W : World} (h : R9 g g6 p0 p1 p2 p3 q W) :
    W.cell? ⟨g, 0, none⟩ = some (.int .u8 (p0 : Int)) ∧ W.cell? ⟨g, 1, none⟩ = some (.int .u8 (p1 : Int)) ∧ W.cell? ⟨g, 2, none⟩ = some (.int .u8 (p2 : Int)) ∧ W.cell? ⟨g, 3, none⟩ = some (.int .u8 (p3 : Int)) ∧
    W.cell? ⟨g6, 0, none⟩ = some (.int .u32 (V q.a)) ∧ W.cell? ⟨g6, 1, none⟩ = some (.int .u32 (V q.b)) ∧ W.cell? ⟨g6, 2, none⟩ = some (.int .u32 (V q.c)) ∧ W.cell? ⟨g6, 3, none⟩ = some (.int .u32 (V q.d)) :=
  ⟨by rw [cell_of_row _ _ _ _ _ _ h.1]; rfl, by rw [cell_of_row _ _ _ _ _ _ h.1]; rfl, by rw [cell_of_row _ _ _ _ _ _ h.1]; rfl, by rw [cell_of_row _ _ _ _ _ _ h.1]; rfl,
    by rw [cell_of_row _ _ _ _ _ _ h.2]; rfl, by rw [cell_of_row _ _ _ _ _ _ h.2]; rfl, by rw [cell_of_row _ _ _ _ _ _ h.2]; rfl, by rw [cell_of_row _ _ _ _ _ _ h.2]; rfl⟩
attribute [local go_sem] V_add V_add' V_xor V_and V_or V_not V_not' V_shr V_shl V_shl' V_byte V_byte'
set_option maxRecDepth 100000 in
set_option maxHeartbeats 400000 in
theorem qblockOf_any (f : List (BitVec 32)) (hf : f.length = 16) (w : World) (hG : GlobQ w) :
    Calls Tryd.prog 121 #[.agg (wArr f)] w fun e w' => e = .returned (.agg (qbArr (blockB f))) ∧ Below w.heap.size w w' := by
  have hz := z64
  have hz2 := z16
  have hfs : (wArr f).size = 16 := by rw [wArr_size, hf]
  have za : (w.alloc (.cells (wArr f) 140)).heap.size = w.heap.size + 1 := by simp
  have zb : ((w.alloc (.cells (wArr f) 140)).alloc (.cells qzero64 84)).heap.size = w.heap.size + 1 + 1 := by simp
  have hA : ((w.alloc (.cells (wArr f) 140)).alloc (.cells qzero64 84)).heap[w.heap.size]? = some (.cells (wArr f) 140 (0, 0)) := by
    rw [Lib.alloc_old _ _ _ (by omega)]; exact heap_alloc_new _ _
  have hB : (((w.alloc (.cells (wArr f) 140)).alloc (.cells qzero64 84)).alloc (.cells zeroF 140)).heap[w.heap.size + 1 + 1]? = some (.cells zeroF 140 (0, 0)) := by
    rw [← zb]; exact heap_alloc_new _ _
  have hC : (((w.alloc (.cells (wArr f) 140)).alloc (.cells qzero64 84)).alloc (.cells zeroF 140)).heap[w.heap.size]? = some (.cells (wArr f) 140 (0, 0)) := by
    rw [Lib.alloc_old _ _ _ (by omega)]; exact hA
  have hD : (((w.alloc (.cells (wArr f) 140)).alloc (.cells qzero64 84)).alloc (.cells zeroF 140)).heap[w.heap.size + 1]? = some (.cells qzero64 84 (0, 0)) := by
    rw [Lib.alloc_old _ _ _ (by omega), ← za]; exact heap_alloc_new _ _
  have hbw : Below w.heap.size w (((w.alloc (.cells (wArr f) 140)).alloc (.cells qzero64 84)).alloc (.cells zeroF 140)) :=
    (((Below.refl _ _).alloc (Nat.le_refl _) _).alloc (by omega) _).alloc (by omega) _
  have H0 := Lib.hid (And.intro hA (And.intro hB (And.intro hC (And.intro hD (And.intro hbw hfs)))))
  clear hA hB hC hD hbw za zb hfs
  go_enter Tryd.func121, Tryd.ntmps121
  go_wp2_with (first
    | (refine wpList_load_row rfl 140 _ rfl w.heap.size rfl 140 (wArr f) (0, 0) _ H0.out.1 Tryd.underlying140 rfl (by rw [H0.out.2.2.2.2.2]; kernel_rfl) ?_)
    | (refine wpList_store_row rfl 140 _ _ rfl (w.heap.size + 1 + 1) rfl 140 zeroF (wArr f) rfl H0.out.2.1 (by rw [H0.out.2.2.2.2.2]; kernel_rfl) (by rw [H0.out.2.2.2.2.2, zeroF_size]) (wArr_oneCell f) ?_))
  have hI : BkInv f (rndsN f 0) w ((((w.alloc (.cells (wArr f) 140)).alloc (.cells qzero64 84)).alloc (.cells zeroF 140)).setRow (w.heap.size + 1 + 1) (wArr f)) :=
    ⟨by unfold RowA; rw [setRow_other _ _ _ _ (by omega)]; exact H0.out.2.2.1, setRow_heap _ _ _ _ _ _ H0.out.2.1, by rw [setRow_other _ _ _ _ (by omega)]; exact H0.out.2.2.2.1, below_setRow H0.out.2.2.2.2.1 _ _ (by omega)⟩
  have HI := Lib.hid (And.intro hI (And.intro hf hG))
  clear hI H0 hz2 hf hG
  generalize World.setRow _ _ _ = w1 at *
  go_loopw [4, 5, 6, 11] (fun _ _ _ c wr => ∃ n : Nat, n ≤ 10 ∧ c = .int .i64 n ∧ BkInv f (rndsN f n) w wr) (fun _ _ _ c _ => 10 - (intOf c).toNat)
  case atStart => exact ⟨0, by omega, rfl, HI.out.1⟩
  case round =>
    obtain ⟨n, hn, rfl, hI⟩ := hrel
    by_cases hlt : n < 10
    · have HN := Lib.hid hI
      clear hI
      have n10 : decide ((n : Int) < 10) = true := by simp; omega
      go_wp2_with fail
      clear n10
      go_loopw [4, 5, 6, 13] (fun _ _ _ c wr => ∃ i : Nat, i ≤ 8 ∧ c = .int .i64 i ∧ BkInv f (turnsN (rndsN f n) i) w wr) (fun _ _ _ c _ => 8 - (intOf c).toNat)
      case atStart => exact ⟨0, by omega, rfl, HN.out⟩
      case round =>
        clear HN
        obtain ⟨i, hi, rfl, hI⟩ := hrel
        by_cases hl8 : i < 8
        · obtain ⟨p0b, p1b, p2b, p3b, hne⟩ := tp_all i hl8
          have hran := (HI.out.2.2.below (Below.mono (w := w) ⟨hI.2.2.2.os, hI.2.2.2.tape, hI.2.2.2.output, hI.2.2.2.size, hI.2.2.2.block⟩ (Nat.le_refl _))).range i hl8
          obtain ⟨l, hl⟩ : ∃ l, l = turnsN (rndsN f n) i := ⟨_, rfl⟩
          have hll : l.length = 16 := by rw [hl, turnsN_length, rndsN_length, HI.out.2.1]
          have hnext : turnsN (rndsN f n) (i + 1) = turnL l (tp i 0) (tp i 1) (tp i 2) (tp i 3) := by rw [turnsN, ← hl]; rfl
          rw [← hl] at hI
          unfold tCells at hran
          generalize tp i 0 = p0 at *
          generalize tp i 1 = p1 at *
          generalize tp i 2 = p2 at *
          generalize tp i 3 = p3 at *
          have HR := Lib.hid (And.intro hran (And.intro hl (And.intro hll (And.intro hnext hne))))
          have HB := Lib.hid hI
          clear hran hl hll hnext hne hI
          have i8 : (i : Int) < 8 := by omega
          go_wp2_with (first
            | (refine wpList_load_mid rfl 170 _ rfl 2 (4 * i) ?_ _ _ HR.out.1 Tryd.underlying170 rfl (by kernel_rfl) ?_))
          obtain ⟨g, hg⟩ : ∃ g, g = wr.heap.size := ⟨_, rfl⟩
          obtain ⟨W1, hW1⟩ : ∃ W1, W1 = wr.alloc (.cells #[.int .u8 (p0 : Int), .int .u8 (p1 : Int), .int .u8 (p2 : Int), .int .u8 (p3 : Int)] 170) := ⟨_, rfl⟩
          have hI1 : BkInv f l w W1 := by rw [hW1]; exact HB.out.call ((Below.refl _ _).alloc (Nat.le_refl _) _)
          have hr1 : W1.heap[g]? = some (.cells #[.int .u8 (p0 : Int), .int .u8 (p1 : Int), .int .u8 (p2 : Int), .int .u8 (p3 : Int)] 170 (0, 0)) := by rw [hW1, hg]; exact heap_alloc_new _ _
          have hgw : w.heap.size + 1 + 1 < g := by rw [hg]; exact HB.out.2.1.lt
          rw [← hW1, ← hg]
          clear hW1 hg
          obtain ⟨q, hq⟩ : ∃ q, q = qAt l p0 p1 p2 p3 := ⟨_, rfl⟩
          have b0 : (p0 : Int) < 16 := by omega
          have b1 : (p1 : Int) < 16 := by omega
          have b2 : (p2 : Int) < 16 := by omega
          have b3 : (p3 : Int) < 16 := by omega
          have HY2 := Lib.hid hgw
          have HY := Lib.hid (And.intro HR.out.2.2.1 (And.intro p0b (And.intro p1b (And.intro p2b (And.intro p3b hq)))))
          have C : R8 f l w g p0 p1 p2 p3 W1.drew := ⟨⟨hI1.1, hI1.2.1, hI1.2.2.1, hI1.2.2.2.drew⟩, hr1⟩
          clear hI1 hr1 hq HB p0b p1b p2b p3b
          refine wp_region_held (S := R8 f l w g p0 p1 p2 p3) (by kernel_rfl) ?_
          change wpAnyH _ _ _ _ _ _ _ _ (World.drew _)
          generalize World.drew _ = wh at *
          refine wpAnyH_take (i := 0) (v := ?_) rfl (by kernel_rfl) (by kernel_rfl) (by kernel_rfl) (fun _ _ _ h => h) (Or.inl ⟨by kernel_rfl, ?_⟩) C ?_
          rotate_left
          · (intro W hS; obtain ⟨a0, a1, a2, a3, d0, d1, d2, d3⟩ := R8.all HY.out hS; clear hS; go_simp; try (with_reducible rfl))
          refine wpAnyH_take (i := 1) (v := ?_) rfl (by kernel_rfl) (by kernel_rfl) (by kernel_rfl) (fun _ _ _ h => h) (Or.inl ⟨by kernel_rfl, ?_⟩) C ?_
          rotate_left
          · (intro W hS; obtain ⟨a0, a1, a2, a3, d0, d1, d2, d3⟩ := R8.all HY.out hS; clear hS; go_simp; try (with_reducible rfl))
          refine wpAnyH_take (i := 2) (v := ?_) rfl (by kernel_rfl) (by kernel_rfl) (by kernel_rfl) (fun _ _ _ h => h) (Or.inl ⟨by kernel_rfl, ?_⟩) C ?_
          rotate_left
          · (intro W hS; obtain ⟨a0, a1, a2, a3, d0, d1, d2, d3⟩ := R8.all HY.out hS; clear hS; go_simp; try (with_reducible rfl))
          refine wpAnyH_take (i := 3) (v := ?_) rfl (by kernel_rfl) (by kernel_rfl) (by kernel_rfl) (fun _ _ _ h => h) (Or.inl ⟨by kernel_rfl, ?_⟩) C ?_
          rotate_left
          · (intro W hS; obtain ⟨a0, a1, a2, a3, d0, d1, d2, d3⟩ := R8.all HY.out hS; clear hS; go_simp; try (with_reducible rfl))
          refine wpAnyH_take (i := 4) (v := ?_) rfl (by kernel_rfl) (by kernel_rfl) (by kernel_rfl) (fun _ _ _ h => h) (Or.inl ⟨by kernel_rfl, ?_⟩) C ?_
          rotate_left
          · (intro W hS; obtain ⟨a0, a1, a2, a3, d0, d1, d2, d3⟩ := R8.all HY.out hS; clear hS; go_simp; try (with_reducible rfl))
          refine wpAnyH_take (i := 5) (v := ?_) rfl (by kernel_rfl) (by kernel_rfl) (by kernel_rfl) (fun _ _ _ h => h) (Or.inl ⟨by kernel_rfl, ?_⟩) C ?_
          rotate_left
          · (intro W hS; obtain ⟨a0, a1, a2, a3, d0, d1, d2, d3⟩ := R8.all HY.out hS; clear hS; go_simp; try (with_reducible rfl))
          refine wpAnyH_take (i := 6) (v := ?_) rfl (by kernel_rfl) (by kernel_rfl) (by kernel_rfl) (fun _ _ _ h => h) (Or.inl ⟨by kernel_rfl, ?_⟩) C ?_
          rotate_left
          · (intro W hS; obtain ⟨a0, a1, a2, a3, d0, d1, d2, d3⟩ := R8.all HY.out hS; clear hS; go_simp; try (with_reducible rfl))
          refine wpAnyH_take (i := 7) (v := ?_) rfl (by kernel_rfl) (by kernel_rfl) (by kernel_rfl) (fun _ _ _ h => h) (Or.inl ⟨by kernel_rfl, ?_⟩) C ?_
          rotate_left
          · (intro W hS; obtain ⟨a0, a1, a2, a3, d0, d1, d2, d3⟩ := R8.all HY.out hS; clear hS; go_simp; try (with_reducible rfl))
          refine wpAnyH_take (i := 8) (v := ?_) rfl (by kernel_rfl) (by kernel_rfl) (by kernel_rfl) (fun _ _ _ h => h) (Or.inl ⟨by kernel_rfl, ?_⟩) C ?_
          rotate_left
          · (intro W hS; obtain ⟨a0, a1, a2, a3, d0, d1, d2, d3⟩ := R8.all HY.out hS; clear hS; go_simp; try (with_reducible rfl))
          refine wpAnyH_take (i := 9) (v := ?_) rfl (by kernel_rfl) (by kernel_rfl) (by kernel_rfl) (fun _ _ _ h => h) (Or.inl ⟨by kernel_rfl, ?_⟩) C ?_
          rotate_left
          · (intro W hS; obtain ⟨a0, a1, a2, a3, d0, d1, d2, d3⟩ := R8.all HY.out hS; clear hS; go_simp; try (with_reducible rfl))
          refine wpAnyH_take (i := 10) (v := ?_) rfl (by kernel_rfl) (by kernel_rfl) (by kernel_rfl) (fun _ _ _ h => h) (Or.inl ⟨by kernel_rfl, ?_⟩) C ?_
          rotate_left
          · (intro W hS; obtain ⟨a0, a1, a2, a3, d0, d1, d2, d3⟩ := R8.all HY.out hS; clear hS; go_simp; try (with_reducible rfl))
          refine wpAnyH_take (i := 11) (v := ?_) rfl (by kernel_rfl) (by kernel_rfl) (by kernel_rfl) (fun _ _ _ h => h) (Or.inl ⟨by kernel_rfl, ?_⟩) C ?_
          rotate_left
          · (intro W hS; obtain ⟨a0, a1, a2, a3, d0, d1, d2, d3⟩ := R8.all HY.out hS; clear hS; go_simp; try (with_reducible rfl))
          refine wpAnyH_take (i := 12) (v := ?_) rfl (by kernel_rfl) (by kernel_rfl) (by kernel_rfl) (fun _ _ _ h => h) (Or.inl ⟨by kernel_rfl, ?_⟩) C ?_
          rotate_left
          · (intro W hS; obtain ⟨a0, a1, a2, a3, d0, d1, d2, d3⟩ := R8.all HY.out hS; clear hS; go_simp; try (with_reducible rfl))
          refine wpAnyH_take (i := 13) (v := ?_) rfl (by kernel_rfl) (by kernel_rfl) (by kernel_rfl) (fun _ _ _ h => h) (Or.inl ⟨by kernel_rfl, ?_⟩) C ?_
          rotate_left
          · (intro W hS; obtain ⟨a0, a1, a2, a3, d0, d1, d2, d3⟩ := R8.all HY.out hS; clear hS; go_simp; try (with_reducible rfl))
          refine wpAnyH_take (i := 14) (v := ?_) rfl (by kernel_rfl) (by kernel_rfl) (by kernel_rfl) (fun _ _ _ h => h) (Or.inl ⟨by kernel_rfl, ?_⟩) C ?_
          rotate_left
          · (intro W hS; obtain ⟨a0, a1, a2, a3, d0, d1, d2, d3⟩ := R8.all HY.out hS; clear hS; go_simp; try (with_reducible rfl))
          refine wpAnyH_take (i := 15) (v := ?_) rfl (by kernel_rfl) (by kernel_rfl) (by kernel_rfl) (fun _ _ _ h => h) (Or.inl ⟨by kernel_rfl, ?_⟩) C ?_
          rotate_left
          · (intro W hS; obtain ⟨a0, a1, a2, a3, d0, d1, d2, d3⟩ := R8.all HY.out hS; clear hS; go_simp; try (with_reducible rfl))
          refine wpAnyH_ready (rs := [16, 17]) (by kernel_rfl) (by simp) ?_
          refine AllReadyH.cons rfl (fun K hK => ?_) (AllReadyH.cons rfl (fun K hK => ?_) AllReadyH.nil)
          · go_simp
            refine (quarter_any q _).mono ?_
            rintro e W2 ⟨rfl, hb⟩
            have C := C.call hb
            refine hK.out _ _ C (fun _ => ?_)
            clear hK K hb
            refine wpAnyH_ready (rs := [17]) (by kernel_rfl) (by simp) ?_
            refine AllReadyH.cons rfl (fun K hK => ?_) AllReadyH.nil
            go_simp
            have C2 := C.call ((Below.refl _ _).alloc (Nat.le_refl _) (.cells #[.int .u32 0, .int .u32 0, .int .u32 0, .int .u32 0] 172))
            refine hK.out _ _ C2 (fun _ => ?_)
            clear hK K
            refine wpAnyH_ready (rs := [18]) (by kernel_rfl) (by simp) ?_
            refine AllReadyH.cons rfl (fun K hK => ?_) AllReadyH.nil
            unfold cells4
            go_simp
            have C3 := C.call ((Below.refl _ _).alloc (Nat.le_refl _) (.cells #[.int .u32 (V (qtr q).a), .int .u32 (V (qtr q).b), .int .u32 (V (qtr q).c), .int .u32 (V (qtr q).d)] 172))
            have hq3 : (W2.alloc (.cells #[.int .u32 (V (qtr q).a), .int .u32 (V (qtr q).b), .int .u32 (V (qtr q).c), .int .u32 (V (qtr q).d)] 172)).heap[W2.heap.size]? = some (.cells #[.int .u32 (V (qtr q).a), .int .u32 (V (qtr q).b), .int .u32 (V (qtr q).c), .int .u32 (V (qtr q).d)] 172 (0, 0)) := heap_alloc_new _ _
            have hg3 : w.heap.size + 1 + 1 < W2.heap.size := C.1.2.1.lt
            have hgg : g ≠ W2.heap.size := by have := (Array.getElem?_eq_some_iff.1 C.2).1; omega
            refine hK.out _ _ C3 (fun _ => ?_)
            clear hK K C C2
            refine wpAnyH_done (by kernel_rfl) ?_ _
            obtain ⟨W3, hW3⟩ : ∃ W3, W3 = W2.alloc (.cells #[.int .u32 (V (qtr q).a), .int .u32 (V (qtr q).b), .int .u32 (V (qtr q).c), .int .u32 (V (qtr q).d)] 172) := ⟨_, rfl⟩
            rw [← hW3] at C3 hq3 ⊢
            clear hW3
            generalize W2.heap.size = g6 at *
            go_wp2_with fail
            have hB := C3.1
            have C9 : R9 g g6 p0 p1 p2 p3 (qtr q) W3.drew := ⟨C3.2, hq3⟩
            have hB : BkInv f l w W3.drew := ⟨hB.1, hB.2.1, hB.2.2.1, hB.2.2.2.drew⟩
            have HZ := Lib.hid (And.intro hg3 hgg)
            clear C3 hq3 hg3 hgg
            refine wp_region_held (S := R9 g g6 p0 p1 p2 p3 (qtr q)) (by kernel_rfl) ?_
            change wpAnyH _ _ _ _ _ _ _ _ (World.drew _)
            generalize World.drew _ = wk at *
            refine wpAnyH_take (i := 0) (v := ?_) rfl (by kernel_rfl) (by kernel_rfl) (by kernel_rfl) (fun _ _ _ h => h) (Or.inl ⟨by kernel_rfl, ?_⟩) C9 ?_
            rotate_left
            · (intro W hS; obtain ⟨a0, a1, a2, a3, d0, d1, d2, d3⟩ := R9.all hS; clear hS; go_simp; try (with_reducible rfl))
            refine wpAnyH_take (i := 1) (v := ?_) rfl (by kernel_rfl) (by kernel_rfl) (by kernel_rfl) (fun _ _ _ h => h) (Or.inl ⟨by kernel_rfl, ?_⟩) C9 ?_
            rotate_left
            · (intro W hS; obtain ⟨a0, a1, a2, a3, d0, d1, d2, d3⟩ := R9.all hS; clear hS; go_simp; try (with_reducible rfl))
            refine wpAnyH_take (i := 2) (v := ?_) rfl (by kernel_rfl) (by kernel_rfl) (by kernel_rfl) (fun _ _ _ h => h) (Or.inl ⟨by kernel_rfl, ?_⟩) C9 ?_
            rotate_left
            · (intro W hS; obtain ⟨a0, a1, a2, a3, d0, d1, d2, d3⟩ := R9.all hS; clear hS; go_simp; try (with_reducible rfl))
            refine wpAnyH_take (i := 3) (v := ?_) rfl (by kernel_rfl) (by kernel_rfl) (by kernel_rfl) (fun _ _ _ h => h) (Or.inl ⟨by kernel_rfl, ?_⟩) C9 ?_
            rotate_left
            · (intro W hS; obtain ⟨a0, a1, a2, a3, d0, d1, d2, d3⟩ := R9.all hS; clear hS; go_simp; try (with_reducible rfl))
            refine wpAnyH_take (i := 4) (v := ?_) rfl (by kernel_rfl) (by kernel_rfl) (by kernel_rfl) (fun _ _ _ h => h) (Or.inl ⟨by kernel_rfl, ?_⟩) C9 ?_
            rotate_left
            · (intro W hS; obtain ⟨a0, a1, a2, a3, d0, d1, d2, d3⟩ := R9.all hS; clear hS; go_simp; try (with_reducible rfl))
            refine wpAnyH_take (i := 5) (v := ?_) rfl (by kernel_rfl) (by kernel_rfl) (by kernel_rfl) (fun _ _ _ h => h) (Or.inl ⟨by kernel_rfl, ?_⟩) C9 ?_
            rotate_left
            · (intro W hS; obtain ⟨a0, a1, a2, a3, d0, d1, d2, d3⟩ := R9.all hS; clear hS; go_simp; try (with_reducible rfl))
            refine wpAnyH_take (i := 6) (v := ?_) rfl (by kernel_rfl) (by kernel_rfl) (by kernel_rfl) (fun _ _ _ h => h) (Or.inl ⟨by kernel_rfl, ?_⟩) C9 ?_
            rotate_left
            · (intro W hS; obtain ⟨a0, a1, a2, a3, d0, d1, d2, d3⟩ := R9.all hS; clear hS; go_simp; try (with_reducible rfl))
            refine wpAnyH_take (i := 7) (v := ?_) rfl (by kernel_rfl) (by kernel_rfl) (by kernel_rfl) (fun _ _ _ h => h) (Or.inl ⟨by kernel_rfl, ?_⟩) C9 ?_
            rotate_left
            · (intro W hS; obtain ⟨a0, a1, a2, a3, d0, d1, d2, d3⟩ := R9.all hS; clear hS; go_simp; try (with_reducible rfl))
            refine wpAnyH_take (i := 8) (v := ?_) rfl (by kernel_rfl) (by kernel_rfl) (by kernel_rfl) (fun _ _ _ h => h) (Or.inl ⟨by kernel_rfl, ?_⟩) C9 ?_
            rotate_left
            · (intro W hS; obtain ⟨a0, a1, a2, a3, d0, d1, d2, d3⟩ := R9.all hS; clear hS; go_simp; try (with_reducible rfl))
            refine wpAnyH_take (i := 9) (v := ?_) rfl (by kernel_rfl) (by kernel_rfl) (by kernel_rfl) (fun _ _ _ h => h) (Or.inl ⟨by kernel_rfl, ?_⟩) C9 ?_
            rotate_left
            · (intro W hS; obtain ⟨a0, a1, a2, a3, d0, d1, d2, d3⟩ := R9.all hS; clear hS; go_simp; try (with_reducible rfl))
            refine wpAnyH_take (i := 10) (v := ?_) rfl (by kernel_rfl) (by kernel_rfl) (by kernel_rfl) (fun _ _ _ h => h) (Or.inl ⟨by kernel_rfl, ?_⟩) C9 ?_
            rotate_left
            · (intro W hS; obtain ⟨a0, a1, a2, a3, d0, d1, d2, d3⟩ := R9.all hS; clear hS; go_simp; try (with_reducible rfl))
            refine wpAnyH_take (i := 11) (v := ?_) rfl (by kernel_rfl) (by kernel_rfl) (by kernel_rfl) (fun _ _ _ h => h) (Or.inl ⟨by kernel_rfl, ?_⟩) C9 ?_
            rotate_left
            · (intro W hS; obtain ⟨a0, a1, a2, a3, d0, d1, d2, d3⟩ := R9.all hS; clear hS; go_simp; try (with_reducible rfl))
            refine wpAnyH_take (i := 12) (v := ?_) rfl (by kernel_rfl) (by kernel_rfl) (by kernel_rfl) (fun _ _ _ h => h) (Or.inl ⟨by kernel_rfl, ?_⟩) C9 ?_
            rotate_left
            · (intro W hS; obtain ⟨a0, a1, a2, a3, d0, d1, d2, d3⟩ := R9.all hS; clear hS; go_simp; try (with_reducible rfl))
            refine wpAnyH_take (i := 13) (v := ?_) rfl (by kernel_rfl) (by kernel_rfl) (by kernel_rfl) (fun _ _ _ h => h) (Or.inl ⟨by kernel_rfl, ?_⟩) C9 ?_
            rotate_left
            · (intro W hS; obtain ⟨a0, a1, a2, a3, d0, d1, d2, d3⟩ := R9.all hS; clear hS; go_simp; try (with_reducible rfl))
            refine wpAnyH_take (i := 14) (v := ?_) rfl (by kernel_rfl) (by kernel_rfl) (by kernel_rfl) (fun _ _ _ h => h) (Or.inl ⟨by kernel_rfl, ?_⟩) C9 ?_
            rotate_left
            · (intro W hS; obtain ⟨a0, a1, a2, a3, d0, d1, d2, d3⟩ := R9.all hS; clear hS; go_simp; try (with_reducible rfl))
            refine wpAnyH_take (i := 15) (v := ?_) rfl (by kernel_rfl) (by kernel_rfl) (by kernel_rfl) (fun _ _ _ h => h) (Or.inl ⟨by kernel_rfl, ?_⟩) C9 ?_
            rotate_left
            · (intro W hS; obtain ⟨a0, a1, a2, a3, d0, d1, d2, d3⟩ := R9.all hS; clear hS; go_simp; try (with_reducible rfl))
            refine wpAnyH_take (i := 16) (v := ?_) rfl (by kernel_rfl) (by kernel_rfl) (by kernel_rfl) (fun _ _ _ h => h) (Or.inl ⟨by kernel_rfl, ?_⟩) C9 ?_
            rotate_left
            · (intro W hS; obtain ⟨a0, a1, a2, a3, d0, d1, d2, d3⟩ := R9.all hS; clear hS; go_simp; try (with_reducible rfl))
            refine wpAnyH_ready (rs := [17]) (by kernel_rfl) (by simp) ?_
            refine AllReadyH.cons rfl (fun K hK => ?_) AllReadyH.nil
            have hc := hB.2.1.cell p0 (by have := HY.out; (try simp only [List.length_set]); omega)
            have hfz := hB.2.1.frozen p0
            go_simp
            have C9' := C9.put ⟨w.heap.size + 1 + 1, p0, none⟩ (.int .u32 (V (qtr q).a)) (by have := HY2.out; show w.heap.size + 1 + 1 ≠ g; omega) (by have := HZ.out.1; show w.heap.size + 1 + 1 ≠ g6; omega)
            have hB' := hB.put p0 (qtr q).a
            refine hK.out _ _ C9' (fun _ => ?_)
            clear hK K hc hfz C9 hB
            obtain ⟨Wk0, hW⟩ : ∃ W, W = wk.setCell ⟨w.heap.size + 1 + 1, p0, none⟩ (.int .u32 (V (qtr q).a)) := ⟨_, rfl⟩
            rw [← hW] at C9' hB' ⊢
            have C9 := C9'
            have hB := hB'
            clear hW C9' hB'
            refine wpAnyH_take (i := 18) (v := ?_) rfl (by kernel_rfl) (by kernel_rfl) (by kernel_rfl) (fun _ _ _ h => h) (Or.inl ⟨by kernel_rfl, ?_⟩) C9 ?_
            rotate_left
            · (intro W hS; obtain ⟨a0, a1, a2, a3, d0, d1, d2, d3⟩ := R9.all hS; clear hS; go_simp; try (with_reducible rfl))
            refine wpAnyH_ready (rs := [19]) (by kernel_rfl) (by simp) ?_
            refine AllReadyH.cons rfl (fun K hK => ?_) AllReadyH.nil
            have hc := hB.2.1.cell p1 (by have := HY.out; (try simp only [List.length_set]); omega)
            have hfz := hB.2.1.frozen p1
            go_simp
            have C9' := C9.put ⟨w.heap.size + 1 + 1, p1, none⟩ (.int .u32 (V (qtr q).b)) (by have := HY2.out; show w.heap.size + 1 + 1 ≠ g; omega) (by have := HZ.out.1; show w.heap.size + 1 + 1 ≠ g6; omega)
            have hB' := hB.put p1 (qtr q).b
            refine hK.out _ _ C9' (fun _ => ?_)
            clear hK K hc hfz C9 hB
            obtain ⟨Wk1, hW⟩ : ∃ W, W = Wk0.setCell ⟨w.heap.size + 1 + 1, p1, none⟩ (.int .u32 (V (qtr q).b)) := ⟨_, rfl⟩
            rw [← hW] at C9' hB' ⊢
            have C9 := C9'
            have hB := hB'
            clear hW C9' hB'
            refine wpAnyH_take (i := 20) (v := ?_) rfl (by kernel_rfl) (by kernel_rfl) (by kernel_rfl) (fun _ _ _ h => h) (Or.inl ⟨by kernel_rfl, ?_⟩) C9 ?_
            rotate_left
            · (intro W hS; obtain ⟨a0, a1, a2, a3, d0, d1, d2, d3⟩ := R9.all hS; clear hS; go_simp; try (with_reducible rfl))
            refine wpAnyH_ready (rs := [21]) (by kernel_rfl) (by simp) ?_
            refine AllReadyH.cons rfl (fun K hK => ?_) AllReadyH.nil
            have hc := hB.2.1.cell p2 (by have := HY.out; (try simp only [List.length_set]); omega)
            have hfz := hB.2.1.frozen p2
            go_simp
            have C9' := C9.put ⟨w.heap.size + 1 + 1, p2, none⟩ (.int .u32 (V (qtr q).c)) (by have := HY2.out; show w.heap.size + 1 + 1 ≠ g; omega) (by have := HZ.out.1; show w.heap.size + 1 + 1 ≠ g6; omega)
            have hB' := hB.put p2 (qtr q).c
            refine hK.out _ _ C9' (fun _ => ?_)
            clear hK K hc hfz C9 hB
            obtain ⟨Wk2, hW⟩ : ∃ W, W = Wk1.setCell ⟨w.heap.size + 1 + 1, p2, none⟩ (.int .u32 (V (qtr q).c)) := ⟨_, rfl⟩
            rw [← hW] at C9' hB' ⊢
            have C9 := C9'
            have hB := hB'
            clear hW C9' hB'
            refine wpAnyH_take (i := 22) (v := ?_) rfl (by kernel_rfl) (by kernel_rfl) (by kernel_rfl) (fun _ _ _ h => h) (Or.inl ⟨by kernel_rfl, ?_⟩) C9 ?_
            rotate_left
            · (intro W hS; obtain ⟨a0, a1, a2, a3, d0, d1, d2, d3⟩ := R9.all hS; clear hS; go_simp; try (with_reducible rfl))
            refine wpAnyH_ready (rs := [23]) (by kernel_rfl) (by simp) ?_
            refine AllReadyH.cons rfl (fun K hK => ?_) AllReadyH.nil
            have hc := hB.2.1.cell p3 (by have := HY.out; (try simp only [List.length_set]); omega)
            have hfz := hB.2.1.frozen p3
            go_simp
            have C9' := C9.put ⟨w.heap.size + 1 + 1, p3, none⟩ (.int .u32 (V (qtr q).d)) (by have := HY2.out; show w.heap.size + 1 + 1 ≠ g; omega) (by have := HZ.out.1; show w.heap.size + 1 + 1 ≠ g6; omega)
            have hB' := hB.put p3 (qtr q).d
            refine hK.out _ _ C9' (fun _ => ?_)
            clear hK K hc hfz C9 hB
            obtain ⟨Wk3, hW⟩ : ∃ W, W = Wk2.setCell ⟨w.heap.size + 1 + 1, p3, none⟩ (.int .u32 (V (qtr q).d)) := ⟨_, rfl⟩
            rw [← hW] at C9' hB' ⊢
            have C9 := C9'
            have hB := hB'
            clear hW C9' hB'
            rw [HY.out.2.2.2.2.2, turnL_set l p0 p1 p2 p3 HR.out.2.2.2.2, ← HR.out.2.2.2.1] at hB
            refine wpAnyH_done (by kernel_rfl) ?_ _
            have H9 := Lib.hid hB
            clear hB C9
            go_wp2_with fail
            go_roundw
            case rel => exact ⟨i + 1, by omega, by go_num, H9.out⟩
            case measure => simp [intOf]; omega
          · go_simp
            have HG := Lib.hid (show w.heap.size + 1 + 1 < wh.heap.size ∧ g ≠ wh.heap.size from ⟨C.1.2.1.lt, by have := (Array.getElem?_eq_some_iff.1 C.2).1; omega⟩)
            have hz0 : (wh.alloc (.cells #[.int .u32 0, .int .u32 0, .int .u32 0, .int .u32 0] 172)).heap[wh.heap.size]? = some (.cells #[.int .u32 0, .int .u32 0, .int .u32 0, .int .u32 0] 172 (0, 0)) := heap_alloc_new _ _
            have C2 := C.call ((Below.refl _ _).alloc (Nat.le_refl _) (.cells #[.int .u32 0, .int .u32 0, .int .u32 0, .int .u32 0] 172))
            refine hK.out _ _ C2 (fun _ => ?_)
            clear hK K
            refine wpAnyH_ready (rs := [16]) (by kernel_rfl) (by simp) ?_
            refine AllReadyH.cons rfl (fun K hK => ?_) AllReadyH.nil
            go_simp
            refine (quarter_any q _).mono ?_
            rintro e W2 ⟨rfl, hb⟩
            have C := C2.call hb
            have hz1 : W2.heap[wh.heap.size]? = some (.cells #[.int .u32 0, .int .u32 0, .int .u32 0, .int .u32 0] 172 (0, 0)) := (hb.block _ (Array.getElem?_eq_some_iff.1 hz0).1).trans hz0
            refine hK.out _ _ C (fun _ => ?_)
            clear hK K hb hz0
            refine wpAnyH_ready (rs := [18]) (by kernel_rfl) (by simp) ?_
            refine AllReadyH.cons rfl (fun K hK => ?_) AllReadyH.nil
            have k0 : W2.cell? ⟨wh.heap.size, 0, none⟩ = some (.int .u32 0) := by rw [cell_of_row _ _ _ _ _ _ hz1]; rfl
            have k1 : W2.cell? ⟨wh.heap.size, 1, none⟩ = some (.int .u32 0) := by rw [cell_of_row _ _ _ _ _ _ hz1]; rfl
            have k2 : W2.cell? ⟨wh.heap.size, 2, none⟩ = some (.int .u32 0) := by rw [cell_of_row _ _ _ _ _ _ hz1]; rfl
            have k3 : W2.cell? ⟨wh.heap.size, 3, none⟩ = some (.int .u32 0) := by rw [cell_of_row _ _ _ _ _ _ hz1]; rfl
            have m0 : W2.frozen? ⟨wh.heap.size, 0, none⟩ = false := frozen_of_row _ _ _ _ _ hz1
            have m1 : W2.frozen? ⟨wh.heap.size, 1, none⟩ = false := frozen_of_row _ _ _ _ _ hz1
            have m2 : W2.frozen? ⟨wh.heap.size, 2, none⟩ = false := frozen_of_row _ _ _ _ _ hz1
            have m3 : W2.frozen? ⟨wh.heap.size, 3, none⟩ = false := frozen_of_row _ _ _ _ _ hz1
            unfold cells4
            go_simp
            have hg3 : w.heap.size + 1 + 1 < wh.heap.size := HG.out.1
            have hgg : g ≠ wh.heap.size := HG.out.2
            have C3 := (((C.other ⟨wh.heap.size, 0, none⟩ (.int .u32 (V (qtr q).a)) hg3 (fun e => hgg e.symm)).other ⟨wh.heap.size, 1, none⟩ (.int .u32 (V (qtr q).b)) hg3 (fun e => hgg e.symm)).other ⟨wh.heap.size, 2, none⟩ (.int .u32 (V (qtr q).c)) hg3 (fun e => hgg e.symm)).other ⟨wh.heap.size, 3, none⟩ (.int .u32 (V (qtr q).d)) hg3 (fun e => hgg e.symm)
            have hq3 := put4 (.int .u32 (V (qtr q).a)) (.int .u32 (V (qtr q).b)) (.int .u32 (V (qtr q).c)) (.int .u32 (V (qtr q).d)) hz1
            refine hK.out _ _ C3 (fun _ => ?_)
            clear hK K C C2 HG hz1 k0 k1 k2 k3 m0 m1 m2 m3
            refine wpAnyH_done (by kernel_rfl) ?_ _
            generalize World.setCell _ ⟨wh.heap.size, 3, none⟩ _ = W3 at *
            generalize wh.heap.size = g6 at *
            go_wp2_with fail
            have hB := C3.1
            have C9 : R9 g g6 p0 p1 p2 p3 (qtr q) W3.drew := ⟨C3.2, hq3⟩
            have hB : BkInv f l w W3.drew := ⟨hB.1, hB.2.1, hB.2.2.1, hB.2.2.2.drew⟩
            have HZ := Lib.hid (And.intro hg3 hgg)
            clear C3 hq3 hg3 hgg
            refine wp_region_held (S := R9 g g6 p0 p1 p2 p3 (qtr q)) (by kernel_rfl) ?_
            change wpAnyH _ _ _ _ _ _ _ _ (World.drew _)
            generalize World.drew _ = wk at *
            refine wpAnyH_take (i := 0) (v := ?_) rfl (by kernel_rfl) (by kernel_rfl) (by kernel_rfl) (fun _ _ _ h => h) (Or.inl ⟨by kernel_rfl, ?_⟩) C9 ?_
            rotate_left
            · (intro W hS; obtain ⟨a0, a1, a2, a3, d0, d1, d2, d3⟩ := R9.all hS; clear hS; go_simp; try (with_reducible rfl))
            refine wpAnyH_take (i := 1) (v := ?_) rfl (by kernel_rfl) (by kernel_rfl) (by kernel_rfl) (fun _ _ _ h => h) (Or.inl ⟨by kernel_rfl, ?_⟩) C9 ?_
            rotate_left
            · (intro W hS; obtain ⟨a0, a1, a2, a3, d0, d1, d2, d3⟩ := R9.all hS; clear hS; go_simp; try (with_reducible rfl))
            refine wpAnyH_take (i := 2) (v := ?_) rfl (by kernel_rfl) (by kernel_rfl) (by kernel_rfl) (fun _ _ _ h => h) (Or.inl ⟨by kernel_rfl, ?_⟩) C9 ?_
            rotate_left
            · (intro W hS; obtain ⟨a0, a1, a2, a3, d0, d1, d2, d3⟩ := R9.all hS; clear hS; go_simp; try (with_reducible rfl))
            refine wpAnyH_take (i := 3) (v := ?_) rfl (by kernel_rfl) (by kernel_rfl) (by kernel_rfl) (fun _ _ _ h => h) (Or.inl ⟨by kernel_rfl, ?_⟩) C9 ?_
            rotate_left
            · (intro W hS; obtain ⟨a0, a1, a2, a3, d0, d1, d2, d3⟩ := R9.all hS; clear hS; go_simp; try (with_reducible rfl))
            refine wpAnyH_take (i := 4) (v := ?_) rfl (by kernel_rfl) (by kernel_rfl) (by kernel_rfl) (fun _ _ _ h => h) (Or.inl ⟨by kernel_rfl, ?_⟩) C9 ?_
            rotate_left
            · (intro W hS; obtain ⟨a0, a1, a2, a3, d0, d1, d2, d3⟩ := R9.all hS; clear hS; go_simp; try (with_reducible rfl))
            refine wpAnyH_take (i := 5) (v := ?_) rfl (by kernel_rfl) (by kernel_rfl) (by kernel_rfl) (fun _ _ _ h => h) (Or.inl ⟨by kernel_rfl, ?_⟩) C9 ?_
            rotate_left
            · (intro W hS; obtain ⟨a0, a1, a2, a3, d0, d1, d2, d3⟩ := R9.all hS; clear hS; go_simp; try (with_reducible rfl))
            refine wpAnyH_take (i := 6) (v := ?_) rfl (by kernel_rfl) (by kernel_rfl) (by kernel_rfl) (fun _ _ _ h => h) (Or.inl ⟨by kernel_rfl, ?_⟩) C9 ?_
            rotate_left
            · (intro W hS; obtain ⟨a0, a1, a2, a3, d0, d1, d2, d3⟩ := R9.all hS; clear hS; go_simp; try (with_reducible rfl))
            refine wpAnyH_take (i := 7) (v := ?_) rfl (by kernel_rfl) (by kernel_rfl) (by kernel_rfl) (fun _ _ _ h => h) (Or.inl ⟨by kernel_rfl, ?_⟩) C9 ?_
            rotate_left
            · (intro W hS; obtain ⟨a0, a1, a2, a3, d0, d1, d2, d3⟩ := R9.all hS; clear hS; go_simp; try (with_reducible rfl))
            refine wpAnyH_take (i := 8) (v := ?_) rfl (by kernel_rfl) (by kernel_rfl) (by kernel_rfl) (fun _ _ _ h => h) (Or.inl ⟨by kernel_rfl, ?_⟩) C9 ?_
            rotate_left
            · (intro W hS; obtain ⟨a0, a1, a2, a3, d0, d1, d2, d3⟩ := R9.all hS; clear hS; go_simp; try (with_reducible rfl))
            refine wpAnyH_take (i := 9) (v := ?_) rfl (by kernel_rfl) (by kernel_rfl) (by kernel_rfl) (fun _ _ _ h => h) (Or.inl ⟨by kernel_rfl, ?_⟩) C9 ?_
            rotate_left
            · (intro W hS; obtain ⟨a0, a1, a2, a3, d0, d1, d2, d3⟩ := R9.all hS; clear hS; go_simp; try (with_reducible rfl))
            refine wpAnyH_take (i := 10) (v := ?_) rfl (by kernel_rfl) (by kernel_rfl) (by kernel_rfl) (fun _ _ _ h => h) (Or.inl ⟨by kernel_rfl, ?_⟩) C9 ?_
            rotate_left
            · (intro W hS; obtain ⟨a0, a1, a2, a3, d0, d1, d2, d3⟩ := R9.all hS; clear hS; go_simp; try (with_reducible rfl))
            refine wpAnyH_take (i := 11) (v := ?_) rfl (by kernel_rfl) (by kernel_rfl) (by kernel_rfl) (fun _ _ _ h => h) (Or.inl ⟨by kernel_rfl, ?_⟩) C9 ?_
            rotate_left
            · (intro W hS; obtain ⟨a0, a1, a2, a3, d0, d1, d2, d3⟩ := R9.all hS; clear hS; go_simp; try (with_reducible rfl))
            refine wpAnyH_take (i := 12) (v := ?_) rfl (by kernel_rfl) (by kernel_rfl) (by kernel_rfl) (fun _ _ _ h => h) (Or.inl ⟨by kernel_rfl, ?_⟩) C9 ?_
            rotate_left
            · (intro W hS; obtain ⟨a0, a1, a2, a3, d0, d1, d2, d3⟩ := R9.all hS; clear hS; go_simp; try (with_reducible rfl))
            refine wpAnyH_take (i := 13) (v := ?_) rfl (by kernel_rfl) (by kernel_rfl) (by kernel_rfl) (fun _ _ _ h => h) (Or.inl ⟨by kernel_rfl, ?_⟩) C9 ?_
            rotate_left
            · (intro W hS; obtain ⟨a0, a1, a2, a3, d0, d1, d2, d3⟩ := R9.all hS; clear hS; go_simp; try (with_reducible rfl))
            refine wpAnyH_take (i := 14) (v := ?_) rfl (by kernel_rfl) (by kernel_rfl) (by kernel_rfl) (fun _ _ _ h => h) (Or.inl ⟨by kernel_rfl, ?_⟩) C9 ?_
            rotate_left
            · (intro W hS; obtain ⟨a0, a1, a2, a3, d0, d1, d2, d3⟩ := R9.all hS; clear hS; go_simp; try (with_reducible rfl))
            refine wpAnyH_take (i := 15) (v := ?_) rfl (by kernel_rfl) (by kernel_rfl) (by kernel_rfl) (fun _ _ _ h => h) (Or.inl ⟨by kernel_rfl, ?_⟩) C9 ?_
            rotate_left
            · (intro W hS; obtain ⟨a0, a1, a2, a3, d0, d1, d2, d3⟩ := R9.all hS; clear hS; go_simp; try (with_reducible rfl))
            refine wpAnyH_take (i := 16) (v := ?_) rfl (by kernel_rfl) (by kernel_rfl) (by kernel_rfl) (fun _ _ _ h => h) (Or.inl ⟨by kernel_rfl, ?_⟩) C9 ?_
            rotate_left
            · (intro W hS; obtain ⟨a0, a1, a2, a3, d0, d1, d2, d3⟩ := R9.all hS; clear hS; go_simp; try (with_reducible rfl))
            refine wpAnyH_ready (rs := [17]) (by kernel_rfl) (by simp) ?_
            refine AllReadyH.cons rfl (fun K hK => ?_) AllReadyH.nil
            have hc := hB.2.1.cell p0 (by have := HY.out; (try simp only [List.length_set]); omega)
            have hfz := hB.2.1.frozen p0
            go_simp
            have C9' := C9.put ⟨w.heap.size + 1 + 1, p0, none⟩ (.int .u32 (V (qtr q).a)) (by have := HY2.out; show w.heap.size + 1 + 1 ≠ g; omega) (by have := HZ.out.1; show w.heap.size + 1 + 1 ≠ g6; omega)
            have hB' := hB.put p0 (qtr q).a
            refine hK.out _ _ C9' (fun _ => ?_)
            clear hK K hc hfz C9 hB
            obtain ⟨Wk0, hW⟩ : ∃ W, W = wk.setCell ⟨w.heap.size + 1 + 1, p0, none⟩ (.int .u32 (V (qtr q).a)) := ⟨_, rfl⟩
            rw [← hW] at C9' hB' ⊢
            have C9 := C9'
            have hB := hB'
            clear hW C9' hB'
            refine wpAnyH_take (i := 18) (v := ?_) rfl (by kernel_rfl) (by kernel_rfl) (by kernel_rfl) (fun _ _ _ h => h) (Or.inl ⟨by kernel_rfl, ?_⟩) C9 ?_
            rotate_left
            · (intro W hS; obtain ⟨a0, a1, a2, a3, d0, d1, d2, d3⟩ := R9.all hS; clear hS; go_simp; try (with_reducible rfl))
            refine wpAnyH_ready (rs := [19]) (by kernel_rfl) (by simp) ?_
            refine AllReadyH.cons rfl (fun K hK => ?_) AllReadyH.nil
            have hc := hB.2.1.cell p1 (by have := HY.out; (try simp only [List.length_set]); omega)
            have hfz := hB.2.1.frozen p1
            go_simp
            have C9' := C9.put ⟨w.heap.size + 1 + 1, p1, none⟩ (.int .u32 (V (qtr q).b)) (by have := HY2.out; show w.heap.size + 1 + 1 ≠ g; omega) (by have := HZ.out.1; show w.heap.size + 1 + 1 ≠ g6; omega)
            have hB' := hB.put p1 (qtr q).b
            refine hK.out _ _ C9' (fun _ => ?_)
            clear hK K hc hfz C9 hB
            obtain ⟨Wk1, hW⟩ : ∃ W, W = Wk0.setCell ⟨w.heap.size + 1 + 1, p1, none⟩ (.int .u32 (V (qtr q).b)) := ⟨_, rfl⟩
            rw [← hW] at C9' hB' ⊢
            have C9 := C9'
            have hB := hB'
            clear hW C9' hB'
            refine wpAnyH_take (i := 20) (v := ?_) rfl (by kernel_rfl) (by kernel_rfl) (by kernel_rfl) (fun _ _ _ h => h) (Or.inl ⟨by kernel_rfl, ?_⟩) C9 ?_
            rotate_left
            · (intro W hS; obtain ⟨a0, a1, a2, a3, d0, d1, d2, d3⟩ := R9.all hS; clear hS; go_simp; try (with_reducible rfl))
            refine wpAnyH_ready (rs := [21]) (by kernel_rfl) (by simp) ?_
            refine AllReadyH.cons rfl (fun K hK => ?_) AllReadyH.nil
            have hc := hB.2.1.cell p2 (by have := HY.out; (try simp only [List.length_set]); omega)
            have hfz := hB.2.1.frozen p2
            go_simp
            have C9' := C9.put ⟨w.heap.size + 1 + 1, p2, none⟩ (.int .u32 (V (qtr q).c)) (by have := HY2.out; show w.heap.size + 1 + 1 ≠ g; omega) (by have := HZ.out.1; show w.heap.size + 1 + 1 ≠ g6; omega)
            have hB' := hB.put p2 (qtr q).c
            refine hK.out _ _ C9' (fun _ => ?_)
            clear hK K hc hfz C9 hB
            obtain ⟨Wk2, hW⟩ : ∃ W, W = Wk1.setCell ⟨w.heap.size + 1 + 1, p2, none⟩ (.int .u32 (V (qtr q).c)) := ⟨_, rfl⟩
            rw [← hW] at C9' hB' ⊢
            have C9 := C9'
            have hB := hB'
            clear hW C9' hB'
            refine wpAnyH_take (i := 22) (v := ?_) rfl (by kernel_rfl) (by kernel_rfl) (by kernel_rfl) (fun _ _ _ h => h) (Or.inl ⟨by kernel_rfl, ?_⟩) C9 ?_
            rotate_left
            · (intro W hS; obtain ⟨a0, a1, a2, a3, d0, d1, d2, d3⟩ := R9.all hS; clear hS; go_simp; try (with_reducible rfl))
            refine wpAnyH_ready (rs := [23]) (by kernel_rfl) (by simp) ?_
            refine AllReadyH.cons rfl (fun K hK => ?_) AllReadyH.nil
            have hc := hB.2.1.cell p3 (by have := HY.out; (try simp only [List.length_set]); omega)
            have hfz := hB.2.1.frozen p3
            go_simp
            have C9' := C9.put ⟨w.heap.size + 1 + 1, p3, none⟩ (.int .u32 (V (qtr q).d)) (by have := HY2.out; show w.heap.size + 1 + 1 ≠ g; omega) (by have := HZ.out.1; show w.heap.size + 1 + 1 ≠ g6; omega)
            have hB' := hB.put p3 (qtr q).d
            refine hK.out _ _ C9' (fun _ => ?_)
            clear hK K hc hfz C9 hB
            obtain ⟨Wk3, hW⟩ : ∃ W, W = Wk2.setCell ⟨w.heap.size + 1 + 1, p3, none⟩ (.int .u32 (V (qtr q).d)) := ⟨_, rfl⟩
            rw [← hW] at C9' hB' ⊢
            have C9 := C9'
            have hB := hB'
            clear hW C9' hB'
            rw [HY.out.2.2.2.2.2, turnL_set l p0 p1 p2 p3 HR.out.2.2.2.2, ← HR.out.2.2.2.1] at hB
            refine wpAnyH_done (by kernel_rfl) ?_ _
            have H9 := Lib.hid hB
            clear hB C9
            go_wp2_with fail
            go_roundw
            case rel => exact ⟨i + 1, by omega, by go_num, H9.out⟩
            case measure => simp [intOf]; omega
        · obtain rfl : i = 8 := by omega
          have HB := Lib.hid hI
          clear hI
          go_wp2_with fail
          go_roundw
          case rel => exact ⟨n + 1, by omega, by go_num, HB.out⟩
          case measure => simp [intOf]; omega
    · obtain rfl : n = 10 := by omega
      obtain ⟨r, hr⟩ : ∃ r, r = rndsN f 10 := ⟨_, rfl⟩
      have hrl : r.length = 16 := by rw [hr, rndsN_length, HI.out.2.1]
      rw [← hr] at hI
      obtain ⟨g, hg⟩ : ∃ g, g = wr.heap.size := ⟨_, rfl⟩
      have hg2 : w.heap.size + 1 + 1 < g := by rw [hg]; exact hI.2.1.lt
      have hI2 := hI.call ((Below.refl _ _).alloc (Nat.le_refl _) (.cells qzero64 84))
      have hr2 : (wr.alloc (.cells qzero64 84)).heap[g]? = some (.cells (qbArr (blockTo f 0)) 84 (0, 0)) := by rw [← zero64_to, hg]; exact heap_alloc_new _ _
      have HJ := Lib.hid (And.intro hI2 (And.intro hr2 (And.intro hr (And.intro hrl hg2))))
      clear hI hI2 hr2 hr hrl hg2
      go_wp2_with fail
      rw [← hg]
      clear hg
      generalize World.alloc _ _ = w4 at *
      go_loopw [8, 9, 58] (fun _ _ c wr => ∃ k : Nat, k ≤ 64 ∧ c = .int .i64 k ∧ BkInv f r w wr ∧ wr.heap[g]? = some (.cells (qbArr (blockTo f k)) 84 (0, 0))) (fun _ _ c _ => 64 - (intOf c).toNat)
      case atStart => exact ⟨0, by omega, rfl, HJ.out.1, HJ.out.2.1⟩
      case round =>
        obtain ⟨k, hk, rfl, hI, hrow⟩ := hrel
        by_cases hlk : k < 64
        · obtain ⟨j, hj⟩ : ∃ j, j = k / 4 := ⟨_, rfl⟩
          obtain ⟨m, hm⟩ : ∃ m, m = k % 4 := ⟨_, rfl⟩
          have e1 : (k : Int).tdiv 4 = (j : Int) := by rw [hj]; rw [Int.tdiv_eq_ediv_of_nonneg (by omega)]; omega
          have e2 : (k : Int) / 4 = (j : Int) := by omega
          have e3 : (k : Int).tmod 4 = (m : Int) := by rw [hm]; exact Int.tmod_eq_emod_of_nonneg (by omega)
          have e4 : (k : Int) % 4 = (m : Int) := by omega
          have j16 : (j : Int) < 16 := by omega
          have m4 : (m : Int) < 4 := by omega
          have c1 := hI.2.1.cell j (by rw [HJ.out.2.2.2.1]; omega)
          have c2 := hI.1.cell j (by rw [HI.out.2.1]; omega)
          obtain ⟨x, hx⟩ : ∃ x, x = blockW f j := ⟨_, rfl⟩
          have hxs : r.getD j 0 + f.getD j 0 = x := by rw [hx, blockW, HJ.out.2.2.1]
          generalize r.getD j 0 = x1 at *
          generalize f.getD j 0 = x2 at *
          obtain ⟨y, hy⟩ : ∃ y, y = wByte x (m * 8) := ⟨_, rfl⟩
          have hyn := wByte_num x (m * 8)
          rw [← hy] at hyn
          have hnext : (blockTo f k).set k y = blockTo f (k + 1) := by rw [hy, hx, hj, hm]; exact blockTo_step f k
          have hck : wr.cell? ⟨g, k, none⟩ = some (.int .u8 (((blockTo f k).getD k 0).toNat : Int)) := by rw [cell_of_row _ _ _ _ _ _ hrow, qbArr_get _ _ (by rw [blockTo_length]; exact hlk)]
          have hfk : wr.frozen? ⟨g, k, none⟩ = false := frozen_of_row _ _ _ _ _ hrow
          generalize ((blockTo f k).getD k 0).toNat = old at hck
          have H := Lib.hid (And.intro hI (And.intro hrow hnext))
          have k64 : (k : Int) < 64 := by omega
          clear hI hrow hnext hy hx hj hm
          go_wp2_with fail
          go_quiet (fail)
          go_wp2_with fail
          go_roundw
          case rel =>
            refine ⟨k + 1, by omega, by go_num, BkInv.other (BkInv.drewN H.out.1 _) _ _ HJ.out.2.2.2.2, ?_⟩
            rw [← H.out.2.2, ← bArr_set]
            exact heap_setCell_same _ _ _ _ _ _ H.out.2.1
          case measure => simp [intOf]; omega
        · obtain rfl : k = 64 := by omega
          obtain ⟨R, hR⟩ : ∃ R, R = blockTo f 64 := ⟨_, rfl⟩
          have hRs : (qbArr R).size = 64 := by rw [qbArr_size, hR, blockTo_length]
          have hzs : qzero64.size = 64 := by rw [zero64_to f, qbArr_size, blockTo_length]
          rw [← hR] at hrow
          have HF := Lib.hid (And.intro hrow (And.intro hI.2.2.1 (And.intro hI.2.2.2 (And.intro hRs hzs))))
          have HR0 := Lib.hid hR
          clear hI hrow hRs hzs hR
          go_wp2_with (first
            | (refine wpList_load_row rfl 84 _ rfl g rfl 84 (qbArr R) (0, 0) _ HF.out.1 Tryd.underlying84 rfl (by rw [HF.out.2.2.2.1]; kernel_rfl) ?_)
            | (refine wpList_store_row rfl 84 _ _ rfl (w.heap.size + 1) rfl 84 qzero64 (qbArr R) rfl HF.out.2.1 (by rw [HF.out.2.2.2.1]; kernel_rfl) (by rw [HF.out.2.2.2.1, HF.out.2.2.2.2]) (qbArr_oneCell R) ?_))
          refine bodyPost_ret (results_cell_row rfl _ _ (w.heap.size + 1) 84 (qbArr R) (0, 0) _ rfl (setRow_heap _ _ _ _ _ _ HF.out.2.1) Tryd.underlying84 rfl (by rw [HF.out.2.2.2.1]; kernel_rfl)) rfl ⟨by rw [HR0.out]; rfl, ?_⟩
          exact below_setRow HF.out.2.2.1 _ _ (by omega)
end Go.Proofs.YtgoimggfpagojaaDoor
