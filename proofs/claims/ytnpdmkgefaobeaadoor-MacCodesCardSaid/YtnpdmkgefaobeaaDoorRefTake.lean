/- lockboxref01.Take: a block taken in, by definition. -/
import Derived.Test.YtnpdmkgefaobeaaDoorMem
import Derived.Test.YtnpdmkgefaobeaaDoorPad
import Derived.Test.YtnpdmkgefaobeaaDoorRefWord
import Derived.Test.YtnpdmkgefaobeaaDoorAppend
import Derived.Test.YtnpdmkgefaobeaaDoorRefKeys
import Derived.StillTailTactics
import Derived.Deep.QuietTactic
import Derived.BigQuiet
import Derived.Deep.RegionHeld3
import Derived.Deep.RegionWith
import Derived.Deep.RegionLaw
import Derived.Deep.AppendLies
import Derived.Deep.DeepMust
namespace Go.Proofs.YtnpdmkgefaobeaaDoor
open Go.RowKit

theorem V_lmul24 (x : BitVec 32) : ((16777216 : Int) * V x) % (4294967296 : Int) = V (x <<< 24) := by rw [Int.mul_comm]; exact V_mul24 x
theorem V_lmul16 (x : BitVec 32) : ((65536 : Int) * V x) % (4294967296 : Int) = V (x <<< 16) := by rw [Int.mul_comm]; exact V_mul16 x
theorem V_lmul8 (x : BitVec 32) : ((256 : Int) * V x) % (4294967296 : Int) = V (x <<< 8) := by rw [Int.mul_comm]; exact V_mul8 x
theorem V_lmul24' (x : BitVec 32) : IntKind.u32.wrap ((16777216 : Int) * V x) = V (x <<< 24) := by rw [IntKind.wrap_u32', V_lmul24]
theorem V_lmul16' (x : BitVec 32) : IntKind.u32.wrap ((65536 : Int) * V x) = V (x <<< 16) := by rw [IntKind.wrap_u32', V_lmul16]
theorem V_lmul8' (x : BitVec 32) : IntKind.u32.wrap ((256 : Int) * V x) = V (x <<< 8) := by rw [IntKind.wrap_u32', V_lmul8]
theorem V_lnot (x : BitVec 32) : ((4294967295 : Int) - V x) % (4294967296 : Int) = V (~~~x) := by
  unfold V; rw [BitVec.toNat_not]; have := x.isLt; omega
attribute [local go_sem] V_add V_add' V_xor V_and V_or V_not V_not' V_shr V_div8 V_div1024 V_shl V_shl' V_byte V_byte' V_lmul24 V_lmul16 V_lmul8 V_lmul24' V_lmul16' V_lmul8' V_lnot

theorem Tryd.info30 : (Tryd.prog.info? 42).map (fun i => (i.zero, i.size, i.bytes)) = some (some (.int .u32 0), 1, 4) := by kernel_rfl
/-- Words as cells. -/
def wcells (l : List (BitVec 32)) : List Value := l.map fun x => Value.int .u32 (V x)

/-- A byte of a text. -/
theorem str_index (x : ByteArray) (k : Nat) (hk : k < x.size) (W : World) : (Instr.index 9 (.string x) (.int .i64 k)).run Tryd.prog W = .ok (.int .u8 ((x.data.toList.getD k 0).toNat : Int)) W := by
  rw [run_index_string W 9 x .i64 k Tryd.underlying9, dif_pos ⟨by omega, by omega⟩]
  have hk' : k < x.data.toList.length := hk
  have e : x[(k : Int).toNat]'(by omega) = x.data.toList.getD k 0 := by
    rw [List.getD_eq_getElem?_getD, List.getElem?_eq_getElem hk']
    rfl
  rw [e]
theorem wget (m : Nat → BitVec 32) (t j : Nat) (hj : j < t) : (wcells (sched m t))[j]? = some (.int .u32 (V (ww m j))) := by
  have hl : j < (sched m t).length := by rw [sched_length]; exact hj
  rw [wcells, List.getElem?_map, List.getElem?_eq_getElem hl, ← sched_get m t j hj, List.getD_eq_getElem?_getD, List.getElem?_eq_getElem hl]
  rfl
theorem wcell {w wr : World} {m : Nat → BitVec 32} {gg cap t j : Nat} (hown : wr.ownsRow w.heap.size 42 1 (.slice (some ⟨gg, 0, none⟩) t cap) t (wcells (sched m t))) (hj : j < t) : wr.cell? ⟨gg, j, none⟩ = some (.int .u32 (V (ww m j))) := by
  have h := hown.cells (g := gg) rfl j (.int .u32 (V (ww m j))) (by
    have hl : j < (sched m t).length := by rw [sched_length]; exact hj
    rw [wcells, List.getElem?_map, List.getElem?_eq_getElem hl, ← sched_get m t j hj, List.getD_eq_getElem?_getD, List.getElem?_eq_getElem hl]
    rfl)
  rwa [Addr.add_mid, Nat.zero_add] at h
theorem wcells_own (m : Nat → BitVec 32) (t : Nat) (h : t < 16) : wcells (sched m (t + 1)) = wcells (sched m t) ++ [.int .u32 (V (m t))] := by
  rw [sched, if_pos h, wcells, List.map_append]; rfl
theorem cellA {w : World} {a : Addr} {v : Value} {o : Obj} (h : w.cell? a = some v) : ((w.alloc o).drew).cell? a = some v := by
  show (w.alloc o).cell? a = some v
  rw [World.cell?_alloc_lt _ _ _ (World.block_lt_of_cell? w _ h)]; exact h
theorem wcells_ww (m : Nat → BitVec 32) (t : Nat) (h : ¬ t < 16) : wcells (sched m (t + 1)) = wcells (sched m t) ++ [.int .u32 (V (ww m t))] := by
  have e : ww m t = nextWord (sched m t) := by rw [ww, sched, if_neg h, getD_end _ _ _ _ (sched_length m t)]
  rw [e, sched, if_neg h, wcells, List.map_append]; rfl
/-- What holds of memory behind the first loop. -/
structure TakeMid (m : Nat → BitVec 32) (st : St) (sb so : Nat) (w wo w2 : World) (gg : Nat) : Prop where
  below : Below w.heap.size w w2
  wcell : ∀ j, j < 64 → w2.cell? ⟨gg, j, none⟩ = some (.int .u32 (V (ww m j)))
  kcell : ∀ j, j < 64 → w2.cell? ⟨wo.heap.size, j, none⟩ = some (.int .u32 (V (kk j)))
  scell : ∀ i, i < 8 → w2.cell? ⟨sb, so + i, none⟩ = some (.int .u32 (V (st.get i)))
theorem TakeMid.start {m : Nat → BitVec 32} {st : St} {sb so : Nat} {w wo w2 : World} {gg : Nat} (hb : Below w.heap.size w wo) (hgl : gg < wo.heap.size) (hc : ∀ j, j < 64 → wo.cell? ⟨gg, j, none⟩ = some (.int .u32 (V (ww m j))))
    (hs : ∀ i, i < 8 → w.cell? ⟨sb, so + i, none⟩ = some (.int .u32 (V (st.get i)))) (hw2 : w2 = wo.alloc (.cells (numCells kList) 42)) : TakeMid m st sb so w wo w2 gg := by
  subst hw2
  have hsb := World.block_lt_of_cell? w _ (hs 0 (by omega))
  refine ⟨hb.alloc hb.size _, fun j hj => ?_, fun j hj => ?_, fun i hi => ?_⟩
  · rw [World.cell?_alloc_lt _ _ _ hgl]; exact hc j hj
  · rw [cell_of_row _ _ _ _ _ _ (heap_alloc_new wo _)]
    exact numCells_get (by decide) j hj
  · rw [World.cell?_alloc_lt _ _ _ (show sb < wo.heap.size from Nat.lt_of_lt_of_le hsb hb.size)]
    exact (hb.cell (p := ⟨sb, so + i, none⟩) hsb).trans (hs i hi)
/-- What holds of memory at the head of a round of the second loop. -/
structure LInv (w2 wr : World) (gl : Nat) (q : St) : Prop where
  row : wr.heap[gl]? = some (.cells (cells8 q) 42 (0, 0))
  below : Below w2.heap.size w2 wr
  base : w2.heap.size ≤ gl
theorem LInv.start (w2 : World) (st : St) : LInv w2 ((w2.alloc (.cells (cells8 st) 42)).drew) w2.heap.size st :=
  ⟨heap_alloc_new w2 _, ((Below.refl _ _).alloc (Nat.le_refl _) _).drew, Nat.le_refl _⟩
theorem LInv.drewN {w2 wr : World} {gl : Nat} {q : St} (h : LInv w2 wr gl q) (n : Nat) : LInv w2 (wr.drewN n) gl q := ⟨h.row, below_drewN h.below n, h.base⟩
theorem LInv.cell {w2 wr : World} {gl : Nat} {q : St} (h : LInv w2 wr gl q) (i : Nat) (hi : i < 8) : wr.cell? ⟨gl, i, none⟩ = some (.int .u32 (V (q.get i))) := by
  rw [cell_of_row _ _ _ _ _ _ h.row, cells8_get q i hi]
theorem LInv.old {w2 wr : World} {gl : Nat} {q : St} (h : LInv w2 wr gl q) {a : Addr} {v : Value} (ha : w2.cell? a = some v) : wr.cell? a = some v :=
  (h.below.cell (World.block_lt_of_cell? w2 _ ha)).trans ha
theorem LInv.next {w2 wr W : World} {gl : Nat} {q q' : St} {kt xt : BitVec 32} (h : LInv w2 wr gl q) {c : Array Value} (hq : q' = step q kt xt) (hc : c = cells8 (step q kt xt)) (hW : W = (wr.alloc (.cells c 42)).drew := by rfl) : LInv w2 W wr.heap.size q' := by
  subst hW hc hq
  exact ⟨heap_alloc_new wr _, (h.below.alloc h.below.size _).drew, h.below.size⟩
theorem rright_still (x : BitVec 32) (n : Int) (h0 : 1 ≤ n) (h1 : n ≤ 31) (w : World) :
    Calls Tryd.prog 46 #[.int .u32 (V x), .int .u64 n] w fun e w' => e = .returned (.int .u32 (V (ror x n.toNat))) ∧ w' = w :=
  (rright_any x n h0 h1 w).mono fun _ _ ⟨h, k⟩ => ⟨h, k.symm⟩
theorem V_lnot' (x : BitVec 32) : IntKind.u32.wrap ((4294967295 : Int) - V x) = V (~~~x) := by rw [IntKind.wrap_u32', V_lnot]
attribute [local go_sem] V_lnot'
theorem LInv.lt {w2 wr : World} {gl : Nat} {q : St} (h : LInv w2 wr gl q) : gl < wr.heap.size := World.block_lt_of_cell? wr _ (h.cell 0 (by omega))
def sumCells (st q : St) (n : Nat) : List Value := (List.range n).map fun j => Value.int .u32 (V (st.get j + q.get j))
theorem sumCells_succ (st q : St) (n : Nat) : sumCells st q (n + 1) = sumCells st q n ++ [.int .u32 (V (st.get n + q.get n))] := by
  rw [sumCells, List.range_succ, List.map_append]; rfl
theorem sumCells_get (st q : St) (n j : Nat) (hj : j < n) : (sumCells st q n)[j]? = some (.int .u32 (V ((st.add q).get j))) := by
  simp [sumCells, hj, St.get_add]
theorem wcells_next (m : Nat → BitVec 32) (t : Nat) (h : ¬ t < 16) : wcells (sched m (t + 1)) = wcells (sched m t) ++ [.int .u32 (V (nextWord (sched m t)))] := by
  rw [sched, if_neg h, wcells, List.map_append]; rfl

set_option maxRecDepth 100000 in
set_option maxHeartbeats 8000000 in
theorem rtake_any (st : St) (sb so scap : Nat) (x : ByteArray) (hx : x.size = 64) (w : World)
    (hs : ∀ i, i < 8 → w.cell? ⟨sb, so + i, none⟩ = some (.int .u32 (V (st.get i)))) :
    Calls Tryd.prog 40 #[.slice (some ⟨sb, so, none⟩) 8 scap, .string x] w fun e w' => ∃ g cap, e = .returned (.slice (some ⟨g, 0, none⟩) 8 cap) ∧
      (∀ i, i < 8 → w'.cell? ⟨g, i, none⟩ = some (.int .u32 (V ((take st (wordOf fun j => x.data.toList.getD j 0)).get i)))) ∧ Below w.heap.size w w' := by
  obtain ⟨m, hm⟩ : ∃ m, m = wordOf fun j => x.data.toList.getD j 0 := ⟨_, rfl⟩
  rw [← hm]
  obtain ⟨i0, hi0, hz0, hz1, hz2⟩ := info_parts Tryd.info30
  go_enter Tryd.func40, Tryd.ntmps40
  go_wp2
  go_loopw [5, 6] (fun v c wr => ∃ t : Nat, t ≤ 64 ∧ c = .int .i64 t ∧ wr.ownsRow w.heap.size 42 1 v t (wcells (sched m t)) ∧ Below w.heap.size w wr) (fun _ c _ => 64 - (intOf c).toNat)
  case atStart => exact ⟨0, by omega, rfl, World.ownsRow_nil _ _ _ _, Below.refl _ _⟩
  case round =>
    obtain ⟨t, ht, rfl, hown, hb⟩ := hrel
    by_cases hlt : t < 64
    · by_cases h16 : t < 16
      · obtain ⟨k0, h0⟩ : ∃ k, k = 4 * t := ⟨_, rfl⟩
        have hidx : ∀ (k : Nat) (_ : k < 64) (W : World), (Instr.index 9 (.string x) (.int .i64 k)).run Tryd.prog W = .ok (.int .u8 ((x.data.toList.getD k 0).toNat : Int)) W := fun k hk W => str_index x k (by omega) W
        have i0' := hidx k0 (by omega)
        have i1' := hidx (k0 + 1) (by omega)
        have i2' := hidx (k0 + 2) (by omega)
        have i3' := hidx (k0 + 3) (by omega)
        have e0 : IntKind.i64.wrap (4 * (t : Int)) = (k0 : Int) := by rw [IntWalk.i64_in _ (by omega)]; omega
        have e1 : IntKind.i64.wrap ((k0 : Int) + 1) = ((k0 + 1 : Nat) : Int) := by rw [IntWalk.i64_in _ (by omega)]; omega
        have e2 : IntKind.i64.wrap ((k0 : Int) + 2) = ((k0 + 2 : Nat) : Int) := by rw [IntWalk.i64_in _ (by omega)]; omega
        have e3 : IntKind.i64.wrap ((k0 : Int) + 3) = ((k0 + 3 : Nat) : Int) := by rw [IntWalk.i64_in _ (by omega)]; omega
        obtain ⟨k1, h1⟩ : ∃ k, k = k0 + 1 := ⟨_, rfl⟩
        obtain ⟨k2, h2⟩ : ∃ k, k = k0 + 2 := ⟨_, rfl⟩
        obtain ⟨k3, h3⟩ : ∃ k, k = k0 + 3 := ⟨_, rfl⟩
        rw [← h1] at e1 i1'
        rw [← h2] at e2 i2'
        rw [← h3] at e3 i3'
        obtain ⟨y0, g0⟩ : ∃ y, y = x.data.toList.getD k0 0 := ⟨_, rfl⟩
        obtain ⟨y1, g1⟩ : ∃ y, y = x.data.toList.getD k1 0 := ⟨_, rfl⟩
        obtain ⟨y2, g2⟩ : ∃ y, y = x.data.toList.getD k2 0 := ⟨_, rfl⟩
        obtain ⟨y3, g3⟩ : ∃ y, y = x.data.toList.getD k3 0 := ⟨_, rfl⟩
        simp only [← g0] at i0'
        simp only [← g1] at i1'
        simp only [← g2] at i2'
        simp only [← g3] at i3'
        have HW : Hid (w8 y0 <<< 24 + w8 y1 <<< 16 + w8 y2 <<< 8 + w8 y3 = m t) := by
          show _ = _
          rw [word_sum, hm, g0, g1, g2, g3, h1, h2, h3, h0]; rfl
        have hbs := hb.size
        have h16' := h16
        clear h0 h1 h2 h3 g0 g1 g2 g3 hidx hx hm
        go_wp2_with fail
        refine wp_region_any (by kernel_rfl) ?_
        change wpAny _ _ _ _ _ _ _ (World.drew _)
        refine wpAny_take (i := 0) (v := ?_) rfl (by kernel_rfl) (by kernel_rfl) (by kernel_rfl) (fun _ _ _ h => h) (Or.inl ⟨by rfl, ?_⟩) ?_
        rotate_left
        · (intro W; go_simp; try (with_reducible rfl))
        refine wpAny_take (i := 1) (v := ?_) rfl (by kernel_rfl) (by kernel_rfl) (by kernel_rfl) (fun _ _ _ h => h) (Or.inl ⟨by rfl, ?_⟩) ?_
        rotate_left
        · (intro W; go_simp; try (with_reducible rfl))
        refine wpAny_take (i := 2) (v := ?_) rfl (by kernel_rfl) (by kernel_rfl) (by kernel_rfl) (fun _ _ _ h => h) (Or.inl ⟨by rfl, ?_⟩) ?_
        rotate_left
        · (intro W; go_simp; try (with_reducible rfl))
        refine wpAny_take (i := 3) (v := ?_) rfl (by kernel_rfl) (by kernel_rfl) (by kernel_rfl) (fun _ _ _ h => h) (Or.inl ⟨by rfl, ?_⟩) ?_
        rotate_left
        · (intro W; go_simp; try (with_reducible rfl))
        refine wpAny_take (i := 4) (v := ?_) rfl (by kernel_rfl) (by kernel_rfl) (by kernel_rfl) (fun _ _ _ h => h) (Or.inl ⟨by rfl, ?_⟩) ?_
        rotate_left
        · (intro W; go_simp; try (with_reducible rfl))
        refine wpAny_take (i := 5) (v := ?_) rfl (by kernel_rfl) (by kernel_rfl) (by kernel_rfl) (fun _ _ _ h => h) (Or.inl ⟨by rfl, ?_⟩) ?_
        rotate_left
        · (intro W; go_simp; try (with_reducible rfl))
        refine wpAny_take (i := 6) (v := ?_) rfl (by kernel_rfl) (by kernel_rfl) (by kernel_rfl) (fun _ _ _ h => h) (Or.inl ⟨by rfl, ?_⟩) ?_
        rotate_left
        · (intro W; go_simp; try (with_reducible rfl))
        refine wpAny_take (i := 7) (v := ?_) rfl (by kernel_rfl) (by kernel_rfl) (by kernel_rfl) (fun _ _ _ h => h) (Or.inl ⟨by rfl, ?_⟩) ?_
        rotate_left
        · (intro W; go_simp; try (with_reducible rfl))
        refine wpAny_take (i := 8) (v := ?_) rfl (by kernel_rfl) (by kernel_rfl) (by kernel_rfl) (fun _ _ _ h => h) (Or.inl ⟨by rfl, ?_⟩) ?_
        rotate_left
        · (intro W; go_simp; try (with_reducible rfl))
        refine wpAny_take (i := 9) (v := ?_) rfl (by kernel_rfl) (by kernel_rfl) (by kernel_rfl) (fun _ _ _ h => h) (Or.inl ⟨by rfl, ?_⟩) ?_
        rotate_left
        · (intro W; go_simp; try (with_reducible rfl))
        refine wpAny_take (i := 10) (v := ?_) rfl (by kernel_rfl) (by kernel_rfl) (by kernel_rfl) (fun _ _ _ h => h) (Or.inl ⟨by rfl, ?_⟩) ?_
        rotate_left
        · (intro W; go_simp; try (with_reducible rfl))
        refine wpAny_take (i := 11) (v := ?_) rfl (by kernel_rfl) (by kernel_rfl) (by kernel_rfl) (fun _ _ _ h => h) (Or.inl ⟨by rfl, ?_⟩) ?_
        rotate_left
        · (intro W; go_simp; try (with_reducible rfl))
        refine wpAny_take (i := 12) (v := ?_) rfl (by kernel_rfl) (by kernel_rfl) (by kernel_rfl) (fun _ _ _ h => h) (Or.inl ⟨by rfl, ?_⟩) ?_
        rotate_left
        · (intro W; go_simp; try (with_reducible rfl))
        refine wpAny_take (i := 13) (v := ?_) rfl (by kernel_rfl) (by kernel_rfl) (by kernel_rfl) (fun _ _ _ h => h) (Or.inl ⟨by rfl, ?_⟩) ?_
        rotate_left
        · (intro W; go_simp; try (with_reducible rfl))
        refine wpAny_take (i := 14) (v := ?_) rfl (by kernel_rfl) (by kernel_rfl) (by kernel_rfl) (fun _ _ _ h => h) (Or.inl ⟨by rfl, ?_⟩) ?_
        rotate_left
        · (intro W; go_simp; try (with_reducible rfl))
        refine wpAny_take (i := 15) (v := ?_) rfl (by kernel_rfl) (by kernel_rfl) (by kernel_rfl) (fun _ _ _ h => h) (Or.inl ⟨by rfl, ?_⟩) ?_
        rotate_left
        · (intro W; go_simp; try (with_reducible rfl))
        refine wpAny_take (i := 16) (v := ?_) rfl (by kernel_rfl) (by kernel_rfl) (by kernel_rfl) (fun _ _ _ h => h) (Or.inl ⟨by rfl, ?_⟩) ?_
        rotate_left
        · (intro W; go_simp; try (with_reducible rfl))
        refine wpAny_take (i := 17) (v := ?_) rfl (by kernel_rfl) (by kernel_rfl) (by kernel_rfl) (fun _ _ _ h => h) (Or.inl ⟨by rfl, ?_⟩) ?_
        rotate_left
        · (intro W; go_simp; try (with_reducible rfl))
        refine wpAny_take (i := 18) (v := ?_) rfl (by kernel_rfl) (by kernel_rfl) (by kernel_rfl) (fun _ _ _ h => h) (Or.inl ⟨by rfl, ?_⟩) ?_
        rotate_left
        · (intro W; go_simp; try (with_reducible rfl))
        refine wpAny_take (i := 19) (v := ?_) rfl (by kernel_rfl) (by kernel_rfl) (by kernel_rfl) (fun _ _ _ h => h) (Or.inl ⟨by rfl, ?_⟩) ?_
        rotate_left
        · (intro W; go_simp; try (with_reducible rfl))
        refine wpAny_take (i := 20) (v := ?_) rfl (by kernel_rfl) (by kernel_rfl) (by kernel_rfl) (fun _ _ _ h => h) (Or.inl ⟨by rfl, ?_⟩) ?_
        rotate_left
        · (intro W; go_simp; try (with_reducible rfl))
        refine wpAny_take (i := 21) (v := ?_) rfl (by kernel_rfl) (by kernel_rfl) (by kernel_rfl) (fun _ _ _ h => h) (Or.inl ⟨by rfl, ?_⟩) ?_
        rotate_left
        · (intro W; go_simp; try (with_reducible rfl))
        refine wpAny_take (i := 22) (v := ?_) rfl (by kernel_rfl) (by kernel_rfl) (by kernel_rfl) (fun _ _ _ h => h) (Or.inl ⟨by rfl, ?_⟩) ?_
        rotate_left
        · (intro W; go_simp; try (with_reducible rfl))
        refine wpAny_take (i := 23) (v := ?_) rfl (by kernel_rfl) (by kernel_rfl) (by kernel_rfl) (fun _ _ _ h => h) (Or.inl ⟨by rfl, ?_⟩) ?_
        rotate_left
        · (intro W; go_simp; try (with_reducible rfl))
        refine wpAny_take (i := 24) (v := ?_) rfl (by kernel_rfl) (by kernel_rfl) (by kernel_rfl) (fun _ _ _ h => h) (Or.inl ⟨by rfl, ?_⟩) ?_
        rotate_left
        · (intro W; go_simp; try (with_reducible rfl))
        refine wpAny_take (i := 25) (v := ?_) rfl (by kernel_rfl) (by kernel_rfl) (by kernel_rfl) (fun _ _ _ h => h) (Or.inl ⟨by rfl, ?_⟩) ?_
        rotate_left
        · (intro W; go_simp; try (with_reducible rfl))
        refine wpAny_take (i := 26) (v := ?_) rfl (by kernel_rfl) (by kernel_rfl) (by kernel_rfl) (fun _ _ _ h => h) (Or.inl ⟨by rfl, ?_⟩) ?_
        rotate_left
        · (intro W; go_simp; try (with_reducible rfl))
        refine wpAny_take (i := 27) (v := ?_) rfl (by kernel_rfl) (by kernel_rfl) (by kernel_rfl) (fun _ _ _ h => h) (Or.inl ⟨by rfl, ?_⟩) ?_
        rotate_left
        · (intro W; go_simp; try (with_reducible rfl))
        refine wpAny_take (i := 28) (v := ?_) rfl (by kernel_rfl) (by kernel_rfl) (by kernel_rfl) (fun _ _ _ h => h) (Or.inl ⟨by rfl, ?_⟩) ?_
        rotate_left
        · (intro W; go_simp; try (with_reducible rfl))
        refine wpAny_take (i := 29) (v := ?_) rfl (by kernel_rfl) (by kernel_rfl) (by kernel_rfl) (fun _ _ _ h => h) (Or.inl ⟨by rfl, ?_⟩) ?_
        rotate_left
        · (intro W; go_simp; try (with_reducible rfl))
        refine wpAny_ready (rs := [30]) (by kernel_rfl) (by simp) ?_
        refine AllReady.cons rfl (fun K hK => ?_) AllReady.nil
        go_simp
        refine hK _ _ ?_
        clear hK K
        refine wpAny_ready (rs := [31]) (by kernel_rfl) (by simp) ?_
        refine AllReady.cons rfl (fun K hK => ?_) AllReady.nil
        refine step_append_lies _ (by rfl) _ _ _ (by rfl) w.heap.size 42 i0 _ 1 4 Tryd.underlying65 hi0 hz0 hz1 hz2 rfl (by omega) _ t _ (by rfl) ((hown.alloc _).drew) ⟨wr.heap.size, 0, none⟩ 1 1 [.int .u32 (V (w8 y0 <<< 24 + w8 y1 <<< 16 + w8 y2 <<< 8 + w8 y3))] (by rfl) (by rfl) (World.news_of_block (cs := #[.int .u32 (V (w8 y0 <<< 24 + w8 y1 <<< 16 + w8 y2 <<< 8 + w8 y3))]) (t := 42) (fr := (0, 0)) (heap_alloc_new wr _)) (by simp [Value.oneCell']) (by omega) (by unfold maxLen; omega) (by omega) (by simp; omega) (wr.heap.size + 1) (by simp) ?_
        intro gg cap w1 hown1 hgrow hat hgl
        try go_simp
        refine hK _ _ ?_
        clear hK K
        refine wpAny_take (i := 32) (v := ?_) rfl (by kernel_rfl) (by kernel_rfl) (by kernel_rfl) (fun _ _ _ h => h) (Or.inl ⟨by rfl, ?_⟩) ?_
        rotate_left
        · (intro W; go_simp; try (with_reducible rfl))
        refine wpAny_done (by kernel_rfl) ?_ _
        go_wp2_with fail
        go_roundw
        case rel => exact ⟨t + 1, by omega, by go_num, by rw [wcells_own m t h16', ← HW.out]; exact hown1, ((hb.alloc (by omega) _).drew).grown hgrow (by simp; omega) (fun k hk => (hown.lt k hk).1)⟩
        case measure => simp [intOf]; omega
      · have hge : 16 ≤ t := by omega
        obtain ⟨gg, cap, rfl, hgb, hgl⟩ := hown.form (by omega)
        have hcell : ∀ j, j < t → wr.cell? ⟨gg, j, none⟩ = some (.int .u32 (V (ww m j))) := fun j hj => wcell hown hj
        have c15 := hcell (t - 15) (by omega)
        have c2 := hcell (t - 2) (by omega)
        have c16 := hcell (t - 16) (by omega)
        have c7 := hcell (t - 7) (by omega)
        obtain ⟨x15, g15⟩ : ∃ y, y = ww m (t - 15) := ⟨_, rfl⟩
        obtain ⟨x2, g2⟩ : ∃ y, y = ww m (t - 2) := ⟨_, rfl⟩
        obtain ⟨x16, g16⟩ : ∃ y, y = ww m (t - 16) := ⟨_, rfl⟩
        obtain ⟨x7, g7⟩ : ∃ y, y = ww m (t - 7) := ⟨_, rfl⟩
        rw [← g15] at c15
        rw [← g2] at c2
        rw [← g16] at c16
        rw [← g7] at c7
        have h16' := h16
        have HG := Lib.hid (And.intro g15 (And.intro g2 (And.intro g16 g7)))
        have hbs := hb.size
        clear g15 g2 g16 g7 hcell hm h16
        go_wp2_with fail
        obtain ⟨k16, hk16⟩ : ∃ k, k = t - 16 := ⟨_, rfl⟩
        obtain ⟨k7, hk7⟩ : ∃ k, k = t - 7 := ⟨_, rfl⟩
        rw [← hk16] at c16
        rw [← hk7] at c7
        have e16 : IntKind.i64.wrap ((t : Int) - 16) = (k16 : Int) := by rw [IntWalk.i64_in _ (by omega)]; omega
        have e7 : IntKind.i64.wrap ((t : Int) - 7) = (k7 : Int) := by rw [IntWalk.i64_in _ (by omega)]; omega
        have b16 : (k16 : Int) < t := by omega
        have b7 : (k7 : Int) < t := by omega
        have HX : Hid ((x16 + (ror x15 7 ^^^ ror x15 18 ^^^ x15 >>> 3) + x7 + (ror x2 17 ^^^ ror x2 19 ^^^ x2 >>> 10)) = ww m t) := by
          show _ = _
          rw [ww_next m t h16', HG.out.1, HG.out.2.1, HG.out.2.2.1, HG.out.2.2.2]
        have HXX : Hid ((wcells (sched m t))[k16]? = some (.int .u32 (V x16)) ∧ (wcells (sched m t))[k7]? = some (.int .u32 (V x7))) := by
          refine (⟨?_, ?_⟩ : _ ∧ _)
          · rw [HG.out.2.2.1, hk16]; exact wget m t _ (by omega)
          · rw [HG.out.2.2.2, hk7]; exact wget m t _ (by omega)
        clear c15 c2 hk16 hk7
        refine wp_region_held (S := fun W => W.cell? ⟨gg, k16, none⟩ = some (.int .u32 (V x16)) ∧ W.cell? ⟨gg, k7, none⟩ = some (.int .u32 (V x7))) (by kernel_rfl) ?_
        change wpAnyH _ _ _ _ _ _ _ _ (World.drew _)
        refine wpAnyH_take (i := 0) (v := ?_) rfl (by kernel_rfl) (by kernel_rfl) (by kernel_rfl) (fun _ _ _ h => h) (Or.inl ⟨by rfl, ?_⟩) ⟨c16, c7⟩ ?_
        rotate_left
        · (intro W hS; obtain ⟨s16, s7⟩ := hS; go_simp; try (with_reducible rfl))
        refine wpAnyH_take (i := 1) (v := ?_) rfl (by kernel_rfl) (by kernel_rfl) (by kernel_rfl) (fun _ _ _ h => h) (Or.inl ⟨by rfl, ?_⟩) ⟨c16, c7⟩ ?_
        rotate_left
        · (intro W hS; obtain ⟨s16, s7⟩ := hS; go_simp; try (with_reducible rfl))
        refine wpAnyH_take (i := 2) (v := ?_) rfl (by kernel_rfl) (by kernel_rfl) (by kernel_rfl) (fun _ _ _ h => h) (Or.inl ⟨by rfl, ?_⟩) ⟨c16, c7⟩ ?_
        rotate_left
        · (intro W hS; obtain ⟨s16, s7⟩ := hS; go_simp; try (with_reducible rfl))
        refine wpAnyH_take (i := 3) (v := ?_) rfl (by kernel_rfl) (by kernel_rfl) (by kernel_rfl) (fun _ _ _ h => h) (Or.inl ⟨by rfl, ?_⟩) ⟨c16, c7⟩ ?_
        rotate_left
        · (intro W hS; obtain ⟨s16, s7⟩ := hS; go_simp; try (with_reducible rfl))
        refine wpAnyH_take (i := 4) (v := ?_) rfl (by kernel_rfl) (by kernel_rfl) (by kernel_rfl) (fun _ _ _ h => h) (Or.inl ⟨by rfl, ?_⟩) ⟨c16, c7⟩ ?_
        rotate_left
        · (intro W hS; obtain ⟨s16, s7⟩ := hS; go_simp; try (with_reducible rfl))
        refine wpAnyH_take (i := 5) (v := ?_) rfl (by kernel_rfl) (by kernel_rfl) (by kernel_rfl) (fun _ _ _ h => h) (Or.inl ⟨by rfl, ?_⟩) ⟨c16, c7⟩ ?_
        rotate_left
        · (intro W hS; obtain ⟨s16, s7⟩ := hS; go_simp; try (with_reducible rfl))
        refine wpAnyH_take (i := 6) (v := ?_) rfl (by kernel_rfl) (by kernel_rfl) (by kernel_rfl) (fun _ _ _ h => h) (Or.inl ⟨by rfl, ?_⟩) ⟨c16, c7⟩ ?_
        rotate_left
        · (intro W hS; obtain ⟨s16, s7⟩ := hS; go_simp; try (with_reducible rfl))
        refine wpAnyH_take (i := 8) (v := ?_) rfl (by kernel_rfl) (by kernel_rfl) (by kernel_rfl) (fun _ _ _ h => h) (Or.inl ⟨by rfl, ?_⟩) ⟨c16, c7⟩ ?_
        rotate_left
        · (intro W hS; obtain ⟨s16, s7⟩ := hS; go_simp; try (with_reducible rfl))
        refine wpAnyH_take (i := 11) (v := ?_) rfl (by kernel_rfl) (by kernel_rfl) (by kernel_rfl) (fun _ _ _ h => h) (Or.inl ⟨by rfl, ?_⟩) ⟨c16, c7⟩ ?_
        rotate_left
        · (intro W hS; obtain ⟨s16, s7⟩ := hS; go_simp; try (with_reducible rfl))
        refine wpAnyH_take (i := 12) (v := ?_) rfl (by kernel_rfl) (by kernel_rfl) (by kernel_rfl) (fun _ _ _ h => h) (Or.inl ⟨by rfl, ?_⟩) ⟨c16, c7⟩ ?_
        rotate_left
        · (intro W hS; obtain ⟨s16, s7⟩ := hS; go_simp; try (with_reducible rfl))
        refine wpAnyH_take (i := 15) (v := ?_) rfl (by kernel_rfl) (by kernel_rfl) (by kernel_rfl) (fun _ _ _ h => h) (Or.inl ⟨by rfl, ?_⟩) ⟨c16, c7⟩ ?_
        rotate_left
        · (intro W hS; obtain ⟨s16, s7⟩ := hS; go_simp; try (with_reducible rfl))
        refine wpAnyH_take (i := 16) (v := ?_) rfl (by kernel_rfl) (by kernel_rfl) (by kernel_rfl) (fun _ _ _ h => h) (Or.inl ⟨by rfl, ?_⟩) ⟨c16, c7⟩ ?_
        rotate_left
        · (intro W hS; obtain ⟨s16, s7⟩ := hS; go_simp; try (with_reducible rfl))
        refine wpAnyH_take (i := 17) (v := ?_) rfl (by kernel_rfl) (by kernel_rfl) (by kernel_rfl) (fun _ _ _ h => h) (Or.inl ⟨by rfl, ?_⟩) ⟨c16, c7⟩ ?_
        rotate_left
        · (intro W hS; obtain ⟨s16, s7⟩ := hS; go_simp; try (with_reducible rfl))
        refine wpAnyH_take (i := 18) (v := ?_) rfl (by kernel_rfl) (by kernel_rfl) (by kernel_rfl) (fun _ _ _ h => h) (Or.inl ⟨by rfl, ?_⟩) ⟨c16, c7⟩ ?_
        rotate_left
        · (intro W hS; obtain ⟨s16, s7⟩ := hS; go_simp; try (with_reducible rfl))
        refine wpAnyH_take (i := 19) (v := ?_) rfl (by kernel_rfl) (by kernel_rfl) (by kernel_rfl) (fun _ _ _ h => h) (Or.inl ⟨by rfl, ?_⟩) ⟨c16, c7⟩ ?_
        rotate_left
        · (intro W hS; obtain ⟨s16, s7⟩ := hS; go_simp; try (with_reducible rfl))
        refine wpAnyH_take (i := 21) (v := ?_) rfl (by kernel_rfl) (by kernel_rfl) (by kernel_rfl) (fun _ _ _ h => h) (Or.inl ⟨by rfl, ?_⟩) ⟨c16, c7⟩ ?_
        rotate_left
        · (intro W hS; obtain ⟨s16, s7⟩ := hS; go_simp; try (with_reducible rfl))
        refine wpAnyH_take (i := 23) (v := ?_) rfl (by kernel_rfl) (by kernel_rfl) (by kernel_rfl) (fun _ _ _ h => h) (Or.inl ⟨by rfl, ?_⟩) ⟨c16, c7⟩ ?_
        rotate_left
        · (intro W hS; obtain ⟨s16, s7⟩ := hS; go_simp; try (with_reducible rfl))
        refine wpAnyH_take (i := 26) (v := ?_) rfl (by kernel_rfl) (by kernel_rfl) (by kernel_rfl) (fun _ _ _ h => h) (Or.inl ⟨by rfl, ?_⟩) ⟨c16, c7⟩ ?_
        rotate_left
        · (intro W hS; obtain ⟨s16, s7⟩ := hS; go_simp; try (with_reducible rfl))
        refine wpAnyH_take (i := 27) (v := ?_) rfl (by kernel_rfl) (by kernel_rfl) (by kernel_rfl) (fun _ _ _ h => h) (Or.inl ⟨by rfl, ?_⟩) ⟨c16, c7⟩ ?_
        rotate_left
        · (intro W hS; obtain ⟨s16, s7⟩ := hS; go_simp; try (with_reducible rfl))
        refine wpAnyH_ready (rs := [7]) (by kernel_rfl) (by simp) ?_
        refine AllReadyH.cons rfl (fun K hK => ?_) AllReadyH.nil
        go_simp
        refine (rright_any x15 7 (by decide) (by decide) _).mono ?_
        rintro e w' ⟨rfl, rfl⟩
        refine hK.out _ _ ⟨c16, c7⟩ (fun _ => ?_)
        clear hK K
        refine wpAnyH_ready (rs := [9]) (by kernel_rfl) (by simp) ?_
        refine AllReadyH.cons rfl (fun K hK => ?_) AllReadyH.nil
        go_simp
        refine (rright_any x15 18 (by decide) (by decide) _).mono ?_
        rintro e w' ⟨rfl, rfl⟩
        refine hK.out _ _ ⟨c16, c7⟩ (fun _ => ?_)
        clear hK K
        refine wpAnyH_take (i := 10) (v := ?_) rfl (by kernel_rfl) (by kernel_rfl) (by kernel_rfl) (fun _ _ _ h => h) (Or.inl ⟨by rfl, ?_⟩) ⟨c16, c7⟩ ?_
        rotate_left
        · (intro W hS; obtain ⟨s16, s7⟩ := hS; go_simp; try (with_reducible rfl))
        refine wpAnyH_take (i := 13) (v := ?_) rfl (by kernel_rfl) (by kernel_rfl) (by kernel_rfl) (fun _ _ _ h => h) (Or.inl ⟨by rfl, ?_⟩) ⟨c16, c7⟩ ?_
        rotate_left
        · (intro W hS; obtain ⟨s16, s7⟩ := hS; go_simp; try (with_reducible rfl))
        refine wpAnyH_take (i := 14) (v := ?_) rfl (by kernel_rfl) (by kernel_rfl) (by kernel_rfl) (fun _ _ _ h => h) (Or.inl ⟨by rfl, ?_⟩) ⟨c16, c7⟩ ?_
        rotate_left
        · (intro W hS; obtain ⟨s16, s7⟩ := hS; go_simp; try (with_reducible rfl))
        refine wpAnyH_take (i := 20) (v := ?_) rfl (by kernel_rfl) (by kernel_rfl) (by kernel_rfl) (fun _ _ _ h => h) (Or.inl ⟨by rfl, ?_⟩) ⟨c16, c7⟩ ?_
        rotate_left
        · (intro W hS; obtain ⟨s16, s7⟩ := hS; go_simp; try (with_reducible rfl))
        refine wpAnyH_ready (rs := [22]) (by kernel_rfl) (by simp) ?_
        refine AllReadyH.cons rfl (fun K hK => ?_) AllReadyH.nil
        go_simp
        refine (rright_any x2 17 (by decide) (by decide) _).mono ?_
        rintro e w' ⟨rfl, rfl⟩
        refine hK.out _ _ ⟨c16, c7⟩ (fun _ => ?_)
        clear hK K
        refine wpAnyH_ready (rs := [24]) (by kernel_rfl) (by simp) ?_
        refine AllReadyH.cons rfl (fun K hK => ?_) AllReadyH.nil
        go_simp
        refine (rright_any x2 19 (by decide) (by decide) _).mono ?_
        rintro e w' ⟨rfl, rfl⟩
        refine hK.out _ _ ⟨c16, c7⟩ (fun _ => ?_)
        clear hK K
        refine wpAnyH_take (i := 25) (v := ?_) rfl (by kernel_rfl) (by kernel_rfl) (by kernel_rfl) (fun _ _ _ h => h) (Or.inl ⟨by rfl, ?_⟩) ⟨c16, c7⟩ ?_
        rotate_left
        · (intro W hS; obtain ⟨s16, s7⟩ := hS; go_simp; try (with_reducible rfl))
        refine wpAnyH_take (i := 28) (v := ?_) rfl (by kernel_rfl) (by kernel_rfl) (by kernel_rfl) (fun _ _ _ h => h) (Or.inl ⟨by rfl, ?_⟩) ⟨c16, c7⟩ ?_
        rotate_left
        · (intro W hS; obtain ⟨s16, s7⟩ := hS; go_simp; try (with_reducible rfl))
        refine wpAnyH_take (i := 29) (v := ?_) rfl (by kernel_rfl) (by kernel_rfl) (by kernel_rfl) (fun _ _ _ h => h) (Or.inl ⟨by rfl, ?_⟩) ⟨c16, c7⟩ ?_
        rotate_left
        · (intro W hS; obtain ⟨s16, s7⟩ := hS; go_simp; try (with_reducible rfl))
        refine wpAnyH_ready (rs := [30]) (by kernel_rfl) (by simp) ?_
        refine AllReadyH.cons rfl (fun K hK => ?_) AllReadyH.nil
        go_simp
        refine hK.out _ _ ⟨cellA c16, cellA c7⟩ (fun _ => ?_)
        clear hK K
        refine wpAnyH_ready (rs := [31]) (by kernel_rfl) (by simp) ?_
        refine AllReadyH.cons rfl (fun K hK => ?_) AllReadyH.nil
        refine step_append_keeps _ (by rfl) _ _ _ (by rfl) w.heap.size 42 i0 _ 1 4 Tryd.underlying65 hi0 hz0 hz1 hz2 rfl (by omega) _ t _ (by rfl) ((hown.alloc _).drew) ⟨wr.heap.size, 0, none⟩ 1 1 [.int .u32 (V (x16 + (ror x15 7 ^^^ ror x15 18 ^^^ x15 >>> 3) + x7 + (ror x2 17 ^^^ ror x2 19 ^^^ x2 >>> 10)))] (by rfl) (by rfl) (World.news_of_block (cs := #[.int .u32 (V (x16 + (ror x15 7 ^^^ ror x15 18 ^^^ x15 >>> 3) + x7 + (ror x2 17 ^^^ ror x2 19 ^^^ x2 >>> 10)))]) (t := 42) (fr := (0, 0)) (heap_alloc_new wr _)) (by simp [Value.oneCell']) (by omega) (by unfold maxLen; omega) (by omega) (by simp; omega) (wr.heap.size + 1) (by simp) ?_
        intro g2 cap2 w1 hown1 hgrow hat hgl2 hkeep
        try go_simp
        have n16 : w1.cell? ⟨gg, k16, none⟩ = some (.int .u32 (V x16)) := hkeep gg k16 _ rfl HXX.out.1
        have n7 : w1.cell? ⟨gg, k7, none⟩ = some (.int .u32 (V x7)) := hkeep gg k7 _ rfl HXX.out.2
        refine hK.out _ _ ⟨n16, n7⟩ (fun _ => ?_)
        clear hK K
        refine wpAnyH_take (i := 32) (v := ?_) rfl (by kernel_rfl) (by kernel_rfl) (by kernel_rfl) (fun _ _ _ h => h) (Or.inl ⟨by rfl, ?_⟩) ⟨n16, n7⟩ ?_
        rotate_left
        · (intro W hS; go_simp; try (with_reducible rfl))
        refine wpAnyH_done (by kernel_rfl) ?_ _
        go_wp2_with fail
        go_roundw
        case rel => exact ⟨t + 1, by omega, by go_num, by rw [wcells_ww m t h16', ← HX.out]; exact hown1, ((hb.alloc (by omega) _).drew).grown hgrow (by simp; omega) (fun k hk => (hown.lt k hk).1)⟩
        case measure => simp [intOf]; omega
    · obtain rfl : t = 64 := by omega
      obtain ⟨gg, cap, rfl, hgb, hgl⟩ := hown.form (by omega)
      have hcell : ∀ j, j < 64 → wr.cell? ⟨gg, j, none⟩ = some (.int .u32 (V (ww m j))) := fun j hj => wcell hown hj
      go_wp2_with fail
      refine (keys_any _).mono ?_
      rintro e w2 ⟨rfl, hw2⟩
      obtain ⟨wo, rfl⟩ : ∃ wo : World, wo = wr := ⟨_, rfl⟩
      have hS : TakeMid m st sb so w wo w2 gg := TakeMid.start hb hgl hcell hs hw2
      obtain ⟨B, hB⟩ : ∃ B, B = wo.heap.size := ⟨_, rfl⟩
      rw [← hB]
      have HB := Lib.hid hB
      clear hw2 hB hcell hown hb hgb hgl
      have hs0 : w2.cell? ⟨sb, so, none⟩ = some (.int .u32 (V (st.get 0))) := hS.scell 0 (by omega)
      have hs1 := hS.scell 1 (by omega)
      have hs2 := hS.scell 2 (by omega)
      have hs3 := hS.scell 3 (by omega)
      have hs4 := hS.scell 4 (by omega)
      have hs5 := hS.scell 5 (by omega)
      have hs6 := hS.scell 6 (by omega)
      have hs7 := hS.scell 7 (by omega)
      go_wp2_with fail
      refine wp_region_still_tail 24 (by kernel_rfl) (by kernel_rfl) ?_
      simp only [List.take_succ_cons, List.take_zero, List.drop_succ_cons, List.drop_zero]
      repeat still_step
      refine wpStill_nil ?_
      change wpList _ _ _ _ _ w2.drew
      go_wp2_with fail
      clear hs0 hs1 hs2 hs3 hs4 hs5 hs6 hs7
      have hL : ∀ W, W = (w2.alloc (.cells (cells8 st) 42)).drew → LInv w2 W w2.heap.size (rounds m st 0) := fun W h => by subst h; exact LInv.start w2 st
      generalize hW : World.drew _ = w3
      have hL3 := hL w3 hW.symm
      clear hL hW
      go_loopw [10, 11] (fun v c wr => ∃ t : Nat, t ≤ 64 ∧ c = .int .i64 t ∧ ∃ gl, v = .slice (some ⟨gl, 0, none⟩) 8 8 ∧ LInv w2 wr gl (rounds m st t)) (fun _ c _ => 64 - (intOf c).toNat)
      case atStart => exact ⟨0, by omega, rfl, _, rfl, hL3⟩
      case round =>
        clear hL3
        obtain ⟨t, ht, rfl, gl, rfl, hI⟩ := hrel
        obtain ⟨q, hq⟩ : ∃ q, q = rounds m st t := ⟨_, rfl⟩
        rw [← hq] at hI
        have HQ := Lib.hid hq
        clear hq
        by_cases hlt : t < 64
        · have tl : (t : Int) < 64 := by omega
          obtain ⟨kt, hkt⟩ : ∃ k, k = kk t := ⟨_, rfl⟩
          obtain ⟨xt, hxt⟩ : ∃ k, k = ww m t := ⟨_, rfl⟩
          have ck : wr.cell? ⟨B, t, none⟩ = some (.int .u32 (V kt)) := by rw [HB.out, hkt]; exact hI.old (hS.kcell t hlt)
          have cw : wr.cell? ⟨gg, t, none⟩ = some (.int .u32 (V xt)) := by rw [hxt]; exact hI.old (hS.wcell t hlt)
          have HK := Lib.hid (And.intro hxt hkt)
          clear hkt hxt
          have c0 := hI.cell 0 (by omega)
          have c4 := hI.cell 4 (by omega)
          have c5 := hI.cell 5 (by omega)
          have c6 := hI.cell 6 (by omega)
          have c7 := hI.cell 7 (by omega)
          go_wp2_with fail
          go_quiet ((go_at_call 46; exact Calls.quiet_of_same (rright_still _ _ (by decide) (by decide) _)))
          clear ck cw c0 c4 c5 c6 c7
          generalize hW : World.drewN _ _ = W5
          have hI5 : LInv w2 W5 gl q := by rw [← hW]; exact hI.drewN _
          clear hW hI
          have c1 := hI5.cell 1 (by omega)
          have c2 := hI5.cell 2 (by omega)
          go_wp2_with fail
          go_quiet ((go_at_call 46; exact Calls.quiet_of_same (rright_still _ _ (by decide) (by decide) _)))
          clear c1 c2
          generalize hW : World.drewN _ _ = W6
          have hI6 : LInv w2 W6 gl q := by rw [← hW]; exact hI5.drewN _
          clear hW hI5
          have c0 := hI6.cell 0 (by omega)
          have c1 := hI6.cell 1 (by omega)
          have c2 := hI6.cell 2 (by omega)
          have c3 := hI6.cell 3 (by omega)
          have c4 := hI6.cell 4 (by omega)
          have c5 := hI6.cell 5 (by omega)
          have c6 := hI6.cell 6 (by omega)
          go_wp2_with fail
          refine wp_region_still_tail 26 (by kernel_rfl) (by kernel_rfl) ?_
          simp only [List.take_succ_cons, List.take_zero, List.drop_succ_cons, List.drop_zero]
          repeat still_step
          refine wpStill_nil ?_
          change wpList _ _ _ _ _ W6.drew
          clear c0 c1 c2 c3 c4 c5 c6
          go_wp2_with fail
          go_roundw
          case rel => exact ⟨t + 1, by omega, by go_num, _, rfl, hI6.next (by rw [rounds, ← HQ.out, ← HK.out.1, ← HK.out.2]) rfl⟩
          case measure => simp [intOf]; omega
        · have HT := Lib.hid (show t = 64 by omega)
          go_wp2_with fail
          obtain ⟨wb, rfl⟩ : ∃ wb : World, wb = wr := ⟨_, rfl⟩
          have hsum : ∀ i, i < 8 → (st.add q).get i = st.get i + q.get i := fun i _ => St.get_add st q i
          have hlb := hI.lt
          have hsb : sb < wb.heap.size := World.block_lt_of_cell? wb _ (hI.old (hS.scell 0 (by omega)))
          go_loopw [16, 17] (fun v c wr => ∃ i : Nat, i ≤ 8 ∧ c = .int .i64 i ∧ wr.ownsRow wb.heap.size 42 1 v i (sumCells st q i) ∧ Below wb.heap.size wb wr) (fun _ c _ => 8 - (intOf c).toNat)
          case atStart => exact ⟨0, by omega, rfl, World.ownsRow_nil _ _ _ _, Below.refl _ _⟩
          case round =>
            obtain ⟨i, hi, rfl, hown, hbb⟩ := hrel
            by_cases hlt8 : i < 8
            · have ca : wr.cell? ⟨sb, so + i, none⟩ = some (.int .u32 (V (st.get i))) := (hbb.cell (p := ⟨sb, so + i, none⟩) hsb).trans (hI.old (hS.scell i hlt8))
              have cb : wr.cell? ⟨gl, i, none⟩ = some (.int .u32 (V (q.get i))) := (hbb.cell (p := ⟨gl, i, none⟩) hlb).trans (hI.cell i hlt8)
              obtain ⟨xa, ha⟩ : ∃ x, x = st.get i := ⟨_, rfl⟩
              obtain ⟨xb, hb'⟩ : ∃ x, x = q.get i := ⟨_, rfl⟩
              rw [← ha] at ca
              rw [← hb'] at cb
              have HX := Lib.hid (And.intro ha hb')
              have hbs := hbb.size
              have bi : (i : Int) < 8 := by omega
              clear ha hb' hsum
              go_wp2_with fail
              refine wp_region_held (S := fun W => W.cell? ⟨sb, so + i, none⟩ = some (.int .u32 (V xa)) ∧ W.cell? ⟨gl, i, none⟩ = some (.int .u32 (V xb))) (by kernel_rfl) ?_
              change wpAnyH _ _ _ _ _ _ _ _ (World.drew _)
              refine wpAnyH_take (i := 0) (v := ?_) rfl (by kernel_rfl) (by kernel_rfl) (by kernel_rfl) (fun _ _ _ h => h) (Or.inl ⟨by rfl, ?_⟩) ⟨ca, cb⟩ ?_
              rotate_left
              · (intro W hS; obtain ⟨sa, sb'⟩ := hS; go_simp; try (with_reducible rfl))
              refine wpAnyH_take (i := 1) (v := ?_) rfl (by kernel_rfl) (by kernel_rfl) (by kernel_rfl) (fun _ _ _ h => h) (Or.inl ⟨by rfl, ?_⟩) ⟨ca, cb⟩ ?_
              rotate_left
              · (intro W hS; obtain ⟨sa, sb'⟩ := hS; go_simp; try (with_reducible rfl))
              refine wpAnyH_take (i := 2) (v := ?_) rfl (by kernel_rfl) (by kernel_rfl) (by kernel_rfl) (fun _ _ _ h => h) (Or.inl ⟨by rfl, ?_⟩) ⟨ca, cb⟩ ?_
              rotate_left
              · (intro W hS; obtain ⟨sa, sb'⟩ := hS; go_simp; try (with_reducible rfl))
              refine wpAnyH_take (i := 3) (v := ?_) rfl (by kernel_rfl) (by kernel_rfl) (by kernel_rfl) (fun _ _ _ h => h) (Or.inl ⟨by rfl, ?_⟩) ⟨ca, cb⟩ ?_
              rotate_left
              · (intro W hS; obtain ⟨sa, sb'⟩ := hS; go_simp; try (with_reducible rfl))
              refine wpAnyH_take (i := 4) (v := ?_) rfl (by kernel_rfl) (by kernel_rfl) (by kernel_rfl) (fun _ _ _ h => h) (Or.inl ⟨by rfl, ?_⟩) ⟨ca, cb⟩ ?_
              rotate_left
              · (intro W hS; obtain ⟨sa, sb'⟩ := hS; go_simp; try (with_reducible rfl))
              refine wpAnyH_take (i := 5) (v := ?_) rfl (by kernel_rfl) (by kernel_rfl) (by kernel_rfl) (fun _ _ _ h => h) (Or.inl ⟨by rfl, ?_⟩) ⟨ca, cb⟩ ?_
              rotate_left
              · (intro W hS; obtain ⟨sa, sb'⟩ := hS; go_simp; try (with_reducible rfl))
              refine wpAnyH_take (i := 6) (v := ?_) rfl (by kernel_rfl) (by kernel_rfl) (by kernel_rfl) (fun _ _ _ h => h) (Or.inl ⟨by rfl, ?_⟩) ⟨ca, cb⟩ ?_
              rotate_left
              · (intro W hS; obtain ⟨sa, sb'⟩ := hS; go_simp; try (with_reducible rfl))
              refine wpAnyH_take (i := 7) (v := ?_) rfl (by kernel_rfl) (by kernel_rfl) (by kernel_rfl) (fun _ _ _ h => h) (Or.inl ⟨by rfl, ?_⟩) ⟨ca, cb⟩ ?_
              rotate_left
              · (intro W hS; obtain ⟨sa, sb'⟩ := hS; go_simp; try (with_reducible rfl))
              refine wpAnyH_take (i := 8) (v := ?_) rfl (by kernel_rfl) (by kernel_rfl) (by kernel_rfl) (fun _ _ _ h => h) (Or.inl ⟨by rfl, ?_⟩) ⟨ca, cb⟩ ?_
              rotate_left
              · (intro W hS; obtain ⟨sa, sb'⟩ := hS; go_simp; try (with_reducible rfl))
              refine wpAnyH_take (i := 9) (v := ?_) rfl (by kernel_rfl) (by kernel_rfl) (by kernel_rfl) (fun _ _ _ h => h) (Or.inl ⟨by rfl, ?_⟩) ⟨ca, cb⟩ ?_
              rotate_left
              · (intro W hS; obtain ⟨sa, sb'⟩ := hS; go_simp; try (with_reducible rfl))
              refine wpAnyH_ready (rs := [10]) (by kernel_rfl) (by simp) ?_
              refine AllReadyH.cons rfl (fun K hK => ?_) AllReadyH.nil
              go_simp
              refine hK.out _ _ ⟨cellA ca, cellA cb⟩ (fun _ => ?_)
              clear hK K
              refine wpAnyH_ready (rs := [11]) (by kernel_rfl) (by simp) ?_
              refine AllReadyH.cons rfl (fun K hK => ?_) AllReadyH.nil
              refine step_append_keeps _ (by rfl) _ _ _ (by rfl) wb.heap.size 42 i0 _ 1 4 Tryd.underlying65 hi0 hz0 hz1 hz2 rfl (by omega) _ i _ (by rfl) ((hown.alloc _).drew) ⟨wr.heap.size, 0, none⟩ 1 1 [.int .u32 (V (xa + xb))] (by rfl) (by rfl) (World.news_of_block (cs := #[.int .u32 (V (xa + xb))]) (t := 42) (fr := (0, 0)) (heap_alloc_new wr _)) (by simp [Value.oneCell']) (by omega) (by unfold maxLen; omega) (by omega) (by simp; omega) (wr.heap.size + 1) (by simp) ?_
              intro g2 cap2 w1 hown1 hgrow hat hgl2 hkeep
              try go_simp
              have na : w1.cell? ⟨sb, so + i, none⟩ = some (.int .u32 (V xa)) := hgrow.cell (cellA ca) (fun e => by have := (hown.lt _ e.symm).1; simp at this; omega)
              have nb : w1.cell? ⟨gl, i, none⟩ = some (.int .u32 (V xb)) := hgrow.cell (cellA cb) (fun e => by have := (hown.lt _ e.symm).1; simp at this; omega)
              refine hK.out _ _ ⟨na, nb⟩ (fun _ => ?_)
              clear hK K
              refine wpAnyH_take (i := 12) (v := ?_) rfl (by kernel_rfl) (by kernel_rfl) (by kernel_rfl) (fun _ _ _ h => h) (Or.inl ⟨by rfl, ?_⟩) ⟨na, nb⟩ ?_
              rotate_left
              · (intro W hS; go_simp; try (with_reducible rfl))
              refine wpAnyH_done (by kernel_rfl) ?_ _
              go_wp2_with fail
              go_roundw
              case rel => exact ⟨i + 1, by omega, by go_num, by rw [sumCells_succ st q i, ← HX.out.1, ← HX.out.2]; exact hown1, ((hbb.alloc (by omega) _).drew).grown hgrow (by simp; omega) (fun k hk => (hown.lt k hk).1)⟩
              case measure => simp [intOf]; omega
            · obtain rfl : i = 8 := by omega
              obtain ⟨g, cap, rfl, hgb, hgl⟩ := hown.form (by omega)
              have hq64 : take st m = st.add q := by rw [take, HQ.out, HT.out]
              have hfin : ∀ j, j < 8 → wr.cell? ⟨g, j, none⟩ = some (.int .u32 (V ((take st m).get j))) := fun j hj => by
                rw [hq64]
                have h := hown.cells (g := g) rfl j _ (by rw [sumCells_get st q 8 j hj])
                rwa [Addr.add_mid, Nat.zero_add] at h
              have hbw : Below w.heap.size w wr := (hS.below.trans (hI.below.mono hS.below.size)).trans (hbb.mono (Nat.le_trans hS.below.size hI.below.size))
              clear hq64
              go_wp2_with fail
              go_ret
              exact ⟨g, cap, rfl, hfin, hbw⟩
end Go.Proofs.YtnpdmkgefaobeaaDoor
