/- MH3, what is wanted of it. -/
import Derived.Test.YtdfkpjmljaanpaaGreatDoorZMH1
import Derived.Deep.AppendLies
import Derived.WalkKit
import Derived.StillTailTactics
import Derived.Deep.QuietTactic
import Derived.BigQuiet
import Derived.Deep.RegionHeld3
import Derived.Deep.RegionWith
import Derived.Deep.RegionLaw
import Derived.Deep.DeepMust
import Derived.Lib.Hide
import Derived.Test.YtdfkpjmljaanpaaGreatDoorZMH2
import Derived.Lib.IndexBytes
namespace Go.Proofs.YtdfkpjmljaanpaaGreatDoor
theorem w8_high (x : UInt8) (i : Nat) (hi : 8 ≤ i) : (w8 x).getLsbD i = false := by
  have h : x.toNat < 2 ^ i := Nat.lt_of_lt_of_le x.toNat_lt (Nat.pow_le_pow_right (by omega) hi)
  rw [w8, BitVec.getLsbD_ofNat, Nat.testBit_lt_two_pow h, Bool.and_false]
theorem word_sum (a b c d : UInt8) : w8 a <<< 24 + w8 b <<< 16 + w8 c <<< 8 + w8 d = w8 a <<< 24 ||| w8 b <<< 16 ||| w8 c <<< 8 ||| w8 d := by
  have s1 : w8 a <<< 24 + w8 b <<< 16 = w8 a <<< 24 ||| w8 b <<< 16 := by
    refine BitVec.add_eq_or_of_and_eq_zero _ _ (BitVec.eq_of_getLsbD_eq fun i _ => ?_)
    simp only [BitVec.getLsbD_and, BitVec.getLsbD_shiftLeft, BitVec.getLsbD_zero]
    by_cases h : i < 24
    · simp [h]
    · rw [w8_high b (i - 16) (by omega)]; simp
  have s2 : (w8 a <<< 24 ||| w8 b <<< 16) + w8 c <<< 8 = w8 a <<< 24 ||| w8 b <<< 16 ||| w8 c <<< 8 := by
    refine BitVec.add_eq_or_of_and_eq_zero _ _ (BitVec.eq_of_getLsbD_eq fun i _ => ?_)
    simp only [BitVec.getLsbD_and, BitVec.getLsbD_or, BitVec.getLsbD_shiftLeft, BitVec.getLsbD_zero]
    by_cases h : i < 16
    · simp [h, (by omega : i < 24)]
    · rw [w8_high c (i - 8) (by omega)]; simp
  have s3 : (w8 a <<< 24 ||| w8 b <<< 16 ||| w8 c <<< 8) + w8 d = w8 a <<< 24 ||| w8 b <<< 16 ||| w8 c <<< 8 ||| w8 d := by
    refine BitVec.add_eq_or_of_and_eq_zero _ _ (BitVec.eq_of_getLsbD_eq fun i _ => ?_)
    simp only [BitVec.getLsbD_and, BitVec.getLsbD_or, BitVec.getLsbD_shiftLeft, BitVec.getLsbD_zero]
    by_cases h : i < 8
    · simp [h, (by omega : i < 24), (by omega : i < 16)]
    · rw [w8_high d i (by omega)]; simp
  rw [s1, s2, s3]
end Go.Proofs.YtdfkpjmljaanpaaGreatDoor
namespace Go.Proofs.YtdfkpjmljaanpaaGreatDoor
open Go.RowKit
section
variable {P : Program} (w : World)
theorem run_append_keeps (t ty : TypeId) (base : Nat) (e : TypeId) (i : TypeInfo) (z : Value) (size bytes : Nat) (ht : P.underlying t = some (.slice e)) (hi : P.info? e = some i) (hz : i.zero = some z)
    (hsize : i.size = size) (hby : i.bytes = bytes) (hzs : z.cells.size = size) (hsz : 0 < size)
    (v : Value) (n : Nat) (xs : List Value) (hown : w.ownsRow base e size v n xs)
    (ad : Addr) (m c : Nat) (news : List Value) (hl : news.length = m * size) (hnews : ∀ j u, news[j]? = some u → w.cell? (ad.add j) = some u) (h1 : ∀ u ∈ news, u.oneCell' = true)
    (hm : 0 < m) (h63 : n + m ≤ maxLen) (hbytes : (n + m) * bytes ≤ 140737488355328) (hbase : base ≤ w.heap.size) (H : Nat) (hH : w.heap.size = H) :
    ∃ g cap w', (Builtin.append_ #[t, t] ty #[v, .slice (some ad) m c]).run P w = .ok (.slice (some ⟨g, 0, none⟩) (n + m) cap) w' ∧
      w'.ownsRow base e size (.slice (some ⟨g, 0, none⟩) (n + m) cap) (n + m) (xs ++ news) ∧ w.grownBy w' v.ownBlock ∧ (v.ownBlock = some g ∨ g = H) ∧ g < w'.heap.size ∧
      ∀ g0 j u, v.ownBlock = some g0 → xs[j]? = some u → w'.cell? ⟨g0, j, none⟩ = some u := by
  obtain ⟨g, cap, w', hr, h2, h3, h4, h5⟩ := run_append_lies (P := P) w t ty base e i z size bytes ht hi hz hsize hby hzs hsz v n xs hown ad m c news hl hnews h1 hm h63 hbytes hbase H hH
  refine ⟨g, cap, w', hr, h2, h3, h4, h5, fun g0 j u hg0 hj => ?_⟩
  have hjl : j < xs.length := (List.getElem?_eq_some_iff.1 hj).1
  rcases hown.2 with ⟨rfl, _⟩ | ⟨g1, cap1, cur, rfl, hbg, hg, hnc, hcm, hcs, htake⟩
  · cases hg0
  · obtain rfl : g1 = g0 := by simpa [Value.ownBlock] using hg0
    have holds : ∀ j u, xs[j]? = some u → w.cell? ((⟨g1, 0, none⟩ : Addr).add j) = some u := hown.cells (g := g1) rfl
    by_cases hroom : n + m ≤ cap1
    · have hr' := run_append_room (P := P) w t ty e i ht hi g1 n cap1 cur hg ad m c news (by rw [hsize]; exact hl) hnews h1 hroom (by
        rw [hsize, hl, hcs, ← Nat.add_mul]; exact Nat.mul_le_mul_right _ hroom)
      rw [hr] at hr'
      injection hr' with e1 e2
      injection e1 with e3
      injection e3 with e4
      injection e4 with e5
      subst e5
      have := h2.cells (g := g) rfl j u (by rw [List.getElem?_append_left hjl]; exact hj)
      rwa [show (⟨g, 0, none⟩ : Addr).add j = ⟨g, j, none⟩ by unfold Addr.add; split <;> simp_all] at this
    · have hr' := run_append_grow (P := P) w t ty e i z ht hi hz ⟨g1, 0, none⟩ n cap1 xs (by rw [hsize]; exact hown.1) holds ad m c news (by rw [hsize]; exact hl) hnews (by omega) (by simp only [maxLen] at h63; omega) (growslice_fits (by omega) (by rw [hby]; exact hbytes))
      rw [hr] at hr'
      injection hr' with e1 e2
      have hc := holds j u hj
      rw [show (⟨g1, 0, none⟩ : Addr).add j = ⟨g1, j, none⟩ by unfold Addr.add; split <;> simp_all] at hc
      have hlt := World.block_lt_of_cell? w _ hc
      rw [e2, World.cell?_alloc_lt _ _ _ (by simpa using hlt)]
      exact hc
theorem step_append_keeps {ops : Array Oper} {o : Oper} {a : Act} {K : Act → World → Prop} {Q : Exit → Act → World → Prop} {E : Prop} (hgd : o.guard = none) (s x : Operand) (t : TypeId)
    (ho : o.op = .call { callee := .builtin .append, args := #[s, x], argTypes := #[t, t] })
    (base : Nat) (e : TypeId) (i : TypeInfo) (z : Value) (size bytes : Nat) (ht : P.underlying t = some (.slice e)) (hi : P.info? e = some i) (hz : i.zero = some z)
    (hsize : i.size = size) (hby : i.bytes = bytes) (hzs : z.cells.size = size) (hsz : 0 < size)
    (v : Value) (n : Nat) (xs : List Value) (hs : a.eval s = v) (hown : w.ownsRow base e size v n xs)
    (ad : Addr) (m c : Nat) (news : List Value) (hx : a.eval x = .slice (some ad) m c) (hl : news.length = m * size) (hnews : ∀ j u, news[j]? = some u → w.cell? (ad.add j) = some u) (h1 : ∀ u ∈ news, u.oneCell' = true)
    (hm : 0 < m) (h63 : n + m ≤ maxLen) (hbytes : (n + m) * bytes ≤ 140737488355328) (hbase : base ≤ w.heap.size) (H : Nat) (hH : w.heap.size = H)
    (h : ∀ g cap w', w'.ownsRow base e size (.slice (some ⟨g, 0, none⟩) (n + m) cap) (n + m) (xs ++ news) → w.grownBy w' v.ownBlock → (v.ownBlock = some g ∨ g = H) → g < w'.heap.size →
      (∀ g0 j u, v.ownBlock = some g0 → xs[j]? = some u → w'.cell? ⟨g0, j, none⟩ = some u) → K (a.put o.dst (.slice (some ⟨g, 0, none⟩) (n + m) cap)) w') :
    if Region.wanted o (yielded ops a.tmps) = true then Oper.wp P o a w K Q else E := by
  have hw : Region.wanted o (yielded ops a.tmps) = true := by simp [Region.wanted, hgd]
  rw [if_pos hw]
  obtain ⟨g, cap, w', hr, h2, h3, h4, h5, h6⟩ := run_append_keeps (P := P) w t o.type base e i z size bytes ht hi hz hsize hby hzs hsz v n xs hown ad m c news hl hnews h1 hm h63 hbytes hbase H hH
  unfold Oper.wp execOp
  simp only [ho, resolve, invoke, builtin, Sem.run_bind, Sem.run_pure, Result.andThen_ok, List.map_toArray, List.map_cons, List.map_nil, hs, hx, hr]
  exact h g cap w' h2 h3 h4 h5 h6
end
end Go.Proofs.YtdfkpjmljaanpaaGreatDoor
namespace Go.Proofs.YtdfkpjmljaanpaaGreatDoor
open Go.RowKit
theorem list_small' {l : List Nat} (h : l.all (fun n => decide (n < 4294967296)) = true) (i : Nat) : V (BitVec.ofNat 32 (l.getD i 0)) = ((l.getD i 0 : Nat) : Int) := by
  refine V_num _ ?_
  by_cases hi : i < l.length
  · rw [List.getD_eq_getElem?_getD, List.getElem?_eq_getElem hi]
    simpa using List.all_eq_true.1 h _ (List.getElem_mem hi)
  · rw [List.getD_eq_getElem?_getD, List.getElem?_eq_none (by omega)]; decide
def numCells (l : List Nat) : Array Value := (l.map fun (n : Nat) => Value.int .u32 (n : Int)).toArray
theorem numCells_get {l : List Nat} (h : l.all (fun n => decide (n < 4294967296)) = true) (i : Nat) (hi : i < l.length) : (numCells l)[i]? = some (.int .u32 (V (BitVec.ofNat 32 (l.getD i 0)))) := by
  rw [list_small' h, numCells, List.getElem?_toArray, List.getElem?_map, List.getD_eq_getElem?_getD, List.getElem?_eq_getElem hi]
  rfl
set_option maxRecDepth 100000 in
set_option maxHeartbeats 400000 in
theorem keys_any (w : World) : Calls Tryz.prog 199 #[] w fun e w' => e = .returned (.slice (some ⟨w.heap.size, 0, none⟩) 64 64) ∧ w' = w.alloc (.cells (numCells kList) 219) := by
  go_enter Tryz.func199, Tryz.ntmps199
  go_wp2
  go_ret
  refine ⟨rfl, ?_⟩
  congr 1
set_option maxRecDepth 100000 in
set_option maxHeartbeats 400000 in
theorem first_any (w : World) : Calls Tryz.prog 155 #[] w fun e w' => e = .returned (.slice (some ⟨w.heap.size, 0, none⟩) 8 8) ∧ w' = w.alloc (.cells (numCells hList) 219) := by
  go_enter Tryz.func155, Tryz.ntmps155
  go_wp2
  go_ret
  refine ⟨rfl, ?_⟩
  congr 1
end Go.Proofs.YtdfkpjmljaanpaaGreatDoor
namespace Go.Proofs.YtdfkpjmljaanpaaGreatDoor
open Go.RowKit
theorem V_lmul24 (x : BitVec 32) : ((16777216 : Int) * V x) % (4294967296 : Int) = V (x <<< 24) := by rw [Int.mul_comm]; exact V_mul24 x
theorem V_lmul16 (x : BitVec 32) : ((65536 : Int) * V x) % (4294967296 : Int) = V (x <<< 16) := by rw [Int.mul_comm]; exact V_mul16 x
theorem V_lmul8 (x : BitVec 32) : ((256 : Int) * V x) % (4294967296 : Int) = V (x <<< 8) := by rw [Int.mul_comm]; exact V_mul8 x
theorem V_lmul24' (x : BitVec 32) : IntKind.u32.wrap ((16777216 : Int) * V x) = V (x <<< 24) := by rw [IntKind.wrap_u32', V_lmul24]
theorem V_lmul16' (x : BitVec 32) : IntKind.u32.wrap ((65536 : Int) * V x) = V (x <<< 16) := by rw [IntKind.wrap_u32', V_lmul16]
theorem V_lmul8' (x : BitVec 32) : IntKind.u32.wrap ((256 : Int) * V x) = V (x <<< 8) := by rw [IntKind.wrap_u32', V_lmul8]
theorem V_lnot (x : BitVec 32) : ((4294967295 : Int) - V x) % (4294967296 : Int) = V (~~~x) := by
  unfold V; rw [BitVec.toNat_not]; have := x.isLt; omega
attribute [local go_sem] V_add V_add' V_xor V_and V_or V_not V_not' V_shr V_div8 V_div1024 V_shl V_shl' V_byte V_byte' V_lmul24 V_lmul16 V_lmul8 V_lmul24' V_lmul16' V_lmul8' V_lnot
theorem Tryz.info30 : (Tryz.prog.info? 219).map (fun i => (i.zero, i.size, i.bytes)) = some (some (.int .u32 0), 1, 4) := by kernel_rfl
/-- Words as cells. -/
def wcells (l : List (BitVec 32)) : List Value := l.map fun x => Value.int .u32 (V x)
/-- A byte of a text. -/
theorem str_index (x : ByteArray) (k : Nat) (hk : k < x.size) (W : World) : (Instr.index 9 (.string x) (.int .i64 k)).run Tryz.prog W = .ok (.int .u8 ((x.data.toList.getD k 0).toNat : Int)) W := by
  rw [run_index_string W 9 x .i64 k Tryz.underlying9, dif_pos ⟨by omega, by omega⟩]
  have hk' : k < x.data.toList.length := hk
  have e : x[(k : Int).toNat]'(by omega) = x.data.toList.getD k 0 := by
    rw [List.getD_eq_getElem?_getD, List.getElem?_eq_getElem hk']
    rfl
  rw [e]
theorem wget (m : Nat → BitVec 32) (t j : Nat) (hj : j < t) : (wcells (sched m t))[j]? = some (.int .u32 (V (ww m j))) := by
  have hl : j < (sched m t).length := by rw [sched_length]; exact hj
  rw [wcells, List.getElem?_map, List.getElem?_eq_getElem hl, ← sched_get m t j hj, List.getD_eq_getElem?_getD, List.getElem?_eq_getElem hl]
  rfl
theorem wcell {w wr : World} {m : Nat → BitVec 32} {gg cap t j : Nat} (hown : wr.ownsRow w.heap.size 219 1 (.slice (some ⟨gg, 0, none⟩) t cap) t (wcells (sched m t))) (hj : j < t) : wr.cell? ⟨gg, j, none⟩ = some (.int .u32 (V (ww m j))) := by
  have h := hown.cells (g := gg) rfl j (.int .u32 (V (ww m j))) (by
    have hl : j < (sched m t).length := by rw [sched_length]; exact hj
    rw [wcells, List.getElem?_map, List.getElem?_eq_getElem hl, ← sched_get m t j hj, List.getD_eq_getElem?_getD, List.getElem?_eq_getElem hl]
    rfl)
  rwa [Addr.add_mid, Nat.zero_add] at h
theorem wcells_own (m : Nat → BitVec 32) (t : Nat) (h : t < 16) : wcells (sched m (t + 1)) = wcells (sched m t) ++ [.int .u32 (V (m t))] := by
  rw [sched, if_pos h, wcells, List.map_append]; rfl
theorem cellA {w : World} {a : Addr} {v : Value} {o : Obj} (h : w.cell? a = some v) : ((w.alloc o).drew).cell? a = some v := by
  show (w.alloc o).cell? a = some v
  rw [World.cell?_alloc_lt _ _ _ (World.block_lt_of_cell? w _ h)]; exact h
theorem wcells_ww (m : Nat → BitVec 32) (t : Nat) (h : ¬ t < 16) : wcells (sched m (t + 1)) = wcells (sched m t) ++ [.int .u32 (V (ww m t))] := by
  have e : ww m t = nextWord (sched m t) := by rw [ww, sched, if_neg h, getD_end _ _ _ _ (sched_length m t)]
  rw [e, sched, if_neg h, wcells, List.map_append]; rfl
/-- What holds of memory behind the first loop. -/
structure TakeMid (m : Nat → BitVec 32) (st : St) (sb so : Nat) (w wo w2 : World) (gg : Nat) : Prop where
  below : Below w.heap.size w w2
  wcell : ∀ j, j < 64 → w2.cell? ⟨gg, j, none⟩ = some (.int .u32 (V (ww m j)))
  kcell : ∀ j, j < 64 → w2.cell? ⟨wo.heap.size, j, none⟩ = some (.int .u32 (V (kk j)))
  scell : ∀ i, i < 8 → w2.cell? ⟨sb, so + i, none⟩ = some (.int .u32 (V (st.get i)))
theorem TakeMid.start {m : Nat → BitVec 32} {st : St} {sb so : Nat} {w wo w2 : World} {gg : Nat} (hb : Below w.heap.size w wo) (hgl : gg < wo.heap.size) (hc : ∀ j, j < 64 → wo.cell? ⟨gg, j, none⟩ = some (.int .u32 (V (ww m j))))
    (hs : ∀ i, i < 8 → w.cell? ⟨sb, so + i, none⟩ = some (.int .u32 (V (st.get i)))) (hw2 : w2 = wo.alloc (.cells (numCells kList) 219)) : TakeMid m st sb so w wo w2 gg := by
  subst hw2
  have hsb := World.block_lt_of_cell? w _ (hs 0 (by omega))
  refine ⟨hb.alloc hb.size _, fun j hj => ?_, fun j hj => ?_, fun i hi => ?_⟩
  · rw [World.cell?_alloc_lt _ _ _ hgl]; exact hc j hj
  · rw [cell_of_row _ _ _ _ _ _ (heap_alloc_new wo _)]
    exact numCells_get (by decide) j hj
  · rw [World.cell?_alloc_lt _ _ _ (show sb < wo.heap.size from Nat.lt_of_lt_of_le hsb hb.size)]
    exact (hb.cell (p := ⟨sb, so + i, none⟩) hsb).trans (hs i hi)
/-- What holds of memory at the head of a round of the second loop. -/
structure LInv (w2 wr : World) (gl : Nat) (q : St) : Prop where
  row : wr.heap[gl]? = some (.cells (cells8 q) 219 (0, 0))
  below : Below w2.heap.size w2 wr
  base : w2.heap.size ≤ gl
theorem LInv.start (w2 : World) (st : St) : LInv w2 ((w2.alloc (.cells (cells8 st) 219)).drew) w2.heap.size st :=
  ⟨heap_alloc_new w2 _, ((Below.refl _ _).alloc (Nat.le_refl _) _).drew, Nat.le_refl _⟩
theorem LInv.drewN {w2 wr : World} {gl : Nat} {q : St} (h : LInv w2 wr gl q) (n : Nat) : LInv w2 (wr.drewN n) gl q := ⟨h.row, below_drewN h.below n, h.base⟩
theorem LInv.cell {w2 wr : World} {gl : Nat} {q : St} (h : LInv w2 wr gl q) (i : Nat) (hi : i < 8) : wr.cell? ⟨gl, i, none⟩ = some (.int .u32 (V (q.get i))) := by
  rw [cell_of_row _ _ _ _ _ _ h.row, cells8_get q i hi]
theorem LInv.old {w2 wr : World} {gl : Nat} {q : St} (h : LInv w2 wr gl q) {a : Addr} {v : Value} (ha : w2.cell? a = some v) : wr.cell? a = some v :=
  (h.below.cell (World.block_lt_of_cell? w2 _ ha)).trans ha
theorem LInv.next {w2 wr W : World} {gl : Nat} {q q' : St} {kt xt : BitVec 32} (h : LInv w2 wr gl q) {c : Array Value} (hq : q' = step q kt xt) (hc : c = cells8 (step q kt xt)) (hW : W = (wr.alloc (.cells c 219)).drew := by rfl) : LInv w2 W wr.heap.size q' := by
  subst hW hc hq
  exact ⟨heap_alloc_new wr _, (h.below.alloc h.below.size _).drew, h.below.size⟩
theorem rright_still (x : BitVec 32) (n : Int) (h0 : 1 ≤ n) (h1 : n ≤ 31) (w : World) :
    Calls Tryz.prog 198 #[.int .u32 (V x), .int .u64 n] w fun e w' => e = .returned (.int .u32 (V (ror x n.toNat))) ∧ w' = w :=
  (rright_any x n h0 h1 w).mono fun _ _ ⟨h, k⟩ => ⟨h, k.symm⟩
theorem V_lnot' (x : BitVec 32) : IntKind.u32.wrap ((4294967295 : Int) - V x) = V (~~~x) := by rw [IntKind.wrap_u32', V_lnot]
attribute [local go_sem] V_lnot'
theorem LInv.lt {w2 wr : World} {gl : Nat} {q : St} (h : LInv w2 wr gl q) : gl < wr.heap.size := World.block_lt_of_cell? wr _ (h.cell 0 (by omega))
def sumCells (st q : St) (n : Nat) : List Value := (List.range n).map fun j => Value.int .u32 (V (st.get j + q.get j))
theorem sumCells_succ (st q : St) (n : Nat) : sumCells st q (n + 1) = sumCells st q n ++ [.int .u32 (V (st.get n + q.get n))] := by
  rw [sumCells, List.range_succ, List.map_append]; rfl
theorem sumCells_get (st q : St) (n j : Nat) (hj : j < n) : (sumCells st q n)[j]? = some (.int .u32 (V ((st.add q).get j))) := by
  simp [sumCells, hj, St.get_add]
set_option maxRecDepth 100000 in
set_option maxHeartbeats 8000000 in
theorem rtake_any (st : St) (sb so scap : Nat) (x : ByteArray) (hx : x.size = 64) (w : World)
    (hs : ∀ i, i < 8 → w.cell? ⟨sb, so + i, none⟩ = some (.int .u32 (V (st.get i)))) :
    Calls Tryz.prog 156 #[.slice (some ⟨sb, so, none⟩) 8 scap, .string x] w fun e w' => ∃ g cap, e = .returned (.slice (some ⟨g, 0, none⟩) 8 cap) ∧
      (∀ i, i < 8 → w'.cell? ⟨g, i, none⟩ = some (.int .u32 (V ((take st (wordOf fun j => x.data.toList.getD j 0)).get i)))) ∧ Below w.heap.size w w' := by
  obtain ⟨m, hm⟩ : ∃ m, m = wordOf fun j => x.data.toList.getD j 0 := ⟨_, rfl⟩
  rw [← hm]
  obtain ⟨i0, hi0, hz0, hz1, hz2⟩ := info_parts Tryz.info30
  go_enter Tryz.func156, Tryz.ntmps156
  go_wp2
  go_loopw [5, 6] (fun v c wr => ∃ t : Nat, t ≤ 64 ∧ c = .int .i64 t ∧ wr.ownsRow w.heap.size 219 1 v t (wcells (sched m t)) ∧ Below w.heap.size w wr) (fun _ c _ => 64 - (intOf c).toNat)
  case atStart => exact ⟨0, by omega, rfl, World.ownsRow_nil _ _ _ _, Below.refl _ _⟩
  case round =>
    obtain ⟨t, ht, rfl, hown, hb⟩ := hrel
    by_cases hlt : t < 64
    · by_cases h16 : t < 16
      · obtain ⟨k0, h0⟩ : ∃ k, k = 4 * t := ⟨_, rfl⟩
        have hidx : ∀ (k : Nat) (_ : k < 64) (W : World), (Instr.index 9 (.string x) (.int .i64 k)).run Tryz.prog W = .ok (.int .u8 ((x.data.toList.getD k 0).toNat : Int)) W := fun k hk W => str_index x k (by omega) W
        have i0' := hidx k0 (by omega)
        have i1' := hidx (k0 + 1) (by omega)
        have i2' := hidx (k0 + 2) (by omega)
        have i3' := hidx (k0 + 3) (by omega)
        have e0 : IntKind.i64.wrap (4 * (t : Int)) = (k0 : Int) := by rw [IntWalk.i64_in _ (by omega)]; omega
        have e1 : IntKind.i64.wrap ((k0 : Int) + 1) = ((k0 + 1 : Nat) : Int) := by rw [IntWalk.i64_in _ (by omega)]; omega
        have e2 : IntKind.i64.wrap ((k0 : Int) + 2) = ((k0 + 2 : Nat) : Int) := by rw [IntWalk.i64_in _ (by omega)]; omega
        have e3 : IntKind.i64.wrap ((k0 : Int) + 3) = ((k0 + 3 : Nat) : Int) := by rw [IntWalk.i64_in _ (by omega)]; omega
        obtain ⟨k1, h1⟩ : ∃ k, k = k0 + 1 := ⟨_, rfl⟩
        obtain ⟨k2, h2⟩ : ∃ k, k = k0 + 2 := ⟨_, rfl⟩
        obtain ⟨k3, h3⟩ : ∃ k, k = k0 + 3 := ⟨_, rfl⟩
        rw [← h1] at e1 i1'
        rw [← h2] at e2 i2'
        rw [← h3] at e3 i3'
        obtain ⟨y0, g0⟩ : ∃ y, y = x.data.toList.getD k0 0 := ⟨_, rfl⟩
        obtain ⟨y1, g1⟩ : ∃ y, y = x.data.toList.getD k1 0 := ⟨_, rfl⟩
        obtain ⟨y2, g2⟩ : ∃ y, y = x.data.toList.getD k2 0 := ⟨_, rfl⟩
        obtain ⟨y3, g3⟩ : ∃ y, y = x.data.toList.getD k3 0 := ⟨_, rfl⟩
        simp only [← g0] at i0'
        simp only [← g1] at i1'
        simp only [← g2] at i2'
        simp only [← g3] at i3'
        have HW : Hid (w8 y0 <<< 24 + w8 y1 <<< 16 + w8 y2 <<< 8 + w8 y3 = m t) := by
          show _ = _
          rw [word_sum, hm, g0, g1, g2, g3, h1, h2, h3, h0]; rfl
        have hbs := hb.size
        have h16' := h16
        clear h0 h1 h2 h3 g0 g1 g2 g3 hidx hx hm
        go_wp2_with fail
        refine wp_region_any (by kernel_rfl) ?_
        change wpAny _ _ _ _ _ _ _ (World.drew _)
        refine wpAny_take (i := 0) (v := ?_) rfl (by kernel_rfl) (by kernel_rfl) (by kernel_rfl) (fun _ _ _ h => h) (Or.inl ⟨by rfl, ?_⟩) ?_
        rotate_left
        · (intro W; go_simp; try (with_reducible rfl))
        refine wpAny_take (i := 1) (v := ?_) rfl (by kernel_rfl) (by kernel_rfl) (by kernel_rfl) (fun _ _ _ h => h) (Or.inl ⟨by rfl, ?_⟩) ?_
        rotate_left
        · (intro W; go_simp; try (with_reducible rfl))
        refine wpAny_take (i := 2) (v := ?_) rfl (by kernel_rfl) (by kernel_rfl) (by kernel_rfl) (fun _ _ _ h => h) (Or.inl ⟨by rfl, ?_⟩) ?_
        rotate_left
        · (intro W; go_simp; try (with_reducible rfl))
        refine wpAny_take (i := 3) (v := ?_) rfl (by kernel_rfl) (by kernel_rfl) (by kernel_rfl) (fun _ _ _ h => h) (Or.inl ⟨by rfl, ?_⟩) ?_
        rotate_left
        · (intro W; go_simp; try (with_reducible rfl))
        refine wpAny_take (i := 4) (v := ?_) rfl (by kernel_rfl) (by kernel_rfl) (by kernel_rfl) (fun _ _ _ h => h) (Or.inl ⟨by rfl, ?_⟩) ?_
        rotate_left
        · (intro W; go_simp; try (with_reducible rfl))
        refine wpAny_take (i := 5) (v := ?_) rfl (by kernel_rfl) (by kernel_rfl) (by kernel_rfl) (fun _ _ _ h => h) (Or.inl ⟨by rfl, ?_⟩) ?_
        rotate_left
        · (intro W; go_simp; try (with_reducible rfl))
        refine wpAny_take (i := 6) (v := ?_) rfl (by kernel_rfl) (by kernel_rfl) (by kernel_rfl) (fun _ _ _ h => h) (Or.inl ⟨by rfl, ?_⟩) ?_
        rotate_left
        · (intro W; go_simp; try (with_reducible rfl))
        refine wpAny_take (i := 7) (v := ?_) rfl (by kernel_rfl) (by kernel_rfl) (by kernel_rfl) (fun _ _ _ h => h) (Or.inl ⟨by rfl, ?_⟩) ?_
        rotate_left
        · (intro W; go_simp; try (with_reducible rfl))
        refine wpAny_take (i := 8) (v := ?_) rfl (by kernel_rfl) (by kernel_rfl) (by kernel_rfl) (fun _ _ _ h => h) (Or.inl ⟨by rfl, ?_⟩) ?_
        rotate_left
        · (intro W; go_simp; try (with_reducible rfl))
        refine wpAny_take (i := 9) (v := ?_) rfl (by kernel_rfl) (by kernel_rfl) (by kernel_rfl) (fun _ _ _ h => h) (Or.inl ⟨by rfl, ?_⟩) ?_
        rotate_left
        · (intro W; go_simp; try (with_reducible rfl))
        refine wpAny_take (i := 10) (v := ?_) rfl (by kernel_rfl) (by kernel_rfl) (by kernel_rfl) (fun _ _ _ h => h) (Or.inl ⟨by rfl, ?_⟩) ?_
        rotate_left
        · (intro W; go_simp; try (with_reducible rfl))
        refine wpAny_take (i := 11) (v := ?_) rfl (by kernel_rfl) (by kernel_rfl) (by kernel_rfl) (fun _ _ _ h => h) (Or.inl ⟨by rfl, ?_⟩) ?_
        rotate_left
        · (intro W; go_simp; try (with_reducible rfl))
        refine wpAny_take (i := 12) (v := ?_) rfl (by kernel_rfl) (by kernel_rfl) (by kernel_rfl) (fun _ _ _ h => h) (Or.inl ⟨by rfl, ?_⟩) ?_
        rotate_left
        · (intro W; go_simp; try (with_reducible rfl))
        refine wpAny_take (i := 13) (v := ?_) rfl (by kernel_rfl) (by kernel_rfl) (by kernel_rfl) (fun _ _ _ h => h) (Or.inl ⟨by rfl, ?_⟩) ?_
        rotate_left
        · (intro W; go_simp; try (with_reducible rfl))
        refine wpAny_take (i := 14) (v := ?_) rfl (by kernel_rfl) (by kernel_rfl) (by kernel_rfl) (fun _ _ _ h => h) (Or.inl ⟨by rfl, ?_⟩) ?_
        rotate_left
        · (intro W; go_simp; try (with_reducible rfl))
        refine wpAny_take (i := 15) (v := ?_) rfl (by kernel_rfl) (by kernel_rfl) (by kernel_rfl) (fun _ _ _ h => h) (Or.inl ⟨by rfl, ?_⟩) ?_
        rotate_left
        · (intro W; go_simp; try (with_reducible rfl))
        refine wpAny_take (i := 16) (v := ?_) rfl (by kernel_rfl) (by kernel_rfl) (by kernel_rfl) (fun _ _ _ h => h) (Or.inl ⟨by rfl, ?_⟩) ?_
        rotate_left
        · (intro W; go_simp; try (with_reducible rfl))
        refine wpAny_take (i := 17) (v := ?_) rfl (by kernel_rfl) (by kernel_rfl) (by kernel_rfl) (fun _ _ _ h => h) (Or.inl ⟨by rfl, ?_⟩) ?_
        rotate_left
        · (intro W; go_simp; try (with_reducible rfl))
        refine wpAny_take (i := 18) (v := ?_) rfl (by kernel_rfl) (by kernel_rfl) (by kernel_rfl) (fun _ _ _ h => h) (Or.inl ⟨by rfl, ?_⟩) ?_
        rotate_left
        · (intro W; go_simp; try (with_reducible rfl))
        refine wpAny_take (i := 19) (v := ?_) rfl (by kernel_rfl) (by kernel_rfl) (by kernel_rfl) (fun _ _ _ h => h) (Or.inl ⟨by rfl, ?_⟩) ?_
        rotate_left
        · (intro W; go_simp; try (with_reducible rfl))
        refine wpAny_take (i := 20) (v := ?_) rfl (by kernel_rfl) (by kernel_rfl) (by kernel_rfl) (fun _ _ _ h => h) (Or.inl ⟨by rfl, ?_⟩) ?_
        rotate_left
        · (intro W; go_simp; try (with_reducible rfl))
        refine wpAny_take (i := 21) (v := ?_) rfl (by kernel_rfl) (by kernel_rfl) (by kernel_rfl) (fun _ _ _ h => h) (Or.inl ⟨by rfl, ?_⟩) ?_
        rotate_left
        · (intro W; go_simp; try (with_reducible rfl))
        refine wpAny_take (i := 22) (v := ?_) rfl (by kernel_rfl) (by kernel_rfl) (by kernel_rfl) (fun _ _ _ h => h) (Or.inl ⟨by rfl, ?_⟩) ?_
        rotate_left
        · (intro W; go_simp; try (with_reducible rfl))
        refine wpAny_take (i := 23) (v := ?_) rfl (by kernel_rfl) (by kernel_rfl) (by kernel_rfl) (fun _ _ _ h => h) (Or.inl ⟨by rfl, ?_⟩) ?_
        rotate_left
        · (intro W; go_simp; try (with_reducible rfl))
        refine wpAny_take (i := 24) (v := ?_) rfl (by kernel_rfl) (by kernel_rfl) (by kernel_rfl) (fun _ _ _ h => h) (Or.inl ⟨by rfl, ?_⟩) ?_
        rotate_left
        · (intro W; go_simp; try (with_reducible rfl))
        refine wpAny_take (i := 25) (v := ?_) rfl (by kernel_rfl) (by kernel_rfl) (by kernel_rfl) (fun _ _ _ h => h) (Or.inl ⟨by rfl, ?_⟩) ?_
        rotate_left
        · (intro W; go_simp; try (with_reducible rfl))
        refine wpAny_take (i := 26) (v := ?_) rfl (by kernel_rfl) (by kernel_rfl) (by kernel_rfl) (fun _ _ _ h => h) (Or.inl ⟨by rfl, ?_⟩) ?_
        rotate_left
        · (intro W; go_simp; try (with_reducible rfl))
        refine wpAny_take (i := 27) (v := ?_) rfl (by kernel_rfl) (by kernel_rfl) (by kernel_rfl) (fun _ _ _ h => h) (Or.inl ⟨by rfl, ?_⟩) ?_
        rotate_left
        · (intro W; go_simp; try (with_reducible rfl))
        refine wpAny_take (i := 28) (v := ?_) rfl (by kernel_rfl) (by kernel_rfl) (by kernel_rfl) (fun _ _ _ h => h) (Or.inl ⟨by rfl, ?_⟩) ?_
        rotate_left
        · (intro W; go_simp; try (with_reducible rfl))
        refine wpAny_take (i := 29) (v := ?_) rfl (by kernel_rfl) (by kernel_rfl) (by kernel_rfl) (fun _ _ _ h => h) (Or.inl ⟨by rfl, ?_⟩) ?_
        rotate_left
        · (intro W; go_simp; try (with_reducible rfl))
        refine wpAny_ready (rs := [30]) (by kernel_rfl) (by simp) ?_
        refine AllReady.cons rfl (fun K hK => ?_) AllReady.nil
        go_simp
        refine hK _ _ ?_
        clear hK K
        refine wpAny_ready (rs := [31]) (by kernel_rfl) (by simp) ?_
        refine AllReady.cons rfl (fun K hK => ?_) AllReady.nil
        refine step_append_lies _ (by rfl) _ _ _ (by rfl) w.heap.size 219 i0 _ 1 4 Tryz.underlying236 hi0 hz0 hz1 hz2 rfl (by omega) _ t _ (by rfl) ((hown.alloc _).drew) ⟨wr.heap.size, 0, none⟩ 1 1 [.int .u32 (V (w8 y0 <<< 24 + w8 y1 <<< 16 + w8 y2 <<< 8 + w8 y3))] (by rfl) (by rfl) (World.news_of_block (cs := #[.int .u32 (V (w8 y0 <<< 24 + w8 y1 <<< 16 + w8 y2 <<< 8 + w8 y3))]) (t := 219) (fr := (0, 0)) (heap_alloc_new wr _)) (by simp [Value.oneCell']) (by omega) (by unfold maxLen; omega) (by omega) (by simp; omega) (wr.heap.size + 1) (by simp) ?_
        intro gg cap w1 hown1 hgrow hat hgl
        try go_simp
        refine hK _ _ ?_
        clear hK K
        refine wpAny_take (i := 32) (v := ?_) rfl (by kernel_rfl) (by kernel_rfl) (by kernel_rfl) (fun _ _ _ h => h) (Or.inl ⟨by rfl, ?_⟩) ?_
        rotate_left
        · (intro W; go_simp; try (with_reducible rfl))
        refine wpAny_done (by kernel_rfl) ?_ _
        go_wp2_with fail
        go_roundw
        case rel => exact ⟨t + 1, by omega, by go_num, by rw [wcells_own m t h16', ← HW.out]; exact hown1, ((hb.alloc (by omega) _).drew).grown hgrow (by simp; omega) (fun k hk => (hown.lt k hk).1)⟩
        case measure => simp [intOf]; omega
      · have hge : 16 ≤ t := by omega
        obtain ⟨gg, cap, rfl, hgb, hgl⟩ := hown.form (by omega)
        have hcell : ∀ j, j < t → wr.cell? ⟨gg, j, none⟩ = some (.int .u32 (V (ww m j))) := fun j hj => wcell hown hj
        have c15 := hcell (t - 15) (by omega)
        have c2 := hcell (t - 2) (by omega)
        have c16 := hcell (t - 16) (by omega)
        have c7 := hcell (t - 7) (by omega)
        obtain ⟨x15, g15⟩ : ∃ y, y = ww m (t - 15) := ⟨_, rfl⟩
        obtain ⟨x2, g2⟩ : ∃ y, y = ww m (t - 2) := ⟨_, rfl⟩
        obtain ⟨x16, g16⟩ : ∃ y, y = ww m (t - 16) := ⟨_, rfl⟩
        obtain ⟨x7, g7⟩ : ∃ y, y = ww m (t - 7) := ⟨_, rfl⟩
        rw [← g15] at c15
        rw [← g2] at c2
        rw [← g16] at c16
        rw [← g7] at c7
        have h16' := h16
        have HG := Lib.hid (And.intro g15 (And.intro g2 (And.intro g16 g7)))
        have hbs := hb.size
        clear g15 g2 g16 g7 hcell hm h16
        go_wp2_with fail
        obtain ⟨k16, hk16⟩ : ∃ k, k = t - 16 := ⟨_, rfl⟩
        obtain ⟨k7, hk7⟩ : ∃ k, k = t - 7 := ⟨_, rfl⟩
        rw [← hk16] at c16
        rw [← hk7] at c7
        have e16 : IntKind.i64.wrap ((t : Int) - 16) = (k16 : Int) := by rw [IntWalk.i64_in _ (by omega)]; omega
        have e7 : IntKind.i64.wrap ((t : Int) - 7) = (k7 : Int) := by rw [IntWalk.i64_in _ (by omega)]; omega
        have b16 : (k16 : Int) < t := by omega
        have b7 : (k7 : Int) < t := by omega
        have HX : Hid ((x16 + (ror x15 7 ^^^ ror x15 18 ^^^ x15 >>> 3) + x7 + (ror x2 17 ^^^ ror x2 19 ^^^ x2 >>> 10)) = ww m t) := by
          show _ = _
          rw [ww_next m t h16', HG.out.1, HG.out.2.1, HG.out.2.2.1, HG.out.2.2.2]
        have HXX : Hid ((wcells (sched m t))[k16]? = some (.int .u32 (V x16)) ∧ (wcells (sched m t))[k7]? = some (.int .u32 (V x7))) := by
          refine (⟨?_, ?_⟩ : _ ∧ _)
          · rw [HG.out.2.2.1, hk16]; exact wget m t _ (by omega)
          · rw [HG.out.2.2.2, hk7]; exact wget m t _ (by omega)
        clear c15 c2 hk16 hk7
        refine wp_region_held (S := fun W => W.cell? ⟨gg, k16, none⟩ = some (.int .u32 (V x16)) ∧ W.cell? ⟨gg, k7, none⟩ = some (.int .u32 (V x7))) (by kernel_rfl) ?_
        change wpAnyH _ _ _ _ _ _ _ _ (World.drew _)
        refine wpAnyH_take (i := 0) (v := ?_) rfl (by kernel_rfl) (by kernel_rfl) (by kernel_rfl) (fun _ _ _ h => h) (Or.inl ⟨by rfl, ?_⟩) ⟨c16, c7⟩ ?_
        rotate_left
        · (intro W hS; obtain ⟨s16, s7⟩ := hS; go_simp; try (with_reducible rfl))
        refine wpAnyH_take (i := 1) (v := ?_) rfl (by kernel_rfl) (by kernel_rfl) (by kernel_rfl) (fun _ _ _ h => h) (Or.inl ⟨by rfl, ?_⟩) ⟨c16, c7⟩ ?_
        rotate_left
        · (intro W hS; obtain ⟨s16, s7⟩ := hS; go_simp; try (with_reducible rfl))
        refine wpAnyH_take (i := 2) (v := ?_) rfl (by kernel_rfl) (by kernel_rfl) (by kernel_rfl) (fun _ _ _ h => h) (Or.inl ⟨by rfl, ?_⟩) ⟨c16, c7⟩ ?_
        rotate_left
        · (intro W hS; obtain ⟨s16, s7⟩ := hS; go_simp; try (with_reducible rfl))
        refine wpAnyH_take (i := 3) (v := ?_) rfl (by kernel_rfl) (by kernel_rfl) (by kernel_rfl) (fun _ _ _ h => h) (Or.inl ⟨by rfl, ?_⟩) ⟨c16, c7⟩ ?_
        rotate_left
        · (intro W hS; obtain ⟨s16, s7⟩ := hS; go_simp; try (with_reducible rfl))
        refine wpAnyH_take (i := 4) (v := ?_) rfl (by kernel_rfl) (by kernel_rfl) (by kernel_rfl) (fun _ _ _ h => h) (Or.inl ⟨by rfl, ?_⟩) ⟨c16, c7⟩ ?_
        rotate_left
        · (intro W hS; obtain ⟨s16, s7⟩ := hS; go_simp; try (with_reducible rfl))
        refine wpAnyH_take (i := 5) (v := ?_) rfl (by kernel_rfl) (by kernel_rfl) (by kernel_rfl) (fun _ _ _ h => h) (Or.inl ⟨by rfl, ?_⟩) ⟨c16, c7⟩ ?_
        rotate_left
        · (intro W hS; obtain ⟨s16, s7⟩ := hS; go_simp; try (with_reducible rfl))
        refine wpAnyH_take (i := 6) (v := ?_) rfl (by kernel_rfl) (by kernel_rfl) (by kernel_rfl) (fun _ _ _ h => h) (Or.inl ⟨by rfl, ?_⟩) ⟨c16, c7⟩ ?_
        rotate_left
        · (intro W hS; obtain ⟨s16, s7⟩ := hS; go_simp; try (with_reducible rfl))
        refine wpAnyH_take (i := 8) (v := ?_) rfl (by kernel_rfl) (by kernel_rfl) (by kernel_rfl) (fun _ _ _ h => h) (Or.inl ⟨by rfl, ?_⟩) ⟨c16, c7⟩ ?_
        rotate_left
        · (intro W hS; obtain ⟨s16, s7⟩ := hS; go_simp; try (with_reducible rfl))
        refine wpAnyH_take (i := 11) (v := ?_) rfl (by kernel_rfl) (by kernel_rfl) (by kernel_rfl) (fun _ _ _ h => h) (Or.inl ⟨by rfl, ?_⟩) ⟨c16, c7⟩ ?_
        rotate_left
        · (intro W hS; obtain ⟨s16, s7⟩ := hS; go_simp; try (with_reducible rfl))
        refine wpAnyH_take (i := 12) (v := ?_) rfl (by kernel_rfl) (by kernel_rfl) (by kernel_rfl) (fun _ _ _ h => h) (Or.inl ⟨by rfl, ?_⟩) ⟨c16, c7⟩ ?_
        rotate_left
        · (intro W hS; obtain ⟨s16, s7⟩ := hS; go_simp; try (with_reducible rfl))
        refine wpAnyH_take (i := 15) (v := ?_) rfl (by kernel_rfl) (by kernel_rfl) (by kernel_rfl) (fun _ _ _ h => h) (Or.inl ⟨by rfl, ?_⟩) ⟨c16, c7⟩ ?_
        rotate_left
        · (intro W hS; obtain ⟨s16, s7⟩ := hS; go_simp; try (with_reducible rfl))
        refine wpAnyH_take (i := 16) (v := ?_) rfl (by kernel_rfl) (by kernel_rfl) (by kernel_rfl) (fun _ _ _ h => h) (Or.inl ⟨by rfl, ?_⟩) ⟨c16, c7⟩ ?_
        rotate_left
        · (intro W hS; obtain ⟨s16, s7⟩ := hS; go_simp; try (with_reducible rfl))
        refine wpAnyH_take (i := 17) (v := ?_) rfl (by kernel_rfl) (by kernel_rfl) (by kernel_rfl) (fun _ _ _ h => h) (Or.inl ⟨by rfl, ?_⟩) ⟨c16, c7⟩ ?_
        rotate_left
        · (intro W hS; obtain ⟨s16, s7⟩ := hS; go_simp; try (with_reducible rfl))
        refine wpAnyH_take (i := 18) (v := ?_) rfl (by kernel_rfl) (by kernel_rfl) (by kernel_rfl) (fun _ _ _ h => h) (Or.inl ⟨by rfl, ?_⟩) ⟨c16, c7⟩ ?_
        rotate_left
        · (intro W hS; obtain ⟨s16, s7⟩ := hS; go_simp; try (with_reducible rfl))
        refine wpAnyH_take (i := 19) (v := ?_) rfl (by kernel_rfl) (by kernel_rfl) (by kernel_rfl) (fun _ _ _ h => h) (Or.inl ⟨by rfl, ?_⟩) ⟨c16, c7⟩ ?_
        rotate_left
        · (intro W hS; obtain ⟨s16, s7⟩ := hS; go_simp; try (with_reducible rfl))
        refine wpAnyH_take (i := 21) (v := ?_) rfl (by kernel_rfl) (by kernel_rfl) (by kernel_rfl) (fun _ _ _ h => h) (Or.inl ⟨by rfl, ?_⟩) ⟨c16, c7⟩ ?_
        rotate_left
        · (intro W hS; obtain ⟨s16, s7⟩ := hS; go_simp; try (with_reducible rfl))
        refine wpAnyH_take (i := 23) (v := ?_) rfl (by kernel_rfl) (by kernel_rfl) (by kernel_rfl) (fun _ _ _ h => h) (Or.inl ⟨by rfl, ?_⟩) ⟨c16, c7⟩ ?_
        rotate_left
        · (intro W hS; obtain ⟨s16, s7⟩ := hS; go_simp; try (with_reducible rfl))
        refine wpAnyH_take (i := 26) (v := ?_) rfl (by kernel_rfl) (by kernel_rfl) (by kernel_rfl) (fun _ _ _ h => h) (Or.inl ⟨by rfl, ?_⟩) ⟨c16, c7⟩ ?_
        rotate_left
        · (intro W hS; obtain ⟨s16, s7⟩ := hS; go_simp; try (with_reducible rfl))
        refine wpAnyH_take (i := 27) (v := ?_) rfl (by kernel_rfl) (by kernel_rfl) (by kernel_rfl) (fun _ _ _ h => h) (Or.inl ⟨by rfl, ?_⟩) ⟨c16, c7⟩ ?_
        rotate_left
        · (intro W hS; obtain ⟨s16, s7⟩ := hS; go_simp; try (with_reducible rfl))
        refine wpAnyH_ready (rs := [7]) (by kernel_rfl) (by simp) ?_
        refine AllReadyH.cons rfl (fun K hK => ?_) AllReadyH.nil
        go_simp
        refine (rright_any x15 7 (by decide) (by decide) _).mono ?_
        rintro e w' ⟨rfl, rfl⟩
        refine hK.out _ _ ⟨c16, c7⟩ (fun _ => ?_)
        clear hK K
        refine wpAnyH_ready (rs := [9]) (by kernel_rfl) (by simp) ?_
        refine AllReadyH.cons rfl (fun K hK => ?_) AllReadyH.nil
        go_simp
        refine (rright_any x15 18 (by decide) (by decide) _).mono ?_
        rintro e w' ⟨rfl, rfl⟩
        refine hK.out _ _ ⟨c16, c7⟩ (fun _ => ?_)
        clear hK K
        refine wpAnyH_take (i := 10) (v := ?_) rfl (by kernel_rfl) (by kernel_rfl) (by kernel_rfl) (fun _ _ _ h => h) (Or.inl ⟨by rfl, ?_⟩) ⟨c16, c7⟩ ?_
        rotate_left
        · (intro W hS; obtain ⟨s16, s7⟩ := hS; go_simp; try (with_reducible rfl))
        refine wpAnyH_take (i := 13) (v := ?_) rfl (by kernel_rfl) (by kernel_rfl) (by kernel_rfl) (fun _ _ _ h => h) (Or.inl ⟨by rfl, ?_⟩) ⟨c16, c7⟩ ?_
        rotate_left
        · (intro W hS; obtain ⟨s16, s7⟩ := hS; go_simp; try (with_reducible rfl))
        refine wpAnyH_take (i := 14) (v := ?_) rfl (by kernel_rfl) (by kernel_rfl) (by kernel_rfl) (fun _ _ _ h => h) (Or.inl ⟨by rfl, ?_⟩) ⟨c16, c7⟩ ?_
        rotate_left
        · (intro W hS; obtain ⟨s16, s7⟩ := hS; go_simp; try (with_reducible rfl))
        refine wpAnyH_take (i := 20) (v := ?_) rfl (by kernel_rfl) (by kernel_rfl) (by kernel_rfl) (fun _ _ _ h => h) (Or.inl ⟨by rfl, ?_⟩) ⟨c16, c7⟩ ?_
        rotate_left
        · (intro W hS; obtain ⟨s16, s7⟩ := hS; go_simp; try (with_reducible rfl))
        refine wpAnyH_ready (rs := [22]) (by kernel_rfl) (by simp) ?_
        refine AllReadyH.cons rfl (fun K hK => ?_) AllReadyH.nil
        go_simp
        refine (rright_any x2 17 (by decide) (by decide) _).mono ?_
        rintro e w' ⟨rfl, rfl⟩
        refine hK.out _ _ ⟨c16, c7⟩ (fun _ => ?_)
        clear hK K
        refine wpAnyH_ready (rs := [24]) (by kernel_rfl) (by simp) ?_
        refine AllReadyH.cons rfl (fun K hK => ?_) AllReadyH.nil
        go_simp
        refine (rright_any x2 19 (by decide) (by decide) _).mono ?_
        rintro e w' ⟨rfl, rfl⟩
        refine hK.out _ _ ⟨c16, c7⟩ (fun _ => ?_)
        clear hK K
        refine wpAnyH_take (i := 25) (v := ?_) rfl (by kernel_rfl) (by kernel_rfl) (by kernel_rfl) (fun _ _ _ h => h) (Or.inl ⟨by rfl, ?_⟩) ⟨c16, c7⟩ ?_
        rotate_left
        · (intro W hS; obtain ⟨s16, s7⟩ := hS; go_simp; try (with_reducible rfl))
        refine wpAnyH_take (i := 28) (v := ?_) rfl (by kernel_rfl) (by kernel_rfl) (by kernel_rfl) (fun _ _ _ h => h) (Or.inl ⟨by rfl, ?_⟩) ⟨c16, c7⟩ ?_
        rotate_left
        · (intro W hS; obtain ⟨s16, s7⟩ := hS; go_simp; try (with_reducible rfl))
        refine wpAnyH_take (i := 29) (v := ?_) rfl (by kernel_rfl) (by kernel_rfl) (by kernel_rfl) (fun _ _ _ h => h) (Or.inl ⟨by rfl, ?_⟩) ⟨c16, c7⟩ ?_
        rotate_left
        · (intro W hS; obtain ⟨s16, s7⟩ := hS; go_simp; try (with_reducible rfl))
        refine wpAnyH_ready (rs := [30]) (by kernel_rfl) (by simp) ?_
        refine AllReadyH.cons rfl (fun K hK => ?_) AllReadyH.nil
        go_simp
        refine hK.out _ _ ⟨cellA c16, cellA c7⟩ (fun _ => ?_)
        clear hK K
        refine wpAnyH_ready (rs := [31]) (by kernel_rfl) (by simp) ?_
        refine AllReadyH.cons rfl (fun K hK => ?_) AllReadyH.nil
        refine step_append_keeps _ (by rfl) _ _ _ (by rfl) w.heap.size 219 i0 _ 1 4 Tryz.underlying236 hi0 hz0 hz1 hz2 rfl (by omega) _ t _ (by rfl) ((hown.alloc _).drew) ⟨wr.heap.size, 0, none⟩ 1 1 [.int .u32 (V (x16 + (ror x15 7 ^^^ ror x15 18 ^^^ x15 >>> 3) + x7 + (ror x2 17 ^^^ ror x2 19 ^^^ x2 >>> 10)))] (by rfl) (by rfl) (World.news_of_block (cs := #[.int .u32 (V (x16 + (ror x15 7 ^^^ ror x15 18 ^^^ x15 >>> 3) + x7 + (ror x2 17 ^^^ ror x2 19 ^^^ x2 >>> 10)))]) (t := 219) (fr := (0, 0)) (heap_alloc_new wr _)) (by simp [Value.oneCell']) (by omega) (by unfold maxLen; omega) (by omega) (by simp; omega) (wr.heap.size + 1) (by simp) ?_
        intro g2 cap2 w1 hown1 hgrow hat hgl2 hkeep
        try go_simp
        have n16 : w1.cell? ⟨gg, k16, none⟩ = some (.int .u32 (V x16)) := hkeep gg k16 _ rfl HXX.out.1
        have n7 : w1.cell? ⟨gg, k7, none⟩ = some (.int .u32 (V x7)) := hkeep gg k7 _ rfl HXX.out.2
        refine hK.out _ _ ⟨n16, n7⟩ (fun _ => ?_)
        clear hK K
        refine wpAnyH_take (i := 32) (v := ?_) rfl (by kernel_rfl) (by kernel_rfl) (by kernel_rfl) (fun _ _ _ h => h) (Or.inl ⟨by rfl, ?_⟩) ⟨n16, n7⟩ ?_
        rotate_left
        · (intro W hS; go_simp; try (with_reducible rfl))
        refine wpAnyH_done (by kernel_rfl) ?_ _
        go_wp2_with fail
        go_roundw
        case rel => exact ⟨t + 1, by omega, by go_num, by rw [wcells_ww m t h16', ← HX.out]; exact hown1, ((hb.alloc (by omega) _).drew).grown hgrow (by simp; omega) (fun k hk => (hown.lt k hk).1)⟩
        case measure => simp [intOf]; omega
    · obtain rfl : t = 64 := by omega
      obtain ⟨gg, cap, rfl, hgb, hgl⟩ := hown.form (by omega)
      have hcell : ∀ j, j < 64 → wr.cell? ⟨gg, j, none⟩ = some (.int .u32 (V (ww m j))) := fun j hj => wcell hown hj
      go_wp2_with fail
      refine (keys_any _).mono ?_
      rintro e w2 ⟨rfl, hw2⟩
      obtain ⟨wo, rfl⟩ : ∃ wo : World, wo = wr := ⟨_, rfl⟩
      have hS : TakeMid m st sb so w wo w2 gg := TakeMid.start hb hgl hcell hs hw2
      obtain ⟨B, hB⟩ : ∃ B, B = wo.heap.size := ⟨_, rfl⟩
      rw [← hB]
      have HB := Lib.hid hB
      clear hw2 hB hcell hown hb hgb hgl
      have hs0 : w2.cell? ⟨sb, so, none⟩ = some (.int .u32 (V (st.get 0))) := hS.scell 0 (by omega)
      have hs1 := hS.scell 1 (by omega)
      have hs2 := hS.scell 2 (by omega)
      have hs3 := hS.scell 3 (by omega)
      have hs4 := hS.scell 4 (by omega)
      have hs5 := hS.scell 5 (by omega)
      have hs6 := hS.scell 6 (by omega)
      have hs7 := hS.scell 7 (by omega)
      go_wp2_with fail
      refine wp_region_still_tail 24 (by kernel_rfl) (by kernel_rfl) ?_
      simp only [List.take_succ_cons, List.take_zero, List.drop_succ_cons, List.drop_zero]
      repeat still_step
      refine wpStill_nil ?_
      change wpList _ _ _ _ _ w2.drew
      go_wp2_with fail
      clear hs0 hs1 hs2 hs3 hs4 hs5 hs6 hs7
      have hL : ∀ W, W = (w2.alloc (.cells (cells8 st) 219)).drew → LInv w2 W w2.heap.size (rounds m st 0) := fun W h => by subst h; exact LInv.start w2 st
      generalize hW : World.drew _ = w3
      have hL3 := hL w3 hW.symm
      clear hL hW
      go_loopw [10, 11] (fun v c wr => ∃ t : Nat, t ≤ 64 ∧ c = .int .i64 t ∧ ∃ gl, v = .slice (some ⟨gl, 0, none⟩) 8 8 ∧ LInv w2 wr gl (rounds m st t)) (fun _ c _ => 64 - (intOf c).toNat)
      case atStart => exact ⟨0, by omega, rfl, _, rfl, hL3⟩
      case round =>
        clear hL3
        obtain ⟨t, ht, rfl, gl, rfl, hI⟩ := hrel
        obtain ⟨q, hq⟩ : ∃ q, q = rounds m st t := ⟨_, rfl⟩
        rw [← hq] at hI
        have HQ := Lib.hid hq
        clear hq
        by_cases hlt : t < 64
        · have tl : (t : Int) < 64 := by omega
          obtain ⟨kt, hkt⟩ : ∃ k, k = kk t := ⟨_, rfl⟩
          obtain ⟨xt, hxt⟩ : ∃ k, k = ww m t := ⟨_, rfl⟩
          have ck : wr.cell? ⟨B, t, none⟩ = some (.int .u32 (V kt)) := by rw [HB.out, hkt]; exact hI.old (hS.kcell t hlt)
          have cw : wr.cell? ⟨gg, t, none⟩ = some (.int .u32 (V xt)) := by rw [hxt]; exact hI.old (hS.wcell t hlt)
          have HK := Lib.hid (And.intro hxt hkt)
          clear hkt hxt
          have c0 := hI.cell 0 (by omega)
          have c4 := hI.cell 4 (by omega)
          have c5 := hI.cell 5 (by omega)
          have c6 := hI.cell 6 (by omega)
          have c7 := hI.cell 7 (by omega)
          go_wp2_with fail
          go_quiet ((go_at_call 198; exact Calls.quiet_of_same (rright_still _ _ (by decide) (by decide) _)))
          clear ck cw c0 c4 c5 c6 c7
          generalize hW : World.drewN _ _ = W5
          have hI5 : LInv w2 W5 gl q := by rw [← hW]; exact hI.drewN _
          clear hW hI
          have c1 := hI5.cell 1 (by omega)
          have c2 := hI5.cell 2 (by omega)
          go_wp2_with fail
          go_quiet ((go_at_call 198; exact Calls.quiet_of_same (rright_still _ _ (by decide) (by decide) _)))
          clear c1 c2
          generalize hW : World.drewN _ _ = W6
          have hI6 : LInv w2 W6 gl q := by rw [← hW]; exact hI5.drewN _
          clear hW hI5
          have c0 := hI6.cell 0 (by omega)
          have c1 := hI6.cell 1 (by omega)
          have c2 := hI6.cell 2 (by omega)
          have c3 := hI6.cell 3 (by omega)
          have c4 := hI6.cell 4 (by omega)
          have c5 := hI6.cell 5 (by omega)
          have c6 := hI6.cell 6 (by omega)
          go_wp2_with fail
          refine wp_region_still_tail 26 (by kernel_rfl) (by kernel_rfl) ?_
          simp only [List.take_succ_cons, List.take_zero, List.drop_succ_cons, List.drop_zero]
          repeat still_step
          refine wpStill_nil ?_
          change wpList _ _ _ _ _ W6.drew
          clear c0 c1 c2 c3 c4 c5 c6
          go_wp2_with fail
          go_roundw
          case rel => exact ⟨t + 1, by omega, by go_num, _, rfl, hI6.next (by rw [rounds, ← HQ.out, ← HK.out.1, ← HK.out.2]) rfl⟩
          case measure => simp [intOf]; omega
        · have HT := Lib.hid (show t = 64 by omega)
          go_wp2_with fail
          obtain ⟨wb, rfl⟩ : ∃ wb : World, wb = wr := ⟨_, rfl⟩
          have hsum : ∀ i, i < 8 → (st.add q).get i = st.get i + q.get i := fun i _ => St.get_add st q i
          have hlb := hI.lt
          have hsb : sb < wb.heap.size := World.block_lt_of_cell? wb _ (hI.old (hS.scell 0 (by omega)))
          go_loopw [16, 17] (fun v c wr => ∃ i : Nat, i ≤ 8 ∧ c = .int .i64 i ∧ wr.ownsRow wb.heap.size 219 1 v i (sumCells st q i) ∧ Below wb.heap.size wb wr) (fun _ c _ => 8 - (intOf c).toNat)
          case atStart => exact ⟨0, by omega, rfl, World.ownsRow_nil _ _ _ _, Below.refl _ _⟩
          case round =>
            obtain ⟨i, hi, rfl, hown, hbb⟩ := hrel
            by_cases hlt8 : i < 8
            · have ca : wr.cell? ⟨sb, so + i, none⟩ = some (.int .u32 (V (st.get i))) := (hbb.cell (p := ⟨sb, so + i, none⟩) hsb).trans (hI.old (hS.scell i hlt8))
              have cb : wr.cell? ⟨gl, i, none⟩ = some (.int .u32 (V (q.get i))) := (hbb.cell (p := ⟨gl, i, none⟩) hlb).trans (hI.cell i hlt8)
              obtain ⟨xa, ha⟩ : ∃ x, x = st.get i := ⟨_, rfl⟩
              obtain ⟨xb, hb'⟩ : ∃ x, x = q.get i := ⟨_, rfl⟩
              rw [← ha] at ca
              rw [← hb'] at cb
              have HX := Lib.hid (And.intro ha hb')
              have hbs := hbb.size
              have bi : (i : Int) < 8 := by omega
              clear ha hb' hsum
              go_wp2_with fail
              refine wp_region_held (S := fun W => W.cell? ⟨sb, so + i, none⟩ = some (.int .u32 (V xa)) ∧ W.cell? ⟨gl, i, none⟩ = some (.int .u32 (V xb))) (by kernel_rfl) ?_
              change wpAnyH _ _ _ _ _ _ _ _ (World.drew _)
              refine wpAnyH_take (i := 0) (v := ?_) rfl (by kernel_rfl) (by kernel_rfl) (by kernel_rfl) (fun _ _ _ h => h) (Or.inl ⟨by rfl, ?_⟩) ⟨ca, cb⟩ ?_
              rotate_left
              · (intro W hS; obtain ⟨sa, sb'⟩ := hS; go_simp; try (with_reducible rfl))
              refine wpAnyH_take (i := 1) (v := ?_) rfl (by kernel_rfl) (by kernel_rfl) (by kernel_rfl) (fun _ _ _ h => h) (Or.inl ⟨by rfl, ?_⟩) ⟨ca, cb⟩ ?_
              rotate_left
              · (intro W hS; obtain ⟨sa, sb'⟩ := hS; go_simp; try (with_reducible rfl))
              refine wpAnyH_take (i := 2) (v := ?_) rfl (by kernel_rfl) (by kernel_rfl) (by kernel_rfl) (fun _ _ _ h => h) (Or.inl ⟨by rfl, ?_⟩) ⟨ca, cb⟩ ?_
              rotate_left
              · (intro W hS; obtain ⟨sa, sb'⟩ := hS; go_simp; try (with_reducible rfl))
              refine wpAnyH_take (i := 3) (v := ?_) rfl (by kernel_rfl) (by kernel_rfl) (by kernel_rfl) (fun _ _ _ h => h) (Or.inl ⟨by rfl, ?_⟩) ⟨ca, cb⟩ ?_
              rotate_left
              · (intro W hS; obtain ⟨sa, sb'⟩ := hS; go_simp; try (with_reducible rfl))
              refine wpAnyH_take (i := 4) (v := ?_) rfl (by kernel_rfl) (by kernel_rfl) (by kernel_rfl) (fun _ _ _ h => h) (Or.inl ⟨by rfl, ?_⟩) ⟨ca, cb⟩ ?_
              rotate_left
              · (intro W hS; obtain ⟨sa, sb'⟩ := hS; go_simp; try (with_reducible rfl))
              refine wpAnyH_take (i := 5) (v := ?_) rfl (by kernel_rfl) (by kernel_rfl) (by kernel_rfl) (fun _ _ _ h => h) (Or.inl ⟨by rfl, ?_⟩) ⟨ca, cb⟩ ?_
              rotate_left
              · (intro W hS; obtain ⟨sa, sb'⟩ := hS; go_simp; try (with_reducible rfl))
              refine wpAnyH_take (i := 6) (v := ?_) rfl (by kernel_rfl) (by kernel_rfl) (by kernel_rfl) (fun _ _ _ h => h) (Or.inl ⟨by rfl, ?_⟩) ⟨ca, cb⟩ ?_
              rotate_left
              · (intro W hS; obtain ⟨sa, sb'⟩ := hS; go_simp; try (with_reducible rfl))
              refine wpAnyH_take (i := 7) (v := ?_) rfl (by kernel_rfl) (by kernel_rfl) (by kernel_rfl) (fun _ _ _ h => h) (Or.inl ⟨by rfl, ?_⟩) ⟨ca, cb⟩ ?_
              rotate_left
              · (intro W hS; obtain ⟨sa, sb'⟩ := hS; go_simp; try (with_reducible rfl))
              refine wpAnyH_take (i := 8) (v := ?_) rfl (by kernel_rfl) (by kernel_rfl) (by kernel_rfl) (fun _ _ _ h => h) (Or.inl ⟨by rfl, ?_⟩) ⟨ca, cb⟩ ?_
              rotate_left
              · (intro W hS; obtain ⟨sa, sb'⟩ := hS; go_simp; try (with_reducible rfl))
              refine wpAnyH_take (i := 9) (v := ?_) rfl (by kernel_rfl) (by kernel_rfl) (by kernel_rfl) (fun _ _ _ h => h) (Or.inl ⟨by rfl, ?_⟩) ⟨ca, cb⟩ ?_
              rotate_left
              · (intro W hS; obtain ⟨sa, sb'⟩ := hS; go_simp; try (with_reducible rfl))
              refine wpAnyH_ready (rs := [10]) (by kernel_rfl) (by simp) ?_
              refine AllReadyH.cons rfl (fun K hK => ?_) AllReadyH.nil
              go_simp
              refine hK.out _ _ ⟨cellA ca, cellA cb⟩ (fun _ => ?_)
              clear hK K
              refine wpAnyH_ready (rs := [11]) (by kernel_rfl) (by simp) ?_
              refine AllReadyH.cons rfl (fun K hK => ?_) AllReadyH.nil
              refine step_append_keeps _ (by rfl) _ _ _ (by rfl) wb.heap.size 219 i0 _ 1 4 Tryz.underlying236 hi0 hz0 hz1 hz2 rfl (by omega) _ i _ (by rfl) ((hown.alloc _).drew) ⟨wr.heap.size, 0, none⟩ 1 1 [.int .u32 (V (xa + xb))] (by rfl) (by rfl) (World.news_of_block (cs := #[.int .u32 (V (xa + xb))]) (t := 219) (fr := (0, 0)) (heap_alloc_new wr _)) (by simp [Value.oneCell']) (by omega) (by unfold maxLen; omega) (by omega) (by simp; omega) (wr.heap.size + 1) (by simp) ?_
              intro g2 cap2 w1 hown1 hgrow hat hgl2 hkeep
              try go_simp
              have na : w1.cell? ⟨sb, so + i, none⟩ = some (.int .u32 (V xa)) := hgrow.cell (cellA ca) (fun e => by have := (hown.lt _ e.symm).1; simp at this; omega)
              have nb : w1.cell? ⟨gl, i, none⟩ = some (.int .u32 (V xb)) := hgrow.cell (cellA cb) (fun e => by have := (hown.lt _ e.symm).1; simp at this; omega)
              refine hK.out _ _ ⟨na, nb⟩ (fun _ => ?_)
              clear hK K
              refine wpAnyH_take (i := 12) (v := ?_) rfl (by kernel_rfl) (by kernel_rfl) (by kernel_rfl) (fun _ _ _ h => h) (Or.inl ⟨by rfl, ?_⟩) ⟨na, nb⟩ ?_
              rotate_left
              · (intro W hS; go_simp; try (with_reducible rfl))
              refine wpAnyH_done (by kernel_rfl) ?_ _
              go_wp2_with fail
              go_roundw
              case rel => exact ⟨i + 1, by omega, by go_num, by rw [sumCells_succ st q i, ← HX.out.1, ← HX.out.2]; exact hown1, ((hbb.alloc (by omega) _).drew).grown hgrow (by simp; omega) (fun k hk => (hown.lt k hk).1)⟩
              case measure => simp [intOf]; omega
            · obtain rfl : i = 8 := by omega
              obtain ⟨g, cap, rfl, hgb, hgl⟩ := hown.form (by omega)
              have hq64 : take st m = st.add q := by rw [take, HQ.out, HT.out]
              have hfin : ∀ j, j < 8 → wr.cell? ⟨g, j, none⟩ = some (.int .u32 (V ((take st m).get j))) := fun j hj => by
                rw [hq64]
                have h := hown.cells (g := g) rfl j _ (by rw [sumCells_get st q 8 j hj])
                rwa [Addr.add_mid, Nat.zero_add] at h
              have hbw : Below w.heap.size w wr := (hS.below.trans (hI.below.mono hS.below.size)).trans (hbb.mono (Nat.le_trans hS.below.size hI.below.size))
              clear hq64
              go_wp2_with fail
              go_ret
              exact ⟨g, cap, rfl, hfin, hbw⟩
end Go.Proofs.YtdfkpjmljaanpaaGreatDoor
namespace Go.Proofs.YtdfkpjmljaanpaaGreatDoor
theorem pad_stop (n c : Nat) (h1 : 1 ≤ c) (hc : c + 8 ≤ padLen n) : (n + c) % 64 = 56 ↔ c + 8 = padLen n := by
  have := padLen_bd n
  omega
theorem pad_first (n : Nat) : (padL n).take 1 = [128] := by
  have := padLen_bd n
  rw [List.take_one, List.head?_eq_getElem?, padL_get n 0 (by omega)]
  rfl
theorem pad_next (n c : Nat) (hc : c < padLen n) : (padL n).take (c + 1) = (padL n).take c ++ [padAt n c] := by
  rw [List.take_add_one, padL_get n c hc]; rfl
theorem pad_zero (n c : Nat) (h1 : 1 ≤ c) (hc : c + 8 < padLen n) : padAt n c = 0 := by
  rw [padAt, if_neg (by omega), if_pos hc]
theorem pad_byte (n i : Nat) (hi : i < 8) : padAt n (padLen n - 8 + i) = UInt8.ofNat (8 * n / 256 ^ (7 - i)) := by
  have := padLen_bd n
  rw [padAt, if_neg (by omega), if_neg (by omega), show padLen n - 1 - (padLen n - 8 + i) = 7 - i by omega]
theorem pad_all (n : Nat) : (padL n).take (padLen n) = padL n := List.take_of_length_le (by rw [padL_length]; exact Nat.le_refl _)
end Go.Proofs.YtdfkpjmljaanpaaGreatDoor
namespace Go.Proofs.YtdfkpjmljaanpaaGreatDoor
open Go.RowKit
theorem Tryz.info5 : (Tryz.prog.info? 5).map (fun i => (i.zero, i.size, i.bytes)) = some (some (.int .u8 0), 1, 1) := by kernel_rfl
def sliceLen : Value → Nat
  | .slice _ n _ => n
  | _ => 0
theorem pow_bound (k : Nat) (hk : k ≤ 7) : 256 ^ k ≤ 72057594037927936 := Nat.pow_le_pow_right (by decide) hk
theorem pow_bound6 (k : Nat) (hk : k ≤ 6) : 256 ^ k ≤ 281474976710656 := Nat.pow_le_pow_right (by decide) hk
theorem pow_pos256 (k : Nat) : 1 ≤ 256 ^ k := Nat.pow_pos (by decide)
theorem pow_step {P k : Nat} (h : P = 256 ^ k) : Value.int .u64 ((P : Int) * 256) = .int .u64 ((256 ^ (k + 1) : Nat) : Int) := by
  rw [Nat.pow_succ, ← h]; simp
theorem bcells_next (n c : Nat) (hc : c < padLen n) : bcells ((padL n).take (c + 1)) = bcells ((padL n).take c) ++ [.int .u8 ((padAt n c).toNat : Int)] := by
  rw [pad_next n c hc, bcells, List.map_append]; rfl
set_option maxRecDepth 100000 in
set_option maxHeartbeats 2000000 in
theorem padded_any (s : ByteArray) (hs : s.size < 1099511627776) (w : World) :
    Calls Tryz.prog 154 #[.string s] w fun e w' => e = .returned (.string (str (s.data.toList ++ padL s.size))) ∧ Below w.heap.size w w' := by
  obtain ⟨n, hn⟩ : ∃ n, n = s.size := ⟨_, rfl⟩
  obtain ⟨i0, hi0, hz0, hz1, hz2⟩ := info_parts Tryz.info5
  have hpb := padLen_bd n
  obtain ⟨L, hL⟩ : ∃ L, L = padLen n := ⟨_, rfl⟩
  rw [← hL] at hpb
  have HL := Lib.hid hL
  have HN := Lib.hid hn
  have hnb : n < 1099511627776 := by omega
  clear hL
  go_enter Tryz.func154, Tryz.ntmps154
  go_wp2_with (at_builtin; (refine wpList_append_lies _ rfl _ _ 107 rfl w.heap.size 5 i0 _ 1 1 Tryz.underlying107 hi0 hz0 hz1 hz2 rfl (by omega) (.slice none 0 0) 0 [] rfl (World.ownsRow_nil _ _ _ _) ⟨w.heap.size, 0, none⟩ 1 1 [.int .u8 128] rfl rfl (World.news_of_block (cs := #[.int .u8 128]) (t := 5) (fr := (0, 0)) (heap_alloc_new w _)) (by simp [Value.oneCell']) (by omega) (by unfold maxLen; omega) (by omega) (by simp) (w.heap.size + 1) (by simp) ?_); intro g cap w1 hown hgrow hat hgl)
  have hb1 : Below w.heap.size w w1 := ((Below.refl _ _).alloc (Nat.le_refl _) _).grown hgrow (by simp) (fun k hk => by cases hk)
  have hown1 : w1.ownsRow w.heap.size 5 1 (.slice (some ⟨g, 0, none⟩) 1 cap) 1 (bcells ((padL n).take 1)) := by rw [pad_first]; exact hown
  clear hown hgrow hat
  go_loopw [3] (fun v wr => ∃ c gg cp : Nat, 1 ≤ c ∧ c + 8 ≤ L ∧ v = .slice (some ⟨gg, 0, none⟩) c cp ∧ wr.ownsRow w.heap.size 5 1 (.slice (some ⟨gg, 0, none⟩) c cp) c (bcells ((padL n).take c)) ∧ Below w.heap.size w wr) (fun v _ => 80 - sliceLen v)
  case atStart => exact ⟨1, g, cap, by omega, by omega, rfl, hown1, hb1⟩
  case round =>
    clear hown1 hb1
    obtain ⟨c, gg, cp, hc1, hc2, rfl, hown, hb⟩ := hrel
    have hbs := hb.size
    have hst := pad_stop n c hc1 (by rw [← HL.out]; exact hc2)
    rw [← HL.out] at hst
    by_cases hend : c + 8 = L
    · have hz : ((((s.size : Nat) : Int) + (c : Int)) % 64 != 56) = false := by
        have := hst.2 hend
        rw [← HN.out, bne_eq_false_iff_eq]; omega
      clear hst hn
      go_wp2_with fail
      obtain ⟨wo, rfl⟩ : ∃ wo : World, wo = wr := ⟨_, rfl⟩
      have hcL := Lib.hid hend
      go_loopw [3, 5] (fun v iv wr => ∃ i gg cp : Nat, i ≤ 8 ∧ iv = .int .i64 i ∧ v = .slice (some ⟨gg, 0, none⟩) (c + i) cp ∧ wr.ownsRow w.heap.size 5 1 (.slice (some ⟨gg, 0, none⟩) (c + i) cp) (c + i) (bcells ((padL n).take (c + i))) ∧ Below w.heap.size w wr) (fun _ iv _ => 8 - (intOf iv).toNat)
      case atStart => exact ⟨0, gg, cp, by omega, rfl, rfl, hown, hb⟩
      case round =>
        clear hown hb hbs hend
        obtain ⟨i, g3, cp3, hi, rfl, rfl, hown, hb⟩ := hrel
        have hbs := hb.size
        by_cases hlt : i < 8
        · go_wp2_with fail
          go_loop [6, 7] (fun p j => ∃ k : Nat, i + k ≤ 7 ∧ j = .int .i64 ((i + k : Nat) : Int) ∧ p = .int .u64 ((256 ^ k : Nat) : Int)) (fun _ j => 7 - (intOf j).toNat)
          case atStart => exact ⟨0, by omega, rfl, rfl⟩
          case round =>
            obtain ⟨k, hk, rfl, rfl⟩ := hrel
            obtain ⟨P, hP⟩ : ∃ P, P = 256 ^ k := ⟨_, rfl⟩
            have hPb := pow_bound k (by omega)
            have hP1 := pow_pos256 k
            rw [← hP] at hPb hP1 ⊢
            have HP := Lib.hid hP
            have hP2 : (1 : Int) ≤ P := by omega
            have hP3 : (P : Int) ≤ 72057594037927936 := by omega
            clear hP
            obtain ⟨j, hj⟩ : ∃ j, j = i + k := ⟨_, rfl⟩
            rw [← hj] at hk ⊢
            have HJ := Lib.hid hj
            clear hj
            by_cases h7 : j < 7
            · have hP4 : (P : Int) ≤ 281474976710656 := by have := HJ.out; have := pow_bound6 k (by omega); rw [HP.out]; omega
              go_wp2_with fail
              go_round
              case rel => exact ⟨k + 1, by have := HJ.out; omega, by have := HJ.out; subst this; go_num, pow_step HP.out⟩
              case measure => simp [intOf]; omega
            · obtain ⟨D, hD⟩ : ∃ D, D = 8 * s.size / P := ⟨_, rfl⟩
              have hDi : 8 * (s.size : Int) / (P : Int) = (D : Int) := by rw [hD]; simp
              have hbyte : (D : Int) % 256 = ((padAt n (c + i)).toNat : Int) := by
                have h8 : c + i = padLen n - 8 + i := by have := hcL.out; have := HL.out; omega
                rw [hD, h8, pad_byte n i hlt, UInt8.toNat_ofNat', ← HN.out, HP.out, show 7 - i = k by have := HJ.out; omega]
                simp
              have HY := Lib.hid hbyte
              clear hD hbyte
              go_wp2_with (at_builtin; (refine wpList_append_lies _ rfl _ _ 107 rfl w.heap.size 5 i0 _ 1 1 Tryz.underlying107 hi0 hz0 hz1 hz2 rfl (by omega) _ (c + i) _ rfl (hown.alloc _) ⟨wr.heap.size, 0, none⟩ 1 1 [.int .u8 ((D : Int) % 256)] rfl rfl (World.news_of_block (cs := #[.int .u8 ((D : Int) % 256)]) (t := 5) (fr := (0, 0)) (heap_alloc_new wr _)) (by simp [Value.oneCell']) (by omega) (by unfold maxLen; omega) (by omega) (by simp; omega) (wr.heap.size + 1) (by simp) ?_); intro g4 cap4 w4 hown4 hgrow4 hat4 hgl4)
              go_roundw
              case rel => exact ⟨i + 1, g4, cap4, by omega, by go_num, rfl, by rw [← Nat.add_assoc, bcells_next n (c + i) (by rw [← HL.out]; have := hcL.out; omega), ← HY.out]; exact hown4, (hb.alloc (by omega) _).grown hgrow4 (by simp; omega) (fun k hk => (hown.lt k hk).1)⟩
              case measure => simp [intOf]; omega
        · have h8 : i = 8 := by omega
          have hci : c + i = padLen n := by rw [← HL.out]; have := hcL.out; omega
          have hcv : (convert 107 9 (.slice (some ⟨g3, 0, none⟩) (c + i) cp3)).run Tryz.prog wr = .ok (.string (str (padL n))) wr := by
            rw [← strOfNums_nums]
            refine run_convert_bytes_arg (P := Tryz.prog) (w := wr) 107 5 Tryz.underlying107 Tryz.underlying5 g3 0 (c + i) cp3 (nums (padL n)) ?_ (fun j hj => ?_) 9 Tryz.underlying9
            · rw [nums, List.length_map, padL_length, hci]
            · have h := hown.cells (g := g3) rfl j (.int .u8 ((padAt n j).toNat : Int)) (by
                rw [hci, pad_all, bcells, List.getElem?_map, padL_get n j (by omega)]; rfl)
              rw [Addr.add_mid] at h
              rw [h, nums, List.getD_eq_getElem?_getD, List.getElem?_map, padL_get n j (by omega)]
              rfl
          have hsz : ¬ 9223372036854775807 < s.size + (str (padL n)).size := by
            rw [str_size, padL_length, ← HL.out]; omega
          clear h8 hci hown
          go_wp2_with fail
          go_ret
          refine ⟨?_, hb⟩
          have e : s ++ str (padL n) = str (s.data.toList ++ padL s.size) := by
            rw [← HN.out]
            have := ByteArray.mk_append_mk s.data.toList (padL n)
            rwa [show (⟨s.data.toList.toArray⟩ : ByteArray) = s from str_of s] at this
          exact congrArg (fun x => Ending.returned (.string x)) e
    · have hz : ((((s.size : Nat) : Int) + (c : Int)) % 64 != 56) = true := by
        have : ¬ (n + c) % 64 = 56 := fun h => hend (hst.1 h)
        rw [← HN.out, bne_iff_ne]; omega
      clear hst hn
      go_wp2_with (at_builtin; (refine wpList_append_lies _ rfl _ _ 107 rfl w.heap.size 5 i0 _ 1 1 Tryz.underlying107 hi0 hz0 hz1 hz2 rfl (by omega) _ c _ rfl (hown.alloc _) ⟨wr.heap.size, 0, none⟩ 1 1 [.int .u8 0] rfl rfl (World.news_of_block (cs := #[.int .u8 0]) (t := 5) (fr := (0, 0)) (heap_alloc_new wr _)) (by simp [Value.oneCell']) (by omega) (by unfold maxLen; omega) (by omega) (by simp; omega) (wr.heap.size + 1) (by simp) ?_); intro g2 cap2 w2 hown2 hgrow2 hat2 hgl2)
      go_roundw
      case rel => exact ⟨c + 1, g2, cap2, by omega, by omega, rfl, by rw [bcells_next n c (by rw [← HL.out]; omega), pad_zero n c hc1 (by rw [← HL.out]; omega)]; exact hown2, (hb.alloc (by omega) _).grown hgrow2 (by simp; omega) (fun k hk => (hown.lt k hk).1)⟩
      case measure => simp [sliceLen]; omega
end Go.Proofs.YtdfkpjmljaanpaaGreatDoor
namespace Go.Proofs.YtdfkpjmljaanpaaGreatDoor
open Go.RowKit
/-- The lowest byte of a word, as a number. -/
def B8 (x : BitVec 32) : Int := ((UInt8.ofNat x.toNat).toNat : Int)
theorem B8_mod (x : BitVec 32) : V x % (256 : Int) = B8 x := by unfold V B8; rw [UInt8.toNat_ofNat']; simp
theorem B8_wrap (x : BitVec 32) : IntKind.u8.wrap (V x) = B8 x := by rw [IntKind.wrap_u8', B8_mod]
attribute [local go_sem] V_shr V_div256 V_div65536 V_div16777216 B8_mod B8_wrap
theorem out_next (st : St) (i : Nat) (hi : i < 8) : bcells ((outL st).take (4 * (i + 1))) = bcells ((outL st).take (4 * i)) ++ [.int .u8 (B8 (st.get i >>> 24)), .int .u8 (B8 (st.get i >>> 16)), .int .u8 (B8 (st.get i >>> 8)), .int .u8 (B8 (st.get i))] := by
  have hg : ∀ j, j < 32 → (outL st)[j]? = some (outAt st j) := fun j hj => by simp [outL, hj]
  have e : (outL st).take (4 * (i + 1)) = (outL st).take (4 * i) ++ [outAt st (4 * i), outAt st (4 * i + 1), outAt st (4 * i + 2), outAt st (4 * i + 3)] := by
    rw [show 4 * (i + 1) = 4 * i + 1 + 1 + 1 + 1 by omega, List.take_add_one, List.take_add_one, List.take_add_one, List.take_add_one, hg _ (by omega), hg _ (by omega), hg _ (by omega), hg _ (by omega)]
    simp
  rw [e, bcells, List.map_append]
  have d0 : 4 * i / 4 = i := by omega
  have d1 : (4 * i + 1) / 4 = i := by omega
  have d2 : (4 * i + 2) / 4 = i := by omega
  have d3 : (4 * i + 3) / 4 = i := by omega
  have m0 : 4 * i % 4 = 0 := by omega
  have m1 : (4 * i + 1) % 4 = 1 := by omega
  have m2 : (4 * i + 2) % 4 = 2 := by omega
  have m3 : (4 * i + 3) % 4 = 3 := by omega
  simp [outAt, B8, d0, d1, d2, d3, m0, m1, m2, m3, bcells]
set_option maxRecDepth 100000 in
set_option maxHeartbeats 4000000 in
theorem rsumref_any (s : ByteArray) (hs : s.size < 1099511627776) (w : World) :
    Calls Tryz.prog 91 #[.string s] w fun e w' => e = .returned (.string (str (sha s.data.toList))) ∧ Below w.heap.size w w' := by
  obtain ⟨i0, hi0, hz0, hz1, hz2⟩ := info_parts Tryz.info5
  obtain ⟨T, hT⟩ : ∃ T, T = s.data.toList ++ padL s.size := ⟨_, rfl⟩
  have hTl : T.length = 64 * blocksN s.size := by
    have := padLen_bd s.size
    rw [hT, List.length_append, padL_length]
    have : s.data.toList.length = s.size := rfl
    omega
  obtain ⟨x, hx⟩ : ∃ x, x = str T := ⟨_, rfl⟩
  have hxs : x.size = 64 * blocksN s.size := by rw [hx, str_size]; exact hTl
  have hbd := blocksN_bd s.size
  go_enter Tryz.func91, Tryz.ntmps91
  go_wp2_with fail
  refine (padded_any s hs _).mono ?_
  rintro e w1 ⟨rfl, hb1⟩
  rw [← hT, ← hx]
  have HT := Lib.hid (And.intro hT (And.intro hx hTl))
  obtain ⟨bn, hbn⟩ : ∃ b, b = blocksN s.size := ⟨_, rfl⟩
  rw [← hbn] at hxs hbd
  have HB := Lib.hid (And.intro hbn hxs)
  have hxb : x.size ≤ 1099511627900 := by omega
  clear hT hx hTl hbn
  go_wp2_with fail
  refine (first_any _).mono ?_
  rintro e w2 ⟨rfl, hw2⟩
  have hb2 : Below w.heap.size w w2 := by subst hw2; exact hb1.alloc hb1.size _
  have hc2 : ∀ i, i < 8 → w2.cell? ⟨w1.heap.size, i, none⟩ = some (.int .u32 (V (first.get i))) := fun i hi => by
    subst hw2
    rw [cell_of_row _ _ _ _ _ _ (heap_alloc_new w1 _), numCells_get (l := hList) (by decide) i (show i < 8 from hi)]
    match i, hi with
    | 0, _ => rfl | 1, _ => rfl | 2, _ => rfl | 3, _ => rfl | 4, _ => rfl | 5, _ => rfl | 6, _ => rfl | 7, _ => rfl
  obtain ⟨g1, hg1⟩ : ∃ g, g = w1.heap.size := ⟨_, rfl⟩
  rw [← hg1] at hc2 ⊢
  clear hw2 hg1 hxs
  go_wp2_with fail
  go_loopw [4, 5] (fun v iv wr => ∃ k o gl cp : Nat, k ≤ bn ∧ o = 64 * k ∧ iv = .int .i64 (o : Int) ∧ v = .slice (some ⟨gl, 0, none⟩) 8 cp ∧ (∀ i, i < 8 → wr.cell? ⟨gl, i, none⟩ = some (.int .u32 (V ((absorb first T k).get i)))) ∧ Below w.heap.size w wr) (fun _ iv _ => x.size - (intOf iv).toNat)
  case atStart => exact ⟨0, 0, g1, 8, by omega, rfl, rfl, rfl, hc2, hb2⟩
  case round =>
    clear hc2
    obtain ⟨k, o, gl, cp, hk, ho, rfl, rfl, hc, hb⟩ := hrel
    have HO := Lib.hid ho
    by_cases hlt : k < bn
    · have h1 : (o : Int) < x.size := by rw [HB.out.2]; omega
      have h2 : (o : Int) + 64 ≤ x.size := by rw [HB.out.2]; omega
      have h3 : o + 64 ≤ x.size := by omega
      clear ho
      have hxe : (x.extract o (o + 64)).size = 64 := by rw [ByteArray.size_extract]; omega
      have hbytes : ∀ j, j < 64 → (x.extract o (o + 64)).data.toList.getD j 0 = T.getD (64 * k + j) 0 := fun j hj => by
        rw [Lib.extract_data, show o + 64 - o = 64 by omega, getD_take _ _ _ hj, HT.out.2.1, str_data, List.getD_eq_getElem?_getD, List.getElem?_drop, ← List.getD_eq_getElem?_getD, HO.out]
      have HY := Lib.hid hbytes
      have HE := Lib.hid hxe
      clear hbytes hxe
      go_wp2_with fail
      refine (rtake_any (absorb first T k) gl 0 cp (x.extract o (o + 64)) HE.out _ (fun i hi => by rw [Nat.zero_add]; exact hc i hi)).mono ?_
      rintro e w5 ⟨g5, cp5, rfl, hc5, hb5⟩
      have hc6 : ∀ i, i < 8 → w5.cell? ⟨g5, i, none⟩ = some (.int .u32 (V ((absorb first T (k + 1)).get i))) := fun i hi => by
        rw [hc5 i hi, absorb, take_congr (fun a ha => wordOf_congr HY.out ha)]
      clear hc5 hc
      go_wp2_with fail
      go_roundw
      case rel => exact ⟨k + 1, o + 64, g5, cp5, by omega, by rw [HO.out]; omega, by go_num, rfl, hc6, hb.trans (hb5.mono hb.size)⟩
      case measure => simp [intOf]; omega
    · have h1 : ¬ (o : Int) < x.size := by rw [HB.out.2]; omega
      clear ho
      obtain ⟨st, hst⟩ : ∃ st, st = absorb first T k := ⟨_, rfl⟩
      rw [← hst] at hc
      have HS := Lib.hid (show st = shaSt s.data.toList by
        have hkb : k = bn := by omega
        rw [hst, shaSt, HT.out.1, hkb, HB.out.1]; rfl)
      clear hst
      have hlb : gl < wr.heap.size := World.block_lt_of_cell? wr _ (hc 0 (by omega))
      go_wp2_with fail
      obtain ⟨wb, rfl⟩ : ∃ wb : World, wb = wr := ⟨_, rfl⟩
      go_loopw [6, 7] (fun v iv wr => ∃ i : Nat, i ≤ 8 ∧ iv = .int .i64 i ∧ wr.ownsRow wb.heap.size 5 1 v (4 * i) (bcells ((outL st).take (4 * i))) ∧ Below wb.heap.size wb wr) (fun _ iv _ => 8 - (intOf iv).toNat)
      case atStart => exact ⟨0, by omega, rfl, World.ownsRow_nil _ _ _ _, Below.refl _ _⟩
      case round =>
        obtain ⟨i, hi, rfl, hown, hbb⟩ := hrel
        have hbs := hbb.size
        by_cases hlt8 : i < 8
        · have ca : wr.cell? ⟨gl, i, none⟩ = some (.int .u32 (V (st.get i))) := (hbb.cell (p := ⟨gl, i, none⟩) hlb).trans (hc i hlt8)
          obtain ⟨xa, ha⟩ : ∃ x, x = st.get i := ⟨_, rfl⟩
          rw [← ha] at ca
          have HA := Lib.hid ha
          have bi : (i : Int) < 8 := by omega
          obtain ⟨f, hf⟩ : ∃ f, f = 4 * i := ⟨_, rfl⟩
          rw [← hf] at hown
          have HF := Lib.hid hf
          have fb : f ≤ 28 := by omega
          clear ha hf hc
          go_wp2_with fail
          refine wp_region_held (S := fun W => W.cell? ⟨gl, i, none⟩ = some (.int .u32 (V xa))) (by kernel_rfl) ?_
          change wpAnyH _ _ _ _ _ _ _ _ (World.drew _)
          refine wpAnyH_take (i := 0) (v := ?_) rfl (by kernel_rfl) (by kernel_rfl) (by kernel_rfl) (fun _ _ _ h => h) (Or.inl ⟨by rfl, ?_⟩) ca ?_
          rotate_left
          · (intro W hS; go_simp; try (with_reducible rfl))
          refine wpAnyH_take (i := 1) (v := ?_) rfl (by kernel_rfl) (by kernel_rfl) (by kernel_rfl) (fun _ _ _ h => h) (Or.inl ⟨by rfl, ?_⟩) ca ?_
          rotate_left
          · (intro W hS; go_simp; try (with_reducible rfl))
          refine wpAnyH_take (i := 2) (v := ?_) rfl (by kernel_rfl) (by kernel_rfl) (by kernel_rfl) (fun _ _ _ h => h) (Or.inl ⟨by rfl, ?_⟩) ca ?_
          rotate_left
          · (intro W hS; go_simp; try (with_reducible rfl))
          refine wpAnyH_take (i := 3) (v := ?_) rfl (by kernel_rfl) (by kernel_rfl) (by kernel_rfl) (fun _ _ _ h => h) (Or.inl ⟨by rfl, ?_⟩) ca ?_
          rotate_left
          · (intro W hS; go_simp; try (with_reducible rfl))
          refine wpAnyH_take (i := 4) (v := ?_) rfl (by kernel_rfl) (by kernel_rfl) (by kernel_rfl) (fun _ _ _ h => h) (Or.inl ⟨by rfl, ?_⟩) ca ?_
          rotate_left
          · (intro W hS; go_simp; try (with_reducible rfl))
          refine wpAnyH_take (i := 5) (v := ?_) rfl (by kernel_rfl) (by kernel_rfl) (by kernel_rfl) (fun _ _ _ h => h) (Or.inl ⟨by rfl, ?_⟩) ca ?_
          rotate_left
          · (intro W hS; go_simp; try (with_reducible rfl))
          refine wpAnyH_take (i := 6) (v := ?_) rfl (by kernel_rfl) (by kernel_rfl) (by kernel_rfl) (fun _ _ _ h => h) (Or.inl ⟨by rfl, ?_⟩) ca ?_
          rotate_left
          · (intro W hS; go_simp; try (with_reducible rfl))
          refine wpAnyH_take (i := 7) (v := ?_) rfl (by kernel_rfl) (by kernel_rfl) (by kernel_rfl) (fun _ _ _ h => h) (Or.inl ⟨by rfl, ?_⟩) ca ?_
          rotate_left
          · (intro W hS; go_simp; try (with_reducible rfl))
          refine wpAnyH_take (i := 8) (v := ?_) rfl (by kernel_rfl) (by kernel_rfl) (by kernel_rfl) (fun _ _ _ h => h) (Or.inl ⟨by rfl, ?_⟩) ca ?_
          rotate_left
          · (intro W hS; go_simp; try (with_reducible rfl))
          refine wpAnyH_take (i := 9) (v := ?_) rfl (by kernel_rfl) (by kernel_rfl) (by kernel_rfl) (fun _ _ _ h => h) (Or.inl ⟨by rfl, ?_⟩) ca ?_
          rotate_left
          · (intro W hS; go_simp; try (with_reducible rfl))
          refine wpAnyH_take (i := 10) (v := ?_) rfl (by kernel_rfl) (by kernel_rfl) (by kernel_rfl) (fun _ _ _ h => h) (Or.inl ⟨by rfl, ?_⟩) ca ?_
          rotate_left
          · (intro W hS; go_simp; try (with_reducible rfl))
          refine wpAnyH_take (i := 11) (v := ?_) rfl (by kernel_rfl) (by kernel_rfl) (by kernel_rfl) (fun _ _ _ h => h) (Or.inl ⟨by rfl, ?_⟩) ca ?_
          rotate_left
          · (intro W hS; go_simp; try (with_reducible rfl))
          refine wpAnyH_take (i := 12) (v := ?_) rfl (by kernel_rfl) (by kernel_rfl) (by kernel_rfl) (fun _ _ _ h => h) (Or.inl ⟨by rfl, ?_⟩) ca ?_
          rotate_left
          · (intro W hS; go_simp; try (with_reducible rfl))
          refine wpAnyH_take (i := 13) (v := ?_) rfl (by kernel_rfl) (by kernel_rfl) (by kernel_rfl) (fun _ _ _ h => h) (Or.inl ⟨by rfl, ?_⟩) ca ?_
          rotate_left
          · (intro W hS; go_simp; try (with_reducible rfl))
          refine wpAnyH_take (i := 14) (v := ?_) rfl (by kernel_rfl) (by kernel_rfl) (by kernel_rfl) (fun _ _ _ h => h) (Or.inl ⟨by rfl, ?_⟩) ca ?_
          rotate_left
          · (intro W hS; go_simp; try (with_reducible rfl))
          refine wpAnyH_take (i := 15) (v := ?_) rfl (by kernel_rfl) (by kernel_rfl) (by kernel_rfl) (fun _ _ _ h => h) (Or.inl ⟨by rfl, ?_⟩) ca ?_
          rotate_left
          · (intro W hS; go_simp; try (with_reducible rfl))
          refine wpAnyH_take (i := 16) (v := ?_) rfl (by kernel_rfl) (by kernel_rfl) (by kernel_rfl) (fun _ _ _ h => h) (Or.inl ⟨by rfl, ?_⟩) ca ?_
          rotate_left
          · (intro W hS; go_simp; try (with_reducible rfl))
          refine wpAnyH_take (i := 17) (v := ?_) rfl (by kernel_rfl) (by kernel_rfl) (by kernel_rfl) (fun _ _ _ h => h) (Or.inl ⟨by rfl, ?_⟩) ca ?_
          rotate_left
          · (intro W hS; go_simp; try (with_reducible rfl))
          refine wpAnyH_take (i := 18) (v := ?_) rfl (by kernel_rfl) (by kernel_rfl) (by kernel_rfl) (fun _ _ _ h => h) (Or.inl ⟨by rfl, ?_⟩) ca ?_
          rotate_left
          · (intro W hS; go_simp; try (with_reducible rfl))
          refine wpAnyH_take (i := 19) (v := ?_) rfl (by kernel_rfl) (by kernel_rfl) (by kernel_rfl) (fun _ _ _ h => h) (Or.inl ⟨by rfl, ?_⟩) ca ?_
          rotate_left
          · (intro W hS; go_simp; try (with_reducible rfl))
          refine wpAnyH_take (i := 20) (v := ?_) rfl (by kernel_rfl) (by kernel_rfl) (by kernel_rfl) (fun _ _ _ h => h) (Or.inl ⟨by rfl, ?_⟩) ca ?_
          rotate_left
          · (intro W hS; go_simp; try (with_reducible rfl))
          refine wpAnyH_take (i := 21) (v := ?_) rfl (by kernel_rfl) (by kernel_rfl) (by kernel_rfl) (fun _ _ _ h => h) (Or.inl ⟨by rfl, ?_⟩) ca ?_
          rotate_left
          · (intro W hS; go_simp; try (with_reducible rfl))
          refine wpAnyH_take (i := 22) (v := ?_) rfl (by kernel_rfl) (by kernel_rfl) (by kernel_rfl) (fun _ _ _ h => h) (Or.inl ⟨by rfl, ?_⟩) ca ?_
          rotate_left
          · (intro W hS; go_simp; try (with_reducible rfl))
          refine wpAnyH_take (i := 23) (v := ?_) rfl (by kernel_rfl) (by kernel_rfl) (by kernel_rfl) (fun _ _ _ h => h) (Or.inl ⟨by rfl, ?_⟩) ca ?_
          rotate_left
          · (intro W hS; go_simp; try (with_reducible rfl))
          refine wpAnyH_ready (rs := [24]) (by kernel_rfl) (by simp) ?_
          refine AllReadyH.cons rfl (fun K hK => ?_) AllReadyH.nil
          go_simp
          refine hK.out _ _ (cellA ca) (fun _ => ?_)
          clear hK K
          refine wpAnyH_ready (rs := [25]) (by kernel_rfl) (by simp) ?_
          refine AllReadyH.cons rfl (fun K hK => ?_) AllReadyH.nil
          refine step_append_keeps _ (by rfl) _ _ _ (by rfl) wb.heap.size 5 i0 _ 1 1 Tryz.underlying107 hi0 hz0 hz1 hz2 rfl (by omega) _ f _ (by rfl) ((hown.alloc _).drew) ⟨wr.heap.size, 0, none⟩ 4 4 [.int .u8 (B8 (xa >>> 24)), .int .u8 (B8 (xa >>> 16)), .int .u8 (B8 (xa >>> 8)), .int .u8 (B8 xa)] (by rfl) (by rfl) (World.news_of_block (cs := #[.int .u8 (B8 (xa >>> 24)), .int .u8 (B8 (xa >>> 16)), .int .u8 (B8 (xa >>> 8)), .int .u8 (B8 xa)]) (t := 5) (fr := (0, 0)) (heap_alloc_new wr _)) (by simp [Value.oneCell']) (by omega) (by unfold maxLen; omega) (by omega) (by simp; omega) (wr.heap.size + 1) (by simp) ?_
          intro g2 cap2 w6 hown6 hgrow hat hgl2 hkeep
          try go_simp
          have na : w6.cell? ⟨gl, i, none⟩ = some (.int .u32 (V xa)) := hgrow.cell (cellA ca) (fun e => by have := (hown.lt _ e.symm).1; simp at this; omega)
          refine hK.out _ _ na (fun _ => ?_)
          clear hK K
          refine wpAnyH_take (i := 26) (v := ?_) rfl (by kernel_rfl) (by kernel_rfl) (by kernel_rfl) (fun _ _ _ h => h) (Or.inl ⟨by rfl, ?_⟩) na ?_
          rotate_left
          · (intro W hS; go_simp; try (with_reducible rfl))
          refine wpAnyH_done (by kernel_rfl) ?_ _
          have hown7 : w6.ownsRow wb.heap.size 5 1 (.slice (some ⟨g2, 0, none⟩) (f + 4) cap2) (4 * (i + 1)) (bcells ((outL st).take (4 * (i + 1)))) := by
            rw [out_next st i hlt8, ← HA.out, show 4 * (i + 1) = f + 4 by rw [HF.out]; omega, ← HF.out]; exact hown6
          go_wp2_with fail
          go_roundw
          case rel => exact ⟨i + 1, by omega, by go_num, hown7, ((hbb.alloc (by omega) _).drew).grown hgrow (by simp; omega) (fun k hk => (hown.lt k hk).1)⟩
          case measure => simp [intOf]; omega
        · have h8 : 4 * i = 32 := by omega
          rw [h8] at hown
          obtain ⟨g, cap, rfl, hgb, hgl⟩ := hown.form (by omega)
          have hcv : (convert 107 9 (.slice (some ⟨g, 0, none⟩) 32 cap)).run Tryz.prog wr = .ok (.string (str (sha s.data.toList))) wr := by
            rw [← strOfNums_nums]
            refine run_convert_bytes_arg (P := Tryz.prog) (w := wr) 107 5 Tryz.underlying107 Tryz.underlying5 g 0 32 cap (nums (sha s.data.toList)) ?_ (fun j hj => ?_) 9 Tryz.underlying9
            · rw [nums, List.length_map, sha_length]
            · have h := hown.cells (g := g) rfl j (.int .u8 ((outAt st j).toNat : Int)) (by
                rw [List.take_of_length_le (by rw [outL_length]; exact Nat.le_refl _), bcells, List.getElem?_map]
                simp [outL, hj])
              rw [Addr.add_mid] at h
              rw [h, HS.out]
              simp [nums, sha, outL, List.getD_eq_getElem?_getD, hj]
          clear h8 hown hc
          go_wp2_with fail
          go_ret
          exact ⟨rfl, hb.trans (hbb.mono hb.size)⟩
end Go.Proofs.YtdfkpjmljaanpaaGreatDoor
