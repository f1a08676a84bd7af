/- mac.under: what a key alone makes of the inner and the outer text. -/
import Derived.Test.YtgoimggfpagojaaDoorMBlock
import Derived.Laws.Build
namespace Go.Proofs.YtgoimggfpagojaaDoor
open Go.RowKit

/-- A part laid over cells. -/
theorem lay_part : ∀ (l : List Value) (k off : Nat) (cells : Array Value), off + k + l.length ≤ cells.size →
    ((l.zipIdx k).foldl (fun (cs : Array Value) (p : Value × Nat) => cs.setIfInBounds (off + p.2) p.1) cells).size = cells.size ∧
    ∀ i, ((l.zipIdx k).foldl (fun (cs : Array Value) (p : Value × Nat) => cs.setIfInBounds (off + p.2) p.1) cells)[i]? = if off + k ≤ i ∧ i < off + k + l.length then l[i - (off + k)]? else cells[i]?
  | [], k, off, cells, _ => ⟨rfl, fun i => by rw [if_neg (by simp)]; rfl⟩
  | v :: r, k, off, cells, h => by
    rw [List.length_cons] at h
    obtain ⟨h1, h2⟩ := lay_part r (k + 1) off (cells.setIfInBounds (off + k) v) (by rw [Array.size_setIfInBounds]; omega)
    rw [List.zipIdx_cons, List.foldl_cons]
    refine ⟨by rw [h1, Array.size_setIfInBounds], fun i => ?_⟩
    rw [h2 i]
    by_cases e : i = off + k
    · subst e
      rw [if_neg (by omega), if_pos (by simp), Array.getElem?_setIfInBounds_self_of_lt (by omega), Nat.sub_self]
      rfl
    · rw [Array.getElem?_setIfInBounds_ne (by omega)]
      by_cases hc : off + (k + 1) ≤ i ∧ i < off + (k + 1) + r.length
      · rw [if_pos hc, if_pos (by simp; omega), show i - (off + k) = (i - (off + (k + 1))) + 1 by omega]
        rfl
      · rw [if_neg hc, if_neg (by simp; omega)]
def zero146 : Array Value := zero73 ++ zero73
theorem zero146_size : zero146.size = 146 := by rw [zero146, Array.size_append, zero73_size]
theorem z48 (w : World) : (zeroValue 88).run Tryd.prog w = .ok (.agg zero146) w := (zero_of_info (P := Tryd.prog) (t := 88) (v := .agg zero146) (n := 146) (by kernel_rfl)).1 w
theorem two_laid (c1 c2 : Array Value) (h1 : c1.size = 73) (h2 : c2.size = 73) :
    c2.zipIdx.foldl (fun (cs : Array Value) (p : Value × Nat) => cs.setIfInBounds (73 + p.2) p.1) (c1.zipIdx.foldl (fun (cs : Array Value) (p : Value × Nat) => cs.setIfInBounds (0 + p.2) p.1) zero146) = c1 ++ c2 := by
  obtain ⟨a1, a2⟩ := lay_part c1.toList 0 0 zero146 (by rw [Array.length_toList, h1, zero146_size]; decide)
  rw [← Array.foldl_toList, ← Array.foldl_toList, Array.toList_zipIdx, Array.toList_zipIdx]
  obtain ⟨D, hD⟩ : ∃ D, D = c1.toList.zipIdx.foldl (fun (cs : Array Value) (p : Value × Nat) => cs.setIfInBounds (0 + p.2) p.1) zero146 := ⟨_, rfl⟩
  rw [← hD] at a1 a2 ⊢
  obtain ⟨b1, b2⟩ := lay_part c2.toList 0 73 D (by rw [Array.length_toList, h2, a1, zero146_size]; decide)
  apply Array.ext_getElem?
  intro i
  rw [b2 i, a2 i, Array.length_toList, Array.length_toList, h1, h2, Array.getElem?_append, h1]
  by_cases hi : i < 73
  · rw [if_neg (by omega), if_pos (by omega), if_pos hi]; simp
  · rw [if_neg hi]
    by_cases h3 : i < 146
    · rw [if_pos (by omega)]; simp
    · rw [if_neg (by omega), if_neg (by omega), Array.getElem?_eq_none (by rw [zero146_size]; omega), Array.getElem?_eq_none (by rw [h2]; omega)]
theorem build_keyed (c1 c2 : Array Value) (h1 : c1.size = 73) (h2 : c2.size = 73) (w : World) :
    (Instr.build 88 #[(0, .agg c1), (1, .agg c2)]).run Tryd.prog w = .ok (.agg (c1 ++ c2)) w := by
  have ht := two_laid c1 c2 h1 h2
  have hz : (Value.agg zero146).cells = zero146 := rfl
  have hf : Instr.fill (fun x => [(0, 73), (73, 73)][x]?) (Value.agg zero146).cells [(0, Value.agg c1), (1, Value.agg c2)] = some (c1 ++ c2) := by
    have e1 : (Value.agg c1).cells = c1 := rfl
    have e2 : (Value.agg c2).cells = c2 := rfl
    obtain ⟨D, hD⟩ : ∃ D, D = c1.zipIdx.foldl (fun (cs : Array Value) (p : Value × Nat) => cs.setIfInBounds (0 + p.2) p.1) zero146 := ⟨_, rfl⟩
    have hDs : D.size = 146 := by
      have := (lay_part c1.toList 0 0 zero146 (by rw [Array.length_toList, h1, zero146_size]; decide)).1
      rw [hD, ← Array.foldl_toList, Array.toList_zipIdx, this, zero146_size]
    rw [← hD] at ht
    unfold Instr.fill
    simp only [List.getElem?_cons_zero, e1, hz, h1, zero146_size]
    rw [if_neg (by simp)]
    rw [show (Array.foldl (fun cs x => match x with | (c, j) => cs.setIfInBounds (0 + j) c) zero146 c1.zipIdx) = D from hD.symm]
    unfold Instr.fill
    simp only [List.getElem?_cons_succ, List.getElem?_cons_zero, e2, h2, hDs]
    rw [if_neg (by simp)]
    unfold Instr.fill
    exact congrArg some ht
  unfold Instr.build
  simp only [Sem.run_bind, z48, run_underlying Tryd.underlying88, Result.andThen_ok]
  simp [hf]
/-- What a key alone makes: the runs of the inner and the outer text. -/
def Keyed (c : Array Value) (li lo : List UInt8) : Prop := ∃ c1 c2, c = c1 ++ c2 ∧ RunOf c1 li ∧ RunOf c2 lo
theorem Keyed.size {c : Array Value} {li lo : List UInt8} (h : Keyed c li lo) : c.size = 146 := by
  obtain ⟨c1, c2, rfl, h1, h2⟩ := h
  rw [Array.size_append, h1.size, h2.size]
theorem Keyed.oneCell {c : Array Value} {li lo : List UInt8} (h : Keyed c li lo) : c.all (·.oneCell') = true := by
  obtain ⟨c1, c2, rfl, h1, h2⟩ := h
  rw [Array.all_append, h1.oneCell, h2.oneCell]; rfl
def bdKeyed (ps : Array (Nat × Value)) : Sem Value := Instr.build 88 ps
theorem bd_hide (ps : Array (Nat × Value)) : Instr.build 88 ps = bdKeyed ps := rfl
theorem bd_eq (c1 c2 : Array Value) (h1 : c1.size = 73) (h2 : c2.size = 73) (w : World) : (bdKeyed #[(0, .agg c1), (1, .agg c2)]).run Tryd.prog w = .ok (.agg (c1 ++ c2)) w := build_keyed c1 c2 h1 h2 w
theorem ldB_hide (p : Value) : Instr.loadAt 84 p = ldRow 84 p := rfl
theorem ldB_eq (W : World) (g : Nat) (h : (rowOf W g).size = 64) : (ldRow 84 (.pointer (some ⟨g, 0, none⟩))).run Tryd.prog W = .ok (.agg (rowOf W g)) W := by
  obtain ⟨t, ht⟩ := rowOf_heap h
  have := run_loadVar_row (P := Tryd.prog) W g t 84 (rowOf W g) (0, 0) _ ht Tryd.underlying84 rfl (by rw [h]; kernel_rfl)
  simp only [ldRow, Instr.loadAt, Instr.sureAddr, Sem.run_bind, Sem.run_pure, Result.andThen_ok, this]
theorem stK_hide (p v : Value) : Instr.storeAt 88 p v = stRow 88 p v := rfl
def Whole146 (c : Array Value) : Prop := c.size = 146 ∧ c.all (·.oneCell') = true
theorem stK_eq (W : World) (g : Nat) (c : Array Value) (h : (rowOf W g).size = 146) (hc : Whole146 c) : (stRow 88 (.pointer (some ⟨g, 0, none⟩)) (.agg c)).run Tryd.prog W = .ok () (W.setRow g c) := by
  obtain ⟨t, ht⟩ := rowOf_heap h
  have := run_storeVar_row (P := Tryd.prog) W g t 88 (rowOf W g) c ht (by rw [hc.1]; kernel_rfl) (by rw [h, hc.1]) hc.2
  simp only [stRow, Instr.storeAt, Instr.sureAddr, Sem.run_bind, Sem.run_pure, Result.andThen_ok, this]
attribute [local go_sem ↓] bd_hide ldB_hide stK_hide
attribute [local go_sem] bd_eq ldB_eq stK_eq
/-- The block and the result's place stand where they stand. -/
structure UnS (w : World) (g : Nat) (R : List UInt8) (W : World) : Prop where
  below : Below w.heap.size w W
  glob : Glob W
  row : W.heap[g]? = some (.cells (bArr R) 84 (0, 0))
  res : ∃ c0 : Array Value, W.heap[w.heap.size]? = some (.cells c0 88 (0, 0)) ∧ c0.size = 146
theorem UnS.call {w W W' : World} {g : Nat} {R : List UInt8} (h : UnS w g R W) (hb : Below W.heap.size W W') : UnS w g R W' := by
  obtain ⟨c0, h1, h2⟩ := h.res
  exact ⟨h.below.trans (hb.mono h.below.size), h.glob.below hb, (hb.block _ (Array.getElem?_eq_some_iff.1 h.row).1).trans h.row, c0, (hb.block _ (Array.getElem?_eq_some_iff.1 h1).1).trans h1, h2⟩

set_option maxRecDepth 100000 in
set_option maxHeartbeats 1000000 in
theorem under_any (key : ByteArray) (hs : key.size < 1099511627000) (w : World) (hG : Glob w) :
    Calls Tryd.prog 56 #[.string key] w fun e w' => ∃ c, e = .returned (.agg c) ∧ Keyed c (padX key.data.toList 54) (padX key.data.toList 92) ∧ Below w.heap.size w w' := by
  have hz48 := z48
  have hz44 := z44
  obtain ⟨R, hR⟩ : ∃ R, R = blk key.data.toList := ⟨_, rfl⟩
  have hRl : R.length = 64 := by rw [hR, blk_length]
  have hRs : (bArr R).size = 64 := by rw [bArr_size, hRl]
  have hp1 : padX key.data.toList 54 = R.map (· ^^^ 54) := by rw [padX, hR]
  have hp2 : padX key.data.toList 92 = R.map (· ^^^ 92) := by rw [padX, hR]
  rw [hp1, hp2]
  obtain ⟨s1, hs1⟩ : ∃ s, s = str (R.map (· ^^^ 54)) := ⟨_, rfl⟩
  obtain ⟨s2, hs2⟩ : ∃ s, s = str (R.map (· ^^^ 92)) := ⟨_, rfl⟩
  have hl1 : s1.size = 64 := by rw [hs1, str_size, List.length_map, hRl]
  have hl2 : s2.size = 64 := by rw [hs2, str_size, List.length_map, hRl]
  have HR := Lib.hid (And.intro hRl (And.intro hRs (And.intro hR (And.intro (bArr_oneCell R) (And.intro zero64_size (And.intro hs1 (And.intro hs2 (And.intro hl1 (And.intro hl2 zero146_size)))))))))
  clear hRl hRs hR hp1 hp2 hs1 hs2 hl1 hl2
  go_enter Tryd.func56, Tryd.ntmps56
  go_wp2_with fail
  have hA0 : (w.alloc (.cells zero146 88)).heap[w.heap.size]? = some (.cells zero146 88 (0, 0)) := heap_alloc_new _ _
  have hB0 : Below w.heap.size w (w.alloc (.cells zero146 88)) := (Below.refl _ _).alloc (Nat.le_refl _) _
  have hG0 := hG.alloc (.cells zero146 88)
  generalize World.alloc w _ = w0 at *
  refine (blockOf_any key hs _ hG0).mono ?_
  rintro e w1 ⟨rfl, hb1⟩
  rw [← HR.out.2.2.1]
  have hA1 : w1.heap[w.heap.size]? = some (.cells zero146 88 (0, 0)) := (hb1.block _ (Array.getElem?_eq_some_iff.1 hA0).1).trans hA0
  have hB1 := below_trans' hB0 hb1 (by have := (Array.getElem?_eq_some_iff.1 hA0).1; omega)
  have hG1 := hG0.below hb1
  have hN : (w1.alloc (.cells zero64 84)).heap[w1.heap.size]? = some (.cells zero64 84 (0, 0)) := heap_alloc_new _ _
  have hlt : w.heap.size < w1.heap.size := (Array.getElem?_eq_some_iff.1 hA1).1
  have HW := Lib.hid (And.intro hA1 (And.intro hB1 (And.intro hG1 hlt)))
  clear hA0 hB0 hG0 hb1 hA1 hB1 hG1 hlt
  go_wp2_with (first
    | (refine wpList_store_row rfl 84 _ _ rfl w1.heap.size rfl 84 zero64 (bArr R) rfl hN (by rw [HR.out.2.1]; kernel_rfl) (by rw [HR.out.2.1, HR.out.2.2.2.2.1]) HR.out.2.2.2.1 ?_))
  have hW2 := HW.out
  have C : UnS w w1.heap.size R ((w1.alloc (.cells zero64 84)).setRow w1.heap.size (bArr R)).drew := by
    refine ⟨(below_setRow (hW2.2.1.alloc (by omega) _) _ _ (by omega)).drew, ?_, setRow_heap _ _ _ _ _ _ hN, zero146, ?_, HR.out.2.2.2.2.2.2.2.2.2⟩
    · exact hW2.2.2.1.below ((below_setRow ((Below.refl _ _).alloc (Nat.le_refl _) _) _ _ (Nat.le_refl _)).drew)
    · show ((w1.alloc (.cells zero64 84)).setRow w1.heap.size (bArr R)).heap[w.heap.size]? = _
      rw [setRow_other _ _ _ _ (by omega), Lib.alloc_old _ _ _ hW2.2.2.2]; exact hW2.1
  clear hW2 hN
  refine wp_region_held (S := UnS w w1.heap.size R) (by kernel_rfl) ?_
  change wpAnyH _ _ _ _ _ _ _ _ (World.drew _)
  generalize World.drew _ = wh at *
  refine wpAnyH_take (i := 1) (v := ?_) rfl (by kernel_rfl) (by kernel_rfl) (by kernel_rfl) (fun _ _ _ h => h) (Or.inl ⟨by kernel_rfl, ?_⟩) C ?_
  rotate_left
  · (intro W hS; have e0 := rowOf_eq hS.row; have e1 := HR.out.2.1; clear hS; go_simp; try (with_reducible rfl))
  refine wpAnyH_take (i := 5) (v := ?_) rfl (by kernel_rfl) (by kernel_rfl) (by kernel_rfl) (fun _ _ _ h => h) (Or.inl ⟨by kernel_rfl, ?_⟩) C ?_
  rotate_left
  · (intro W hS; have e0 := rowOf_eq hS.row; have e1 := HR.out.2.1; clear hS; go_simp; try (with_reducible rfl))
  refine wpAnyH_ready (rs := [0]) (by kernel_rfl) (by simp) ?_
  refine AllReadyH.cons rfl (fun K hK => ?_) AllReadyH.nil
  go_simp
  refine (begin_any _).mono ?_
  rintro e W1 ⟨rfl, hb⟩
  have C := C.call hb
  refine hK.out _ _ C (fun _ => ?_)
  clear hK K hb
  refine wpAnyH_ready (rs := [2]) (by kernel_rfl) (by simp) ?_
  refine AllReadyH.cons rfl (fun K hK => ?_) AllReadyH.nil
  go_simp
  refine (turned_any R HR.out.1 54 _).mono ?_
  rintro e W2 ⟨rfl, hb⟩
  have C := C.call hb
  refine hK.out _ _ C (fun _ => ?_)
  clear hK K hb
  rw [← HR.out.2.2.2.2.2.1]
  refine wpAnyH_ready (rs := [3]) (by kernel_rfl) (by simp) ?_
  refine AllReadyH.cons rfl (fun K hK => ?_) AllReadyH.nil
  go_simp
  refine (with_any zero73 [] begin_run s1 (by rw [HR.out.2.2.2.2.2.2.2.1]; decide) _ C.glob).mono ?_
  rintro e W3 ⟨c1, rfl, hr1, hb⟩
  have C := C.call hb
  refine hK.out _ _ C (fun _ => ?_)
  clear hK K hb
  refine wpAnyH_ready (rs := [4]) (by kernel_rfl) (by simp) ?_
  refine AllReadyH.cons rfl (fun K hK => ?_) AllReadyH.nil
  go_simp
  refine (begin_any _).mono ?_
  rintro e W4 ⟨rfl, hb⟩
  have C := C.call hb
  refine hK.out _ _ C (fun _ => ?_)
  clear hK K hb
  refine wpAnyH_ready (rs := [6]) (by kernel_rfl) (by simp) ?_
  refine AllReadyH.cons rfl (fun K hK => ?_) AllReadyH.nil
  go_simp
  refine (turned_any R HR.out.1 92 _).mono ?_
  rintro e W5 ⟨rfl, hb⟩
  have C := C.call hb
  refine hK.out _ _ C (fun _ => ?_)
  clear hK K hb
  rw [← HR.out.2.2.2.2.2.2.1]
  refine wpAnyH_ready (rs := [7]) (by kernel_rfl) (by simp) ?_
  refine AllReadyH.cons rfl (fun K hK => ?_) AllReadyH.nil
  go_simp
  refine (with_any zero73 [] begin_run s2 (by rw [HR.out.2.2.2.2.2.2.2.2.1]; decide) _ C.glob).mono ?_
  rintro e W6 ⟨c2, rfl, hr2, hb⟩
  have C := C.call hb
  refine hK.out _ _ C (fun _ => ?_)
  clear hK K hb
  have z1 := hr1.size
  have z2 := hr2.size
  refine wpAnyH_take (i := 8) (v := ?_) rfl (by kernel_rfl) (by kernel_rfl) (by kernel_rfl) (fun _ _ _ h => h) (Or.inl ⟨by kernel_rfl, ?_⟩) C ?_
  rotate_left
  · (intro W hS; clear hS; go_simp; try (with_reducible rfl))
  clear z1 z2
  have hK : Keyed (c1 ++ c2) (R.map (· ^^^ 54)) (R.map (· ^^^ 92)) := ⟨c1, c2, rfl, by rw [HR.out.2.2.2.2.2.1] at hr1; exact hr1, by rw [HR.out.2.2.2.2.2.2.1] at hr2; exact hr2⟩
  obtain ⟨cc, hcc⟩ : ∃ cc, cc = c1 ++ c2 := ⟨_, rfl⟩
  rw [← hcc] at hK ⊢
  clear hcc hr1 hr2
  have HKD := Lib.hid hK
  clear hK
  obtain ⟨c0, r1, r2⟩ := C.res
  refine wpAnyH_ready (rs := [9]) (by kernel_rfl) (by simp) ?_
  refine AllReadyH.cons rfl (fun K hK => ?_) AllReadyH.nil
  have e0 : rowOf W6 w.heap.size = c0 := rowOf_eq r1
  have e1 : (rowOf W6 w.heap.size).size = 146 := by rw [e0]; exact r2
  have e2 : Whole146 cc := ⟨HKD.out.size, HKD.out.oneCell⟩
  have HC := Lib.hid (And.intro C (And.intro r1 r2))
  clear e0 r1 r2 C
  go_simp
  have C := HC.out.1
  have hne : w1.heap.size ≠ w.heap.size := by have := HW.out.2.2.2; omega
  have C2 : UnS w w1.heap.size R (W6.setRow w.heap.size cc) := by
    refine ⟨below_setRow C.below _ _ (Nat.le_refl _), hG.below (below_setRow C.below _ _ (Nat.le_refl _)), (setRow_other _ _ _ _ hne).trans C.row, cc, setRow_heap _ _ _ _ _ _ HC.out.2.1, HKD.out.size⟩
  refine hK.out _ _ C2 (fun _ => ?_)
  clear hK K e1 e2 C hne
  refine wpAnyH_done (by kernel_rfl) ?_ _
  go_wp2_with fail
  refine bodyPost_ret (results_cell_row rfl _ _ w.heap.size 88 cc (0, 0) _ rfl (setRow_heap _ _ _ _ _ _ HC.out.2.1) Tryd.underlying88 rfl (by rw [HKD.out.size]; kernel_rfl)) rfl ⟨cc, rfl, HKD.out, C2.below⟩
end Go.Proofs.YtgoimggfpagojaaDoor
