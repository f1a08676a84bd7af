/- Sum of a Run; Begin; Size; Sum, Twice of a text. -/
import Derived.Test.YtnpdmkgefaobeaaDoorWith
import Derived.Test.YtnpdmkgefaobeaaDoorEnding
namespace Go.Proofs.YtnpdmkgefaobeaaDoor
open Go.RowKit

attribute [local go_sem] V_add V_add' V_shr
theorem ld34_hide (p : Value) : Instr.loadAt 46 p = ldRow 46 p := rfl
theorem st34_hide (p v : Value) : Instr.storeAt 46 p v = stRow 46 p v := rfl
theorem ld34_eq (W : World) (g : Nat) (h : (rowOf W g).size = 73) : (ldRow 46 (.pointer (some ⟨g, 0, none⟩))).run Tryd.prog W = .ok (.agg (rowOf W g)) W := by
  obtain ⟨t, ht⟩ := rowOf_heap h
  have := run_loadVar_row (P := Tryd.prog) W g t 46 (rowOf W g) (0, 0) _ ht Tryd.underlying46 rfl (by rw [h]; kernel_rfl)
  simp only [ldRow, Instr.loadAt, Instr.sureAddr, Sem.run_bind, Sem.run_pure, Result.andThen_ok, this]
/-- 73 cells. -/
def Whole73 (c : Array Value) : Prop := c.size = 73 ∧ c.all (·.oneCell') = true
theorem st34_eq (W : World) (g : Nat) (c : Array Value) (h : (rowOf W g).size = 73) (hc : Whole73 c) : (stRow 46 (.pointer (some ⟨g, 0, none⟩)) (.agg c)).run Tryd.prog W = .ok () (W.setRow g c) := by
  obtain ⟨t, ht⟩ := rowOf_heap h
  have := run_storeVar_row (P := Tryd.prog) W g t 46 (rowOf W g) c ht (by rw [hc.1]; kernel_rfl) (by rw [h, hc.1]) hc.2
  simp only [stRow, Instr.storeAt, Instr.sureAddr, Sem.run_bind, Sem.run_pure, Result.andThen_ok, this]
attribute [local go_sem ↓] ld34_hide st34_hide
attribute [local go_sem] ld34_eq st34_eq

def zeroSt : St := { a := 0, b := 0, c := 0, d := 0, e := 0, f := 0, g := 0, h := 0 }
theorem zeroSt_get : ∀ i, zeroSt.get i = 0
  | 0 => rfl | 1 => rfl | 2 => rfl | 3 => rfl | 4 => rfl | 5 => rfl | 6 => rfl | _ + 7 => rfl
theorem V_zero : V 0 = 0 := rfl
theorem begin_run : RunOf zero73 [] := by
  have l8 : (Array.replicate 8 (Value.int .u32 0)).size = 8 := Array.size_replicate
  have l64 : (Array.replicate 64 (Value.int .u8 0)).size = 64 := Array.size_replicate
  have l72 : (Array.replicate 8 (Value.int .u32 0) ++ Array.replicate 64 (Value.int .u8 0)).size = 72 := by rw [Array.size_append, l8, l64]
  refine ⟨zeroSt, fun _ => 0, ⟨zero73_size, fun i hi => ?_, fun j hj => ?_, ?_⟩, ?_, fun j hj => absurd hj (by simp)⟩
  · rw [zero73, Array.getElem?_append_left (by omega), Array.getElem?_append_left (by omega), Array.getElem?_replicate, if_pos hi, zeroSt_get, V_zero]
  · rw [zero73, Array.getElem?_append_left (by omega), Array.getElem?_append_right (by omega), l8, show 8 + j - 8 = j by omega, Array.getElem?_replicate, if_pos hj]
    rfl
  · rw [zero73, Array.getElem?_append_right (by omega), l72]
    rfl
  · refine St.ext_get fun i _ => ?_
    rw [St.get_add, zeroSt_get]
    simp [absorb]

/-- What holds of memory ahead of the last loop. -/
structure SumMid (l : List UInt8) (st : St) (w wS : World) : Prop where
  row : ∃ c, wS.heap[w.heap.size]? = some (.cells c 46 (0, 0)) ∧ ∀ k, k < 8 → c[k]? = some (.int .u32 (V (st.get k)))
  word : ∀ k, k < 8 → hh k + st.get k = (shaSt l).get k
  below : Below w.heap.size w wS
  glob : Glob wS
  two : 2 ≤ w.heap.size
theorem first_get : ∀ k, k < 8 → first.get k = hh k
  | 0, _ => rfl | 1, _ => rfl | 2, _ => rfl | 3, _ => rfl | 4, _ => rfl | 5, _ => rfl | 6, _ => rfl | 7, _ => rfl
  | n + 8, h => absurd h (by omega)
theorem sum_mid {l : List UInt8} {w w1 w4 w5 : World} {c0 c5 : Array Value} (_hA : w1.heap[w.heap.size]? = some (.cells c0 46 (0, 0))) (hb : Below w.heap.size w w1) (hGw : Glob w) (h4 : Below w1.heap.size w1 w4) (h5 : Below w4.heap.size w4 w5)
    (hr : RunOf c5 (l ++ (str (padL l.length)).data.toList)) (rw5 : rowOf w5 w.heap.size = c0) (hz : c0.size = 73) : ∃ st, SumMid l st w (w5.setRow w.heap.size c5) := by
  obtain ⟨st, f, hblk, hst, _⟩ := hr
  have hb5 : Below w1.heap.size w1 w5 := h4.trans (h5.mono h4.size)
  obtain ⟨t, ht⟩ := rowOf_heap (n := 72) (by rw [rw5]; exact hz)
  obtain rfl : t = 46 := by
    have lt : w.heap.size < w1.heap.size := by
      rcases Nat.lt_or_ge w.heap.size w1.heap.size with k | k
      · exact k
      · rw [Array.getElem?_eq_none k] at _hA; cases _hA
    have := (hb5.block _ lt).trans _hA
    rw [ht] at this; cases this; rfl
  have hp := padLen_bd l.length
  have hlen : (l ++ (str (padL l.length)).data.toList).length = 64 * blocksN l.length := by rw [str_data, List.length_append, padL_length]; omega
  have hq : 64 * blocksN l.length / 64 = blocksN l.length := by omega
  rw [hlen, hq, str_data] at hst
  refine ⟨st, ⟨c5, setRow_heap _ _ _ _ _ _ ht, hblk.2.1⟩, fun k hk => ?_, below_setRow (hb.trans (hb5.mono hb.size)) _ _ (Nat.le_refl _), ?_, hGw.2.2⟩
  · rw [shaSt, ← hst, St.get_add, first_get k hk]
  · exact hGw.below (below_setRow (hb.trans (hb5.mono hb.size)) _ _ (Nat.le_refl _))
structure SumInv (l : List UInt8) (st : St) (w wS wr : World) (i : Nat) : Prop where
  out : ∃ a : Array Value, wr.heap[wS.heap.size]? = some (.cells a 76 (0, 0)) ∧ a.size = 32 ∧ ∀ j, j < i → a[j]? = some (.int .u8 ((outAt (shaSt l) j).toNat : Int))
  row : ∃ c, wr.heap[w.heap.size]? = some (.cells c 46 (0, 0)) ∧ ∀ k, k < 8 → c[k]? = some (.int .u32 (V (st.get k)))
  word : ∀ k, k < 8 → hh k + st.get k = (shaSt l).get k
  below : Below w.heap.size w wr
  glob : Glob wr
  size : w.heap.size < wS.heap.size
  two : 2 ≤ w.heap.size
theorem SumInv.start {l : List UInt8} {st : St} {w wS : World} (h : SumMid l st w wS) : SumInv l st w wS (wS.alloc (.cells (Array.replicate 32 (.int .u8 0)) 76)) 0 := by
  obtain ⟨c, hc, hcs⟩ := h.row
  have lt : w.heap.size < wS.heap.size := by
    rcases Nat.lt_or_ge w.heap.size wS.heap.size with k | k
    · exact k
    · rw [Array.getElem?_eq_none k] at hc; cases hc
  exact ⟨⟨_, heap_alloc_new _ _, Array.size_replicate, fun j hj => absurd hj (by omega)⟩, ⟨c, (Below.heap_alloc _ _ _ lt).trans hc, hcs⟩, h.word, h.below.alloc (by omega) _, h.glob.alloc _, lt, h.two⟩
theorem SumInv.cell {l : List UInt8} {st : St} {w wS wr : World} {i : Nat} (h : SumInv l st w wS wr i) (k : Nat) (hk : k < 8) : wr.cell? ⟨w.heap.size, k, none⟩ = some (.int .u32 (V (st.get k))) := by
  obtain ⟨c, hc, hcs⟩ := h.row
  rw [cell_of_row _ _ _ _ _ _ hc, hcs k hk]
theorem SumInv.there {l : List UInt8} {st : St} {w wS wr : World} {i : Nat} (h : SumInv l st w wS wr i) (j : Nat) (hj : j < 32) : ∃ v, wr.cell? ⟨wS.heap.size, j, none⟩ = some v := by
  obtain ⟨a, ha, hz, _⟩ := h.out
  exact ⟨a[j], by rw [cell_of_row _ _ _ _ _ _ ha, Array.getElem?_eq_getElem (by omega)]⟩
theorem SumInv.drewN {l : List UInt8} {st : St} {w wS wr : World} {i : Nat} (h : SumInv l st w wS wr i) (n : Nat) : SumInv l st w wS (wr.drewN n) i :=
  ⟨h.out, h.row, h.word, below_drewN h.below n, h.glob.drewN n, h.size, h.two⟩
theorem SumInv.put {l : List UInt8} {st : St} {w wS wr : World} {i : Nat} (h : SumInv l st w wS wr i) (hi : i < 32) (x : Int) (hx : x = ((outAt (shaSt l) i).toNat : Int)) :
    SumInv l st w wS (wr.setCell ⟨wS.heap.size, i, none⟩ (.int .u8 x)) (i + 1) := by
  obtain ⟨a, ha, hz, hall⟩ := h.out
  obtain ⟨c, hc, hcs⟩ := h.row
  have hs := h.size
  have ht := h.two
  refine ⟨⟨_, heap_setCell_same _ _ _ _ _ _ ha, by simpa using hz, fun j hj => ?_⟩, ⟨c, (heap_setCell_other _ _ _ _ (by simp; omega)).trans hc, hcs⟩, h.word, h.below.setCell (by simp; omega) _, ?_, hs, h.two⟩
  · rw [Array.getElem?_setIfInBounds]
    by_cases e : i = j
    · subst e; rw [if_pos rfl, if_pos (by omega), hx]
    · rw [if_neg e, hall j (by omega)]
  · have h2 := h.glob.2.2
    refine ⟨fun j hj => ?_, fun j hj => ?_, by simpa using h2⟩
    · rw [World.cell?_setCell_other _ _ _ _ (fun e => by have : wS.heap.size = 0 := congrArg Addr.block e; omega)]; exact h.glob.1 j hj
    · rw [World.cell?_setCell_other _ _ _ _ (fun e => by have : wS.heap.size = 1 := congrArg Addr.block e; omega)]; exact h.glob.2.1 j hj
theorem out_byte {l : List UInt8} {st : St} {i k : Nat} (hk : k = i / 4) (hx : hh k + st.get k = (shaSt l).get k) : V ((hh k + st.get k) >>> (24 - i % 4 * 8)) % 256 = ((outAt (shaSt l) i).toNat : Int) := by
  rw [hx, hk, outAt, V, UInt8.toNat_ofNat']
  simp
theorem SumInv.free {l : List UInt8} {st : St} {w wS wr : World} {i : Nat} (h : SumInv l st w wS wr i) (j : Nat) : wr.frozen? ⟨wS.heap.size, j, none⟩ = false := by
  obtain ⟨a, ha, _⟩ := h.out
  exact frozen_of_row _ _ _ _ _ ha

set_option maxRecDepth 100000 in
set_option maxHeartbeats 1000000 in
theorem rsum_any (c0 : Array Value) (l : List UInt8) (h0 : RunOf c0 l) (hlen : l.length < 1099511627000) (w : World) (hG : Glob w) :
    Calls Tryd.prog 43 #[.agg c0] w fun e w' => e = .returned (.string (str (sha l))) ∧ Below w.heap.size w w' := by
  have hz := h0.size
  have hpl : l.length + (str (padL l.length)).size < 1099511627776 := by
    have := padLen_bd l.length
    rw [str_size, padL_length]; omega
  have c72 : c0[72]? = some (.int .i64 l.length) := by obtain ⟨_, _, hb, _⟩ := h0; exact hb.2.2.2
  go_enter Tryd.func43, Tryd.ntmps43
  go_wp2
  obtain ⟨hA, hb, hG1⟩ : (w.alloc (.cells c0 46)).heap[w.heap.size]? = some (.cells c0 46) ∧ Below w.heap.size w (w.alloc (.cells c0 46)) ∧ Glob (w.alloc (.cells c0 46)) :=
    ⟨heap_alloc_new _ _, (Below.refl _ _).alloc (Nat.le_refl _) _, hG.alloc _⟩
  generalize World.alloc w _ = w1 at *
  have ro : rowOf w1 w.heap.size = c0 := rowOf_eq hA
  have rd : rowOf w1.drew w.heap.size = c0 := ro
  have cw : w1.cell? ⟨w.heap.size, 72, none⟩ = some (.int .i64 l.length) := by rw [cell_of_row _ _ _ _ _ _ hA]; exact c72
  have HX := Lib.hid (And.intro hA (And.intro hb (And.intro hG1 h0)))
  clear hA hb hG1 h0 c72
  go_region_with ((first
    | (go_at_call 50; refine (ending_any l.length (by omega) _).mono ?_; rintro e w4 ⟨rfl, hbw⟩; have rw4 := rowAfter ro hz hbw; have HW4 := Lib.hid hbw; clear hbw)
    | (go_at_call 42; refine (with_any _ _ HX.out.2.2.2 _ hpl _ (HX.out.2.2.1.below (belowOfDrew HW4.out))).mono ?_; rintro e w5 ⟨c5, rfl, hr5, hbt⟩; have rw5 := rowAfter2 rw4 hz hbt; have z5 : Whole73 c5 := ⟨hr5.size, hr5.oneCell⟩; have HW5 := Lib.hid (And.intro hr5 hbt); clear hr5 hbt)))
  all_goals
    obtain ⟨st, hS⟩ := sum_mid HX.out.1 HX.out.2.1 hG (belowOfDrew HW4.out) HW5.out.2 HW5.out.1 rw5 hz
    clear ro rd cw rw4 rw5 z5
    generalize World.setRow _ _ _ = wS at *
    go_wp2
    generalize hw7 : World.alloc wS _ = w7
    have hI : SumInv l st w wS w7 0 := by rw [← hw7]; exact SumInv.start hS
    clear hw7
    go_loopw [11] (fun c wr => ∃ i : Nat, i ≤ 32 ∧ c = .int .i64 i ∧ SumInv l st w wS wr i) (fun c _ => 32 - (intOf c).toNat)
    case atStart => exact ⟨0, by omega, rfl, hI⟩
    case round =>
      clear hI
      obtain ⟨i, hi, rfl, hI⟩ := hrel
      by_cases hlt : i < 32
      · obtain ⟨k, hk⟩ : ∃ k, k = i / 4 := ⟨_, rfl⟩
        have c1 : wr.cell? ⟨0, k, none⟩ = some (.int .u32 (V (hh k))) := hI.glob.1 k (by omega)
        have c2 : wr.cell? ⟨w.heap.size, k, none⟩ = some (.int .u32 (V (st.get k))) := hI.cell k (by omega)
        have ek : IntKind.i64.wrap ((i : Int) / 4) = (k : Int) := by rw [IntWalk.i64_in _ (by omega)]; omega
        have bk : (k : Int) < 8 := by omega
        have hx := hI.word k (by omega)
        have HK := Lib.hid (And.intro hk hx)
        clear hk hx
        go_wp2
        go_quiet (fail)
        clear c1 c2 ek bk
        generalize hW : World.drewN _ _ = W5
        have hI5 : SumInv l st w wS W5 i := by rw [← hW]; exact hI.drewN _
        clear hW hI
        obtain ⟨v, ce⟩ := hI5.there i hlt
        have cf := hI5.free i
        have bi : (i : Int) < 32 := by omega
        go_wp2
        go_roundw
        case rel => exact ⟨i + 1, by omega, by go_num, hI5.put hlt _ (out_byte HK.out.1 HK.out.2)⟩
        case measure => simp [intOf]; omega
      · obtain rfl : i = 32 := by omega
        obtain ⟨a, ha, hza, hall⟩ := hI.out
        have hb := hI.below
        have hcv : (convert 31 9 (.slice (some ⟨wS.heap.size, 0, none⟩) 32 32)).run Tryd.prog wr = .ok (.string (str (sha l))) wr := by
          rw [← strOfNums_nums]
          refine run_convert_bytes_arg (P := Tryd.prog) (w := wr) 31 5 Tryd.underlying31 Tryd.underlying5 wS.heap.size 0 32 32 (nums (sha l)) ?_ (fun j hj => ?_) 9 Tryd.underlying9
          · rw [nums, List.length_map, sha_length]
          · rw [Nat.zero_add, cell_of_row _ _ _ _ _ _ ha, hall j hj]
            simp [nums, sha, outL, List.getD_eq_getElem?_getD, hj]
        clear ha hza hall hI
        go_wp2
        go_ret
        exact ⟨rfl, hb⟩

set_option maxRecDepth 100000 in
set_option maxHeartbeats 400000 in
theorem begin_any (w : World) : Calls Tryd.prog 41 #[] w fun e w' => e = .returned (.agg zero73) ∧ Below w.heap.size w w' := by
  have hz34 := z34
  go_enter Tryd.func41, Tryd.ntmps41
  go_wp2_with (first
    | (refine wpList_build_to rfl 46 _ rfl zero73 (by kernel_rfl) ?_)
    | (refine wpList_store_row rfl 46 _ _ rfl w.heap.size rfl 46 zero73 zero73 rfl (heap_alloc_new _ _) (by kernel_rfl) zero73_size begin_run.oneCell ?_))
  refine bodyPost_ret (results_cell_row rfl _ _ w.heap.size 46 zero73 (0, 0) _ rfl (setRow_heap _ _ _ _ _ _ (heap_alloc_new _ _)) Tryd.underlying46 rfl (by rw [zero73_size]; kernel_rfl)) rfl ⟨rfl, ?_⟩
  exact below_setRow ((Below.refl _ _).alloc (Nat.le_refl _) _) _ _ (Nat.le_refl _)

set_option maxRecDepth 100000 in
set_option maxHeartbeats 400000 in
theorem dsum_any (s : ByteArray) (hs : s.size < 1099511627000) (w : World) (hG : Glob w) :
    Calls Tryd.prog 32 #[.string s] w fun e w' => e = .returned (.string (str (sha s.data.toList))) ∧ Below w.heap.size w w' := by
  go_enter Tryd.func32, Tryd.ntmps32
  go_wp2_with fail
  refine (begin_any _).mono ?_
  rintro e w1 ⟨rfl, hb1⟩
  go_wp2_with fail
  refine (with_any zero73 [] begin_run s (by simp; omega) _ (hG.below hb1)).mono ?_
  rintro e w2 ⟨c, rfl, hr, hb2⟩
  go_wp2_with fail
  have hl : ([] ++ s.data.toList).length = s.size := rfl
  refine (rsum_any c _ hr (by rw [hl]; omega) _ ((hG.below hb1).below hb2)).mono ?_
  rintro e w3 ⟨rfl, hb3⟩
  go_wp2_with fail
  go_ret
  exact ⟨rfl, (hb1.trans (hb2.mono hb1.size)).trans (hb3.mono (Nat.le_trans hb1.size hb2.size))⟩
end Go.Proofs.YtnpdmkgefaobeaaDoor
