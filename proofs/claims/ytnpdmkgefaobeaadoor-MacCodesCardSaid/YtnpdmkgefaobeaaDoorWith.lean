/- With: a run, and a text behind it. -/
import Derived.Test.YtnpdmkgefaobeaaDoorTakeIn
import Derived.Test.YtnpdmkgefaobeaaDoorWordsOf
import Derived.Test.YtnpdmkgefaobeaaDoorRun
import Derived.Deep.RegionHeld3
import Derived.Deep.RegionWith
import Derived.Deep.WholeRow
import Derived.Deep.DeepMust
import Derived.Lib.Strings
import Derived.Lib.IndexBytes
namespace Go.Proofs.YtnpdmkgefaobeaaDoor
open Go.RowKit

def zero73 : Array Value := Array.replicate 8 (.int .u32 0) ++ Array.replicate 64 (.int .u8 0) ++ #[.int .i64 0]
theorem zero73_size : zero73.size = 73 := by simp only [zero73, Array.size_append, Array.size_replicate]; rfl
theorem z34 (w : World) : (zeroValue 46).run Tryd.prog w = .ok (.agg zero73) w := (zero_of_info (P := Tryd.prog) (t := 46) (v := .agg zero73) (n := 73) (by kernel_rfl)).1 w
def strLen : Value → Nat
  | .string r => r.size
  | _ => 0
theorem extract_rest (s : ByteArray) (n : Nat) : (s.extract n s.size).data.toList = s.data.toList.drop n := by
  exact Lib.extract_to_end s n

theorem cell72 {w2 : World} {g : Nat} {c1 : Array Value} {t : TypeId} {st : St} {f : Nat → UInt8} {m : Nat} {R : Prop} (h : Hid (w2.heap[g]? = some (.cells c1 t (0, 0)) ∧ Blk c1 st f m ∧ R)) : w2.cell? ⟨g, 72, none⟩ = some (.int .i64 m) := by
  rw [cell_of_row _ _ _ _ _ _ h.out.1]; exact h.out.2.1.2.2.2
theorem free72 {w2 : World} {g : Nat} {c1 : Array Value} {t : TypeId} {R : Prop} (h : Hid (w2.heap[g]? = some (.cells c1 t (0, 0)) ∧ R)) : w2.frozen? ⟨g, 72, none⟩ = false := frozen_of_row _ _ _ _ _ h.out.1

theorem bytes_of {c : Array Value} {st : St} {f : Nat → UInt8} {m : Nat} (h : Blk c st f m) : (c.extract 8 72).size = 64 ∧ ∀ j, j < 64 → (c.extract 8 72)[j]? = some (.int .u8 ((f j).toNat : Int)) := by
  refine ⟨by rw [Array.size_extract, h.1]; decide, fun j hj => ?_⟩
  rw [Array.getElem?_extract, if_pos (by rw [h.1]; omega)]
  exact h.2.2.1 j hj
theorem words_of {c : Array Value} {st : St} {f : Nat → UInt8} {m : Nat} (h : Blk c st f m) : c.extract 0 8 = cells8 st :=
  cells8_of (by rw [Array.size_extract, h.1]; decide) fun i hi => by
    rw [Array.getElem?_extract, if_pos (by rw [h.1]; omega), Nat.zero_add]; exact h.2.1 i hi
/-- The cells of a block that may be written. -/
def rowOf (W : World) (g : Nat) : Array Value := match W.heap[g]? with | some (.cells c _ (0, 0)) => c | _ => #[]
theorem rowOf_eq {W : World} {g : Nat} {c : Array Value} {t : TypeId} (h : W.heap[g]? = some (.cells c t (0, 0))) : rowOf W g = c := by simp [rowOf, h]
theorem rowOf_heap {W : World} {g : Nat} {n : Nat} (h : (rowOf W g).size = n + 1) : ∃ t, W.heap[g]? = some (.cells (rowOf W g) t (0, 0)) := by
  cases hq : W.heap[g]? with
  | none => simp [rowOf, hq] at h
  | some o =>
    cases o with
    | cells c t fr =>
      obtain ⟨x, y⟩ := fr
      by_cases e : x = 0 ∧ y = 0
      · obtain ⟨rfl, rfl⟩ := e; exact ⟨t, by rw [rowOf_eq hq]⟩
      · exfalso
        revert h
        unfold rowOf
        rw [hq]
        split
        · rename_i h2; simp at h2; omega
        · simp
    | _ => simp [rowOf, hq] at h
theorem rowOf_drew (W : World) (g : Nat) : rowOf W.drew g = rowOf W g := rfl
theorem rowOf_below {W W' : World} {g : Nat} (h : Below W.heap.size W W') (hg : g < W.heap.size) : rowOf W' g = rowOf W g := by
  unfold rowOf; rw [h.block g hg]
theorem lt_of_row {W : World} {g n : Nat} (h : (rowOf W g).size = n + 1) : g < W.heap.size := by
  obtain ⟨t, ht⟩ := rowOf_heap h
  rcases Nat.lt_or_ge g W.heap.size with k | k
  · exact k
  · rw [Array.getElem?_eq_none k] at ht; cases ht
theorem load31_pre (W : World) (g : Nat) (h : (rowOf W g).size = 73) : (Instr.loadAt 43 (.pointer (some ⟨g, 0, none⟩))).run Tryd.prog W = .ok (.agg ((rowOf W g).extract 0 8)) W := by
  obtain ⟨t, ht⟩ := rowOf_heap h
  have := run_loadAt_mid (P := Tryd.prog) W g 0 43 ((rowOf W g).extract 0 8).toList _ (World.rangeAt_of_block ht 0 8) Tryd.underlying43 rfl (by rw [Array.length_toList, Array.size_extract, h]; kernel_rfl)
  rw [Array.toArray_toList] at this
  exact this
theorem load32_pre (W : World) (g : Nat) (h : (rowOf W g).size = 73) : (Instr.loadAt 44 (.pointer (some ⟨g, 8, none⟩))).run Tryd.prog W = .ok (.agg ((rowOf W g).extract 8 72)) W := by
  obtain ⟨t, ht⟩ := rowOf_heap h
  have := run_loadAt_mid (P := Tryd.prog) W g 8 44 ((rowOf W g).extract 8 72).toList _ (World.rangeAt_of_block ht 8 64) Tryd.underlying44 rfl (by rw [Array.length_toList, Array.size_extract, h]; kernel_rfl)
  rw [Array.toArray_toList] at this
  exact this
theorem store31_pre (W : World) (g : Nat) (s : St) (h : (rowOf W g).size = 73) : (Instr.storeAt 43 (.pointer (some ⟨g, 0, none⟩)) (.agg (cells8 s))).run Tryd.prog W = .ok () (W.setCells g 0 (cells8 s).toList) := by
  obtain ⟨t, ht⟩ := rowOf_heap h
  exact run_storeAt_mid (P := Tryd.prog) W g 0 43 (cells8 s) (fun j hj => ⟨by
    have hj8 : j < 8 := hj
    rw [cell_of_row _ _ _ _ _ _ ht, Array.getElem?_eq_getElem (by omega)]; rfl, frozen_of_row _ _ _ _ _ ht⟩) (by kernel_rfl) (by simp [cells8, Value.oneCell'])
/-- The loads and the store of whole rows, closed to the walk till their block is known. -/
def ldRow (T : TypeId) (p : Value) : Sem Value := Instr.loadAt T p
def stRow (T : TypeId) (p v : Value) : Sem Unit := Instr.storeAt T p v
theorem ld31_hide (p : Value) : Instr.loadAt 43 p = ldRow 43 p := rfl
theorem ld32_hide (p : Value) : Instr.loadAt 44 p = ldRow 44 p := rfl
theorem st31_hide (p v : Value) : Instr.storeAt 43 p v = stRow 43 p v := rfl
theorem ld31_eq (W : World) (g : Nat) (h : (rowOf W g).size = 73) : (ldRow 43 (.pointer (some ⟨g, 0, none⟩))).run Tryd.prog W = .ok (.agg ((rowOf W g).extract 0 8)) W := load31_pre W g h
theorem ld32_eq (W : World) (g : Nat) (h : (rowOf W g).size = 73) : (ldRow 44 (.pointer (some ⟨g, 8, none⟩))).run Tryd.prog W = .ok (.agg ((rowOf W g).extract 8 72)) W := load32_pre W g h
theorem st31_eq (W : World) (g : Nat) (s : St) (h : (rowOf W g).size = 73) : (stRow 43 (.pointer (some ⟨g, 0, none⟩)) (.agg (cells8 s))).run Tryd.prog W = .ok () (W.setCells g 0 (cells8 s).toList) := store31_pre W g s h
attribute [local go_sem ↓] ld31_hide ld32_hide st31_hide
attribute [local go_sem] ld31_eq ld32_eq st31_eq

theorem keepCall {A B C : World} (h : Below A.heap.size A B) (k : Below B.heap.size B C) : Below A.heap.size A C := h.trans (k.mono h.size)
theorem rowAfter {W W4 : World} {g : Nat} {c : Array Value} (h : rowOf W g = c) (hz : c.size = 73) (hb : Below W.drew.heap.size W.drew W4) : rowOf W4 g = c := by
  have hlt : g < W.heap.size := lt_of_row (n := 72) (by rw [h]; exact hz)
  exact (rowOf_below hb hlt).trans h
theorem rowAfter2 {W W4 : World} {g : Nat} {c : Array Value} (h : rowOf W g = c) (hz : c.size = 73) (hb : Below W.heap.size W W4) : rowOf W4 g = c := by
  have hlt : g < W.heap.size := lt_of_row (n := 72) (by rw [h]; exact hz)
  exact (rowOf_below hb hlt).trans h
theorem belowOfDrew {W W4 : World} (hb : Below W.drew.heap.size W.drew W4) : Below W.heap.size W W4 := ⟨hb.os, hb.tape, hb.output, hb.size, hb.block⟩

/-- The block and its Run behind the store of the size. -/
theorem size_stored {R : Prop} {w2 w : World} {g : Nat} {c1 : Array Value} {t : TypeId} {st : St} {f : Nat → UInt8} {m : Nat} {dl n : Nat} (hBg : w.heap.size ≤ g)
    (h : Hid (w2.heap[g]? = some (.cells c1 t (0, 0)) ∧ Blk c1 st f m ∧ Below w.heap.size w w2 ∧ R)) :
    (w2.setCell ⟨g, 72, none⟩ (.int .i64 ((dl : Int) + n))).heap[g]? = some (.cells (c1.setIfInBounds 72 (.int .i64 ((dl : Int) + n))) t (0, 0)) ∧ Blk (c1.setIfInBounds 72 (.int .i64 ((dl : Int) + n))) st f (dl + n) ∧
    Below w.heap.size w (w2.setCell ⟨g, 72, none⟩ (.int .i64 ((dl : Int) + n))) :=
  ⟨heap_setCell_same _ _ _ _ _ _ h.out.1, by have := blk_size h.out.2.1 (dl + n); simpa using this, h.out.2.2.1.setCell hBg _⟩

/-- The Run behind a block that was taken in. -/
theorem with_whole {w W3 w4 w5 : World} {g : Nat} {c3 : Array Value} {t : TypeId} {st st' : St} {f : Nat → UInt8} {m : Nat} {z : Obj}
    (g1 : W3.heap[g]? = some (.cells c3 t (0, 0))) (g2 : Blk c3 st f m) (g3 : Below w.heap.size w W3) (g4 : W3.heap[g + 1]? = some z) (h4 : Below W3.heap.size W3 w4) (h5 : Below w4.heap.size w4 w5)
    (hg : w.heap.size ≤ g := by exact Nat.le_refl _) :
    ∃ c4, (w5.setCells g 0 (cells8 st').toList).heap[g]? = some (.cells c4 t (0, 0)) ∧ Blk c4 st' f m ∧ (w5.setCells g 0 (cells8 st').toList).heap[g + 1]? = some z ∧ Below w.heap.size w (w5.setCells g 0 (cells8 st').toList) := by
  have hb := keepCall h4 h5
  have lt : g + 1 < W3.heap.size := by
    rcases Nat.lt_or_ge (g + 1) W3.heap.size with k | k
    · exact k
    · rw [Array.getElem?_eq_none k] at g4; cases g4
  have e1 := (hb.block g (by omega)).trans g1
  obtain ⟨c4, q1, q2⟩ := blk_words (st' := st') e1 g2
  exact ⟨c4, q1, q2, (heap_setCells_other g (g + 1) (by omega) _ 0 w5).trans ((hb.block (g + 1) lt).trans g4), below_setCells g hg _ 0 w5 (g3.trans (hb.mono g3.size))⟩

set_option maxRecDepth 100000 in
set_option maxHeartbeats 1000000 in
theorem with_any (c0 : Array Value) (l : List UInt8) (h0 : RunOf c0 l) (s : ByteArray) (hlen : l.length + s.size < 1099511627776) (w : World) (hG : Glob w) :
    Calls Tryd.prog 42 #[.agg c0, .string s] w fun e w' => ∃ c, e = .returned (.agg c) ∧ RunOf c (l ++ s.data.toList) ∧ Below w.heap.size w w' := by
  have hz34 := z34
  go_enter Tryd.func42, Tryd.ntmps42
  go_wp2_with fail
  have hI : ∀ W, W = (w.alloc (.cells c0 46)).alloc (.cells zero73 46) → W.heap[w.heap.size]? = some (.cells c0 46) ∧ W.heap[w.heap.size + 1]? = some (.cells zero73 46) ∧ Below w.heap.size w W := fun W h => by
    subst h
    exact ⟨heap_alloc2_old w _ _, heap_alloc2_new w _ _, ((Below.refl _ _).alloc (Nat.le_refl _) _).alloc (by simp) _⟩
  generalize hw1 : World.alloc (World.alloc w _) _ = w1
  obtain ⟨hA, hC, hb⟩ := hI _ hw1.symm
  clear hI hw1 hz34
  go_loopw [1] (fun sv wr => ∃ (rest : ByteArray) (done : List UInt8) (c : Array Value), sv = .string rest ∧ done ++ rest.data.toList = l ++ s.data.toList ∧ RunOf c done ∧
      wr.heap[w.heap.size]? = some (.cells c 46) ∧ wr.heap[w.heap.size + 1]? = some (.cells zero73 46) ∧ Below w.heap.size w wr) (fun sv _ => strLen sv)
  case atStart => exact ⟨s, l, c0, rfl, rfl, h0, hA, hC, hb⟩
  case round =>
    clear hA hC hb h0
    obtain ⟨rest, done, c, rfl, happ, hrun, hA, hC, hb⟩ := hrel
    have hsum : done.length + rest.size = l.length + s.size := by
      have := congrArg List.length happ
      simpa using this
    have HAPP := Lib.hid happ
    clear happ
    by_cases hpos : 0 < rest.size
    · obtain ⟨st, f, hblk, hst, htail⟩ := hrun
      obtain ⟨dl, hdl⟩ : ∃ n, n = done.length := ⟨_, rfl⟩
      obtain ⟨r, hr⟩ : ∃ r, r = dl % 64 := ⟨_, rfl⟩
      obtain ⟨d, hd⟩ : ∃ d, d = 64 - r := ⟨_, rfl⟩
      obtain ⟨o8, ho8⟩ : ∃ o, o = 8 + r := ⟨_, rfl⟩
      obtain ⟨n, hn⟩ : ∃ n, n = Nat.min rest.size d := ⟨_, rfl⟩
      have hn1 : n ≤ rest.size := by rw [hn]; exact Nat.min_le_left _ _
      have hn2 : n ≤ d := by rw [hn]; exact Nat.min_le_right _ _
      have hn3 : 0 < n := by rw [hn]; exact Nat.lt_min.2 ⟨hpos, by omega⟩
      have c72 : wr.cell? ⟨w.heap.size, 72, none⟩ = some (.int .i64 dl) := by rw [cell_of_row _ _ _ _ _ _ hA, hdl]; exact hblk.2.2.2
      have hsl : ∀ W, (Instr.sliceAt 44 (.pointer (some ⟨w.heap.size, 8, none⟩)) (some (.int .i64 ((dl : Int) % 64))) none none).run Tryd.prog W = .ok (.slice (some ⟨w.heap.size, o8, none⟩) d d) W := fun W => by
        have := run_sliceAt_l (P := Tryd.prog) Tryd.underlying44 (by kernel_rfl) w.heap.size 8 r (by omega) W
        rw [show ((r : Nat) : Int) = (dl : Int) % 64 by omega, ← ho8, ← hd] at this
        exact this
      have bd : (dl : Int) + n < 1099511627776 := by omega
      have bn : (n : Int) ≤ rest.size := by omega
      have HN := Lib.hid (And.intro hdl (And.intro hr (And.intro hd (And.intro ho8 hn))))
      have HC : Hid (wr.heap[w.heap.size]? = some (.cells c 46 (0, 0)) ∧ Blk c st f dl ∧ Below w.heap.size w wr ∧ w.heap.size ≤ w.heap.size ∧ o8 = 8 + r ∧ d = 64 - r ∧ r < 64 ∧ n = Nat.min rest.size d) :=
        ⟨hA, by rw [hdl]; exact hblk, hb, Nat.le_refl _, ho8, hd, by omega, hn⟩
      have HX := Lib.hid (And.intro hst (And.intro htail hC))
      have hposI : (0 : Int) < rest.size := by omega
      have hsub : n ≤ rest.size := hn1
      have HCC := Lib.hid hC
      by_cases h64 : r + n = 64
      · have hd64 : (((dl : Int) + n) % 64 == 0) = true := beq_iff_eq.2 (by omega)
        clear hdl hr hd ho8 hn hA hblk hb hst htail hC hsum
        go_wp2_with (((with_reducible refine (?_ : wpList _ _ _ ({ dst := some 15, op := _, type := _, pos := _, after := _, guard := none } :: _) _ _)); refine wpList_copy_blk rfl (.tmp 13) (.tmp 14) 31 9 rfl 5 Tryd.underlying31 (by kernel_rfl) w.heap.size o8 d rest rfl rfl c 46 st f dl r n w.heap.size w HC ?_; intro c1 w2 HC2; have c72b := cell72 HC2; have cfb := free72 HC2))
        obtain ⟨g1, g2, g3⟩ := size_stored (dl := dl) (n := n) (Nat.le_refl _) HC2
        have g4 : (w2.setCell ⟨w.heap.size, 72, none⟩ (.int .i64 ((dl : Int) + n))).heap[w.heap.size + 1]? = some (.cells zero73 46) := by
          rw [heap_setCell_other _ _ _ _ (by simp), HC2.out.2.2.2 _ (by omega)]; exact HCC.out
        generalize Array.setIfInBounds _ _ _ = c3 at *
        generalize World.setCell _ _ _ = W3 at *
        obtain ⟨bz, bg⟩ := bytes_of g2
        have w8 := words_of g2
        have ro : rowOf W3 w.heap.size = c3 := rowOf_eq g1
        have rz : c3.size = 73 := g2.1
        obtain ⟨bs, hbs⟩ : ∃ bs, bs = c3.extract 8 72 := ⟨_, rfl⟩
        rw [← hbs] at bz bg
        have b64 : c3.extract 8 72 = bs := hbs.symm
        have hG3 := hG.below g3
        have HG := Lib.hid (And.intro g1 (And.intro g2 (And.intro g3 (And.intro g4 (And.intro hG3 bg)))))
        clear g1 g2 g3 g4 hbs hG3 HC2 c72b cfb bg
        have rd : rowOf W3.drew w.heap.size = c3 := ro
        go_region_with ((first
          | (go_at_call 49; refine (wordsOf_any (mix f r n rest.data.toList) bs HG.out.2.2.2.2.2 _).mono ?_; rintro e w4 ⟨ws, rfl, hwz, hws, hbw⟩; have rw4 := rowAfter ro rz hbw; have HW4 := Lib.hid (And.intro hwz (And.intro hws hbw)); clear hwz hws hbw)
          | (go_at_call 48; refine (takeIn_any st _ _ HW4.out.1 HW4.out.2.1 _ (HG.out.2.2.2.2.1.below (belowOfDrew HW4.out.2.2))).mono ?_; rintro e w5 ⟨rfl, hbt⟩; have rw5 := rowAfter2 rw4 rz hbt; have HW5 := Lib.hid hbt; clear hbt)))
        all_goals
          obtain ⟨c4, q1, q2, q3, q4⟩ := with_whole (st' := st.add (rounds (wordOf (mix f r n rest.data.toList)) (first.add st) 64)) HG.out.1 HG.out.2.1 HG.out.2.2.1 HG.out.2.2.2.1 (belowOfDrew HW4.out.2.2) HW5.out
          obtain ⟨hdl, hr, hd, ho8, hn⟩ := HN.out
          clear ro rd rw4 rw5 w8 b64
          subst hdl hr
          go_wp2_with fail
          go_roundw
          case rel => exact ⟨rest.extract n rest.size, done ++ rest.data.toList.take n, c4, rfl, by rw [extract_rest, List.append_assoc, List.take_append_drop]; exact HAPP.out, run_whole HX.out.1 HX.out.2.1 hn1 (by omega) q2, q1, q3, q4⟩
          case measure => simp [strLen]; omega
      · have hd64 : (((dl : Int) + n) % 64 == 0) = false := beq_eq_false_iff_ne.2 (by omega)
        clear hdl hr hd ho8 hn hA hblk hb hst htail hC hsum
        go_wp2_with (((with_reducible refine (?_ : wpList _ _ _ ({ dst := some 15, op := _, type := _, pos := _, after := _, guard := none } :: _) _ _)); refine wpList_copy_blk rfl (.tmp 13) (.tmp 14) 31 9 rfl 5 Tryd.underlying31 (by kernel_rfl) w.heap.size o8 d rest rfl rfl c 46 st f dl r n w.heap.size w HC ?_; intro c1 w2 HC2; have c72b := cell72 HC2; have cfb := free72 HC2))
        obtain ⟨g1, g2, g3⟩ := size_stored (dl := dl) (n := n) (Nat.le_refl _) HC2
        have g4 : (w2.setCell ⟨w.heap.size, 72, none⟩ (.int .i64 ((dl : Int) + n))).heap[w.heap.size + 1]? = some (.cells zero73 46) := by
          rw [heap_setCell_other _ _ _ _ (by simp), HC2.out.2.2.2 _ (by omega)]; exact HCC.out
        obtain ⟨hdl, hr, hd, ho8, hn⟩ := HN.out
        subst hdl hr
        go_roundw
        case rel => exact ⟨rest.extract n rest.size, done ++ rest.data.toList.take n, _, rfl, by rw [extract_rest, List.append_assoc, List.take_append_drop]; exact HAPP.out, run_part g2 HX.out.1 HX.out.2.1 hn1 (by omega), g1, g4, g3⟩
        case measure => simp [strLen]; omega
    · have hz0 : rest.size = 0 := by omega
      have hd0 : decide ((0 : Int) < rest.size) = false := decide_eq_false (by omega)
      clear hpos
      go_wp2_with (first
        | (refine wpList_load_row rfl 46 _ rfl w.heap.size rfl 46 c (0, 0) _ hA Tryd.underlying46 rfl (by rw [hrun.size]; kernel_rfl) ?_)
        | (refine wpList_store_row rfl 46 _ _ rfl (w.heap.size + 1) rfl 46 _ c rfl hC (by rw [hrun.size]; kernel_rfl) (by rw [hrun.size]; exact zero73_size) hrun.oneCell ?_))
      refine bodyPost_ret (results_cell_row rfl _ _ (w.heap.size + 1) 46 c (0, 0) _ rfl (setRow_heap _ _ _ _ _ _ hC) Tryd.underlying46 rfl (by rw [hrun.size]; kernel_rfl)) rfl ⟨c, rfl, ?_, ?_⟩
      · rw [← HAPP.out, List.eq_nil_of_length_eq_zero (show rest.data.toList.length = 0 from hz0), List.append_nil]; exact hrun
      · exact below_setRow hb _ _ (by omega)
end Go.Proofs.YtnpdmkgefaobeaaDoor
