/- chacha.fieldOf; arrays of words in a block of their own. -/
import Derived.Test.YtgoimggfpagojaaDoorQQuarter
import Derived.Test.YtgoimggfpagojaaDoorWords32
import Derived.Test.YtgoimggfpagojaaDoorMB
import Derived.Deep.QuietTactic
import Derived.BigQuiet
import Derived.StillTailTactics
import Derived.WalkSmall
namespace Go.Proofs.YtgoimggfpagojaaDoor
open Go.RowKit

/-- Words as an array's cells. -/
def wArr (l : List (BitVec 32)) : Array Value := (qwcells l).toArray
theorem wArr_size (l : List (BitVec 32)) : (wArr l).size = l.length := by simp [wArr, qwcells]
theorem wArr_get (l : List (BitVec 32)) (i : Nat) (h : i < l.length) : (wArr l)[i]? = some (.int .u32 (V (l.getD i 0))) := by
  have := wcells_get l i h
  simpa [wArr] using this
theorem wArr_set (l : List (BitVec 32)) (i : Nat) (x : BitVec 32) : (wArr l).setIfInBounds i (.int .u32 (V x)) = wArr (l.set i x) := by
  unfold wArr; rw [wcells_set]; simp
/-- An array of words lies in block g. -/
def RowA (t : TypeId) (w : World) (g : Nat) (l : List (BitVec 32)) : Prop := w.heap[g]? = some (.cells (wArr l) t (0, 0))
theorem RowA.lt {t : TypeId} {w : World} {g : Nat} {l : List (BitVec 32)} (h : RowA t w g l) : g < w.heap.size := (Array.getElem?_eq_some_iff.1 h).1
theorem RowA.call {t : TypeId} {w w' : World} {g : Nat} {l : List (BitVec 32)} (h : RowA t w g l) (hb : Below w.heap.size w w') : RowA t w' g l := (hb.block g h.lt).trans h
theorem RowA.drew {t : TypeId} {w : World} {g : Nat} {l : List (BitVec 32)} (h : RowA t w g l) : RowA t w.drew g l := h
theorem RowA.alloc {t : TypeId} {w : World} {g : Nat} {l : List (BitVec 32)} (h : RowA t w g l) (o : Obj) : RowA t (w.alloc o) g l := h.call ((Below.refl _ _).alloc (Nat.le_refl _) o)
theorem RowA.cell {t : TypeId} {w : World} {g : Nat} {l : List (BitVec 32)} (h : RowA t w g l) (i : Nat) (hi : i < l.length) : w.cell? ⟨g, i, none⟩ = some (.int .u32 (V (l.getD i 0))) := by
  rw [cell_of_row _ _ _ _ _ _ h, wArr_get l i hi]
theorem RowA.frozen {t : TypeId} {w : World} {g : Nat} {l : List (BitVec 32)} (h : RowA t w g l) (i : Nat) : w.frozen? ⟨g, i, none⟩ = false := frozen_of_row _ _ _ _ _ h
theorem RowA.put {t : TypeId} {w : World} {g : Nat} {l : List (BitVec 32)} (h : RowA t w g l) (i : Nat) (x : BitVec 32) : RowA t (w.setCell ⟨g, i, none⟩ (.int .u32 (V x))) g (l.set i x) := by
  unfold RowA; rw [← wArr_set]; exact heap_setCell_same _ _ _ _ _ _ h
theorem RowA.other {t : TypeId} {w : World} {g : Nat} {l : List (BitVec 32)} (h : RowA t w g l) (a : Addr) (v : Value) (ha : a.block ≠ g) : RowA t (w.setCell a v) g l := by
  unfold RowA; rw [heap_setCell_other _ _ _ _ (fun e => ha e.symm)]; exact h
theorem wArr_oneCell (l : List (BitVec 32)) : (wArr l).all (·.oneCell') = true := wcells_oneCell l

/-- Word i of the bytes f, the lowest byte first. -/
def wordLE (f : Nat → UInt8) (i : Nat) : BitVec 32 := w8 (f (4 * i)) ||| w8 (f (4 * i + 1)) <<< 8 ||| w8 (f (4 * i + 2)) <<< 16 ||| w8 (f (4 * i + 3)) <<< 24
def byteOf (T : ByteArray) (j : Nat) : UInt8 := T.data.toList.getD j 0
/-- The first i words of a text; behind them 0. -/
def wordsTo (T : ByteArray) (i : Nat) : List (BitVec 32) := (List.range 16).map fun j => if j < i then wordLE (byteOf T) j else 0
theorem wordsTo_length (T : ByteArray) (i : Nat) : (wordsTo T i).length = 16 := by simp [wordsTo]
theorem wordsTo_step (T : ByteArray) (k : Nat) : (wordsTo T k).set k (wordLE (byteOf T) k) = wordsTo T (k + 1) := by
  apply List.ext_getElem?
  intro i
  unfold wordsTo
  rw [List.getElem?_set]
  by_cases hi : i < 16
  · by_cases e : k = i
    · subst e; simp [hi]
    · rw [if_neg e]
      have : (i < k) = (i < k + 1) := by apply propext; omega
      simp [hi, this]
  · by_cases e : k = i
    · subst e; simp [hi]
    · simp [e, hi]
/-- The text of a field. -/
def opening : ByteArray := ⟨#[101, 120, 112, 97, 110, 100, 32, 51, 50, 45, 98, 121, 116, 101, 32, 107]⟩
def noCount : ByteArray := ⟨#[0, 0, 0, 0]⟩
def textF (key nonce : ByteArray) : ByteArray := opening ++ key ++ noCount ++ nonce
theorem textF_size (key nonce : ByteArray) (hk : key.size = 32) (hn : nonce.size = 12) : (textF key nonce).size = 64 := by
  unfold textF
  rw [ByteArray.size_append, ByteArray.size_append, ByteArray.size_append, hk, hn]; rfl
/-- A field. -/
def field (T : ByteArray) (c : BitVec 32) : List (BitVec 32) := (wordsTo T 16).set 12 c
theorem field_length (T : ByteArray) (c : BitVec 32) : (field T c).length = 16 := by unfold field; rw [List.length_set, wordsTo_length]
theorem extract4 (T : ByteArray) (hT : T.size = 64) (i : Nat) (hi : i < 16) : ∃ b : ByteArray, T.extract (4 * i) (4 * (i + 1)) = b ∧ b.size = 4 ∧ ∀ j, j < 4 → byteOf b j = byteOf T (4 * i + j) := by
  refine ⟨_, rfl, by rw [ByteArray.size_extract]; omega, fun j hj => ?_⟩
  unfold byteOf
  rw [ByteArray.data_extract, List.getD_eq_getElem?_getD, List.getD_eq_getElem?_getD]
  congr 1
  simp
  rw [List.getElem?_take, if_pos (by omega), List.getElem?_drop, Array.getElem?_toList]
theorem byteOf_lt (s : ByteArray) (i : Nat) (h : i < s.size) : s[i] = byteOf s i := by
  have h' : i < s.data.toList.length := by simpa using h
  unfold byteOf
  rw [List.getD_eq_getElem?_getD, List.getElem?_eq_getElem h', Option.getD_some]
  simp [ByteArray.getElem_eq_getElem_data]

theorem V_mul8w (x : BitVec 32) : IntKind.u32.wrap (V x * (256 : Int)) = V (x <<< 8) := V_shl x 8
theorem V_mul16w (x : BitVec 32) : IntKind.u32.wrap (V x * (65536 : Int)) = V (x <<< 16) := V_shl x 16
theorem V_mul24w (x : BitVec 32) : IntKind.u32.wrap (V x * (16777216 : Int)) = V (x <<< 24) := V_shl x 24
attribute [local go_sem] V_add V_add' V_xor V_and V_or V_not V_not' V_shr V_shl V_shl' V_byte V_byte' V_mul24 V_mul16 V_mul8 V_mul8w V_mul16w V_mul24w
theorem wordsTo_zero (T : ByteArray) : wordsTo T 0 = wordsTo ⟨#[]⟩ 0 := by unfold wordsTo; simp
theorem zero16 (T : ByteArray) : wArr (wordsTo T 0) = #[.int .u32 0, .int .u32 0, .int .u32 0, .int .u32 0, .int .u32 0, .int .u32 0, .int .u32 0, .int .u32 0, .int .u32 0, .int .u32 0, .int .u32 0, .int .u32 0, .int .u32 0, .int .u32 0, .int .u32 0, .int .u32 0] := by rw [wordsTo_zero]; rfl
set_option maxRecDepth 100000 in
set_option maxHeartbeats 400000 in
theorem fieldOf_any (key nonce : ByteArray) (hk : key.size = 32) (hn : nonce.size = 12) (c : BitVec 32) (w : World) :
    Calls Tryd.prog 120 #[.string key, .string nonce, .int .i64 (V c)] w fun e w' => e = .returned (.agg (wArr (field (textF key nonce) c))) ∧ Below w.heap.size w w' := by
  have hp0 := V_nonneg c
  have hp1 := V_lt c
  obtain ⟨T, hT⟩ : ∃ T, T = textF key nonce := ⟨_, rfl⟩
  have hTs : T.size = 64 := by rw [hT]; exact textF_size key nonce hk hn
  have HTe := Lib.hid (show ByteArray.mk #[101, 120, 112, 97, 110, 100, 32, 51, 50, 45, 98, 121, 116, 101, 32, 107] ++ key ++ ByteArray.mk #[0, 0, 0, 0] ++ nonce = T from hT.symm)
  obtain ⟨F, hF⟩ : ∃ F, F = field T c := ⟨_, rfl⟩
  rw [← hT, ← hF]
  have HF0 := Lib.hid hF
  clear hT hF
  go_enter Tryd.func120, Tryd.ntmps120
  go_wp2_with fail
  have hb1 : Below w.heap.size w ((w.alloc (.cells (wArr (wordsTo T 0)) 140)).alloc (.cells (wArr (wordsTo T 0)) 140)) := ((Below.refl _ _).alloc (Nat.le_refl _) _).alloc (by simp) _
  have zz : (w.alloc (.cells (wArr (wordsTo T 0)) 140)).heap.size = w.heap.size + 1 := by simp
  have hr1 : RowA 140 ((w.alloc (.cells (wArr (wordsTo T 0)) 140)).alloc (.cells (wArr (wordsTo T 0)) 140)) w.heap.size (wordsTo T 0) :=
    RowA.alloc (heap_alloc_new w (.cells (wArr (wordsTo T 0)) 140)) _
  have hr2 : RowA 140 ((w.alloc (.cells (wArr (wordsTo T 0)) 140)).alloc (.cells (wArr (wordsTo T 0)) 140)) (w.heap.size + 1) (wordsTo T 0) := by
    have := heap_alloc_new (w.alloc (.cells (wArr (wordsTo T 0)) 140)) (.cells (wArr (wordsTo T 0)) 140)
    rwa [zz] at this
  rw [zero16 T] at hb1 hr1 hr2
  have H0 := Lib.hid (And.intro hr2 (And.intro hr1 hb1))
  clear hr1 hr2 hb1 zz
  rw [HTe.out]
  clear HTe hk hn
  generalize World.alloc _ _ = w1 at *
  go_loopw [9, 10, 16] (fun _ _ c wr => ∃ i : Nat, i ≤ 16 ∧ c = .int .i64 i ∧ RowA 140 wr (w.heap.size + 1) (wordsTo T i) ∧ RowA 140 wr w.heap.size (wordsTo T 0) ∧ Below w.heap.size w wr) (fun _ _ c _ => 16 - (intOf c).toNat)
  case atStart => exact ⟨0, by omega, rfl, H0.out.1, H0.out.2.1, H0.out.2.2⟩
  case round =>
    clear H0
    obtain ⟨i, hi, rfl, hr, hz, hb⟩ := hrel
    by_cases hlt : i < 16
    · obtain ⟨B, hB, hBs, hBj⟩ := extract4 T hTs i hlt
      obtain ⟨x, hx⟩ : ∃ x, x = wordLE (byteOf T) i := ⟨_, rfl⟩
      have hxy : w8 (byteOf B 0) ||| w8 (byteOf B 1) <<< 8 ||| w8 (byteOf B 2) <<< 16 ||| w8 (byteOf B 3) <<< 24 = x := by
        rw [hBj 0 (by omega), hBj 1 (by omega), hBj 2 (by omega), hBj 3 (by omega), hx]; rfl
      have hil : (i : Int) < 16 := by omega
      have hcell := hr.cell i (by rw [wordsTo_length]; exact hlt)
      have hfr := hr.frozen i
      generalize (wordsTo T i).getD i 0 = old at hcell
      have hput := hr.put i x
      rw [hx, wordsTo_step, ← hx] at hput
      have H := Lib.hid (And.intro hput (And.intro (hz.other ⟨w.heap.size + 1, i, none⟩ (.int .u32 (V x)) (by simp)) (hb.setCell (p := ⟨w.heap.size + 1, i, none⟩) (by simp) (.int .u32 (V x)))))
      clear hr hz hb hput hx hBj
      have hTi : (T.size : Int) = 64 := by omega
      have hBi : (B.size : Int) = 4 := by omega
      go_wp2_with fail
      rw [hB]
      have y0 := byteOf_lt B 0 (by omega)
      have y1 := byteOf_lt B 1 (by omega)
      have y2 := byteOf_lt B 2 (by omega)
      have y3 := byteOf_lt B 3 (by omega)
      generalize byteOf B 0 = b0 at *
      generalize byteOf B 1 = b1 at *
      generalize byteOf B 2 = b2 at *
      generalize byteOf B 3 = b3 at *
      have HX := Lib.hid hxy
      clear hxy hB
      refine wp_region_still_tail 20 (by kernel_rfl) (by kernel_rfl) ?_
      simp only [List.take_succ_cons, List.take_zero, List.drop_succ_cons, List.drop_zero]
      repeat still_step
      rw [HX.out]
      refine wpStill_nil ?_
      change wpList _ _ _ _ _ wr.drew
      have hcell2 : wr.drew.cell? ⟨w.heap.size + 1, i, none⟩ = some (.int .u32 (V old)) := hcell
      have hfr2 : wr.drew.frozen? ⟨w.heap.size + 1, i, none⟩ = false := hfr
      have H2 := Lib.hid (show RowA 140 (wr.drew.setCell ⟨w.heap.size + 1, i, none⟩ (.int .u32 (V x))) (w.heap.size + 1) (wordsTo T (i + 1)) ∧ RowA 140 (wr.drew.setCell ⟨w.heap.size + 1, i, none⟩ (.int .u32 (V x))) w.heap.size (wordsTo T 0) ∧ Below w.heap.size w (wr.drew.setCell ⟨w.heap.size + 1, i, none⟩ (.int .u32 (V x))) from
        ⟨H.out.1, H.out.2.1, ⟨H.out.2.2.os, H.out.2.2.tape, H.out.2.2.output, H.out.2.2.size, H.out.2.2.block⟩⟩)
      clear H HX hcell hfr y0 y1 y2 y3
      generalize wr.drew = w3 at *
      go_wp2_with fail
      go_roundw
      case rel => exact ⟨i + 1, by omega, by go_num, H2.out.1, H2.out.2.1, H2.out.2.2⟩
      case measure => simp [intOf]; omega
    · obtain rfl : i = 16 := by omega
      have hF := HF0.out
      have hcell := hr.cell 12 (by rw [wordsTo_length]; decide)
      have hfr := hr.frozen 12
      generalize (wordsTo T 16).getD 12 0 = old at hcell
      have hput := hr.put 12 c
      rw [show (wordsTo T 16).set 12 c = F from hF.symm] at hput
      have hzz := hz.other ⟨w.heap.size + 1, 12, none⟩ (.int .u32 (V c)) (by simp)
      have hbb := hb.setCell (p := ⟨w.heap.size + 1, 12, none⟩) (by simp) (.int .u32 (V c))
      have hFl : (wArr F).size = 16 := by rw [wArr_size, hF, field_length]
      have hzl : (wArr (wordsTo T 0)).size = 16 := by rw [wArr_size, wordsTo_length]
      have HF := Lib.hid (And.intro hput (And.intro hzz (And.intro hbb (And.intro hFl hzl))))
      clear hr hz hb hput hzz hbb hF hFl hzl
      go_wp2_with (first
        | (refine wpList_load_row rfl 140 _ rfl (w.heap.size + 1) rfl 140 (wArr F) (0, 0) _ HF.out.1 Tryd.underlying140 rfl (by rw [HF.out.2.2.2.1]; kernel_rfl) ?_)
        | (refine wpList_store_row rfl 140 _ _ rfl w.heap.size rfl 140 (wArr (wordsTo T 0)) (wArr F) rfl HF.out.2.1 (by rw [HF.out.2.2.2.1]; kernel_rfl) (by rw [HF.out.2.2.2.1, HF.out.2.2.2.2]) (wArr_oneCell F) ?_))
      refine bodyPost_ret (results_cell_row rfl _ _ w.heap.size 140 (wArr F) (0, 0) _ rfl (setRow_heap _ _ _ _ _ _ HF.out.2.1) Tryd.underlying140 rfl (by rw [HF.out.2.2.2.1]; kernel_rfl)) rfl ⟨rfl, ?_⟩
      exact below_setRow HF.out.2.2.1 _ _ (Nat.le_refl _)
end Go.Proofs.YtgoimggfpagojaaDoor
