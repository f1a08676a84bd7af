/- mac.blockOf, mac.turned: a key's block, and its bytes turned. -/
import Derived.Test.YtgoimggfpagojaaDoorMH2
import Derived.Test.YtgoimggfpagojaaDoorMB
import Derived.Deep.DeepMust
namespace Go.Proofs.YtgoimggfpagojaaDoor
open Go.RowKit

/-- A key, or its digest. -/
def keyOf (k : List UInt8) : List UInt8 := if 64 < k.length then sha k else k
theorem keyOf_length (k : List UInt8) : (keyOf k).length ≤ 64 := by
  unfold keyOf
  by_cases h : 64 < k.length
  · rw [if_pos h, sha_length]; decide
  · rw [if_neg h]; omega
/-- A key's block. -/
def blk (k : List UInt8) : List UInt8 := keyOf k ++ List.replicate (64 - (keyOf k).length) 0
theorem blk_length (k : List UInt8) : (blk k).length = 64 := by
  unfold blk; have := keyOf_length k; rw [List.length_append, List.length_replicate]; omega
def padX (k : List UInt8) (c : UInt8) : List UInt8 := (blk k).map (· ^^^ c)
theorem padX_length (k : List UInt8) (c : UInt8) : (padX k c).length = 64 := by unfold padX; rw [List.length_map, blk_length]
/-- The code of a text under a key. -/
def code (k t : List UInt8) : List UInt8 := sha (padX k 92 ++ sha (padX k 54 ++ t))
theorem code_length (k t : List UInt8) : (code k t).length = 32 := sha_length _

def zero64 : Array Value := Array.replicate 64 (.int .u8 0)
theorem zero64_size : zero64.size = 64 := Array.size_replicate
theorem z44 (w : World) : (zeroValue 84).run Tryd.prog w = .ok (.agg zero64) w := (zero_of_info (P := Tryd.prog) (t := 84) (v := .agg zero64) (n := 64) (by kernel_rfl)).1 w
/-- Bytes as the cells of an array. -/
def bArr (l : List UInt8) : Array Value := (bcells l).toArray
theorem bArr_size (l : List UInt8) : (bArr l).size = l.length := by simp [bArr, bcells]
theorem bArr_oneCell (l : List UInt8) : (bArr l).all (·.oneCell') = true := by
  rw [Array.all_eq_true_iff_forall_mem]
  intro x hx
  simp only [bArr, bcells, List.mem_toArray, List.mem_map] at hx
  obtain ⟨b, _, rfl⟩ := hx
  rfl
theorem bArr_get (l : List UInt8) (i : Nat) (h : i < l.length) : (bArr l)[i]? = some (.int .u8 ((l.getD i 0).toNat : Int)) := by
  simp [bArr, bcells, List.getD_eq_getElem?_getD, h]
theorem copied_blk (N : Nat) (k : ByteArray) (vs : List Value) (hv : vs = (k.data.toList.take k.size).map fun b => Value.int .u8 b.toNat) :
    ((Array.replicate N (Value.int .u8 0)).toList.take 0 ++ (vs ++ (Array.replicate N (Value.int .u8 0)).toList.drop (0 + k.size))).toArray = bArr (k.data.toList ++ List.replicate (N - k.data.toList.length) 0) := by
  have hl : k.data.toList.length = k.size := by simp
  subst hv
  unfold bArr bcells
  rw [List.take_of_length_le (l := k.data.toList) (by omega), List.map_append, List.map_replicate, Array.toList_replicate, List.drop_replicate, List.take_zero, List.nil_append, Nat.zero_add, hl]
  rfl

theorem wpList_copy_blk64 {w : World} {ops : Array Oper} {rest : List Oper} {o : Oper} {a : Act} {Q : Exit → Act → World → Prop} (hgd : o.guard = none) (d s : Operand) (dT sT : TypeId)
    (ho : o.op = .call { callee := .builtin .copy, args := #[d, s], argTypes := #[dT, sT] }) (hu : Tryd.prog.underlying dT = some (.slice 5)) (g : Nat) (k : ByteArray) (hd : a.eval d = .slice (some ⟨g, 0, none⟩) 64 64) (hs : a.eval s = .string k)
    (R : List UInt8) (hyp : Hid (w.heap[g]? = some (.cells zero64 84 (0, 0)) ∧ k.size ≤ 64 ∧ R = k.data.toList ++ List.replicate (64 - k.data.toList.length) 0))
    (h : ∀ w', w'.heap[g]? = some (.cells (bArr R) 84 (0, 0)) → Hid ((∀ (B : Nat) (W : World), B ≤ g → Below B W w → Below B W w') ∧ ∀ j, j ≠ g → w'.heap[j]? = w.heap[j]?) →
      wpList Tryd.prog ops Q rest (a.put o.dst (goInt k.size)) w') : wpList Tryd.prog ops Q (o :: rest) a w := by
  obtain ⟨hg, hk, hR⟩ := hyp.out
  refine wpList_copy_str hgd d s dT sT ho 5 hu (by kernel_rfl) g 0 64 64 k hd hs zero64 84 hg k.size (Nat.min_eq_left hk).symm (by rw [zero64_size]; decide) (fun vs hvs => ?_)
  have e := copied_blk 64 k vs hvs
  rw [← hR] at e
  rw [show zero64 = Array.replicate 64 (Value.int .u8 0) from rfl, e]
  exact h _ (setRow_heap _ _ _ _ _ _ hg) (Lib.hid ⟨fun B W hB hb => below_setRow hb _ _ hB, fun j hj => setRow_other _ _ _ _ hj⟩)

set_option maxRecDepth 100000 in
set_option maxHeartbeats 400000 in
theorem blockOf_any (key : ByteArray) (hs : key.size < 1099511627000) (w : World) (hG : Glob w) :
    Calls Tryd.prog 61 #[.string key] w fun e w' => e = .returned (.agg (bArr (blk key.data.toList))) ∧ Below w.heap.size w w' := by
  have hz44 := z44
  obtain ⟨R, hR⟩ : ∃ R, R = blk key.data.toList := ⟨_, rfl⟩
  rw [← hR]
  have hsz : (bArr R).size = 64 := by rw [bArr_size, hR, blk_length]
  have hone := bArr_oneCell R
  have hzs := zero64_size
  have HZ := Lib.hid (And.intro hsz (And.intro hone hzs))
  clear hsz hone hzs
  by_cases hbig : (64 : Int) < key.size
  · obtain ⟨k, hk⟩ : ∃ k, k = str (sha key.data.toList) := ⟨_, rfl⟩
    have hkl : k.data.toList = keyOf key.data.toList := by rw [hk, str_data, keyOf, if_pos (by simp; omega)]
    have hks : k.size = 32 := by rw [hk, str_size, sha_length]
    have HK := Lib.hid (And.intro hk (And.intro (show k.size ≤ 64 by omega) (show R = k.data.toList ++ List.replicate (64 - k.data.toList.length) 0 by rw [hR, blk, hkl])))
    clear hk hkl hks hR
    go_enter Tryd.func61, Tryd.ntmps61
    go_wp2_with fail
    have hA0 : (w.alloc (.cells zero64 84)).heap[w.heap.size]? = some (.cells zero64 84 (0, 0)) := heap_alloc_new _ _
    have hB0 : Below w.heap.size w (w.alloc (.cells zero64 84)) := (Below.refl _ _).alloc (Nat.le_refl _) _
    have hG0 := hG.alloc (.cells zero64 84)
    generalize World.alloc w _ = w0 at *
    refine (dsum_any key hs _ hG0).mono ?_
    rintro e w1 ⟨rfl, hb1⟩
    rw [← HK.out.1]
    have hlt : w.heap.size < w1.heap.size := by have := hb1.size; have := (Array.getElem?_eq_some_iff.1 hA0).1; omega
    have hA1 : w1.heap[w.heap.size]? = some (.cells zero64 84 (0, 0)) := (hb1.block _ (Array.getElem?_eq_some_iff.1 hA0).1).trans hA0
    have hB1 := below_trans' hB0 hb1 (by have := (Array.getElem?_eq_some_iff.1 hA0).1; omega)
    clear hA0 hB0 hb1 hG0
    have hB2 : (w1.alloc (.cells zero64 84)).heap[w1.heap.size]? = some (.cells zero64 84 (0, 0)) := heap_alloc_new _ _
    have hA2 : (w1.alloc (.cells zero64 84)).heap[w.heap.size]? = some (.cells zero64 84 (0, 0)) := by
      rw [Lib.alloc_old _ _ _ hlt]; exact hA1
    have hbl2 : Below w.heap.size w (w1.alloc (.cells zero64 84)) := hB1.alloc (by omega) _
    have HB := Lib.hid (And.intro hB2 (And.intro hA2 hbl2))
    have HC := Lib.hid (And.intro hB2 HK.out.2)
    clear hB2 hA2 hbl2 hA1 hB1
    have hne : w.heap.size ≠ w1.heap.size := by omega
    have HN := Lib.hid hne
    clear hne
    go_wp2_with (first
      | (((with_reducible refine (?_ : wpList _ _ _ ({ dst := some 11, op := _, type := _, pos := _, after := _, guard := none } :: _) _ _)); refine wpList_copy_blk64 rfl (.tmp 9) (.tmp 10) 42 9 rfl Tryd.underlying42 w1.heap.size k rfl rfl R HC ?_; intro w5 hL1 hL2; have hL3 : w5.heap[w.heap.size]? = some (.cells zero64 84 (0, 0)) := (hL2.out.2 _ HN.out).trans HB.out.2.1))
      | (refine wpList_load_row rfl 84 _ rfl w1.heap.size rfl 84 (bArr R) (0, 0) _ hL1 Tryd.underlying84 rfl (by rw [HZ.out.1]; kernel_rfl) ?_)
      | (refine wpList_store_row rfl 84 _ _ rfl w.heap.size rfl 84 zero64 (bArr R) rfl hL3 (by rw [HZ.out.1]; kernel_rfl) (by rw [HZ.out.1, HZ.out.2.2]) HZ.out.2.1 ?_))
    refine bodyPost_ret (results_cell_row rfl _ _ w.heap.size 84 (bArr R) (0, 0) _ rfl (setRow_heap _ _ _ _ _ _ hL3) Tryd.underlying84 rfl (by rw [HZ.out.1]; kernel_rfl)) rfl ⟨rfl, ?_⟩
    exact below_setRow (hL2.out.1 _ _ (by omega) HB.out.2.2) _ _ (Nat.le_refl _)
  · obtain ⟨k, hkk⟩ : ∃ k, k = key := ⟨_, rfl⟩
    have hkl : k.data.toList = keyOf key.data.toList := by rw [hkk, keyOf, if_neg (by simp; omega)]
    have HK := Lib.hid (And.intro hkk (And.intro (show k.size ≤ 64 by rw [hkk]; omega) (show R = k.data.toList ++ List.replicate (64 - k.data.toList.length) 0 by rw [hR, blk, hkl])))
    clear hkl hR
    subst hkk
    obtain ⟨w1, hw1⟩ : ∃ w1, w1 = w.alloc (.cells zero64 84) := ⟨_, rfl⟩
    have hA1 : w1.heap[w.heap.size]? = some (.cells zero64 84 (0, 0)) := by rw [hw1]; exact heap_alloc_new _ _
    have hB1 : Below w.heap.size w w1 := by rw [hw1]; exact (Below.refl _ _).alloc (Nat.le_refl _) _
    have hlt : w.heap.size < w1.heap.size := by rw [hw1]; simp
    have hz1 : w.heap.size + 1 = w1.heap.size := by rw [hw1]; simp
    have HW := Lib.hid (And.intro hw1 hz1)
    clear hw1 hz1
    have hB2 : (w1.alloc (.cells zero64 84)).heap[w1.heap.size]? = some (.cells zero64 84 (0, 0)) := heap_alloc_new _ _
    have hA2 : (w1.alloc (.cells zero64 84)).heap[w.heap.size]? = some (.cells zero64 84 (0, 0)) := by
      rw [Lib.alloc_old _ _ _ hlt]; exact hA1
    have hbl2 : Below w.heap.size w (w1.alloc (.cells zero64 84)) := hB1.alloc (by omega) _
    have HB := Lib.hid (And.intro hB2 (And.intro hA2 hbl2))
    have HC := Lib.hid (And.intro hB2 HK.out.2)
    clear hB2 hA2 hbl2 hA1 hB1
    have hne : w.heap.size ≠ w1.heap.size := by omega
    have HN := Lib.hid hne
    clear hne
    rw [← HW.out.2, HW.out.1] at HB HC
    rw [← HW.out.2] at HN
    clear hlt
    go_enter Tryd.func61, Tryd.ntmps61
    go_wp2_with (first
      | (((with_reducible refine (?_ : wpList _ _ _ ({ dst := some 11, op := _, type := _, pos := _, after := _, guard := none } :: _) _ _)); refine wpList_copy_blk64 rfl (.tmp 9) (.tmp 10) 42 9 rfl Tryd.underlying42 (w.heap.size + 1) k rfl rfl R HC ?_; intro w5 hL1 hL2; have hL3 : w5.heap[w.heap.size]? = some (.cells zero64 84 (0, 0)) := (hL2.out.2 _ HN.out).trans HB.out.2.1))
      | (refine wpList_load_row rfl 84 _ rfl (w.heap.size + 1) rfl 84 (bArr R) (0, 0) _ hL1 Tryd.underlying84 rfl (by rw [HZ.out.1]; kernel_rfl) ?_)
      | (refine wpList_store_row rfl 84 _ _ rfl w.heap.size rfl 84 zero64 (bArr R) rfl hL3 (by rw [HZ.out.1]; kernel_rfl) (by rw [HZ.out.1, HZ.out.2.2]) HZ.out.2.1 ?_))
    refine bodyPost_ret (results_cell_row rfl _ _ w.heap.size 84 (bArr R) (0, 0) _ rfl (setRow_heap _ _ _ _ _ _ hL3) Tryd.underlying84 rfl (by rw [HZ.out.1]; kernel_rfl)) rfl ⟨rfl, ?_⟩
    exact below_setRow (hL2.out.1 _ _ (by omega) HB.out.2.2) _ _ (Nat.le_refl _)

/-- The first k bytes turned. -/
def turnK (l : List UInt8) (c : UInt8) (k : Nat) : List UInt8 := (l.take k).map (· ^^^ c) ++ l.drop k
theorem turnK_length (l : List UInt8) (c : UInt8) (k : Nat) : (turnK l c k).length = l.length := by
  unfold turnK; rw [List.length_append, List.length_map, List.length_take, List.length_drop]; omega
theorem turnK_get (l : List UInt8) (c : UInt8) (k i : Nat) (hi : i < l.length) : (turnK l c k).getD i 0 = if i < k then l.getD i 0 ^^^ c else l.getD i 0 := by
  unfold turnK
  rw [List.getD_eq_getElem?_getD, List.getD_eq_getElem?_getD]
  by_cases h : i < k
  · rw [if_pos h, List.getElem?_append_left (by simp; omega)]
    simp [h, hi]
  · rw [if_neg h, List.getElem?_append_right (by simp; omega), List.getElem?_drop]
    congr 2
    simp; omega
theorem turnK_all (l : List UInt8) (c : UInt8) : turnK l c l.length = l.map (· ^^^ c) := by
  unfold turnK; rw [List.take_length, List.drop_length, List.append_nil]
theorem byte_xor8 (x y : UInt8) : bits .xor .u8 (x.toNat : Int) (y.toNat : Int) = ((x ^^^ y).toNat : Int) := by
  rw [u8_xor_nat _ _ x.toNat_lt y.toNat_lt, UInt8.toNat_xor]

set_option maxRecDepth 100000 in
set_option maxHeartbeats 400000 in
theorem turned_any (l : List UInt8) (hl : l.length = 64) (c : UInt8) (w : World) :
    Calls Tryd.prog 62 #[.agg (bArr l), .int .u8 (c.toNat : Int)] w fun e w' => e = .returned (.string (str (l.map (· ^^^ c)))) ∧ Below w.heap.size w w' := by
  go_enter Tryd.func62, Tryd.ntmps62
  go_wp2_with fail
  have hR : Row8 w.heap.size (w.alloc (.cells (bArr l) 84)) w.heap.size (turnK l c 0) := by
    refine ⟨Nat.le_refl _, by simp, fun i hi => ⟨?_, ?_⟩⟩
    · rw [turnK_length] at hi
      rw [cell_of_row _ _ _ _ _ _ (heap_alloc_new _ _), turnK_get _ _ _ _ hi, if_neg (by omega), bArr_get l i hi]
    · exact frozen_of_row _ _ _ _ _ (heap_alloc_new _ _)
  have hB : Below w.heap.size w (w.alloc (.cells (bArr l) 84)) := (Below.refl _ _).alloc (Nat.le_refl _) _
  have HI := Lib.hid (And.intro hR hB)
  have HL := Lib.hid hl
  clear hR hB hl
  go_loopw [5, 6] (fun _ i wr => ∃ k : Nat, k ≤ 64 ∧ i = .int .i64 k ∧ Row8 w.heap.size wr w.heap.size (turnK l c k) ∧ Below w.heap.size w wr) (fun _ i _ => 64 - (intOf i).toNat)
  case atStart => exact ⟨0, by omega, rfl, HI.out.1, HI.out.2⟩
  case round =>
    clear HI
    obtain ⟨k, hk, rfl, hR, hb⟩ := hrel
    by_cases hlt : k < 64
    · have hkl : k < (turnK l c k).length := by rw [turnK_length, HL.out]; exact hlt
      obtain ⟨x, hx⟩ : ∃ x, x = l.getD k 0 := ⟨_, rfl⟩
      obtain ⟨hc, hf⟩ := hR.2.2 k hkl
      rw [turnK_get _ _ _ _ (by rw [HL.out]; exact hlt), if_neg (by omega), ← hx] at hc
      obtain ⟨y, hy⟩ : ∃ y, y = x ^^^ c := ⟨_, rfl⟩
      have hxy : bits .xor .u8 (x.toNat : Int) (c.toNat : Int) = (y.toNat : Int) := by rw [byte_xor8, hy]
      have H := Lib.hid (And.intro hR (And.intro hb (And.intro hx hy)))
      clear hR hb hx hy hkl
      go_wp2_with fail
      go_roundw
      case rel =>
        have hlk : k < l.length := by rw [HL.out]; exact hlt
        refine ⟨k + 1, by omega, by go_num, ?_, H.out.2.1.setCell (Nat.le_refl _) _⟩
        refine H.out.1.put k (by rw [turnK_length]; exact hlk) y (by rw [turnK_length, turnK_length]) ?_ (fun i hi hne => ?_)
        · rw [turnK_get _ _ _ _ hlk, if_pos (by omega), H.out.2.2.2, H.out.2.2.1]
        · rw [turnK_length] at hi
          rw [turnK_get _ _ _ _ hi, turnK_get _ _ _ _ hi]
          by_cases h1 : i < k
          · rw [if_pos (by omega), if_pos h1]
          · rw [if_neg (by omega), if_neg h1]
      case measure => simp [intOf]; omega
    · obtain rfl : k = 64 := by omega
      have hcv := hR.conv 64 (by rw [turnK_length, HL.out]) 64
      have e := turnK_all l c
      rw [HL.out] at e
      rw [e] at hcv
      have H := Lib.hid hb
      clear hR hb e
      go_wp2_with fail
      go_ret
      exact ⟨rfl, H.out⟩
end Go.Proofs.YtgoimggfpagojaaDoor
