/- crc.More: bytes taken in four bits at once. -/
import Derived.Test.YtdmbombjkinboaaZProd
import Derived.Deep.QuietTactic
import Derived.BigQuiet
import Derived.StillTailTactics
import Derived.Deep.MidRow
namespace Go.Proofs.Ytdmbombjkinboaa
open Go.RowKit
attribute [local go_sem] V_xor V_and V_or V_not V_not' V_and1 V_xorT V_div2 V_div16 V_and15

theorem V_xorb (x : BitVec 32) (b : UInt8) : bits .xor .u32 (V x) (b.toNat : Int) = V (x ^^^ w8 b) := by rw [← V_w8, V_xor]
theorem V_bytew (b : UInt8) : IntKind.u32.wrap (b.toNat : Int) = (b.toNat : Int) := by rw [V_byte', V_w8]
attribute [local go_sem] V_xorb V_bytew

/-- What holds of memory at the head of round k of the first loop. -/
def TabInv (n : Nat) (w wr : World) (k : Nat) : Prop :=
  (∃ ws : Array Value, wr.heap[n]? = some (.cells ws 70 (0, 0)) ∧ ws.size = 16 ∧ ∀ j, j < k → ws[j]? = some (.int .u32 (V (Zc.tab j)))) ∧ Below n w wr
theorem TabInv.start (w : World) (cs : Array Value) (h : cs.size = 16) : TabInv w.heap.size w (w.alloc (.cells cs 70)) 0 :=
  ⟨⟨cs, heap_alloc_new _ _, h, fun j hj => absurd hj (by omega)⟩, (Below.refl _ _).alloc (Nat.le_refl _) _⟩
theorem TabInv.free {n : Nat} {w wr : World} {k : Nat} (h : TabInv n w wr k) (i : Nat) : wr.frozen? ⟨n, i, none⟩ = false := by
  obtain ⟨ws, h1, -⟩ := h.1
  exact frozen_of_row _ _ _ _ _ h1
theorem TabInv.old {n : Nat} {w wr : World} {k : Nat} (h : TabInv n w wr k) (i : Nat) (hi : i < 16) : ∃ v, wr.cell? ⟨n, i, none⟩ = some v := by
  obtain ⟨ws, h1, h2, -⟩ := h.1
  exact ⟨ws[i]'(by omega), by rw [cell_of_row _ _ _ _ _ _ h1, Array.getElem?_eq_getElem (by omega)]⟩
theorem TabInv.cell {n : Nat} {w wr : World} {k : Nat} (h : TabInv n w wr k) (i : Nat) (hi : i < k) : wr.cell? ⟨n, i, none⟩ = some (.int .u32 (V (Zc.tab i))) := by
  obtain ⟨ws, h1, -, h3⟩ := h.1
  rw [cell_of_row _ _ _ _ _ _ h1, h3 i hi]
theorem TabInv.put {n : Nat} {w wr : World} {k : Nat} (h : TabInv n w wr k) (hk : k < 16) :
    TabInv n w (wr.setCell ⟨n, k, none⟩ (.int .u32 (V (Zc.tab k)))) (k + 1) := by
  obtain ⟨⟨ws, h1, h2, h3⟩, hb⟩ := h
  refine ⟨⟨_, heap_setCell_same _ _ _ _ _ _ h1, by simpa using h2, fun j hj => ?_⟩, hb.setCell (Nat.le_refl _) _⟩
  rw [Array.getElem?_setIfInBounds]
  by_cases e : k = j
  · subst e; rw [if_pos rfl, if_pos (by omega)]
  · rw [if_neg e]; exact h3 j (by omega)
theorem TabInv.drew {n : Nat} {w wr : World} {k : Nat} (h : TabInv n w wr k) : TabInv n w wr.drew k := ⟨h.1, h.2.drew⟩

theorem nib (x : BitVec 32) : ∃ m : Nat, V (x &&& 15#32) = (m : Int) ∧ m < 16 ∧ Zc.tab m = Zc.Sn 4 (x &&& 15#32) := by
  refine ⟨(x &&& 15#32).toNat, rfl, ?_, ?_⟩
  · rw [BitVec.toNat_and]; exact Nat.lt_of_le_of_lt Nat.and_le_right (by decide)
  · unfold Zc.tab; rw [BitVec.ofNat_toNat]; simp
theorem zb4 (k : Nat) (hk : k < 16) (w : World) :
    Calls Try.prog 33 #[.int .u32 k, .int .i64 4] w fun e w' => e = .returned (.int .u32 (V (Zc.tab k))) ∧ w = w' := by
  have e : ((k : Nat) : Int) = V (BitVec.ofNat 32 k) := (V_num k (by omega)).symm
  rw [e]; exact zeroBits_any _ 4 (by decide) w
theorem take_snoc (s : ByteArray) (k : Nat) (h : k < s.size) : s.data.toList.take (k + 1) = s.data.toList.take k ++ [s[k]] := by
  rw [List.take_succ_eq_append_getElem (by simpa using h)]; rfl

set_option maxHeartbeats 1000000 in
theorem more_any (r : BitVec 32) (s : ByteArray) (hs : s.size ≤ maxLen) (w : World) :
    Calls Try.prog 27 #[.int .u32 (V r), .string s] w fun e w' => e = .returned (.int .u32 (V (Zc.more r s.data.toList))) ∧ Below w.heap.size w w' := by
  unfold maxLen at hs
  go_enter Try.func27, Try.ntmps27
  go_wp2
  go_loopw [6, 9] (fun _ i wr => ∃ k : Nat, k ≤ 16 ∧ i = .int .i64 k ∧ TabInv w.heap.size w wr k) (fun _ i _ => 16 - (intOf i).toNat)
  case atStart => exact ⟨0, by omega, rfl, TabInv.start _ _ rfl⟩
  case round =>
    obtain ⟨k, hk, rfl, hI⟩ := hrel
    have HI := Lib.hid hI
    clear hI
    by_cases hlt : k < 16
    · have hf := HI.out.free k
      obtain ⟨v, hv⟩ := HI.out.old k hlt
      go_wp2_with (first | (go_at_call 33; refine (zb4 k hlt _).mono ?_; rintro e w' ⟨rfl, rfl⟩))
      go_roundw
      case rel => exact ⟨k + 1, by omega, by go_num, HI.out.put hlt⟩
      case measure => simp [intOf]; omega
    · obtain rfl : k = 16 := by omega
      go_wp2
      go_loop [7, 22] (fun a i => ∃ k : Nat, k ≤ s.size ∧ i = .int .i64 k ∧ a = .int .u32 (V (Zc.reg (~~~r) (s.data.toList.take k)))) (fun _ i => s.size - (intOf i).toNat)
      case atStart => exact ⟨0, Nat.zero_le _, rfl, rfl⟩
      case round =>
        obtain ⟨k, hk, rfl, rfl⟩ := hrel
        obtain ⟨q, hq⟩ : ∃ q, q = Zc.reg (~~~r) (s.data.toList.take k) := ⟨_, rfl⟩
        rw [← hq]
        by_cases hlt : k < s.size
        · have hn : Zc.reg (~~~r) (s.data.toList.take (k + 1)) = Zc.byte q s[k] := by rw [take_snoc s k hlt, Zc.reg_snoc, hq]
          have hb := Zc.byte_nibbles q s[k]
          rw [← hn] at hb
          obtain ⟨x, hx⟩ : ∃ x, x = q ^^^ w8 s[k] := ⟨_, rfl⟩
          obtain ⟨m, m1, m2, m3⟩ := nib x
          obtain ⟨y, hy⟩ : ∃ y, y = x >>> 4 ^^^ Zc.tab m := ⟨_, rfl⟩
          obtain ⟨m', m1', m2', m3'⟩ := nib y
          have hz : V (y >>> 4 ^^^ Zc.tab m') = V (Zc.reg (~~~r) (s.data.toList.take (k + 1))) := by
            rw [← hb, m3']; simp only [← hx]; rw [← m3, ← hy]
          have c1 := HI.out.cell m (by omega)
          have c2 := HI.out.cell m' (by omega)
          have HZ := Lib.hid hz
          clear hz hb hn hq m3 m3'
          have hxv : V (q ^^^ w8 s[k]) = V x := by rw [hx]
          have hyv : V (x >>> 4 ^^^ Zc.tab m) = V y := by rw [hy]
          clear hx hy
          go_wp2
          go_round
          case rel => exact ⟨k + 1, by omega, by go_num, by rw [HZ.out]⟩
          case measure => simp [intOf]; omega
        · obtain rfl : k = s.size := by omega
          have HQ := Lib.hid hq
          clear hq
          go_wp2
          go_ret
          exact ⟨by rw [HQ.out, List.take_of_length_le (by simp)]; rfl, HI.out.2⟩
theorem sum_any (s : ByteArray) (hs : s.size ≤ maxLen) (w : World) :
    Calls Try.prog 28 #[.string s] w fun e w' => e = .returned (.int .u32 (V (Zc.sum s.data.toList))) ∧ Below w.heap.size w w' := by
  go_enter Try.func28, Try.ntmps28
  go_wp2_with fail
  refine (more_any 0#32 s hs _).mono ?_
  rintro e w1 ⟨rfl, hb⟩
  go_wp2_with fail
  go_ret
  exact ⟨rfl, hb⟩
theorem sum_v {s : ByteArray} {x : BitVec 32} (hs : s.size ≤ maxLen) (h : x = Zc.sum s.data.toList) (w : World) :
    Calls Try.prog 28 #[.string s] w fun e w' => e = .returned (.int .u32 (V x)) ∧ Below w.heap.size w w' := by
  rw [h]; exact sum_any s hs w
/-- crc.Zeros at any number. -/
def zerosI (r : BitVec 32) (n : Int) : BitVec 32 := if n ≤ 0 then r else Zc.zeros r n.toNat
theorem zerosI_nat (r : BitVec 32) (n : Nat) : zerosI r n = Zc.zeros r n := by
  unfold zerosI
  by_cases h : (n : Int) ≤ 0
  · obtain rfl : n = 0 := by omega
    rw [if_pos h, Zc.zeros_zero]
  · rw [if_neg h]; simp
end Go.Proofs.Ytdmbombjkinboaa
