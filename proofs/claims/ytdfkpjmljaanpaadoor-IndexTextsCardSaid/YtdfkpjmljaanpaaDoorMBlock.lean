/- mac.blockOf, mac.turned: a key's block, and its bytes turned. -/
import Derived.Test.YtdfkpjmljaanpaaDoorMH2
import Derived.Test.YtdfkpjmljaanpaaDoorMB
import Derived.Deep.DeepMust
namespace Go.Proofs.YtdfkpjmljaanpaaDoor
open Go.RowKit

/-- A key, or its digest. -/
def keyOf (k : List UInt8) : List UInt8 := if 64 < k.length then sha k else k
theorem keyOf_length (k : List UInt8) : (keyOf k).length ≤ 64 := by
  unfold keyOf
  by_cases h : 64 < k.length
  · rw [if_pos h, sha_length]; decide
  · rw [if_neg h]; omega
/-- A key's block. -/
def blk (k : List UInt8) : List UInt8 := keyOf k ++ List.replicate (64 - (keyOf k).length) 0
theorem blk_length (k : List UInt8) : (blk k).length = 64 := by
  unfold blk; have := keyOf_length k; rw [List.length_append, List.length_replicate]; omega
def padX (k : List UInt8) (c : UInt8) : List UInt8 := (blk k).map (· ^^^ c)
theorem padX_length (k : List UInt8) (c : UInt8) : (padX k c).length = 64 := by unfold padX; rw [List.length_map, blk_length]
/-- The code of a text under a key. -/
def code (k t : List UInt8) : List UInt8 := sha (padX k 92 ++ sha (padX k 54 ++ t))
theorem code_length (k t : List UInt8) : (code k t).length = 32 := sha_length _

def zero64 : Array Value := Array.replicate 64 (.int .u8 0)
theorem zero64_size : zero64.size = 64 := Array.size_replicate
theorem z44 (w : World) : (zeroValue 101).run Tryd.prog w = .ok (.agg zero64) w := (zero_of_info (P := Tryd.prog) (t := 101) (v := .agg zero64) (n := 64) (by kernel_rfl)).1 w
/-- Bytes as the cells of an array. -/
def bArr (l : List UInt8) : Array Value := (bcells l).toArray
theorem bArr_size (l : List UInt8) : (bArr l).size = l.length := by simp [bArr, bcells]
theorem bArr_oneCell (l : List UInt8) : (bArr l).all (·.oneCell') = true := by
  rw [Array.all_eq_true_iff_forall_mem]
  intro x hx
  simp only [bArr, bcells, List.mem_toArray, List.mem_map] at hx
  obtain ⟨b, _, rfl⟩ := hx
  rfl
theorem bArr_get (l : List UInt8) (i : Nat) (h : i < l.length) : (bArr l)[i]? = some (.int .u8 ((l.getD i 0).toNat : Int)) := by
  simp [bArr, bcells, List.getD_eq_getElem?_getD, h]
theorem copied_blk (N : Nat) (k : ByteArray) (vs : List Value) (hv : vs = (k.data.toList.take k.size).map fun b => Value.int .u8 b.toNat) :
    ((Array.replicate N (Value.int .u8 0)).toList.take 0 ++ (vs ++ (Array.replicate N (Value.int .u8 0)).toList.drop (0 + k.size))).toArray = bArr (k.data.toList ++ List.replicate (N - k.data.toList.length) 0) := by
  have hl : k.data.toList.length = k.size := by simp
  subst hv
  unfold bArr bcells
  rw [List.take_of_length_le (l := k.data.toList) (by omega), List.map_append, List.map_replicate, Array.toList_replicate, List.drop_replicate, List.take_zero, List.nil_append, Nat.zero_add, hl]
  rfl

theorem wpList_copy_blk64 {w : World} {ops : Array Oper} {rest : List Oper} {o : Oper} {a : Act} {Q : Exit → Act → World → Prop} (hgd : o.guard = none) (d s : Operand) (dT sT : TypeId)
    (ho : o.op = .call { callee := .builtin .copy, args := #[d, s], argTypes := #[dT, sT] }) (hu : Tryd.prog.underlying dT = some (.slice 5)) (g : Nat) (k : ByteArray) (hd : a.eval d = .slice (some ⟨g, 0, none⟩) 64 64) (hs : a.eval s = .string k)
    (R : List UInt8) (hyp : Hid (w.heap[g]? = some (.cells zero64 101 (0, 0)) ∧ k.size ≤ 64 ∧ R = k.data.toList ++ List.replicate (64 - k.data.toList.length) 0))
    (h : ∀ w', w'.heap[g]? = some (.cells (bArr R) 101 (0, 0)) → Hid ((∀ (B : Nat) (W : World), B ≤ g → Below B W w → Below B W w') ∧ ∀ j, j ≠ g → w'.heap[j]? = w.heap[j]?) →
      wpList Tryd.prog ops Q rest (a.put o.dst (goInt k.size)) w') : wpList Tryd.prog ops Q (o :: rest) a w := by
  obtain ⟨hg, hk, hR⟩ := hyp.out
  refine wpList_copy_str hgd d s dT sT ho 5 hu (by kernel_rfl) g 0 64 64 k hd hs zero64 101 hg k.size (Nat.min_eq_left hk).symm (by rw [zero64_size]; decide) (fun vs hvs => ?_)
  have e := copied_blk 64 k vs hvs
  rw [← hR] at e
  rw [show zero64 = Array.replicate 64 (Value.int .u8 0) from rfl, e]
  exact h _ (setRow_heap _ _ _ _ _ _ hg) (Lib.hid ⟨fun B W hB hb => below_setRow hb _ _ hB, fun j hj => setRow_other _ _ _ _ hj⟩)

/-- The first k bytes turned. -/
def turnK (l : List UInt8) (c : UInt8) (k : Nat) : List UInt8 := (l.take k).map (· ^^^ c) ++ l.drop k
theorem turnK_length (l : List UInt8) (c : UInt8) (k : Nat) : (turnK l c k).length = l.length := by
  unfold turnK; rw [List.length_append, List.length_map, List.length_take, List.length_drop]; omega
theorem turnK_get (l : List UInt8) (c : UInt8) (k i : Nat) (hi : i < l.length) : (turnK l c k).getD i 0 = if i < k then l.getD i 0 ^^^ c else l.getD i 0 := by
  unfold turnK
  rw [List.getD_eq_getElem?_getD, List.getD_eq_getElem?_getD]
  by_cases h : i < k
  · rw [if_pos h, List.getElem?_append_left (by simp; omega)]
    simp [h, hi]
  · rw [if_neg h, List.getElem?_append_right (by simp; omega), List.getElem?_drop]
    congr 2
    simp; omega
theorem turnK_all (l : List UInt8) (c : UInt8) : turnK l c l.length = l.map (· ^^^ c) := by
  unfold turnK; rw [List.take_length, List.drop_length, List.append_nil]
theorem byte_xor8 (x y : UInt8) : bits .xor .u8 (x.toNat : Int) (y.toNat : Int) = ((x ^^^ y).toNat : Int) := by
  rw [u8_xor_nat _ _ x.toNat_lt y.toNat_lt, UInt8.toNat_xor]

end Go.Proofs.YtdfkpjmljaanpaaDoor
