/- make of bytes; a key and the same with bytes 0 behind it, or its digest, have one block. -/
import Derived.Test.YtgoimggfpagojaaDoorMBlock
namespace Go.Proofs.YtgoimggfpagojaaDoor
open Go.RowKit

theorem kbelow_call {A B C : World} (h : Below A.heap.size A B) (k : Below B.heap.size B C) : Below A.heap.size A C := h.trans (k.mono h.size)
theorem blk_sha {k : List UInt8} (h : 64 < k.length) : blk (sha k) = blk k := by
  unfold blk
  rw [show keyOf (sha k) = sha k from by rw [keyOf, if_neg (by rw [sha_length]; decide)], show keyOf k = sha k from by rw [keyOf, if_pos h]]
theorem code_blk {k k' : List UInt8} (h : blk k = blk k') (t : List UInt8) : code k t = code k' t := by
  unfold code padX; rw [h]
theorem blk_zeros {k : List UInt8} {m : Nat} (h : k.length + m ≤ 64) : blk (k ++ List.replicate m 0) = blk k := by
  unfold blk
  rw [show keyOf (k ++ List.replicate m 0) = k ++ List.replicate m 0 from by rw [keyOf, if_neg (by simp; omega)], show keyOf k = k from by rw [keyOf, if_neg (by omega)], List.append_assoc, List.replicate_append_replicate, List.length_append, List.length_replicate]
  congr 2; omega
theorem pmake_bytes (w : World) (n : Nat) (hn : n ≤ 1000000) : ∃ w', (Instr.makeSlice 42 (.int .i64 (n : Int)) (.int .i64 (n : Int))).run Tryd.prog w = .ok (.slice (some ⟨w.heap.size, 0, none⟩) n n) w' ∧ OwnB w.heap.size w' (some ⟨w.heap.size, 0, none⟩) n (List.replicate n 0) ∧ Below w.heap.size w w' := by
  obtain ⟨i0, hi0, hz0, hz1, hz2⟩ := info_parts Tryd.info_byte
  obtain ⟨w', h1, h2, h3⟩ := run_makeSlice_full (P := Tryd.prog) w w.heap.size 42 5 i0 (.int .u8 0) 1 Tryd.underlying42 hi0 hz0 hz1 .i64 .i64 n (by omega) (by rw [hz2]; omega) (by unfold maxLen; omega) (Nat.le_refl _)
  refine ⟨w', h1, ?_, (Below.refl _ _).grown h3 (Nat.le_refl _) (fun k hk => by cases hk)⟩
  unfold OwnB
  rw [List.length_replicate]
  have e : bcells (List.replicate n 0) = (madeCells (Value.int IntKind.u8 0).cells (n * 1)).toList := by
    simp only [bcells, madeCells, Value.cells, List.map_replicate, Nat.mul_one]
    apply List.ext_getElem?
    intro i
    by_cases hi : i < n
    · simp [hi, Nat.mod_one]
    · simp [hi]
  rw [e]; exact h2
end Go.Proofs.YtgoimggfpagojaaDoor
