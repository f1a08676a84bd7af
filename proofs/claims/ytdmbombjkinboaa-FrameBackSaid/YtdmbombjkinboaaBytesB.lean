/- Slices of bytes that a call makes itself: bytes read and stored one by one, made by make, a beginning as a text. -/
import Derived.Test.YtdmbombjkinboaaBytes
namespace Go.Proofs.Ytdmbombjkinboaa
open Go.RowKit

theorem make_bytes (w : World) (n : Nat) (hn : n ≤ 1000000) : ∃ w', (Instr.makeSlice 47 (.int .i64 (n : Int)) (.int .i64 (n : Int))).run Try.prog w = .ok (.slice (some ⟨w.heap.size, 0, none⟩) n n) w' ∧ OwnB w.heap.size w' (some ⟨w.heap.size, 0, none⟩) n (List.replicate n 0) ∧ Below w.heap.size w w' := by
  obtain ⟨i0, hi0, hz0, hz1, hz2⟩ := info_parts Try.info_byte
  obtain ⟨w', h1, h2, h3⟩ := run_makeSlice_full (P := Try.prog) w w.heap.size 47 5 i0 (.int .u8 0) 1 Try.underlying47 hi0 hz0 hz1 .i64 .i64 n (by omega) (by rw [hz2]; omega) (by unfold maxLen; omega) (Nat.le_refl _)
  refine ⟨w', h1, ?_, (Below.refl _ _).grown h3 (Nat.le_refl _) (fun k hk => by cases hk)⟩
  unfold OwnB
  rw [List.length_replicate]
  have e : bcells (List.replicate n 0) = (madeCells (Value.int IntKind.u8 0).cells (n * 1)).toList := by
    simp only [bcells, madeCells, Value.cells, List.map_replicate, Nat.mul_one]
    apply List.ext_getElem?
    intro i
    by_cases hi : i < n
    · simp [hi, Nat.mod_one]
    · simp [hi]
  rw [e]; exact h2
/-- A byte that the call may write. -/
theorem OwnB.cellAt {B : Nat} {w : World} {g cap : Nat} {l : List UInt8} (h : OwnB B w (some ⟨g, 0, none⟩) cap l) (j : Nat) (hj : j < l.length) : w.cell? ⟨g, j, none⟩ = some (.int .u8 ((l.getD j 0).toNat : Int)) := by
  rw [World.ownsRow.cellAt h j (by omega)]
  simp [bcells, List.getD_eq_getElem?_getD, hj]
theorem OwnB.frozenAt {B : Nat} {w : World} {g cap : Nat} {l : List UInt8} (h : OwnB B w (some ⟨g, 0, none⟩) cap l) (j : Nat) : w.frozen? ⟨g, j, none⟩ = false := World.ownsRow.frozenAt h j
theorem bcells_set (l : List UInt8) (j : Nat) (c : UInt8) : bcells (l.set j c) = (bcells l).set j (.int .u8 (c.toNat : Int)) := by
  simp [bcells, List.map_set]
theorem OwnB.put {B : Nat} {w : World} {g cap : Nat} {l : List UInt8} (h : OwnB B w (some ⟨g, 0, none⟩) cap l) (j : Nat) (c : UInt8) :
    OwnB B (w.setCell ⟨g, j, none⟩ (.int .u8 (c.toNat : Int))) (some ⟨g, 0, none⟩) cap (l.set j c) := by
  unfold OwnB
  rw [List.length_set, bcells_set]
  exact (World.ownsRow.stored h j _).1

theorem wp_conv_take {B : Nat} {w : World} {g cap : Nat} {l : List UInt8} (h : OwnB B w (some ⟨g, 0, none⟩) cap l) (n : Nat) (hn : n ≤ l.length) :
    (convert 47 9 (.slice (some ⟨g, 0, none⟩) n cap)).run Try.prog w = .ok (.string (str (l.take n))) w := by
  rw [← strOfNums_nums]
  refine run_convert_bytes_arg (P := Try.prog) w 47 5 Try.underlying47 Try.underlying5 g 0 n cap (nums (l.take n)) (by simp [nums]; omega) (fun j hj => ?_) 9 Try.underlying9
  rw [Nat.zero_add, h.cellAt j (by omega)]
  have : j < l.length := by omega
  simp [nums, List.getD_eq_getElem?_getD, hj, this]

/-- append of the bytes of an array. -/
theorem wpList_append_bytes {ops : Array Oper} {rest : List Oper} {o : Oper} {act : Act} {Q : Exit → Act → World → Prop} {w w0 : World} (hgd : o.guard = none) (s x : Operand)
    (ho : o.op = .call { callee := .builtin .append, args := #[s, x], argTypes := #[47, 47] })
    {B : Nat} {a : Option Addr} {cap : Nat} {l : List UInt8} (hown : OwnB B w a cap l) (n : Nat) (hn : l.length = n) (hs : act.eval s = .slice a n cap)
    (g c' m : Nat) (c : List UInt8) (hx : act.eval x = .slice (some ⟨g, 0, none⟩) m c') (hm : c.length = m) (hm0 : 0 < m) (hc : ∀ j, j < m → w.cell? ⟨g, j, none⟩ = some (.int .u8 ((c.getD j 0).toNat : Int)))
    (hlen : n + m < 70368744177664) (hbase : B ≤ w.heap.size) (hb0 : Below B w0 w)
    (h : ∀ g cap w', OwnB B w' (some ⟨g, 0, none⟩) cap (l ++ c) → Below B w0 w' → wpList Try.prog ops Q rest (act.put o.dst (.slice (some ⟨g, 0, none⟩) (n + m) cap)) w') : wpList Try.prog ops Q (o :: rest) act w := by
  subst hn hm
  obtain ⟨i0, hi0, hz0, hz1, hz2⟩ := info_parts Try.info_byte
  refine wpList_append_lies w hgd s x 47 ho B 5 i0 _ 1 1 Try.underlying47 hi0 hz0 hz1 hz2 rfl (by decide) (.slice a l.length cap) l.length (bcells l) hs hown ⟨g, 0, none⟩ c.length c' (bcells c) hx (by simp [bcells])
    (fun j u hj => ?_) (fun u hu => by simp only [bcells, List.mem_map] at hu; obtain ⟨b, _, rfl⟩ := hu; rfl) hm0 (by unfold maxLen; omega) (by omega) hbase w.heap.size rfl (fun g cap w' h1 h2 _ _ => h g cap w' ?_ ?_)
  · have hj' : j < c.length := by
      have := (List.getElem?_eq_some_iff.1 hj).1
      simpa [bcells] using this
    rw [show (⟨g, 0, none⟩ : Addr).add j = ⟨g, j, none⟩ from by unfold Addr.add; split <;> simp_all, hc j hj']
    rw [← hj]
    simp [bcells, List.getD_eq_getElem?_getD, hj']
  · unfold OwnB
    rw [show bcells (l ++ c) = bcells l ++ bcells c from by simp [bcells], List.length_append]; exact h1
  · exact OwnB.below hown h2 hbase hb0
/-- make of no byte, with room. -/
theorem make_room (w : World) (n : Nat) (hn : n ≤ 1000000) : ∃ w', (Instr.makeSlice 47 (.int .i64 0) (.int .i64 (n : Int))).run Try.prog w = .ok (.slice (some ⟨w.heap.size, 0, none⟩) 0 n) w' ∧ OwnB w.heap.size w' (some ⟨w.heap.size, 0, none⟩) n [] ∧ Below w.heap.size w w' := by
  obtain ⟨i0, hi0, hz0, hz1, hz2⟩ := info_parts Try.info_byte
  obtain ⟨w', h1, h2, h3⟩ := run_makeSlice_owned (P := Try.prog) w w.heap.size 47 5 i0 (.int .u8 0) 1 Try.underlying47 hi0 hz0 hz1 .i64 .i64 n (by omega) (by rw [hz2]; omega) (by unfold maxLen; omega) (Nat.le_refl _)
  exact ⟨w', h1, h2, (Below.refl _ _).grown h3 (Nat.le_refl _) (fun k hk => by cases hk)⟩
end Go.Proofs.Ytdmbombjkinboaa
