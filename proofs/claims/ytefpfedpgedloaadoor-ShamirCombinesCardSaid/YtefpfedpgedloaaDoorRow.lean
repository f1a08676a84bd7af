/- Memory: whole rows, slices of arrays; no function of the program. -/
import Derived.Test.YtefpfedpgedloaaDoorProg
import Derived.WalkKit
import Derived.Lib.Hide
import Derived.Deep.MidRow
namespace Go.Proofs.YtefpfedpgedloaaDoor
open Go.RowKit

section
variable {P : Program}
/-- A whole array into the block that it fills, at the list of a plain region's operations. -/
theorem wpList_store_row {ops : Array Oper} {rest : List Oper} {o : Oper} {a : Act} {w : World} {Q : Exit → Act → World → Prop} (hgd : o.guard = none) (ty : TypeId) (x y : Operand) (ho : o.op = .store ty x y)
    (g : Nat) (hx : a.eval x = .pointer (some ⟨g, 0, none⟩)) (t : TypeId) (old cells : Array Value) (hy : a.eval y = .agg cells) (hg : w.heap[g]? = some (.cells old t (0, 0)))
    (hi : (P.info? ty).map (·.size) = some cells.size) (hold : old.size = cells.size) (h1 : cells.all (·.oneCell') = true)
    (h : wpList P ops Q rest (a.put o.dst undef) (w.setRow g cells)) : wpList P ops Q (o :: rest) a w :=
  wpList_plain hgd fun _ hK => by
    unfold Oper.wp execOp
    simp only [ho, hx, hy, Instr.storeAt, Instr.sureAddr, Sem.run_bind, Sem.run_pure, Result.andThen_ok, run_storeVar_row w g t ty old cells hg hi hold h1]
    exact hK _ _ h
/-- A slice of an array of one-cell elements, with both bounds. -/
theorem run_sliceAt_lh {T E N : Nat} (hu : P.underlying T = some (.array N E)) (hs : (P.info? E).map (·.size) = some 1) (b o l h : Nat) (hl : l ≤ h) (hh : h ≤ N) (hN : l < N) (W : World) :
    (Instr.sliceAt T (.pointer (some ⟨b, o, none⟩)) (some (.int .i64 l)) (some (.int .i64 h)) none).run P W = .ok (.slice (some ⟨b, o + l, none⟩) (h - l) (N - l)) W := by
  have hA : P.arrayLen T = N := by simp [Program.arrayLen, hu]
  have hE : P.elem T = E := by simp [Program.elem, hu]
  have hu' : P.underlying T = some (.array (P.arrayLen T) (P.elem T)) := by rw [hA, hE]; exact hu
  rw [run_sliceAt_array_lh W T ⟨b, o, none⟩ hu' .i64 .i64 l h (by omega) (by omega) (by rw [hA]; omega), hA, hE]
  cases hq : P.info? E with
  | none => simp [hq] at hs
  | some i =>
    have hi : i.size = 1 := by simpa [hq] using hs
    have hadd : (⟨b, o, none⟩ : Addr).add l = ⟨b, o + l, none⟩ := Addr.add_mid b o l
    simp [sizeOf, typeInfo, hq, hi, slicedAt, hadd]
    omega
theorem run_sliceAt_h {T E N : Nat} (hu : P.underlying T = some (.array N E)) (hs : (P.info? E).map (·.size) = some 1) (b o h : Nat) (hh : h ≤ N) (W : World) :
    (Instr.sliceAt T (.pointer (some ⟨b, o, none⟩)) none (some (.int .i64 h)) none).run P W = .ok (.slice (some ⟨b, o, none⟩) h N) W := by
  have hA : P.arrayLen T = N := by simp [Program.arrayLen, hu]
  have hE : P.elem T = E := by simp [Program.elem, hu]
  have hu' : P.underlying T = some (.array (P.arrayLen T) (P.elem T)) := by rw [hA, hE]; exact hu
  rw [run_sliceAt_array_h W T ⟨b, o, none⟩ hu' .i64 h (by omega) (by rw [hA]; omega), hA, hE]
  cases hq : P.info? E with
  | none => simp [hq] at hs
  | some i =>
    have hi : i.size = 1 := by simpa [hq] using hs
    have hadd : (⟨b, o, none⟩ : Addr).add 0 = ⟨b, o, none⟩ := Addr.add_mid b o 0
    simp [sizeOf, typeInfo, hq, hi, slicedAt, hadd]
theorem run_sliceAt_l {T E N : Nat} (hu : P.underlying T = some (.array N E)) (hs : (P.info? E).map (·.size) = some 1) (b o l : Nat) (hN : l < N) (W : World) :
    (Instr.sliceAt T (.pointer (some ⟨b, o, none⟩)) (some (.int .i64 l)) none none).run P W = .ok (.slice (some ⟨b, o + l, none⟩) (N - l) (N - l)) W := by
  have hA : P.arrayLen T = N := by simp [Program.arrayLen, hu]
  have hE : P.elem T = E := by simp [Program.elem, hu]
  have hu' : P.underlying T = some (.array (P.arrayLen T) (P.elem T)) := by rw [hA, hE]; exact hu
  rw [run_sliceAt_array_l W T ⟨b, o, none⟩ hu' .i64 l (by omega) (by rw [hA]; omega), hA, hE]
  cases hq : P.info? E with
  | none => simp [hq] at hs
  | some i =>
    have hi : i.size = 1 := by simpa [hq] using hs
    have hadd : (⟨b, o, none⟩ : Addr).add l = ⟨b, o + l, none⟩ := Addr.add_mid b o l
    simp [sizeOf, typeInfo, hq, hi, slicedAt, hadd]
    omega
end
theorem below_setRow {B : Nat} {a w : World} (h : Below B a w) (g : Nat) (cs : Array Value) (hg : B ≤ g) : Below B a (w.setRow g cs) :=
  h.trans ⟨rfl, rfl, rfl, by simp, fun k hk => setRow_other w g k cs (by omega)⟩

theorem heap_alloc3 (w : World) (A B C : Obj) :
    (((w.alloc A).alloc B).alloc C).heap[w.heap.size]? = some A ∧ (((w.alloc A).alloc B).alloc C).heap[w.heap.size + 1]? = some B ∧ (((w.alloc A).alloc B).alloc C).heap[w.heap.size + 1 + 1]? = some C ∧
    (((w.alloc A).alloc B).alloc C).heap.size = w.heap.size + 3 ∧ Below w.heap.size w (((w.alloc A).alloc B).alloc C) := by
  have s1 : (w.alloc A).heap.size = w.heap.size + 1 := by simp
  have s2 : ((w.alloc A).alloc B).heap.size = w.heap.size + 1 + 1 := by simp
  refine ⟨?_, ?_, ?_, by simp, (((Below.refl _ _).alloc (Nat.le_refl _) _).alloc (by simp) _).alloc (by simp; omega) _⟩
  · rw [Below.heap_alloc _ _ _ (by simp only [s2]; omega)]; exact heap_alloc2_old w A B
  · rw [Below.heap_alloc _ _ _ (by simp only [s2]; omega)]; exact heap_alloc2_new w A B
  · have := heap_alloc_new ((w.alloc A).alloc B) C; rwa [s2] at this
theorem below_trans' {B : Nat} {A X Y : World} (h : Below B A X) (k : Below X.heap.size X Y) (hB : B ≤ X.heap.size) : Below B A Y := h.trans (k.mono hB)
end Go.Proofs.YtefpfedpgedloaaDoor
