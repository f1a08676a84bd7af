/- The two tables' rows. No function of the program. -/
import Derived.Test.YtcknmpcekmbcdaaRowV
import Derived.Test.YtcknmpcekmbcdaaGPowM
import Derived.Laws.Build
import Derived.Deep.WholeRow
namespace Go.Proofs.Ytcknmpcekmbcdaa
open Go.RowKit
open Gf

/-- Numbers as cells. -/
def icells (l : List Nat) : List Value := l.map fun (n : Nat) => Value.int .i64 (n : Int)
theorem icells_length (l : List Nat) : (icells l).length = l.length := by simp [icells]
theorem icells_set (l : List Nat) (i x : Nat) : (icells l).set i (.int .i64 (x : Int)) = icells (l.set i x) := by simp [icells, List.map_set]
theorem icells_get (l : List Nat) (i : Nat) (h : i < l.length) : (icells l)[i]? = some (.int .i64 ((l.getD i 0 : Nat) : Int)) := by
  simp [icells, List.getD_eq_getElem?_getD, h]
theorem icells_one (l : List Nat) : (icells l).toArray.all (·.oneCell') = true := by
  rw [Array.all_eq_true_iff_forall_mem]
  intro x hx
  simp only [icells, List.mem_toArray, List.mem_map] at hx
  obtain ⟨b, _, rfl⟩ := hx
  rfl
/-- The tables, behind k steps. -/
def pT : Nat → List Nat
  | 0 => List.replicate 256 0
  | k + 1 => (pT k).set k (eTab.getD k 0)
def lT : Nat → List Nat
  | 0 => List.replicate 256 0
  | k + 1 => (lT k).set (eTab.getD k 0) k
theorem pT_length : ∀ k, (pT k).length = 256
  | 0 => by rw [pT, List.length_replicate]
  | k + 1 => by rw [pT, List.length_set, pT_length k]
theorem lT_length : ∀ k, (lT k).length = 256
  | 0 => by rw [lT, List.length_replicate]
  | k + 1 => by rw [lT, List.length_set, lT_length k]
/-- The powers, and 1. -/
def pTab : List Nat := eTab ++ [1]
theorem pT_all : ((pT 255).set 255 1 == pTab) = true := by decide +kernel
theorem lT_all : (lT 255 == lTab) = true := by decide +kernel
theorem pT_eq : (pT 255).set 255 1 = pTab := eq_of_beq pT_all
theorem lT_eq : lT 255 = lTab := eq_of_beq lT_all
theorem pTab_length : pTab.length = 256 := by decide +kernel
theorem lTab_length : lTab.length = 256 := by decide +kernel
def zero256 : List Value := List.replicate 256 (.int .i64 0)
theorem zero256_p : zero256 = icells (pT 0) := by unfold zero256 icells pT; rw [List.map_replicate]; rfl
theorem zero256_l : zero256 = icells (lT 0) := by unfold zero256 icells lT; rw [List.map_replicate]; rfl
def zero512 : List Value := List.replicate 512 (.int .i64 0)
theorem zero512_size : zero512.toArray.size = 512 := by unfold zero512; rw [List.size_toArray, List.length_replicate]
theorem z256 (w : World) : (zeroValue 39).run Try.prog w = .ok (.agg zero256.toArray) w := (zero_of_info (P := Try.prog) (t := 39) (v := .agg zero256.toArray) (n := 256) (by kernel_rfl)).1 w
theorem z512 (w : World) : (zeroValue 40).run Try.prog w = .ok (.agg zero512.toArray) w := (zero_of_info (P := Try.prog) (t := 40) (v := .agg zero512.toArray) (n := 512) (by kernel_rfl)).1 w
/-- A part laid over cells. -/
theorem lay_part : ∀ (l : List Value) (k off : Nat) (cells : Array Value), off + k + l.length ≤ cells.size →
    ((l.zipIdx k).foldl (fun (cs : Array Value) (p : Value × Nat) => cs.setIfInBounds (off + p.2) p.1) cells).size = cells.size ∧
    ∀ i, ((l.zipIdx k).foldl (fun (cs : Array Value) (p : Value × Nat) => cs.setIfInBounds (off + p.2) p.1) cells)[i]? = if off + k ≤ i ∧ i < off + k + l.length then l[i - (off + k)]? else cells[i]?
  | [], k, off, cells, _ => ⟨rfl, fun i => by rw [if_neg (by simp)]; rfl⟩
  | v :: r, k, off, cells, h => by
    rw [List.length_cons] at h
    obtain ⟨h1, h2⟩ := lay_part r (k + 1) off (cells.setIfInBounds (off + k) v) (by rw [Array.size_setIfInBounds]; omega)
    rw [List.zipIdx_cons, List.foldl_cons]
    refine ⟨by rw [h1, Array.size_setIfInBounds], fun i => ?_⟩
    rw [h2 i]
    by_cases e : i = off + k
    · subst e
      rw [if_neg (by omega), if_pos (by simp), Array.getElem?_setIfInBounds_self_of_lt (by omega), Nat.sub_self]
      rfl
    · rw [Array.getElem?_setIfInBounds_ne (by omega)]
      by_cases hc : off + (k + 1) ≤ i ∧ i < off + (k + 1) + r.length
      · rw [if_pos hc, if_pos (by simp; omega), show i - (off + k) = (i - (off + (k + 1))) + 1 by omega]
        rfl
      · rw [if_neg hc, if_neg (by simp; omega)]
theorem two_laid (c1 c2 : Array Value) (h1 : c1.size = 256) (h2 : c2.size = 256) :
    c2.zipIdx.foldl (fun (cs : Array Value) (p : Value × Nat) => cs.setIfInBounds (256 + p.2) p.1) (c1.zipIdx.foldl (fun (cs : Array Value) (p : Value × Nat) => cs.setIfInBounds (0 + p.2) p.1) zero512.toArray) = c1 ++ c2 := by
  have zs := zero512_size
  generalize zero512.toArray = Z at *
  obtain ⟨a1, a2⟩ := lay_part c1.toList 0 0 Z (by rw [Array.length_toList, h1, zs]; decide)
  rw [← Array.foldl_toList, ← Array.foldl_toList, Array.toList_zipIdx, Array.toList_zipIdx]
  obtain ⟨D, hD⟩ : ∃ D, D = c1.toList.zipIdx.foldl (fun (cs : Array Value) (p : Value × Nat) => cs.setIfInBounds (0 + p.2) p.1) Z := ⟨_, rfl⟩
  rw [← hD] at a1 a2 ⊢
  obtain ⟨b1, b2⟩ := lay_part c2.toList 0 256 D (by rw [Array.length_toList, h2, a1, zs]; decide)
  apply Array.ext_getElem?
  intro i
  rw [b2 i, a2 i, Array.length_toList, Array.length_toList, h1, h2, Array.getElem?_append, h1]
  by_cases hi : i < 256
  · rw [if_neg (by omega), if_pos (by omega), if_pos hi]; simp
  · rw [if_neg hi]
    by_cases h3 : i < 512
    · rw [if_pos (by omega)]; simp
    · rw [if_neg (by omega), if_neg (by omega), Array.getElem?_eq_none (by rw [zs]; omega), Array.getElem?_eq_none (by rw [h2]; omega)]
theorem size256 (w : World) : (sizeOf 39).run Try.prog w = .ok 256 w := by
  have hs : (Try.prog.info? 39).map (·.size) = some 256 := by kernel_rfl
  cases hq : Try.prog.info? 39 with
  | none => simp [hq] at hs
  | some i =>
    have hi : i.size = 256 := by simpa [hq] using hs
    simp [sizeOf, typeInfo, hq, hi]
theorem build_two (c1 c2 : Array Value) (h1 : c1.size = 256) (h2 : c2.size = 256) (w : World) :
    (Instr.build 40 #[(0, .agg c1), (1, .agg c2)]).run Try.prog w = .ok (.agg (c1 ++ c2)) w := by
  have ht := two_laid c1 c2 h1 h2
  have hz5 := z512
  have zs := zero512_size
  generalize zero512.toArray = Z at *
  have hz : (Value.agg Z).cells = Z := rfl
  have hf : Instr.fill (fun x => some (x * 256, 256)) (Value.agg Z).cells [(0, Value.agg c1), (1, Value.agg c2)] = some (c1 ++ c2) := by
    have e1 : (Value.agg c1).cells = c1 := rfl
    have e2 : (Value.agg c2).cells = c2 := rfl
    obtain ⟨D, hD⟩ : ∃ D, D = c1.zipIdx.foldl (fun (cs : Array Value) (p : Value × Nat) => cs.setIfInBounds (0 + p.2) p.1) Z := ⟨_, rfl⟩
    have hDs : D.size = 512 := by
      have := (lay_part c1.toList 0 0 Z (by rw [Array.length_toList, h1, zs]; decide)).1
      rw [hD, ← Array.foldl_toList, Array.toList_zipIdx, this, zs]
    rw [← hD] at ht
    unfold Instr.fill
    simp only [Nat.zero_mul, e1, hz, h1, zs]
    rw [if_neg (by simp)]
    rw [show (Array.foldl (fun cs x => match x with | (c, j) => cs.setIfInBounds (0 + j) c) Z c1.zipIdx) = D from hD.symm]
    unfold Instr.fill
    simp only [Nat.one_mul, e2, h2, hDs]
    rw [if_neg (by simp)]
    unfold Instr.fill
    exact congrArg some ht
  unfold Instr.build
  simp only [Sem.run_bind, hz5, run_underlying Try.underlying40, Result.andThen_ok]
  rw [size256]
  simp only [Result.andThen_ok]
  simp [hf]
end Go.Proofs.Ytcknmpcekmbcdaa
