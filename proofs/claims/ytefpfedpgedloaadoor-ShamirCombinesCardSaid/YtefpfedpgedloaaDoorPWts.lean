/- poly.Weights, At. -/
import Derived.Test.YtefpfedpgedloaaDoorPUnl
import Derived.Test.YtefpfedpgedloaaDoorGWts
namespace Go.Proofs.YtefpfedpgedloaaDoor
open Go.RowKit
open Gf

theorem OwnB.drewN {B : Nat} {w : World} {a : Option Addr} {cap : Nat} {l : List UInt8} (h : OwnB B w a cap l) : ∀ n, OwnB B (w.drewN n) a cap l
  | 0 => h
  | n + 1 => (OwnB.drewN h n).drew
/-- The weights, or nothing. -/
def wgtB (l : ByteArray) (x : UInt8) : ByteArray := if ulk l = true then str (wgts l.data.toList x) else ⟨#[]⟩
def werr (l : ByteArray) : Int := if ulk l = true then 0 else 1
/-- What stands in memory behind k weights. -/
def wK (l : List UInt8) (x : UInt8) (k : Nat) : List UInt8 := (List.range l.length).map fun i => if i < k then wgt l x i else 0
theorem wK_length (l : List UInt8) (x : UInt8) (k : Nat) : (wK l x k).length = l.length := by unfold wK; rw [List.length_map, List.length_range]
theorem wK_zero (l : List UInt8) (x : UInt8) : wK l x 0 = List.replicate l.length 0 := by
  unfold wK
  apply List.ext_getElem?
  intro i
  rw [List.getElem?_map, List.getElem?_replicate]
  by_cases hi : i < l.length
  · rw [List.getElem?_range hi, if_pos hi]; rfl
  · rw [if_neg hi, List.getElem?_eq_none (by rw [List.length_range]; omega)]; rfl
theorem wK_step (l : List UInt8) (x : UInt8) (k : Nat) (hk : k < l.length) : (wK l x k).set k (wgt l x k) = wK l x (k + 1) := by
  apply List.ext_getElem?
  intro i
  unfold wK
  rw [List.getElem?_set, List.length_map, List.length_range, List.getElem?_map, List.getElem?_map]
  by_cases hi : i < l.length
  · rw [List.getElem?_range hi]
    by_cases e : k = i
    · subst e; rw [if_pos rfl, if_pos hk]; simp
    · rw [if_neg e]
      have : (i < k) = (i < k + 1) := by apply propext; omega
      simp [this]
  · rw [if_neg (by omega), List.getElem?_eq_none (by rw [List.length_range]; omega)]; rfl
theorem wK_all (l : List UInt8) (x : UInt8) : wK l x l.length = wgts l x := by
  unfold wK wgts
  refine List.map_congr_left (fun i hi => ?_)
  rw [if_pos (List.mem_range.1 hi)]
end Go.Proofs.YtefpfedpgedloaaDoor
