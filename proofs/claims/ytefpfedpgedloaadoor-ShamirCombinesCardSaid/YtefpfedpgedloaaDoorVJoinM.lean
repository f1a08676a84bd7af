/- What shares are joined to: plain facts. -/
import Derived.Test.YtefpfedpgedloaaDoorVMath
namespace Go.Proofs.YtefpfedpgedloaaDoor
open Go.RowKit
open Gf

theorem str_ext {a b : ByteArray} (h : a.data.toList = b.data.toList) : a = b := by
  apply ByteArray.ext; apply Array.ext'; exact h
theorem bytes_ext {a b : ByteArray} (h1 : a.size = b.size) (h : ∀ i, i < b.size → co a.data.toList i = co b.data.toList i) : a = b := by
  refine str_ext (List.ext_getElem (by rw [data_len, data_len]; exact h1) (fun i h2 h3 => ?_))
  have := h i (by rw [← data_len]; exact h3)
  unfold co at this
  rw [List.getD_eq_getElem?_getD, List.getD_eq_getElem?_getD, List.getElem?_eq_getElem h2, List.getElem?_eq_getElem h3] at this
  exact this
theorem co_vals (m : Nat) (e : List Shr) (x : UInt8) (i : Nat) (h : i < m) : co (vals (polys m e) x).data.toList i = valB (pol i e) x := by
  unfold vals polys
  rw [str_data, List.map_map]
  exact co_range m (fun i => valB (pol i e) x) i h
theorem vals_eq_iff {m : Nat} {e : List Shr} {x : UInt8} {y : ByteArray} (h : y.size = m) : vals (polys m e) x = y ↔ ∀ i, i < m → valB (pol i e) x = co y.data.toList i := by
  constructor
  · intro k i hi
    rw [← k, co_vals m e x i hi]
  · intro k
    refine bytes_ext (by rw [vals_size, polys_length, h]) (fun i hi => ?_)
    rw [co_vals m e x i (by omega)]
    exact k i (by omega)
theorem fits_rest {n : Int} {m N : Nat} {d : List Shr} (h : Alk n m d) (hN : N ≤ d.length) (h255 : N ≤ 255) : fits N m d = true ↔ ∀ s ∈ d.drop N, vals (polys m (d.take N)) (bx s.x) = s.y := by
  unfold fits
  rw [decide_eq_true_iff]
  constructor
  · intro k s hs
    have hm := List.mem_of_mem_drop hs
    exact (vals_eq_iff (h.size s hm)).2 (fun i hi => k i hi s hm)
  · intro k i hi s hs
    rw [← List.take_append_drop N d, List.mem_append] at hs
    rcases hs with hs | hs
    · have ht : (d.take N).length = N := by rw [List.length_take]; omega
      exact (pol_goes (d := d.take N) (h.sub (List.take_sublist _ _)).bys (by omega) i).2 s hs
    · exact (vals_eq_iff (h.size s (List.mem_of_mem_drop hs))).1 (k s hs) i hi
theorem polys_small {n : Int} {m N : Nat} {d : List Shr} (h : Alk n m d) (hN : N ≤ d.length) (h255 : N ≤ 255) : ∀ p ∈ polys m (d.take N), p.size ≤ 255 := fun p hp => by
  obtain ⟨i, -, rfl⟩ := List.mem_map.1 hp
  have ht : (d.take N).length = N := by rw [List.length_take]; omega
  have := (pol_goes (d := d.take N) (h.sub (List.take_sublist _ _)).bys (by omega) i).1
  omega
/-- What join says. -/
def JoinE (l : List Shr) (own : Option Addr → Nat → List ByteArray → Prop) (e : Ending) : Prop :=
  (alk l = false ∧ e = .returned (.tuple #[.slice none 0 0, .int .i64 1])) ∨
  (alk l = true ∧ (l = [] ∨ (l.length : Int) < need0 l) ∧ e = .returned (.tuple #[.slice none 0 0, .int .i64 4])) ∨
  (alk l = true ∧ l ≠ [] ∧ need0 l ≤ l.length ∧ ∃ d : List Shr, d.Perm l ∧ ((fits (need0 l).toNat (len0 l) d = false ∧ e = .returned (.tuple #[.slice none 0 0, .int .i64 12])) ∨
    (fits (need0 l).toNat (len0 l) d = true ∧ ∃ a cp, e = .returned (.tuple #[.slice a (len0 l) cp, .int .i64 0]) ∧ own a cp (polys (len0 l) (d.take (need0 l).toNat)))))
end Go.Proofs.YtefpfedpgedloaaDoor
