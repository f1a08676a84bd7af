/- segs: slices.Contains of segments; readList of a list that a store wrote. -/
import Derived.Test.YtdmbombjkinboaaGreatYGet
import Derived.Test.YtdmbombjkinboaaGreatRep
namespace Go.Proofs.YtdmbombjkinboaaGreat
open Go.RowKit
open Dk Sg Fr

set_option maxRecDepth 100000 in
theorem indexSeg_any (l : List (Nat × Nat)) (a : Option Addr) (cap : Nat) (y1 y2 : Nat) (w : World) (ho : OwnG w a cap l) :
    Calls Tryz.prog 116 #[.slice a l.length cap, .agg #[.int .i64 (y1 : Int), .int .i64 (y2 : Int)]] w fun e w' =>
      (∃ k : Int, e = .returned (.int .i64 k) ∧ (0 ≤ k ↔ (y1, y2) ∈ l)) ∧ Below w.heap.size w w' := by
  obtain ⟨N, hN⟩ : ∃ N, N = l.length := ⟨_, rfl⟩
  have hm : N ≤ 9223372036854775807 := by have := ho.cap; unfold maxLen at this; omega
  rw [← hN]
  have H := Lib.hid (And.intro ho hN)
  clear ho hN
  have hb0 : Below w.heap.size w (w.alloc (.cells #[.int .i64 (y1 : Int), .int .i64 (y2 : Int)] 86)) := (Below.refl _ _).alloc (Nat.le_refl _) _
  have hx0 : (w.alloc (.cells #[.int .i64 (y1 : Int), .int .i64 (y2 : Int)] 86)).heap[w.heap.size]? = some (.cells #[.int .i64 (y1 : Int), .int .i64 (y2 : Int)] 86 (0, 0)) := heap_alloc_new _ _
  go_enter Tryz.func116, Tryz.ntmps116
  go_wp2_with fail
  generalize World.alloc w _ = w1 at *
  have H1 := Lib.hid (And.intro hb0 hx0)
  clear hb0 hx0
  go_loopw [8, 5] (fun iv _ wr => ∃ i : Nat, i ≤ N ∧ iv = .int .i64 i ∧ Below w1.heap.size w1 wr ∧ ∀ x ∈ l.take i, x ≠ (y1, y2)) (fun iv _ _ => N - (intOf iv).toNat)
  case atStart => exact ⟨0, by omega, rfl, Below.refl _ _, fun x hx => by simp at hx⟩
  case round =>
    obtain ⟨i, hi, rfl, hb, hno⟩ := hrel
    have HR := Lib.hid (And.intro hb hno)
    clear hb hno
    by_cases hlt : i < N
    · obtain ⟨x, hx⟩ : ∃ x, l[i]? = some x := ⟨_, List.getElem?_eq_getElem (by have := H.out.2; omega)⟩
      obtain ⟨g, rfl, c0, c1, -⟩ := ((H.out.1.call H1.out.1).call HR.out.1).at hx
      have hbx := (HR.out.1.block _ (Array.getElem?_eq_some_iff.1 H1.out.2).1).trans H1.out.2
      obtain ⟨b0, b1⟩ : wr.cell? ⟨w.heap.size, 0, none⟩ = some (.int .i64 (y1 : Int)) ∧ wr.cell? ⟨w.heap.size, 1, none⟩ = some (.int .i64 (y2 : Int)) := by constructor <;> (rw [cell_of_row _ _ _ _ _ _ hbx]; rfl)
      obtain ⟨x1, x2⟩ := x
      have HX := Lib.hid hx
      clear hx hbx
      simp only at c0 c1
      by_cases hxy : (x1, x2) = (y1, y2)
      · obtain ⟨rfl, rfl⟩ : x1 = y1 ∧ x2 = y2 := by simpa using hxy
        clear hxy
        go_wp2_with fail
        go_quiet (fail)
        go_wp2_with fail
        go_ret
        exact ⟨⟨_, rfl, ⟨fun _ => List.mem_of_getElem? HX.out, fun _ => by omega⟩⟩, H1.out.1.trans ((HR.out.1.trans ((below_dN wr nq).mono HR.out.1.size)).mono H1.out.1.size)⟩
      · have HXY := Lib.hid hxy
        by_cases hx1 : x1 = y1
        · subst hx1
          have hx2 : x2 ≠ y2 := fun e => hxy (by rw [e])
          have f1 : ((y2 : Int) == (x2 : Int)) = false := by simp; omega
          clear hxy hx2
          go_wp2_with fail
          go_quiet (fail)
          go_wp2_with fail
          go_roundw
          case rel =>
            refine ⟨i + 1, by omega, by go_num, HR.out.1.trans ((below_dN wr nq).mono HR.out.1.size), fun z hz => ?_⟩
            rw [List.take_add_one, HX.out] at hz
            rcases List.mem_append.1 hz with hz | hz
            · exact HR.out.2 z hz
            · simp at hz
              rw [hz]; exact HXY.out
          case measure => simp [intOf]; omega
        · have f1 : ((y1 : Int) == (x1 : Int)) = false := by simp; omega
          clear hxy hx1
          go_wp2_with fail
          go_quiet (fail)
          go_wp2_with fail
          go_roundw
          case rel =>
            refine ⟨i + 1, by omega, by go_num, HR.out.1.trans ((below_dN wr nq).mono HR.out.1.size), fun z hz => ?_⟩
            rw [List.take_add_one, HX.out] at hz
            rcases List.mem_append.1 hz with hz | hz
            · exact HR.out.2 z hz
            · simp at hz
              rw [hz]; exact HXY.out
          case measure => simp [intOf]; omega
    · obtain rfl : i = N := by omega
      go_wp2_with fail
      go_ret
      refine ⟨⟨_, rfl, ⟨fun h => absurd h (by decide), fun h => ?_⟩⟩, H1.out.1.trans (HR.out.1.mono H1.out.1.size)⟩
      exact absurd rfl (HR.out.2 _ (by rw [H.out.2, List.take_length]; exact h))
theorem containsSeg_any (l : List (Nat × Nat)) (a : Option Addr) (cap : Nat) (y1 y2 : Nat) (w : World) (ho : OwnG w a cap l) :
    Calls Tryz.prog 96 #[.slice a l.length cap, .agg #[.int .i64 (y1 : Int), .int .i64 (y2 : Int)]] w fun e w' =>
      e = .returned (.bool (decide ((y1, y2) ∈ l))) ∧ Below w.heap.size w w' := by
  have hb0 : Below w.heap.size w (w.alloc (.cells #[.int .i64 (y1 : Int), .int .i64 (y2 : Int)] 86)) := (Below.refl _ _).alloc (Nat.le_refl _) _
  have H := Lib.hid (And.intro (indexSeg_any l a cap y1 y2 _ (ho.call hb0)) hb0)
  clear ho hb0
  generalize l.length = N at *
  go_enter Tryz.func96, Tryz.ntmps96
  go_wp2_with fail
  refine H.out.1.mono ?_
  rintro e w' ⟨⟨k, rfl, hk⟩, hb⟩
  have HB := Lib.hid (H.out.2.trans (hb.mono H.out.2.size))
  clear hb
  go_wp2_with fail
  go_ret
  refine ⟨?_, HB.out⟩
  show Ending.returned (.bool (decide _)) = _
  congr 2
  all_goals exact decide_eq_decide.2 hk
end Go.Proofs.YtdmbombjkinboaaGreat
