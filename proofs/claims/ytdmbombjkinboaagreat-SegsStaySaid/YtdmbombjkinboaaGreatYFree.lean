/- segs: free: the least extent that no segment has. -/
import Derived.Test.YtdmbombjkinboaaGreatYRead
namespace Go.Proofs.YtdmbombjkinboaaGreat
open Go.RowKit
open Dk Sg

theorem free1_any (w : World) (x : Nat × Nat) (p : Nat) (y : Nat) (hp : w.cell? ⟨p, 0, none⟩ = some (.int .i64 (y : Int))) :
    Calls Tryz.prog 84 #[.agg #[.int .i64 (x.1 : Int), .int .i64 (x.2 : Int)], .pointer (some ⟨p, 0, none⟩)] w fun e w' => e = .returned (.bool (decide (x.1 = y))) ∧ Below w.heap.size w w' := by
  obtain ⟨x1, x2⟩ := x
  have hb : ∀ o, Below w.heap.size w (w.alloc o) := fun o => (Below.refl _ _).alloc (Nat.le_refl _) o
  have hlt := World.block_lt_of_cell? w _ hp
  have hp2 : ∀ o, (w.alloc o).cell? ⟨p, 0, none⟩ = some (.int .i64 (y : Int)) := fun o => by rw [World.cell?_alloc_lt _ _ _ (by simpa using hlt)]; exact hp
  simp only
  by_cases h : x1 = y
  · subst h
    have H := Lib.hid hb
    clear hb hlt hp
    go_enter Tryz.func84, Tryz.ntmps84
    go_wp2_with fail
    go_ret
    exact ⟨by simp, H.out _⟩
  · have h1 : ((x1 : Int) == (y : Int)) = false := by simp; omega
    have H := Lib.hid (And.intro hb h)
    clear hb hlt hp
    go_enter Tryz.func84, Tryz.ntmps84
    go_wp2_with fail
    go_ret
    exact ⟨by simp [H.out.2], H.out.1 _⟩
set_option maxRecDepth 100000 in
theorem indexFree_any (l : List (Nat × Nat)) (a : Option Addr) (cap : Nat) (p y : Nat) (w : World) (ho : OwnG w a cap l) (hp : w.cell? ⟨p, 0, none⟩ = some (.int .i64 (y : Int))) :
    Calls Tryz.prog 101 #[.slice a l.length cap, .func (.func 84) #[] #[.pointer (some ⟨p, 0, none⟩)]] w fun e w' =>
      (∃ k : Int, e = .returned (.int .i64 k) ∧ (0 ≤ k ↔ y ∈ l.map (·.1))) ∧ Below w.heap.size w w' := by
  have hlt := World.block_lt_of_cell? w _ hp
  obtain ⟨N, hN⟩ : ∃ N, N = l.length := ⟨_, rfl⟩
  have hm : N ≤ 9223372036854775807 := by have := ho.cap; unfold maxLen at this; omega
  rw [← hN]
  have H := Lib.hid (And.intro ho (And.intro hp (And.intro hN hlt)))
  clear ho hp hN hlt
  go_enter Tryz.func101, Tryz.ntmps101
  go_wp2_with fail
  go_loopw [8, 5] (fun iv _ wr => ∃ i : Nat, i ≤ N ∧ iv = .int .i64 i ∧ Below w.heap.size w wr ∧ ∀ x ∈ l.take i, x.1 ≠ y) (fun iv _ _ => N - (intOf iv).toNat)
  case atStart => exact ⟨0, by omega, rfl, Below.refl _ _, fun x hx => by simp at hx⟩
  case round =>
    obtain ⟨i, hi, rfl, hb, hno⟩ := hrel
    have HR := Lib.hid (And.intro hb hno)
    clear hb hno
    by_cases hlt : i < N
    · obtain ⟨x, hx⟩ : ∃ x, l[i]? = some x := ⟨_, List.getElem?_eq_getElem (by have := H.out.2.2.1; omega)⟩
      obtain ⟨g, rfl, c0, c1, -⟩ := (H.out.1.call HR.out.1).at hx
      have hf := fun W (hb : Below wr.heap.size wr W) => free1_any W x p y (by rw [World.cell?, (HR.out.1.trans (hb.mono HR.out.1.size)).block _ H.out.2.2.2]; exact H.out.2.1)
      have HX := Lib.hid (And.intro hx hf)
      clear hf hx
      obtain ⟨x1, x2⟩ := x
      go_wp2_with fail
      refine (HX.out.2 _ (Below.refl _ _)).mono ?_
      rintro e w' ⟨rfl, hb'⟩
      have hb2 := HR.out.1.trans (hb'.mono HR.out.1.size)
      have HB := Lib.hid hb2
      clear hb' hb2
      by_cases hxy : x1 = y
      · have hd : decide ((x1, x2).1 = y) = true := decide_eq_true hxy
        have HXY := Lib.hid hxy
        clear hxy
        go_wp2_with fail
        go_ret
        exact ⟨⟨_, rfl, ⟨fun _ => List.mem_map.2 ⟨_, List.mem_of_getElem? HX.out.1, HXY.out⟩, fun _ => by omega⟩⟩, HB.out⟩
      · have hd : decide ((x1, x2).1 = y) = false := decide_eq_false hxy
        have HXY := Lib.hid hxy
        clear hxy
        go_wp2_with fail
        go_roundw
        case rel =>
          refine ⟨i + 1, by omega, by go_num, HB.out, fun z hz => ?_⟩
          rw [List.take_add_one, HX.out.1] at hz
          rcases List.mem_append.1 hz with hz | hz
          · exact HR.out.2 z hz
          · simp at hz
            rw [hz]; exact HXY.out
        case measure => simp [intOf]; omega
    · obtain rfl : i = N := by omega
      go_wp2_with fail
      go_ret
      refine ⟨⟨_, rfl, ⟨fun h => absurd h (by decide), fun h => ?_⟩⟩, HR.out.1⟩
      obtain ⟨z, hz, hzy⟩ := List.mem_map.1 h
      exact absurd hzy (HR.out.2 z (by rw [H.out.2.2.1, List.take_length]; exact hz))
theorem containsFree_any (l : List (Nat × Nat)) (a : Option Addr) (cap : Nat) (p y : Nat) (w : World) (ho : OwnG w a cap l) (hp : w.cell? ⟨p, 0, none⟩ = some (.int .i64 (y : Int))) :
    Calls Tryz.prog 83 #[.slice a l.length cap, .func (.func 84) #[] #[.pointer (some ⟨p, 0, none⟩)]] w fun e w' =>
      e = .returned (.bool (decide (y ∈ l.map (·.1)))) ∧ Below w.heap.size w w' := by
  have H := Lib.hid (indexFree_any l a cap p y w ho hp)
  clear ho hp
  generalize l.length = N at *
  go_enter Tryz.func83, Tryz.ntmps83
  go_wp2_with fail
  refine H.out.mono ?_
  rintro e w' ⟨⟨k, rfl, hk⟩, hb⟩
  have HB := Lib.hid hb
  clear hb
  go_wp2_with fail
  go_ret
  refine ⟨?_, HB.out⟩
  show Ending.returned (.bool (decide _)) = _
  congr 2
  exact decide_eq_decide.2 hk
theorem freeN_in {l : List Nat} {f x : Nat} (h : x ∈ l) : freeN l (f + 1) x = freeN l f (x + 1) := by rw [freeN, if_pos h]
theorem freeN_no {l : List Nat} {f x : Nat} (h : x ∉ l) : freeN l f x = x := by
  cases f with
  | zero => rfl
  | succ f => rw [freeN, if_neg h]
set_option maxRecDepth 100000 in
theorem sfree_any {w : World} {s b : Nat} {S : Stor} {a : Option Addr} {cap : Nat} {vr : Value} (hd : Hd w s b S (.slice a S.segs.length cap) vr) (ho : OwnG w a cap S.segs) (hx : ∀ x ∈ S.exts, x < 64) :
    Calls Tryz.prog 64 #[.pointer (some ⟨s, 0, none⟩)] w fun e w' => e = .returned (.int .i64 (S.free : Int)) ∧ Below w.heap.size w w' := by
  have H := Lib.hid (And.intro hd (And.intro ho hx))
  obtain ⟨N, hN⟩ : ∃ N, N = S.segs.length := ⟨_, rfl⟩
  have HN := Lib.hid hN
  obtain ⟨E, hE⟩ : ∃ E, E = S.exts := ⟨_, rfl⟩
  have HE := Lib.hid hE
  unfold Stor.free
  rw [← hE]
  clear hd ho hx hN hE
  go_enter Tryz.func64, Tryz.ntmps64
  go_wp2_with fail
  go_loopw [11] (fun _ wr => ∃ j : Nat, j ≤ 62 ∧ wr.heap[w.heap.size]? = some (.cells #[.int .i64 ((2 + j : Nat) : Int)] 3 (0, 0)) ∧ Below w.heap.size w wr ∧ freeN E 64 2 = freeN E (64 - j) (2 + j)) (fun _ wr => 64 - (intOf ((wr.cell? ⟨w.heap.size, 0, none⟩).getD (.int .i64 0))).toNat)
  case atStart =>
    refine ⟨0, by omega, ?_, ?_, rfl⟩
    · exact heap_alloc_new _ _
    · exact (Below.refl _ _).alloc (Nat.le_refl _) _
  case round =>
    obtain ⟨j, hj, hbx, hb, hfr⟩ := hrel
    have hd2 := H.out.1.same (hb.block _ H.out.1.lt)
    have ho2 := H.out.2.1.call hb
    obtain ⟨-, -, -, -, q4, -⟩ := hd_cells hd2
    have qb : wr.cell? ⟨w.heap.size, 0, none⟩ = some (.int .i64 ((2 + j : Nat) : Int)) := by rw [cell_of_row _ _ _ _ _ _ hbx]; rfl
    have fb : wr.frozen? ⟨w.heap.size, 0, none⟩ = false := frozen_of_row _ _ _ _ _ hbx
    have hc := containsFree_any S.segs a cap w.heap.size (2 + j) wr ho2 qb
    rw [show S.segs.map (·.1) = E from HE.out.symm] at hc
    rw [← HN.out] at q4 hc
    have HR := Lib.hid (And.intro hc (And.intro hb (And.intro hfr hbx)))
    clear hc hb hfr hd2 ho2 hbx
    obtain ⟨y, hy⟩ : ∃ y, y = 2 + j := ⟨_, rfl⟩
    simp only [← hy] at qb
    have HY := Lib.hid hy
    clear hy
    go_wp2_with fail
    refine HR.out.1.mono ?_
    rintro e w' ⟨rfl, hb'⟩
    have hlt : w.heap.size < wr.heap.size := (Array.getElem?_eq_some_iff.1 HR.out.2.2.2).1
    have hbx2 := (hb'.block _ hlt).trans HR.out.2.2.2
    rw [← HY.out] at hbx2
    have hb2 := HR.out.2.1.trans (hb'.mono HR.out.2.1.size)
    have qb2 : w'.cell? ⟨w.heap.size, 0, none⟩ = some (.int .i64 (y : Int)) := by rw [cell_of_row _ _ _ _ _ _ hbx2]; rfl
    have fb2 : w'.frozen? ⟨w.heap.size, 0, none⟩ = false := frozen_of_row _ _ _ _ _ hbx2
    have HB := Lib.hid (And.intro hb2 (And.intro hbx2 hj))
    clear qb fb hb' hb2 hbx2 hlt q4
    by_cases hin : 2 + j ∈ E
    · have hd : decide (2 + j ∈ E) = true := decide_eq_true hin
      have hj64 : 2 + j < 64 := H.out.2.2 _ (by rw [← HE.out]; exact hin)
      have hy64 : y < 64 := by have := HY.out; omega
      have HI := Lib.hid (And.intro hin hj64)
      clear hin hj64 hj
      go_wp2_with fail
      go_roundw
      case rel =>
        refine ⟨j + 1, by have := HI.out.2; omega, ?_, HB.out.1.setCell (p := ⟨w.heap.size, 0, none⟩) (Nat.le_refl _) _, ?_⟩
        · refine (heap_setCell_same _ _ _ _ _ _ HB.out.2.1).trans ?_
          have := HY.out
          simp
          omega
        · rw [HR.out.2.2.1, show 64 - j = (64 - (j + 1)) + 1 by have := HI.out.2; omega, freeN_in HI.out.1]; rfl
      case measure =>
        have h1 : (w'.setCell ⟨w.heap.size, 0, none⟩ (.int .i64 ((y : Int) + 1))).cell? ⟨w.heap.size, 0, none⟩ = some (.int .i64 ((y : Int) + 1)) := by
          rw [cell_of_row _ _ _ _ _ _ (heap_setCell_same _ _ _ _ _ _ HB.out.2.1)]; rfl
        have h0 : wr.cell? ⟨w.heap.size, 0, none⟩ = some (.int .i64 ((2 + j : Nat) : Int)) := by rw [cell_of_row _ _ _ _ _ _ HR.out.2.2.2]; rfl
        have := HY.out
        rw [h1, h0]
        simp [intOf]
        omega
    · have hd : decide (2 + j ∈ E) = false := decide_eq_false hin
      have HI := Lib.hid hin
      clear hin
      go_wp2_with fail
      go_ret
      refine ⟨?_, HB.out.1⟩
      rw [HR.out.2.2.1, freeN_no HI.out, ← HY.out]; rfl
end Go.Proofs.YtdmbombjkinboaaGreat
