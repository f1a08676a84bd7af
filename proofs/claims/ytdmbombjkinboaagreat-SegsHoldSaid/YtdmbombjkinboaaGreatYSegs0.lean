/- segs: what readSegments stands on: rows that are turned, texts that are too long, the rest of a slice. -/
import Derived.Test.YtdmbombjkinboaaGreatYLists2
namespace Go.Proofs.YtdmbombjkinboaaGreat
open Go.RowKit
open Dk Sg Fr

theorem segCells_set : ∀ (l : List (Nat × Nat)) (i x y k : Nat), l[i]? = some (x, y) → segCells (l.set i (x, k)) = (segCells l).set (i * 2 + 1) (.int .i64 (k : Int))
  | [], i, x, y, k, h => by simp at h
  | z :: l, 0, x, y, k, h => by
    simp only [List.getElem?_cons_zero, Option.some.injEq] at h
    subst h
    rfl
  | z :: l, i + 1, x, y, k, h => by
    have ih := segCells_set l i x y k (by simpa using h)
    have e : ∀ (z : Nat × Nat) (l : List (Nat × Nat)), segCells (z :: l) = .int .i64 (z.1 : Int) :: .int .i64 (z.2 : Int) :: segCells l := fun _ _ => rfl
    rw [List.set_cons_succ, e, e, ih, show (i + 1) * 2 + 1 = (i * 2 + 1) + 1 + 1 by omega, List.set_cons_succ, List.set_cons_succ]
theorem OwnG.put {w : World} {g cap i x y : Nat} {l : List (Nat × Nat)} (h : OwnG w (some ⟨g, 0, none⟩) cap l) (hi : l[i]? = some (x, y)) (k : Nat) : OwnG (w.setCell ⟨g, i * 2 + 1, none⟩ (.int .i64 (k : Int))) (some ⟨g, 0, none⟩) cap (l.set i (x, k)) := by
  have hl : i < l.length := (List.getElem?_eq_some_iff.1 hi).1
  refine ⟨by rw [segCells_length], ?_⟩
  rcases h.2 with ⟨e, hn⟩ | ⟨g1, c, cur, e, hB, hg, hn, hc, hs, ht⟩
  · cases e
  · injection e with e1 e2 e3
    injection e1 with e1
    injection e1 with e1
    subst e1 e3
    refine .inr ⟨g, cap, cur.setIfInBounds (i * 2 + 1) (.int .i64 (k : Int)), by rw [List.length_set], hB, heap_setCell_same _ _ _ _ _ _ hg, by rw [List.length_set]; exact hn, hc, by rw [Array.size_setIfInBounds]; exact hs, ?_⟩
    rw [segCells_set l i x y k hi, ← ht, List.length_set, Array.toList_setIfInBounds, List.take_set]
theorem OwnG.free {w : World} {g cap : Nat} {l : List (Nat × Nat)} (h : OwnG w (some ⟨g, 0, none⟩) cap l) (j : Nat) : w.frozen? ⟨g, j, none⟩ = false := by
  rcases h.2 with ⟨e, hn⟩ | ⟨g1, c, cur, e, hB, hg, -⟩
  · cases e
  · injection e with e1 e2 e3
    injection e1 with e1
    injection e1 with e1
    subst e1
    exact frozen_of_row _ _ _ _ _ hg
theorem tooLong_any (s : ByteArray) (h : s.size ≤ 900) (w : World) : Calls Tryz.prog 78 #[.string s] w fun e w' => e = .returned (.bool false) ∧ w' = w := by
  have h1 : decide ((900 : Int) < (s.size : Int)) = false := decide_eq_false (by omega)
  have h2 : (s.size : Int) ≤ 900 := by omega
  clear h
  go_enter Tryz.func78, Tryz.ntmps78
  go_wp2_with fail
  go_ret
  exact ⟨ret_bool rfl, rfl⟩
set_option maxRecDepth 100000 in
theorem indexLong_any (l : List ByteArray) (a : Option Addr) (cap : Nat) (w : World) (hT : TextsAt w a l) (hs : ∀ x ∈ l, x.size ≤ 900) (hn : l.length ≤ 1000000) :
    Calls Tryz.prog 98 #[.slice a l.length cap, .func (.func 78) #[] #[]] w fun e w' => e = .returned (.int .i64 (-1)) ∧ Below w.heap.size w w' := by
  obtain ⟨N, hN⟩ : ∃ N, N = l.length := ⟨_, rfl⟩
  rw [← hN]
  have hm : N ≤ 1000000 := by omega
  have H := Lib.hid (And.intro hT (And.intro hs hN))
  clear hT hs hn hN
  go_enter Tryz.func98, Tryz.ntmps98
  go_wp2_with fail
  go_loopw [8, 5] (fun iv _ wr => ∃ i : Nat, i ≤ N ∧ iv = .int .i64 i ∧ Below w.heap.size w wr) (fun iv _ _ => N - (intOf iv).toNat)
  case atStart => exact ⟨0, by omega, rfl, Below.refl _ _⟩
  case round =>
    obtain ⟨i, hi, rfl, hb⟩ := hrel
    have HR := Lib.hid hb
    clear hb
    by_cases hlt : i < N
    · obtain ⟨x, hx⟩ : ∃ x, l[i]? = some x := ⟨_, List.getElem?_eq_getElem (by have := H.out.2.2; omega)⟩
      obtain ⟨g, o, rfl, hg, hc⟩ := (H.out.1.below HR.out) i (by have := H.out.2.2; omega)
      rw [List.getD_eq_getElem?_getD, hx, Option.getD_some] at hc
      have ht := tooLong_any x (H.out.2.1 x (List.mem_of_getElem? hx)) wr
      have HX := Lib.hid ht
      clear ht hx
      go_wp2_with fail
      refine HX.out.mono ?_
      rintro e w2 ⟨rfl, rfl⟩
      go_wp2_with fail
      go_roundw
      case rel => exact ⟨i + 1, by omega, by go_num, HR.out⟩
      case measure => simp [intOf]; omega
    · obtain rfl : i = N := by omega
      go_wp2_with fail
      go_ret
      exact ⟨rfl, HR.out⟩
theorem containsLong_any (l : List ByteArray) (a : Option Addr) (cap : Nat) (w : World) (hT : TextsAt w a l) (hs : ∀ x ∈ l, x.size ≤ 900) (hn : l.length ≤ 1000000) :
    Calls Tryz.prog 77 #[.slice a l.length cap, .func (.func 78) #[] #[]] w fun e w' => e = .returned (.bool false) ∧ Below w.heap.size w w' := by
  have H := Lib.hid (indexLong_any l a cap w hT hs hn)
  clear hT hs hn
  generalize l.length = N at *
  go_enter Tryz.func77, Tryz.ntmps77
  go_wp2_with fail
  refine H.out.mono ?_
  rintro e w' ⟨rfl, hb⟩
  have HB := Lib.hid hb
  clear hb
  go_wp2_with fail
  go_ret
  exact ⟨rfl, HB.out⟩
-- The rest of a slice of texts, but the first.
set_option maxRecDepth 100000 in
theorem run_rest (g N K cap : Nat) (hN : N = K + 1) (h : N ≤ cap) : ∃ off c2, (∀ W : World, (Instr.slice 30 (.slice (some ⟨g, 0, none⟩) N cap) (some (.int .i64 1)) none none).run Tryz.prog W = .ok (.slice (some ⟨g, off, none⟩) K c2) W) ∧ (0 < K → off = 1) := by
  refine ⟨if cap = 1 then 0 else 1, cap - 1, fun W => ?_, fun hk => if_neg (by omega)⟩
  have e := run_slice_l (P := Tryz.prog) W 30 (some ⟨g, 0, none⟩) N cap Tryz.underlying30 .i64 1 (by omega) (by omega)
  rw [e]
  have hs : (sizeOf (Tryz.prog.elem 30)).run Tryz.prog W = .ok 1 W := Tryz.sizeOf9 W
  rw [hs]
  have e2 : (1 : Int).toNat = 1 := rfl
  have e3 : N - 1 = K := by omega
  simp only [Result.andThen_ok, sliced, e2, Option.map_some, Addr.add, e3]
  by_cases hc : cap = 1
  · rw [if_pos hc, if_pos hc]
  · rw [if_neg hc, if_neg hc, if_neg (show ¬ 1 * 1 = 0 by decide)]
theorem rest_texts {w : World} {B g cap off K : Nat} {x : ByteArray} {rs : List ByteArray} (h : OwnT B w (some ⟨g, 0, none⟩) cap (x :: rs)) (hK : rs.length = K) (ho : 0 < K → off = 1) : TextsAt w (some ⟨g, off, none⟩) rs ∧ (∀ j u, (scells rs)[j]? = some u → w.cell? ((⟨g, off, none⟩ : Addr).add j) = some u) := by
  have key : ∀ j, j < rs.length → w.cell? ⟨g, off + j, none⟩ = some (.string (rs.getD j ByteArray.empty)) ∧ g < w.heap.size := fun j hj => by
    obtain ⟨b, o, e, hb, hc⟩ := h.texts (j + 1) (by simp; omega)
    injection e with e
    injection e with e1 e2
    subst e1 e2
    rw [ho (by omega), show 1 + j = 0 + (j + 1) by omega]
    refine ⟨?_, hb⟩
    rw [hc]
    simp
  refine ⟨fun j hj => ⟨g, off, rfl, (key j hj).2, (key j hj).1⟩, fun j u hu => ?_⟩
  have hj : j < rs.length := by have := (List.getElem?_eq_some_iff.1 hu).1; rwa [scells_length] at this
  rw [show (⟨g, off, none⟩ : Addr).add j = ⟨g, off + j, none⟩ by unfold Addr.add; split <;> simp_all, (key j hj).1, ← hu]
  simp [scells, hj]
end Go.Proofs.YtdmbombjkinboaaGreat
