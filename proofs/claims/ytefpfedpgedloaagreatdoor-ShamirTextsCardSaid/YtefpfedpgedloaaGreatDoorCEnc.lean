/- Encode. -/
import Derived.Test.YtefpfedpgedloaaGreatDoorCPut
namespace Go.Proofs.YtefpfedpgedloaaGreatDoor
open Go.RowKit
open Cn

/-- An item's bytes, and the error. -/
def c_encS (x : Pt) : ByteArray := if may x 6 = true ∧ (Cn.bytes x).length ≤ 65536 then ⟨(Cn.bytes x).toArray⟩ else ⟨#[]⟩
def encE (x : Pt) : Int := if may x 6 = true then if (Cn.bytes x).length ≤ 65536 then 0 else 2 else 1
theorem bu_fresh (w : World) : Bu w.heap.size w.heap.size [] (w.alloc (.cells #[.pointer none, .slice none 0 0] 84)) :=
  Lib.IsBuilderF.of (Lib.fresh_isBuilder _ _ w)
set_option maxRecDepth 100000 in
set_option maxHeartbeats 400000 in
theorem encode_any (S : Nat → Prop) (x : It) (w : World) (hin : x.In w S) :
    Calls Tryz.prog 25 #[x.val] w fun e w' => e = .returned (.tuple #[.string (c_encS x.pure), .int .i64 (encE x.pure)]) ∧ Below w.heap.size w w' := by
  have hchk := fun w' (hb : Below w.heap.size w w') => ccheck_any S x w' (It.In.kept (keptS_any hb) x hin)
  have hput := fun w' b d (hb : Below w.heap.size w w') (hbu : Bu w'.heap.size b [] d) (h2 : Below w'.heap.size w' d) (hm : may x.pure 6 = true) =>
    put_any x.sz x (Nat.le_refl _) w'.heap.size b [] d 6 hbu (by simp) (It.In.kept (T := (· < w'.heap.size)) ⟨fun b _ hlt => ⟨hlt, h2.block b hlt⟩, h2.size⟩ x (It.In.kept (keptS_any hb) x hin)) hm
  obtain ⟨p, hp⟩ : ∃ p, p = x.pure := ⟨_, rfl⟩
  rw [← hp] at hchk hput ⊢
  clear hp
  obtain ⟨m, hm⟩ : ∃ m, m = may p 6 := ⟨_, rfl⟩
  rw [← hm] at hchk hput
  have H := Lib.hid (And.intro hchk (And.intro hput hm))
  clear hchk hput hm hin
  obtain ⟨k, n, s, a, cap, l⟩ := x
  simp only [It.val, It.cells, It.k, It.n, It.s, It.a, It.cap, It.l] at H ⊢
  go_enter Tryz.func25, Tryz.ntmps25
  go_wp2_with fail
  refine (H.out.1 _ ((Below.refl _ _).alloc (Nat.le_refl _) _)).mono ?_
  rintro e w2 ⟨rfl, hb2⟩
  have hcell : ∀ i, w2.cell? ⟨w.heap.size, i, none⟩ = (#[Value.int .i64 k, .int .i64 n, .string s, .slice a l.length cap] : Array Value)[i]? := fun i => by
    rw [hb2.cell (p := ⟨w.heap.size, i, none⟩) (by simp), Lib.cell_of_heap (heap_alloc_new _ _)]
  have hb3 : Below w.heap.size w w2 := ((Below.refl _ w).alloc (Nat.le_refl _) _).trans (hb2.mono (by simp))
  have q0 := hcell 0
  have q1 := hcell 1
  have q2 := hcell 2
  have q3 := hcell 3
  simp at q0 q1 q2 q3
  have HB := Lib.hid hb3
  have hsz : w.heap.size < w2.heap.size := by have := hb2.size; simp at this; omega
  clear hcell hb3 hb2
  cases m with
  | false =>
    go_wp2_with fail
    go_ret2
    refine ⟨?_, HB.out⟩
    rw [c_encS, encE, ← H.out.2.2]
    rfl
  | true =>
    have H2 := Lib.hid (fun d hbu h2 => H.out.2.1 w2 w2.heap.size d HB.out hbu h2 rfl)
    go_wp2_with fail
    refine (H2.out _ (bu_fresh w2) ((Below.refl _ _).alloc (Nat.le_refl _) _)).mono ?_
    rintro e w3 ⟨D, rfl, hb, hp⟩
    have HD := Lib.hid (And.intro hb hp)
    clear hb hp
    go_wp2_with fail
    refine (len_any _ _ D _ HD.out.1.1).mono ?_
    rintro e w4 ⟨rfl, rfl⟩
    have hbel : Below w.heap.size w w3 := HB.out.trans (((Below.refl _ w2).alloc (Nat.le_refl _) _).trans HD.out.1.2.1 |>.mono HB.out.size)
    have HW := Lib.hid hbel
    clear hbel
    by_cases hlong : 65536 < D.length
    · have hli : (65536 : Int) < D.length := by omega
      go_wp2_with fail
      go_ret2
      refine ⟨?_, HW.out⟩
      have : ¬ (Cn.bytes p).length ≤ 65536 := fun h => by
        have := HD.out.2.1 (by simpa using h)
        rw [this] at hlong
        simp at hlong
        omega
      rw [c_encS, encE, ← H.out.2.2, if_neg (fun h => this h.2), if_pos rfl, if_neg this]
      rfl
    · have hli : (D.length : Int) ≤ 65536 := by omega
      go_wp2_with fail
      refine (string_any _ _ D _ HD.out.1.1 (by have := HD.out.1.1.lt; omega)).mono ?_
      rintro e w5 ⟨rfl, hb5⟩
      have HW5 := Lib.hid (HW.out.trans (hb5.2.1.mono HB.out.size))
      clear hb5
      go_wp2_with fail
      go_ret2
      refine ⟨?_, HW5.out⟩
      have hle : (Cn.bytes p).length ≤ 65536 := by
        rcases Nat.lt_or_ge 65536 (Cn.bytes p).length with h | h
        · exact absurd (HD.out.2.2.1 (by simpa using h)) hlong
        · exact h
      have := HD.out.2.1 (by simpa using hle)
      rw [c_encS, encE, ← H.out.2.2, if_pos ⟨rfl, hle⟩, if_pos rfl, if_pos hle, this]
      rfl
end Go.Proofs.YtefpfedpgedloaaGreatDoor
