/- IxSame, what is wanted of it. -/
import Derived.Test.YtdfkpjmljaanpaaGreatDoorZIxShown
import Derived.Test.YtdfkpjmljaanpaaGreatDoorZMX4
import Derived.Test.YtdfkpjmljaanpaaGreatDoorZFSame
import Derived.Deep.RegionHeld
namespace Go.Proofs.YtdfkpjmljaanpaaGreatDoor
open Go.RowKit
open Cn
set_option maxRecDepth 100000 in
set_option maxHeartbeats 4000000 in
theorem lsameShown_any (l : List Ix.Sh) (a0 b0 : Option Addr) (cap cap' : Nat) (w : World) (hT : ShAt w a0 l) (hU : ShAt w b0 l) (hm : l.length ≤ 100000) (hw : ∀ s ∈ l, s.way.length ≤ 1000000) :
    Calls Tryz.prog 16 #[.slice a0 l.length cap, .slice b0 l.length cap'] w fun e w' => e = .returned (.bool true) ∧ Below w.heap.size w w' := by
  obtain ⟨n, hn⟩ : ∃ n, n = l.length := ⟨_, rfl⟩
  have HT := Lib.hid (And.intro hT (And.intro hU (And.intro hn hw)))
  rw [← hn] at hm ⊢
  clear hT hU hn hw
  have e2 : ((n : Int) != (n : Int)) = false := by simp
  go_enter Tryz.func16, Tryz.ntmps16
  go_wp2_with fail
  go_loopw [5] (fun c wr => ∃ i : Nat, i ≤ n ∧ c = .int .i64 i ∧ Below w.heap.size w wr) (fun c _ => n - (intOf c).toNat)
  case atStart => exact ⟨0, by omega, rfl, Below.refl _ _⟩
  case round =>
    obtain ⟨i, hi, rfl, hb⟩ := hrel
    by_cases hlt : i < n
    · obtain ⟨s, hs⟩ : ∃ s, l[i]? = some s := ⟨l[i]'(by have := HT.out.2.2.1; omega), List.getElem?_eq_getElem (by have := HT.out.2.2.1; omega)⟩
      obtain ⟨b, off, wa, wc, rfl, hbl, d0, d1, d2, d3, d4, -, -, h7⟩ := (HT.out.1.below hb) i s hs
      obtain ⟨b', off', wa', wc', rfl, hbl', d0', d1', d2', d3', d4', -, -, h7'⟩ := (HT.out.2.1.below hb) i s hs
      have hw := HT.out.2.2.2 s (List.mem_of_getElem? hs)
      have hsame := fun (W : World) (h1 : TextsAt W wa s.way) (h2 : TextsAt W wa' s.way) => rsame_any s.way wa wa' wc wc' W h1 h2 hw
      have he := fun W => equalRw s.row s.row W
      rw [show eqRw s.row s.row = true from eqRw_iff.2 rfl] at he
      obtain ⟨q, hq⟩ : ∃ q, q = s.way.length := ⟨_, rfl⟩
      obtain ⟨ws, hws⟩ : ∃ ws, ws = s.way := ⟨_, rfl⟩
      rw [← hws] at hsame h7 h7' hq
      rw [← hws] at d4 d4'
      rw [← hq] at d4 d4' hsame
      obtain ⟨y0, hy0⟩ : ∃ x, x = s.pl := ⟨_, rfl⟩
      obtain ⟨y1, hy1⟩ : ∃ x, x = s.row.tag := ⟨_, rfl⟩
      obtain ⟨y2, hy2⟩ : ∃ x, x = s.row.cnt := ⟨_, rfl⟩
      obtain ⟨y3, hy3⟩ : ∃ x, x = s.row.last := ⟨_, rfl⟩
      rw [← hy0] at d0 d0'
      rw [← hy1] at d1 d1'
      rw [← hy2] at d2 d2'
      rw [← hy3] at d3 d3'
      rw [← hy1, ← hy2, ← hy3] at he
      have i0 : (y0 != y0) = false := by simp
      have HM := Lib.hid (And.intro hsame (And.intro h7 (And.intro h7' hb)))
      have E9 : (wr.cell? ⟨b, off + i * 5, none⟩ = some (.int .i64 y0) ∧ wr.cell? ⟨b, off + i * 5 + 1, none⟩ = some (.string y1) ∧ wr.cell? ⟨b, off + i * 5 + 2, none⟩ = some (.int .i64 y2) ∧ wr.cell? ⟨b, off + i * 5 + 3, none⟩ = some (.int .i64 y3) ∧ wr.cell? ⟨b, off + i * 5 + 4, none⟩ = some (.slice wa q wc)) ∧ (wr.cell? ⟨b', off' + i * 5, none⟩ = some (.int .i64 y0) ∧ wr.cell? ⟨b', off' + i * 5 + 1, none⟩ = some (.string y1) ∧ wr.cell? ⟨b', off' + i * 5 + 2, none⟩ = some (.int .i64 y2) ∧ wr.cell? ⟨b', off' + i * 5 + 3, none⟩ = some (.int .i64 y3) ∧ wr.cell? ⟨b', off' + i * 5 + 4, none⟩ = some (.slice wa' q wc')) := ⟨⟨d0, d1, d2, d3, d4⟩, d0', d1', d2', d3', d4'⟩
      clear hsame h7 h7' hb hs hq hws hy0 hy1 hy2 hy3 hw d0 d1 d2 d3 d4 d0' d1' d2' d3' d4'
      have HE9 := Lib.hid E9
      obtain ⟨⟨e0, e1, e2', e3, e4⟩, e5, e6, e7, e8, e9⟩ := E9
      go_wp2_with fail
      clear e0 e1 e2' e3 e4 e5 e6 e7 e8 e9
      refine wp_region_held (S := fun W : World => (W.cell? ⟨b, off + i * 5, none⟩ = some (.int .i64 y0) ∧ W.cell? ⟨b, off + i * 5 + 1, none⟩ = some (.string y1) ∧ W.cell? ⟨b, off + i * 5 + 2, none⟩ = some (.int .i64 y2) ∧ W.cell? ⟨b, off + i * 5 + 3, none⟩ = some (.int .i64 y3) ∧ W.cell? ⟨b, off + i * 5 + 4, none⟩ = some (.slice wa q wc)) ∧ (W.cell? ⟨b', off' + i * 5, none⟩ = some (.int .i64 y0) ∧ W.cell? ⟨b', off' + i * 5 + 1, none⟩ = some (.string y1) ∧ W.cell? ⟨b', off' + i * 5 + 2, none⟩ = some (.int .i64 y2) ∧ W.cell? ⟨b', off' + i * 5 + 3, none⟩ = some (.int .i64 y3) ∧ W.cell? ⟨b', off' + i * 5 + 4, none⟩ = some (.slice wa' q wc'))) (by kernel_rfl) ?_
      have E0 : (wr.drew.cell? ⟨b, off + i * 5, none⟩ = some (.int .i64 y0) ∧ wr.drew.cell? ⟨b, off + i * 5 + 1, none⟩ = some (.string y1) ∧ wr.drew.cell? ⟨b, off + i * 5 + 2, none⟩ = some (.int .i64 y2) ∧ wr.drew.cell? ⟨b, off + i * 5 + 3, none⟩ = some (.int .i64 y3) ∧ wr.drew.cell? ⟨b, off + i * 5 + 4, none⟩ = some (.slice wa q wc)) ∧ (wr.drew.cell? ⟨b', off' + i * 5, none⟩ = some (.int .i64 y0) ∧ wr.drew.cell? ⟨b', off' + i * 5 + 1, none⟩ = some (.string y1) ∧ wr.drew.cell? ⟨b', off' + i * 5 + 2, none⟩ = some (.int .i64 y2) ∧ wr.drew.cell? ⟨b', off' + i * 5 + 3, none⟩ = some (.int .i64 y3) ∧ wr.drew.cell? ⟨b', off' + i * 5 + 4, none⟩ = some (.slice wa' q wc')) := HE9.out
      have F0 := HM.out.2.2.2.drew
      have T0 := HM.out.2.1
      have U0 := HM.out.2.2.1
      have T0 : TextsAt wr.drew wa ws := T0
      have U0 : TextsAt wr.drew wa' ws := U0
      have B0 : b < wr.drew.heap.size := hbl
      have B0' : b' < wr.drew.heap.size := hbl'
      clear HE9 hbl hbl'
      change wpAnyH _ _ _ _ _ _ _ _ (World.drew _)
      generalize World.drew _ = v0 at *
      refine wpAnyH_take (i := 0) (v := ?_) rfl (by kernel_rfl) (by kernel_rfl) (by kernel_rfl) (fun _ _ _ h => h) (Or.inl ⟨by kernel_rfl, ?_⟩) E0 ?_
      rotate_left
      · (intro W hS; obtain ⟨⟨g0, g1, g2, g3, g4⟩, g5, g6, g7, g8, g9⟩ := hS; go_simp; try (with_reducible rfl))
      refine wpAnyH_take (i := 1) (v := ?_) rfl (by kernel_rfl) (by kernel_rfl) (by kernel_rfl) (fun _ _ _ h => h) (Or.inl ⟨by kernel_rfl, ?_⟩) E0 ?_
      rotate_left
      · (intro W hS; obtain ⟨⟨g0, g1, g2, g3, g4⟩, g5, g6, g7, g8, g9⟩ := hS; go_simp; try (with_reducible rfl))
      refine wpAnyH_take (i := 2) (v := ?_) rfl (by kernel_rfl) (by kernel_rfl) (by kernel_rfl) (fun _ _ _ h => h) (Or.inl ⟨by kernel_rfl, ?_⟩) E0 ?_
      rotate_left
      · (intro W hS; obtain ⟨⟨g0, g1, g2, g3, g4⟩, g5, g6, g7, g8, g9⟩ := hS; go_simp; try (with_reducible rfl))
      refine wpAnyH_take (i := 3) (v := ?_) rfl (by kernel_rfl) (by kernel_rfl) (by kernel_rfl) (fun _ _ _ h => h) (Or.inl ⟨by kernel_rfl, ?_⟩) E0 ?_
      rotate_left
      · (intro W hS; obtain ⟨⟨g0, g1, g2, g3, g4⟩, g5, g6, g7, g8, g9⟩ := hS; go_simp; try (with_reducible rfl))
      refine wpAnyH_take (i := 4) (v := ?_) rfl (by kernel_rfl) (by kernel_rfl) (by kernel_rfl) (fun _ _ _ h => h) (Or.inl ⟨by kernel_rfl, ?_⟩) E0 ?_
      rotate_left
      · (intro W hS; obtain ⟨⟨g0, g1, g2, g3, g4⟩, g5, g6, g7, g8, g9⟩ := hS; go_simp; try (with_reducible rfl))
      refine wpAnyH_take (i := 5) (v := ?_) rfl (by kernel_rfl) (by kernel_rfl) (by kernel_rfl) (fun _ _ _ h => h) (Or.inl ⟨by kernel_rfl, ?_⟩) E0 ?_
      rotate_left
      · (intro W hS; obtain ⟨⟨g0, g1, g2, g3, g4⟩, g5, g6, g7, g8, g9⟩ := hS; go_simp; try (with_reducible rfl))
      refine wpAnyH_take (i := 6) (v := ?_) rfl (by kernel_rfl) (by kernel_rfl) (by kernel_rfl) (fun _ _ _ h => h) (Or.inl ⟨by kernel_rfl, ?_⟩) E0 ?_
      rotate_left
      · (intro W hS; obtain ⟨⟨g0, g1, g2, g3, g4⟩, g5, g6, g7, g8, g9⟩ := hS; go_simp; try (with_reducible rfl))
      refine wpAnyH_take (i := 7) (v := ?_) rfl (by kernel_rfl) (by kernel_rfl) (by kernel_rfl) (fun _ _ _ h => h) (Or.inl ⟨by kernel_rfl, ?_⟩) E0 ?_
      rotate_left
      · (intro W hS; obtain ⟨⟨g0, g1, g2, g3, g4⟩, g5, g6, g7, g8, g9⟩ := hS; go_simp; try (with_reducible rfl))
      refine wpAnyH_take (i := 8) (v := ?_) rfl (by kernel_rfl) (by kernel_rfl) (by kernel_rfl) (fun _ _ _ h => h) (Or.inl ⟨by kernel_rfl, ?_⟩) E0 ?_
      rotate_left
      · (intro W hS; obtain ⟨⟨g0, g1, g2, g3, g4⟩, g5, g6, g7, g8, g9⟩ := hS; go_simp; try (with_reducible rfl))
      refine wpAnyH_take (i := 9) (v := ?_) rfl (by kernel_rfl) (by kernel_rfl) (by kernel_rfl) (fun _ _ _ h => h) (Or.inl ⟨by kernel_rfl, ?_⟩) E0 ?_
      rotate_left
      · (intro W hS; obtain ⟨⟨g0, g1, g2, g3, g4⟩, g5, g6, g7, g8, g9⟩ := hS; go_simp; try (with_reducible rfl))
      refine wpAnyH_take (i := 10) (v := .bool false) rfl (by kernel_rfl) (by kernel_rfl) (by kernel_rfl) (fun _ _ _ h => h) (Or.inl ⟨by kernel_rfl, ?_⟩) E0 ?_
      · (intro W hS; clear hS; go_simp; try simp)
      refine wpAnyH_take (i := 11) (v := .bool false) rfl (by kernel_rfl) (by kernel_rfl) (by kernel_rfl) (fun _ _ _ h => h) (Or.inl ⟨by kernel_rfl, ?_⟩) E0 ?_
      · (intro W hS; clear hS; go_simp; try simp)
      refine wpAnyH_take (i := 12) (v := ?_) rfl (by kernel_rfl) (by kernel_rfl) (by kernel_rfl) (fun _ _ _ h => h) (Or.inl ⟨by kernel_rfl, ?_⟩) E0 ?_
      rotate_left
      · (intro W hS; obtain ⟨⟨g0, g1, g2, g3, g4⟩, g5, g6, g7, g8, g9⟩ := hS; go_simp; try (with_reducible rfl))
      refine wpAnyH_take (i := 13) (v := ?_) rfl (by kernel_rfl) (by kernel_rfl) (by kernel_rfl) (fun _ _ _ h => h) (Or.inl ⟨by kernel_rfl, ?_⟩) E0 ?_
      rotate_left
      · (intro W hS; obtain ⟨⟨g0, g1, g2, g3, g4⟩, g5, g6, g7, g8, g9⟩ := hS; go_simp; try (with_reducible rfl))
      refine wpAnyH_take (i := 14) (v := ?_) rfl (by kernel_rfl) (by kernel_rfl) (by kernel_rfl) (fun _ _ _ h => h) (Or.inl ⟨by kernel_rfl, ?_⟩) E0 ?_
      rotate_left
      · (intro W hS; obtain ⟨⟨g0, g1, g2, g3, g4⟩, g5, g6, g7, g8, g9⟩ := hS; go_simp; try (with_reducible rfl))
      refine wpAnyH_take (i := 15) (v := ?_) rfl (by kernel_rfl) (by kernel_rfl) (by kernel_rfl) (fun _ _ _ h => h) (Or.inl ⟨by kernel_rfl, ?_⟩) E0 ?_
      rotate_left
      · (intro W hS; obtain ⟨⟨g0, g1, g2, g3, g4⟩, g5, g6, g7, g8, g9⟩ := hS; go_simp; try (with_reducible rfl))
      refine wpAnyH_take (i := 16) (v := ?_) rfl (by kernel_rfl) (by kernel_rfl) (by kernel_rfl) (fun _ _ _ h => h) (Or.inl ⟨by kernel_rfl, ?_⟩) E0 ?_
      rotate_left
      · (intro W hS; obtain ⟨⟨g0, g1, g2, g3, g4⟩, g5, g6, g7, g8, g9⟩ := hS; go_simp; try (with_reducible rfl))
      refine wpAnyH_take (i := 17) (v := ?_) rfl (by kernel_rfl) (by kernel_rfl) (by kernel_rfl) (fun _ _ _ h => h) (Or.inl ⟨by kernel_rfl, ?_⟩) E0 ?_
      rotate_left
      · (intro W hS; obtain ⟨⟨g0, g1, g2, g3, g4⟩, g5, g6, g7, g8, g9⟩ := hS; go_simp; try (with_reducible rfl))
      refine wpAnyH_take (i := 18) (v := ?_) rfl (by kernel_rfl) (by kernel_rfl) (by kernel_rfl) (fun _ _ _ h => h) (Or.inl ⟨by kernel_rfl, ?_⟩) E0 ?_
      rotate_left
      · (intro W hS; obtain ⟨⟨g0, g1, g2, g3, g4⟩, g5, g6, g7, g8, g9⟩ := hS; go_simp; try (with_reducible rfl))
      refine wpAnyH_take (i := 19) (v := ?_) rfl (by kernel_rfl) (by kernel_rfl) (by kernel_rfl) (fun _ _ _ h => h) (Or.inl ⟨by kernel_rfl, ?_⟩) E0 ?_
      rotate_left
      · (intro W hS; obtain ⟨⟨g0, g1, g2, g3, g4⟩, g5, g6, g7, g8, g9⟩ := hS; go_simp; try (with_reducible rfl))
      refine wpAnyH_take (i := 20) (v := ?_) rfl (by kernel_rfl) (by kernel_rfl) (by kernel_rfl) (fun _ _ _ h => h) (Or.inl ⟨by kernel_rfl, ?_⟩) E0 ?_
      rotate_left
      · (intro W hS; obtain ⟨⟨g0, g1, g2, g3, g4⟩, g5, g6, g7, g8, g9⟩ := hS; go_simp; try (with_reducible rfl))
      refine wpAnyH_take (i := 21) (v := ?_) rfl (by kernel_rfl) (by kernel_rfl) (by kernel_rfl) (fun _ _ _ h => h) (Or.inl ⟨by kernel_rfl, ?_⟩) E0 ?_
      rotate_left
      · (intro W hS; obtain ⟨⟨g0, g1, g2, g3, g4⟩, g5, g6, g7, g8, g9⟩ := hS; go_simp; try (with_reducible rfl))
      refine wpAnyH_take (i := 22) (v := .bool false) rfl (by kernel_rfl) (by kernel_rfl) (by kernel_rfl) (fun _ _ _ h => h) (Or.inl ⟨by kernel_rfl, ?_⟩) E0 ?_
      · (intro W hS; clear hS; go_simp; try simp)
      refine wpAnyH_take (i := 23) (v := .bool false) rfl (by kernel_rfl) (by kernel_rfl) (by kernel_rfl) (fun _ _ _ h => h) (Or.inl ⟨by kernel_rfl, ?_⟩) E0 ?_
      · (intro W hS; clear hS; go_simp; try simp)
      refine wpAnyH_take (i := 24) (v := .bool false) rfl (by kernel_rfl) (by kernel_rfl) (by kernel_rfl) (fun _ _ _ h => h) (Or.inl ⟨by kernel_rfl, ?_⟩) E0 ?_
      · (intro W hS; clear hS; go_simp; try simp)
      refine wpAnyH_take (i := 25) (v := ?_) rfl (by kernel_rfl) (by kernel_rfl) (by kernel_rfl) (fun _ _ _ h => h) (Or.inl ⟨by kernel_rfl, ?_⟩) E0 ?_
      rotate_left
      · (intro W hS; obtain ⟨⟨g0, g1, g2, g3, g4⟩, g5, g6, g7, g8, g9⟩ := hS; go_simp; try (with_reducible rfl))
      refine wpAnyH_take (i := 26) (v := ?_) rfl (by kernel_rfl) (by kernel_rfl) (by kernel_rfl) (fun _ _ _ h => h) (Or.inl ⟨by kernel_rfl, ?_⟩) E0 ?_
      rotate_left
      · (intro W hS; obtain ⟨⟨g0, g1, g2, g3, g4⟩, g5, g6, g7, g8, g9⟩ := hS; go_simp; try (with_reducible rfl))
      refine wpAnyH_take (i := 27) (v := ?_) rfl (by kernel_rfl) (by kernel_rfl) (by kernel_rfl) (fun _ _ _ h => h) (Or.inl ⟨by kernel_rfl, ?_⟩) E0 ?_
      rotate_left
      · (intro W hS; obtain ⟨⟨g0, g1, g2, g3, g4⟩, g5, g6, g7, g8, g9⟩ := hS; go_simp; try (with_reducible rfl))
      refine wpAnyH_take (i := 28) (v := ?_) rfl (by kernel_rfl) (by kernel_rfl) (by kernel_rfl) (fun _ _ _ h => h) (Or.inl ⟨by kernel_rfl, ?_⟩) E0 ?_
      rotate_left
      · (intro W hS; obtain ⟨⟨g0, g1, g2, g3, g4⟩, g5, g6, g7, g8, g9⟩ := hS; go_simp; try (with_reducible rfl))
      refine wpAnyH_take (i := 29) (v := ?_) rfl (by kernel_rfl) (by kernel_rfl) (by kernel_rfl) (fun _ _ _ h => h) (Or.inl ⟨by kernel_rfl, ?_⟩) E0 ?_
      rotate_left
      · (intro W hS; obtain ⟨⟨g0, g1, g2, g3, g4⟩, g5, g6, g7, g8, g9⟩ := hS; go_simp; try (with_reducible rfl))
      refine wpAnyH_take (i := 30) (v := ?_) rfl (by kernel_rfl) (by kernel_rfl) (by kernel_rfl) (fun _ _ _ h => h) (Or.inl ⟨by kernel_rfl, ?_⟩) E0 ?_
      rotate_left
      · (intro W hS; obtain ⟨⟨g0, g1, g2, g3, g4⟩, g5, g6, g7, g8, g9⟩ := hS; go_simp; try (with_reducible rfl))
      refine wpAnyH_take (i := 31) (v := ?_) rfl (by kernel_rfl) (by kernel_rfl) (by kernel_rfl) (fun _ _ _ h => h) (Or.inl ⟨by kernel_rfl, ?_⟩) E0 ?_
      rotate_left
      · (intro W hS; obtain ⟨⟨g0, g1, g2, g3, g4⟩, g5, g6, g7, g8, g9⟩ := hS; go_simp; try (with_reducible rfl))
      refine wpAnyH_take (i := 32) (v := ?_) rfl (by kernel_rfl) (by kernel_rfl) (by kernel_rfl) (fun _ _ _ h => h) (Or.inl ⟨by kernel_rfl, ?_⟩) E0 ?_
      rotate_left
      · (intro W hS; obtain ⟨⟨g0, g1, g2, g3, g4⟩, g5, g6, g7, g8, g9⟩ := hS; go_simp; try (with_reducible rfl))
      refine wpAnyH_take (i := 33) (v := ?_) rfl (by kernel_rfl) (by kernel_rfl) (by kernel_rfl) (fun _ _ _ h => h) (Or.inl ⟨by kernel_rfl, ?_⟩) E0 ?_
      rotate_left
      · (intro W hS; obtain ⟨⟨g0, g1, g2, g3, g4⟩, g5, g6, g7, g8, g9⟩ := hS; go_simp; try (with_reducible rfl))
      refine wpAnyH_take (i := 34) (v := ?_) rfl (by kernel_rfl) (by kernel_rfl) (by kernel_rfl) (fun _ _ _ h => h) (Or.inl ⟨by kernel_rfl, ?_⟩) E0 ?_
      rotate_left
      · (intro W hS; obtain ⟨⟨g0, g1, g2, g3, g4⟩, g5, g6, g7, g8, g9⟩ := hS; go_simp; try (with_reducible rfl))
      refine wpAnyH_ready (rs := [35]) (by kernel_rfl) (by simp) ?_
      refine AllReadyH.cons (i := 35) (rs := []) (o := ?o1) ?h1 (fun K hK => ?_) AllReadyH.nil
      case h1 => (simp only [List.getElem?_toArray, List.getElem?_cons_succ]; exact rfl)
      go_simp
      refine (HM.out.1 v0 T0 U0).mono ?_
      rintro e v1 ⟨rfl, hb⟩
      have F1 := F0.trans (hb.mono F0.size)
      have E1 : (v1.cell? ⟨b, off + i * 5, none⟩ = some (.int .i64 y0) ∧ v1.cell? ⟨b, off + i * 5 + 1, none⟩ = some (.string y1) ∧ v1.cell? ⟨b, off + i * 5 + 2, none⟩ = some (.int .i64 y2) ∧ v1.cell? ⟨b, off + i * 5 + 3, none⟩ = some (.int .i64 y3) ∧ v1.cell? ⟨b, off + i * 5 + 4, none⟩ = some (.slice wa q wc)) ∧ (v1.cell? ⟨b', off' + i * 5, none⟩ = some (.int .i64 y0) ∧ v1.cell? ⟨b', off' + i * 5 + 1, none⟩ = some (.string y1) ∧ v1.cell? ⟨b', off' + i * 5 + 2, none⟩ = some (.int .i64 y2) ∧ v1.cell? ⟨b', off' + i * 5 + 3, none⟩ = some (.int .i64 y3) ∧ v1.cell? ⟨b', off' + i * 5 + 4, none⟩ = some (.slice wa' q wc')) := ⟨⟨(hb.cell (p := ⟨b, _, none⟩) B0).trans E0.1.1, (hb.cell (p := ⟨b, _, none⟩) B0).trans E0.1.2.1, (hb.cell (p := ⟨b, _, none⟩) B0).trans E0.1.2.2.1, (hb.cell (p := ⟨b, _, none⟩) B0).trans E0.1.2.2.2.1, (hb.cell (p := ⟨b, _, none⟩) B0).trans E0.1.2.2.2.2⟩, (hb.cell (p := ⟨b', _, none⟩) B0').trans E0.2.1, (hb.cell (p := ⟨b', _, none⟩) B0').trans E0.2.2.1, (hb.cell (p := ⟨b', _, none⟩) B0').trans E0.2.2.2.1, (hb.cell (p := ⟨b', _, none⟩) B0').trans E0.2.2.2.2.1, (hb.cell (p := ⟨b', _, none⟩) B0').trans E0.2.2.2.2.2⟩
      refine hK.out _ _ E1 (fun _ => ?_)
      clear hK K hb
      refine wpAnyH_take (i := 36) (v := .bool false) rfl (by kernel_rfl) (by kernel_rfl) (by kernel_rfl) (fun _ _ _ h => h) (Or.inl ⟨by kernel_rfl, ?_⟩) E1 ?_
      · (intro W hS; clear hS; go_simp; try simp)
      refine wpAnyH_take (i := 37) (v := .bool false) rfl (by kernel_rfl) (by kernel_rfl) (by kernel_rfl) (fun _ _ _ h => h) (Or.inl ⟨by kernel_rfl, ?_⟩) E1 ?_
      · (intro W hS; clear hS; go_simp; try simp)
      refine wpAnyH_done (by kernel_rfl) ?_ _
      go_simp
      have HD := Lib.hid F1
      clear E1 E0 F0 F1 T0 U0 B0 B0'
      go_wp2_with fail
      go_roundw
      case rel => exact ⟨i + 1, by omega, by go_num, HD.out⟩
      case measure => simp [intOf]; omega
    · have H := Lib.hid hb
      clear hb
      go_wp2_with fail
      go_ret
      exact ⟨rfl, H.out⟩
end Go.Proofs.YtdfkpjmljaanpaaGreatDoor
