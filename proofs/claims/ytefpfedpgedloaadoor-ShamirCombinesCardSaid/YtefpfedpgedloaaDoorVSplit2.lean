/- shamir.Split. -/
import Derived.Test.YtefpfedpgedloaaDoorVSplit
namespace Go.Proofs.YtefpfedpgedloaaDoor
open Go.RowKit
open Gf

/-- The share at place k + 1. -/
def shK (s d : ByteArray) (need : Int) (k : Nat) : Shr := ⟨(k : Int) + 1, need, shY s d (need.toNat - 1) (bx ((k : Int) + 1))⟩
theorem vals_hide (s d : ByteArray) (q : Nat) (x : UInt8) : vals ((List.range s.size).map (hideB s d q)) x = shY s d q x := by
  unfold vals shY; rw [List.map_map]; rfl
theorem mayP_size {s d : ByteArray} {need n : Int} (h : mayP s d need n = true) : d.size = (need.toNat - 1) * s.size := by
  obtain ⟨⟨a, b⟩, c, e, f, g⟩ := mayP_iff.1 h
  have : need - 1 = ((need.toNat - 1 : Nat) : Int) := by omega
  rw [this] at g
  exact_mod_cast g
set_option maxRecDepth 100000 in
set_option maxHeartbeats 1000000 in
theorem split_good (s d : ByteArray) (need : Int) (N : Nat) (h : mayP s d need N = true) (w : World) :
    Calls Tryd.prog 9 #[.string s, .int .i64 need, .int .i64 (N : Int), .string d] w fun e w' => ∃ a cap, e = .returned (.tuple #[.slice a N cap, .int .i64 0]) ∧ OwnS 41 w.heap.size w' a cap (splt s d need N) ∧ Below w.heap.size w w' := by
  obtain ⟨⟨p1, p2⟩, p3, p4, p5, p6⟩ := mayP_iff.1 h
  have hq := mayP_size h
  have hmay := mayBeSplit_any s (by unfold maxLen; omega)
  rw [show mayS s = true by unfold mayS; rw [decide_eq_true p1, decide_eq_true p2]; rfl] at hmay
  have hspr := spread_any s d (need.toNat - 1) p1 p2 hq (by omega)
  obtain ⟨nm, hnm⟩ : ∃ nm, nm = need - 1 := ⟨_, rfl⟩
  have hsub : IntKind.i64.wrap (need - 1) = nm := by rw [hnm]; exact IntWalk.i64_in _ (by omega)
  have hds : (d.size : Int) ≤ 16320 := by
    have : d.size ≤ 255 * 64 := by rw [hq]; exact Nat.mul_le_mul (by omega) p2
    omega
  have hmul : IntKind.i64.wrap (nm * (s.size : Int)) = (d.size : Int) := by rw [hnm, ← p6]; exact IntWalk.i64_in _ (by omega)
  have hp1 : (1 : Int) ≤ s.size := by omega
  have hp2 : (s.size : Int) ≤ 64 := by omega
  have HM := Lib.hid (And.intro hmay (And.intro hspr (And.intro hq p1)))
  clear hmay hspr hq h p6 hnm p1 p2
  go_enter Tryd.func9, Tryd.ntmps9
  go_wp2_with fail
  refine (HM.out.1 _).mono ?_
  rintro e w1 ⟨rfl, rfl⟩
  go_wp2_with fail
  refine (HM.out.2.1 _).mono ?_
  rintro e w2 ⟨a2, cp2, rfl, hx2, hb2⟩
  obtain ⟨w3, hmk, hown, hb3⟩ := make_shares w2 N (by omega)
  rw [← upTo_rep (shK s d need) zeroShr N] at hown
  have H0 := Lib.hid (And.intro hx2.at (And.intro hb2 (And.intro hown (And.intro hb3 hb2.size))))
  clear hx2 hb2 hown hb3 hsub hmul hds
  go_wp2_with fail
  clear hmk
  go_loopw [12, 46] (fun _ i wr => ∃ k : Nat, k ≤ N ∧ i = .int .i64 (k : Int) ∧ OwnS 41 w2.heap.size wr (some ⟨w2.heap.size, 0, none⟩) N (upTo (shK s d need) (fun _ => zeroShr) N k) ∧ Below w2.heap.size w2 wr) (fun _ i _ => N - (intOf i).toNat)
  case atStart => exact ⟨0, by omega, rfl, H0.out.2.2.1, H0.out.2.2.2.1⟩
  case round =>
    obtain ⟨k, hk, rfl, ho, hb⟩ := hrel
    by_cases hlt : k < N
    · have hv := fun (W : World) (hW : Below w2.heap.size w2 W) => values_any (H0.out.1.below hW) (by simp; have := HM.out.2.2.2; omega) (fun p hp => by
        obtain ⟨i, hi, rfl⟩ := List.mem_map.1 hp
        unfold hideB
        rw [str_size, hideL_length]
        unfold maxLen; omega) cp2 ((k : Int) + 1)
      rw [vals_hide, List.length_map, List.length_range] at hv
      obtain ⟨y, hy⟩ : ∃ y, y = shY s d (need.toNat - 1) (bx ((k : Int) + 1)) := ⟨_, rfl⟩
      rw [← hy] at hv
      have H := Lib.hid (And.intro ho (And.intro hb (And.intro hv hy)))
      clear ho hb hv hy
      go_wp2_with fail
      refine (H.out.2.2.1 _ H.out.2.1).mono ?_
      rintro e w5 ⟨rfl, hb5⟩
      have ho5 := H.out.1.below hb5
      have hb6 := H.out.2.1.trans (hb5.mono H.out.2.1.size)
      obtain ⟨old, hold⟩ : ∃ old, (upTo (shK s d need) (fun _ => zeroShr) N k)[k]? = some old := ⟨_, upTo_get _ _ hlt⟩
      obtain ⟨c0, c1, c2, f1⟩ := ho5.cells hold
      have hsk : shK s d need k = ⟨(k : Int) + 1, need, y⟩ := by unfold shK; rw [H.out.2.2.2]
      have hput := ho5.put (j := k) (by rw [upTo_length]; exact hlt) ⟨(k : Int) + 1, need, y⟩
      rw [← hsk, upTo_step _ _ hlt, hsk] at hput
      have hbp := below_put (below_put (below_put hb6 (Nat.le_refl _) (k * 3) (.int .i64 ((k : Int) + 1))) (Nat.le_refl _) (k * 3 + 1) (.int .i64 need)) (Nat.le_refl _) (k * 3 + 2) (.string y)
      have HP := Lib.hid (And.intro hput hbp)
      clear ho5 hb6 hb5 hput hbp hold hsk
      go_wp2_with fail
      go_roundw
      case rel => exact ⟨k + 1, by omega, by go_num, HP.out.1, HP.out.2⟩
      case measure => simp [intOf]; omega
    · obtain rfl : k = N := by omega
      have hall := upTo_all (shK s d need) (fun _ => zeroShr) k
      rw [hall] at ho
      have HB := Lib.hid (And.intro ho hb)
      clear ho hb hall
      go_wp2_with fail
      go_ret2
      refine ⟨_, _, rfl, Own.mono HB.out.1 H0.out.2.2.2.2, H0.out.2.1.trans (HB.out.2.mono H0.out.2.2.2.2)⟩
set_option maxRecDepth 100000 in
set_option maxHeartbeats 1000000 in
theorem split_bad (s d : ByteArray) (need n : Int) (hs : s.size ≤ maxLen) (h : mayP s d need n = false) (w : World) :
    Calls Tryd.prog 9 #[.string s, .int .i64 need, .int .i64 n, .string d] w fun e w' => e = .returned (.tuple #[.slice none 0 0, .int .i64 1]) ∧ w' = w := by
  have hmay := mayBeSplit_any s hs
  cases hm : mayS s with
  | false =>
    rw [hm] at hmay
    have HM := Lib.hid hmay
    clear hmay hm h
    go_enter Tryd.func9, Tryd.ntmps9
    go_wp2_with fail
    refine (HM.out _).mono ?_
    rintro e w1 ⟨rfl, rfl⟩
    go_wp2_with fail
    go_ret2
    exact ⟨rfl, rfl⟩
  | true =>
    rw [hm] at hmay
    have HM := Lib.hid hmay
    clear hmay
    by_cases h1 : need < 1
    · clear h hm
      go_enter Tryd.func9, Tryd.ntmps9
      go_wp2_with fail
      refine (HM.out _).mono ?_
      rintro e w1 ⟨rfl, rfl⟩
      go_wp2_with fail
      go_ret2
      exact ⟨rfl, rfl⟩
    by_cases h2 : n < need
    · clear h hm
      go_enter Tryd.func9, Tryd.ntmps9
      go_wp2_with fail
      refine (HM.out _).mono ?_
      rintro e w1 ⟨rfl, rfl⟩
      go_wp2_with fail
      go_ret2
      exact ⟨rfl, rfl⟩
    by_cases h3 : 255 < n
    · clear h hm
      go_enter Tryd.func9, Tryd.ntmps9
      go_wp2_with fail
      refine (HM.out _).mono ?_
      rintro e w1 ⟨rfl, rfl⟩
      go_wp2_with fail
      go_ret2
      exact ⟨rfl, rfl⟩
    have hsz : 1 ≤ s.size ∧ s.size ≤ 64 := by
      unfold mayS at hm; simp only [Bool.and_eq_true, decide_eq_true_eq] at hm; exact hm
    have hne : ¬ ((d.size : Int) = (need - 1) * (s.size : Int)) := fun e => by
      have := (mayP_iff (s := s) (d := d) (need := need) (n := n)).2 ⟨hsz, by omega, by omega, by omega, e⟩
      rw [h] at this; cases this
    obtain ⟨nm, hnm⟩ : ∃ nm, nm = need - 1 := ⟨_, rfl⟩
    have hsub : IntKind.i64.wrap (need - 1) = nm := by rw [hnm]; exact IntWalk.i64_in _ (by omega)
    obtain ⟨P, hP⟩ : ∃ P, P = nm * (s.size : Int) := ⟨_, rfl⟩
    have hP0 : 0 ≤ P := by rw [hP]; exact Int.mul_nonneg (by omega) (by omega)
    have hP1 : P ≤ 16320 := by
      rw [hP]
      have := Int.mul_le_mul (show nm ≤ 255 by omega) (show (s.size : Int) ≤ 64 by omega) (by omega) (by omega)
      omega
    have hmul : IntKind.i64.wrap (nm * (s.size : Int)) = P := by rw [← hP]; exact IntWalk.i64_in _ (by omega)
    rw [← hnm, ← hP] at hne
    have hb1 : ((d.size : Int) == P) = false := by simpa using hne
    have hb2 : ((d.size : Int) != P) = true := by simpa using hne
    clear h hm hsz hne hnm hP
    go_enter Tryd.func9, Tryd.ntmps9
    go_wp2_with fail
    refine (HM.out _).mono ?_
    rintro e w1 ⟨rfl, rfl⟩
    go_wp2_with fail
    go_ret2
    exact ⟨rfl, rfl⟩
end Go.Proofs.YtefpfedpgedloaaDoor
