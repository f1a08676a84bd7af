/- shamir.values: what polynomials are at one place. -/
import Derived.Test.YtefpfedpgedloaaDoorVMem
import Derived.Test.YtefpfedpgedloaaDoorPValQ
namespace Go.Proofs.YtefpfedpgedloaaDoor
open Go.RowKit
open Gf

theorem wrap_bx (x : Int) : IntKind.u8.wrap x = ((bx x).toNat : Int) := by
  rw [IntKind.wrap_u8]; unfold bx; rw [UInt8.toNat_ofNat']; omega
theorem vals_upTo (ps : List ByteArray) (x : UInt8) : str (upTo (fun i => valB (ps.getD i ByteArray.empty) x) (fun _ => 0) ps.length ps.length) = vals ps x := by
  rw [upTo_all]
  unfold vals
  congr 1
  apply List.ext_getElem?
  intro i
  by_cases h : i < ps.length
  · simp [h]
  · simp [h]
set_option maxRecDepth 100000 in
set_option maxHeartbeats 1000000 in
theorem values_any {w : World} {a0 : Option Addr} {ps : List ByteArray} (hT : TextsAt w a0 ps) (hn : ps.length ≤ 1000) (hs : ∀ p ∈ ps, p.size ≤ maxLen) (cap : Nat) (x : Int) :
    Calls Tryd.prog 22 #[.slice a0 ps.length cap, .int .i64 x] w fun e w' => e = .returned (.string (vals ps (bx x))) ∧ Below w.heap.size w w' := by
  have hwx := wrap_bx x
  obtain ⟨X, hX⟩ : ∃ X, X = bx x := ⟨_, rfl⟩
  rw [← hX] at hwx ⊢
  obtain ⟨n, hN⟩ : ∃ n, n = ps.length := ⟨_, rfl⟩
  have hall := vals_upTo ps X
  obtain ⟨R, hR⟩ : ∃ R, R = vals ps X := ⟨_, rfl⟩
  rw [← hR] at hall ⊢
  obtain ⟨f, hf⟩ : ∃ f, f = fun i => valB (ps.getD i ByteArray.empty) X := ⟨_, rfl⟩
  rw [← hf, ← hN] at hall
  rw [← hN] at hn ⊢
  obtain ⟨w2, hmk, hown, hb2⟩ := make_bytes w n (by omega)
  rw [← upTo_rep f 0 n] at hown
  have H0 := Lib.hid (And.intro hT (And.intro hN (And.intro hs (And.intro hf (And.intro hall (And.intro hown hb2))))))
  clear hT hN hs hX hf hall hR hown hb2
  go_enter Tryd.func22, Tryd.ntmps22
  go_wp2_with fail
  clear hmk
  go_loopw [6, 7, 13] (fun _ _ i wr => ∃ k : Nat, k ≤ n ∧ i = .int .i64 (k : Int) ∧ OwnB w.heap.size wr (some ⟨w.heap.size, 0, none⟩) n (upTo f (fun _ => 0) n k) ∧ Below w.heap.size w wr) (fun _ _ i _ => n - (intOf i).toNat)
  case atStart => exact ⟨0, by omega, rfl, H0.out.2.2.2.2.2.1, H0.out.2.2.2.2.2.2⟩
  case round =>
    obtain ⟨k, hk, rfl, ho, hb⟩ := hrel
    by_cases hlt : k < n
    · obtain ⟨tb, off, rfl, htb, hc⟩ := (H0.out.1.below hb) k (by have := H0.out.2.1; omega)
      have hpm : (ps.getD k ByteArray.empty).size ≤ maxLen := by
        rw [List.getD_eq_getElem?_getD, List.getElem?_eq_getElem (by have := H0.out.2.1; omega)]
        exact H0.out.2.2.1 _ (List.getElem_mem _)
      have hfk : f k = valB (ps.getD k ByteArray.empty) X := by rw [H0.out.2.2.2.1]
      obtain ⟨p, hp⟩ : ∃ p, p = ps.getD k ByteArray.empty := ⟨_, rfl⟩
      rw [← hp] at hc hpm hfk
      have hv := fun W => value_any p hpm X W
      rw [← hfk] at hv
      have H := Lib.hid (And.intro ho (And.intro hb hv))
      clear ho hb hv hpm hfk hp
      go_wp2_with fail
      refine (H.out.2.2 _).mono ?_
      rintro e w3 ⟨rfl, hb3⟩
      have ho3 := H.out.1.call hb3
      have hb4 := H.out.2.1.trans (hb3.mono H.out.2.1.size)
      have c1 := ho3.cellAt k (by rw [upTo_length]; exact hlt)
      have f1 := ho3.frozenAt k
      generalize ((upTo f (fun _ => 0) n k).getD k 0).toNat = old at c1
      have hput := ho3.put k (f k)
      rw [upTo_step f _ hlt] at hput
      have hbp := below_put hb4 (Nat.le_refl _) k (.int .u8 ((f k).toNat : Int))
      have H3 := Lib.hid (And.intro hput hbp)
      clear ho3 hb4 hb3 hput hbp
      go_wp2_with fail
      go_roundw
      case rel => exact ⟨k + 1, by omega, by go_num, H3.out.1, H3.out.2⟩
      case measure => simp [intOf]; omega
    · obtain rfl : k = n := by omega
      have hcv := ho.conv
      rw [upTo_length, H0.out.2.2.2.2.1] at hcv
      have HB := Lib.hid hb
      clear ho hb
      go_wp2_with fail
      go_ret
      exact ⟨rfl, HB.out⟩
end Go.Proofs.YtefpfedpgedloaaDoor
