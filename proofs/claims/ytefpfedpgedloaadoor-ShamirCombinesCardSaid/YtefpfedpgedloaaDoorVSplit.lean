/- shamir.mayBeSplit, spread, Split. -/
import Derived.Test.YtefpfedpgedloaaDoorVVals
namespace Go.Proofs.YtefpfedpgedloaaDoor
open Go.RowKit
open Gf

theorem mayBeSplit_any (s : ByteArray) (hs : s.size ≤ maxLen) (w : World) :
    Calls Tryd.prog 20 #[.string s] w fun e w' => e = .returned (.bool (mayS s)) ∧ w' = w := by
  unfold maxLen at hs
  unfold mayS
  by_cases h1 : (1 : Int) ≤ s.size
  · by_cases h2 : (s.size : Int) ≤ 64
    · rw [decide_eq_true (show 1 ≤ s.size by omega), decide_eq_true (show s.size ≤ 64 by omega)]
      go_enter Tryd.func20, Tryd.ntmps20
      go_wp2_with fail
      go_ret
      exact ⟨rfl, rfl⟩
    · rw [decide_eq_true (show 1 ≤ s.size by omega), decide_eq_false (show ¬ s.size ≤ 64 by omega)]
      go_enter Tryd.func20, Tryd.ntmps20
      go_wp2_with fail
      go_ret
      exact ⟨rfl, rfl⟩
  · rw [decide_eq_false (show ¬ 1 ≤ s.size by omega), Bool.false_and]
    go_enter Tryd.func20, Tryd.ntmps20
    go_wp2_with fail
    go_ret
    exact ⟨rfl, rfl⟩
/-- The polynomial that hides byte i, as a text. -/
def hideB (s d : ByteArray) (q i : Nat) : ByteArray := str (hideL s d i q)
set_option maxRecDepth 100000 in
set_option maxHeartbeats 1000000 in
theorem spread_any (s d : ByteArray) (q : Nat) (h1 : 1 ≤ s.size) (h64 : s.size ≤ 64) (hd : d.size = q * s.size) (hq : q ≤ 255) (w : World) :
    Calls Tryd.prog 21 #[.string s, .string d] w fun e w' => ∃ a cap, e = .returned (.slice a s.size cap) ∧ OwnX w.heap.size w' a cap ((List.range s.size).map (hideB s d q)) ∧ Below w.heap.size w w' := by
  have hds : d.size ≤ 255 * 64 := by rw [hd]; exact Nat.mul_le_mul hq h64
  obtain ⟨n, hN⟩ : ∃ n, n = s.size := ⟨_, rfl⟩
  rw [← hN] at hd
  obtain ⟨w2, hmk, hown, hb2⟩ := make_texts w n (by omega)
  rw [← upTo_rep (hideB s d q) ⟨#[]⟩ n] at hown
  have hall := upTo_all (hideB s d q) (fun _ => ⟨#[]⟩) n
  have H0 := Lib.hid (And.intro hd (And.intro hN (And.intro hown (And.intro hb2 hall))))
  have hni : (n : Int) ≤ 64 := by omega
  have hsn : (s.size : Int) = n := by omega
  have hsz : s.size = n := hN.symm
  clear hd hN hown hb2 hall
  rw [hsz]
  go_enter Tryd.func21, Tryd.ntmps21
  go_wp2_with fail
  clear hmk
  go_loopw [6, 7, 8, 14] (fun _ _ _ i wr => ∃ k : Nat, k ≤ n ∧ i = .int .i64 (k : Int) ∧ OwnX w.heap.size wr (some ⟨w.heap.size, 0, none⟩) n (upTo (hideB s d q) (fun _ => ⟨#[]⟩) n k) ∧ Below w.heap.size w wr) (fun _ _ _ i _ => n - (intOf i).toNat)
  case atStart => exact ⟨0, by omega, rfl, H0.out.2.2.1, H0.out.2.2.2.1⟩
  case round =>
    obtain ⟨k, hk, rfl, ho, hb⟩ := hrel
    by_cases hlt : k < n
    · have hks : k < s.size := by omega
      obtain ⟨W0, hW0⟩ : ∃ W0, W0 = wr := ⟨_, rfl⟩
      subst hW0
      have hz := hb.size
      have hown1 : OwnB W0.heap.size (W0.alloc (.cells #[.int .u8 (s[k].toNat : Int)] 5)) (some ⟨W0.heap.size, 0, none⟩) 1 (hideL s d k 0) := by
        have hL : hideL s d k 0 = [s[k]] := by unfold hideL; rw [co_at s k hks]; rfl
        rw [hL]
        exact World.ownsRow_lit W0 #[.int .u8 (s[k].toNat : Int)] 1 (Nat.le_refl _) (by decide) rfl
      have hb1 : Below W0.heap.size W0 (W0.alloc (.cells #[.int .u8 (s[k].toNat : Int)] 5)) := (Below.refl _ _).alloc (Nat.le_refl _) _
      have H1 := Lib.hid (And.intro ho (And.intro hb (And.intro hown1 (And.intro hb1 hz))))
      clear ho hb hown1 hb1 hz
      go_wp2_with fail
      go_loopw [7, 8] (fun p j W => ∃ (m J : Nat) (ad : Option Addr) (cp : Nat), m ≤ q ∧ J = k + m * n ∧ p = .slice ad (m + 1) cp ∧ j = .int .i64 (J : Int) ∧ OwnB W0.heap.size W ad cp (hideL s d k m) ∧ Below W0.heap.size W0 W) (fun _ j _ => d.size + 64 - (intOf j).toNat)
      case atStart => exact ⟨0, k, _, _, by omega, by omega, rfl, rfl, H1.out.2.2.1, H1.out.2.2.2.1⟩
      case round =>
        obtain ⟨m, J, ad, cp, hm, hJ, rfl, rfl, hoB, hbB⟩ := hrel
        have hdq := H0.out.1
        by_cases hj : J < d.size
        · have hmq : m < q := Nat.lt_of_mul_lt_mul_right (a := n) (by omega)
          have hnx : hideL s d k (m + 1) = hideL s d k m ++ [d[J]] := by rw [hideL_snoc, hsz, ← hJ, co_at d J hj]
          have hJn : J + n = k + (m + 1) * n := by rw [Nat.add_mul]; omega
          have hJi : (J : Int) ≤ 20000 := by omega
          have H2 := Lib.hid (And.intro hoB (And.intro hbB (And.intro hnx (And.intro hJn hmq))))
          have hz2 := hbB.size
          clear hoB hbB hnx hJn hmq hJ hm hdq
          go_wp2_with (at_builtin; (refine wpList_append_byte' (w0 := W0) rfl (.tmp 30) (.tmp 34) rfl (H2.out.1.alloc _) (m + 1) (hideL_length _ _ _ _) rfl _ 1 d[J] rfl (cell_new _ _ _) (by have := H2.out.2.2.2.2; omega) (by simp; omega) (H2.out.2.1.alloc hz2 _) ?_; intro g1 cap1 w3 hown1 hb1; have H3 := Lib.hid (And.intro hown1 hb1); clear hown1 hb1))
          go_roundw
          case rel => exact ⟨m + 1, J + n, _, cap1, by have := H2.out.2.2.2.2; omega, H2.out.2.2.2.1, by rfl, by go_num, by rw [H2.out.2.2.1]; exact H3.out.1, H3.out.2⟩
          case measure => simp [intOf]; omega
        · have hmq : q < m + 1 := Nat.lt_of_mul_lt_mul_right (a := n) (by rw [Nat.add_mul]; omega)
          obtain rfl : m = q := by omega
          have hcv := hoB.conv
          rw [hideL_length] at hcv
          change (convert _ _ _).run _ _ = Result.ok (.string (hideB s d m k)) _ at hcv
          have hoX := Own.below H1.out.1 (hbB.mono (Nat.le_refl _))
          have hbX := H1.out.2.1.trans (hbB.mono H1.out.2.2.2.2)
          have hoX' : OwnX w.heap.size wr (some ⟨w.heap.size, 0, none⟩) n (upTo (hideB s d m) (fun _ => ⟨#[]⟩) n k) := hoX
          have hlen := upTo_length (hideB s d m) (fun _ => (⟨#[]⟩ : ByteArray)) n k
          obtain ⟨old, hold⟩ : ∃ old, (upTo (hideB s d m) (fun _ => (⟨#[]⟩ : ByteArray)) n k)[k]? = some old := ⟨_, upTo_get _ _ hlt⟩
          have c1 : wr.cell? ⟨w.heap.size, k, none⟩ = some (.string old) := by
            rw [Own.cell hoX (by rw [hlen]; omega)]
            unfold tcells
            rw [List.getElem?_map, hold]; rfl
          have f1 : wr.frozen? ⟨w.heap.size, k, none⟩ = false := World.ownsRow.frozenAt hoX.1 k
          have hput := hoX'.put k (hideB s d m k)
          rw [upTo_step _ _ hlt] at hput
          have hbp := below_put hbX (Nat.le_refl _) k (.string (hideB s d m k))
          have HP := Lib.hid (And.intro hput hbp)
          clear hoX hoX' hbX hput hbp hoB hbB hold hlen hmq hdq H1 hJ hm
          go_wp2_with fail
          go_roundw
          case rel => exact ⟨k + 1, by omega, by go_num, HP.out.1, HP.out.2⟩
          case measure => simp [intOf]; omega
    · obtain rfl : k = n := by omega
      have h5 := H0.out.2.2.2.2
      rw [h5] at ho
      have HB := Lib.hid (And.intro ho hb)
      clear ho hb h5
      go_wp2_with fail
      go_ret
      exact ⟨_, _, rfl, HB.out.1, HB.out.2⟩
end Go.Proofs.YtefpfedpgedloaaDoor
