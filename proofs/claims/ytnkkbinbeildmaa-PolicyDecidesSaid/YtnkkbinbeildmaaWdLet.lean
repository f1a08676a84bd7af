/- words.letterOf, Norm. -/
import Derived.Test.YtnkkbinbeildmaaMW2
import Derived.Test.YtnkkbinbeildmaaMakeS
namespace Go.Proofs.Ytnkkbinbeildmaa
open Go.RowKit

set_option maxRecDepth 100000 in
set_option maxHeartbeats 1000000 in
theorem letterOf_any (c : UInt8) (w : World) : Calls Try.prog 71 #[.int .u8 (c.toNat : Int)] w fun e w' => e = .returned (.int .u8 ((Wd.let1 c).toNat : Int)) ∧ w' = w := by
  have hlt := c.toNat_lt
  obtain ⟨n, hn⟩ : ∃ n, n = c.toNat := ⟨_, rfl⟩
  rw [← hn] at hlt ⊢
  obtain ⟨y, hy⟩ : ∃ y, y = (Wd.let1 c).toNat := ⟨_, rfl⟩
  rw [← hy]
  have hcases : (n < 48) ∨ (48 ≤ n ∧ n ≤ 57) ∨ (57 < n ∧ n < 65) ∨ (65 ≤ n ∧ n ≤ 90) ∨ (90 < n ∧ n < 97) ∨ (97 ≤ n ∧ n ≤ 122) ∨ (122 < n) := by omega
  rcases hcases with h | h | h | h | h | h | h
  · have hv : y = 0 := by
      rw [hy, let1_no (by omega) (by omega)]; rfl
    have g0 : ¬ ((65 : Int) ≤ (n : Int)) := by omega
    have g1 : (n : Int) ≤ 90 := by omega
    have g2 : ¬ ((97 : Int) ≤ (n : Int)) := by omega
    have g3 : (n : Int) ≤ 122 := by omega
    have g4 : ¬ ((48 : Int) ≤ (n : Int)) := by omega
    have g5 : (n : Int) ≤ 57 := by omega
    clear h hlt hn hy
    subst hv
    go_enter Try.func71, Try.ntmps71
    go_wp2_with fail
    go_ret
    exact ⟨rfl, rfl⟩
  · have hv : y = n := by
      rw [hy, let1_low (by omega), hn]
    have g0 : ¬ ((65 : Int) ≤ (n : Int)) := by omega
    have g1 : (n : Int) ≤ 90 := by omega
    have g2 : ¬ ((97 : Int) ≤ (n : Int)) := by omega
    have g3 : (n : Int) ≤ 122 := by omega
    have g4 : (48 : Int) ≤ (n : Int) := by omega
    have g5 : (n : Int) ≤ 57 := by omega
    clear h hlt hn hy
    subst hv
    go_enter Try.func71, Try.ntmps71
    go_wp2_with fail
    go_ret
    exact ⟨rfl, rfl⟩
  · have hv : y = 0 := by
      rw [hy, let1_no (by omega) (by omega)]; rfl
    have g0 : ¬ ((65 : Int) ≤ (n : Int)) := by omega
    have g1 : (n : Int) ≤ 90 := by omega
    have g2 : ¬ ((97 : Int) ≤ (n : Int)) := by omega
    have g3 : (n : Int) ≤ 122 := by omega
    have g4 : (48 : Int) ≤ (n : Int) := by omega
    have g5 : ¬ ((n : Int) ≤ 57) := by omega
    clear h hlt hn hy
    subst hv
    go_enter Try.func71, Try.ntmps71
    go_wp2_with fail
    go_ret
    exact ⟨rfl, rfl⟩
  · have hv : y = n + 32 := by
      rw [hy, let1_up (by omega) (by omega), hn]
    have g0 : (65 : Int) ≤ (n : Int) := by omega
    have g1 : (n : Int) ≤ 90 := by omega
    have g2 : ¬ ((97 : Int) ≤ (n : Int)) := by omega
    have g3 : (n : Int) ≤ 122 := by omega
    have g4 : (48 : Int) ≤ (n : Int) := by omega
    have g5 : ¬ ((n : Int) ≤ 57) := by omega
    obtain ⟨m, hm⟩ : ∃ m : Nat, m = n - 65 := ⟨_, rfl⟩
    have gw1 : IntKind.u8.wrap ((n : Int) - 65) = (m : Int) := by rw [IntKind.wrap_u8]; omega
    have gw : IntKind.u8.wrap ((m : Int) + 97) = (y : Int) := by rw [hv, IntKind.wrap_u8]; omega
    have gm : (m : Int) ≤ 25 := by omega
    clear hm
    clear h hlt hn hy hv
    go_enter Try.func71, Try.ntmps71
    go_wp2_with fail
    go_ret
    exact ⟨rfl, rfl⟩
  · have hv : y = 0 := by
      rw [hy, let1_no (by omega) (by omega)]; rfl
    have g0 : (65 : Int) ≤ (n : Int) := by omega
    have g1 : ¬ ((n : Int) ≤ 90) := by omega
    have g2 : ¬ ((97 : Int) ≤ (n : Int)) := by omega
    have g3 : (n : Int) ≤ 122 := by omega
    have g4 : (48 : Int) ≤ (n : Int) := by omega
    have g5 : ¬ ((n : Int) ≤ 57) := by omega
    clear h hlt hn hy
    subst hv
    go_enter Try.func71, Try.ntmps71
    go_wp2_with fail
    go_ret
    exact ⟨rfl, rfl⟩
  · have hv : y = n := by
      rw [hy, let1_low (by omega), hn]
    have g0 : (65 : Int) ≤ (n : Int) := by omega
    have g1 : ¬ ((n : Int) ≤ 90) := by omega
    have g2 : (97 : Int) ≤ (n : Int) := by omega
    have g3 : (n : Int) ≤ 122 := by omega
    have g4 : (48 : Int) ≤ (n : Int) := by omega
    have g5 : ¬ ((n : Int) ≤ 57) := by omega
    clear h hlt hn hy
    subst hv
    go_enter Try.func71, Try.ntmps71
    go_wp2_with fail
    go_ret
    exact ⟨rfl, rfl⟩
  · have hv : y = 0 := by
      rw [hy, let1_no (by omega) (by omega)]; rfl
    have g0 : (65 : Int) ≤ (n : Int) := by omega
    have g1 : ¬ ((n : Int) ≤ 90) := by omega
    have g2 : (97 : Int) ≤ (n : Int) := by omega
    have g3 : ¬ ((n : Int) ≤ 122) := by omega
    have g4 : (48 : Int) ≤ (n : Int) := by omega
    have g5 : ¬ ((n : Int) ≤ 57) := by omega
    clear h hlt hn hy
    subst hv
    go_enter Try.func71, Try.ntmps71
    go_wp2_with fail
    go_ret
    exact ⟨rfl, rfl⟩
set_option maxRecDepth 100000 in
set_option maxHeartbeats 2000000 in
theorem norm15_any (s : ByteArray) (hs : s.size ≤ 1000000) (w : World) : Calls Try.prog 72 #[.string s] w fun e w' => e = .returned (normR s) ∧ Below w.heap.size w w' := by
  obtain ⟨R, hR⟩ : ∃ R, R = normR s := ⟨_, rfl⟩
  rw [← hR]
  have HR := Lib.hid hR
  clear hR
  by_cases h0 : s.size = 0
  · have hse : s = ⟨#[]⟩ := by
      apply ByteArray.ext
      exact Array.eq_empty_of_size_eq_zero h0
    subst hse
    have hRe : R = .tuple #[.string ⟨#[]⟩, .int .i64 3] := by rw [HR.out]; rfl
    have HE := Lib.hid hRe
    clear hRe h0 hs
    go_enter Try.func72, Try.ntmps72
    go_wp2_with fail
    go_ret2
    exact ⟨by rw [HE.out]; rfl, Below.refl _ _⟩
  have hne : s.toList ≠ [] := by
    intro e
    apply h0
    have : s.toList.length = s.size := by rw [toList_data]; simp
    rw [← this, e]; rfl
  have hne2 : s.toList.isEmpty = false := by cases h : s.toList with
    | nil => exact absurd h hne
    | cons a l => rfl
  have hne3 : (s.toList == []) = false := by simpa using hne
  clear hne
  go_enter Try.func72, Try.ntmps72
  go_wp2_with fail
  go_loopw [4, 11] (fun _ i wr => ∃ k : Nat, k ≤ s.size ∧ i = .int .i64 (k : Int) ∧ (∀ j (hj : j < k) (hk : j < s.size), Wd.let1 s[j] ≠ 0) ∧ wr = w) (fun _ i _ => s.size - (intOf i).toNat)
  case atStart => exact ⟨0, by omega, rfl, fun j hj => absurd hj (by omega), rfl⟩
  case round =>
    obtain ⟨k, hk, rfl, hgood, rfl⟩ := hrel
    by_cases hlt : k < s.size
    · obtain ⟨d, hd⟩ : ∃ d, d = s[k] := ⟨_, rfl⟩
      obtain ⟨c, hc⟩ : ∃ c, c = Wd.let1 d := ⟨_, rfl⟩
      have hcall := fun W : World => letterOf_any d W
      rw [← hc] at hcall
      by_cases hz : c = 0
      · have hbad := norm_bad hlt (by rw [← hd, ← hc]; exact hz)
        have hz0 : (c.toNat : Int) = 0 := by rw [hz]; rfl
        have HM := Lib.hid (And.intro hcall hbad)
        rw [hd] at HM
        clear hcall hgood hbad hz hc hd
        go_wp2_with fail
        refine (HM.out.1 _).mono ?_
        rintro e w2 ⟨rfl, rfl⟩
        go_wp2_with fail
        go_ret2
        exact ⟨by rw [HR.out, HM.out.2]; rfl, Below.refl _ _⟩
      · have hz0 : ((c.toNat : Int) == 0) = false := by
          have : ¬ ((c.toNat : Int) = 0) := fun e => hz (UInt8.toNat_inj.1 (by simpa using e))
          simpa using this
        have hgood' : ∀ j (hj : j < k + 1) (hk2 : j < s.size), Wd.let1 s[j] ≠ 0 := fun j hj hk2 => by
          rcases Nat.lt_succ_iff_lt_or_eq.1 hj with h | h
          · exact hgood j h hk2
          · subst h; rw [← hd, ← hc]; exact hz
        have HM := Lib.hid (And.intro hcall hgood')
        rw [hd] at HM
        clear hcall hgood hgood' hz hc hd
        go_wp2_with fail
        refine (HM.out.1 _).mono ?_
        rintro e w2 ⟨rfl, rfl⟩
        go_wp2_with fail
        go_roundw
        case rel => exact ⟨k + 1, by omega, by go_num, HM.out.2, by first | rfl | trivial⟩
        case measure => simp [intOf]; omega
    · obtain rfl : k = s.size := by omega
      have hno := norm_any (fun k hk => hgood k hk hk)
      rw [if_neg h0] at hno
      by_cases e1 : 24 < s.size
      · rw [if_pos e1] at hno
        have HM := Lib.hid hno
        clear hno hgood
        go_wp2_with fail
        go_ret2
        exact ⟨by rw [HR.out]; unfold normR; rw [HM.out]; rfl, Below.refl _ _⟩
      · rw [if_neg e1] at hno
        have hRe : R = .tuple #[.string (str (lets s s.size)), .int .i64 0] := by rw [HR.out, lets_all]; unfold normR; rw [hno]
        obtain ⟨w1, hmk, hown, hb1⟩ := pmake_bytes wr s.size (by omega)
        have hr1 : OwnB wr.heap.size w1 (some ⟨wr.heap.size, 0, none⟩) s.size (lets s 0 ++ List.replicate (s.size - 0) 0) := by
          have e : lets s 0 = [] := rfl
          rw [e, Nat.sub_zero]; exact hown
        have HM := Lib.hid (And.intro hRe (And.intro hr1 hb1))
        clear hno hgood hRe hr1 hb1 hown
        go_wp2_with fail
        go_loopw [6, 28] (fun _ i wx => ∃ k : Nat, k ≤ s.size ∧ i = .int .i64 (k : Int) ∧ OwnB wr.heap.size wx (some ⟨wr.heap.size, 0, none⟩) s.size (lets s k ++ List.replicate (s.size - k) 0) ∧ Below wr.heap.size wr wx) (fun _ i _ => s.size - (intOf i).toNat)
        case atStart => exact ⟨0, by omega, rfl, HM.out.2.1, HM.out.2.2⟩
        case round =>
          obtain ⟨k, hk, rfl, hown, hbw⟩ := hrel
          have hll : (lets s k ++ List.replicate (s.size - k) 0).length = s.size := by rw [List.length_append, lets_length hk, List.length_replicate]; omega
          by_cases hlt : k < s.size
          · obtain ⟨d, hd⟩ : ∃ d, d = s[k] := ⟨_, rfl⟩
            obtain ⟨c, hc⟩ : ∃ c, c = Wd.let1 d := ⟨_, rfl⟩
            have hcall := fun W : World => letterOf_any d W
            rw [← hc] at hcall
            have hcell := hown.cellAt k (by omega)
            have hfz := hown.frozenAt k
            have hput := hown.put k c
            have hset : (lets s k ++ List.replicate (s.size - k) 0).set k c = lets s (k + 1) ++ List.replicate (s.size - (k + 1)) 0 := by
              rw [lets_snoc hlt, ← hd, ← hc, List.set_append_right _ _ (by rw [lets_length hk]; exact Nat.le_refl _), lets_length hk, Nat.sub_self, show s.size - k = (s.size - (k + 1)) + 1 by omega, List.replicate_succ, List.append_assoc]
              rfl
            rw [hset] at hput
            have hgb := hown.size
            have HN := Lib.hid (And.intro hcall (And.intro hput (And.intro hbw hgb)))
            rw [hd] at HN
            clear hcall hput hset hown hbw hll hc hd hgb
            go_wp2_with fail
            refine (HN.out.1 _).mono ?_
            rintro e w2 ⟨rfl, rfl⟩
            go_wp2_with fail
            go_roundw
            case rel => exact ⟨k + 1, by omega, by go_num, HN.out.2.1, HN.out.2.2.1.setCell (p := ⟨wr.heap.size, k, none⟩) (Nat.le_refl _) _⟩
            case measure => simp [intOf]; omega
          · obtain rfl : k = s.size := by omega
            have hcv := hown.conv
            rw [hll, Nat.sub_self, List.replicate_zero, List.append_nil] at hcv
            obtain ⟨L, hL⟩ : ∃ L, L = str (lets s s.size) := ⟨_, rfl⟩
            rw [← hL] at hcv
            have HN := Lib.hid (And.intro hL hbw)
            clear hown hll hbw hL
            go_wp2_with fail
            go_ret2
            exact ⟨by rw [HM.out.1, HN.out.1]; rfl, HN.out.2⟩
end Go.Proofs.Ytnkkbinbeildmaa
