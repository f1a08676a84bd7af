/- poly.Value: it only reads. -/
import Derived.Test.YtefpfedpgedloaaDoorPVal
namespace Go.Proofs.YtefpfedpgedloaaDoor
open Go.RowKit
open Gf

theorem drew_more {w wr : World} (h : ∃ m, wr = w.drewN m) (n : Nat) : ∃ m, wr.drewN n = w.drewN m := by
  obtain ⟨d, rfl⟩ := h
  exact ⟨_, World.drewN_drewN _ _ _⟩
set_option maxRecDepth 100000 in
set_option maxHeartbeats 400000 in
theorem value_q (s : ByteArray) (hs : s.size ≤ maxLen) (x : UInt8) (w : World) :
    Calls Tryd.prog 30 #[.string s, .int .u8 (x.toNat : Int)] w fun e w' => e = .returned (.int .u8 ((valB s x).toNat : Int)) ∧ ∃ m, w' = w.drewN m := by
  unfold maxLen at hs
  obtain ⟨R, hR⟩ : ∃ R, R = valB s x := ⟨_, rfl⟩
  rw [← hR]
  have HR := Lib.hid hR
  clear hR
  go_enter Tryd.func30, Tryd.ntmps30
  go_wp2_with fail
  go_loopw [5, 6, 9] (fun v _ i wr => ∃ (k : Nat), k ≤ s.size ∧ i = .int .i64 k ∧ v = .int .u8 ((val (s.data.toList.drop (s.size - k)) x).toNat : Int) ∧ ∃ m, wr = w.drewN m) (fun _ _ i _ => s.size - (intOf i).toNat)
  case atStart => exact ⟨0, by omega, rfl, by rw [Nat.sub_zero, List.drop_of_length_le (by simp)]; rfl, 0, rfl⟩
  case round =>
    obtain ⟨k, hk, rfl, rfl, hbw⟩ := hrel
    have HB := Lib.hid hbw
    clear hbw
    by_cases hlt : k < s.size
    · obtain ⟨n, hn⟩ : ∃ n, n = s.size - 1 - k := ⟨_, rfl⟩
      have hns : n < s.size := by omega
      have hd := drop_step s k n hlt hn hns x
      obtain ⟨v, hv⟩ : ∃ v, v = val (s.data.toList.drop (s.size - k)) x := ⟨_, rfl⟩
      obtain ⟨v', hv'⟩ : ∃ v', v' = val (s.data.toList.drop (s.size - (k + 1))) x := ⟨_, rfl⟩
      rw [← hv, ← hv'] at hd
      rw [← hv]
      have e1 := u_xor (mul v x) s[n]
      rw [show mul v x ^^^ s[n] = v' by rw [hd, mul_comm x v, UInt8.xor_comm]] at e1
      have e2 : IntKind.i64.wrap ((s.size : Int) - 1) = (s.size : Int) - 1 := by rw [IntWalk.i64_in _ (by omega)]
      have e3 : IntKind.i64.wrap ((s.size : Int) - 1 - (k : Int)) = (n : Int) := by rw [IntWalk.i64_in _ (by omega)]; omega
      have hni : (n : Int) < (s.size : Int) := by omega
      have HV := Lib.hid (And.intro hv hv')
      have HN := Lib.hid hn
      clear hv hv' hd hn
      go_wp2_with fail
      go_quiet ((go_at_call 39; exact Calls.quiet_of_same (mul_still _ _ _)))
      go_wp2_with fail
      go_roundw
      case rel => exact ⟨k + 1, by omega, by go_num, by rw [HV.out.2], drew_more HB.out _⟩
      case measure => simp [intOf]; omega
    · obtain rfl : k = s.size := by omega
      have hall : val (s.data.toList.drop (s.size - s.size)) x = R := by rw [HR.out, Nat.sub_self]; rfl
      have HA := Lib.hid hall
      clear hall
      go_wp2_with fail
      go_ret
      exact ⟨by rw [← HA.out]; rfl, HB.out⟩
end Go.Proofs.YtefpfedpgedloaaDoor
