/- poly.Value; lockboxref08.Value, at. -/
import Derived.Test.YtefpfedpgedloaaDoorPTrim
namespace Go.Proofs.YtefpfedpgedloaaDoor
open Go.RowKit
open Gf

/-- A text's value. -/
def valB (s : ByteArray) (x : UInt8) : UInt8 := val s.data.toList x
theorem valB_trimB (s : ByteArray) (x : UInt8) : valB (trimB s) x = valB s x := val_trimL _ _
theorem drop_step (s : ByteArray) (k n : Nat) (hk : k < s.size) (hn : n = s.size - 1 - k) (hns : n < s.size) (x : UInt8) : val (s.data.toList.drop (s.size - (k + 1))) x = s[n] ^^^ mul x (val (s.data.toList.drop (s.size - k)) x) := by
  have hl : n < s.data.toList.length := by
    have : s.data.toList.length = s.size := by simp
    omega
  rw [show s.size - (k + 1) = n by omega, show s.size - k = n + 1 by omega, List.drop_eq_getElem_cons hl, val]
  rfl
set_option maxRecDepth 100000 in
set_option maxHeartbeats 400000 in
theorem value_any (s : ByteArray) (hs : s.size ≤ maxLen) (x : UInt8) (w : World) :
    Calls Tryd.prog 30 #[.string s, .int .u8 (x.toNat : Int)] w fun e w' => e = .returned (.int .u8 ((valB s x).toNat : Int)) ∧ Below w.heap.size w w' := by
  unfold maxLen at hs
  obtain ⟨R, hR⟩ : ∃ R, R = valB s x := ⟨_, rfl⟩
  rw [← hR]
  have HR := Lib.hid hR
  clear hR
  go_enter Tryd.func30, Tryd.ntmps30
  go_wp2_with fail
  go_loopw [5, 6, 9] (fun v _ i wr => ∃ (k : Nat), k ≤ s.size ∧ i = .int .i64 k ∧ v = .int .u8 ((val (s.data.toList.drop (s.size - k)) x).toNat : Int) ∧ Below w.heap.size w wr) (fun _ _ i _ => s.size - (intOf i).toNat)
  case atStart => exact ⟨0, by omega, rfl, by rw [Nat.sub_zero, List.drop_of_length_le (by simp)]; rfl, Below.refl _ _⟩
  case round =>
    obtain ⟨k, hk, rfl, rfl, hbw⟩ := hrel
    have HB := Lib.hid hbw
    clear hbw
    by_cases hlt : k < s.size
    · obtain ⟨n, hn⟩ : ∃ n, n = s.size - 1 - k := ⟨_, rfl⟩
      have hns : n < s.size := by omega
      have hd := drop_step s k n hlt hn hns x
      obtain ⟨v, hv⟩ : ∃ v, v = val (s.data.toList.drop (s.size - k)) x := ⟨_, rfl⟩
      obtain ⟨v', hv'⟩ : ∃ v', v' = val (s.data.toList.drop (s.size - (k + 1))) x := ⟨_, rfl⟩
      rw [← hv, ← hv'] at hd
      rw [← hv]
      have e1 := u_xor (mul v x) s[n]
      rw [show mul v x ^^^ s[n] = v' by rw [hd, mul_comm x v, UInt8.xor_comm]] at e1
      have e2 : IntKind.i64.wrap ((s.size : Int) - 1) = (s.size : Int) - 1 := by rw [IntWalk.i64_in _ (by omega)]
      have e3 : IntKind.i64.wrap ((s.size : Int) - 1 - (k : Int)) = (n : Int) := by rw [IntWalk.i64_in _ (by omega)]; omega
      have hni : (n : Int) < (s.size : Int) := by omega
      have HV := Lib.hid (And.intro hv hv')
      have HN := Lib.hid hn
      clear hv hv' hd hn
      go_wp2_with fail
      go_quiet ((go_at_call 39; exact Calls.quiet_of_same (mul_still _ _ _)))
      go_wp2_with fail
      go_roundw
      case rel => exact ⟨k + 1, by omega, by go_num, by rw [HV.out.2], gdrew HB.out _⟩
      case measure => simp [intOf]; omega
    · obtain rfl : k = s.size := by omega
      have hall : val (s.data.toList.drop (s.size - s.size)) x = R := by rw [HR.out, Nat.sub_self]; rfl
      have HA := Lib.hid hall
      clear hall
      go_wp2_with fail
      go_ret
      exact ⟨by rw [← HA.out]; rfl, HB.out⟩
theorem val_take (s : ByteArray) (k : Nat) (hk : k < s.size) (x : UInt8) : val (s.data.toList.take (k + 1)) x = val (s.data.toList.take k) x ^^^ mul s[k] (pow x k) := by
  have hl : s.data.toList.length = s.size := by simp
  rw [← List.take_append_getElem (by omega : k < s.data.toList.length), val_snoc, List.length_take, Nat.min_eq_left (by omega)]
  rfl
set_option maxRecDepth 100000 in
set_option maxHeartbeats 400000 in
theorem rvalue_any (s : ByteArray) (hs : s.size ≤ maxLen) (x : UInt8) (w : World) :
    Calls Tryd.prog 31 #[.string s, .int .u8 (x.toNat : Int)] w fun e w' => e = .returned (.int .u8 ((valB s x).toNat : Int)) ∧ w = w' := by
  unfold maxLen at hs
  obtain ⟨R, hR⟩ : ∃ R, R = valB s x := ⟨_, rfl⟩
  rw [← hR]
  have HR := Lib.hid hR
  clear hR
  go_enter Tryd.func31, Tryd.ntmps31
  go_wp2_with fail
  go_loop [5, 6, 7] (fun v p i => ∃ (k : Nat), k ≤ s.size ∧ i = .int .i64 k ∧ v = .int .u8 ((val (s.data.toList.take k) x).toNat : Int) ∧ p = .int .u8 ((pow x k).toNat : Int)) (fun _ _ i => s.size - (intOf i).toNat)
  case atStart => exact ⟨0, by omega, rfl, rfl, rfl⟩
  case round =>
    obtain ⟨k, hk, rfl, rfl, rfl⟩ := hrel
    by_cases hlt : k < s.size
    · have hd := val_take s k hlt x
      obtain ⟨v, hv⟩ : ∃ v, v = val (s.data.toList.take k) x := ⟨_, rfl⟩
      obtain ⟨v', hv'⟩ : ∃ v', v' = val (s.data.toList.take (k + 1)) x := ⟨_, rfl⟩
      obtain ⟨p, hp⟩ : ∃ p, p = pow x k := ⟨_, rfl⟩
      have hpn : pow x (k + 1) = mul p x := by rw [hp]; rfl
      rw [← hv, ← hv', ← hp] at hd
      rw [← hv, ← hp]
      have e1 := u_xor v (mul s[k] p)
      rw [← hd] at e1
      have HV := Lib.hid (And.intro hv' hpn)
      clear hv hv' hd hp hpn
      go_wp2_with (go_at_call 40; refine (rmul_any _ _ _).mono ?_; rintro e w' ⟨rfl, rfl⟩)
      go_round
      case rel => exact ⟨k + 1, by omega, by go_num, by rw [HV.out.1], by rw [HV.out.2]⟩
      case measure => simp [intOf]; omega
    · obtain rfl : k = s.size := by omega
      have hall : val (s.data.toList.take s.size) x = R := by rw [HR.out, List.take_of_length_le (by simp)]; rfl
      have HA := Lib.hid hall
      clear hall
      go_wp2_with fail
      go_ret
      exact ⟨by rw [← HA.out]; rfl, rfl⟩
/-- Byte i of a text; elsewhere 0. -/
def coI (s : ByteArray) (i : Int) : UInt8 := if i < 0 then 0 else co s.data.toList i.toNat
theorem coI_nat (s : ByteArray) (i : Nat) : coI s (i : Int) = co s.data.toList i := by unfold coI; rw [if_neg (by omega)]; rfl
end Go.Proofs.YtefpfedpgedloaaDoor
