/- crc.Step, crc.zeroBits. -/
import Derived.Test.YtdmbombjkinboaaProg
import Derived.Test.YtdmbombjkinboaaZMath
import Derived.LoopTactic
import Derived.Lib.Hide
import Derived.Deep.DeepMust
namespace Go.Proofs.Ytdmbombjkinboaa
open Go.RowKit

theorem V_and1 (x : BitVec 32) : bits .and .u32 (V x) 1 = V (x &&& 1#32) := V_and x 1#32
theorem V_xorT (x : BitVec 32) : bits .xor .u32 (V x) 3988292384 = V (x ^^^ Zc.T) := V_xor x Zc.T
theorem V_div2 (x : BitVec 32) : V x / (2 : Int) = V (x >>> 1) := V_shr x 1
theorem V_div16 (x : BitVec 32) : V x / (16 : Int) = V (x >>> 4) := V_shr x 4
theorem V_and15 (x : BitVec 32) : bits .and .u32 (V x) 15 = V (x &&& 15#32) := V_and x 15#32
theorem V_andH (x : BitVec 32) : bits .and .u32 (V x) 2147483648 = V (x &&& Zc.H) := V_and x Zc.H
attribute [local go_sem] V_xor V_and V_or V_not V_not' V_and1 V_xorT V_div2 V_div16 V_and15

theorem step_ne (r b : BitVec 32) (h : (r &&& 1#32) ≠ (b &&& 1#32)) : r >>> 1 ^^^ Zc.T = Zc.step r b := by
  unfold Zc.step Zc.S
  have h1 : (r ^^^ b &&& 1#32).getLsbD 0 = true := by
    cases e : (r ^^^ b &&& 1#32).getLsbD 0 with
    | true => rfl
    | false =>
      exfalso; apply h
      apply BitVec.eq_of_getLsbD_eq
      intro i hi
      cases i with
      | zero => simp at e ⊢; cases hr : r.getLsbD 0 <;> cases hb : b.getLsbD 0 <;> simp_all
      | succ i => simp
  rw [h1, cond_true]
  congr 1
  apply BitVec.eq_of_getLsbD_eq
  intro i hi
  simp [BitVec.getLsbD_ushiftRight]
theorem step_eq (r b : BitVec 32) (h : (r &&& 1#32) = (b &&& 1#32)) : r >>> 1 = Zc.step r b := by
  unfold Zc.step Zc.S
  have h1 : (r ^^^ b &&& 1#32).getLsbD 0 = false := by
    have h := congrArg (fun x => x.getLsbD 0) h
    simp at h ⊢
    rw [h]
  rw [h1, cond_false, BitVec.xor_zero]
  apply BitVec.eq_of_getLsbD_eq
  intro i hi
  simp [BitVec.getLsbD_ushiftRight]
theorem V_of_int (b : Int) : b % 4294967296 = V (BitVec.ofInt 32 b) := by
  unfold V
  rw [BitVec.toNat_ofInt]
  omega
theorem V_ne {x y : BitVec 32} (h : x ≠ y) : (V x != V y) = true ∧ (V x == V y) = false := by
  have : V x ≠ V y := fun e => h (V_inj e)
  simp [this]
theorem V_eq {x y : BitVec 32} (h : x = y) : (V x != V y) = false ∧ (V x == V y) = true := by simp [h]

set_option maxHeartbeats 400000 in
theorem step_any (r : BitVec 32) (b : Int) (w : World) :
    Calls Try.prog 36 #[.int .u32 (V r), .int .i64 b] w fun e w' => e = .returned (.int .u32 (V (Zc.step r (BitVec.ofInt 32 b)))) ∧ w = w' := by
  obtain ⟨c, hc⟩ : ∃ c, c = BitVec.ofInt 32 b := ⟨_, rfl⟩
  have hw : IntKind.u32.wrap b = V c := by rw [IntKind.wrap_u32', V_of_int, hc]
  have hm : b % 4294967296 = V c := by rw [V_of_int, hc]
  rw [← hc]
  clear hc
  by_cases h : (r &&& 1#32) = (c &&& 1#32)
  · have hr := step_eq r c h
    obtain ⟨h1, h2⟩ := V_eq h
    clear h
    have HR := Lib.hid hr
    clear hr
    go_enter Try.func36, Try.ntmps36
    go_wp2
    go_ret
    exact ⟨by rw [HR.out]; rfl, rfl⟩
  · have hr := step_ne r c h
    obtain ⟨h1, h2⟩ := V_ne h
    clear h
    have HR := Lib.hid hr
    clear hr
    go_enter Try.func36, Try.ntmps36
    go_wp2
    go_ret
    exact ⟨by rw [HR.out]; rfl, rfl⟩
theorem step_zero (r : BitVec 32) : Zc.step r (BitVec.ofInt 32 0) = Zc.S r := by
  unfold Zc.step; rw [show BitVec.ofInt 32 0 &&& 1#32 = 0#32 from by decide, BitVec.xor_zero]
theorem step0_any (r : BitVec 32) (w : World) :
    Calls Try.prog 36 #[.int .u32 (V r), .int .i64 0] w fun e w' => e = .returned (.int .u32 (V (Zc.S r))) ∧ w = w' := by
  rw [← step_zero r]; exact step_any r 0 w

set_option maxHeartbeats 400000 in
theorem zeroBits_any (r : BitVec 32) (n : Nat) (hn : n ≤ 9223372036854775807) (w : World) :
    Calls Try.prog 33 #[.int .u32 (V r), .int .i64 n] w fun e w' => e = .returned (.int .u32 (V (Zc.Sn n r))) ∧ w = w' := by
  go_enter Try.func33, Try.ntmps33
  go_wp2
  go_loop [0, 6] (fun a i => ∃ k : Nat, k ≤ n ∧ i = .int .i64 k ∧ a = .int .u32 (V (Zc.Sn k r))) (fun _ i => n - (intOf i).toNat)
  case atStart => exact ⟨0, Nat.zero_le _, rfl, rfl⟩
  case round =>
    obtain ⟨k, hk, rfl, rfl⟩ := hrel
    obtain ⟨q, hq⟩ : ∃ q, q = Zc.Sn k r := ⟨_, rfl⟩
    rw [← hq]
    have HQ := Lib.hid hq
    clear hq
    by_cases hlt : k < n
    · go_wp2_with (go_at_call 36; refine (step0_any _ _).mono ?_; rintro e w' ⟨rfl, rfl⟩)
      go_round
      case rel => exact ⟨k + 1, by omega, by go_num, by rw [HQ.out]; rfl⟩
      case measure => simp [intOf]; omega
    · have hkn : k = n := by omega
      have HK := Lib.hid hkn
      clear hkn
      go_wp2
      go_ret
      exact ⟨by rw [HQ.out, HK.out]; rfl, rfl⟩
end Go.Proofs.Ytdmbombjkinboaa
