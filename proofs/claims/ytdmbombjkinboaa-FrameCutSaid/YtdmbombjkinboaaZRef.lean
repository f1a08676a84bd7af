/- The reference lockboxref03: Step, Reg, More, Sum, Zeros. -/
import Derived.Test.YtdmbombjkinboaaZAwake
namespace Go.Proofs.Ytdmbombjkinboaa
open Go.RowKit
attribute [local go_sem] V_xor V_and V_or V_not V_not' V_and1 V_xorT V_div2 V_div16 V_and15

theorem low_of (r : BitVec 32) : ((r &&& 1#32) = 0#32 ∧ V r % 2 = 0) ∨ ((r &&& 1#32) = 1#32 ∧ V r % 2 = 1) := by
  have h : (r &&& 1#32).toNat = r.toNat % 2 := by
    rw [BitVec.toNat_and, show (1#32).toNat = 2 ^ 1 - 1 from rfl, Nat.and_two_pow_sub_one_eq_mod]
  unfold V
  rcases Nat.mod_two_eq_zero_or_one r.toNat with e | e
  · exact .inl ⟨BitVec.eq_of_toNat_eq (by rw [h, e]; rfl), by omega⟩
  · exact .inr ⟨BitVec.eq_of_toNat_eq (by rw [h, e]; rfl), by omega⟩
theorem par_of (b : Int) : ((BitVec.ofInt 32 b &&& 1#32) = 0#32 ∧ b % 2 = 0) ∨ ((BitVec.ofInt 32 b &&& 1#32) = 1#32 ∧ b % 2 = 1) := by
  have h : V (BitVec.ofInt 32 b) % 2 = b % 2 := by rw [← V_of_int]; omega
  rcases low_of (BitVec.ofInt 32 b) with ⟨h1, h2⟩ | ⟨h1, h2⟩
  · exact .inl ⟨h1, by omega⟩
  · exact .inr ⟨h1, by omega⟩
theorem tmod_even (b : Int) (h : b % 2 = 0) : b.tmod 2 = 0 := by
  rw [Int.tmod_eq_emod]; split <;> omega
theorem tmod_odd (b : Int) (h : b % 2 = 1) : (b.tmod 2 != 0) = true := by
  have : b.tmod 2 ≠ 0 := by rw [Int.tmod_eq_emod]; split <;> omega
  simpa using this

set_option maxHeartbeats 400000 in
theorem rstep_any (r : BitVec 32) (b : Int) (w : World) :
    Calls Try.prog 37 #[.int .u32 (V r), .int .i64 b] w fun e w' => e = .returned (.int .u32 (V (Zc.step r (BitVec.ofInt 32 b)))) ∧ w = w' := by
  have hp0 := V_nonneg r
  have hp1 := V_lt r
  rcases par_of b with ⟨hc, hb⟩ | ⟨hc, hb⟩
  · have ht := tmod_even b hb
    clear hb
    rcases low_of r with ⟨hr, hm⟩ | ⟨hr, hm⟩
    · have he := step_eq r _ (hr.trans hc.symm)
      have HE := Lib.hid he
      clear he hr hc
      go_enter Try.func37, Try.ntmps37
      go_wp2
      go_ret
      exact ⟨by rw [← HE.out]; rfl, rfl⟩
    · have he := step_ne r (BitVec.ofInt 32 b) (by rw [hr, hc]; decide)
      have HE := Lib.hid he
      clear he hr hc
      go_enter Try.func37, Try.ntmps37
      go_wp2
      go_ret
      exact ⟨by rw [← HE.out]; rfl, rfl⟩
  · have ht := tmod_odd b hb
    clear hb
    rcases low_of r with ⟨hr, hm⟩ | ⟨hr, hm⟩
    · have he := step_ne r (BitVec.ofInt 32 b) (by rw [hr, hc]; decide)
      have HE := Lib.hid he
      clear he hr hc
      go_enter Try.func37, Try.ntmps37
      go_wp2
      go_ret
      exact ⟨by rw [← HE.out]; rfl, rfl⟩
    · have he := step_eq r _ (hr.trans hc.symm)
      have HE := Lib.hid he
      clear he hr hc
      go_enter Try.func37, Try.ntmps37
      go_wp2
      go_ret
      exact ⟨by rw [← HE.out]; rfl, rfl⟩

/-- A bit of a byte. -/
theorem bit_step (q : BitVec 32) (x n : Nat) (hx : x < 256) :
    Zc.step q (BitVec.ofInt 32 ((x / 2 ^ n : Nat) : Int)) = Zc.step q (BitVec.ofNat 32 x >>> n) := by
  congr 1
  rw [BitVec.ofInt_natCast]
  apply BitVec.eq_of_toNat_eq
  rw [BitVec.toNat_ofNat, BitVec.toNat_ushiftRight, BitVec.toNat_ofNat, Nat.shiftRight_eq_div_pow, Nat.mod_eq_of_lt (by omega : x < 2 ^ 32), Nat.mod_eq_of_lt]
  exact Nat.lt_of_le_of_lt (Nat.div_le_self _ _) (by omega)
theorem step_mod (q : BitVec 32) (m : Nat) : Zc.step q (BitVec.ofInt 32 ((m : Int) % 2)) = Zc.step q (BitVec.ofInt 32 (m : Int)) := by
  unfold Zc.step
  congr 2
  rcases par_of (m : Int) with ⟨h1, h2⟩ | ⟨h1, h2⟩
  · rw [h1, h2]; decide
  · rw [h1, h2]; decide

set_option maxRecDepth 100000 in
set_option maxHeartbeats 400000 in
theorem rreg_any (r : BitVec 32) (s : ByteArray) (hs : s.size ≤ maxLen) (w : World) :
    Calls Try.prog 34 #[.int .u32 (V r), .string s] w fun e w' => e = .returned (.int .u32 (V (Zc.reg r s.data.toList))) ∧ w = w' := by
  unfold maxLen at hs
  go_enter Try.func34, Try.ntmps34
  go_wp2
  go_loop [0, 5, 6, 7] (fun a i _ _ => ∃ k : Nat, k ≤ s.size ∧ i = .int .i64 k ∧ a = .int .u32 (V (Zc.reg r (s.data.toList.take k)))) (fun _ i _ _ => s.size - (intOf i).toNat)
  case atStart => exact ⟨0, Nat.zero_le _, rfl, rfl⟩
  case round =>
    obtain ⟨k, hk, rfl, rfl⟩ := hrel
    obtain ⟨q, hq⟩ : ∃ q, q = Zc.reg r (s.data.toList.take k) := ⟨_, rfl⟩
    rw [← hq]
    by_cases hlt : k < s.size
    · have hn : Zc.reg r (s.data.toList.take (k + 1)) = Zc.byte q s[k] := by rw [take_snoc s k hlt, Zc.reg_snoc, hq]
      obtain ⟨b, hb⟩ : ∃ b, b = s[k] := ⟨_, rfl⟩
      rw [← hb] at hn
      have HN := Lib.hid (And.intro hn hb)
      clear hn hq hb
      have hx : (s[k].toNat : Int) < 256 := by have := s[k].toNat_lt; omega
      go_wp2
      clear hx
      rw [← HN.out.2]
      go_loop [0, 6, 7] (fun a c j => ∃ n : Nat, n ≤ 8 ∧ j = .int .i64 n ∧ c = .int .i64 ((b.toNat / 2 ^ n : Nat) : Int) ∧ a = .int .u32 (V (Zc.bits q (w8 b) n))) (fun _ _ j => 8 - (intOf j).toNat)
      case atStart => exact ⟨0, by omega, rfl, by simp, rfl⟩
      case round =>
        obtain ⟨n, hn, rfl, rfl, rfl⟩ := hrel
        obtain ⟨x, hx⟩ : ∃ x, x = b.toNat / 2 ^ n := ⟨_, rfl⟩
        have hxl : (x : Int) < 256 := by
          have := b.toNat_lt
          have := Nat.div_le_self b.toNat (2 ^ n)
          omega
        have hst : Zc.step (Zc.bits q (w8 b) n) (BitVec.ofInt 32 ((x : Int) % 2)) = Zc.bits q (w8 b) (n + 1) := by
          rw [step_mod, hx, bit_step _ _ _ (by have := b.toNat_lt; omega)]; rfl
        have hdv : (x : Int) / 2 = ((b.toNat / 2 ^ (n + 1) : Nat) : Int) := by
          rw [hx, Nat.pow_succ, ← Nat.div_div_eq_div_mul]; rfl
        rw [← hx]
        have HS := Lib.hid (And.intro hst hdv)
        clear hst hdv hx
        by_cases h8 : n < 8
        · go_wp2_with (go_at_call 37; refine (rstep_any _ _ _).mono ?_; rintro e w' ⟨rfl, rfl⟩)
          go_round
          case rel => exact ⟨n + 1, by omega, by go_num, by rw [HS.out.2], by rw [HS.out.1]⟩
          case measure => simp [intOf]; omega
        · obtain rfl : n = 8 := by omega
          go_wp2
          go_round
          case rel => exact ⟨k + 1, by omega, by go_num, by rw [HN.out.1, Zc.byte_bits]⟩
          case measure => simp [intOf]; omega
    · obtain rfl : k = s.size := by omega
      have HQ := Lib.hid hq
      clear hq
      go_wp2
      go_ret
      exact ⟨by rw [HQ.out, List.take_of_length_le (by simp)]; rfl, rfl⟩
theorem V_compl (x : BitVec 32) : 4294967295 - V x = V (~~~x) := by
  unfold V; rw [BitVec.toNat_not]; have := x.isLt; omega
theorem rmore_any (r : BitVec 32) (s : ByteArray) (hs : s.size ≤ maxLen) (w : World) :
    Calls Try.prog 29 #[.int .u32 (V r), .string s] w fun e w' => e = .returned (.int .u32 (V (Zc.more r s.data.toList))) ∧ w = w' := by
  have hp0 := V_nonneg r
  have hp1 := V_lt r
  have hc := V_compl r
  obtain ⟨m, hm⟩ : ∃ m, m = Zc.reg (~~~r) s.data.toList := ⟨_, rfl⟩
  have hq0 := V_nonneg m
  have hq1 := V_lt m
  have hd := V_compl m
  have hmo : Zc.more r s.data.toList = ~~~m := by rw [hm]; rfl
  rw [hmo]
  have HR := Lib.hid (And.intro hc (And.intro hd hm))
  clear hc hd hm hmo
  go_enter Try.func29, Try.ntmps29
  go_wp2_with fail
  rw [HR.out.1]
  refine (rreg_any (~~~r) s hs _).mono ?_
  rintro e w' ⟨rfl, rfl⟩
  rw [← HR.out.2.2]
  go_wp2_with fail
  go_ret
  exact ⟨by rw [← HR.out.2.1]; rfl, rfl⟩
theorem rsum_any (s : ByteArray) (hs : s.size ≤ maxLen) (w : World) :
    Calls Try.prog 21 #[.string s] w fun e w' => e = .returned (.int .u32 (V (Zc.sum s.data.toList))) ∧ w = w' := by
  go_enter Try.func21, Try.ntmps21
  go_wp2_with fail
  refine (rmore_any 0#32 s hs _).mono ?_
  rintro e w1 ⟨rfl, rfl⟩
  go_wp2_with fail
  go_ret
  exact ⟨rfl, rfl⟩
theorem rzero_one (r : BitVec 32) (w : World) :
    Calls Try.prog 29 #[.int .u32 (V r), .string ⟨#[0]⟩] w fun e w' => e = .returned (.int .u32 (V (Zc.zeros r 1))) ∧ w = w' := by
  rw [Zc.zeros_more]; exact rmore_any r ⟨#[0]⟩ (by decide) w
end Go.Proofs.Ytdmbombjkinboaa
