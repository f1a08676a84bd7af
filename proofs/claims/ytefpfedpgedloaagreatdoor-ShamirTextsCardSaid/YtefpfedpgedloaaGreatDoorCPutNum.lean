/- putNum: a number's bytes go into the builder. -/
import Derived.Test.YtefpfedpgedloaaGreatDoorCBuild
namespace Go.Proofs.YtefpfedpgedloaaGreatDoor
open Go.RowKit
open Cn

/-- What putNum's loop has laid. -/
def Laying (B b : Nat) (l : List UInt8) (n : Nat) (w wr : World) (m : Nat) : Prop := ∃ X, BuNext B b (l ++ UInt8.ofNat (width n) :: X) w wr ∧ X ++ be m n = be (width n) n ∧ X.length ≤ 8

theorem bitsLen_any (n : Nat) (hn : n < 2 ^ 63) (w : World) : Calls Tryz.prog 75 #[.int .u64 n] w fun e w' => e = .returned (.int .i64 (Lib.bitLen n)) ∧ w = w' := by
  refine (Tryz.bits_Len n w (by omega) (by omega)).mono ?_
  rintro e w' ⟨he, hw⟩
  exact ⟨he, hw.symm⟩
theorem Laying.next {B b : Nat} {l : List UInt8} {n : Nat} {w wr w' : World} {m : Nat} (h0 : 0 < m) (X : List UInt8) (h2 : X ++ be m n = be (width n) n)
    (h1 : BuNext B b (l ++ UInt8.ofNat (width n) :: X) w wr) (h : BuNext B b ((l ++ UInt8.ofNat (width n) :: X) ++ [UInt8.ofNat (n / 256 ^ (m - 1))]) wr w') (hw : width n ≤ 8) : Laying B b l n w w' (m - 1) := by
  have e : X ++ [UInt8.ofNat (n / 256 ^ (m - 1))] ++ be (m - 1) n = be (width n) n := by
    rw [← h2, show be m n = be (m - 1 + 1) n by rw [Nat.sub_add_cancel h0], be]
    simp
  refine ⟨X ++ [UInt8.ofNat (n / 256 ^ (m - 1))], ?_, e, ?_⟩
  · have := h1.trans h
    simpa using this
  · have := congrArg List.length e
    rw [List.length_append, be_length, be_length] at this
    omega
theorem byte_at (n m : Nat) : (n : Int) / 2 ^ (8 * (m - 1)) % 256 = ((UInt8.ofNat (n / 256 ^ (m - 1))).toNat : Int) := by
  rw [UInt8.toNat_ofNat', show (256 : Nat) ^ (m - 1) = 2 ^ (8 * (m - 1)) by rw [Nat.pow_mul]]
  rw [show (2 : Int) ^ (8 * (m - 1)) = ((2 ^ (8 * (m - 1)) : Nat) : Int) by rw [Int.natCast_pow]; rfl]
  generalize 2 ^ (8 * (m - 1)) = P
  rfl

set_option maxRecDepth 100000 in
set_option maxHeartbeats 400000 in
theorem putNum_any (B b : Nat) (l : List UInt8) (n : Nat) (w : World) (h : Bu B b l w) (hlen : l.length < 150000) (hn : n < 2 ^ 63) (hBw : B ≤ w.heap.size) :
    Calls Tryz.prog 66 #[.pointer (some ⟨b, 0, none⟩), .int .i64 n] w fun e w' => e = .returned (.tuple #[]) ∧ BuNext B b (l ++ num n) w w' := by
  have hn1 : (n : Int) ≤ 9223372036854775807 := by omega
  have hn0 : (0 : Int) ≤ (n : Int) := by omega
  have hw8 : width n ≤ 8 := width_le (k := 8) (Nat.lt_of_lt_of_le hn (by decide)) (by decide)
  have hbl : (Lib.bitLen n : Int) ≤ 64 := by unfold width at hw8; omega
  obtain ⟨bl, hbleq⟩ : ∃ x, x = Lib.bitLen n := ⟨_, rfl⟩
  rw [← hbleq] at hbl
  obtain ⟨k, hk⟩ : ∃ k, k = width n := ⟨_, rfl⟩
  have hkb : ((bl : Int) + 7) / 8 = (k : Int) := by rw [hk, hbleq]; unfold width; omega
  rw [← hk] at hw8
  have HK := Lib.hid (And.intro hbleq (And.intro hk hn))
  clear hbleq hk hn
  go_enter Tryz.func66, Tryz.ntmps66
  go_wp2_with fail
  refine (bitsLen_any n HK.out.2.2 _).mono ?_
  rintro e w' ⟨rfl, rfl⟩
  rw [← HK.out.1]
  go_wp2_with fail
  refine (writeByte_any B b l _ (UInt8.ofNat (width n)) (by rw [UInt8.toNat_ofNat', ← HK.out.2.1]; omega) _ h (by omega) hBw).mono ?_
  rintro e w1 ⟨rfl, hb1⟩
  have H1 : Hid (Laying B b l n w w1 k) := ⟨[], hb1, by rw [HK.out.2.1]; rfl, by simp⟩
  have HKB := Lib.hid hkb
  clear hb1 hkb
  go_wp2_with fail
  go_loopw [5] (fun c wr => ∃ m : Nat, m ≤ k ∧ c = .int .i64 ((m : Int) - 1) ∧ Laying B b l n w wr m) (fun c _ => (intOf c + 1).toNat)
  case atStart => exact ⟨k, by omega, congrArg (fun x => Value.int .i64 (x - 1)) HKB.out, H1.out⟩
  case round =>
    obtain ⟨m, hm, rfl, hL⟩ := hrel
    have HL := Lib.hid hL
    clear hL
    by_cases h0 : 0 < m
    · have h0i : 0 ≤ (m : Int) - 1 := by omega
      go_wp2_with fail
      obtain ⟨X, hX1, hX2, hX3⟩ := HL.out
      have HX := Lib.hid (And.intro hX1 hX2)
      clear hX1 hX2
      refine (writeByte_any B b _ _ _ (byte_at n m) _ HX.out.1.1 (by simp; omega) (Nat.le_trans hBw HX.out.1.size)).mono ?_
      rintro e w2 ⟨rfl, hb2⟩
      have H2 := Lib.hid (Laying.next h0 X HX.out.2 HX.out.1 hb2 (by rw [← HK.out.2.1]; exact hw8))
      clear hb2
      go_wp2_with fail
      go_roundw
      case rel => exact ⟨m - 1, by omega, by congr 1; omega, H2.out⟩
      case measure => simp [intOf]; omega
    · obtain rfl : m = 0 := by omega
      go_wp2_with fail
      go_end0
      obtain ⟨X, h1, h2, -⟩ := HL.out
      exact ⟨rfl, by rw [num, ← h2]; simpa [be] using h1⟩
end Go.Proofs.YtefpfedpgedloaaGreatDoor
