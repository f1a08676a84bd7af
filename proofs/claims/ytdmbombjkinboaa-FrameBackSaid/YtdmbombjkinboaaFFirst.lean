/- frame.first: where the frame at the front ends. -/
import Derived.Test.YtdmbombjkinboaaFWrap
import Derived.Deep.QuietTactic
import Derived.BigQuiet
import Derived.IntWalk
import Derived.Deep.RegionWith
namespace Go.Proofs.Ytdmbombjkinboaa
open Go.RowKit
open Fr
open IntWalk (wrap64_in i64_left)

theorem or_i64 (a b : Nat) (ha : a < 4294967296) (hb : b < 4294967296) : bits .or .i64 (a : Int) (b : Int) = ((a ||| b : Nat) : Int) := by
  have hx : a ||| b < 2 ^ 32 := Nat.or_lt_two_pow (by omega) (by omega)
  show IntKind.i64.wrap ((BitVec.ofInt 64 (a : Int) ||| BitVec.ofInt 64 (b : Int)).toNat : Int) = _
  rw [BitVec.toNat_or, BitVec.ofInt_natCast, BitVec.ofInt_natCast, BitVec.toNat_ofNat, BitVec.toNat_ofNat, Nat.mod_eq_of_lt (by omega), Nat.mod_eq_of_lt (by omega)]
  rw [i64_left]
  exact wrap64_in _ (by omega)
theorem or24 (a b c : UInt8) : bits .or .i64 (bits .or .i64 (wrap64 (wrap64 (a.toNat : Int) * 65536)) (wrap64 (wrap64 (b.toNat : Int) * 256))) (wrap64 (c.toNat : Int)) = ((a.toNat * 65536 + b.toNat * 256 + c.toNat : Nat) : Int) := by
  have h1 := a.toNat_lt
  have h2 := b.toNat_lt
  have h3 := c.toNat_lt
  rw [wrap64_in (a.toNat : Int) (by omega), wrap64_in (b.toNat : Int) (by omega), wrap64_in (c.toNat : Int) (by omega), wrap64_in _ (by omega), wrap64_in _ (by omega)]
  have e1 : (a.toNat : Int) * (65536 : Int) = ((a.toNat <<< 16 : Nat) : Int) := by rw [Nat.shiftLeft_eq]; omega
  have e2 : (b.toNat : Int) * (256 : Int) = ((b.toNat * 256 : Nat) : Int) := by omega
  rw [e1, e2, or_i64 _ _ (by rw [Nat.shiftLeft_eq]; omega) (by omega), ← Nat.shiftLeft_add_eq_or_of_lt (by omega)]
  have e3 : a.toNat <<< 16 + b.toNat * 256 = (a.toNat * 256 + b.toNat) <<< 8 := by rw [Nat.shiftLeft_eq, Nat.shiftLeft_eq]; omega
  rw [e3, or_i64 _ _ (by rw [Nat.shiftLeft_eq]; omega) (by omega), ← Nat.shiftLeft_add_eq_or_of_lt (by omega), Nat.shiftLeft_eq]
  have e4 : (2 : Nat) ^ 8 = 256 := rfl
  rw [e4]
  have e5 : (a.toNat * 256 + b.toNat) * 256 + c.toNat = a.toNat * 65536 + b.toNat * 256 + c.toNat := by omega
  rw [e5]
theorem below_dN (w : World) (n : Nat) : Below w.heap.size w (w.drewN n) := ⟨rfl, rfl, rfl, Nat.le_refl _, fun _ _ => rfl⟩
theorem getD_at (s : ByteArray) (i : Nat) (h : i < s.size) : s.data.toList.getD i 0 = s[i] := by
  rw [List.getD_eq_getElem?_getD, List.getElem?_eq_getElem (by simpa using h)]; rfl
set_option maxHeartbeats 1000000 in
theorem first_any (s : ByteArray) (hs : s.size ≤ 200000) (w : World) :
    Calls Try.prog 22 #[.string s] w fun e w' => e = .returned (.tuple #[.int .i64 ((fst s.data.toList).1 : Int), .int .i64 ((fst s.data.toList).2 : Int)]) ∧ Below w.heap.size w w' := by
  by_cases h0 : s.toList.isEmpty = true
  · have e : fst s.data.toList = (0, 4) := by
      have := size_empty h0
      have : s.data.toList = [] := List.length_eq_zero_iff.1 (by simpa using this)
      rw [this]; rfl
    rw [e]
    clear e
    go_enter Try.func22, Try.ntmps22
    go_wp2_with fail
    go_ret2
    exact ⟨rfl, Below.refl _ _⟩
  have hf := size_full h0
  have h0' : s.toList.isEmpty = false := by simpa using h0
  have hne : s.data.toList ≠ [] := fun e => hf (by have := congrArg List.length e; simpa using this)
  have hpos : 0 < s.size := by omega
  obtain ⟨b0, hb0⟩ : ∃ b0, s[0] = b0 := ⟨_, rfl⟩
  have hd0 : s.data.toList.getD 0 0 = b0 := (getD_at s 0 hpos).trans hb0
  by_cases h1 : ((b0.toNat : Int) != 229) = true
  · have e : fst s.data.toList = (0, 3) := by
      unfold fst
      rw [if_neg hne, hd0, if_pos (fun e => by subst e; revert h1; decide)]
    rw [e]
    clear e hd0 hne hf h0
    go_enter Try.func22, Try.ntmps22
    go_wp2_with fail
    go_ret2
    exact ⟨rfl, Below.refl _ _⟩
  have h1' : ((b0.toNat : Int) != 229) = false := by simpa using h1
  have hb229 : b0 = 229 := by
    have : (b0.toNat : Int) = 229 := by simpa using h1
    exact UInt8.toNat_inj.1 (by show b0.toNat = 229; omega)
  by_cases h2 : (s.size : Int) < 4
  · have e : fst s.data.toList = (0, 7) := by
      unfold fst
      rw [if_neg hne, hd0, if_neg (by simpa using hb229), if_pos (by simp; omega)]
    rw [e]
    clear e hd0 hne hf h0 hb229 h1
    go_enter Try.func22, Try.ntmps22
    go_wp2_with fail
    go_ret2
    exact ⟨rfl, Below.refl _ _⟩
  have p1 : 1 < s.size := by omega
  have p2 : 2 < s.size := by omega
  have p3 : 3 < s.size := by omega
  obtain ⟨b1, hb1⟩ : ∃ b, s[1] = b := ⟨_, rfl⟩
  obtain ⟨b2, hb2⟩ : ∃ b, s[2] = b := ⟨_, rfl⟩
  obtain ⟨b3, hb3⟩ : ∃ b, s[3] = b := ⟨_, rfl⟩
  obtain ⟨n, hn⟩ : ∃ n, n = long s.data.toList := ⟨_, rfl⟩
  have hln : long s.data.toList = b1.toNat * 65536 + b2.toNat * 256 + b3.toNat := by
    unfold long; rw [getD_at s 1 p1, getD_at s 2 p2, getD_at s 3 p3, hb1, hb2, hb3]
  have hor := or24 b1 b2 b3
  rw [← hln, ← hn] at hor
  have hnlt : n < 16777216 := by have := b1.toNat_lt; have := b2.toNat_lt; have := b3.toNat_lt; omega
  have hfs : fst s.data.toList = if n = 0 ∨ 32768 < n then (0, 3) else if s.size < 8 + n then (0, 7) else if (s.data.toList.drop 4).take 4 ≠ sum4 ((s.data.toList.drop 1).take 3) ((s.data.toList.drop 8).take n) then (0, 8) else (8 + n, 0) := by
    unfold fst
    rw [if_neg hne, hd0, if_neg (by simpa using hb229), if_neg (by simp; omega), ← hn]
    simp
  clear hln hn
  have HF := Lib.hid hfs
  clear hfs hd0 hne hf h0 hb229 h1
  by_cases h3 : (n : Int) = 0
  · have h3' : ((n : Int) == 0) = true := by simpa using h3
    have e : fst s.data.toList = (0, 3) := by rw [HF.out, if_pos (by omega)]
    rw [e]
    clear e HF
    go_enter Try.func22, Try.ntmps22
    go_wp2_with fail
    go_quiet (fail)
    go_wp2_with fail
    go_ret2
    exact ⟨by kernel_rfl, below_dN _ _⟩
  have h3' : ((n : Int) == 0) = false := by simpa using h3
  by_cases h4 : (32768 : Int) < n
  · have h4' : decide ((32768 : Int) < n) = true := decide_eq_true h4
    have e : fst s.data.toList = (0, 3) := by rw [HF.out, if_pos (by omega)]
    rw [e]
    clear e HF
    go_enter Try.func22, Try.ntmps22
    go_wp2_with fail
    go_quiet (fail)
    go_wp2_with fail
    go_ret2
    exact ⟨by kernel_rfl, below_dN _ _⟩
  have h4' : decide ((32768 : Int) < n) = false := decide_eq_false h4
  by_cases h5 : (s.size : Int) < 8 + n
  · have h5' : decide ((s.size : Int) < 8 + n) = true := decide_eq_true h5
    have e : fst s.data.toList = (0, 7) := by rw [HF.out, if_neg (by omega), if_pos (by omega)]
    rw [e]
    clear e HF
    go_enter Try.func22, Try.ntmps22
    go_wp2_with fail
    go_quiet (fail)
    go_wp2_with fail
    go_ret2
    exact ⟨by kernel_rfl, below_dN _ _⟩
  have h5' : decide ((s.size : Int) < 8 + n) = false := decide_eq_false h5
  have k8 : (8 : Int) ≤ s.size := by omega
  have k8n : (8 : Int) + n ≤ s.size := by omega
  have k0n : (8 : Int) ≤ 8 + n := by omega
  obtain ⟨A, hA⟩ : ∃ A, s.extract 1 4 = A := ⟨_, rfl⟩
  obtain ⟨B, hB⟩ : ∃ B, s.extract 8 ((8 : Int) + (n : Int)).toNat = B := ⟨_, rfl⟩
  have tn : ((8 : Int) + (n : Int)).toNat = 8 + n := by omega
  obtain ⟨C, hC⟩ : ∃ C, s.extract 4 8 = C := ⟨_, rfl⟩
  have dA : A.data.toList = (s.data.toList.drop 1).take 3 := by rw [← hA]; simp
  have dB : B.data.toList = (s.data.toList.drop 8).take n := by rw [← hB, tn]; simp
  have dC : C.data.toList = (s.data.toList.drop 4).take 4 := by rw [← hC]; simp
  have sA : A.size ≤ 100000 := by rw [← hA, ByteArray.size_extract]; omega
  have sB : B.size ≤ 100000 := by rw [← hB, tn, ByteArray.size_extract]; omega
  obtain ⟨S, hS⟩ : ∃ S, S = str (sum4 A.data.toList B.data.toList) := ⟨_, rfl⟩
  have HX := Lib.hid (fun W => fsum_any A B sA sB W)
  rw [← hS] at HX
  have hfs : fst s.data.toList = if C.data.toList ≠ sum4 A.data.toList B.data.toList then (0, 8) else (8 + n, 0) := by
    rw [HF.out, if_neg (by omega), if_neg (by omega), dA, dB, dC]
  clear HF dA dB dC sA sB tn
  have hcs : (C.toList == S.toList) = decide (C.data.toList = sum4 A.data.toList B.data.toList) := by
    rw [hS, toList_data, toList_data, str_data]
    by_cases h : C.data.toList = sum4 A.data.toList B.data.toList <;> simp [h]
  clear hS
  by_cases hq : C.data.toList = sum4 A.data.toList B.data.toList
  · rw [if_neg (by simpa using hq)] at hfs
    rw [decide_eq_true hq] at hcs
    rw [hfs]
    clear hfs hq
    go_enter Try.func22, Try.ntmps22
    go_wp2_with fail
    go_quiet (fail)
    go_wp2_with fail
    go_region_with (go_at_call 20; refine (HX.out _).mono ?_; rintro e w4 ⟨rfl, hb4⟩; have HB4 := Lib.hid hb4; clear hb4)
    all_goals go_wp2_with fail
    all_goals go_ret2
    all_goals exact ⟨rfl, (below_dN w _).trans (HB4.out.mono (Nat.le_refl _))⟩
  · rw [if_pos (by simpa using hq)] at hfs
    rw [decide_eq_false hq] at hcs
    rw [hfs]
    clear hfs hq
    go_enter Try.func22, Try.ntmps22
    go_wp2_with fail
    go_quiet (fail)
    go_wp2_with fail
    go_region_with (go_at_call 20; refine (HX.out _).mono ?_; rintro e w4 ⟨rfl, hb4⟩; have HB4 := Lib.hid hb4; clear hb4)
    all_goals go_wp2_with fail
    all_goals go_ret2
    all_goals exact ⟨rfl, (below_dN w _).trans (HB4.out.mono (Nat.le_refl _))⟩
end Go.Proofs.Ytdmbombjkinboaa
