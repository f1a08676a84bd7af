/- mac.Extract, mac.Derive, mac.Key, mac.Check. -/
import Derived.Test.YtgoimggfpagojaaDoorMExp
import Derived.Deep.QuietTactic
import Derived.BigQuiet
namespace Go.Proofs.YtgoimggfpagojaaDoor
open Go.RowKit

set_option maxRecDepth 100000 in
set_option maxHeartbeats 400000 in
theorem extract_any (salt sec : ByteArray) (hs : salt.size < 1099511627000) (ht : sec.size < 1099511625000) (w : World) (hG : Glob w) :
    Calls Tryd.prog 99 #[.string salt, .string sec] w fun e w' => e = .returned (.string (str (code salt.data.toList sec.data.toList))) ∧ Below w.heap.size w w' := by
  go_enter Tryd.func99, Tryd.ntmps99
  go_wp2_with fail
  refine (mcode1 salt sec hs ht w w hG (Below.refl _ _)).mono ?_
  rintro e w1 ⟨rfl, h1⟩
  go_wp2_with fail
  go_ret
  exact ⟨rfl, h1⟩
set_option maxRecDepth 100000 in
set_option maxHeartbeats 400000 in
theorem derive_any (sec lab : ByteArray) (hs : sec.size < 1099511625000) (hl : lab.size < 1000000) (n : Int) (w : World) (hG : Glob w) :
    Calls Tryd.prog 68 #[.string sec, .string lab, .int .i64 n] w fun e w' => e = .returned (.tuple #[.string (expS (code [] sec.data.toList) lab.data.toList n), .int .i64 (expE n)]) ∧ Below w.heap.size w w' := by
  obtain ⟨K, hK⟩ : ∃ K, K = str (code [] sec.data.toList) := ⟨_, rfl⟩
  have hKs : K.size = 32 := by rw [hK, str_size, code_length]
  have HK := Lib.hid (And.intro hK hKs)
  clear hK hKs
  go_enter Tryd.func68, Tryd.ntmps68
  go_wp2_with fail
  refine (extract_any ⟨#[]⟩ sec (by decide) hs _ hG).mono ?_
  rintro e w1 ⟨rfl, h1⟩
  rw [show str (code (ByteArray.mk #[]).data.toList sec.data.toList) = K from HK.out.1.symm]
  go_wp2_with fail
  refine (expand_any K lab (by rw [HK.out.2]; decide) hl n _ (hG.below h1)).mono ?_
  rintro e w2 ⟨rfl, h2⟩
  go_wp2_with fail
  go_ret2
  exact ⟨by rw [HK.out.1]; rfl, below_trans' h1 h2 h1.size⟩

/-- A number's eight bytes, the highest first. -/
def numB (u : Nat) : List UInt8 := (List.range 8).map fun i => UInt8.ofNat (u / 256 ^ (7 - i))
/-- The nine bytes behind a label, the last k of them laid. -/
def behind (u k : Nat) : List UInt8 := (List.range 9).map fun j => if 8 < j + k then UInt8.ofNat (u / 2 ^ (8 * (8 - j))) else 0
theorem behind_length (u k : Nat) : (behind u k).length = 9 := by simp [behind]
theorem behind_get (u k j : Nat) (hj : j < 9) : (behind u k).getD j 0 = if 8 < j + k then UInt8.ofNat (u / 2 ^ (8 * (8 - j))) else 0 := by
  simp [behind, List.getD_eq_getElem?_getD, hj]
theorem behind_all (u : Nat) : behind u 8 = 0 :: numB u := by
  have e : ∀ k, 2 ^ (8 * k) = 256 ^ k := fun k => by rw [Nat.pow_mul]
  unfold behind numB
  simp only [e]
  rfl
theorem u64_of (n : Int) : ∃ u : Nat, n % 18446744073709551616 = u ∧ u < 18446744073709551616 := ⟨(n % 18446744073709551616).toNat, by omega, by omega⟩
/-- The key of a secret. -/
def keyL (sec lab : List UInt8) (u : Nat) : List UInt8 := expand (code [] sec) (lab ++ (0 :: numB u)) 32

set_option maxRecDepth 100000 in
set_option maxHeartbeats 1000000 in
theorem key_any (sec lab : ByteArray) (hs : sec.size < 1099511625000) (hl : lab.size < 999000) (n : Int) (w : World) (hG : Glob w) :
    Calls Tryd.prog 46 #[.string sec, .string lab, .int .i64 n] w fun e w' => e = .returned (.string (str (keyL sec.data.toList lab.data.toList (n % 18446744073709551616).toNat))) ∧ Below w.heap.size w w' := by
  obtain ⟨u, hu, hul⟩ := u64_of n
  rw [hu, Int.toNat_natCast]
  have hw : IntKind.u64.wrap n = (u : Int) := by rw [IntKind.wrap_u64]; exact hu
  go_enter Tryd.func46, Tryd.ntmps46
  go_wp2_with fail
  have hR : Row8 w.heap.size (w.alloc (.cells #[.int .u8 0, .int .u8 0, .int .u8 0, .int .u8 0, .int .u8 0, .int .u8 0, .int .u8 0, .int .u8 0, .int .u8 0] 100)) w.heap.size (behind u 0) := by
    refine ⟨Nat.le_refl _, by simp, fun i hi => ⟨?_, frozen_of_row _ _ _ _ _ (heap_alloc_new _ _)⟩⟩
    rw [behind_length] at hi
    rw [cell_of_row _ _ _ _ _ _ (heap_alloc_new _ _), behind_get _ _ _ hi, if_neg (by omega)]
    match i, hi with
    | 0, _ => rfl | 1, _ => rfl | 2, _ => rfl | 3, _ => rfl | 4, _ => rfl | 5, _ => rfl | 6, _ => rfl | 7, _ => rfl | 8, _ => rfl
  have HI := Lib.hid (And.intro hR ((Below.refl w.heap.size w).alloc (Nat.le_refl _) (.cells #[.int .u8 0, .int .u8 0, .int .u8 0, .int .u8 0, .int .u8 0, .int .u8 0, .int .u8 0, .int .u8 0, .int .u8 0] 100)))
  clear hR
  go_loopw [8, 11] (fun _ i wr => ∃ k : Nat, k ≤ 8 ∧ i = .int .i64 k ∧ Row8 w.heap.size wr w.heap.size (behind u k) ∧ Below w.heap.size w wr) (fun _ i _ => 8 - (intOf i).toNat)
  case atStart => exact ⟨0, by omega, rfl, HI.out.1, HI.out.2⟩
  case round =>
    clear HI
    obtain ⟨k, hk, rfl, hR, hb⟩ := hrel
    by_cases hlt : k < 8
    · obtain ⟨hc, hf⟩ := hR.2.2 (8 - k) (by rw [behind_length]; omega)
      rw [behind_get _ _ _ (by omega), if_neg (by omega)] at hc
      have H := Lib.hid (And.intro hR hb)
      clear hR hb
      go_wp2_with fail
      go_roundw
      case rel =>
        have hv : (u : Int) / 2 ^ (8 * k) % 256 = ((UInt8.ofNat (u / 2 ^ (8 * k))).toNat : Int) := by
          rw [UInt8.toNat_ofNat']; simp
        rw [hv]
        refine ⟨k + 1, by omega, by go_num, ?_, H.out.2.setCell (Nat.le_refl _) _⟩
        refine H.out.1.put (8 - k) (by rw [behind_length]; omega) _ (by rw [behind_length, behind_length]) ?_ (fun i hi hne => ?_)
        · rw [behind_get _ _ _ (by omega), if_pos (by omega), show 8 - (8 - k) = k by omega]
        · rw [behind_length] at hi
          rw [behind_get _ _ _ hi, behind_get _ _ _ hi]
          by_cases h1 : 8 < i + k
          · rw [if_pos (by omega), if_pos h1]
          · rw [if_neg (by omega), if_neg h1]
      case measure => simp [intOf]; omega
    · obtain rfl : k = 8 := by omega
      have hcv := hR.conv 9 (by rw [behind_length]) 9
      rw [behind_all] at hcv
      obtain ⟨B, hB⟩ : ∃ B, B = str (0 :: numB u) := ⟨_, rfl⟩
      have hBs : B.size = 9 := by rw [hB, str_size]; simp [numB]
      rw [← hB] at hcv
      have hBz : (B.size : Int) ≤ 9 := by omega
      have hlz : (lab.size : Int) < 999000 := by omega
      have H := Lib.hid (And.intro hb (And.intro hB hBs))
      clear hR hb hB hBs
      go_wp2_with fail
      refine (derive_any sec (lab ++ B) hs (by rw [ByteArray.size_append]; omega) 32 _ (hG.below H.out.1)).mono ?_
      rintro e w1 ⟨rfl, h1⟩
      go_wp2_with fail
      go_ret
      refine ⟨?_, below_trans' H.out.1 h1 H.out.1.size⟩
      rw [keyL, H.out.2.1, str_data]
      rfl
end Go.Proofs.YtgoimggfpagojaaDoor
