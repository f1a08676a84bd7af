/- Plain: what is turned twice, and what is turned in parts. -/
import Derived.Test.YtgoimggfpagojaaDoorQRefS
namespace Go.Proofs.YtgoimggfpagojaaDoor
open Go.RowKit

theorem xorL_zip {t s : List UInt8} (h : t.length = s.length) : xorL t s = List.zipWith (· ^^^ ·) t s := by
  apply List.ext_getElem?
  intro i
  unfold xorL xorTo
  by_cases hi : i < t.length
  · have hs : i < s.length := by omega
    simp [hi, hs, List.getElem?_zipWith]
  · have hs : ¬ i < s.length := by omega
    simp [List.getElem?_zipWith, List.getElem?_eq_none (show t.length ≤ i by omega), List.getElem?_eq_none (show s.length ≤ i by omega)]
    omega
theorem xorL_length (t s : List UInt8) : (xorL t s).length = t.length := xorTo_length _ _ _
theorem xor_twice {t s : List UInt8} (h : t.length = s.length) : xorL (xorL t s) s = t := by
  rw [xorL_zip (by rw [xorL_length, h]), xorL_zip h]
  apply List.ext_getElem?
  intro i
  rw [List.getElem?_zipWith, List.getElem?_zipWith]
  by_cases hi : i < t.length
  · have hs : i < s.length := by omega
    simp [hi, hs, UInt8.xor_assoc]
  · simp [List.getElem?_eq_none (show t.length ≤ i by omega)]
theorem xor_parts {t1 t2 s1 s2 : List UInt8} (h1 : t1.length = s1.length) (h2 : t2.length = s2.length) : xorL (t1 ++ t2) (s1 ++ s2) = xorL t1 s1 ++ xorL t2 s2 := by
  rw [xorL_zip (by simp [h1, h2]), xorL_zip h1, xorL_zip h2, List.zipWith_append h1]
theorem bytes_length (a : ByteArray) : a.data.toList.length = a.size := by simp
theorem trnS_good {key nonce : ByteArray} {c : Int} {text : ByteArray} (h : chkE key.size nonce.size c text.size = 0) : trnS key nonce c text = str (xorL text.data.toList (strm (textF key nonce) c.toNat text.size)) := if_neg (fun x => x h)
theorem trnS_bad {key nonce : ByteArray} {c : Int} {text : ByteArray} (h : chkE key.size nonce.size c text.size ≠ 0) : trnS key nonce c text = ⟨#[]⟩ := if_pos h
theorem trnS_size {key nonce : ByteArray} {c : Int} {text : ByteArray} (h : chkE key.size nonce.size c text.size = 0) : (trnS key nonce c text).size = text.size := by
  rw [trnS_good h, str_size, xorL_length, bytes_length]
/-- WHAT IS TURNED TWICE IS AS IT WAS. -/
theorem trnS_twice {key nonce : ByteArray} {c : Int} {text : ByteArray} (h : chkE key.size nonce.size c text.size = 0) : trnS key nonce c (trnS key nonce c text) = text := by
  have hz := trnS_size h
  have h2 : chkE key.size nonce.size c (trnS key nonce c text).size = 0 := by rw [hz]; exact h
  rw [trnS_good h2, hz, trnS_good h, str_data, xor_twice (by rw [bytes_length, strm_length])]
  exact str_of text
theorem streamL_add (T : ByteArray) (c k : Nat) : ∀ j, streamL T c (k + j) = streamL T c k ++ streamL T (c + k) j
  | 0 => by rw [Nat.add_zero]; simp [streamL]
  | j + 1 => by
    rw [← Nat.add_assoc, streamL, streamL_add T c k j, streamL, List.append_assoc, show c + (k + j) = c + k + j by omega]
theorem strm_parts (T : ByteArray) (c k n : Nat) (h : 64 * k ≤ n) : strm T c n = strm T c (64 * k) ++ strm T (c + k) (n - 64 * k) := by
  have h1 : strm T c n = (streamL T c (k + n)).take n := (strm_of T c n (k + n) (by omega)).symm
  have h2 : strm T c (64 * k) = streamL T c k := by
    rw [← strm_of T c (64 * k) k (Nat.le_refl _), List.take_of_length_le (by rw [streamL_length]; exact Nat.le_refl _)]
  have h3 : strm T (c + k) (n - 64 * k) = (streamL T (c + k) n).take (n - 64 * k) := (strm_of T (c + k) (n - 64 * k) n (by omega)).symm
  rw [h1, h2, h3, streamL_add]
  conv => lhs; rw [show n = (streamL T c k).length + (n - 64 * k) from by rw [streamL_length]; omega]
  rw [List.take_length_add_append]
  congr 2
  rw [show (streamL T c k).length + (n - 64 * k) = n from by rw [streamL_length]; omega]
theorem chk_ok_of {kl nl : Nat} {c n : Int} (h : kl = 32 ∧ nl = 12) (hc : 0 ≤ c ∧ c ≤ 4294967295) (hn : 0 ≤ n ∧ n ≤ 65536 ∧ n ≤ (4294967295 - c + 1) * 64) : chkE kl nl c n = 0 := by
  unfold chkE
  rw [askE_ok h hc, if_neg (by omega), if_neg (by omega), if_neg (by omega)]
theorem chk_long_of {kl nl : Nat} {c n : Int} (h : kl = 32 ∧ nl = 12) (hc : 0 ≤ c ∧ c ≤ 4294967295) (hn : 0 ≤ n ∧ (4294967295 - c + 1) * 64 < n) : chkE kl nl c n = 2 := by
  unfold chkE
  rw [askE_ok h hc, if_neg (by omega), if_neg (by omega), if_pos (by omega)]
/-- A text is turned in parts of whole blocks. -/
theorem trnS_parts {key nonce : ByteArray} {C : Nat} {text : ByteArray} (k : Nat) (h : chkE key.size nonce.size C text.size = 0) (hk : 64 * k < text.size) :
    chkE key.size nonce.size C (text.extract 0 (64 * k)).size = 0 ∧ chkE key.size nonce.size ((C : Int) + k) (text.extract (64 * k) text.size).size = 0 ∧
    trnS key nonce C (text.extract 0 (64 * k)) ++ trnS key nonce ((C : Int) + k) (text.extract (64 * k) text.size) = trnS key nonce C text := by
  obtain ⟨a1, a2, a3, a4, a5, a6, a7⟩ := chkE_ok h
  have z1 : (text.extract 0 (64 * k)).size = 64 * k := by rw [ByteArray.size_extract]; omega
  have z2 : (text.extract (64 * k) text.size).size = text.size - 64 * k := by rw [ByteArray.size_extract]; omega
  have e1 : chkE key.size nonce.size C (text.extract 0 (64 * k)).size = 0 := chk_ok_of ⟨a1, a2⟩ ⟨a3, a4⟩ (by rw [z1]; omega)
  have e2 : chkE key.size nonce.size ((C : Int) + k) (text.extract (64 * k) text.size).size = 0 := chk_ok_of ⟨a1, a2⟩ (by omega) (by rw [z2]; omega)
  refine ⟨e1, e2, ?_⟩
  rw [trnS_good e1, trnS_good e2, trnS_good h, z1, z2, str_append]
  congr 1
  rw [Int.toNat_natCast, show ((C : Int) + k).toNat = C + k by omega, strm_parts (textF key nonce) C k text.size (by omega), ← xor_parts]
  · congr 1
    rw [ByteArray.data_extract, ByteArray.data_extract]
    have := List.take_append_drop (64 * k) text.data.toList
    conv => rhs; rw [← this]
    simp [List.take_of_length_le]
  · rw [bytes_length, z1, strm_length]
  · rw [bytes_length, z2, strm_length]
theorem trnS_whole {text : ByteArray} (k : Nat) (hk : 64 * k = text.size) : text.extract 0 (64 * k) = text := by
  rw [hk]; exact ByteArray.extract_zero_size
/-- The last block of the last counters. -/
theorem strm_last (T : ByteArray) (L : Nat) (h1 : 1 ≤ L) (h8 : L ≤ 8) : (str (strm T (4294967296 - L) (64 * L))).extract (64 * L - 64) (64 * L) = str (blockB (field T (BitVec.ofNat 32 4294967295))) := by
  have e := strm_parts T (4294967296 - L) (L - 1) (64 * L) (by omega)
  rw [show 64 * L - 64 * (L - 1) = 64 by omega, strm_block, show 4294967296 - L + (L - 1) = 4294967295 by omega] at e
  rw [e]
  apply bytes_of_data
  rw [ByteArray.data_extract, str_data]
  have hl : (strm T (4294967296 - L) (64 * (L - 1))).length = 64 * L - 64 := by rw [strm_length]; omega
  have hb := blockB_length (field T (BitVec.ofNat 32 4294967295))
  generalize strm T (4294967296 - L) (64 * (L - 1)) = P at *
  generalize blockB (field T (BitVec.ofNat 32 4294967295)) = Q at *
  have hz : 64 * L = (P ++ Q).length := by rw [List.length_append, hl, hb]; omega
  rw [Array.toList_extract, str_data, ← hl, hz, List.extract_eq_take_drop, List.drop_left, List.length_append, Nat.add_sub_cancel_left, List.take_length]
end Go.Proofs.YtgoimggfpagojaaDoor
