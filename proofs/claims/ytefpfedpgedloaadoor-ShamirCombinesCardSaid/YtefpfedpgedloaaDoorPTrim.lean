/- strings.TrimRight of bytes 0; poly.trimmed, Trim; lockboxref08.Trim. -/
import Derived.Test.YtefpfedpgedloaaDoorClone
import Derived.Test.YtefpfedpgedloaaDoorGDot
namespace Go.Proofs.YtefpfedpgedloaaDoor
open Go.RowKit
open Gf

/-- A text trimmed. -/
def trimB (s : ByteArray) : ByteArray := str (trimL s.data.toList)
theorem trimB_size (s : ByteArray) : (trimB s).size ≤ s.size := by
  unfold trimB; rw [str_size]
  have := trimL_length s.data.toList
  simpa using this
theorem bytes_of_list {s t : ByteArray} (h : s.data.toList = t.data.toList) : s = t := by
  obtain ⟨⟨l⟩⟩ := s
  obtain ⟨⟨m⟩⟩ := t
  simp at h
  rw [h]
/-- The last byte apart. -/
theorem last_apart {s : ByteArray} {n : Nat} (h : s.size = n + 1) : ∃ c : UInt8, s.data.toList = (s.extract 0 n).data.toList ++ [c] ∧ (s.extract 0 n).size = n ∧ s[n]'(by omega) = c := by
  refine ⟨s[n]'(by omega), ?_, by rw [ByteArray.size_extract]; omega, rfl⟩
  have hl : s.data.toList.length = n + 1 := by simpa using h
  rw [ByteArray.data_extract]
  have e : (s.data.extract 0 n).toList = s.data.toList.take n := by simp
  rw [e]
  have h2 : s.data.toList[n]'(by omega) = s[n]'(by omega) := rfl
  rw [← h2, List.take_append_getElem, List.take_of_length_le (by omega)]
theorem cut_size {s : ByteArray} {n : Nat} (h : s.size = n + 1) : (s.extract 0 n).size = n := by rw [ByteArray.size_extract]; omega
theorem trimL_zero_end {s : ByteArray} {n : Nat} (h : s.size = n + 1) (h0 : s[n]'(by omega) = 0) : trimB (s.extract 0 n) = trimB s := by
  obtain ⟨c, h1, _, h3⟩ := last_apart h
  unfold trimB
  rw [h1, ← h3, h0, trimL_snoc0]
theorem trimL_other_end {s : ByteArray} {n : Nat} (h : s.size = n + 1) (h0 : s[n]'(by omega) ≠ 0) : trimB s = s := by
  obtain ⟨c, h1, _, h3⟩ := last_apart h
  unfold trimB
  rw [h1, trimL_snoc (h3 ▸ h0), ← h1]
  rfl
theorem trimB_empty {s : ByteArray} (h : s.size = 0) : trimB s = s := by
  have : s.data.toList = [] := by
    have hl : s.data.toList.length = 0 := by simpa using h
    exact List.length_eq_zero_iff.1 hl
  unfold trimB
  rw [this]
  exact bytes_of_list (by rw [this]; rfl)
set_option maxRecDepth 100000 in
set_option maxHeartbeats 400000 in
theorem trimByte_any (s : ByteArray) (hs : s.size ≤ maxLen) (w : World) :
    Calls Tryd.prog 86 #[.string s, .int .u8 0] w fun e w' => e = .returned (.string (trimB s)) ∧ w = w' := by
  unfold maxLen at hs
  obtain ⟨R, hR⟩ : ∃ R, R = trimB s := ⟨_, rfl⟩
  rw [← hR]
  have HR := Lib.hid hR
  clear hR
  go_enter Tryd.func86, Tryd.ntmps86
  go_wp2_with fail
  go_loop [0] (fun v => ∃ t : ByteArray, v = .string t ∧ t.size ≤ 9223372036854775807 ∧ trimB t = R) (fun v => match v with | .string t => t.size | _ => 0)
  case atStart => exact ⟨s, rfl, hs, HR.out.symm⟩
  case round =>
    clear HR hs
    obtain ⟨t, rfl, hsz, ht⟩ := hrel
    match hn : t.size with
    | 0 =>
      have hti : (t.size : Int) = 0 := by omega
      rw [trimB_empty hn] at ht
      subst ht
      clear hn hsz
      go_wp2_with fail
      go_ret
      exact ⟨rfl, rfl⟩
    | n + 1 =>
      have hti : (t.size : Int) = (n : Int) + 1 := by omega
      have hnt : n < t.size := by omega
      by_cases h0 : t[n] = 0
      · have hx := trimL_zero_end hn h0
        have hz := cut_size hn
        have hb : ((t[n].toNat : Int) == 0) = true := by rw [h0]; rfl
        rw [← hx] at ht
        have HT := Lib.hid (And.intro ht (And.intro hz hn))
        clear ht hz hx h0 hn
        go_wp2_with fail
        go_round
        case rel => exact ⟨t.extract 0 n, rfl, by have := HT.out.2.1; omega, HT.out.1⟩
        case measure => have := HT.out.2.1; have := HT.out.2.2; simp; omega
      · have hx := trimL_other_end hn h0
        have hb : ((t[n].toNat : Int) == 0) = false := u_ne h0
        rw [hx] at ht
        subst ht
        clear hx h0 hn
        go_wp2_with fail
        go_ret
        exact ⟨rfl, rfl⟩
theorem one_zero : (ByteArray.mk #[0]).size = 1 := rfl
set_option maxRecDepth 100000 in
set_option maxHeartbeats 400000 in
theorem trimRight_any (s : ByteArray) (hs : s.size ≤ maxLen) (w : World) :
    Calls Tryd.prog 79 #[.string s, .string ⟨#[0]⟩] w fun e w' => e = .returned (.string (trimB s)) ∧ w = w' := by
  by_cases h0 : s.size = 0
  · have he : s = ⟨#[]⟩ := bytes_of_list (by
      have hl : s.data.toList.length = 0 := by simpa using h0
      rw [List.length_eq_zero_iff.1 hl])
    rw [trimB_empty h0]
    subst he
    clear h0
    go_enter Tryd.func79, Tryd.ntmps79
    go_wp2_with fail
    go_ret
    exact ⟨rfl, rfl⟩
  · have hl : (s.toList == []) = false := by
      have h1 : s.data.toList.length ≠ 0 := by simpa using h0
      rw [toList_data]
      generalize s.data.toList = l at *
      cases l with
      | nil => exact absurd rfl h1
      | cons => rfl
    have ht := trimByte_any s hs
    have HT := Lib.hid ht
    clear ht h0
    go_enter Tryd.func79, Tryd.ntmps79
    go_wp2_with fail
    refine (HT.out _).mono ?_
    rintro e w1 ⟨rfl, rfl⟩
    go_wp2_with fail
    go_ret
    exact ⟨rfl, rfl⟩
theorem trimmed_any (s : ByteArray) (hs : s.size ≤ maxLen) (w : World) :
    Calls Tryd.prog 57 #[.string s] w fun e w' => e = .returned (.string (trimB s)) ∧ w = w' := by
  go_enter Tryd.func57, Tryd.ntmps57
  go_wp2_with fail
  refine (trimRight_any s hs _).mono ?_
  rintro e w1 ⟨rfl, rfl⟩
  go_wp2_with fail
  go_ret
  exact ⟨rfl, rfl⟩
end Go.Proofs.YtefpfedpgedloaaDoor
