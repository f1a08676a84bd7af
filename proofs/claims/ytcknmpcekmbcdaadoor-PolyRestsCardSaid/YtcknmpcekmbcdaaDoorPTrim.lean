/- strings.TrimRight of bytes 0; poly.trimmed, Trim; lockboxref08.Trim. -/
import Derived.Test.YtcknmpcekmbcdaaDoorClone
import Derived.Test.YtcknmpcekmbcdaaDoorGDot
namespace Go.Proofs.YtcknmpcekmbcdaaDoor
open Go.RowKit
open Gf

/-- A text trimmed. -/
def trimB (s : ByteArray) : ByteArray := str (trimL s.data.toList)
theorem trimB_size (s : ByteArray) : (trimB s).size ≤ s.size := by
  unfold trimB; rw [str_size]
  have := trimL_length s.data.toList
  simpa using this
theorem bytes_of_list {s t : ByteArray} (h : s.data.toList = t.data.toList) : s = t := by
  obtain ⟨⟨l⟩⟩ := s
  obtain ⟨⟨m⟩⟩ := t
  simp at h
  rw [h]
/-- The last byte apart. -/
theorem last_apart {s : ByteArray} {n : Nat} (h : s.size = n + 1) : ∃ c : UInt8, s.data.toList = (s.extract 0 n).data.toList ++ [c] ∧ (s.extract 0 n).size = n ∧ s[n]'(by omega) = c := by
  refine ⟨s[n]'(by omega), ?_, by rw [ByteArray.size_extract]; omega, rfl⟩
  have hl : s.data.toList.length = n + 1 := by simpa using h
  rw [ByteArray.data_extract]
  have e : (s.data.extract 0 n).toList = s.data.toList.take n := by simp
  rw [e]
  have h2 : s.data.toList[n]'(by omega) = s[n]'(by omega) := rfl
  rw [← h2, List.take_append_getElem, List.take_of_length_le (by omega)]
theorem cut_size {s : ByteArray} {n : Nat} (h : s.size = n + 1) : (s.extract 0 n).size = n := by rw [ByteArray.size_extract]; omega
theorem trimL_zero_end {s : ByteArray} {n : Nat} (h : s.size = n + 1) (h0 : s[n]'(by omega) = 0) : trimB (s.extract 0 n) = trimB s := by
  obtain ⟨c, h1, _, h3⟩ := last_apart h
  unfold trimB
  rw [h1, ← h3, h0, trimL_snoc0]
theorem trimL_other_end {s : ByteArray} {n : Nat} (h : s.size = n + 1) (h0 : s[n]'(by omega) ≠ 0) : trimB s = s := by
  obtain ⟨c, h1, _, h3⟩ := last_apart h
  unfold trimB
  rw [h1, trimL_snoc (h3 ▸ h0), ← h1]
  rfl
theorem trimB_empty {s : ByteArray} (h : s.size = 0) : trimB s = s := by
  have : s.data.toList = [] := by
    have hl : s.data.toList.length = 0 := by simpa using h
    exact List.length_eq_zero_iff.1 hl
  unfold trimB
  rw [this]
  exact bytes_of_list (by rw [this]; rfl)
set_option maxRecDepth 100000 in
set_option maxHeartbeats 400000 in
theorem trimByte_any (s : ByteArray) (hs : s.size ≤ maxLen) (w : World) :
    Calls Tryd.prog 47 #[.string s, .int .u8 0] w fun e w' => e = .returned (.string (trimB s)) ∧ w = w' := by
  unfold maxLen at hs
  obtain ⟨R, hR⟩ : ∃ R, R = trimB s := ⟨_, rfl⟩
  rw [← hR]
  have HR := Lib.hid hR
  clear hR
  go_enter Tryd.func47, Tryd.ntmps47
  go_wp2_with fail
  go_loop [0] (fun v => ∃ t : ByteArray, v = .string t ∧ t.size ≤ 9223372036854775807 ∧ trimB t = R) (fun v => match v with | .string t => t.size | _ => 0)
  case atStart => exact ⟨s, rfl, hs, HR.out.symm⟩
  case round =>
    clear HR hs
    obtain ⟨t, rfl, hsz, ht⟩ := hrel
    match hn : t.size with
    | 0 =>
      have hti : (t.size : Int) = 0 := by omega
      rw [trimB_empty hn] at ht
      subst ht
      clear hn hsz
      go_wp2_with fail
      go_ret
      exact ⟨rfl, rfl⟩
    | n + 1 =>
      have hti : (t.size : Int) = (n : Int) + 1 := by omega
      have hnt : n < t.size := by omega
      by_cases h0 : t[n] = 0
      · have hx := trimL_zero_end hn h0
        have hz := cut_size hn
        have hb : ((t[n].toNat : Int) == 0) = true := by rw [h0]; rfl
        rw [← hx] at ht
        have HT := Lib.hid (And.intro ht (And.intro hz hn))
        clear ht hz hx h0 hn
        go_wp2_with fail
        go_round
        case rel => exact ⟨t.extract 0 n, rfl, by have := HT.out.2.1; omega, HT.out.1⟩
        case measure => have := HT.out.2.1; have := HT.out.2.2; simp; omega
      · have hx := trimL_other_end hn h0
        have hb : ((t[n].toNat : Int) == 0) = false := u_ne h0
        rw [hx] at ht
        subst ht
        clear hx h0 hn
        go_wp2_with fail
        go_ret
        exact ⟨rfl, rfl⟩
theorem one_zero : (ByteArray.mk #[0]).size = 1 := rfl
set_option maxRecDepth 100000 in
set_option maxHeartbeats 400000 in
theorem trimRight_any (s : ByteArray) (hs : s.size ≤ maxLen) (w : World) :
    Calls Tryd.prog 44 #[.string s, .string ⟨#[0]⟩] w fun e w' => e = .returned (.string (trimB s)) ∧ w = w' := by
  by_cases h0 : s.size = 0
  · have he : s = ⟨#[]⟩ := bytes_of_list (by
      have hl : s.data.toList.length = 0 := by simpa using h0
      rw [List.length_eq_zero_iff.1 hl])
    rw [trimB_empty h0]
    subst he
    clear h0
    go_enter Tryd.func44, Tryd.ntmps44
    go_wp2_with fail
    go_ret
    exact ⟨rfl, rfl⟩
  · have hl : (s.toList == []) = false := by
      have h1 : s.data.toList.length ≠ 0 := by simpa using h0
      rw [toList_data]
      generalize s.data.toList = l at *
      cases l with
      | nil => exact absurd rfl h1
      | cons => rfl
    have ht := trimByte_any s hs
    have HT := Lib.hid ht
    clear ht h0
    go_enter Tryd.func44, Tryd.ntmps44
    go_wp2_with fail
    refine (HT.out _).mono ?_
    rintro e w1 ⟨rfl, rfl⟩
    go_wp2_with fail
    go_ret
    exact ⟨rfl, rfl⟩
theorem trimmed_any (s : ByteArray) (hs : s.size ≤ maxLen) (w : World) :
    Calls Tryd.prog 33 #[.string s] w fun e w' => e = .returned (.string (trimB s)) ∧ w = w' := by
  go_enter Tryd.func33, Tryd.ntmps33
  go_wp2_with fail
  refine (trimRight_any s hs _).mono ?_
  rintro e w1 ⟨rfl, rfl⟩
  go_wp2_with fail
  go_ret
  exact ⟨rfl, rfl⟩
theorem trim_any (s : ByteArray) (hs : s.size ≤ 100000) (w : World) :
    Calls Tryd.prog 12 #[.string s] w fun e w' => e = .returned (.string (trimB s)) ∧ Below w.heap.size w w' := by
  have hz := trimB_size s
  go_enter Tryd.func12, Tryd.ntmps12
  go_wp2_with fail
  refine (trimmed_any s (by unfold maxLen; omega) _).mono ?_
  rintro e w1 ⟨rfl, rfl⟩
  go_wp2_with fail
  refine (clone_any (trimB s) _ (by omega)).mono ?_
  rintro e w1 ⟨rfl, hb⟩
  have HB := Lib.hid hb
  clear hb
  go_wp2_with fail
  go_ret
  exact ⟨rfl, HB.out⟩
set_option maxRecDepth 100000 in
set_option maxHeartbeats 400000 in
theorem rtrim_any (s : ByteArray) (hs : s.size ≤ maxLen) (w : World) :
    Calls Tryd.prog 13 #[.string s] w fun e w' => e = .returned (.string (trimB s)) ∧ w = w' := by
  unfold maxLen at hs
  obtain ⟨R, hR⟩ : ∃ R, R = trimB s := ⟨_, rfl⟩
  have hall : trimB (s.extract 0 s.size) = R := by rw [hR]; congr 1; exact bytes_of_list (by rw [ByteArray.data_extract]; simp; exact List.take_of_length_le (by simp))
  rw [← hR]
  have HR := Lib.hid hall
  clear hR hall
  go_enter Tryd.func13, Tryd.ntmps13
  go_wp2_with fail
  go_loop [3] (fun v => ∃ n : Nat, v = .int .i64 n ∧ n ≤ s.size ∧ trimB (s.extract 0 n) = R) (fun v => (intOf v).toNat)
  case atStart => exact ⟨s.size, rfl, Nat.le_refl _, HR.out⟩
  case round =>
    clear HR
    obtain ⟨n, rfl, hn, ht⟩ := hrel
    match n with
    | 0 =>
      have hz : (s.extract 0 0).size = 0 := by rw [ByteArray.size_extract]; omega
      rw [trimB_empty hz] at ht
      subst ht
      clear hz hn
      go_wp2_with fail
      go_ret
      exact ⟨rfl, rfl⟩
    | m + 1 =>
      have hm : m < s.size := by omega
      have hsz : (s.extract 0 (m + 1)).size = m + 1 := by rw [ByteArray.size_extract]; omega
      have hcut : (s.extract 0 (m + 1)).extract 0 m = s.extract 0 m := bytes_of_list (by
        rw [ByteArray.data_extract, ByteArray.data_extract, ByteArray.data_extract]
        simp)
      have hlast : (s.extract 0 (m + 1))[m]'(by omega) = s[m] := by simp [ByteArray.getElem_extract]
      by_cases h0 : s[m] = 0
      · have hx := trimL_zero_end hsz (hlast.trans h0)
        rw [hcut] at hx
        have hb : ((s[m].toNat : Int) == 0) = true := by rw [h0]; rfl
        rw [← hx] at ht
        have HT := Lib.hid ht
        clear ht hx h0 hlast hcut hsz
        go_wp2_with fail
        go_round
        case rel => exact ⟨m, by go_num, by omega, HT.out⟩
        case measure => simp [intOf]
      · have hx := trimL_other_end hsz (fun e => h0 (hlast.symm.trans e))
        have hb : ((s[m].toNat : Int) == 0) = false := u_ne h0
        rw [hx] at ht
        have HT := Lib.hid ht
        clear ht hx h0 hlast hcut hsz
        go_wp2_with fail
        go_ret
        exact ⟨by rw [← HT.out]; rfl, rfl⟩
end Go.Proofs.YtcknmpcekmbcdaaDoor
