/- Merged by program: strings.TrimRight of bytes 0; poly.trimmed, Trim; lockboxref08.Trim. | poly.Value; lockboxref08.Value, at. | poly.Value: it only reads. | poly.multiples. | poly.addTimes. | copy of a text into an own slice of bytes. | poly.Add, Scale, Mul. | poly.Mul. -/
import Derived.Test.YtefpfedpgedloaaGreatDoorClone
import Derived.Test.YtefpfedpgedloaaGreatDoorMG3
import Derived.Test.YtefpfedpgedloaaGreatDoorMB
import Derived.Deep.WholeRow
import Derived.StillTailTactics
import Derived.Laws.CopyOwn
namespace Go.Proofs.YtefpfedpgedloaaGreatDoor
open Go.RowKit
open Gf

/-- A text trimmed. -/
def trimB (s : ByteArray) : ByteArray := str (trimL s.data.toList)
theorem trimB_size (s : ByteArray) : (trimB s).size ≤ s.size := by
  unfold trimB; rw [str_size]
  have := trimL_length s.data.toList
  simpa using this
theorem bytes_of_list {s t : ByteArray} (h : s.data.toList = t.data.toList) : s = t := by
  obtain ⟨⟨l⟩⟩ := s
  obtain ⟨⟨m⟩⟩ := t
  simp at h
  rw [h]
/-- The last byte apart. -/
theorem last_apart {s : ByteArray} {n : Nat} (h : s.size = n + 1) : ∃ c : UInt8, s.data.toList = (s.extract 0 n).data.toList ++ [c] ∧ (s.extract 0 n).size = n ∧ s[n]'(by omega) = c := by
  refine ⟨s[n]'(by omega), ?_, by rw [ByteArray.size_extract]; omega, rfl⟩
  have hl : s.data.toList.length = n + 1 := by simpa using h
  rw [ByteArray.data_extract]
  have e : (s.data.extract 0 n).toList = s.data.toList.take n := by simp
  rw [e]
  have h2 : s.data.toList[n]'(by omega) = s[n]'(by omega) := rfl
  rw [← h2, List.take_append_getElem, List.take_of_length_le (by omega)]
theorem cut_size {s : ByteArray} {n : Nat} (h : s.size = n + 1) : (s.extract 0 n).size = n := by rw [ByteArray.size_extract]; omega
theorem trimL_zero_end {s : ByteArray} {n : Nat} (h : s.size = n + 1) (h0 : s[n]'(by omega) = 0) : trimB (s.extract 0 n) = trimB s := by
  obtain ⟨c, h1, _, h3⟩ := last_apart h
  unfold trimB
  rw [h1, ← h3, h0, trimL_snoc0]
theorem trimL_other_end {s : ByteArray} {n : Nat} (h : s.size = n + 1) (h0 : s[n]'(by omega) ≠ 0) : trimB s = s := by
  obtain ⟨c, h1, _, h3⟩ := last_apart h
  unfold trimB
  rw [h1, trimL_snoc (h3 ▸ h0), ← h1]
  rfl
theorem trimB_empty {s : ByteArray} (h : s.size = 0) : trimB s = s := by
  have : s.data.toList = [] := by
    have hl : s.data.toList.length = 0 := by simpa using h
    exact List.length_eq_zero_iff.1 hl
  unfold trimB
  rw [this]
  exact bytes_of_list (by rw [this]; rfl)
set_option maxRecDepth 100000 in
set_option maxHeartbeats 400000 in
theorem trimByte_any (s : ByteArray) (hs : s.size ≤ maxLen) (w : World) :
    Calls Tryz.prog 122 #[.string s, .int .u8 0] w fun e w' => e = .returned (.string (trimB s)) ∧ w = w' := by
  unfold maxLen at hs
  obtain ⟨R, hR⟩ : ∃ R, R = trimB s := ⟨_, rfl⟩
  rw [← hR]
  have HR := Lib.hid hR
  clear hR
  go_enter Tryz.func122, Tryz.ntmps122
  go_wp2_with fail
  go_loop [0] (fun v => ∃ t : ByteArray, v = .string t ∧ t.size ≤ 9223372036854775807 ∧ trimB t = R) (fun v => match v with | .string t => t.size | _ => 0)
  case atStart => exact ⟨s, rfl, hs, HR.out.symm⟩
  case round =>
    clear HR hs
    obtain ⟨t, rfl, hsz, ht⟩ := hrel
    match hn : t.size with
    | 0 =>
      have hti : (t.size : Int) = 0 := by omega
      rw [trimB_empty hn] at ht
      subst ht
      clear hn hsz
      go_wp2_with fail
      go_ret
      exact ⟨rfl, rfl⟩
    | n + 1 =>
      have hti : (t.size : Int) = (n : Int) + 1 := by omega
      have hnt : n < t.size := by omega
      by_cases h0 : t[n] = 0
      · have hx := trimL_zero_end hn h0
        have hz := cut_size hn
        have hb : ((t[n].toNat : Int) == 0) = true := by rw [h0]; rfl
        rw [← hx] at ht
        have HT := Lib.hid (And.intro ht (And.intro hz hn))
        clear ht hz hx h0 hn
        go_wp2_with fail
        go_round
        case rel => exact ⟨t.extract 0 n, rfl, by have := HT.out.2.1; omega, HT.out.1⟩
        case measure => have := HT.out.2.1; have := HT.out.2.2; simp; omega
      · have hx := trimL_other_end hn h0
        have hb : ((t[n].toNat : Int) == 0) = false := u_ne h0
        rw [hx] at ht
        subst ht
        clear hx h0 hn
        go_wp2_with fail
        go_ret
        exact ⟨rfl, rfl⟩
theorem one_zero : (ByteArray.mk #[0]).size = 1 := rfl
set_option maxRecDepth 100000 in
set_option maxHeartbeats 400000 in
theorem trimRight_any (s : ByteArray) (hs : s.size ≤ maxLen) (w : World) :
    Calls Tryz.prog 119 #[.string s, .string ⟨#[0]⟩] w fun e w' => e = .returned (.string (trimB s)) ∧ w = w' := by
  by_cases h0 : s.size = 0
  · have he : s = ⟨#[]⟩ := bytes_of_list (by
      have hl : s.data.toList.length = 0 := by simpa using h0
      rw [List.length_eq_zero_iff.1 hl])
    rw [trimB_empty h0]
    subst he
    clear h0
    go_enter Tryz.func119, Tryz.ntmps119
    go_wp2_with fail
    go_ret
    exact ⟨rfl, rfl⟩
  · have hl : (s.toList == []) = false := by
      have h1 : s.data.toList.length ≠ 0 := by simpa using h0
      rw [toList_data]
      generalize s.data.toList = l at *
      cases l with
      | nil => exact absurd rfl h1
      | cons => rfl
    have ht := trimByte_any s hs
    have HT := Lib.hid ht
    clear ht h0
    go_enter Tryz.func119, Tryz.ntmps119
    go_wp2_with fail
    refine (HT.out _).mono ?_
    rintro e w1 ⟨rfl, rfl⟩
    go_wp2_with fail
    go_ret
    exact ⟨rfl, rfl⟩
theorem trimmed_any (s : ByteArray) (hs : s.size ≤ maxLen) (w : World) :
    Calls Tryz.prog 110 #[.string s] w fun e w' => e = .returned (.string (trimB s)) ∧ w = w' := by
  go_enter Tryz.func110, Tryz.ntmps110
  go_wp2_with fail
  refine (trimRight_any s hs _).mono ?_
  rintro e w1 ⟨rfl, rfl⟩
  go_wp2_with fail
  go_ret
  exact ⟨rfl, rfl⟩
end Go.Proofs.YtefpfedpgedloaaGreatDoor
namespace Go.Proofs.YtefpfedpgedloaaGreatDoor
open Go.RowKit
open Gf

/-- A text's value. -/
def valB (s : ByteArray) (x : UInt8) : UInt8 := val s.data.toList x
theorem valB_trimB (s : ByteArray) (x : UInt8) : valB (trimB s) x = valB s x := val_trimL _ _
theorem drop_step (s : ByteArray) (k n : Nat) (hk : k < s.size) (hn : n = s.size - 1 - k) (hns : n < s.size) (x : UInt8) : val (s.data.toList.drop (s.size - (k + 1))) x = s[n] ^^^ mul x (val (s.data.toList.drop (s.size - k)) x) := by
  have hl : n < s.data.toList.length := by
    have : s.data.toList.length = s.size := by simp
    omega
  rw [show s.size - (k + 1) = n by omega, show s.size - k = n + 1 by omega, List.drop_eq_getElem_cons hl, val]
  rfl
set_option maxRecDepth 100000 in
set_option maxHeartbeats 400000 in
theorem value_any (s : ByteArray) (hs : s.size ≤ maxLen) (x : UInt8) (w : World) :
    Calls Tryz.prog 46 #[.string s, .int .u8 (x.toNat : Int)] w fun e w' => e = .returned (.int .u8 ((valB s x).toNat : Int)) ∧ Below w.heap.size w w' := by
  unfold maxLen at hs
  obtain ⟨R, hR⟩ : ∃ R, R = valB s x := ⟨_, rfl⟩
  rw [← hR]
  have HR := Lib.hid hR
  clear hR
  go_enter Tryz.func46, Tryz.ntmps46
  go_wp2_with fail
  go_loopw [5, 6, 9] (fun v _ i wr => ∃ (k : Nat), k ≤ s.size ∧ i = .int .i64 k ∧ v = .int .u8 ((val (s.data.toList.drop (s.size - k)) x).toNat : Int) ∧ Below w.heap.size w wr) (fun _ _ i _ => s.size - (intOf i).toNat)
  case atStart => exact ⟨0, by omega, rfl, by rw [Nat.sub_zero, List.drop_of_length_le (by simp)]; rfl, Below.refl _ _⟩
  case round =>
    obtain ⟨k, hk, rfl, rfl, hbw⟩ := hrel
    have HB := Lib.hid hbw
    clear hbw
    by_cases hlt : k < s.size
    · obtain ⟨n, hn⟩ : ∃ n, n = s.size - 1 - k := ⟨_, rfl⟩
      have hns : n < s.size := by omega
      have hd := drop_step s k n hlt hn hns x
      obtain ⟨v, hv⟩ : ∃ v, v = val (s.data.toList.drop (s.size - k)) x := ⟨_, rfl⟩
      obtain ⟨v', hv'⟩ : ∃ v', v' = val (s.data.toList.drop (s.size - (k + 1))) x := ⟨_, rfl⟩
      rw [← hv, ← hv'] at hd
      rw [← hv]
      have e1 := u_xor (mul v x) s[n]
      rw [show mul v x ^^^ s[n] = v' by rw [hd, mul_comm x v, UInt8.xor_comm]] at e1
      have e2 : IntKind.i64.wrap ((s.size : Int) - 1) = (s.size : Int) - 1 := by rw [IntWalk.i64_in _ (by omega)]
      have e3 : IntKind.i64.wrap ((s.size : Int) - 1 - (k : Int)) = (n : Int) := by rw [IntWalk.i64_in _ (by omega)]; omega
      have hni : (n : Int) < (s.size : Int) := by omega
      have HV := Lib.hid (And.intro hv hv')
      have HN := Lib.hid hn
      clear hv hv' hd hn
      go_wp2_with fail
      go_quiet ((go_at_call 64; exact Calls.quiet_of_same (mul_still _ _ _)))
      go_wp2_with fail
      go_roundw
      case rel => exact ⟨k + 1, by omega, by go_num, by rw [HV.out.2], gdrew HB.out _⟩
      case measure => simp [intOf]; omega
    · obtain rfl : k = s.size := by omega
      have hall : val (s.data.toList.drop (s.size - s.size)) x = R := by rw [HR.out, Nat.sub_self]; rfl
      have HA := Lib.hid hall
      clear hall
      go_wp2_with fail
      go_ret
      exact ⟨by rw [← HA.out]; rfl, HB.out⟩
theorem val_take (s : ByteArray) (k : Nat) (hk : k < s.size) (x : UInt8) : val (s.data.toList.take (k + 1)) x = val (s.data.toList.take k) x ^^^ mul s[k] (pow x k) := by
  have hl : s.data.toList.length = s.size := by simp
  rw [← List.take_append_getElem (by omega : k < s.data.toList.length), val_snoc, List.length_take, Nat.min_eq_left (by omega)]
  rfl
set_option maxRecDepth 100000 in
set_option maxHeartbeats 400000 in
theorem rvalue_any (s : ByteArray) (hs : s.size ≤ maxLen) (x : UInt8) (w : World) :
    Calls Tryz.prog 43 #[.string s, .int .u8 (x.toNat : Int)] w fun e w' => e = .returned (.int .u8 ((valB s x).toNat : Int)) ∧ w = w' := by
  unfold maxLen at hs
  obtain ⟨R, hR⟩ : ∃ R, R = valB s x := ⟨_, rfl⟩
  rw [← hR]
  have HR := Lib.hid hR
  clear hR
  go_enter Tryz.func43, Tryz.ntmps43
  go_wp2_with fail
  go_loop [5, 6, 7] (fun v p i => ∃ (k : Nat), k ≤ s.size ∧ i = .int .i64 k ∧ v = .int .u8 ((val (s.data.toList.take k) x).toNat : Int) ∧ p = .int .u8 ((pow x k).toNat : Int)) (fun _ _ i => s.size - (intOf i).toNat)
  case atStart => exact ⟨0, by omega, rfl, rfl, rfl⟩
  case round =>
    obtain ⟨k, hk, rfl, rfl, rfl⟩ := hrel
    by_cases hlt : k < s.size
    · have hd := val_take s k hlt x
      obtain ⟨v, hv⟩ : ∃ v, v = val (s.data.toList.take k) x := ⟨_, rfl⟩
      obtain ⟨v', hv'⟩ : ∃ v', v' = val (s.data.toList.take (k + 1)) x := ⟨_, rfl⟩
      obtain ⟨p, hp⟩ : ∃ p, p = pow x k := ⟨_, rfl⟩
      have hpn : pow x (k + 1) = mul p x := by rw [hp]; rfl
      rw [← hv, ← hv', ← hp] at hd
      rw [← hv, ← hp]
      have e1 := u_xor v (mul s[k] p)
      rw [← hd] at e1
      have HV := Lib.hid (And.intro hv' hpn)
      clear hv hv' hd hp hpn
      go_wp2_with (go_at_call 60; refine (rmul_any _ _ _).mono ?_; rintro e w' ⟨rfl, rfl⟩)
      go_round
      case rel => exact ⟨k + 1, by omega, by go_num, by rw [HV.out.1], by rw [HV.out.2]⟩
      case measure => simp [intOf]; omega
    · obtain rfl : k = s.size := by omega
      have hall : val (s.data.toList.take s.size) x = R := by rw [HR.out, List.take_of_length_le (by simp)]; rfl
      have HA := Lib.hid hall
      clear hall
      go_wp2_with fail
      go_ret
      exact ⟨by rw [← HA.out]; rfl, rfl⟩
/-- Byte i of a text; elsewhere 0. -/
def coI (s : ByteArray) (i : Int) : UInt8 := if i < 0 then 0 else co s.data.toList i.toNat
theorem coI_nat (s : ByteArray) (i : Nat) : coI s (i : Int) = co s.data.toList i := by unfold coI; rw [if_neg (by omega)]; rfl
end Go.Proofs.YtefpfedpgedloaaGreatDoor
namespace Go.Proofs.YtefpfedpgedloaaGreatDoor
open Go.RowKit
open Gf

theorem drew_more {w wr : World} (h : ∃ m, wr = w.drewN m) (n : Nat) : ∃ m, wr.drewN n = w.drewN m := by
  obtain ⟨d, rfl⟩ := h
  exact ⟨_, World.drewN_drewN _ _ _⟩
set_option maxRecDepth 100000 in
set_option maxHeartbeats 400000 in
theorem value_q (s : ByteArray) (hs : s.size ≤ maxLen) (x : UInt8) (w : World) :
    Calls Tryz.prog 46 #[.string s, .int .u8 (x.toNat : Int)] w fun e w' => e = .returned (.int .u8 ((valB s x).toNat : Int)) ∧ ∃ m, w' = w.drewN m := by
  unfold maxLen at hs
  obtain ⟨R, hR⟩ : ∃ R, R = valB s x := ⟨_, rfl⟩
  rw [← hR]
  have HR := Lib.hid hR
  clear hR
  go_enter Tryz.func46, Tryz.ntmps46
  go_wp2_with fail
  go_loopw [5, 6, 9] (fun v _ i wr => ∃ (k : Nat), k ≤ s.size ∧ i = .int .i64 k ∧ v = .int .u8 ((val (s.data.toList.drop (s.size - k)) x).toNat : Int) ∧ ∃ m, wr = w.drewN m) (fun _ _ i _ => s.size - (intOf i).toNat)
  case atStart => exact ⟨0, by omega, rfl, by rw [Nat.sub_zero, List.drop_of_length_le (by simp)]; rfl, 0, rfl⟩
  case round =>
    obtain ⟨k, hk, rfl, rfl, hbw⟩ := hrel
    have HB := Lib.hid hbw
    clear hbw
    by_cases hlt : k < s.size
    · obtain ⟨n, hn⟩ : ∃ n, n = s.size - 1 - k := ⟨_, rfl⟩
      have hns : n < s.size := by omega
      have hd := drop_step s k n hlt hn hns x
      obtain ⟨v, hv⟩ : ∃ v, v = val (s.data.toList.drop (s.size - k)) x := ⟨_, rfl⟩
      obtain ⟨v', hv'⟩ : ∃ v', v' = val (s.data.toList.drop (s.size - (k + 1))) x := ⟨_, rfl⟩
      rw [← hv, ← hv'] at hd
      rw [← hv]
      have e1 := u_xor (mul v x) s[n]
      rw [show mul v x ^^^ s[n] = v' by rw [hd, mul_comm x v, UInt8.xor_comm]] at e1
      have e2 : IntKind.i64.wrap ((s.size : Int) - 1) = (s.size : Int) - 1 := by rw [IntWalk.i64_in _ (by omega)]
      have e3 : IntKind.i64.wrap ((s.size : Int) - 1 - (k : Int)) = (n : Int) := by rw [IntWalk.i64_in _ (by omega)]; omega
      have hni : (n : Int) < (s.size : Int) := by omega
      have HV := Lib.hid (And.intro hv hv')
      have HN := Lib.hid hn
      clear hv hv' hd hn
      go_wp2_with fail
      go_quiet ((go_at_call 64; exact Calls.quiet_of_same (mul_still _ _ _)))
      go_wp2_with fail
      go_roundw
      case rel => exact ⟨k + 1, by omega, by go_num, by rw [HV.out.2], drew_more HB.out _⟩
      case measure => simp [intOf]; omega
    · obtain rfl : k = s.size := by omega
      have hall : val (s.data.toList.drop (s.size - s.size)) x = R := by rw [HR.out, Nat.sub_self]; rfl
      have HA := Lib.hid hall
      clear hall
      go_wp2_with fail
      go_ret
      exact ⟨by rw [← HA.out]; rfl, HB.out⟩
end Go.Proofs.YtefpfedpgedloaaGreatDoor
namespace Go.Proofs.YtefpfedpgedloaaGreatDoor
open Go.RowKit
open Gf

theorem bcells_one (l : List UInt8) : (bcells l).toArray.all (·.oneCell') = true := by
  rw [Array.all_eq_true_iff_forall_mem]
  intro x hx
  simp only [bcells, List.mem_toArray, List.mem_map] at hx
  obtain ⟨b, _, rfl⟩ := hx
  rfl
theorem bcells_get (l : List UInt8) (i : Nat) (h : i < l.length) : (bcells l)[i]? = some (.int .u8 ((co l i).toNat : Int)) := by
  simp [bcells, co, List.getD_eq_getElem?_getD, h]
/-- The first m multiples. -/
def mulTo (c : UInt8) (m : Nat) : List UInt8 := (List.range 256).map fun i => if i < m then mul c (UInt8.ofNat i) else 0
theorem mulTo_length (c : UInt8) (m : Nat) : (mulTo c m).length = 256 := by unfold mulTo; rw [List.length_map, List.length_range]
theorem co_mulTo (c : UInt8) (m i : Nat) (hi : i < 256) : co (mulTo c m) i = if i < m then mul c (UInt8.ofNat i) else 0 := by
  unfold co mulTo
  rw [List.getD_eq_getElem?_getD, List.getElem?_map, List.getElem?_range hi]; rfl
theorem mulTo_zero (c : UInt8) : mulTo c 0 = List.replicate 256 0 := by
  unfold mulTo
  apply List.ext_getElem?
  intro i
  rw [List.getElem?_map, List.getElem?_replicate]
  by_cases hi : i < 256
  · rw [List.getElem?_range hi, if_pos hi]; rfl
  · rw [if_neg hi, List.getElem?_eq_none (by rw [List.length_range]; omega)]; rfl
theorem mulTo_step (c : UInt8) (m : Nat) (hm : m < 256) : (mulTo c m).set m (mul c (UInt8.ofNat m)) = mulTo c (m + 1) := by
  apply List.ext_getElem?
  intro i
  unfold mulTo
  rw [List.getElem?_set, List.length_map, List.length_range, List.getElem?_map, List.getElem?_map]
  by_cases hi : i < 256
  · rw [List.getElem?_range hi]
    by_cases e : m = i
    · subst e; rw [if_pos rfl, if_pos hm]; simp
    · rw [if_neg e]
      have : (i < m) = (i < m + 1) := by apply propext; omega
      simp [this]
  · rw [if_neg (by omega), List.getElem?_eq_none (by rw [List.length_range]; omega)]; rfl
theorem mulTo_one (c : UInt8) : mulTo c 1 = mulTo c 0 := by
  rw [← mulTo_step c 0 (by decide)]
  rw [show mul c (UInt8.ofNat 0) = 0 from mul_zero c]
  unfold mulTo
  apply List.ext_getElem?
  intro i
  rw [List.getElem?_set, List.length_map, List.length_range]
  by_cases e : 0 = i
  · subst e; rw [if_pos rfl, if_pos (by decide), List.getElem?_map, List.getElem?_range (by decide)]; rfl
  · rw [if_neg e]
theorem disjoint_sums : ((List.range 8).all fun j => (List.range (2 ^ j)).all fun i => (i ^^^ 2 ^ j) == 2 ^ j + i) = true := by decide +kernel
theorem sum_bytes {j i : Nat} (hj : j < 8) (hi : i < 2 ^ j) : UInt8.ofNat i ^^^ UInt8.ofNat (2 ^ j) = UInt8.ofNat (2 ^ j + i) := by
  have h := eq_of_beq (List.all_eq_true.1 (List.all_eq_true.1 disjoint_sums j (List.mem_range.2 hj)) i (List.mem_range.2 hi))
  have hp : 2 ^ j ≤ 128 := Nat.pow_le_pow_right (n := 2) (by decide) (show j ≤ 7 by omega)
  apply UInt8.toNat_inj.1
  rw [UInt8.toNat_xor, UInt8.toNat_ofNat', UInt8.toNat_ofNat', UInt8.toNat_ofNat', Nat.mod_eq_of_lt (by omega), Nat.mod_eq_of_lt (by omega), Nat.mod_eq_of_lt (by omega), h]
theorem zb256 (w : World) : (zeroValue 168).run Tryz.prog w = .ok (.agg (bcells (List.replicate 256 0)).toArray) w := (zero_of_info (P := Tryz.prog) (t := 168) (v := .agg (bcells (List.replicate 256 0)).toArray) (n := 256) (by kernel_rfl)).1 w
/-- All multiples. -/
def mults (c : UInt8) : List UInt8 := mulTo c 256
theorem mults_length (c : UInt8) : (mults c).length = 256 := mulTo_length c 256
theorem co_mults (c x : UInt8) : co (mults c) x.toNat = mul c x := by
  unfold mults
  rw [co_mulTo c 256 _ x.toNat_lt, if_pos x.toNat_lt, UInt8.ofNat_toNat]
set_option maxRecDepth 100000 in
set_option maxHeartbeats 1000000 in
theorem multiples_any (c : UInt8) (w : World) :
    Calls Tryz.prog 120 #[.int .u8 (c.toNat : Int)] w fun e w' => e = .returned (.agg (bcells (mults c)).toArray) ∧ Below w.heap.size w w' := by
  have hz := zb256
  obtain ⟨Z, hZ⟩ : ∃ Z, Z = bcells (List.replicate 256 0) := ⟨_, rfl⟩
  rw [← hZ] at hz
  have hZs : Z.toArray.size = 256 := by rw [hZ, List.size_toArray, bcells_length, List.length_replicate]
  have hb1 : Below w.heap.size w ((w.alloc (.cells Z.toArray 168)).alloc (.cells Z.toArray 168)) := ((Below.refl _ _).alloc (Nat.le_refl _) _).alloc (by simp) _
  have zz : (w.alloc (.cells Z.toArray 168)).heap.size = w.heap.size + 1 := by simp
  have hr1 : RowV 168 ((w.alloc (.cells Z.toArray 168)).alloc (.cells Z.toArray 168)) w.heap.size Z :=
    RowV.alloc (heap_alloc_new w (.cells Z.toArray 168)) _
  have hr2 : RowV 168 ((w.alloc (.cells Z.toArray 168)).alloc (.cells Z.toArray 168)) (w.heap.size + 1) (bcells (mulTo c 1)) := by
    have := heap_alloc_new (w.alloc (.cells Z.toArray 168)) (.cells Z.toArray 168)
    rw [zz] at this
    rw [mulTo_one, mulTo_zero, ← hZ]
    exact this
  have H0 := Lib.hid (And.intro hr2 (And.intro hr1 hb1))
  have HZ := Lib.hid hZs
  clear hr1 hr2 hb1 zz hZ hZs
  go_enter Tryz.func120, Tryz.ntmps120
  go_wp2_with fail
  generalize World.alloc (World.alloc w _) _ = w1 at *
  clear hz
  go_loopw [4, 5, 6, 15, 16] (fun b _ _ _ _ wr => ∃ (j B : Nat), j ≤ 8 ∧ B = 2 ^ j ∧ b = .int .i64 (B : Int) ∧ RowV 168 wr (w.heap.size + 1) (bcells (mulTo c B)) ∧ RowV 168 wr w.heap.size Z ∧ Below w.heap.size w wr) (fun b _ _ _ _ _ => 256 - (intOf b).toNat)
  case atStart => exact ⟨0, 1, by omega, rfl, rfl, H0.out.1, H0.out.2.1, H0.out.2.2⟩
  case round =>
    clear H0
    obtain ⟨j, B, hj, hB, rfl, hr, hz, hb⟩ := hrel
    have hBle : B ≤ 256 := by rw [hB]; exact Nat.pow_le_pow_right (n := 2) (by decide) hj
    have hB1 : 1 ≤ B := by rw [hB]; exact Nat.one_le_two_pow
    by_cases hlt : B < 256
    · have hj8 : j < 8 := by
        rcases Nat.lt_or_ge j 8 with h | h
        · exact h
        · obtain rfl : j = 8 := by omega
          exact absurd hlt (by rw [hB]; decide)
      have hnext : B * 2 = 2 ^ (j + 1) := by rw [hB, Nat.pow_succ]
      have hsum : ∀ i, i < B → UInt8.ofNat i ^^^ UInt8.ofNat B = UInt8.ofNat (B + i) := fun i hi => by rw [hB] at hi ⊢; exact sum_bytes hj8 hi
      obtain ⟨bb, hbb⟩ := byte_of hlt
      have hbo : UInt8.ofNat B = bb := by rw [← hbb, UInt8.ofNat_toNat]
      rw [hbo] at hsum
      have hB128 : B ≤ 128 := by rw [hB]; exact Nat.pow_le_pow_right (n := 2) (by decide) (show j ≤ 7 by omega)
      have HJ := Lib.hid (And.intro hnext (And.intro hsum hj8))
      have hcall : ∀ w, Calls Tryz.prog 64 #[.int .u8 (c.toNat : Int), .int .u8 (B : Int)] w fun e w' => e = .returned (.int .u8 ((mul c bb).toNat : Int)) ∧ w = w' := fun w => by rw [← hbb]; exact mul_any c bb w
      have HC := Lib.hid hcall
      have H := Lib.hid (And.intro hr (And.intro hz hb))
      clear hr hz hb hsum hnext hcall hbo hbb hB hj hj8
      go_wp2_with fail
      refine (HC.out _).mono ?_
      rintro e w' ⟨rfl, rfl⟩
      go_wp2_with fail
      go_loopw [6, 16] (fun _ i wr => ∃ k : Nat, k ≤ B ∧ i = .int .i64 (k : Int) ∧ RowV 168 wr (w.heap.size + 1) (bcells (mulTo c (B + k))) ∧ RowV 168 wr w.heap.size Z ∧ Below w.heap.size w wr) (fun _ i _ => B - (intOf i).toNat)
      case atStart => exact ⟨0, by omega, rfl, H.out.1, H.out.2.1, H.out.2.2⟩
      case round =>
        clear H
        obtain ⟨k, hk, rfl, hr, hz, hb⟩ := hrel
        by_cases hlt2 : k < B
        · have c1 := hr.cell k _ (bcells_get _ k (by rw [mulTo_length]; omega))
          rw [co_mulTo c _ k (by omega), if_pos (by omega)] at c1
          have c2 := hr.cell (B + k) _ (bcells_get _ (B + k) (by rw [mulTo_length]; omega))
          generalize (co (mulTo c (B + k)) (B + k)).toNat = old at c2
          have f2 := hr.frozen (B + k)
          obtain ⟨x, hx⟩ : ∃ x, x = mul c (UInt8.ofNat k) := ⟨_, rfl⟩
          obtain ⟨y, hy⟩ : ∃ y, y = mul c bb := ⟨_, rfl⟩
          obtain ⟨z, hz2⟩ : ∃ z, z = mul c (UInt8.ofNat (B + k)) := ⟨_, rfl⟩
          have e1 := u_xor x y
          rw [show x ^^^ y = z by rw [hx, hy, hz2, ← HJ.out.2.1 k hlt2, mul_add]] at e1
          have hp := hr.put (B + k) (.int .u8 (z.toNat : Int))
          rw [hz2, ← bcells_set, mulTo_step c (B + k) (by omega), ← hz2] at hp
          have hpz := hz.other ⟨w.heap.size + 1, B + k, none⟩ (.int .u8 (z.toNat : Int)) (by simp)
          have hpb := hb.setCell (p := ⟨w.heap.size + 1, B + k, none⟩) (by simp) (.int .u8 (z.toNat : Int))
          rw [← hx] at c1
          rw [← hy]
          have HP := Lib.hid (And.intro hp (And.intro hpz hpb))
          clear hr hz hb hp hpz hpb hx hz2 hy
          go_wp2_with fail
          go_roundw
          case rel => exact ⟨k + 1, by omega, by go_num, HP.out.1, HP.out.2.1, HP.out.2.2⟩
          case measure => simp [intOf]; omega
        · obtain rfl : k = B := by omega
          have HP := Lib.hid (And.intro hr (And.intro hz hb))
          clear hr hz hb
          go_wp2_with fail
          go_roundw
          case rel =>
            refine ⟨j + 1, k * 2, by have := HJ.out.2.2; omega, HJ.out.1, by go_num, ?_, HP.out.2.1, HP.out.2.2⟩
            rw [Nat.mul_two]; exact HP.out.1
          case measure => simp [intOf]; omega
    · obtain rfl : B = 256 := by omega
      have hms : (bcells (mults c)).toArray.size = 256 := by rw [List.size_toArray, bcells_length, mults_length]
      have HP := Lib.hid (And.intro hr (And.intro hz (And.intro hb (And.intro hms (bcells_one (mults c))))))
      clear hr hz hb hms hB
      go_wp2_with (first
        | (refine wpList_load_row rfl 168 _ rfl (w.heap.size + 1) rfl 168 (bcells (mults c)).toArray (0, 0) _ HP.out.1 Tryz.underlying168 rfl (by rw [HP.out.2.2.2.1]; kernel_rfl) ?_)
        | (refine wpList_store_row rfl 168 _ _ rfl w.heap.size rfl 168 Z.toArray (bcells (mults c)).toArray rfl HP.out.2.1 (by rw [HP.out.2.2.2.1]; kernel_rfl) (by rw [HP.out.2.2.2.1, HZ.out]) HP.out.2.2.2.2 ?_))
      refine bodyPost_ret (results_cell_row rfl _ _ w.heap.size 168 (bcells (mults c)).toArray (0, 0) _ rfl (setRow_heap _ _ _ _ _ _ HP.out.2.1) Tryz.underlying168 rfl (by rw [HP.out.2.2.2.1]; kernel_rfl)) rfl ⟨rfl, ?_⟩
      exact below_setRow HP.out.2.2.1 _ _ (Nat.le_refl _)
end Go.Proofs.YtefpfedpgedloaaGreatDoor
namespace Go.Proofs.YtefpfedpgedloaaGreatDoor
open Go.RowKit
open Gf

/-- Only block g is another. -/
structure Only (g : Nat) (w w' : World) : Prop where
  below : Below g w w'
  kept : ∀ j, j < w.heap.size → j ≠ g → w'.heap[j]? = w.heap[j]?
theorem Only.of {g : Nat} {w w' : World} (hb : Below w.heap.size w w') (hg : g ≤ w.heap.size) : Only g w w' := ⟨hb.mono hg, fun j hj _ => hb.block j hj⟩
theorem Only.trans {g : Nat} {w X Y : World} (h : Only g w X) (k : Only g X Y) : Only g w Y :=
  ⟨h.below.trans k.below, fun j hj he => (k.kept j (Nat.lt_of_lt_of_le hj h.below.size) he).trans (h.kept j hj he)⟩
theorem Only.drew {g : Nat} {w X : World} (h : Only g w X) : Only g w X.drew := ⟨h.below.drew, h.kept⟩
theorem Only.put {g : Nat} {w X : World} (h : Only g w X) (i : Nat) (v : Value) : Only g w (X.setCell ⟨g, i, none⟩ v) :=
  ⟨h.below.setCell (p := ⟨g, i, none⟩) (Nat.le_refl _) v, fun j hj he => by rw [heap_setCell_other _ _ _ _ he]; exact h.kept j hj he⟩
theorem Only.mono {g B : Nat} {w X : World} (h : Only g w X) (hB : B ≤ g) : Below B w X := h.below.mono hB
theorem OwnB.only {B g g2 : Nat} {w w' : World} {cap : Nat} {l : List UInt8} (h : OwnB B w (some ⟨g2, 0, none⟩) cap l) (ho : Only g w w') (he : g2 ≠ g) : OwnB B w' (some ⟨g2, 0, none⟩) cap l := by
  obtain ⟨h1, h2⟩ := h
  refine ⟨h1, ?_⟩
  rcases h2 with h2 | ⟨k, c, cur, e, hB, hg, h3⟩
  · exact .inl h2
  · have hk : k = g2 := by
      injection e with e1 _ _
      injection e1 with e1
      injection e1 with e1 _ _
      exact e1.symm
    exact .inr ⟨k, c, cur, e, hB, (ho.kept k (Array.getElem?_eq_some_iff.1 hg).1 (hk ▸ he)).trans hg, h3⟩
/-- The products of the first k bytes, added from place i on. -/
def addK (l : List UInt8) (i : Nat) (p : List UInt8) (c : UInt8) : Nat → List UInt8
  | 0 => l
  | k + 1 => (addK l i p c k).set (i + k) (co (addK l i p c k) (i + k) ^^^ mul c (co p k))
theorem addK_length (l : List UInt8) (i : Nat) (p : List UInt8) (c : UInt8) : ∀ k, (addK l i p c k).length = l.length
  | 0 => rfl
  | k + 1 => by rw [addK, List.length_set, addK_length l i p c k]
theorem co_addK (l : List UInt8) (i : Nat) (p : List UInt8) (c : UInt8) : ∀ k, i + k ≤ l.length → ∀ t, co (addK l i p c k) t = co l t ^^^ (if i ≤ t ∧ t < i + k then mul c (co p (t - i)) else 0)
  | 0, _, t => by
    have h : ¬ (i ≤ t ∧ t < i + 0) := by omega
    rw [if_neg h, addK, UInt8.xor_zero]
  | k + 1, h, t => by
    have ih := co_addK l i p c k (by omega)
    rw [addK, co_set (by rw [addK_length]; omega)]
    by_cases e : t = i + k
    · subst e
      have h1 : ¬ (i ≤ i + k ∧ i + k < i + k) := by omega
      have h2 : i ≤ i + k ∧ i + k < i + (k + 1) := by omega
      rw [if_pos rfl, ih, if_neg h1, if_pos h2, UInt8.xor_zero, show i + k - i = k by omega]
    · rw [if_neg e, ih]
      by_cases h1 : i ≤ t ∧ t < i + k
      · have h2 : i ≤ t ∧ t < i + (k + 1) := by omega
        rw [if_pos h1, if_pos h2]
      · have h2 : ¬ (i ≤ t ∧ t < i + (k + 1)) := by omega
        rw [if_neg h1, if_neg h2]
/-- All products added. -/
def addAt (l : List UInt8) (i : Nat) (p : List UInt8) (c : UInt8) : List UInt8 := addK l i p c p.length
theorem addAt_length (l : List UInt8) (i : Nat) (p : List UInt8) (c : UInt8) : (addAt l i p c).length = l.length := addK_length _ _ _ _ _
theorem co_addAt {l : List UInt8} {i : Nat} {p : List UInt8} (c : UInt8) (h : i + p.length ≤ l.length) (t : Nat) : co (addAt l i p c) t = co l t ^^^ (if i ≤ t then mul c (co p (t - i)) else 0) := by
  unfold addAt
  rw [co_addK l i p c p.length h t]
  by_cases h1 : i ≤ t
  · by_cases h2 : t < i + p.length
    · rw [if_pos ⟨h1, h2⟩, if_pos h1]
    · rw [if_neg (fun x => h2 x.2), if_pos h1, co_far (p := p) (by omega), mul_zero]
  · rw [if_neg (fun x => h1 x.1), if_neg h1]
set_option maxRecDepth 100000 in
set_option maxHeartbeats 1000000 in
theorem addTimes_any {B : Nat} {w : World} {g cap : Nat} {l : List UInt8} (hown : OwnB B w (some ⟨g, 0, none⟩) cap l) (i n cc : Nat) (p : ByteArray) (hp : p.size ≤ 1000000) (hn : p.size ≤ n) (hi : i + p.size ≤ l.length) (c : UInt8) :
    Calls Tryz.prog 111 #[.slice (some ⟨g, i, none⟩) n cc, .string p, .int .u8 (c.toNat : Int)] w fun e w' => e = .returned (.tuple #[]) ∧ OwnB B w' (some ⟨g, 0, none⟩) cap (addAt l i p.data.toList c) ∧ Only g w w' := by
  have hgl := (OwnB.size hown).2
  obtain ⟨M, hM⟩ : ∃ M, M = (bcells (mults c)).toArray := ⟨_, rfl⟩
  have hMs : M.size = 256 := by rw [hM, List.size_toArray, bcells_length, mults_length]
  have hMo := bcells_one (mults c)
  rw [← hM] at hMo
  have hcall : ∀ w, Calls Tryz.prog 120 #[.int .u8 (c.toNat : Int)] w fun e w' => e = .returned (.agg M) ∧ Below w.heap.size w w' := fun w => by rw [hM]; exact multiples_any c w
  have hz := zb256
  obtain ⟨Z, hZ⟩ : ∃ Z, Z = (bcells (List.replicate 256 0)).toArray := ⟨_, rfl⟩
  rw [← hZ] at hz
  have hZs : Z.size = 256 := by rw [hZ, List.size_toArray, bcells_length, List.length_replicate]
  obtain ⟨R, hR⟩ : ∃ R, R = addAt l i p.data.toList c := ⟨_, rfl⟩
  rw [← hR]
  have HM := Lib.hid (And.intro hM (And.intro hMs (And.intro hMo (And.intro hZs (And.intro hcall hR)))))
  have HO := Lib.hid (And.intro hown hgl)
  clear hM hMs hMo hZ hZs hcall hR hown hgl
  go_enter Tryz.func111, Tryz.ntmps111
  go_wp2_with fail
  refine (HM.out.2.2.2.2.1 _).mono ?_
  rintro e w1 ⟨rfl, hb1⟩
  have hg1 : g < w1.heap.size := Nat.lt_of_lt_of_le HO.out.2 hb1.size
  have hr1 : (w1.alloc (.cells Z 168)).heap[w1.heap.size]? = some (.cells Z 168 (0, 0)) := heap_alloc_new _ _
  have hb2 : Below w.heap.size w (w1.alloc (.cells Z 168)) := hb1.alloc hb1.size _
  have HR := Lib.hid (And.intro hr1 (And.intro hb2 (And.intro hb1.size hg1)))
  clear hr1 hb2 hb1 hg1
  go_wp2_with (refine wpList_store_row rfl 168 _ _ rfl w1.heap.size rfl 168 Z M rfl HR.out.1 (by rw [HM.out.2.1]; kernel_rfl) (by rw [HM.out.2.1, HM.out.2.2.2.1]) HM.out.2.2.1 ?_)
  have hbw : Below w.heap.size w ((w1.alloc (.cells Z 168)).setRow w1.heap.size M) := below_setRow HR.out.2.1 _ _ HR.out.2.2.1
  have hrow : RowV 168 ((w1.alloc (.cells Z 168)).setRow w1.heap.size M) w1.heap.size (bcells (mults c)) := by
    have := setRow_heap _ _ _ M _ _ HR.out.1
    unfold RowV
    rw [← HM.out.1]
    exact this
  have hne : g ≠ w1.heap.size := by have := HR.out.2.2.2; omega
  have H0 := Lib.hid (And.intro (HO.out.1.call hbw) (And.intro hrow (Only.of hbw (show g ≤ w.heap.size from Nat.le_of_lt HO.out.2))))
  have HN := Lib.hid (And.intro hne HO.out.2)
  clear hbw hrow hne HR hz
  generalize World.setRow _ _ _ = W0 at *
  generalize w1.heap.size = m at *
  go_loopw [7, 12] (fun _ j wr => ∃ k : Nat, k ≤ p.size ∧ j = .int .i64 (k : Int) ∧ OwnB B wr (some ⟨g, 0, none⟩) cap (addK l i p.data.toList c k) ∧ RowV 168 wr m (bcells (mults c)) ∧ Only g w wr) (fun _ j _ => p.size - (intOf j).toNat)
  case atStart => exact ⟨0, by omega, rfl, H0.out.1, H0.out.2.1, H0.out.2.2⟩
  case round =>
    clear H0
    obtain ⟨k, hk, rfl, ho, hr, hb⟩ := hrel
    by_cases hlt : k < p.size
    · have hlen := addK_length l i p.data.toList c k
      have c1 := ho.cellAt (i + k) (by omega)
      have f1 := ho.frozenAt (i + k)
      have c2 := hr.cell p[k].toNat _ (bcells_get _ p[k].toNat (by rw [mults_length]; exact p[k].toNat_lt))
      rw [co_mults] at c2
      have hkp := co_at p k hlt
      obtain ⟨x, hx⟩ : ∃ x, x = (addK l i p.data.toList c k).getD (i + k) 0 := ⟨_, rfl⟩
      obtain ⟨y, hy⟩ : ∃ y, y = mul c p[k] := ⟨_, rfl⟩
      obtain ⟨z, hzz⟩ : ∃ z, z = x ^^^ y := ⟨_, rfl⟩
      have e1 := u_xor x y
      rw [← hzz] at e1
      rw [← hx] at c1
      rw [← hy] at c2
      have hbl := p[k].toNat_lt
      have hbi : (p[k].toNat : Int) < 256 := by omega
      have hp1 := ho.drew.put (i + k) z
      have hst : (addK l i p.data.toList c k).set (i + k) z = addK l i p.data.toList c (k + 1) := by
        rw [hzz, hx, hy, ← hkp]; rfl
      rw [hst] at hp1
      have hpr := hr.drew.other ⟨g, i + k, none⟩ (.int .u8 (z.toNat : Int)) (by simpa using HN.out.1)
      have hpo := hb.drew.put (i + k) (.int .u8 (z.toNat : Int))
      have c1' : wr.drew.cell? ⟨g, i + k, none⟩ = some (.int .u8 (x.toNat : Int)) := c1
      have f1' : wr.drew.frozen? ⟨g, i + k, none⟩ = false := f1
      have c2' : wr.drew.cell? ⟨m, p[k].toNat, none⟩ = some (.int .u8 (y.toNat : Int)) := c2
      have hkn : (k : Int) < (n : Int) := by omega
      have HP := Lib.hid (And.intro hp1 (And.intro hpr hpo))
      clear ho hr hb hp1 hpr hpo hst hzz hx hy hkp hlen hbl
      go_wp2_with fail
      refine wp_region_still_tail 11 (by kernel_rfl) (by kernel_rfl) ?_
      simp only [List.take_succ_cons, List.take_zero, List.drop_succ_cons, List.drop_zero]
      repeat still_step
      refine wpStill_nil ?_
      change wpList _ _ _ _ _ wr.drew
      clear c1 f1 c2
      generalize wr.drew = w3 at *
      go_wp2_with fail
      go_roundw
      case rel => exact ⟨k + 1, by omega, by go_num, HP.out.1, HP.out.2.1, HP.out.2.2⟩
      case measure => simp [intOf]; omega
    · obtain rfl : k = p.size := by omega
      have hall : addK l i p.data.toList c p.size = R := by rw [HM.out.2.2.2.2.2]; unfold addAt; congr 1
      rw [hall] at ho
      have HP := Lib.hid (And.intro ho hb)
      clear ho hr hb hall
      go_wp2_with fail
      go_end0
      exact ⟨rfl, HP.out.1, HP.out.2⟩
end Go.Proofs.YtefpfedpgedloaaGreatDoor
namespace Go.Proofs.YtefpfedpgedloaaGreatDoor
open Go.RowKit

theorem run_firstCells_take {P : Program} (w : World) (size n : Nat) (s : ByteArray) : (Builtin.firstCells size n (.string s)).run P w = .ok ((s.data.toList.take n).map fun b => Value.int .u8 b.toNat).toArray w := by
  simp only [Builtin.firstCells, Sem.run_pure]
  congr 1
  apply Array.ext'
  simp
theorem wpList_copy_str {P : Program} {w : World} {ops : Array Oper} {rest : List Oper} {o : Oper} {a : Act} {Q : Exit → Act → World → Prop} (hgd : o.guard = none) (d s : Operand) (dT sT : TypeId)
    (ho : o.op = .call { callee := .builtin .copy, args := #[d, s], argTypes := #[dT, sT] }) (elem : TypeId) (hu : P.underlying dT = some (.slice elem)) (hsz : (P.info? elem).map (·.size) = some 1)
    (g off dLen dCap : Nat) (x : ByteArray) (hd : a.eval d = .slice (some ⟨g, off, none⟩) dLen dCap) (hs : a.eval s = .string x)
    (cur : Array Value) (t : TypeId) (hg : w.heap[g]? = some (.cells cur t (0, 0))) (n : Nat) (hn : n = Nat.min x.size dLen) (hfit : off + dLen ≤ cur.size)
    (h : ∀ vs : List Value, vs = (x.data.toList.take n).map (fun b => Value.int .u8 b.toNat) → wpList P ops Q rest (a.put o.dst (goInt n)) (w.setRow g (cur.toList.take off ++ (vs ++ cur.toList.drop (off + n))).toArray)) : wpList P ops Q (o :: rest) a w := by
  refine wpList_plain hgd fun K hK => ?_
  have hx : x.data.toList.length = x.size := rfl
  obtain ⟨vs, hvs⟩ : ∃ vs : List Value, vs = (x.data.toList.take n).map (fun b => Value.int .u8 b.toNat) := ⟨_, rfl⟩
  have hfc := fun size => run_firstCells_take (P := P) w size n x
  rw [← hvs] at hfc
  have hlen : vs.length = n := by
    rw [hvs, List.length_map, List.length_take, hx, hn]
    exact Nat.min_eq_left (Nat.min_le_left _ _)
  have hnd : n ≤ dLen := by rw [hn]; exact Nat.min_le_right _ _
  have hst := run_storeCells_at P g off t vs 0 cur w hg (by rw [hlen]; omega) (fun v hv => by
    rw [hvs] at hv
    simp only [List.mem_map] at hv
    obtain ⟨b, _, rfl⟩ := hv
    rfl)
  have h' := h vs hvs
  clear h hvs
  have hrun : (Builtin.copy_ #[dT, sT] o.type #[.slice (some ⟨g, off, none⟩) dLen dCap, .string x]).run P w =
      .ok (goInt n) (w.setRow g (cur.toList.take off ++ (vs ++ cur.toList.drop (off + n))).toArray) := by
    cases hq : P.info? elem with
    | none => simp [hq] at hsz
    | some i =>
      rw [Nat.add_zero, hlen] at hst
      simp [Builtin.copy_, run_underlying hu, Builtin.lenOf, hfc, sizeOf, typeInfo, hq, ← hn, hst]
  unfold Oper.wp
  simp [execOp, ho, resolve, invoke, builtin, hd, hs, hrun, Result.andThen]
  exact hK _ _ h'

theorem wpList_copy_own_text {w : World} {ops : Array Oper} {rest : List Oper} {o : Oper} {a : Act} {Q : Exit → Act → World → Prop} (hgd : o.guard = none) (d s : Operand) (dT sT : TypeId)
    (ho : o.op = .call { callee := .builtin .copy, args := #[d, s], argTypes := #[dT, sT] }) (hu : Tryz.prog.underlying dT = some (.slice 5))
    {B : Nat} {w0 : World} {g cap n : Nat} {l : List UInt8} (x : ByteArray) (hyp : Hid (OwnB B w (some ⟨g, 0, none⟩) cap l ∧ l.length = n ∧ x.size ≤ n ∧ Below B w0 w)) (hd : a.eval d = .slice (some ⟨g, 0, none⟩) n cap) (hs : a.eval s = .string x)
    (h : ∀ w', Hid (OwnB B w' (some ⟨g, 0, none⟩) cap (x.data.toList ++ l.drop x.size) ∧ Below B w0 w') → wpList Tryz.prog ops Q rest (a.put o.dst (goInt x.size)) w') : wpList Tryz.prog ops Q (o :: rest) a w := by
  obtain ⟨hown, hl, hx, hb⟩ := hyp.out
  subst hl
  obtain ⟨h1, h2⟩ := hown
  rcases h2 with ⟨e, _⟩ | ⟨k, c, cur, e, hB, hg, hn, hc, hsz, ht⟩
  · injection e with e1 _ _
    injection e1
  · have e' := e
    injection e' with e1 _ e3
    injection e1 with e1
    injection e1 with e1 _ _
    subst e1 e3
    refine wpList_copy_str hgd d s dT sT ho 5 hu (by kernel_rfl) g 0 l.length cap x hd hs cur 5 hg x.size (Nat.min_eq_left hx).symm (by omega) (fun vs hvs => ?_)
    refine h _ (Lib.hid ⟨⟨by simp [bcells], .inr ⟨g, cap, _, rfl, hB, setRow_heap _ _ _ _ _ _ hg, ?_, hc, ?_, ?_⟩⟩, ?_⟩)
    · rw [List.length_append, List.length_drop]
      have : x.data.toList.length = x.size := by simp
      omega
    · have hv : vs.length = x.size := by rw [hvs, List.length_map, List.length_take]; simp
      simp [hv]; omega
    · have hv : vs = bcells x.data.toList := by
        rw [hvs, List.take_of_length_le (by simp)]; rfl
      have hvl : vs.length = x.size := by rw [hv, bcells_length]; simp
      have hlen : (x.data.toList ++ l.drop x.size).length = l.length := by
        rw [List.length_append, List.length_drop]
        have : x.data.toList.length = x.size := by simp
        omega
      rw [hlen, Nat.mul_one] at *
      rw [List.take_zero, List.nil_append, Nat.zero_add]
      show (vs ++ cur.toList.drop x.size).take l.length = _
      rw [List.take_append, List.take_of_length_le (by omega), hvl, ← List.drop_take, ht]
      rw [hv]
      simp [bcells, List.map_drop]
    · exact below_setRow hb _ _ hB
end Go.Proofs.YtefpfedpgedloaaGreatDoor
namespace Go.Proofs.YtefpfedpgedloaaGreatDoor
open Go.RowKit
open Gf

/-- Sum, product, and product with a byte, trimmed. -/
def sumB (a b : ByteArray) : ByteArray := str (trimL (addP a.data.toList b.data.toList))
def mulB (a b : ByteArray) : ByteArray := str (trimL (mulP a.data.toList b.data.toList))
def scaleB (p : ByteArray) (c : UInt8) : ByteArray := str (trimL (p.data.toList.map (mul · c)))
theorem sumB_size (a b : ByteArray) : (sumB a b).size ≤ max a.size b.size := by
  unfold sumB; rw [str_size]
  have := trimL_length (addP a.data.toList b.data.toList)
  rw [addP_length] at this
  simpa using this
theorem mulB_size (a b : ByteArray) (h : 0 < a.size + b.size) : (mulB a b).size ≤ a.size + b.size - 1 := by
  unfold mulB; rw [str_size]
  refine trimL_len_le (fun i hi => mulP_length _ _ i ?_)
  have h1 : a.data.toList.length = a.size := by simp
  have h2 : b.data.toList.length = b.size := by simp
  omega
theorem scaleB_size (p : ByteArray) (c : UInt8) : (scaleB p c).size ≤ p.size := by
  unfold scaleB; rw [str_size]
  have := trimL_length (p.data.toList.map (mul · c))
  simpa using this
theorem data_len (s : ByteArray) : s.data.toList.length = s.size := by simp
theorem co_zeros_app (p : List UInt8) (n i : Nat) : co (p ++ List.replicate n 0) i = co p i := by
  unfold co
  rw [List.getD_eq_getElem?_getD, List.getD_eq_getElem?_getD]
  rcases Nat.lt_or_ge i p.length with h | h
  · rw [List.getElem?_append_left h]
  · rw [List.getElem?_append_right h, List.getElem?_eq_none h, List.getElem?_replicate]
    split <;> rfl
/-- What stands in memory behind the sum's loop. -/
def sumK (a b : ByteArray) (n : Nat) : Nat → List UInt8 := addK (a.data.toList ++ (List.replicate n 0).drop a.size) 0 b.data.toList 1
theorem sumK_all {a b : ByteArray} {n : Nat} (ha : a.size ≤ n) (hb : b.size ≤ n) : trimB (str (sumK a b n b.size)) = sumB a b := by
  unfold trimB sumB
  rw [str_data]
  congr 1
  refine trimL_same (fun i => ?_)
  rw [show sumK a b n b.size = addAt (a.data.toList ++ (List.replicate n 0).drop a.size) 0 b.data.toList 1 by unfold sumK addAt; rw [data_len],
    co_addAt, co_addP, List.drop_replicate, co_zeros_app, if_pos (Nat.zero_le _), one_mul, Nat.sub_zero]
  rw [List.length_append, List.length_drop, List.length_replicate, data_len, data_len]; omega
set_option maxRecDepth 100000 in
set_option maxHeartbeats 1000000 in
theorem padd_any (a b : ByteArray) (ha : a.size ≤ 100000) (hb : b.size ≤ 100000) (w : World) :
    Calls Tryz.prog 79 #[.string a, .string b] w fun e w' => e = .returned (.string (sumB a b)) ∧ Below w.heap.size w w' := by
  obtain ⟨n, hn⟩ : ∃ n, n = max a.size b.size := ⟨_, rfl⟩
  have hm : max (a.size : Int) (b.size : Int) = (n : Int) := by omega
  have hna : a.size ≤ n := by omega
  have hnb : b.size ≤ n := by omega
  have hn2 : n ≤ 100000 := by omega
  have hall := sumK_all hna hnb
  obtain ⟨w0, hmk, hown, hb0⟩ := make_bytes w n (by omega)
  have HC := Lib.hid (show OwnB w.heap.size w0 (some ⟨w.heap.size, 0, none⟩) n (List.replicate n 0) ∧ (List.replicate n (0 : UInt8)).length = n ∧ a.size ≤ n ∧ Below w.heap.size w w0 from ⟨hown, List.length_replicate, hna, hb0⟩)
  have HA := Lib.hid hall
  clear hn hown hb0 hall
  go_enter Tryz.func79, Tryz.ntmps79
  go_wp2_with (refine wpList_copy_own_text rfl (.tmp 13) (.tmp 14) 35 9 rfl Tryz.underlying35 a HC rfl rfl ?_; intro w1 hC1)
  clear hmk hm
  go_loopw [6, 18] (fun _ j wr => ∃ k : Nat, k ≤ b.size ∧ j = .int .i64 (k : Int) ∧ OwnB w.heap.size wr (some ⟨w.heap.size, 0, none⟩) n (sumK a b n k) ∧ Below w.heap.size w wr) (fun _ j _ => b.size - (intOf j).toNat)
  case atStart => exact ⟨0, by omega, rfl, hC1.out.1, hC1.out.2⟩
  case round =>
    clear hC1
    obtain ⟨k, hk, rfl, ho, hbw⟩ := hrel
    have hlen : (sumK a b n k).length = n := by
      unfold sumK
      rw [addK_length, List.length_append, List.length_drop, List.length_replicate, data_len]; omega
    by_cases hlt : k < b.size
    · have c1 := ho.cellAt k (by omega)
      have f1 := ho.frozenAt k
      obtain ⟨x, hx⟩ : ∃ x, x = (sumK a b n k).getD k 0 := ⟨_, rfl⟩
      obtain ⟨y, hy⟩ : ∃ y, y = b[k] := ⟨_, rfl⟩
      obtain ⟨z, hz⟩ : ∃ z, z = x ^^^ y := ⟨_, rfl⟩
      have e1 : bits .xor .u8 (x.toNat : Int) (b[k].toNat : Int) = (z.toNat : Int) := by rw [u_xor, hz, hy]
      rw [← hx] at c1
      have hst : (sumK a b n k).set k z = sumK a b n (k + 1) := by
        have h1 : sumK a b n (k + 1) = (sumK a b n k).set (0 + k) (co (sumK a b n k) (0 + k) ^^^ mul 1 (co b.data.toList k)) := rfl
        rw [h1, Nat.zero_add, one_mul, co_at b k hlt, hz, hx, hy]; rfl
      have hp := ho.drew.put k z
      rw [hst] at hp
      have hpb := hbw.drew.setCell (p := ⟨w.heap.size, k, none⟩) (Nat.le_refl _) (.int .u8 (z.toNat : Int))
      have c1' : wr.drew.cell? ⟨w.heap.size, k, none⟩ = some (.int .u8 (x.toNat : Int)) := c1
      have f1' : wr.drew.frozen? ⟨w.heap.size, k, none⟩ = false := f1
      have hkn : (k : Int) < (n : Int) := by omega
      have HP := Lib.hid (And.intro hp hpb)
      clear ho hbw hp hpb hst hx hy hz hlen
      go_wp2_with fail
      refine wp_region_still_tail 9 (by kernel_rfl) (by kernel_rfl) ?_
      simp only [List.take_succ_cons, List.take_zero, List.drop_succ_cons, List.drop_zero]
      repeat still_step
      refine wpStill_nil ?_
      change wpList _ _ _ _ _ wr.drew
      clear c1 f1
      generalize wr.drew = w3 at *
      go_wp2_with fail
      go_roundw
      case rel => exact ⟨k + 1, by omega, by go_num, HP.out.1, HP.out.2⟩
      case measure => simp [intOf]; omega
    · obtain rfl : k = b.size := by omega
      obtain ⟨L, hL⟩ : ∃ L, L = str (sumK a b n b.size) := ⟨_, rfl⟩
      have hcv := ho.conv
      rw [hlen, ← hL] at hcv
      have hLs : L.size ≤ maxLen := by rw [hL, str_size, hlen]; unfold maxLen; omega
      have hLt : trimB L = sumB a b := by rw [hL]; exact HA.out
      have HB := Lib.hid (And.intro hbw (And.intro hLs hLt))
      clear ho hbw hlen hL hLs hLt
      go_wp2_with fail
      refine (trimmed_any L HB.out.2.1 _).mono ?_
      rintro e w2 ⟨rfl, rfl⟩
      go_wp2_with fail
      go_ret
      exact ⟨by rw [← HB.out.2.2]; rfl, HB.out.1⟩
theorem scale_all {p : ByteArray} (c : UInt8) : trimB (str (addAt (List.replicate p.size 0) 0 p.data.toList c)) = scaleB p c := by
  unfold trimB scaleB
  rw [str_data]
  congr 1
  refine trimL_same (fun i => ?_)
  rw [co_addAt, co_map _ (zero_mul c), co_replicate, if_pos (Nat.zero_le _), Nat.sub_zero, UInt8.zero_xor, mul_comm]
  rw [List.length_replicate, data_len]; omega
set_option maxRecDepth 100000 in
set_option maxHeartbeats 1000000 in
theorem pscale_any (p : ByteArray) (hp : p.size ≤ 100000) (c : UInt8) (w : World) :
    Calls Tryz.prog 80 #[.string p, .int .u8 (c.toNat : Int)] w fun e w' => e = .returned (.string (scaleB p c)) ∧ Below w.heap.size w w' := by
  obtain ⟨w0, hmk, hown, hb0⟩ := make_bytes w p.size (by omega)
  have hcall := addTimes_any hown 0 p.size p.size p (by omega) (Nat.le_refl _) (by rw [List.length_replicate]; omega) c
  have HC := Lib.hid (And.intro hcall hb0)
  have HA := Lib.hid (scale_all (p := p) c)
  clear hown hb0 hcall
  go_enter Tryz.func80, Tryz.ntmps80
  go_wp2_with fail
  clear hmk
  refine HC.out.1.mono ?_
  rintro e w1 ⟨rfl, ho, hon⟩
  obtain ⟨L, hL⟩ : ∃ L, L = str (addAt (List.replicate p.size 0) 0 p.data.toList c) := ⟨_, rfl⟩
  have hcv := ho.conv
  have hlen : (addAt (List.replicate p.size 0) 0 p.data.toList c).length = p.size := by rw [addAt_length, List.length_replicate]
  rw [hlen, ← hL] at hcv
  have hLs : L.size ≤ maxLen := by rw [hL, str_size, hlen]; unfold maxLen; omega
  have hLt : trimB L = scaleB p c := by rw [hL]; exact HA.out
  have hbw : Below w.heap.size w w1 := HC.out.2.trans hon.below
  have HB := Lib.hid (And.intro hbw (And.intro hLs hLt))
  clear ho hbw hlen hL hLs hLt hon
  go_wp2_with fail
  refine (trimmed_any L HB.out.2.1 _).mono ?_
  rintro e w2 ⟨rfl, rfl⟩
  go_wp2_with fail
  go_ret
  exact ⟨by rw [← HB.out.2.2]; rfl, HB.out.1⟩
end Go.Proofs.YtefpfedpgedloaaGreatDoor
namespace Go.Proofs.YtefpfedpgedloaaGreatDoor
open Go.RowKit
open Gf

/-- What stands in memory behind k rounds. -/
def mK (p q : List UInt8) (n : Nat) : Nat → List UInt8
  | 0 => List.replicate n 0
  | k + 1 => addAt (mK p q n k) k q (co p k)
theorem mK_length (p q : List UInt8) (n : Nat) : ∀ k, (mK p q n k).length = n
  | 0 => List.length_replicate
  | k + 1 => by rw [mK, addAt_length, mK_length p q n k]
theorem co_mK (p q : List UInt8) (n : Nat) : ∀ k, k + q.length ≤ n + 1 → ∀ t, co (mK p q n k) t = conv p q t k
  | 0, _, t => by rw [mK, co_replicate]; rfl
  | k + 1, h, t => by rw [mK, co_addAt _ (by rw [mK_length]; omega), co_mK p q n k (by omega) t]; rfl
theorem trimB_list (s : ByteArray) : trimL (trimB s).data.toList = (trimB s).data.toList := by
  unfold trimB; rw [str_data, trimL_trimL]
/-- The product is trimmed by itself. -/
theorem mK_all {p q : ByteArray} {n : Nat} (hp : trimL p.data.toList = p.data.toList) (hq : trimL q.data.toList = q.data.toList) (hp0 : 0 < p.size) (hq0 : 0 < q.size) (hn : n = p.size + q.size - 1) :
    str (mK p.data.toList q.data.toList n p.size) = mulB p q := by
  have h1 := data_len p
  have h2 := data_len q
  have hc : ∀ t, co (mK p.data.toList q.data.toList n p.size) t = co (mulP p.data.toList q.data.toList) t := fun t => by
    rw [co_mK _ _ _ _ (by omega) t, co_mulP, h1]
  have ht : trimL (mK p.data.toList q.data.toList n p.size) = mK p.data.toList q.data.toList n p.size := by
    refine trimL_of_last (.inr ?_)
    rw [hc, co_mulP, mK_length, show n - 1 = p.data.toList.length + q.data.toList.length - 2 by omega, conv_top _ _ (by omega) (by omega)]
    intro e
    rcases mul_eq_zero e with e1 | e1
    · exact trimL_last hp (by intro e2; rw [e2] at h1; simp at h1; omega) e1
    · exact trimL_last hq (by intro e2; rw [e2] at h2; simp at h2; omega) e1
  unfold mulB
  rw [← trimL_same hc, ht]
theorem mulB_trim (a b : ByteArray) : mulB (trimB a) (trimB b) = mulB a b := by
  unfold mulB
  congr 1
  exact trimL_same (mul_same (co_trimL _) (co_trimL _))
theorem mulB_comm (a b : ByteArray) : mulB a b = mulB b a := by
  unfold mulB
  congr 1
  exact trimL_same (co_mulP_comm _ _)
theorem mulB_none {a b : ByteArray} (h : a.size = 0) : mulB a b = ⟨#[]⟩ := by
  have : a.data.toList = [] := List.length_eq_zero_iff.1 (by rw [data_len]; exact h)
  unfold mulB
  rw [this, mulP]
  rfl
theorem nonempty_ne {s : ByteArray} (h : s.size ≠ 0) : (s.toList == []) = false := by
  have h1 : s.data.toList.length ≠ 0 := by rw [data_len]; exact h
  rw [toList_data]
  generalize s.data.toList = l at *
  cases l with
  | nil => exact absurd rfl h1
  | cons => rfl
theorem empty_eq {s : ByteArray} (h : s.size = 0) : s = ⟨#[]⟩ := bytes_of_list (by
  have e : s.data.toList = [] := List.length_eq_zero_iff.1 (by rw [data_len]; exact h)
  rw [e])
set_option maxRecDepth 100000 in
set_option maxHeartbeats 1000000 in
theorem pmul_any (a b : ByteArray) (ha : a.size ≤ 100000) (hb : b.size ≤ 100000) (w : World) :
    Calls Tryz.prog 81 #[.string a, .string b] w fun e w' => e = .returned (.string (mulB a b)) ∧ Below w.heap.size w w' := by
  have t1 := trimmed_any a (by unfold maxLen; omega)
  have t2 := trimmed_any b (by unfold maxLen; omega)
  have hmt := mulB_trim a b
  have hat := trimB_list a
  have hbt := trimB_list b
  have sa := trimB_size a
  have sb := trimB_size b
  generalize trimB a = A at *
  generalize trimB b = B at *
  rw [← hmt]
  have HT := Lib.hid (And.intro t1 t2)
  have sA : A.size ≤ 100000 := by omega
  have sB : B.size ≤ 100000 := by omega
  clear t1 t2 hmt ha hb sa sb
  by_cases hsw : B.size < A.size
  · have hswi : (B.size : Int) < (A.size : Int) := by omega
    by_cases h0 : B.size = 0
    · have hr : mulB A B = ⟨#[]⟩ := by rw [mulB_comm]; exact mulB_none h0
      rw [hr]
      obtain rfl := empty_eq h0
      clear h0 hr hat hbt
      go_enter Tryz.func81, Tryz.ntmps81
      go_wp2_with fail
      refine (HT.out.1 _).mono ?_
      rintro e w' ⟨rfl, rfl⟩
      go_wp2_with fail
      refine (HT.out.2 _).mono ?_
      rintro e w' ⟨rfl, rfl⟩
      go_wp2_with fail
      go_ret
      exact ⟨rfl, Below.refl _ _⟩
    · have hne := nonempty_ne h0
      have hq0 : 0 < A.size := by omega
      have hp0 : 0 < B.size := by omega
      obtain ⟨n, hn⟩ : ∃ n, n = B.size + A.size - 1 := ⟨_, rfl⟩
      have hni : (B.size : Int) + (A.size : Int) - 1 = (n : Int) := by omega
      have hall : str (mK B.data.toList A.data.toList n B.size) = mulB A B := by rw [mulB_comm]; exact mK_all hbt hat hp0 hq0 hn
      obtain ⟨w0, hmk, hown, hb0⟩ := make_bytes w n (by omega)
      have H0 := Lib.hid (And.intro hown hb0)
      have HA := Lib.hid (And.intro hall hn)
      have hwn : IntKind.i64.wrap (n : Int) = (n : Int) := by rw [IntWalk.i64_in _ (by omega)]
      clear hown hb0 hall hn h0 hat hbt
      go_enter Tryz.func81, Tryz.ntmps81
      go_wp2_with fail
      refine (HT.out.1 _).mono ?_
      rintro e w' ⟨rfl, rfl⟩
      go_wp2_with fail
      refine (HT.out.2 _).mono ?_
      rintro e w' ⟨rfl, rfl⟩
      go_wp2_with fail
      clear hmk hne
      go_loopw [6, 29] (fun _ j wr => ∃ k : Nat, k ≤ B.size ∧ j = .int .i64 (k : Int) ∧ OwnB w.heap.size wr (some ⟨w.heap.size, 0, none⟩) n (mK B.data.toList A.data.toList n k) ∧ Below w.heap.size w wr) (fun _ j _ => B.size - (intOf j).toNat)
      case atStart => exact ⟨0, by omega, rfl, H0.out.1, H0.out.2⟩
      case round =>
        clear H0
        obtain ⟨k, hk, rfl, ho, hbw⟩ := hrel
        have hlen := mK_length B.data.toList A.data.toList n k
        by_cases hlt : k < B.size
        · have hkn : (k : Int) < (n : Int) := by have := HA.out.2; omega
          have hkn2 : (k : Int) ≤ (n : Int) := by omega
          have hcall := addTimes_any ho.drew k (n - k) (n - k) A (by omega) (by have := HA.out.2; omega) (by rw [hlen]; have := HA.out.2; omega) B[k]
          rw [← co_at B k hlt] at hcall
          have hst : addAt (mK B.data.toList A.data.toList n k) k A.data.toList (co B.data.toList k) = mK B.data.toList A.data.toList n (k + 1) := rfl
          rw [hst, co_at B k hlt] at hcall
          have HP := Lib.hid (And.intro hcall hbw.drew)
          clear ho hbw hcall hst hlen
          go_wp2_with fail
          refine wp_region_still_tail 7 (by kernel_rfl) (by kernel_rfl) ?_
          simp only [List.take_succ_cons, List.take_zero, List.drop_succ_cons, List.drop_zero]
          repeat still_step
          refine wpStill_nil ?_
          change wpList _ _ _ _ _ wr.drew
          generalize wr.drew = w3 at *
          go_wp2_with fail
          refine HP.out.1.mono ?_
          rintro e w4 ⟨rfl, ho, hon⟩
          have H4 := Lib.hid (And.intro ho (HP.out.2.trans hon.below))
          clear ho hon
          go_wp2_with fail
          go_roundw
          case rel => exact ⟨k + 1, by omega, by go_num, H4.out.1, H4.out.2⟩
          case measure => simp [intOf]; omega
        · obtain rfl : k = B.size := by omega
          have hcv := ho.conv
          rw [hlen, HA.out.1] at hcv
          have HB := Lib.hid hbw
          clear ho hbw hlen
          go_wp2_with fail
          go_ret
          exact ⟨rfl, HB.out⟩
  · have hswi : ¬ ((B.size : Int) < (A.size : Int)) := by omega
    by_cases h0 : A.size = 0
    · have hr : mulB A B = ⟨#[]⟩ := by exact mulB_none h0
      rw [hr]
      obtain rfl := empty_eq h0
      clear h0 hr hat hbt
      go_enter Tryz.func81, Tryz.ntmps81
      go_wp2_with fail
      refine (HT.out.1 _).mono ?_
      rintro e w' ⟨rfl, rfl⟩
      go_wp2_with fail
      refine (HT.out.2 _).mono ?_
      rintro e w' ⟨rfl, rfl⟩
      go_wp2_with fail
      go_ret
      exact ⟨rfl, Below.refl _ _⟩
    · have hne := nonempty_ne h0
      have hq0 : 0 < B.size := by omega
      have hp0 : 0 < A.size := by omega
      obtain ⟨n, hn⟩ : ∃ n, n = A.size + B.size - 1 := ⟨_, rfl⟩
      have hni : (A.size : Int) + (B.size : Int) - 1 = (n : Int) := by omega
      have hall : str (mK A.data.toList B.data.toList n A.size) = mulB A B := by exact mK_all hat hbt hp0 hq0 hn
      obtain ⟨w0, hmk, hown, hb0⟩ := make_bytes w n (by omega)
      have H0 := Lib.hid (And.intro hown hb0)
      have HA := Lib.hid (And.intro hall hn)
      have hwn : IntKind.i64.wrap (n : Int) = (n : Int) := by rw [IntWalk.i64_in _ (by omega)]
      clear hown hb0 hall hn h0 hat hbt
      go_enter Tryz.func81, Tryz.ntmps81
      go_wp2_with fail
      refine (HT.out.1 _).mono ?_
      rintro e w' ⟨rfl, rfl⟩
      go_wp2_with fail
      refine (HT.out.2 _).mono ?_
      rintro e w' ⟨rfl, rfl⟩
      go_wp2_with fail
      clear hmk hne
      go_loopw [6, 29] (fun _ j wr => ∃ k : Nat, k ≤ A.size ∧ j = .int .i64 (k : Int) ∧ OwnB w.heap.size wr (some ⟨w.heap.size, 0, none⟩) n (mK A.data.toList B.data.toList n k) ∧ Below w.heap.size w wr) (fun _ j _ => A.size - (intOf j).toNat)
      case atStart => exact ⟨0, by omega, rfl, H0.out.1, H0.out.2⟩
      case round =>
        clear H0
        obtain ⟨k, hk, rfl, ho, hbw⟩ := hrel
        have hlen := mK_length A.data.toList B.data.toList n k
        by_cases hlt : k < A.size
        · have hkn : (k : Int) < (n : Int) := by have := HA.out.2; omega
          have hkn2 : (k : Int) ≤ (n : Int) := by omega
          have hcall := addTimes_any ho.drew k (n - k) (n - k) B (by omega) (by have := HA.out.2; omega) (by rw [hlen]; have := HA.out.2; omega) A[k]
          rw [← co_at A k hlt] at hcall
          have hst : addAt (mK A.data.toList B.data.toList n k) k B.data.toList (co A.data.toList k) = mK A.data.toList B.data.toList n (k + 1) := rfl
          rw [hst, co_at A k hlt] at hcall
          have HP := Lib.hid (And.intro hcall hbw.drew)
          clear ho hbw hcall hst hlen
          go_wp2_with fail
          refine wp_region_still_tail 7 (by kernel_rfl) (by kernel_rfl) ?_
          simp only [List.take_succ_cons, List.take_zero, List.drop_succ_cons, List.drop_zero]
          repeat still_step
          refine wpStill_nil ?_
          change wpList _ _ _ _ _ wr.drew
          generalize wr.drew = w3 at *
          go_wp2_with fail
          refine HP.out.1.mono ?_
          rintro e w4 ⟨rfl, ho, hon⟩
          have H4 := Lib.hid (And.intro ho (HP.out.2.trans hon.below))
          clear ho hon
          go_wp2_with fail
          go_roundw
          case rel => exact ⟨k + 1, by omega, by go_num, H4.out.1, H4.out.2⟩
          case measure => simp [intOf]; omega
        · obtain rfl : k = A.size := by omega
          have hcv := ho.conv
          rw [hlen, HA.out.1] at hcv
          have HB := Lib.hid hbw
          clear ho hbw hlen
          go_wp2_with fail
          go_ret
          exact ⟨rfl, HB.out⟩
end Go.Proofs.YtefpfedpgedloaaGreatDoor
