/- shape.Find; lockboxref06.Find, Steps. -/
import Derived.Test.YtgighdiidblihaaHPick
import Derived.Test.YtgighdiidblihaaFewer
namespace Go.Proofs.Ytgighdiidblihaa
open Go.RowKit

/-- The place of the first one of the first k texts that is s; -1, if none is. -/
def findN (ss : List ByteArray) (s : ByteArray) : Nat → Int
  | 0 => -1
  | k + 1 => if findN ss s k < 0 ∧ ss.getD k ByteArray.empty = s then (k : Int) else findN ss s k
def stepsN (ss : List ByteArray) (s : ByteArray) : Nat → Nat
  | 0 => 0
  | k + 1 => stepsN ss s k + longer (ss.getD k ByteArray.empty) s
theorem findN_range (ss : List ByteArray) (s : ByteArray) : ∀ k, -1 ≤ findN ss s k ∧ findN ss s k < (k : Int)
  | 0 => by rw [findN]; omega
  | k + 1 => by
    have := findN_range ss s k
    rw [findN]; split <;> omega
theorem findN_neg {ss : List ByteArray} {s : ByteArray} {k : Nat} (h : findN ss s k < 0) : findN ss s k = -1 := by have := findN_range ss s k; omega
theorem findN_stays {ss : List ByteArray} {s : ByteArray} {k : Nat} (h : ¬ findN ss s k < 0) : ∀ m, k ≤ m → findN ss s m = findN ss s k
  | 0, hm => by obtain rfl : k = 0 := by omega
                rfl
  | m + 1, hm => by
    by_cases e : k = m + 1
    · rw [e]
    · have := findN_stays h m (by omega)
      rw [findN, if_neg (by rw [this]; exact fun x => h x.1), this]
theorem stepsN_le {ss : List ByteArray} {s : ByteArray} {m : Nat} (hs : s.size ≤ m) (h : ∀ j, j < ss.length → (ss.getD j ByteArray.empty).size ≤ m) : ∀ k, k ≤ ss.length → stepsN ss s k ≤ m * k
  | 0, _ => Nat.zero_le _
  | k + 1, hk => by
    have h1 := stepsN_le hs h k (by omega)
    have h2 := longer_le (h k (by omega)) hs
    rw [stepsN, Nat.mul_add]; omega

set_option maxRecDepth 100000 in
set_option maxHeartbeats 400000 in
theorem find_any (ss : List ByteArray) (a0 : Option Addr) (cap : Nat) (s : ByteArray) (w : World) (hT : TextsAt w a0 ss) (hm : ss.length ≤ 1000) (hs : s.size ≤ 1000000) (hz : ∀ j, j < ss.length → (ss.getD j ByteArray.empty).size ≤ 1000000) :
    Calls Try.prog 21 #[.slice a0 ss.length cap, .string s] w fun e w' => e = .returned (.tuple #[.int .i64 (findN ss s ss.length), .int .i64 (stepsN ss s ss.length)]) ∧ w = w' := by
  obtain ⟨n, hn⟩ : ∃ n, n = ss.length := ⟨_, rfl⟩
  have HT := Lib.hid (And.intro hT (And.intro hn (And.intro hz (stepsN_le hs hz))))
  rw [← hn] at hm ⊢
  clear hT hn hz
  go_enter Try.func21, Try.ntmps21
  go_wp2_with fail
  go_loopw [4, 5, 6, 7, 8, 9, 12] (fun at_ st _ _ _ _ c wr => ∃ i : Nat, i ≤ n ∧ c = .int .i64 i ∧ wr = w ∧ at_ = .int .i64 (findN ss s i) ∧ st = .int .i64 (stepsN ss s i)) (fun _ _ _ _ _ _ c _ => n - (intOf c).toNat)
  case atStart => exact ⟨0, by omega, rfl, rfl, rfl, rfl⟩
  case round =>
    obtain ⟨i, hi, rfl, rfl, rfl, rfl⟩ := hrel
    by_cases hlt : i < n
    · obtain ⟨b, off, rfl, _, hc⟩ := HT.out.1 i (by have := HT.out.2.1; omega)
      have hxz := HT.out.2.2.1 i (by have := HT.out.2.1; omega)
      have hst := HT.out.2.2.2 i (by have := HT.out.2.1; omega)
      have hst2 := HT.out.2.2.2 (i + 1) (by have := HT.out.2.1; omega)
      have hf1 : findN ss s (i + 1) = if findN ss s i < 0 ∧ ss.getD i ByteArray.empty = s then (i : Int) else findN ss s i := rfl
      have hs1 : stepsN ss s (i + 1) = stepsN ss s i + longer (ss.getD i ByteArray.empty) s := rfl
      have hfr := findN_range ss s i
      obtain ⟨x, hx⟩ : ∃ x, x = ss.getD i ByteArray.empty := ⟨_, rfl⟩
      rw [← hx] at hc hxz hf1 hs1
      have hce := equal_any x s (by unfold maxLen; omega) (by unfold maxLen; omega)
      generalize longer x s = L at *
      obtain ⟨S1, hS1⟩ : ∃ S1, S1 = stepsN ss s (i + 1) := ⟨_, rfl⟩
      obtain ⟨F1, hF1⟩ : ∃ F1, F1 = findN ss s (i + 1) := ⟨_, rfl⟩
      rw [← hS1] at hst2 hs1
      rw [← hF1] at hf1
      generalize stepsN ss s i = S at *
      generalize findN ss s i = F at *
      have hSL : (S : Int) + (L : Int) ≤ 1000000000 := by
        have : 1000000 * (i + 1) ≤ 1000000 * 1000 := Nat.mul_le_mul_left _ (by omega)
        omega
      have hSS : (S : Int) + (L : Int) = (S1 : Int) := by rw [hs1]; omega
      obtain ⟨hFa, hFb⟩ := hfr
      have HE := Lib.hid (And.intro hS1 hF1)
      clear hst hst2 hs1 hx hxz hS1 hF1
      by_cases he : x = s
      · rw [decide_eq_true he] at hce
        by_cases hneg : F < 0
        · rw [if_pos ⟨hneg, he⟩] at hf1
          have HC := Lib.hid (And.intro hce hf1)
          clear hce hf1 he
          go_wp2_with fail
          refine (HC.out.1 _).mono ?_
          rintro e w' ⟨rfl, rfl⟩
          go_wp2_with fail
          go_roundw
          case rel => exact ⟨i + 1, by omega, by go_num, trivial, by rw [← HE.out.2, HC.out.2], by rw [HE.out.1]⟩
          case measure => simp [intOf]; omega
        · rw [if_neg (fun h => hneg h.1)] at hf1
          have HC := Lib.hid (And.intro hce hf1)
          clear hce hf1 he
          go_wp2_with fail
          refine (HC.out.1 _).mono ?_
          rintro e w' ⟨rfl, rfl⟩
          go_wp2_with fail
          go_roundw
          case rel => exact ⟨i + 1, by omega, by go_num, trivial, by rw [← HE.out.2, HC.out.2], by rw [HE.out.1]⟩
          case measure => simp [intOf]; omega
      · rw [decide_eq_false he] at hce
        rw [if_neg (fun h => he h.2)] at hf1
        have HC := Lib.hid (And.intro hce hf1)
        clear hce hf1 he
        go_wp2_with fail
        refine (HC.out.1 _).mono ?_
        rintro e w' ⟨rfl, rfl⟩
        go_wp2_with fail
        go_roundw
        case rel => exact ⟨i + 1, by omega, by go_num, trivial, by rw [← HE.out.2, HC.out.2], by rw [HE.out.1]⟩
        case measure => simp [intOf]; omega
    · obtain rfl : i = n := by omega
      go_wp2_with fail
      go_ret2
      exact ⟨rfl, rfl⟩

theorem texts_eq {x s : ByteArray} (h : x = s) : (x.toList == s.toList) = true := by subst h; simp
theorem texts_ne {x s : ByteArray} (h : x ≠ s) : (x.toList == s.toList) = false := by
  have : x.toList ≠ s.toList := fun e => h (bytes_of_list (by rw [← toList_data, ← toList_data, e]))
  simpa using this
set_option maxRecDepth 100000 in
set_option maxHeartbeats 400000 in
theorem rfind_any (ss : List ByteArray) (a0 : Option Addr) (cap : Nat) (s : ByteArray) (w : World) (hT : TextsAt w a0 ss) (hm : ss.length ≤ 1000) :
    Calls Try.prog 22 #[.slice a0 ss.length cap, .string s] w fun e w' => e = .returned (.int .i64 (findN ss s ss.length)) ∧ w = w' := by
  obtain ⟨n, hn⟩ : ∃ n, n = ss.length := ⟨_, rfl⟩
  obtain ⟨F, hF⟩ : ∃ F, F = findN ss s n := ⟨_, rfl⟩
  have HT := Lib.hid (And.intro hT (And.intro hn hF))
  rw [← hn] at hm ⊢
  rw [← hF]
  clear hT hn hF
  go_enter Try.func22, Try.ntmps22
  go_wp2_with fail
  go_loopw [5] (fun c wr => ∃ i : Nat, i ≤ n ∧ c = .int .i64 i ∧ wr = w ∧ findN ss s i = -1) (fun c _ => n - (intOf c).toNat)
  case atStart => exact ⟨0, by omega, rfl, rfl, rfl⟩
  case round =>
    obtain ⟨i, hi, rfl, rfl, hall⟩ := hrel
    by_cases hlt : i < n
    · obtain ⟨b, off, rfl, _, hc⟩ := HT.out.1 i (by have := HT.out.2.1; omega)
      have hf1 : findN ss s (i + 1) = if findN ss s i < 0 ∧ ss.getD i ByteArray.empty = s then (i : Int) else findN ss s i := rfl
      obtain ⟨x, hx⟩ : ∃ x, x = ss.getD i ByteArray.empty := ⟨_, rfl⟩
      rw [← hx] at hc hf1
      by_cases he : x = s
      · rw [if_pos ⟨by omega, he⟩] at hf1
        have hFi : F = i := by
          rw [HT.out.2.2, findN_stays (k := i + 1) (by omega) n (by omega), hf1]
        subst hFi
        have ht := texts_eq he
        clear hx he hf1 hall
        go_wp2_with fail
        go_ret
        exact ⟨rfl, rfl⟩
      · rw [if_neg (fun h => he h.2), hall] at hf1
        have ht := texts_ne he
        have H1 := Lib.hid hf1
        clear hx he hf1 hall
        go_wp2_with fail
        go_roundw
        case rel => exact ⟨i + 1, by omega, by go_num, trivial, H1.out⟩
        case measure => simp [intOf]; omega
    · obtain rfl : i = n := by omega
      have hFi : F = -1 := by rw [HT.out.2.2, hall]
      subst hFi
      clear hall
      go_wp2_with fail
      go_ret
      exact ⟨rfl, rfl⟩
set_option maxRecDepth 100000 in
set_option maxHeartbeats 400000 in
theorem rsteps_any (ss : List ByteArray) (a0 : Option Addr) (cap : Nat) (s : ByteArray) (w : World) (hT : TextsAt w a0 ss) (hm : ss.length ≤ 1000) (hs : s.size ≤ 1000000) (hz : ∀ j, j < ss.length → (ss.getD j ByteArray.empty).size ≤ 1000000) :
    Calls Try.prog 23 #[.slice a0 ss.length cap, .string s] w fun e w' => e = .returned (.int .i64 (stepsN ss s ss.length)) ∧ w = w' := by
  obtain ⟨n, hn⟩ : ∃ n, n = ss.length := ⟨_, rfl⟩
  have HT := Lib.hid (And.intro hT (And.intro hn (stepsN_le hs hz)))
  rw [← hn] at hm ⊢
  clear hT hn hz
  go_enter Try.func23, Try.ntmps23
  go_wp2_with fail
  go_loopw [5, 6] (fun st c wr => ∃ i : Nat, i ≤ n ∧ c = .int .i64 i ∧ wr = w ∧ st = .int .i64 (stepsN ss s i)) (fun _ c _ => n - (intOf c).toNat)
  case atStart => exact ⟨0, by omega, rfl, rfl, rfl⟩
  case round =>
    obtain ⟨i, hi, rfl, rfl, rfl⟩ := hrel
    by_cases hlt : i < n
    · obtain ⟨b, off, rfl, _, hc⟩ := HT.out.1 i (by have := HT.out.2.1; omega)
      have hst2 := HT.out.2.2 (i + 1) (by have := HT.out.2.1; omega)
      have hs1 : stepsN ss s (i + 1) = stepsN ss s i + longer (ss.getD i ByteArray.empty) s := rfl
      obtain ⟨x, hx⟩ : ∃ x, x = ss.getD i ByteArray.empty := ⟨_, rfl⟩
      rw [← hx] at hc hs1
      have hce := rlonger_any x s
      generalize longer x s = L at *
      obtain ⟨S1, hS1⟩ : ∃ S1, S1 = stepsN ss s (i + 1) := ⟨_, rfl⟩
      rw [← hS1] at hst2 hs1
      generalize stepsN ss s i = S at *
      have hSL : (S : Int) + (L : Int) ≤ 1000000000 := by
        have : 1000000 * (i + 1) ≤ 1000000 * 1000 := Nat.mul_le_mul_left _ (by omega)
        omega
      have hSS : (S : Int) + (L : Int) = (S1 : Int) := by rw [hs1]; omega
      have HC := Lib.hid (And.intro hce hS1)
      clear hst2 hs1 hx hce hS1
      go_wp2_with fail
      refine (HC.out.1 _).mono ?_
      rintro e w' ⟨rfl, rfl⟩
      go_wp2_with fail
      go_roundw
      case rel => exact ⟨i + 1, by omega, by go_num, trivial, by rw [HC.out.2]⟩
      case measure => simp [intOf]; omega
    · obtain rfl : i = n := by omega
      go_wp2_with fail
      go_ret
      exact ⟨rfl, rfl⟩
end Go.Proofs.Ytgighdiidblihaa
