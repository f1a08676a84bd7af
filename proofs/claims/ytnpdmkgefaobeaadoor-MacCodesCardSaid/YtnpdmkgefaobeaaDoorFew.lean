/- lockboxlaw01.Few, lockboxref01.All: lists of texts, one behind the other. -/
import Derived.Test.YtnpdmkgefaobeaaDoorStrs
namespace Go.Proofs.YtnpdmkgefaobeaaDoor
open Go.RowKit

/-- Not more than so many, each not longer than that. -/
def FewOf (ss : List ByteArray) (m k : Int) : Prop := (ss.length : Int) ≤ m ∧ ∀ j, j < ss.length → ((ss.getD j ByteArray.empty).size : Int) ≤ k
noncomputable def fewB (ss : List ByteArray) (m k : Int) : Bool := @decide (FewOf ss m k) (Classical.propDecidable _)
theorem fewB_true {ss : List ByteArray} {m k : Int} (h : FewOf ss m k) : fewB ss m k = true := by unfold fewB; exact @decide_eq_true _ (Classical.propDecidable _) h
theorem fewB_false {ss : List ByteArray} {m k : Int} (h : ¬ FewOf ss m k) : fewB ss m k = false := by unfold fewB; exact @decide_eq_false _ (Classical.propDecidable _) h

set_option maxRecDepth 100000 in
set_option maxHeartbeats 400000 in
theorem few_any (ss : List ByteArray) (a0 : Option Addr) (cap : Nat) (m k : Int) (w : World) (hT : TextsAt w a0 ss) (hm : ss.length ≤ maxLen) :
    Calls Tryd.prog 9 #[.slice a0 ss.length cap, .int .i64 m, .int .i64 k] w fun e w' => e = .returned (.bool (fewB ss m k)) ∧ w = w' := by
  unfold maxLen at hm
  obtain ⟨n, hn⟩ : ∃ n, n = ss.length := ⟨_, rfl⟩
  have HT := Lib.hid hT
  clear hT
  rw [← hn] at hm ⊢
  by_cases hmost : m < (n : Int)
  · rw [fewB_false (fun h => by have := h.1; omega)]
    clear hn
    go_enter Tryd.func9, Tryd.ntmps9
    go_wp2_with fail
    go_ret
    exact ⟨rfl, rfl⟩
  · have HN := Lib.hid hn
    clear hn
    obtain ⟨B, hB⟩ : ∃ B, B = fewB ss m k := ⟨_, rfl⟩
    rw [← hB]
    have HB := Lib.hid hB
    clear hB
    go_enter Tryd.func9, Tryd.ntmps9
    go_wp2_with fail
    go_loopw [7] (fun c wr => ∃ i : Nat, i ≤ n ∧ c = .int .i64 i ∧ wr = w ∧ ∀ j, j < i → ((ss.getD j ByteArray.empty).size : Int) ≤ k) (fun c _ => n - (intOf c).toNat)
    case atStart => exact ⟨0, by omega, rfl, rfl, fun j hj => absurd hj (by omega)⟩
    case round =>
      obtain ⟨i, hi, rfl, rfl, hall⟩ := hrel
      have HA := Lib.hid hall
      clear hall
      by_cases hlt : i < n
      · obtain ⟨b, off, rfl, _, hc⟩ := HT.out i (by have := HN.out; omega)
        obtain ⟨x, hx⟩ : ∃ x, x = ss.getD i ByteArray.empty := ⟨_, rfl⟩
        rw [← hx] at hc
        by_cases hlong : k < (x.size : Int)
        · have hBf : B = false := by rw [HB.out]; exact fewB_false fun h => by have := h.2 i (by have := HN.out; omega); rw [← hx] at this; omega
          subst hBf
          have HX := Lib.hid hx
          clear hx
          go_wp2_with fail
          go_ret
          exact ⟨rfl, rfl⟩
        · have HX := Lib.hid hx
          clear hx
          go_wp2_with fail
          go_roundw
          case rel =>
            refine ⟨i + 1, by omega, by go_num, trivial, fun j hj => ?_⟩
            by_cases e : j = i
            · subst e; rw [← HX.out]; omega
            · exact HA.out j (by omega)
          case measure => simp [intOf]; omega
      · obtain rfl : i = n := by omega
        have hBt : B = true := by rw [HB.out]; exact fewB_true ⟨by have := HN.out; omega, fun j hj => HA.out j (by have := HN.out; omega)⟩
        subst hBt
        go_wp2_with fail
        go_ret
        exact ⟨rfl, rfl⟩

/-- Texts, one behind the other: the first i. -/
def catN (ss : List ByteArray) : Nat → ByteArray
  | 0 => ⟨#[]⟩
  | i + 1 => catN ss i ++ ss.getD i ByteArray.empty
theorem catN_size {ss : List ByteArray} {m : Nat} (h : ∀ j, j < ss.length → (ss.getD j ByteArray.empty).size ≤ m) : ∀ i, i ≤ ss.length → (catN ss i).size ≤ m * i
  | 0, _ => by rw [catN]; exact Nat.zero_le _
  | i + 1, hi => by
    have h1 := catN_size h i (by omega)
    have h2 := h i (by omega)
    rw [catN, ByteArray.size_append, Nat.mul_add]; omega

set_option maxRecDepth 100000 in
set_option maxHeartbeats 400000 in
theorem all_any (ss : List ByteArray) (a0 : Option Addr) (cap : Nat) (w : World) (hT : TextsAt w a0 ss) (hm : ss.length ≤ 20) (hs : ∀ j, j < ss.length → (ss.getD j ByteArray.empty).size ≤ 300) :
    Calls Tryd.prog 11 #[.slice a0 ss.length cap] w fun e w' => e = .returned (.string (catN ss ss.length)) ∧ w = w' := by
  obtain ⟨n, hn⟩ : ∃ n, n = ss.length := ⟨_, rfl⟩
  have HT := Lib.hid (And.intro hT (And.intro hn hs))
  rw [← hn] at hm ⊢
  clear hT hn hs
  go_enter Tryd.func11, Tryd.ntmps11
  go_wp2_with fail
  go_loopw [3, 4] (fun v c wr => ∃ (i : Nat) (A : ByteArray), i ≤ n ∧ c = .int .i64 i ∧ v = .string A ∧ A = catN ss i ∧ wr = w) (fun _ c _ => n - (intOf c).toNat)
  case atStart => exact ⟨0, _, by omega, rfl, rfl, rfl, rfl⟩
  case round =>
    obtain ⟨i, A, hi, rfl, rfl, hA, rfl⟩ := hrel
    by_cases hlt : i < n
    · obtain ⟨b, off, rfl, _, hc⟩ := HT.out.1 i (by have := HT.out.2.1; omega)
      have hx3 := HT.out.2.2 i (by have := HT.out.2.1; omega)
      have hA3 := catN_size HT.out.2.2 i (by have := HT.out.2.1; omega)
      obtain ⟨x, hx⟩ : ∃ x, x = ss.getD i ByteArray.empty := ⟨_, rfl⟩
      rw [← hx] at hc hx3
      rw [← hA] at hA3
      have HX := Lib.hid (And.intro hx hA)
      clear hx hA
      have hsz : ¬ 9223372036854775807 < A.size + x.size := by omega
      go_wp2_with fail
      go_roundw
      case rel => exact ⟨i + 1, A ++ x, by omega, by go_num, rfl, by rw [catN, ← HX.out.1, ← HX.out.2], trivial⟩
      case measure => simp [intOf]; omega
    · obtain rfl : i = n := by omega
      have HX := Lib.hid hA
      clear hA
      go_wp2_with fail
      go_ret
      exact ⟨congrArg (fun x => Ending.returned (.string x)) HX.out, rfl⟩
end Go.Proofs.YtnpdmkgefaobeaaDoor
