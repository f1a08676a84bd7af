/- lockboxlaw01.Few. -/
import Derived.Test.YtdfkpjmljaanpaaDoorMB
namespace Go.Proofs.YtdfkpjmljaanpaaDoor
open Go.RowKit

/-- Not more than so many, each not longer than that. -/
def FewOf (ss : List ByteArray) (m k : Int) : Prop := (ss.length : Int) ≤ m ∧ ∀ j, j < ss.length → ((ss.getD j ByteArray.empty).size : Int) ≤ k
noncomputable def fewB (ss : List ByteArray) (m k : Int) : Bool := @decide (FewOf ss m k) (Classical.propDecidable _)
theorem fewB_true {ss : List ByteArray} {m k : Int} (h : FewOf ss m k) : fewB ss m k = true := by unfold fewB; exact @decide_eq_true _ (Classical.propDecidable _) h
theorem fewB_false {ss : List ByteArray} {m k : Int} (h : ¬ FewOf ss m k) : fewB ss m k = false := by unfold fewB; exact @decide_eq_false _ (Classical.propDecidable _) h

set_option maxRecDepth 100000 in
set_option maxHeartbeats 400000 in
theorem few_any (ss : List ByteArray) (a0 : Option Addr) (cap : Nat) (m k : Int) (w : World) (hT : TextsAt w a0 ss) (hm : ss.length ≤ maxLen) :
    Calls Tryd.prog 39 #[.slice a0 ss.length cap, .int .i64 m, .int .i64 k] w fun e w' => e = .returned (.bool (fewB ss m k)) ∧ w = w' := by
  unfold maxLen at hm
  obtain ⟨n, hn⟩ : ∃ n, n = ss.length := ⟨_, rfl⟩
  have HT := Lib.hid hT
  clear hT
  rw [← hn] at hm ⊢
  by_cases hmost : m < (n : Int)
  · rw [fewB_false (fun h => by have := h.1; omega)]
    clear hn
    go_enter Tryd.func39, Tryd.ntmps39
    go_wp2_with fail
    go_ret
    exact ⟨rfl, rfl⟩
  · have HN := Lib.hid hn
    clear hn
    obtain ⟨B, hB⟩ : ∃ B, B = fewB ss m k := ⟨_, rfl⟩
    rw [← hB]
    have HB := Lib.hid hB
    clear hB
    go_enter Tryd.func39, Tryd.ntmps39
    go_wp2_with fail
    go_loopw [7] (fun c wr => ∃ i : Nat, i ≤ n ∧ c = .int .i64 i ∧ wr = w ∧ ∀ j, j < i → ((ss.getD j ByteArray.empty).size : Int) ≤ k) (fun c _ => n - (intOf c).toNat)
    case atStart => exact ⟨0, by omega, rfl, rfl, fun j hj => absurd hj (by omega)⟩
    case round =>
      obtain ⟨i, hi, rfl, rfl, hall⟩ := hrel
      have HA := Lib.hid hall
      clear hall
      by_cases hlt : i < n
      · obtain ⟨b, off, rfl, _, hc⟩ := HT.out i (by have := HN.out; omega)
        obtain ⟨x, hx⟩ : ∃ x, x = ss.getD i ByteArray.empty := ⟨_, rfl⟩
        rw [← hx] at hc
        by_cases hlong : k < (x.size : Int)
        · have hBf : B = false := by rw [HB.out]; exact fewB_false fun h => by have := h.2 i (by have := HN.out; omega); rw [← hx] at this; omega
          subst hBf
          have HX := Lib.hid hx
          clear hx
          go_wp2_with fail
          go_ret
          exact ⟨rfl, rfl⟩
        · have HX := Lib.hid hx
          clear hx
          go_wp2_with fail
          go_roundw
          case rel =>
            refine ⟨i + 1, by omega, by go_num, trivial, fun j hj => ?_⟩
            by_cases e : j = i
            · subst e; rw [← HX.out]; omega
            · exact HA.out j (by omega)
          case measure => simp [intOf]; omega
      · obtain rfl : i = n := by omega
        have hBt : B = true := by rw [HB.out]; exact fewB_true ⟨by have := HN.out; omega, fun j hj => HA.out j (by have := HN.out; omega)⟩
        subst hBt
        go_wp2_with fail
        go_ret
        exact ⟨rfl, rfl⟩
end Go.Proofs.YtdfkpjmljaanpaaDoor
