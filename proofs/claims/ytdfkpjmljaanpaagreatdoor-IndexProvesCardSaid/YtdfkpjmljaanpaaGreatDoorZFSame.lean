/- FSame, what is wanted of it. -/
import Derived.Test.YtdfkpjmljaanpaaGreatDoorZMB
import Derived.Lib.Hide
import Derived.BigQuiet
import Derived.Deep.QuietTactic
namespace Go.Proofs.YtdfkpjmljaanpaaGreatDoor
open Go.RowKit
set_option maxRecDepth 100000 in
set_option maxHeartbeats 400000 in
theorem rsame_any (ss : List ByteArray) (a0 b0 : Option Addr) (cap cap' : Nat) (w : World) (hT : TextsAt w a0 ss) (hT2 : TextsAt w b0 ss) (hm : ss.length ≤ 1000000) :
    Calls Tryz.prog 66 #[.slice a0 ss.length cap, .slice b0 ss.length cap'] w fun e w' => e = .returned (.bool true) ∧ Below w.heap.size w w' := by
  obtain ⟨n, hn⟩ : ∃ n, n = ss.length := ⟨_, rfl⟩
  have HT := Lib.hid (And.intro hT (And.intro hT2 hn))
  rw [← hn] at hm ⊢
  clear hT hT2 hn
  go_enter Tryz.func66, Tryz.ntmps66
  go_wp2_with fail
  go_loopw [5] (fun c wr => ∃ i : Nat, i ≤ n ∧ c = .int .i64 i ∧ Below w.heap.size w wr) (fun c _ => n - (intOf c).toNat)
  case atStart => exact ⟨0, by omega, rfl, Below.refl _ _⟩
  case round =>
    obtain ⟨i, hi, rfl, hb⟩ := hrel
    by_cases hlt : i < n
    · obtain ⟨b, off, rfl, _, hc⟩ := HT.out.1.below hb i (by have := HT.out.2.2; omega)
      obtain ⟨b2, off2, rfl, _, hc2⟩ := HT.out.2.1.below hb i (by have := HT.out.2.2; omega)
      obtain ⟨x, hx⟩ : ∃ x, x = ss.getD i ByteArray.empty := ⟨_, rfl⟩
      rw [← hx] at hc hc2
      have hxx : (x.toList == x.toList) = true := by simp
      have HB := Lib.hid hb
      clear hb hx
      go_wp2_with fail
      go_quiet (fail)
      go_wp2_with fail
      go_roundw
      case rel => exact ⟨i + 1, by omega, by go_num, HB.out.trans ⟨rfl, rfl, rfl, Nat.le_refl _, fun _ _ => rfl⟩⟩
      case measure => simp [intOf]; omega
    · obtain rfl : i = n := by omega
      have HB := Lib.hid hb
      clear hb
      go_wp2_with fail
      go_ret
      exact ⟨rfl, HB.out⟩
end Go.Proofs.YtdfkpjmljaanpaaGreatDoor
