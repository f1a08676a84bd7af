/- lockboxref04.Same: equal lists of texts. -/
import Derived.Test.YtefpfedpgedloaaDRef
import Derived.BigQuiet
namespace Go.Proofs.Ytefpfedpgedloaa
open Go.RowKit
open Dk

set_option maxRecDepth 100000 in
set_option maxHeartbeats 2000000 in
theorem lsame_any {w : World} {S T : Nat → Prop} {l : List ByteArray} {a a' : Option Addr} {c c' : Nat} (h : TextsR w S (.slice a l.length c) l) (h' : TextsR w T (.slice a' l.length c') l) (hl : l.length ≤ 1000000) :
    Calls Try.prog 29 #[.slice a l.length c, .slice a' l.length c'] w fun e w' => e = .returned (.bool true) ∧ Below w.heap.size w w' := by
  obtain ⟨n, hN⟩ : ∃ n, n = l.length := ⟨_, rfl⟩
  have HT := Lib.hid (And.intro h (And.intro h' hN))
  rw [← hN] at hl ⊢
  clear h h' hN
  go_enter Try.func29, Try.ntmps29
  go_wp2_with fail
  go_loopw [5] (fun c wr => ∃ i : Nat, i ≤ n ∧ c = .int .i64 i ∧ Below w.heap.size w wr) (fun c _ => n - (intOf c).toNat)
  case atStart => exact ⟨0, by omega, rfl, Below.refl _ _⟩
  case round =>
    obtain ⟨i, hi, rfl, hb⟩ := hrel
    by_cases hlt : i < n
    · obtain ⟨b, rfl, _, hc⟩ := (HT.out.1.kept (keptS_below hb)).at (j := i) (by have := HT.out.2.2; omega)
      obtain ⟨b2, rfl, _, hc2⟩ := (HT.out.2.1.kept (keptS_below hb)).at (j := i) (by have := HT.out.2.2; omega)
      obtain ⟨x, hx⟩ : ∃ x, x = exAt l i := ⟨_, rfl⟩
      rw [← hx] at hc hc2
      have hxx : (x.toList == x.toList) = true := by simp
      have HB := Lib.hid hb
      clear hb hx
      go_wp2_with fail
      go_quiet (fail)
      go_wp2_with fail
      go_roundw
      case rel => exact ⟨i + 1, by omega, by go_num, HB.out.trans ⟨rfl, rfl, rfl, Nat.le_refl _, fun _ _ => rfl⟩⟩
      case measure => simp [intOf]; omega
    · obtain rfl : i = n := by omega
      have HB := Lib.hid hb
      clear hb
      go_wp2_with fail
      go_ret
      exact ⟨rfl, HB.out⟩
end Go.Proofs.Ytefpfedpgedloaa
