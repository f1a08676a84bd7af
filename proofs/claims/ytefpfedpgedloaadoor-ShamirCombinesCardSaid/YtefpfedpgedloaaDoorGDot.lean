/- gf.Dot, lockboxref07.Dot. -/
import Derived.Test.YtefpfedpgedloaaDoorGRInv
import Derived.Test.YtefpfedpgedloaaDoorGConv
import Derived.Deep.QuietTactic
import Derived.BigQuiet
namespace Go.Proofs.YtefpfedpgedloaaDoor
open Go.RowKit
open Gf

/-- The sum of the products of the first k bytes. -/
def dotN (a b : List UInt8) (k : Nat) : UInt8 := sumX (fun i => mul (co a i) (co b i)) k
theorem gdrew {B : Nat} {a w : World} (h : Below B a w) : ∀ n, Below B a (w.drewN n)
  | 0 => h
  | n + 1 => (gdrew h n).drew
theorem dotN_succ (a b : List UInt8) (k : Nat) : dotN a b (k + 1) = dotN a b k ^^^ mul (co a k) (co b k) := rfl
theorem co_at (s : ByteArray) (k : Nat) (h : k < s.size) : co s.data.toList k = s[k] := by
  unfold co
  rw [List.getD_eq_getElem?_getD, List.getElem?_eq_getElem (by simpa using h)]
  rfl
/-- The sum of products, or the error. -/
def dot (a b : ByteArray) : UInt8 := if a.size = b.size then dotN a.data.toList b.data.toList a.size else 0
def derr (a b : ByteArray) : Int := if a.size = b.size then 0 else 1
theorem mul_still (a b : UInt8) (w : World) :
    Calls Tryd.prog 39 #[.int .u8 (a.toNat : Int), .int .u8 (b.toNat : Int)] w fun e w' => e = .returned (.int .u8 ((mul a b).toNat : Int)) ∧ w' = w :=
  (mul_any a b w).mono fun _ _ ⟨h, k⟩ => ⟨h, k.symm⟩
theorem rmul_still (a b : UInt8) (w : World) :
    Calls Tryd.prog 40 #[.int .u8 (a.toNat : Int), .int .u8 (b.toNat : Int)] w fun e w' => e = .returned (.int .u8 ((mul a b).toNat : Int)) ∧ w' = w :=
  (rmul_any a b w).mono fun _ _ ⟨h, k⟩ => ⟨h, k.symm⟩
set_option maxRecDepth 100000 in
set_option maxHeartbeats 400000 in
theorem rdot_any (a b : ByteArray) (ha : a.size ≤ maxLen) (w : World) :
    Calls Tryd.prog 36 #[.string a, .string b] w fun e w' => e = .returned (.tuple #[.int .u8 ((dot a b).toNat : Int), .int .i64 (derr a b)]) ∧ Below w.heap.size w w' := by
  unfold maxLen at ha
  by_cases hs : a.size = b.size
  · rw [show dot a b = dotN a.data.toList b.data.toList a.size from if_pos hs, show derr a b = 0 from if_pos hs]
    obtain ⟨n, hn⟩ : ∃ n, n = a.size := ⟨_, rfl⟩
    have hna : (a.size : Int) = n := by omega
    have hnb : (b.size : Int) = n := by omega
    rw [← hn]
    have HS := Lib.hid (And.intro hn (show n = b.size by omega))
    have hnl : n ≤ 9223372036854775807 := by omega
    clear hs hn ha
    go_enter Tryd.func36, Tryd.ntmps36
    go_wp2_with fail
    go_loopw [6, 7] (fun s i wr => ∃ (k : Nat), k ≤ n ∧ i = .int .i64 k ∧ s = .int .u8 ((dotN a.data.toList b.data.toList k).toNat : Int) ∧ Below w.heap.size w wr) (fun _ i _ => n - (intOf i).toNat)
    case atStart => exact ⟨0, by omega, rfl, rfl, Below.refl _ _⟩
    case round =>
      obtain ⟨k, hk, rfl, rfl, hbw⟩ := hrel
      have HB := Lib.hid hbw
      clear hbw
      by_cases hlt : k < n
      · have hka : k < a.size := by have := HS.out.1; omega
        have hkb : k < b.size := by have := HS.out.2; omega
        have hd := dotN_succ a.data.toList b.data.toList k
        rw [co_at a k hka, co_at b k hkb] at hd
        have e1 := u_xor (dotN a.data.toList b.data.toList k) (mul a[k] b[k])
        rw [← hd] at e1
        generalize dotN a.data.toList b.data.toList k = q at *
        have HD := Lib.hid hd
        clear hd
        go_wp2_with fail
        go_quiet ((go_at_call 40; exact Calls.quiet_of_same (rmul_still _ _ _)))
        go_wp2_with fail
        go_roundw
        case rel => exact ⟨k + 1, by omega, by go_num, rfl, gdrew HB.out _⟩
        case measure => simp [intOf]; omega
      · obtain rfl : k = n := by omega
        go_wp2_with fail
        go_ret2
        exact ⟨rfl, HB.out⟩
  · rw [show dot a b = 0 from if_neg hs, show derr a b = 1 from if_neg hs]
    have hne : ((a.size : Int) != (b.size : Int)) = true := by
      have : (a.size : Int) ≠ (b.size : Int) := by omega
      simpa using this
    go_enter Tryd.func36, Tryd.ntmps36
    go_wp2_with fail
    go_ret2
    exact ⟨rfl, Below.refl _ _⟩
end Go.Proofs.YtefpfedpgedloaaDoor
