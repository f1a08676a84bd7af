/- shape.byteAt, unlike, Equal, Zero, Mask; lockboxref06.Longer. -/
import Derived.Test.YtgighdiidblihaaProg
import Derived.Test.YtgighdiidblihaaHMath
import Derived.LoopTactic
import Derived.Lib.Hide
import Derived.Deep.DeepMust
import Derived.Deep.RegionWith
namespace Go.Proofs.Ytgighdiidblihaa
open Go.RowKit

theorem byte_xor8 (x y : UInt8) : bits .xor .u8 (x.toNat : Int) (y.toNat : Int) = ((x ^^^ y).toNat : Int) := by
  rw [u8_xor_nat _ _ x.toNat_lt y.toNat_lt, UInt8.toNat_xor]
theorem byte_or8 (x y : UInt8) : bits .or .u8 (x.toNat : Int) (y.toNat : Int) = ((x ||| y).toNat : Int) := by
  rw [u8_or_nat _ _ x.toNat_lt y.toNat_lt, UInt8.toNat_or]
theorem byte_and8 (x y : UInt8) : bits .and .u8 (x.toNat : Int) (y.toNat : Int) = ((x &&& y).toNat : Int) := by
  rw [u8_and_nat _ _ x.toNat_lt y.toNat_lt, UInt8.toNat_and]

set_option maxHeartbeats 400000 in
theorem byteAt_any (s : ByteArray) (_ : s.size ≤ maxLen) (i : Nat) (w : World) :
    Calls Try.prog 29 #[.string s, .int .i64 i] w fun e w' => e = .returned (.int .u8 ((at0 s.data.toList i).toNat : Int)) ∧ w = w' := by
  by_cases h : i < s.size
  · rw [at0_lt s i h]
    go_enter Try.func29, Try.ntmps29
    go_wp2
    go_ret
    exact ⟨rfl, rfl⟩
  · rw [at0_ge (by simpa using h)]
    go_enter Try.func29, Try.ntmps29
    go_wp2
    go_ret
    exact ⟨rfl, rfl⟩

/-- The greater of two numbers. -/
def maxI (x y : Int) : Int := if y > x then y else x
theorem run_max_I {P : Program} {w : World} (ts : Array TypeId) (t : TypeId) (k k' : IntKind) (x y : Int) : (Builtin.max_ ts t #[.int k x, .int k' y]).run P w = .ok (.int k (maxI x y)) w := run_max_int2 w ts t k k' x y
theorem max_size (a b : ByteArray) : maxI (a.size : Int) b.size = (longer a b : Nat) := by
  unfold longer maxI; split <;> split <;> omega
attribute [local go_sem high] run_max_I

set_option maxRecDepth 100000 in
set_option maxHeartbeats 400000 in
theorem unlike_any (a b : ByteArray) (ha : a.size ≤ maxLen) (hb : b.size ≤ maxLen) (w : World) :
    Calls Try.prog 28 #[.string a, .string b] w fun e w' => e = .returned (.tuple #[.int .u8 ((unl a.data.toList b.data.toList (longer a b)).toNat : Int), .int .i64 (longer a b)]) ∧ w = w' := by
  obtain ⟨n, hn⟩ : ∃ n, n = longer a b := ⟨_, rfl⟩
  have hm := max_size a b
  have hn2 : n ≤ maxLen := by rw [hn]; exact longer_le ha hb
  rw [← hn] at hm ⊢
  clear hn
  unfold maxLen at hn2
  go_enter Try.func28, Try.ntmps28
  go_wp2_with fail
  go_loop [4, 6, 13] (fun x _ i => ∃ k : Nat, k ≤ n ∧ i = .int .i64 k ∧ x = .int .u8 ((unl a.data.toList b.data.toList k).toNat : Int)) (fun _ _ i => n - (intOf i).toNat)
  case atStart => exact ⟨0, Nat.zero_le _, rfl, rfl⟩
  case round =>
    obtain ⟨k, hk, rfl, rfl⟩ := hrel
    obtain ⟨q, hq⟩ : ∃ q, q = unl a.data.toList b.data.toList k := ⟨_, rfl⟩
    rw [← hq]
    by_cases hlt : k < n
    · have c1 := byteAt_any a ha k
      have c2 := byteAt_any b hb k
      have hs : unl a.data.toList b.data.toList (k + 1) = q ||| (at0 a.data.toList k ^^^ at0 b.data.toList k) := by rw [unl, hq]
      generalize at0 a.data.toList k = x at *
      generalize at0 b.data.toList k = y at *
      obtain ⟨z, hz⟩ : ∃ z, z = x ^^^ y := ⟨_, rfl⟩
      obtain ⟨v, hv⟩ : ∃ v, v = q ||| z := ⟨_, rfl⟩
      have hxy : bits .xor .u8 (x.toNat : Int) (y.toNat : Int) = (z.toNat : Int) := by rw [byte_xor8, hz]
      have hqz : bits .or .u8 (q.toNat : Int) (z.toNat : Int) = (v.toNat : Int) := by rw [byte_or8, hv]
      rw [← hz, ← hv] at hs
      have HS := Lib.hid (And.intro hs (And.intro c1 c2))
      clear hs hq hz hv c1 c2
      go_wp2_with fail
      refine (HS.out.2.1 _).mono ?_
      rintro e w' ⟨rfl, rfl⟩
      go_wp2_with fail
      refine (HS.out.2.2 _).mono ?_
      rintro e w' ⟨rfl, rfl⟩
      go_wp2_with fail
      go_round
      case rel => exact ⟨k + 1, by omega, by go_num, by rw [HS.out.1]⟩
      case measure => simp [intOf]; omega
    · obtain rfl : k = n := by omega
      have HQ := Lib.hid hq
      clear hq
      go_wp2
      go_ret2
      exact ⟨by rw [HQ.out]; rfl, rfl⟩

theorem equal_bool (a b : ByteArray) (c : UInt8) (hc : c = unl a.data.toList b.data.toList (longer a b)) :
    (if (c.toNat : Int) = 0 then decide ((a.size : Int) = b.size) else false) = decide (a = b) := by
  have h := unl_same a b
  rw [← hc] at h
  by_cases h0 : c = 0
  · rw [if_pos (by rw [h0]; rfl)]
    by_cases h1 : a.size = b.size
    · rw [decide_eq_true (h.1 ⟨h0, h1⟩), decide_eq_true (by omega)]
    · rw [decide_eq_false (by omega), decide_eq_false fun e => h1 (h.2 e).2]
  · rw [if_neg (fun e => h0 (UInt8.toNat_inj.1 (by simpa using e))), decide_eq_false fun e => h0 (h.2 e).1]

set_option maxRecDepth 100000 in
set_option maxHeartbeats 400000 in
theorem equal_any (a b : ByteArray) (ha : a.size ≤ maxLen) (hb : b.size ≤ maxLen) (w : World) :
    Calls Try.prog 13 #[.string a, .string b] w fun e w' => e = .returned (.tuple #[.bool (decide (a = b)), .int .i64 (longer a b)]) ∧ w = w' := by
  have c1 := unlike_any a b ha hb
  have hs := equal_bool a b _ rfl
  generalize longer a b = n at *
  generalize unl a.data.toList b.data.toList n = c at *
  have HS := Lib.hid c1
  clear c1
  by_cases h0 : (c.toNat : Int) = 0
  · rw [if_pos h0] at hs
    generalize decide (a = b) = r at *
    have hb : ((a.size : Int) == (b.size : Int)) = r := by rw [← hs]; rfl
    clear hs
    go_enter Try.func13, Try.ntmps13
    go_wp2_with fail
    refine (HS.out _).mono ?_
    rintro e w' ⟨rfl, rfl⟩
    go_wp2_with fail
    go_ret2
    exact ⟨rfl, rfl⟩
  · rw [if_neg h0] at hs
    rw [← hs]
    clear hs
    have hb : ((c.toNat : Int) == 0) = false := by simpa using h0
    go_enter Try.func13, Try.ntmps13
    go_wp2_with fail
    refine (HS.out _).mono ?_
    rintro e w' ⟨rfl, rfl⟩
    go_wp2_with fail
    go_ret2
    exact ⟨rfl, rfl⟩

noncomputable def zeroB (s : ByteArray) : Bool := @decide (allZero s) (Classical.propDecidable _)
theorem zeroB_of (s : ByteArray) (c : UInt8) (hc : c = unl s.data.toList (ByteArray.mk #[]).data.toList (longer s (ByteArray.mk #[]))) : ((c.toNat : Int) == 0) = zeroB s := by
  have h := unl_nil s
  rw [← hc] at h
  unfold zeroB
  by_cases h0 : c = 0
  · rw [@decide_eq_true _ (Classical.propDecidable _) (h.1 h0), h0]; rfl
  · rw [@decide_eq_false _ (Classical.propDecidable _) fun e => h0 (h.2 e)]
    have : ¬ (c.toNat : Int) = 0 := fun e => h0 (UInt8.toNat_inj.1 (by simpa using e))
    simpa using this
set_option maxRecDepth 100000 in
set_option maxHeartbeats 400000 in
theorem zero_any (s : ByteArray) (hs : s.size ≤ maxLen) (w : World) :
    Calls Try.prog 15 #[.string s] w fun e w' => e = .returned (.tuple #[.bool (zeroB s), .int .i64 s.size]) ∧ w = w' := by
  have c1 := unlike_any s (ByteArray.mk #[]) hs (by decide)
  have hz := zeroB_of s _ rfl
  have hl : longer s (ByteArray.mk #[]) = s.size := by
    unfold longer
    rw [show (ByteArray.mk #[]).size = 0 from rfl]; split <;> omega
  rw [hl] at c1 hz
  generalize unl s.data.toList (ByteArray.mk #[]).data.toList s.size = c at *
  have HS := Lib.hid c1
  clear c1 hl
  go_enter Try.func15, Try.ntmps15
  go_wp2_with fail
  refine (HS.out _).mono ?_
  rintro e w' ⟨rfl, rfl⟩
  go_wp2_with fail
  go_ret2
  exact ⟨rfl, rfl⟩

/-- All bits, or none. -/
def maskU (b : Bool) : UInt8 := if b then 255 else 0
theorem mask_any (b : Bool) (w : World) :
    Calls Try.prog 27 #[.bool b] w fun e w' => e = .returned (.int .u8 ((maskU b).toNat : Int)) ∧ w = w' := by
  cases b with
  | true =>
    go_enter Try.func27, Try.ntmps27
    go_wp2
    go_ret
    exact ⟨rfl, rfl⟩
  | false =>
    go_enter Try.func27, Try.ntmps27
    go_wp2
    go_ret
    exact ⟨rfl, rfl⟩

theorem rlonger_any (a b : ByteArray) (w : World) :
    Calls Try.prog 16 #[.string a, .string b] w fun e w' => e = .returned (.int .i64 (longer a b)) ∧ w = w' := by
  unfold longer
  by_cases h : b.size < a.size
  · rw [if_pos h]
    go_enter Try.func16, Try.ntmps16
    go_wp2
    go_ret
    exact ⟨rfl, rfl⟩
  · rw [if_neg h]
    go_enter Try.func16, Try.ntmps16
    go_wp2
    go_ret
    exact ⟨rfl, rfl⟩
end Go.Proofs.Ytgighdiidblihaa
