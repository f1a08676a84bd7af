/- PROVED HERE: for every two numbers the law CrcSteps returns true (the register behind any bit is as the reference defines it; eight of them are a byte), and both read afterwards as they did. No condition. -/
import Derived.Test.YtnpdmkgefaobeaaZRef
import Derived.Test.YtnpdmkgefaobeaaRows
import Derived.ProofKit
import Derived.OpenShut
namespace Go.Proofs.Ytnpdmkgefaobeaa
open Go.RowKit

theorem step_par (q : BitVec 32) (m n : Int) (h : m % 2 = n % 2) : Zc.step q (BitVec.ofInt 32 m) = Zc.step q (BitVec.ofInt 32 n) := by
  unfold Zc.step
  congr 2
  rcases par_of m with ⟨h1, h2⟩ | ⟨h1, h2⟩ <;> rcases par_of n with ⟨h3, h4⟩ | ⟨h3, h4⟩
  · rw [h1, h3]
  · omega
  · omega
  · rw [h1, h3]
/-- The lowest byte of a number. -/
def lowB (b : Int) : UInt8 := UInt8.ofNat (b % 256).toNat
theorem lowB_nat (b : Int) : ((lowB b).toNat : Int) = b % 256 := by
  unfold lowB
  rw [UInt8.toNat_ofNat']
  omega
theorem bits_low (q : BitVec 32) (b : Int) (n : Nat) (hn : n < 8) : Zc.step (Zc.bits q (w8 (lowB b)) n) (BitVec.ofInt 32 (b / 2 ^ n)) = Zc.bits q (w8 (lowB b)) (n + 1) := by
  have e : (b / 2 ^ n) % 2 = (((lowB b).toNat / 2 ^ n : Nat) : Int) % 2 := by
    have h := lowB_nat b
    match n, hn with
    | 0, _ => simp; omega
    | 1, _ => simp; omega
    | 2, _ => simp; omega
    | 3, _ => simp; omega
    | 4, _ => simp; omega
    | 5, _ => simp; omega
    | 6, _ => simp; omega
    | 7, _ => simp; omega
  rw [step_par _ _ _ e, bit_step _ _ _ (lowB b).toNat_lt]
  rfl
theorem V_wrap (x : BitVec 32) : IntKind.u32.wrap (V x) = V x := by
  rw [IntKind.wrap_u32']; have := V_nonneg x; have := V_lt x; omega
theorem V_mod (x : BitVec 32) : V x % 4294967296 = V x := by have := V_nonneg x; have := V_lt x; omega
attribute [local go_sem] V_compl V_wrap V_mod
theorem conv_one (c : UInt8) (W : World) : (convert 29 9 (.slice (some ⟨W.heap.size, 0, none⟩) 1 1)).run Try.prog (W.alloc (.cells #[.int .u8 (c.toNat : Int)] 5)) = .ok (.string ⟨#[c]⟩) (W.alloc (.cells #[.int .u8 (c.toNat : Int)] 5)) := by
  have h := run_convert_bytes_arg (P := Try.prog) (W.alloc (.cells #[.int .u8 (c.toNat : Int)] 5)) 29 5 Try.underlying29 Try.underlying5 W.heap.size 0 1 1 [(c.toNat : Int)] rfl (fun j hj => by
    obtain rfl : j = 0 := by omega
    rw [cell_of_row _ _ _ _ _ _ (heap_alloc_new _ _)]; rfl) 9 Try.underlying9
  rw [h, show strOfNums [(c.toNat : Int)] = ⟨#[c]⟩ from by simp [strOfNums]]
theorem more_one (r : BitVec 32) (c : UInt8) (w : World) :
    Calls Try.prog 14 #[.int .u32 (V (~~~r)), .string ⟨#[c]⟩] w fun e w' => e = .returned (.int .u32 (V (~~~(Zc.byte r c)))) ∧ Below w.heap.size w w' := by
  have := more_any (~~~r) ⟨#[c]⟩ (show (1 : Nat) ≤ maxLen by decide) w
  rwa [show Zc.more (~~~r) (ByteArray.mk #[c]).data.toList = ~~~(Zc.byte r c) from by unfold Zc.more; rw [Zc.not_not]; rfl] at this
set_option maxRecDepth 100000 in
set_option maxHeartbeats 400000 in
theorem steps_law (r : BitVec 32) (b : Int) (_ : -9223372036854775808 ≤ b) (_ : b ≤ 9223372036854775807) (w : World) :
    Calls Try.prog 4 #[.int .u32 (V r), .int .i64 b] w fun e w' => e = .returned (.bool true) ∧ Below w.heap.size w w' := by
  go_enter Try.func4, Try.ntmps4
  go_wp2
  go_loop [5, 6, 7] (fun x y k => ∃ n : Nat, n ≤ 8 ∧ k = .int .i64 n ∧ x = .int .u32 (V (Zc.bits r (w8 (lowB b)) n)) ∧ y = .int .u32 (V (Zc.bits r (w8 (lowB b)) n))) (fun _ _ k => 8 - (intOf k).toNat)
  case atStart => exact ⟨0, by omega, rfl, rfl, rfl⟩
  case round =>
    obtain ⟨n, hn, rfl, rfl, rfl⟩ := hrel
    obtain ⟨q, hq⟩ : ∃ q, q = Zc.bits r (w8 (lowB b)) n := ⟨_, rfl⟩
    rw [← hq]
    by_cases hlt : n < 8
    · have hs := bits_low r b n hlt
      rw [← hq] at hs
      have HS := Lib.hid (And.intro hs hq)
      clear hs hq
      go_wp2_with fail
      refine (step_any q _ _).mono ?_
      rintro e w1 ⟨rfl, rfl⟩
      go_wp2_with fail
      refine (rstep_any q _ _).mono ?_
      rintro e w1 ⟨rfl, rfl⟩
      go_wp2_with fail
      go_round
      case rel => exact ⟨n + 1, by omega, by go_num, by rw [← HS.out.1], by rw [← HS.out.1]⟩
      case measure => simp [intOf]; omega
    · obtain rfl : n = 8 := by omega
      obtain ⟨c, hc⟩ : ∃ c, c = lowB b := ⟨_, rfl⟩
      have hcb : b % 256 = (c.toNat : Int) := by rw [hc, lowB_nat]
      have hf : V (Zc.byte r c) = V q := by rw [hq, ← hc, Zc.byte_bits]
      have hconv := conv_one c
      clear hq hc
      go_wp2_with fail
      refine (awake_any _).mono ?_
      rintro e w1 ⟨rfl, h1⟩
      go_wp2_with fail
      refine (step_any r b _).mono ?_
      rintro e w2 ⟨rfl, rfl⟩
      go_wp2_with fail
      refine (rstep_any r b _).mono ?_
      rintro e w2 ⟨rfl, rfl⟩
      go_wp2_with fail
      refine (more_one r c _).mono ?_
      rintro e w2 ⟨rfl, h2⟩
      go_wp2_with fail
      go_ret
      exact ⟨rfl, below_call (h1.alloc (by have := h1.size; omega) _) h2⟩
end Go.Proofs.Ytnpdmkgefaobeaa

namespace Go.Proofs.Ytnpdmkgefaobeaa.crcStepsLaw
open Go.ChangeShapes Go.WideShapes Go.ChangeAt Go.RowKit
open Go.ChangeMaps (open_string shut_string)

theorem own : ownKnob Try.prog.godebug = none := by kernel_rfl
set_option maxRecDepth 100000 in
theorem lifted (os : Os) (started : os.Started) (H : Type) (enc : TypeId × Value → H) :
    ReturnsInHanded {} Try.checked os 4 .any (Rows.crcStepsSpec.pre6 enc Try.prog Try.f4 Rows.crcStepsRow.domain false) (Rows.crcStepsSpec.post enc Try.prog Try.f4 false true false false) := by
  refine returnsInHanded_of_change (C := Try.checked) own started (by kernel_rfl) Try.func4
    (ChangeSpec.witness6 (enc := enc) (C := Try.checked) false ⟨#[], #[.int .u32 0, .int .i64 0], []⟩ 8 (by kernel_rfl) (by kernel_rfl) (by kernel_rfl) (by kernel_rfl)) ?_
  intro W base args ds gs before hval0 hW hcnd _
  have hval : ∀ (j : Nat) t v, Try.f4.params[j]? = some t → args[j]? = some v → Value.okWide Try.prog W .any base t v := hval0
  have hW' := hW
  obtain ⟨p, q, hA0, hV, rfl, hfz, hnd⟩ := hW
  have hA : DataW.TrodAll enc Try.prog W 0 (fun _ => true) true Try.f4.params.toList args.toList ds p := hA0
  rw [Try.params4] at hA hval
  obtain ⟨v0, vs0, d0, ds0, p0, q0, hargs, rfl, rfl, h0, r0⟩ := trodAll_cons hA
  obtain ⟨v1, vs1, d1, ds1, p1, q1, rfl, rfl, rfl, h1, r1⟩ := trodAll_cons r0
  obtain ⟨rfl, rfl, rfl⟩ := trodAll_nil r1
  obtain rfl : args = #[v0, v1] := by cases args; simp_all
  obtain ⟨rfl, rfl⟩ := trodVars_none hV
  obtain ⟨n0, rfl, rfl, rfl, ws0⟩ := open_int Try.underlying22 (hval 0 22 v0 rfl rfl) h0
  obtain ⟨x0, rfl⟩ := u32_of ws0
  obtain ⟨n1, rfl, rfl, rfl, ws1⟩ := open_int Try.underlying3 (hval 1 3 v1 rfl rfl) h1
  have hbd1 := ws1
  simp only [Lit.wf, Bool.and_eq_true, decide_eq_true_eq] at hbd1
  clear hA0 hval0
  simp only [List.append_nil] at hW'
  refine (steps_law x0 n1 hbd1.1 hbd1.2 W).mono fun e W' ⟨he, hb⟩ => ?_
  subst he
  exact ⟨_, rfl, _, _, _, [], [], [], hW', trodAll_cons_mk (shut_bool Try.underlying4 _) trodAll_mk0, (trodAll_cons_mk (shut_int Try.underlying22 ws0) (trodAll_cons_mk (shut_int Try.underlying3 ws1) trodAll_mk0)), rfl, hb.frame _, fun h => by cases h⟩
theorem over : Rows.crcStepsRow.holds Try.pinned (OpenSpec.ofChange Rows.crcStepsSpec) :=
  OpenClaim.holds_of_wide 4 Try.f4 rfl rfl rfl rfl rfl rfl rfl ⟨rfl, rfl, rfl, rfl, rfl⟩ rfl rfl rfl rfl rfl (by kernel_rfl) Try.func4 (by kernel_rfl)
    (of_decide_eq_true (by kernel_rfl)) (by unfold Func.isWrapper; first | (rw [if_pos (by decide +kernel)]; kernel_rfl) | (rw [if_neg (by decide +kernel)]; exact ⟨rfl, rfl⟩))
    (fun os started H enc _ => lifted os started H enc)
end Go.Proofs.Ytnpdmkgefaobeaa.crcStepsLaw

namespace Go.Proofs.Ytnpdmkgefaobeaa
theorem crcSteps_said : Rows.CrcStepsSaid := crcStepsLaw.over
end Go.Proofs.Ytnpdmkgefaobeaa
