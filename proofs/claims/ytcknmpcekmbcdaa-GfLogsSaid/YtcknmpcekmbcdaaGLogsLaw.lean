/- PROVED HERE: for every byte and every number the law GfLogs returns true (any power of the generator, the log of any byte, or the error; they undo each other). No condition. -/
import Derived.Test.YtcknmpcekmbcdaaGAwake
import Derived.Test.YtcknmpcekmbcdaaRows
import Derived.ProofKit
import Derived.OpenShut
namespace Go.Proofs.Ytcknmpcekmbcdaa
open Go.RowKit
open Gf

theorem gtrans {w X Y : World} (h : Below w.heap.size w X) (k : Below X.heap.size X Y) : Below w.heap.size w Y := h.trans (k.mono h.size)
set_option maxRecDepth 100000 in
set_option maxHeartbeats 2000000 in
theorem logs_law {w : World} (a : UInt8) (n : Int) (hlo : -9223372036854775808 ≤ n) (hhi : n ≤ 9223372036854775807) :
    Calls Try.prog 5 #[.int .u8 (a.toNat : Int), .int .i64 n] w fun e w' => e = .returned (.bool true) ∧ Below w.heap.size w w' := by
  obtain ⟨m, hm⟩ : ∃ m, m = (n % 255).toNat := ⟨_, rfl⟩
  have hml : m < 255 := by omega
  obtain ⟨X, hX⟩ : ∃ X, X = pow 3 m := ⟨_, rfl⟩
  have hX0 : X ≠ 0 := hX ▸ pow3_ne m
  have heq := u_ne hX0
  have x1 : ∀ w, Calls Try.prog 20 #[.int .i64 n] w fun e w' => e = .returned (.int .u8 (X.toNat : Int)) ∧ w = w' := fun w => by rw [hX, hm]; exact exp_any n hlo hhi w
  have x2 : ∀ w, Calls Try.prog 21 #[.int .i64 n] w fun e w' => e = .returned (.int .u8 (X.toNat : Int)) ∧ w = w' := fun w => by rw [hX, hm]; exact rexp_any n w
  have x3 : ∀ w, Calls Try.prog 18 #[.int .u8 (X.toNat : Int)] w fun e w' => e = .returned (.tuple #[.int .i64 (m : Int), .int .i64 0]) ∧ Below w.heap.size w w' := fun w => by
    have h := log_any X w
    rw [show logz X = m by unfold logz; rw [if_neg hX0, hX, logN_pow hml], show ierr X = 0 from if_neg hX0] at h
    exact h
  obtain ⟨t, ht⟩ : ∃ t, t = n.tmod 255 := ⟨_, rfl⟩
  have ht1 : n.tmod 255 = t := ht.symm
  have htl : -255 < t := by rw [ht, Int.tmod_eq_emod]; split <;> omega
  have hth : t < 255 := by rw [ht, Int.tmod_eq_emod]; split <;> omega
  have hm1 : (t + 255) % 255 = (m : Int) := by rw [hm, ht, Int.tmod_eq_emod]; split <;> omega
  obtain ⟨s, hs⟩ : ∃ s, t + 255 = s := ⟨_, rfl⟩
  rw [hs] at hm1
  have hs0 : 0 ≤ s := by omega
  have HX := Lib.hid (And.intro x1 (And.intro x2 x3))
  clear x1 x2 x3 hX hX0 hm ht
  by_cases ha : a = 0
  · subst ha
    have y1 := log_any 0
    have y2 := rlog_any 0
    rw [show logz 0 = 0 from rfl, show ierr 0 = 1 from rfl] at y1 y2
    have HY := Lib.hid (And.intro y1 y2)
    clear y1 y2
    go_enter Try.func5, Try.ntmps5
    go_wp2_with fail
    refine (HY.out.1 _).mono ?_
    rintro e w1 ⟨rfl, hb1⟩
    have HB1 := Lib.hid hb1
    clear hb1
    go_wp2_with fail
    refine (HY.out.2 _).mono ?_
    rintro e w2 ⟨rfl, rfl⟩
    go_wp2_with fail
    refine (HX.out.1 _).mono ?_
    rintro e w2 ⟨rfl, rfl⟩
    go_wp2_with fail
    refine (HX.out.2.1 _).mono ?_
    rintro e w2 ⟨rfl, rfl⟩
    go_wp2_with fail
    refine (HX.out.1 _).mono ?_
    rintro e w2 ⟨rfl, rfl⟩
    go_wp2_with fail
    refine (HX.out.1 _).mono ?_
    rintro e w2 ⟨rfl, rfl⟩
    go_wp2_with fail
    refine (HX.out.2.2 _).mono ?_
    rintro e w2 ⟨rfl, hb2⟩
    have HB2 := Lib.hid (gtrans HB1.out hb2)
    clear hb2
    go_wp2_with fail
    refine (awake_any _).mono ?_
    rintro e w3 ⟨rfl, hb3⟩
    have HB3 := Lib.hid (gtrans HB2.out hb3)
    clear hb3
    go_wp2_with fail
    go_ret
    exact ⟨rfl, HB3.out⟩
  · obtain ⟨K, hK⟩ : ∃ K, K = logN a := ⟨_, rfl⟩
    have hKl : K < 255 := hK ▸ logN_lt ha
    have y1 := log_any a
    have y2 := rlog_any a
    rw [show logz a = K by rw [hK]; exact if_neg ha, show ierr a = 0 from if_neg ha] at y1 y2
    have y3 : ∀ w, Calls Try.prog 20 #[.int .i64 (K : Int)] w fun e w' => e = .returned (.int .u8 (a.toNat : Int)) ∧ w = w' := fun w => by
      have h := exp_any (K : Int) (by omega) (by omega) w
      rw [show ((K : Int) % 255).toNat = K by omega, hK, pow_logN ha, ← hK] at h
      exact h
    have HY := Lib.hid (And.intro y1 (And.intro y2 y3))
    clear y1 y2 y3 hK ha
    go_enter Try.func5, Try.ntmps5
    go_wp2_with fail
    refine (HY.out.1 _).mono ?_
    rintro e w1 ⟨rfl, hb1⟩
    have HB1 := Lib.hid hb1
    clear hb1
    go_wp2_with fail
    refine (HY.out.2.1 _).mono ?_
    rintro e w2 ⟨rfl, rfl⟩
    go_wp2_with fail
    refine (HX.out.1 _).mono ?_
    rintro e w2 ⟨rfl, rfl⟩
    go_wp2_with fail
    refine (HX.out.2.1 _).mono ?_
    rintro e w2 ⟨rfl, rfl⟩
    go_wp2_with fail
    refine (HX.out.1 _).mono ?_
    rintro e w2 ⟨rfl, rfl⟩
    go_wp2_with fail
    refine (HX.out.1 _).mono ?_
    rintro e w2 ⟨rfl, rfl⟩
    go_wp2_with fail
    refine (HX.out.2.2 _).mono ?_
    rintro e w2 ⟨rfl, hb2⟩
    have HB2 := Lib.hid (gtrans HB1.out hb2)
    clear hb2
    go_wp2_with fail
    refine (awake_any _).mono ?_
    rintro e w3 ⟨rfl, hb3⟩
    have HB3 := Lib.hid (gtrans HB2.out hb3)
    clear hb3
    go_wp2_with fail
    refine (HY.out.2.2 _).mono ?_
    rintro e w2 ⟨rfl, rfl⟩
    go_wp2_with fail
    go_ret
    exact ⟨rfl, HB3.out⟩
end Go.Proofs.Ytcknmpcekmbcdaa

namespace Go.Proofs.Ytcknmpcekmbcdaa.gfLogsLaw
open Go.ChangeShapes Go.WideShapes Go.ChangeAt Go.RowKit
open Go.ChangeMaps (open_string shut_string)

theorem own : ownKnob Try.prog.godebug = none := by kernel_rfl
set_option maxRecDepth 100000 in
theorem lifted (os : Os) (started : os.Started) (H : Type) (enc : TypeId × Value → H) :
    ReturnsInHanded {} Try.checked os 5 .any (Rows.gfLogsSpec.pre6 enc Try.prog Try.f5 Rows.gfLogsRow.domain false) (Rows.gfLogsSpec.post enc Try.prog Try.f5 false true false false) := by
  refine returnsInHanded_of_change (C := Try.checked) own started (by kernel_rfl) Try.func5
    (ChangeSpec.witness6 (enc := enc) (C := Try.checked) false ⟨#[], #[.int .u8 0, .int .i64 0], []⟩ 8 (by kernel_rfl) (by kernel_rfl) (by kernel_rfl) (by kernel_rfl)) ?_
  intro W base args ds gs before hval0 hW hcnd _
  have hval : ∀ (j : Nat) t v, Try.f5.params[j]? = some t → args[j]? = some v → Value.okWide Try.prog W .any base t v := hval0
  have hW' := hW
  obtain ⟨p, q, hA0, hV, rfl, hfz, hnd⟩ := hW
  have hA : DataW.TrodAll enc Try.prog W 0 (fun _ => true) true Try.f5.params.toList args.toList ds p := hA0
  rw [Try.params5] at hA hval
  obtain ⟨v0, vs0, d0, ds0, p0, q0, hargs, rfl, rfl, h0, r0⟩ := trodAll_cons hA
  obtain ⟨v1, vs1, d1, ds1, p1, q1, rfl, rfl, rfl, h1, r1⟩ := trodAll_cons r0
  obtain ⟨rfl, rfl, rfl⟩ := trodAll_nil r1
  obtain rfl : args = #[v0, v1] := by cases args; simp_all
  obtain ⟨rfl, rfl⟩ := trodVars_none hV
  obtain ⟨n0, rfl, rfl, rfl, ws0⟩ := open_int Try.underlying5 (hval 0 5 v0 rfl rfl) h0
  obtain ⟨x0, rfl⟩ := u8_of ws0
  obtain ⟨n1, rfl, rfl, rfl, ws1⟩ := open_int Try.underlying3 (hval 1 3 v1 rfl rfl) h1
  have hbd1 := ws1
  simp only [Lit.wf, Bool.and_eq_true, decide_eq_true_eq] at hbd1
  clear hA0 hval0
  simp only [List.append_nil] at hW'
  refine (logs_law x0 n1 hbd1.1 hbd1.2 (w := W)).mono fun e W' ⟨he, hb⟩ => ?_
  subst he
  exact ⟨_, rfl, _, _, _, [], [], [], hW', trodAll_cons_mk (shut_bool Try.underlying4 _) trodAll_mk0, (trodAll_cons_mk (shut_int Try.underlying5 ws0) (trodAll_cons_mk (shut_int Try.underlying3 ws1) trodAll_mk0)), rfl, hb.frame _, fun h => by cases h⟩
theorem over : Rows.gfLogsRow.holds Try.pinned (OpenSpec.ofChange Rows.gfLogsSpec) :=
  OpenClaim.holds_of_wide 5 Try.f5 rfl rfl rfl rfl rfl rfl rfl ⟨rfl, rfl, rfl, rfl, rfl⟩ rfl rfl rfl rfl rfl (by kernel_rfl) Try.func5 (by kernel_rfl)
    (of_decide_eq_true (by kernel_rfl)) (by unfold Func.isWrapper; first | (rw [if_pos (by decide +kernel)]; kernel_rfl) | (rw [if_neg (by decide +kernel)]; exact ⟨rfl, rfl⟩))
    (fun os started H enc _ => lifted os started H enc)
end Go.Proofs.Ytcknmpcekmbcdaa.gfLogsLaw

namespace Go.Proofs.Ytcknmpcekmbcdaa
theorem gfLogs_said : Rows.GfLogsSaid := gfLogsLaw.over
end Go.Proofs.Ytcknmpcekmbcdaa
